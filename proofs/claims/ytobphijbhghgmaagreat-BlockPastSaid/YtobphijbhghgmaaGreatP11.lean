/-
  Contract of the program's topics: do.
-/
import Derived.Test.YtobphijbhghgmaaGreatP10
import Derived.Test.YtobphijbhghgmaaGreatP08
import Derived.Test.YtobphijbhghgmaaGreatP09
import Derived.Test.YtobphijbhghgmaaGreatP05
import Derived.Deep.QuietTactic
import Derived.BigQuiet
namespace Go.Proofs.YtobphijbhghgmaaGreat.Ai
set_option linter.unusedSimpArgs false
open Go Go.RowKit Ck Kw Ga Kf Km Kd Pm Pz Pe Pg Py Qb Qg Tm Tn Tq Aa Ab Ac Ad Ae Af Ag Ah
attribute [local go_sem ↓] Go.wp_at_zero Go.wp_at_succ
set_option linter.unusedVariables false

theorem small_of {o : O} (h : check o = 0) : o.topic.length ≤ 64 ∧ o.group.length ≤ 64 ∧ o.recs.length ≤ 4 ∧ (∀ x ∈ o.recs, x.length ≤ 64) ∧ (hasR o.kind = false → o.recs = []) := by
  obtain ⟨h1, h2, h3, h4⟩ := check_lens h
  obtain ⟨_, hm, _, _, _⟩ := check_ok h
  simp only [more, Bool.or_eq_false_iff, Bool.and_eq_false_iff, Bool.not_eq_false'] at hm
  obtain ⟨⟨⟨m1, m2⟩, _⟩, m4⟩ := hm
  refine ⟨?_, ?_, ?_, ?_, ?_⟩
  · rcases m1 with m | m
    · exact h1 (by simpa using m)
    · have e : o.topic = [] := List.isEmpty_iff.1 (by simpa using m)
      simp [e]
  · rcases m2 with m | m
    · exact h2 (by simpa using m)
    · have e : o.group = [] := List.isEmpty_iff.1 (by simpa using m)
      simp [e]
  · rcases m4 with m | m
    · exact (h4 (by simpa using m)).2.1
    · have e : o.recs = [] := List.isEmpty_iff.1 (by simpa using m)
      simp [e]
  · rcases m4 with m | m
    · exact (h4 (by simpa using m)).2.2.1
    · have e : o.recs = [] := List.isEmpty_iff.1 (by simpa using m)
      simp [e]
  · intro hR
    rcases m4 with m | m
    · rw [hR] at m; cases m
    · exact List.isEmpty_iff.1 (by simpa using m)
theorem far_of {o : O} (h : check o = 0) : far o 140737488351232 := by
  obtain ⟨h1, h2, h3, h4, _⟩ := small_of h
  exact ⟨by omega, by omega, by omega, fun l hl => by have := h4 l hl; omega⟩
/-- What an error leaves. -/
theorem does_err {L : List Tp} (hL : GoodL L) {o : O} (h : (doesS L o).1.1 ≠ 0) : (doesS L o).1.2 = 0 ∧ (doesS L o).2.1 = [] := by
  refine ⟨?_, ?_⟩
  · rcases (doesS_good hL o).2.2.2.2.2.2 with h' | h'
    · exact absurd h' h
    · exact h'
  · revert h
    unfold doesS
    repeat' split
    all_goals first
      | (intro h; rfl)
      | (intro h; exact absurd rfl h)
theorem does_placed {L : List Tp} {o : O} (hc : check o = 0) (h : (doesS L o).1.1 = 0) : (doesS L o).2.1 = placed o.topic (doesS L o).1.2 o.recs := by
  have hr := (small_of hc).2.2.2.2
  have e0 : o.kind ≠ 2 → o.recs = [] := fun hk => hr (by simp only [hasR, beq_eq_false_iff_ne]; exact hk)
  revert h
  unfold doesS
  split
  · rename_i h0; exact absurd hc h0
  · split
    · rename_i hk; intro _; rw [e0 (by omega)]; rfl
    · split
      · rename_i hk
        rw [e0 (by omega)]
        repeat' split
        all_goals (intro _; rfl)
      · split
        · intro h; exact absurd h (by simp)
        · split
          · split
            · intro h; exact absurd h (by simp)
            · intro _; rfl
          · rename_i hk2
            rw [e0 hk2]
            repeat' split
            all_goals (intro _; rfl)
/-- Topics s' behind a request. -/
def Applied (S R : Nat → Prop) (p : Nat) (s' : St) (B : Nat) (w w' : World) : Prop :=
  ∃ S' R', Tz w' S' R' p s' ∧ (∀ k, S' k → Up S w w' k ∧ k < B) ∧ (∀ k, R' k → Up R w w' k ∧ k < B) ∧ Ch S w w'
theorem Tz.bound {w : World} {S R : Nat → Prop} {p : Nat} {s : St} (h : Tz w S R p s) : Tz w (fun k => S k ∧ k < w.heap.size) R p s := by
  obtain ⟨m, D, G, V, M, F, h⟩ := h
  exact ⟨m, D, G, V, M, F, h.blk, ⟨h.sp, h.blk.lt⟩, h.own, h.tells, ⟨⟨h.sm.1, h.own.lt⟩, h.sm.2⟩, h.top, fun t ht k hk => ⟨⟨(h.sub t ht k hk).1, (h.sub t ht k hk).2.2.2⟩, (h.sub t ht k hk).2⟩, h.apart, fun k hk => ⟨fun hs => (h.rs k hk).1 hs.1, (h.rs k hk).2⟩, h.good⟩
theorem Tz.moreR {w : World} {S R R' : Nat → Prop} {p : Nat} {s : St} (h : Tz w S R p s) (hr : ∀ k, R k → R' k) (hs : ∀ k, R' k → ¬ S k ∧ k < w.heap.size) : Tz w S R' p s := by
  obtain ⟨m, D, G, V, M, F, h⟩ := h
  exact ⟨m, D, G, V, M, F, h.blk, h.sp, h.own, h.tells, h.sm, fun t ht => (h.top t ht).more hr (fun _ h => h), h.sub, h.apart, hs, h.good⟩
theorem applied_refl {w w' : World} {S R : Nat → Prop} {p : Nat} {s : St} (h : Tz w S R p s) (b : Below w.heap.size w w') : Applied S R p s w.heap.size w w' :=
  ⟨_, R, (Tz.bound h).later b, fun _ h => ⟨.inl h.1, h.2⟩, fun k hk => ⟨.inl hk, (Tz.rlt h k hk).2⟩, Ch.of_below b (Nat.le_refl _)⟩
/-- What do leaves. -/
def Done (S R : Nat → Prop) (p : Nat) (s : St) (o : O) (w : World) (e : Ending) (w' : World) : Prop :=
  ∃ v B, e = .returned (.tuple #[.agg #[.int .i64 (doesS s.L o).1.1, .int .i64 (doesS s.L o).1.2], v]) ∧ w.heap.size ≤ B ∧ Ps w' B v (doesS s.L o).2.1 ∧ Applied S R p ⟨(doesS s.L o).2.2, s.last⟩ B w w'
/-- do's own blocks: the operation, and the result. -/
structure DK (w : World) (o : O) (A : Option Addr) (c : Nat) (W : World) : Prop where
  below : Below w.heap.size w W
  op : OB W w.heap.size o A c
  res : Blk W (w.heap.size + 1) 69 #[.int .i64 0, .int .i64 0]
theorem DK.later {w W W' : World} {o : O} {A : Option Addr} {c : Nat} (h : DK w o A c W) (b : Below W.heap.size W W') : DK w o A c W' := ⟨h.below.trans (b.mono h.below.size), Blk.below h.op b (Blk.lt h.op), h.res.below b h.res.lt⟩
theorem DK.ch {w W W' : World} {o : O} {A : Option Addr} {c : Nat} {S : Nat → Prop} (h : DK w o A c W) (k : Ch S W W') (hs : ∀ k, S k → k < w.heap.size) : Blk W' w.heap.size 98 (OC o A c) ∧ Blk W' (w.heap.size + 1) 69 #[.int .i64 0, .int .i64 0] :=
  ⟨Blk.ch h.op k (fun e => by have := hs _ e; omega), h.res.ch k (fun e => by have := hs _ e; omega)⟩
theorem dk_new (w : World) (o : O) (A : Option Addr) (c : Nat) : DK w o A c ((w.alloc (.cells (OC o A c) 98)).alloc (.cells #[.int .i64 0, .int .i64 0] 69)) := by
  have hz : (w.alloc (.cells (OC o A c) 98)).heap.size = w.heap.size + 1 := by simp
  exact ⟨(op_below w _).trans ((op_below _ _).mono (by omega)), Blk.below (op_new w o A c) (op_below _ _) (by omega), by rw [← hz]; exact Blk.new _ _ _⟩
theorem size_res : (Tryz.prog.info? 69).map (·.size) = some 2 := by kernel_rfl
theorem blk2 {W : World} {g : Nat} {t : TypeId} {x y : Value} (h : Blk W g t #[x, y]) (u v : Value) : Blk ((W.setCell ⟨g, 0, none⟩ u).setCell ⟨g, 1, none⟩ v) g t #[u, v] := (h.set_ 0 u).set_ 1 v
theorem below2 {B : Nat} {w W : World} {g : Nat} (h : Below B w W) (hg : B ≤ g) (u v : Value) : Below B w ((W.setCell ⟨g, 0, none⟩ u).setCell ⟨g, 1, none⟩ v) := (h.setCell hg _).setCell hg _
set_option maxRecDepth 100000 in
set_option maxHeartbeats 1000000 in
theorem do_bad (w : World) (S R : Nat → Prop) (p : Nat) (s : St) (o : O) (X : Nat → Prop) (A : Option Addr) (c : Nat) (hc : check o ≠ 0) (h : Tz w S R p s) (hls : Ls w X (.slice A o.recs.length c) o.recs) (hl : o.recs.length ≤ 140737488355328) :
    Calls Tryz.prog 92 #[.pointer (some ⟨p, 0, none⟩), OV o A c] w (Done S R p s o w) := by
  have hdk := dk_new w o A c
  have HDK := Lib.hid hdk
  have HZ := Lib.hid h
  obtain ⟨a0, a1, a2, a3, a4⟩ := hdk.op.cells
  have HC := Lib.hid (check_any o _ X _ ⟨A, c, rfl, (hls.after (op_below w (.cells (OC o A c) 98))).after (op_below _ (.cells #[.int .i64 0, .int .i64 0] 69))⟩ hl)
  have HD : Hid (doesS s.L o = ((check o, 0), [], s.L)) := Lib.hid (by rw [doesS, if_pos hc])
  have hcb : (check o == 0) = false := beq_eq_false_iff_ne.2 hc
  clear hdk h hls hl hc
  unfold Done
  rw [HD.out]
  unfold OV at HC ⊢
  unfold OC at HDK HC a0 a1 a2 a3 a4
  generalize check o = k at *
  go_enter Tryz.func92, Tryz.ntmps92
  go_wp2_with fail
  refine HC.out.mono ?_
  rintro e w1 ⟨rfl, hb1⟩
  have HDK1 := Lib.hid (HDK.out.later hb1)
  have r0 := HDK1.out.res.cell 0
  have r1 := HDK1.out.res.cell 1
  have fr0 := HDK1.out.res.frozen 0
  have fr1 := HDK1.out.res.frozen 1
  simp only [List.getElem?_toArray, List.getElem?_cons_zero, List.getElem?_cons_succ] at r0 r1
  clear hb1
  go_wp2_with fail
  refine bodyPost_ret (results_row_tmp rfl _ _ (w.heap.size + 1) 69 #[.int .i64 k, .int .i64 0] (0, 0) _ rfl (blk2 HDK1.out.res _ _) Tryz.underlying69 rfl size_res) rfl ?_
  exact ⟨_, _, rfl, Nat.le_refl _, Ps.nil _ _, applied_refl HZ.out (below2 HDK1.out.below (by omega) _ _)⟩

theorem ins_ch {w0 W W' : World} {R S : Nat → Prop} {A : Option Addr} {c : Nat} {recs : List Tx} {vals : List Value} (h : CL w0 (.slice A recs.length c) recs vals recs.length W) (k : Ch S W W') (hs : ∀ k, S k → k < w0.heap.size) : Ins W' (fun k => R k ∨ (w0.heap.size ≤ k ∧ k < W.heap.size)) A c recs :=
  ⟨vals, Sl.of_own (own_ch h.row k (fun g hg e => by have := (h.row.lt g hg).1; have := hs _ e; omega)) (fun _ _ _ h => h), fun i hi => by
    obtain ⟨u, hu, ho⟩ := h.mine i hi hi
    exact ⟨u, hu, Sl.of_own' (own_ch ho k (fun g hg e => by have := (ho.lt g hg).1; have := hs _ e; omega)) (fun q h1 h2 => h2 (.inr (ho.lt q h1)))⟩⟩
theorem applied_fin {w w1 w2 w3 w4 w5 : World} {S R : Nat → Prop} {p : Nat} {s' : St} (s1 : w.heap.size ≤ w1.heap.size) (s2 : w1.heap.size ≤ w2.heap.size) (s3 : w2.heap.size ≤ w3.heap.size) (b : Below w.heap.size w w3)
    (hR : ∀ k, R k → k < w.heap.size) (hd : Did (fun k => S k ∧ k < w.heap.size) (fun k => R k ∨ (w1.heap.size ≤ k ∧ k < w2.heap.size)) p s' w3 w4) (c : Ch (fun k => w.heap.size ≤ k ∧ k < w1.heap.size) w4 w5) : Applied S R p s' w4.heap.size w w5 := by
  have s4 := hd.2.size
  have s5 := c.size
  refine ⟨_, _, hd.1.ch c (fun k hk h => ?_) (fun k hk h => ?_), fun k hk => ?_, fun k hk => ?_, ?_⟩
  · rcases hk with hk | ⟨h1, h2⟩
    · have := hk.2; omega
    · omega
  · rcases hk with hk | ⟨h1, h2⟩
    · have := hR k hk; omega
    · omega
  · rcases hk with hk | ⟨h1, h2⟩
    · exact ⟨.inl hk.1, by have := hk.2; have := b.size; omega⟩
    · exact ⟨.inr ⟨by omega, by omega⟩, h2⟩
  · rcases hk with hk | ⟨h1, h2⟩
    · exact ⟨.inl hk, by have := hR k hk; have := b.size; omega⟩
    · exact ⟨.inr ⟨by omega, by omega⟩, by omega⟩
  · have c3 : Ch S w w4 := (Ch.of_below (S := S) b (Nat.le_refl _)).trans (hd.2.mono (T := S) (fun k _ hk => hk.1)) (fun _ _ h => h)
    exact c3.trans c (fun k h1 h2 => by omega)
theorem done_of {w w' : World} {S R : Nat → Prop} {p : Nat} {s : St} {o : O} {k off : Int} {v : Value} {pl : List (Tx × Int × Tx)} (h1 : (doesS s.L o).1.1 = k) (h2 : (doesS s.L o).1.2 = off) (h3 : (doesS s.L o).2.1 = pl) {B : Nat} (hB : w.heap.size ≤ B) (h4 : Ps w' B v pl) (h5 : Applied S R p ⟨(doesS s.L o).2.2, s.last⟩ B w w') :
    Done S R p s o w (.returned (.tuple #[.agg #[.int .i64 k, .int .i64 off], v])) w' := by
  subst h1; subst h2; subst h3
  exact ⟨v, B, rfl, hB, h4, h5⟩
theorem own_cells {w w1 W W' : World} {g : Nat} (h : w.heap.size ≤ g) (h' : g < w1.heap.size) (c : Ch (fun k => w.heap.size ≤ k ∧ k < w1.heap.size) W W') (u v : Value) : Ch (fun k => w.heap.size ≤ k ∧ k < w1.heap.size) W ((W'.setCell ⟨g, 0, none⟩ u).setCell ⟨g, 1, none⟩ v) :=
  (c.setCell (p := ⟨g, 0, none⟩) (fun _ => ⟨h, h'⟩) _).setCell (p := ⟨g, 1, none⟩) (fun _ => ⟨h, h'⟩) _
theorem five {W : World} {g : Nat} {o : O} {A A2 : Option Addr} {c c2 : Nat} (h : OB W g o A c) :
    OB (((((W.setCell ⟨g, 0, none⟩ (.int .i64 o.kind)).setCell ⟨g, 1, none⟩ (.string ⟨o.topic.toArray⟩)).setCell ⟨g, 2, none⟩ (.string ⟨o.group.toArray⟩)).setCell ⟨g, 3, none⟩ (.int .i64 o.off)).setCell ⟨g, 4, none⟩ (.slice A2 o.recs.length c2)) g o A2 c2 :=
  ((((Blk.set_ h 0 _).set_ 1 _).set_ 2 _).set_ 3 _).set_ 4 _
theorem five_ch (W : World) (g : Nat) (x0 x1 x2 x3 x4 : Value) : Ch (fun k => k = g) W (((((W.setCell ⟨g, 0, none⟩ x0).setCell ⟨g, 1, none⟩ x1).setCell ⟨g, 2, none⟩ x2).setCell ⟨g, 3, none⟩ x3).setCell ⟨g, 4, none⟩ x4) :=
  (((((Ch.refl (fun k => k = g) W).setCell (p := ⟨g, 0, none⟩) (fun _ => rfl) _).setCell (p := ⟨g, 1, none⟩) (fun _ => rfl) _).setCell (p := ⟨g, 2, none⟩) (fun _ => rfl) _).setCell (p := ⟨g, 3, none⟩) (fun _ => rfl) _).setCell (p := ⟨g, 4, none⟩) (fun _ => rfl) _
set_option maxRecDepth 100000 in
set_option maxHeartbeats 2000000 in
theorem do_ok (w : World) (S R : Nat → Prop) (p : Nat) (s : St) (o : O) (X : Nat → Prop) (A : Option Addr) (c : Nat) (hc : check o = 0) (h : Tz w S R p s) (hls : Ls w X (.slice A o.recs.length c) o.recs) :
    Calls Tryz.prog 92 #[.pointer (some ⟨p, 0, none⟩), OV o A c] w (Done S R p s o w) := by
  have hdk := dk_new w o A c
  have HDK := Lib.hid hdk
  have HZ := Lib.hid h
  have hsm := small_of hc
  have hls2 := (hls.after (op_below w (.cells (OC o A c) 98))).after (op_below _ (.cells #[.int .i64 0, .int .i64 0] 69))
  obtain ⟨a0, a1, a2, a3, a4⟩ := hdk.op.cells
  have HC := Lib.hid (check_any o _ X _ ⟨A, c, rfl, hls2⟩ (by omega))
  have HLS := Lib.hid hls2
  have HCK := Lib.hid hc
  have HSM := Lib.hid hsm
  have HDE := Lib.hid (fun h => does_err h.good.L (L := s.L) (o := o) : Tz w S R p s → _)
  clear hdk h hls hls2 hsm hc
  unfold OV at HC ⊢
  unfold OC at HDK HC HLS a0 a1 a2 a3 a4
  rw [HCK.out] at HC
  go_enter Tryz.func92, Tryz.ntmps92
  go_wp2_with fail
  refine HC.out.mono ?_
  rintro e w1 ⟨rfl, hb1⟩
  have HDK1 := Lib.hid (HDK.out.later hb1)
  have HCL := Lib.hid (clone_any w1 o X A c (HLS.out.after hb1) (far_of HCK.out))
  clear hb1 a0 a1 a2 a3 a4
  obtain ⟨a0, a1, a2, a3, a4⟩ := HDK1.out.op.cells
  unfold OV at HCL
  go_wp2_with fail
  refine HCL.out.mono ?_
  rintro e w2 ⟨A2, c2, vals, rfl, hcl⟩
  have HDK2 := Lib.hid (HDK1.out.later hcl.below)
  have HCL2 := Lib.hid hcl
  clear hcl a0 a1 a2 a3 a4
  obtain ⟨a0, a1, a2, a3, a4⟩ := HDK2.out.op.cells
  have f0 := Blk.frozen HDK2.out.op 0
  have f1 := Blk.frozen HDK2.out.op 1
  have f2 := Blk.frozen HDK2.out.op 2
  have f3 := Blk.frozen HDK2.out.op 3
  have f4 := Blk.frozen HDK2.out.op 4
  unfold OV
  go_wp2_with fail
  have hop3 := five (A2 := A2) (c2 := c2) HDK2.out.op
  have hch3 := five_ch w2 w.heap.size (.int .i64 o.kind) (.string ⟨o.topic.toArray⟩) (.string ⟨o.group.toArray⟩) (.int .i64 o.off) (.slice A2 o.recs.length c2)
  generalize (((((w2.setCell ⟨w.heap.size, 0, none⟩ (.int .i64 o.kind)).setCell ⟨w.heap.size, 1, none⟩ (.string ⟨o.topic.toArray⟩)).setCell ⟨w.heap.size, 2, none⟩ (.string ⟨o.group.toArray⟩)).setCell ⟨w.heap.size, 3, none⟩ (.int .i64 o.off)).setCell ⟨w.heap.size, 4, none⟩ (.slice A2 o.recs.length c2)) = w3 at hop3 hch3 ⊢
  have z1 : w.heap.size + 2 ≤ w1.heap.size := by have := HDK1.out.res.lt; omega
  have z2 := HCL2.out.below.size
  have z3 := hch3.size
  have HZS := Lib.hid (And.intro z1 (And.intro z2 z3))
  have hres3 := HDK2.out.res.ch hch3 (by omega)
  have b3 : Below w.heap.size w w3 := ⟨hch3.os.trans HDK2.out.below.os, hch3.tape.trans HDK2.out.below.tape, hch3.output.trans HDK2.out.below.output, Nat.le_trans HDK2.out.below.size hch3.size, fun i hi => (hch3.block i (by omega) (by omega)).trans (HDK2.out.below.block i hi)⟩
  have HB3 := Lib.hid b3
  have hz3 : Tz w3 (fun k => S k ∧ k < w.heap.size) (fun k => R k ∨ (w1.heap.size ≤ k ∧ k < w2.heap.size)) p s := by
    refine Tz.moreR ((Tz.bound HZ.out).ch (Ch.of_below (S := fun k => w.heap.size ≤ k) b3 (Nat.le_refl _)) (fun k hk h => by have := hk.2; omega) (fun k hk h => by have := (Tz.rlt HZ.out k hk).2; omega)) (fun _ h => .inl h) (fun k hk => ?_)
    rcases hk with hk | ⟨h1, h2⟩
    · have := Tz.rlt HZ.out k hk
      exact ⟨fun h => this.1 h.1, by omega⟩
    · exact ⟨fun h => by have := h.2; omega, by omega⟩
  have HRN := Lib.hid (run_any w3 _ _ p s o A2 c2 HCK.out hz3 (ins_ch (R := R) HCL2.out hch3 (fun k hk => by omega)))
  have HL3 := Lib.hid ((CL.ls HCL2.out).ch hch3 (fun k _ hk => by show k < w1.heap.size; omega))
  have HO3 := Lib.hid (And.intro hop3 hres3)
  clear a0 a1 a2 a3 a4 f0 f1 f2 f3 f4 hch3 hres3 b3 hz3 z1 z2 z3 hop3
  unfold OV at HRN
  refine HRN.out.mono ?_
  rintro e w4 ⟨rfl, hd⟩
  have HD4 := Lib.hid hd
  have hop4 : OB w4 w.heap.size o A2 c2 := Blk.ch HO3.out.1 hd.2 (fun h => by have := h.2; omega)
  have hres4 := HO3.out.2.ch hd.2 (fun h => by have := h.2; omega)
  have HL4 := Lib.hid (HL3.out.ch hd.2 (fun k _ hk => by have := hk.2; have := HZS.out.1; show k < w1.heap.size; omega))
  have HO4 := Lib.hid (And.intro hop4 hres4)
  have hgr := (doesS_good HZ.out.good.L o).2
  obtain ⟨a0, a1, a2, a3, a4⟩ := hop4.cells
  have r0 := hres4.cell 0
  have r1 := hres4.cell 1
  have fr0 := hres4.frozen 0
  have fr1 := hres4.frozen 1
  simp only [List.getElem?_toArray, List.getElem?_cons_zero, List.getElem?_cons_succ] at r0 r1
  have HGR := Lib.hid hgr
  clear hd hop4 hres4 hgr
  by_cases he : (doesS s.L o).1.1 = 0
  · have HP := Lib.hid (does_placed HCK.out he)
    have HEE := Lib.hid he
    have q0 := HGR.out.2.2.2.1
    have q1 := HGR.out.2.2.2.2.1
    simp only [maxNum] at q1
    rw [he]
    clear he
    generalize hoff : (doesS s.L o).1.2 = off at q0 q1 HP ⊢
    have HOF := Lib.hid hoff
    have HPL := Lib.hid (places_any w4 o _ A2 c2 off HL4.out (by have := HSM.out.2.2.1; omega) HSM.out.2.2.2.1 q0 q1)
    unfold OV at HPL
    clear hoff
    go_wp2_with fail
    refine HPL.out.mono ?_
    rintro e w5 ⟨v5, rfl, hps, hb5⟩
    have HB5 := Lib.hid hb5
    have HPS := Lib.hid hps
    have hres5 := HO4.out.2.below hb5 HO4.out.2.lt
    have HR5 := Lib.hid hres5
    clear r0 r1 fr0 fr1
    have r0 := hres5.cell 0
    have r1 := hres5.cell 1
    have fr0 := hres5.frozen 0
    have fr1 := hres5.frozen 1
    simp only [List.getElem?_toArray, List.getElem?_cons_zero, List.getElem?_cons_succ] at r0 r1
    clear hb5 hps hres5
    go_wp2_with fail
    refine bodyPost_ret (results_row_tmp rfl _ _ (w.heap.size + 1) 69 #[.int .i64 0, .int .i64 off] (0, 0) _ rfl (blk2 HR5.out _ _) Tryz.underlying69 rfl size_res) rfl ?_
    have hz4 := HD4.out.2.size
    have hzs := HZS.out
    have c5 := own_cells (w := w) (w1 := w1) (g := w.heap.size + 1) (by omega) (by omega) (Ch.of_below HB5.out (Nat.le_refl _)) (.int .i64 0) (.int .i64 off)
    refine done_of HEE.out HOF.out HP.out (by omega) ?_ (applied_fin (by omega) hzs.2.1 hzs.2.2 HB3.out (fun k hk => (Tz.rlt HZ.out k hk).2) HD4.out c5)
    exact (HPS.out.ch (((Ch.refl (fun k => k = w.heap.size + 1) w5).setCell (p := ⟨w.heap.size + 1, 0, none⟩) (fun _ => rfl) _).setCell (p := ⟨w.heap.size + 1, 1, none⟩) (fun _ => rfl) _) (fun k hk => by omega))
  · obtain ⟨e2, e3⟩ := HDE.out HZ.out he
    have hcb : ((doesS s.L o).1.1 == 0) = false := beq_eq_false_iff_ne.2 he
    rw [e2]
    have HE2 := Lib.hid (And.intro e2 e3)
    generalize hk : (doesS s.L o).1.1 = k at hcb ⊢
    have HK := Lib.hid hk
    clear he e3 e2 hk
    go_wp2_with fail
    refine bodyPost_ret (results_row_tmp rfl _ _ (w.heap.size + 1) 69 #[.int .i64 k, .int .i64 0] (0, 0) _ rfl (blk2 HO4.out.2 _ _) Tryz.underlying69 rfl size_res) rfl ?_
    have hz4 := HD4.out.2.size
    have hzs := HZS.out
    have c5 := own_cells (w := w) (w1 := w1) (g := w.heap.size + 1) (by omega) (by omega) (Ch.refl _ w4) (.int .i64 k) (.int .i64 0)
    exact done_of HK.out HE2.out.1 HE2.out.2 (by omega) (Ps.nil _ _) (applied_fin (by omega) hzs.2.1 hzs.2.2 HB3.out (fun k hk => (Tz.rlt HZ.out k hk).2) HD4.out c5)
theorem do_any (w : World) (S R : Nat → Prop) (p : Nat) (s : St) (o : O) (X : Nat → Prop) (A : Option Addr) (c : Nat) (h : Tz w S R p s) (hls : Ls w X (.slice A o.recs.length c) o.recs) (hl : o.recs.length ≤ 140737488355328) :
    Calls Tryz.prog 92 #[.pointer (some ⟨p, 0, none⟩), OV o A c] w (Done S R p s o w) := by
  by_cases hc : check o = 0
  · exact do_ok w S R p s o X A c hc h hls
  · exact do_bad w S R p s o X A c hc h hls hl
end Go.Proofs.YtobphijbhghgmaaGreat.Ai

/-
  Contract of the program's topics: Apply.
-/
namespace Go.Proofs.YtobphijbhghgmaaGreat.Aj
set_option linter.unusedSimpArgs false
open Go Go.RowKit Ck Kw Ga Kf Km Kd Pm Pz Pe Pg Py Qb Qg Tm Tn Tq Aa Ab Ac Ad Ae Af Ag Ah Ai
attribute [local go_sem ↓] Go.wp_at_zero Go.wp_at_succ
set_option linter.unusedVariables false

/-- A request as a value. -/
def RC (client time : Int) (o : O) (A : Option Addr) (c : Nat) : Array Value := #[.int .i64 client, .int .i64 time, .int .i64 o.kind, .string ⟨o.topic.toArray⟩, .string ⟨o.group.toArray⟩, .int .i64 o.off, .slice A o.recs.length c]
def RV (client time : Int) (o : O) (A : Option Addr) (c : Nat) : Value := .agg (RC client time o A c)
theorem acs_set (l : List An) (i : Nat) (hi : i < l.length) (a : An) : (((ACs l).set (i * 3) (.int .i64 a.time)).set (i * 3 + 1) (.int .i64 a.err)).set (i * 3 + 2) (.int .i64 a.off) = ACs (l.set i a) := by
  unfold ACs
  have e1 := flat_set AC_len l i hi (⟨a.time, l[i].err, l[i].off⟩ : An) 0 (by omega) (.int .i64 a.time) rfl
  rw [Nat.add_zero] at e1
  rw [e1]
  have e2 := flat_set AC_len (l.set i (⟨a.time, l[i].err, l[i].off⟩ : An)) i (by simpa using hi) (⟨a.time, a.err, l[i].off⟩ : An) 1 (by omega) (.int .i64 a.err) (by simp [AC])
  rw [e2]
  have e3 := flat_set AC_len ((l.set i (⟨a.time, l[i].err, l[i].off⟩ : An)).set i (⟨a.time, a.err, l[i].off⟩ : An)) i (by simpa using hi) a 2 (by omega) (.int .i64 a.off) (by simp [AC])
  rw [e3]
  simp
theorem tz_last {w : World} {S R : Nat → Prop} {p : Nat} {s : St} (h : Tz w S R p s) {i : Nat} (hi : i < 8) (a : An) (hg : GoodS ⟨s.L, s.last.set i a⟩) :
    Tz (((w.setCell ⟨p, 1 + i * 3, none⟩ (.int .i64 a.time)).setCell ⟨p, 1 + i * 3 + 1, none⟩ (.int .i64 a.err)).setCell ⟨p, 1 + i * 3 + 2, none⟩ (.int .i64 a.off)) S R p ⟨s.L, s.last.set i a⟩ := by
  obtain ⟨m, D, G, V, M, F, h⟩ := h
  have h8 := h.good.eight
  have c : Ch (fun k => k = p) w (((w.setCell ⟨p, 1 + i * 3, none⟩ (.int .i64 a.time)).setCell ⟨p, 1 + i * 3 + 1, none⟩ (.int .i64 a.err)).setCell ⟨p, 1 + i * 3 + 2, none⟩ (.int .i64 a.off)) :=
    (((Ch.refl (fun k => k = p) w).setCell (p := ⟨p, 1 + i * 3, none⟩) (fun _ => rfl) _).setCell (p := ⟨p, 1 + i * 3 + 1, none⟩) (fun _ => rfl) _).setCell (p := ⟨p, 1 + i * 3 + 2, none⟩) (fun _ => rfl) _
  have hb := ((h.blk.set_ (1 + i * 3) (.int .i64 a.time)).set_ (1 + i * 3 + 1) (.int .i64 a.err)).set_ (1 + i * 3 + 2) (.int .i64 a.off)
  have e : ((((Value.map (some m) :: ACs s.last).toArray.setIfInBounds (1 + i * 3) (.int .i64 a.time)).setIfInBounds (1 + i * 3 + 1) (.int .i64 a.err)).setIfInBounds (1 + i * 3 + 2) (.int .i64 a.off)) = (Value.map (some m) :: ACs (s.last.set i a)).toArray := by
    rw [← acs_set s.last i (by omega) a]
    simp only [List.setIfInBounds_toArray]
    rw [show 1 + i * 3 + 2 = (i * 3 + 2) + 1 by omega, show 1 + i * 3 + 1 = (i * 3 + 1) + 1 by omega, show 1 + i * 3 = i * 3 + 1 by omega]
    simp only [List.set_cons_succ]
  rw [e] at hb
  exact ⟨m, D, G, V, M, F, hb, h.sp, map_ch h.own c h.sm.2, h.tells, h.sm, fun t ht => (h.top t ht).ch c (fun k hk e => (h.sub t ht k hk).2.1 e) (fun k hk e => (h.rs k hk).1 (by rw [e]; exact h.sp)), fun t ht k hk => ⟨(h.sub t ht k hk).1, (h.sub t ht k hk).2.1, (h.sub t ht k hk).2.2.1, Nat.lt_of_lt_of_le (h.sub t ht k hk).2.2.2 c.size⟩, h.apart, fun k hk => ⟨(h.rs k hk).1, Nat.lt_of_lt_of_le (h.rs k hk).2 c.size⟩, hg⟩
/-- Three results, the first a struct in a cell of its own. -/
theorem results_row_tmp2 {P : Program} {fn : Func} {p q r : Tmp} {ty : TypeId} (h : fn.results = #[.cell p ty, .tmp q, .tmp r]) (tmps : Array Value) (w : World) (g : Nat) (t : TypeId) (cs : Array Value) (fr : Nat × Nat) (d : TypeDesc)
    (hp : tmps.getD p undef = .pointer (some ⟨g, 0, none⟩)) (hg : w.heap[g]? = some (.cells cs t fr))
    (hu : P.underlying ty = some d) (hd : (match d with | .struct _ | .array _ _ => true | _ => false) = true) (hi : (P.info? ty).map (·.size) = some cs.size) :
    (results fn tmps).run P w = .ok (.tuple #[.agg cs, tmps.getD q undef, tmps.getD r undef]) w := by
  have hp' : tmps[p]?.getD undef = .pointer (some ⟨g, 0, none⟩) := by simpa using hp
  simp [results, h, hp', asAddr, run_loadVar_row w g t ty cs fr d hg hu hd hi]
/-- What Apply leaves. -/
def Asked (S R : Nat → Prop) (p : Nat) (s : St) (client time : Int) (o : O) (w : World) (e : Ending) (w' : World) : Prop :=
  ∃ v B, e = .returned (.tuple #[.agg #[.int .i64 (appS s client time o).1.1, .int .i64 (appS s client time o).1.2], v, .bool (appS s client time o).2.2.1]) ∧ w.heap.size ≤ B ∧ Ps w' B v (appS s client time o).2.1 ∧ Applied S R p (appS s client time o).2.2.2 B w w'
theorem asked_of {w w' : World} {S R : Nat → Prop} {p : Nat} {s s' : St} {client time : Int} {o : O} {k off : Int} {b : Bool} {v : Value} {pl : List (Tx × Int × Tx)} (h : appS s client time o = ((k, off), pl, b, s')) {B : Nat} (hB : w.heap.size ≤ B) (h4 : Ps w' B v pl) (h5 : Applied S R p s' B w w') :
    Asked S R p s client time o w (.returned (.tuple #[.agg #[.int .i64 k, .int .i64 off], v, .bool b])) w' := by
  unfold Asked
  rw [h]
  exact ⟨v, B, rfl, hB, h4, h5⟩
/-- Apply's own blocks. -/
structure AK (w : World) (client time : Int) (o : O) (A : Option Addr) (c : Nat) (W : World) : Prop where
  below : Below w.heap.size w W
  req : Blk W w.heap.size 100 (RC client time o A c)
  res : Blk W (w.heap.size + 1) 69 #[.int .i64 0, .int .i64 0]
theorem AK.later {w W W' : World} {client time : Int} {o : O} {A : Option Addr} {c : Nat} (h : AK w client time o A c W) (b : Below W.heap.size W W') : AK w client time o A c W' := ⟨h.below.trans (b.mono h.below.size), h.req.below b h.req.lt, h.res.below b h.res.lt⟩
theorem ak_new (w : World) (client time : Int) (o : O) (A : Option Addr) (c : Nat) : AK w client time o A c ((w.alloc (.cells (RC client time o A c) 100)).alloc (.cells #[.int .i64 0, .int .i64 0] 69)) := by
  have hz : (w.alloc (.cells (RC client time o A c) 100)).heap.size = w.heap.size + 1 := by simp
  have h1 : Blk (w.alloc (.cells (RC client time o A c) 100)) w.heap.size 100 (RC client time o A c) := Blk.new _ _ _
  exact ⟨(op_below w _).trans ((op_below _ _).mono (by omega)), h1.below (op_below _ _) (by omega), by rw [← hz]; exact Blk.new _ _ _⟩
theorem AK.cells {w W : World} {client time : Int} {o : O} {A : Option Addr} {c : Nat} (h : AK w client time o A c W) : W.cell? ⟨w.heap.size, 0, none⟩ = some (.int .i64 client) ∧ W.cell? ⟨w.heap.size, 1, none⟩ = some (.int .i64 time) ∧ W.cell? ⟨w.heap.size, 2, none⟩ = some (.int .i64 o.kind) ∧ W.cell? ⟨w.heap.size, 3, none⟩ = some (.string ⟨o.topic.toArray⟩) ∧ W.cell? ⟨w.heap.size, 4, none⟩ = some (.string ⟨o.group.toArray⟩) ∧ W.cell? ⟨w.heap.size, 5, none⟩ = some (.int .i64 o.off) ∧ W.cell? ⟨w.heap.size, 6, none⟩ = some (.slice A o.recs.length c) :=
  ⟨h.req.cell 0, h.req.cell 1, h.req.cell 2, h.req.cell 3, h.req.cell 4, h.req.cell 5, h.req.cell 6⟩
theorem AK.rcells {w W : World} {client time : Int} {o : O} {A : Option Addr} {c : Nat} (h : AK w client time o A c W) : W.cell? ⟨w.heap.size + 1, 0, none⟩ = some (.int .i64 0) ∧ W.cell? ⟨w.heap.size + 1, 1, none⟩ = some (.int .i64 0) ∧ W.frozen? ⟨w.heap.size + 1, 0, none⟩ = false ∧ W.frozen? ⟨w.heap.size + 1, 1, none⟩ = false :=
  ⟨h.res.cell 0, h.res.cell 1, h.res.frozen 0, h.res.frozen 1⟩
theorem two_below (w : World) (x y : Obj) : Below w.heap.size w ((w.alloc x).alloc y) := (op_below w x).trans ((op_below _ y).mono (by simp))
set_option maxRecDepth 100000 in
set_option maxHeartbeats 1000000 in
theorem apply_bad (w : World) (S R : Nat → Prop) (p : Nat) (s : St) (client time : Int) (o : O) (A : Option Addr) (c : Nat) (hb : badArg client time = true) (h : Tz w S R p s) :
    Calls Tryz.prog 70 #[.pointer (some ⟨p, 0, none⟩), RV client time o A c] w (Asked S R p s client time o w) := by
  have hak := ak_new w client time o A c
  have HAK := Lib.hid hak
  have HZ := Lib.hid h
  have HM := Lib.hid (made_on _ S R p s (h.later (HAK.out.below.mono (Nat.le_refl _))))
  have HAP : Hid (appS s client time o = ((1, 0), [], false, s)) := Lib.hid (by rw [appS, if_pos hb])
  obtain ⟨a0, a1, a2, a3, a4, a5, a6⟩ := hak.cells
  obtain ⟨r0, r1, fr0, fr1⟩ := hak.rcells
  clear hak h
  simp only [badArg, Bool.or_eq_true, decide_eq_true_eq] at hb
  unfold RV
  unfold RC at HAK HM a0 a1 a2 a3 a4 a5 a6 r0 r1 fr0 fr1 ⊢
  by_cases hcl : (decide (0 ≤ client) && decide (client < 8)) = true
  · simp only [Bool.and_eq_true, decide_eq_true_eq] at hcl
    by_cases ht : time < 1
    · clear hb
      go_enter Tryz.func70, Tryz.ntmps70
      go_wp2_with fail
      refine HM.out.mono ?_
      rintro e w1 ⟨rfl, rfl⟩
      go_wp2_with fail
      refine (client_any _ client).mono ?_
      rintro e w1 ⟨rfl, rfl⟩
      go_wp2_with fail
      refine bodyPost_ret (results_row_tmp2 rfl _ _ (w.heap.size + 1) 69 #[.int .i64 1, .int .i64 0] (0, 0) _ rfl (Blk.new_at (by simp) rfl) Tryz.underlying69 rfl Ai.size_res) rfl ?_
      exact asked_of HAP.out (Nat.le_refl _) (Ps.nil _ _) (applied_refl HZ.out (two_below _ _ _))
    · have ht2 : 9007199254740992 < time := by simp only [maxNum] at hb; omega
      clear hb ht
      have ht3 : 1 ≤ time := by omega
      go_enter Tryz.func70, Tryz.ntmps70
      go_wp2_with fail
      refine HM.out.mono ?_
      rintro e w1 ⟨rfl, rfl⟩
      go_wp2_with fail
      refine (client_any _ client).mono ?_
      rintro e w1 ⟨rfl, rfl⟩
      go_wp2_with fail
      refine bodyPost_ret (results_row_tmp2 rfl _ _ (w.heap.size + 1) 69 #[.int .i64 1, .int .i64 0] (0, 0) _ rfl (Blk.new_at (by simp) rfl) Tryz.underlying69 rfl Ai.size_res) rfl ?_
      exact asked_of HAP.out (Nat.le_refl _) (Ps.nil _ _) (applied_refl HZ.out (two_below _ _ _))
  · have hcl' : (decide (0 ≤ client) && decide (client < 8)) = false := Bool.eq_false_iff.2 hcl
    have HCN : ∀ W : World, Hid (Calls Tryz.prog 91 #[.int .i64 client] W fun e w' => e = .returned (.bool false) ∧ W = w') := fun W => Lib.hid (by rw [← hcl']; exact client_any W client)
    clear hcl hcl' hb
    go_enter Tryz.func70, Tryz.ntmps70
    go_wp2_with fail
    refine HM.out.mono ?_
    rintro e w1 ⟨rfl, rfl⟩
    go_wp2_with fail
    refine (HCN _).out.mono ?_
    rintro e w1 ⟨rfl, rfl⟩
    go_wp2_with fail
    refine bodyPost_ret (results_row_tmp2 rfl _ _ (w.heap.size + 1) 69 #[.int .i64 1, .int .i64 0] (0, 0) _ rfl (Blk.new_at (by simp) rfl) Tryz.underlying69 rfl Ai.size_res) rfl ?_
    exact asked_of HAP.out (Nat.le_refl _) (Ps.nil _ _) (applied_refl HZ.out (two_below _ _ _))

set_option maxRecDepth 100000 in
set_option maxHeartbeats 1000000 in
theorem apply_old (w : World) (S R : Nat → Prop) (p : Nat) (s : St) (client time : Int) (o : O) (A : Option Addr) (c : Nat) (hb : badArg client time = false) (hle : time ≤ (s.last.getD client.toNat An.zero).time) (h : Tz w S R p s) :
    Calls Tryz.prog 70 #[.pointer (some ⟨p, 0, none⟩), RV client time o A c] w (Asked S R p s client time o w) := by
  have hak := ak_new w client time o A c
  have HAK := Lib.hid hak
  have HZ := Lib.hid h
  have hz1 := h.later (HAK.out.below.mono (Nat.le_refl _))
  have HM := Lib.hid (made_on _ S R p s hz1)
  obtain ⟨c0, c1, t0, t1⟩ := badArg_no (by rw [hb]; simp)
  obtain ⟨m, D, G, V, M, F, hP⟩ := hz1
  have hlen := hP.len8
  obtain ⟨i, rfl⟩ : ∃ i : Nat, client = (i : Int) := ⟨client.toNat, by omega⟩
  have hi : i < s.last.length := by omega
  obtain ⟨q0, q1, q2⟩ := hP.cellA hi
  have hg : s.last.getD (Int.toNat (i : Int)) An.zero = s.last[i] := by rw [Int.toNat_natCast, List.getD_eq_getElem?_getD, List.getElem?_eq_getElem hi]; rfl
  rw [hg] at hle
  have HAP : Hid (appS s i time o = if time = s.last[i].time then ((s.last[i].err, s.last[i].off), [], false, s) else ((7, 0), [], false, s)) := Lib.hid (by
    rw [appS, if_neg (by rw [hb]; simp)]
    simp only [hg]
    split
    · rfl
    · rw [if_pos (by omega)])
  obtain ⟨a0, a1, a2, a3, a4, a5, a6⟩ := hak.cells
  obtain ⟨r0, r1, fr0, fr1⟩ := hak.rcells
  simp only [maxNum] at t1
  have hcl : (decide (0 ≤ (i : Int)) && decide ((i : Int) < 8)) = true := by simp; omega
  have HCN : ∀ W : World, Hid (Calls Tryz.prog 91 #[.int .i64 (i : Int)] W fun e w' => e = .returned (.bool true) ∧ W = w') := fun W => Lib.hid (by rw [← hcl]; exact client_any W i)
  have hi8 : i < 8 := by omega
  clear hak h hP hb hg hcl hlen
  generalize s.last[i] = a at *
  obtain ⟨at', ae, ao⟩ := a
  simp only at q0 q1 q2 hle HAP
  unfold RV
  unfold RC at HAK HM a0 a1 a2 a3 a4 a5 a6 r0 r1 fr0 fr1 q0 q1 q2 ⊢
  by_cases he : time = at'
  · subst he
    rw [if_pos rfl] at HAP
    go_enter Tryz.func70, Tryz.ntmps70
    go_wp2_with fail
    refine HM.out.mono ?_
    rintro e w1 ⟨rfl, rfl⟩
    go_wp2_with fail
    refine (HCN _).out.mono ?_
    rintro e w1 ⟨rfl, rfl⟩
    go_wp2_with fail
    generalize (w.alloc (.cells #[.int .i64 (i : Int), .int .i64 time, .int .i64 o.kind, .string ⟨o.topic.toArray⟩, .string ⟨o.group.toArray⟩, .int .i64 o.off, .slice A o.recs.length c] 100)).alloc (.cells #[.int .i64 0, .int .i64 0] 69) = W0 at *
    go_region_held3 (fun w' => w'.cell? ⟨w.heap.size, 0, none⟩ = some (.int .i64 (i : Int)) ∧ w'.cell? ⟨p, 1 + i * 3, none⟩ = some (.int .i64 time) ∧ w'.cell? ⟨p, 1 + i * 3 + 1, none⟩ = some (.int .i64 ae) ∧ w'.cell? ⟨p, 1 + i * 3 + 2, none⟩ = some (.int .i64 ao)) (first | exact ⟨a0, q0, q1, q2⟩ | go_keep) (fail)
    have hb1 : Below W0.heap.size W0 (W0.alloc (.cells #[.int .i64 time, .int .i64 ae, .int .i64 ao] 71)).drew := below_drewN (op_below _ _) 1
    have hl1 : Blk (W0.alloc (.cells #[.int .i64 time, .int .i64 ae, .int .i64 ao] 71)).drew W0.heap.size 71 #[.int .i64 time, .int .i64 ae, .int .i64 ao] := Blk.new _ _ _
    have HAK1 := Lib.hid (HAK.out.later hb1)
    generalize (W0.alloc (.cells #[.int .i64 time, .int .i64 ae, .int .i64 ao] 71)).drew = W1 at *
    clear a0 a1 a2 a3 a4 a5 a6 r0 r1 fr0 fr1 q0 q1 q2
    obtain ⟨a0, a1, a2, a3, a4, a5, a6⟩ := AK.cells HAK1.out
    obtain ⟨r0, r1, fr0, fr1⟩ := AK.rcells HAK1.out
    have l0 := hl1.cell 0
    have l1 := hl1.cell 1
    have l2 := hl1.cell 2
    simp only [List.getElem?_toArray, List.getElem?_cons_zero, List.getElem?_cons_succ] at l0 l1 l2
    have HB1 := Lib.hid (And.intro hb1 hl1)
    clear hb1 hl1
    go_wp2_with fail
    refine bodyPost_ret (results_row_tmp2 rfl _ _ (w.heap.size + 1) 69 #[.int .i64 ae, .int .i64 ao] (0, 0) _ rfl (blk2 HAK1.out.res _ _) Tryz.underlying69 rfl Ai.size_res) rfl ?_
    exact asked_of HAP.out (Nat.le_refl _) (Ps.nil _ _) (applied_refl HZ.out (below2 HAK1.out.below (by omega) _ _))
  · rw [if_neg he] at HAP
    have hlt : time < at' := by omega
    have heb : (time == at') = false := beq_eq_false_iff_ne.2 he
    clear hle he
    go_enter Tryz.func70, Tryz.ntmps70
    go_wp2_with fail
    refine HM.out.mono ?_
    rintro e w1 ⟨rfl, rfl⟩
    go_wp2_with fail
    refine (HCN _).out.mono ?_
    rintro e w1 ⟨rfl, rfl⟩
    go_wp2_with fail
    generalize (w.alloc (.cells #[.int .i64 (i : Int), .int .i64 time, .int .i64 o.kind, .string ⟨o.topic.toArray⟩, .string ⟨o.group.toArray⟩, .int .i64 o.off, .slice A o.recs.length c] 100)).alloc (.cells #[.int .i64 0, .int .i64 0] 69) = W0 at *
    go_region_held3 (fun w' => w'.cell? ⟨w.heap.size, 0, none⟩ = some (.int .i64 (i : Int)) ∧ w'.cell? ⟨p, 1 + i * 3, none⟩ = some (.int .i64 at') ∧ w'.cell? ⟨p, 1 + i * 3 + 1, none⟩ = some (.int .i64 ae) ∧ w'.cell? ⟨p, 1 + i * 3 + 2, none⟩ = some (.int .i64 ao)) (first | exact ⟨a0, q0, q1, q2⟩ | go_keep) (fail)
    have hb1 : Below W0.heap.size W0 (W0.alloc (.cells #[.int .i64 at', .int .i64 ae, .int .i64 ao] 71)).drew := below_drewN (op_below _ _) 1
    have hl1 : Blk (W0.alloc (.cells #[.int .i64 at', .int .i64 ae, .int .i64 ao] 71)).drew W0.heap.size 71 #[.int .i64 at', .int .i64 ae, .int .i64 ao] := Blk.new _ _ _
    have HAK1 := Lib.hid (HAK.out.later hb1)
    generalize (W0.alloc (.cells #[.int .i64 at', .int .i64 ae, .int .i64 ao] 71)).drew = W1 at *
    clear a0 a1 a2 a3 a4 a5 a6 r0 r1 fr0 fr1 q0 q1 q2
    obtain ⟨a0, a1, a2, a3, a4, a5, a6⟩ := AK.cells HAK1.out
    obtain ⟨r0, r1, fr0, fr1⟩ := AK.rcells HAK1.out
    have l0 := hl1.cell 0
    have l1 := hl1.cell 1
    have l2 := hl1.cell 2
    simp only [List.getElem?_toArray, List.getElem?_cons_zero, List.getElem?_cons_succ] at l0 l1 l2
    have HB1 := Lib.hid (And.intro hb1 hl1)
    clear hb1 hl1
    go_wp2_with fail
    refine bodyPost_ret (results_row_tmp2 rfl _ _ (w.heap.size + 1) 69 #[.int .i64 7, .int .i64 0] (0, 0) _ rfl (blk2 HAK1.out.res _ _) Tryz.underlying69 rfl Ai.size_res) rfl ?_
    exact asked_of HAP.out (Nat.le_refl _) (Ps.nil _ _) (applied_refl HZ.out (below2 HAK1.out.below (by omega) _ _))
end Go.Proofs.YtobphijbhghgmaaGreat.Aj

/-
  Contract of the program's topics: Apply, where a request is done.
-/
namespace Go.Proofs.YtobphijbhghgmaaGreat.Al
set_option linter.unusedSimpArgs false
open Go Go.RowKit Ck Kw Ga Kf Km Kd Pm Pz Pe Pg Py Qb Qg Tm Tn Tq Aa Ab Ac Ad Ae Af Ag Ah Ai Aj
attribute [local go_sem ↓] Go.wp_at_zero Go.wp_at_succ
set_option linter.unusedVariables false

theorem three_ch (W : World) (p i j k : Nat) (x y z : Value) : Ch (fun q => q = p) W (((W.setCell ⟨p, i, none⟩ x).setCell ⟨p, j, none⟩ y).setCell ⟨p, k, none⟩ z) :=
  (((Ch.refl (fun q => q = p) W).setCell (p := ⟨p, i, none⟩) (fun _ => rfl) _).setCell (p := ⟨p, j, none⟩) (fun _ => rfl) _).setCell (p := ⟨p, k, none⟩) (fun _ => rfl) _
theorem two_ch (W : World) (g : Nat) (x y : Value) : Ch (fun q => q = g) W ((W.setCell ⟨g, 0, none⟩ x).setCell ⟨g, 1, none⟩ y) :=
  ((Ch.refl (fun q => q = g) W).setCell (p := ⟨g, 0, none⟩) (fun _ => rfl) _).setCell (p := ⟨g, 1, none⟩) (fun _ => rfl) _
theorem ch_drew {S : Nat → Prop} {a b : World} (h : Ch S a b) : Ch S a b.drew := ⟨h.os, h.tape, h.output, h.size, h.block⟩
section
variable {w W1 w2 W3 W4 : World} {S R S2 R2 : Nat → Prop} {p : Nat} {s s' : St} {client time : Int} {o : O} {A : Option Addr} {c : Nat} {u v : Value} {pl : List (Tx × Int × Tx)} {B : Nat}
theorem apply_ps (hp : p < w.heap.size) (hk : AK w client time o A c W1) (hB : W1.heap.size ≤ B) (h : Ps w2 B v pl) (c2 : Ch (fun k => S k ∧ k < w.heap.size) W1 w2) (b3 : Below w2.heap.size w2 W3) (c4 : Ch (fun q => q = p) W3 W4) {x y : Value} :
    Ps ((W4.setCell ⟨w.heap.size + 1, 0, none⟩ x).setCell ⟨w.heap.size + 1, 1, none⟩ y) B v pl := by
  have hs := hk.below.size
  have hr := hk.res.lt
  exact (((h.later b3).ch c4 (fun k hk => by omega)).ch (two_ch W4 (w.heap.size + 1) x y) (fun k hk => by omega))
theorem apply_fin (hz : Tz w S R p s) (hp : p < w.heap.size) (hk : AK w client time o A c W1) (h1 : ∀ k, S2 k → Up (fun k => S k ∧ k < w.heap.size) W1 w2 k ∧ k < B) (h2 : ∀ k, R2 k → Up R W1 w2 k ∧ k < B) (c2 : Ch (fun k => S k ∧ k < w.heap.size) W1 w2) (b3 : Below w2.heap.size w2 W3) (c4 : Ch (fun q => q = p) W3 W4) (h : Tz W4 S2 R2 p s') {x y : Value} :
    Applied S R p s' B w ((W4.setCell ⟨w.heap.size + 1, 0, none⟩ x).setCell ⟨w.heap.size + 1, 1, none⟩ y) := by
  have hs := hk.below.size
  have hr := hk.res.lt
  have s2 := c2.size
  have s3 := b3.size
  have s4 := c4.size
  have hSp : S p := by
    obtain ⟨m', D', G', V', M', F', h'⟩ := hz
    exact h'.sp
  have c5 := two_ch W4 (w.heap.size + 1) x y
  have s5 := c5.size
  refine ⟨S2, R2, h.ch c5 (fun k hk e => ?_) (fun k hk e => ?_), fun k hk => ?_, fun k hk => ?_, ?_⟩
  · rcases (h1 k hk).1 with h | h
    · have := h.2; omega
    · have := h.1; omega
  · rcases (h2 k hk).1 with h | h
    · have := (Tz.rlt hz k h).2; omega
    · have := h.1; omega
  · refine ⟨?_, (h1 k hk).2⟩
    rcases (h1 k hk).1 with h | h
    · exact .inl h.1
    · exact .inr ⟨by omega, by omega⟩
  · refine ⟨?_, (h2 k hk).2⟩
    rcases (h2 k hk).1 with h | h
    · exact .inl h
    · exact .inr ⟨by omega, by omega⟩
  · have k1 : Ch S w W1 := Ch.of_below hk.below (Nat.le_refl _)
    have k2 : Ch S w w2 := k1.trans (c2.mono (T := S) (fun k _ h => h.1)) (fun _ _ h => h)
    have k3 : Ch S w W3 := k2.trans (Ch.of_below (S := S) b3 (Nat.le_refl _)) (fun _ _ h => h)
    have k4 : Ch S w W4 := k3.trans (c4.mono (T := S) (fun k _ h => by rw [h]; exact hSp)) (fun _ _ h => h)
    exact k4.trans c5 (fun k h1 h2 => by omega)
end
set_option maxRecDepth 100000 in
set_option maxHeartbeats 2000000 in
theorem apply_new (w : World) (S R : Nat → Prop) (p : Nat) (s : St) (client time : Int) (o : O) (X : Nat → Prop) (A : Option Addr) (c : Nat) (hb : badArg client time = false) (hlt : (s.last.getD client.toNat An.zero).time < time) (h : Tz w S R p s) (hls : Ls w X (.slice A o.recs.length c) o.recs) (hl : o.recs.length ≤ 140737488355328) :
    Calls Tryz.prog 70 #[.pointer (some ⟨p, 0, none⟩), RV client time o A c] w (Asked S R p s client time o w) := by
  have hak := ak_new w client time o A c
  have HAK := Lib.hid hak
  have HZ := Lib.hid h
  have hz1 := h.later (HAK.out.below.mono (Nat.le_refl _))
  have HM := Lib.hid (made_on _ S R p s hz1)
  obtain ⟨c0, c1, t0, t1⟩ := badArg_no (by rw [hb]; simp)
  obtain ⟨m, D, G, V, M, F, hP⟩ := hz1
  have hlen := hP.len8
  obtain ⟨i, rfl⟩ : ∃ i : Nat, client = (i : Int) := ⟨client.toNat, by omega⟩
  have hi : i < s.last.length := by omega
  obtain ⟨q0, q1, q2⟩ := hP.cellA hi
  have hg : s.last.getD (Int.toNat (i : Int)) An.zero = s.last[i] := by rw [Int.toNat_natCast, List.getD_eq_getElem?_getD, List.getElem?_eq_getElem hi]; rfl
  rw [hg] at hlt
  have hg2 : s.last.getD i An.zero = s.last[i] := by rw [← hg, Int.toNat_natCast]
  have HAP : Hid (appS s i time o = ((doesS s.L o).1, (doesS s.L o).2.1, true, ⟨(doesS s.L o).2.2, s.last.set i ⟨time, (doesS s.L o).1.1, (doesS s.L o).1.2⟩⟩)) := Lib.hid (by
    rw [appS, if_neg (by rw [hb]; simp)]
    simp only [Int.toNat_natCast, hg2]
    rw [if_neg (by omega), if_neg (by omega)])
  have hgs : GoodS (appS s i time o).2.2.2 := appS_good HZ.out.good i time o
  rw [HAP.out] at hgs
  have HGS := Lib.hid hgs
  have HLS := Lib.hid hls
  obtain ⟨a0, a1, a2, a3, a4, a5, a6⟩ := hak.cells
  obtain ⟨r0, r1, fr0, fr1⟩ := hak.rcells
  simp only [maxNum] at t1
  have hcl : (decide (0 ≤ (i : Int)) && decide ((i : Int) < 8)) = true := by simp; omega
  have HCN : ∀ W : World, Hid (Calls Tryz.prog 91 #[.int .i64 (i : Int)] W fun e w' => e = .returned (.bool true) ∧ W = w') := fun W => Lib.hid (by rw [← hcl]; exact client_any W i)
  have hi8 : i < 8 := by omega
  clear hak h hP hb hg hg2 hcl hlen hgs hls
  generalize s.last[i] = a at *
  obtain ⟨at', ae, ao⟩ := a
  simp only at q0 q1 q2 hlt
  unfold RV
  unfold RC at HAK HM a0 a1 a2 a3 a4 a5 a6 r0 r1 fr0 fr1 q0 q1 q2 ⊢
  have heb : (time == at') = false := beq_eq_false_iff_ne.2 (by omega)
  go_enter Tryz.func70, Tryz.ntmps70
  go_wp2_with fail
  refine HM.out.mono ?_
  rintro e w1 ⟨rfl, rfl⟩
  go_wp2_with fail
  refine (HCN _).out.mono ?_
  rintro e w1 ⟨rfl, rfl⟩
  go_wp2_with fail
  generalize (w.alloc (.cells #[.int .i64 (i : Int), .int .i64 time, .int .i64 o.kind, .string ⟨o.topic.toArray⟩, .string ⟨o.group.toArray⟩, .int .i64 o.off, .slice A o.recs.length c] 100)).alloc (.cells #[.int .i64 0, .int .i64 0] 69) = W0 at *
  go_region_held3 (fun w' => w'.cell? ⟨w.heap.size, 0, none⟩ = some (.int .i64 (i : Int)) ∧ w'.cell? ⟨p, 1 + i * 3, none⟩ = some (.int .i64 at') ∧ w'.cell? ⟨p, 1 + i * 3 + 1, none⟩ = some (.int .i64 ae) ∧ w'.cell? ⟨p, 1 + i * 3 + 2, none⟩ = some (.int .i64 ao)) (first | exact ⟨a0, q0, q1, q2⟩ | go_keep) (fail)
  have hb1 : Below W0.heap.size W0 (W0.alloc (.cells #[.int .i64 at', .int .i64 ae, .int .i64 ao] 71)).drew := below_drewN (op_below _ _) 1
  have hl1 : Blk (W0.alloc (.cells #[.int .i64 at', .int .i64 ae, .int .i64 ao] 71)).drew W0.heap.size 71 #[.int .i64 at', .int .i64 ae, .int .i64 ao] := Blk.new _ _ _
  have HAK1 := Lib.hid (HAK.out.later hb1)
  generalize (W0.alloc (.cells #[.int .i64 at', .int .i64 ae, .int .i64 ao] 71)).drew = W1 at *
  clear a0 a1 a2 a3 a4 a5 a6 r0 r1 fr0 fr1 q0 q1 q2
  obtain ⟨a0, a1, a2, a3, a4, a5, a6⟩ := AK.cells HAK1.out
  obtain ⟨r0, r1, fr0, fr1⟩ := AK.rcells HAK1.out
  have l0 := hl1.cell 0
  have l1 := hl1.cell 1
  have l2 := hl1.cell 2
  simp only [List.getElem?_toArray, List.getElem?_cons_zero, List.getElem?_cons_succ] at l0 l1 l2
  have HB1 := Lib.hid (And.intro hb1 hl1)
  clear hb1 hl1
  go_wp2_with fail
  have hzb := (Tz.bound HZ.out).later HAK1.out.below
  have HDO := Lib.hid (do_any W1 _ R p s o X A c hzb (HLS.out.after HAK1.out.below) hl)
  unfold OV at HDO
  refine HDO.out.mono ?_
  rintro e w2 ⟨v2, B2, rfl, hBB, hps, S2, R2, hz2, hS2, hR2, hc2⟩
  have hreq2 := HAK1.out.req.ch hc2 (fun h => by have := h.2; omega)
  have hres2 := HAK1.out.res.ch hc2 (fun h => by have := h.2; omega)
  have HD2 := Lib.hid (And.intro hz2 (And.intro hS2 (And.intro hR2 (And.intro hc2 (And.intro hBB hps)))))
  clear a0 a1 a2 a3 a4 a5 a6 r0 r1 fr0 fr1 l0 l1 l2 hps hz2 hS2 hR2 hc2 hBB
  have a0 := hreq2.cell 0
  have a1 := hreq2.cell 1
  have r0 := hres2.cell 0
  have r1 := hres2.cell 1
  have fr0 := hres2.frozen 0
  have fr1 := hres2.frozen 1
  unfold RC at a0 a1
  simp only [List.getElem?_toArray, List.getElem?_cons_zero, List.getElem?_cons_succ] at r0 r1 a0 a1
  have HB2 := Lib.hid (And.intro hreq2 hres2)
  clear hreq2 hres2
  generalize he1 : (doesS s.L o).1.1 = ke at *
  generalize he2 : (doesS s.L o).1.2 = ko at *
  have HE12 := Lib.hid (And.intro he1 he2)
  clear he1 he2
  go_wp2_with fail
  have hb3 := op_below w2 (.cells #[.int .i64 ke, .int .i64 ko] 69)
  have hv3 : Blk (w2.alloc (.cells #[.int .i64 ke, .int .i64 ko] 69)) w2.heap.size 69 #[.int .i64 ke, .int .i64 ko] := Blk.new _ _ _
  generalize w2.alloc (.cells #[.int .i64 ke, .int .i64 ko] 69) = W3 at hb3 hv3 ⊢
  have hreq3 := HB2.out.1.below hb3 HB2.out.1.lt
  have hres3 := HB2.out.2.below hb3 HB2.out.2.lt
  have hz3 := HD2.out.1.later hb3
  obtain ⟨m3, D3, G3, V3, M3, F3, hP3⟩ := hz3
  have hi3 : i < (⟨(doesS s.L o).2.2, s.last⟩ : St).last.length := hi
  obtain ⟨u0, u1, u2, q0, q1, q2⟩ : ∃ u0 u1 u2, W3.cell? ⟨p, 1 + i * 3, none⟩ = some (.int .i64 u0) ∧ W3.cell? ⟨p, 1 + i * 3 + 1, none⟩ = some (.int .i64 u1) ∧ W3.cell? ⟨p, 1 + i * 3 + 2, none⟩ = some (.int .i64 u2) := ⟨_, _, _, hP3.cellA hi3⟩
  have fq0 := hP3.blk.frozen (1 + i * 3)
  have fq1 := hP3.blk.frozen (1 + i * 3 + 1)
  have fq2 := hP3.blk.frozen (1 + i * 3 + 2)
  clear a0 a1 r0 r1 fr0 fr1
  have a0 := hreq3.cell 0
  have a1 := hreq3.cell 1
  have m0 := hv3.cell 0
  have m1 := hv3.cell 1
  unfold RC at a0 a1
  simp only [List.getElem?_toArray, List.getElem?_cons_zero, List.getElem?_cons_succ] at a0 a1 m0 m1
  have HB3 := Lib.hid (And.intro hreq3 (And.intro hres3 (And.intro hb3 hv3)))
  have HP3 := Lib.hid hP3
  clear hreq3 hres3 hb3 hv3 hP3 hi3
  go_region_law (fail)
  all_goals
    have hpw : p < w.heap.size := by
      obtain ⟨m', D', G', V', M', F', h'⟩ := HZ.out
      exact h'.blk.lt
    have hz4 := tz_last HP3.out.shut hi8 ⟨time, ke, ko⟩ HGS.out
    have c4 := three_ch W3 p (1 + i * 3) (1 + i * 3 + 1) (1 + i * 3 + 2) (.int .i64 time) (.int .i64 ke) (.int .i64 ko)
    generalize ((W3.setCell ⟨p, 1 + i * 3, none⟩ (.int .i64 time)).setCell ⟨p, 1 + i * 3 + 1, none⟩ (.int .i64 ke)).setCell ⟨p, 1 + i * 3 + 2, none⟩ (.int .i64 ko) = W4 at hz4 c4 ⊢
    have hw2 := HAK1.out.below.size
    have hw3 := HD2.out.2.2.2.1.size
    have hv4 := HB3.out.2.2.2.ch c4 (by omega)
    have hres4 := HB3.out.2.1.ch c4 (by omega)
    clear a0 a1 m0 m1 q0 q1 q2 fq0 fq1 fq2
    have hz4' : Tz W4.drew S2 R2 p _ := hz4.ch (ch_drew (Ch.refl (fun _ => False) W4)) (fun _ _ h => h) (fun _ _ h => h)
    have c4' := ch_drew c4
    have hv4' : Blk W4.drew _ _ _ := hv4
    have hres4' : Blk W4.drew _ _ _ := hres4
    clear hz4 c4 hv4 hres4
    generalize W4.drew = W5 at hz4' c4' hv4' hres4' ⊢
    have m0 := hv4'.cell 0
    have m1 := hv4'.cell 1
    have r0 := hres4'.cell 0
    have r1 := hres4'.cell 1
    have fr0 := hres4'.frozen 0
    have fr1 := hres4'.frozen 1
    simp only [List.getElem?_toArray, List.getElem?_cons_zero, List.getElem?_cons_succ] at m0 m1 r0 r1
    have H4 := Lib.hid (And.intro hz4' (And.intro c4' hres4'))
    have HPW := Lib.hid (And.intro hpw (And.intro hw2 hw3))
    clear hz4' c4' hv4' hres4' hpw hw2 hw3
    go_wp2_with fail
    refine bodyPost_ret (results_row_tmp2 rfl _ _ (w.heap.size + 1) 69 #[.int .i64 ke, .int .i64 ko] (0, 0) _ rfl (blk2 H4.out.2.2 _ _) Tryz.underlying69 rfl Ai.size_res) rfl ?_
    exact asked_of (by rw [HAP.out, ← HE12.out.1, ← HE12.out.2]) (Nat.le_trans HPW.out.2.1 HD2.out.2.2.2.2.1) (apply_ps HPW.out.1 HAK1.out HD2.out.2.2.2.2.1 HD2.out.2.2.2.2.2 HD2.out.2.2.2.1 HB3.out.2.2.1 H4.out.2.1) (apply_fin HZ.out HPW.out.1 HAK1.out HD2.out.2.1 HD2.out.2.2.1 HD2.out.2.2.2.1 HB3.out.2.2.1 H4.out.2.1 H4.out.1)
theorem apply_any (w : World) (S R : Nat → Prop) (p : Nat) (s : St) (client time : Int) (o : O) (X : Nat → Prop) (A : Option Addr) (c : Nat) (h : Tz w S R p s) (hls : Ls w X (.slice A o.recs.length c) o.recs) (hl : o.recs.length ≤ 140737488355328) :
    Calls Tryz.prog 70 #[.pointer (some ⟨p, 0, none⟩), RV client time o A c] w (Asked S R p s client time o w) := by
  by_cases hb : badArg client time = true
  · exact apply_bad w S R p s client time o A c hb h
  · have hb := Bool.eq_false_iff.2 hb
    by_cases hle : time ≤ (s.last.getD client.toNat An.zero).time
    · exact apply_old w S R p s client time o A c hb hle h
    · exact apply_new w S R p s client time o X A c hb (by omega) h hls hl
end Go.Proofs.YtobphijbhghgmaaGreat.Al

/-
  The plain mathematics of layer 7 (topics): what is asked of topics.
-/
namespace Go.Proofs.YtobphijbhghgmaaGreat.To
set_option linter.unusedSimpArgs false
set_option linter.unusedVariables false
open Cm Pm Pz Tm Tn Tq
/-- What Bounds answers. -/
def boundsT (L : List Tp) (s : Tx) : Int × Int × Int := match findT L s with
  | none => (0, 0, 4)
  | some t => (t.base, t.next, 0)
end Go.Proofs.YtobphijbhghgmaaGreat.To

/-
  Contracts of the program's topics: Bounds, Get.
-/
namespace Go.Proofs.YtobphijbhghgmaaGreat.Am
set_option linter.unusedSimpArgs false
open Go Go.RowKit Ck Kw Ga Kf Km Pm Pz Tm Tn Tq To Aa Ab Ac
attribute [local go_sem ↓] Go.wp_at_zero Go.wp_at_succ
set_option linter.unusedVariables false

set_option maxRecDepth 100000 in
set_option maxHeartbeats 1000000 in
theorem bounds_any (w : World) (S R : Nat → Prop) (p : Nat) (s : St) (x : Tx) (hx : x.length ≤ 140737488355328) (h : Tz w S R p s) :
    Calls Tryz.prog 68 #[.pointer (some ⟨p, 0, none⟩), .string ⟨x.toArray⟩] w fun e w' => e = .returned (.tuple #[.int .i64 (boundsT s.L x).1, .int .i64 (boundsT s.L x).2.1, .int .i64 (boundsT s.L x).2.2]) ∧ Below w.heap.size w w' := by
  obtain ⟨m, D, G, V, M, F, hP⟩ := h
  have HF := Lib.hid (find_on w S R p m s D G V M F x hx hP)
  cases hf : findT s.L x with
  | none =>
    have e : boundsT s.L x = (0, 0, 4) := by rw [boundsT, hf]
    rw [e]
    rw [hf] at HF
    unfold PV at HF
    simp only [Option.map_none, Option.isSome_none] at HF
    clear hP hf e hx
    go_enter Tryz.func68, Tryz.ntmps68
    go_wp2_with fail
    refine HF.out.mono ?_
    rintro e w2 ⟨rfl, rfl⟩
    go_wp2_with fail
    go_ret3
    exact ⟨rfl, Below.refl _ _⟩
  | some t =>
    have e : boundsT s.L x = (t.base, t.next, 0) := by rw [boundsT, hf]
    rw [e]
    obtain ⟨ht, hn⟩ := findT_some hf
    have hT := hP.top t ht
    have hfit := hP.good.L.fit t ht
    have HN := Lib.hid (next_any w.drew _ R _ t _ _ (Tg.later hT (below_drewN (Below.refl _ w) 1)) hfit.base hfit.next)
    have c0 : w.cell? ⟨G t.n, 0, none⟩ = some (.int .i64 t.base) := hT.blk.cell 0
    have HT := Lib.hid hT
    rw [hf] at HF
    unfold PV at HF
    simp only [Option.map_some, Option.isSome_some] at HF
    clear hP hf e hx hT hfit ht hn
    go_enter Tryz.func68, Tryz.ntmps68
    go_wp2_with fail
    refine HF.out.mono ?_
    rintro e w2 ⟨rfl, rfl⟩
    go_wp2_with fail
    go_region_held3 (fun w' => w'.cell? ⟨G t.n, 0, none⟩ = some (.int .i64 t.base)) (first | exact c0 | exact j0)
      (first
        | (go_at_call 87; refine HN.out.mono ?_; rintro e w3 ⟨rfl, hb3⟩; have hb3' := below_of_drew hb3; have j0 : w3.cell? ⟨G t.n, 0, none⟩ = some (.int .i64 t.base) := (HT.out.blk.below hb3' HT.out.blk.lt).cell 0))
    all_goals
      go_wp2_with fail
      go_ret3
      exact ⟨rfl, hb3'⟩
end Go.Proofs.YtobphijbhghgmaaGreat.Am

/-
  The contract of the laws' live.
-/
namespace Go.Proofs.YtobphijbhghgmaaGreat.An
set_option linter.unusedSimpArgs false
open Go Go.RowKit Ck Kw Ga Kf Km Kd Pm Pz Pe Pg Py Qb Qg Tm Tn Tq To Aa Ab Ac Ad Ae Af Ag Ah Ai Aj Al Am
attribute [local go_sem ↓] Go.wp_at_zero Go.wp_at_succ
set_option linter.unusedVariables false

def o1 : O := ⟨1, [116], [], 0, []⟩
def o2 : O := ⟨2, [116], [], 0, [[1], [2]]⟩
def o3 : O := ⟨0, [], [], 0, []⟩
def s1 : St := (appS St.zero 0 1 o1).2.2.2
def s2 : St := (appS s1 1 1 o2).2.2.2
/-- Topics that are in none of the blocks N. -/
def On (N : Nat → Prop) (w : World) (p : Nat) (s : St) : Prop := ∃ S R, Tz w S R p s ∧ (∀ k, S k → ¬ N k ∧ k < w.heap.size) ∧ ∀ k, R k → ¬ N k
section
variable {N N' : Nat → Prop} {p : Nat} {w w' : World} {s s' : St} {X : Nat → Prop}
theorem On.ch (h : On N w p s) (c : Ch X w w') (hx : ∀ k, X k → N k) : On N w' p s := by
  obtain ⟨S, R, h1, h2, h3⟩ := h
  exact ⟨S, R, h1.ch c (fun k hk hX => (h2 k hk).1 (hx k hX)) (fun k hk hX => h3 k hk (hx k hX)), fun k hk => ⟨(h2 k hk).1, Nat.lt_of_lt_of_le (h2 k hk).2 c.size⟩, h3⟩
theorem On.later (h : On N w p s) (b : Below w.heap.size w w') : On N w' p s := h.ch (Ch.of_below (S := fun _ => False) b (Nat.le_refl _)) (fun _ h => h.elim)
theorem On.weaken (h : On N w p s) (hn : ∀ k, N' k → N k) : On N' w p s := by
  obtain ⟨S, R, h1, h2, h3⟩ := h
  exact ⟨S, R, h1, fun k hk => ⟨fun h => (h2 k hk).1 (hn k h), (h2 k hk).2⟩, fun k hk h => h3 k hk (hn k h)⟩
/-- What is made beside them is none of them. -/
theorem On.skip (h : On N w p s) (b : Below w.heap.size w w') : On (fun k => N k ∨ (w.heap.size ≤ k ∧ k < w'.heap.size)) w' p s := by
  obtain ⟨S, R, h1, h2, h3⟩ := h
  refine ⟨S, R, h1.later b, fun k hk => ⟨fun h => ?_, Nat.lt_of_lt_of_le (h2 k hk).2 b.size⟩, fun k hk h => ?_⟩
  · rcases h with h | h
    · exact (h2 k hk).1 h
    · have := (h2 k hk).2; omega
  · rcases h with h | h
    · exact h3 k hk h
    · have := (Tz.rlt h1 k hk).2; omega
theorem On.good (h : On N w p s) : GoodS s := by
  obtain ⟨S, R, h1, h2, h3⟩ := h
  exact h1.good
/-- What a request leaves of topics that are in none of the blocks N. -/
theorem On.asked {client time : Int} {o : O} {A : Option Addr} {c : Nat} {k off : Int} {b : Bool} {pl : List (Tx × Int × Tx)} (h : On N w p s) (hN : ∀ k, N k → k < w.heap.size) (hls : Ls w X (.slice A o.recs.length c) o.recs) (hl : o.recs.length ≤ 140737488355328) (ha : appS s client time o = ((k, off), pl, b, s')) :
    Calls Tryz.prog 70 #[.pointer (some ⟨p, 0, none⟩), RV client time o A c] w fun e w' => ∃ v B, e = .returned (.tuple #[.agg #[.int .i64 k, .int .i64 off], v, .bool b]) ∧ w.heap.size ≤ B ∧ Ps w' B v pl ∧ On (fun k => N k ∨ (B ≤ k ∧ k < w'.heap.size)) w' p s' ∧ Ch (fun k => ¬ N k ∧ k < w.heap.size) w w' := by
  obtain ⟨S, R, h1, h2, h3⟩ := h
  refine (apply_any w S R p s client time o X A c h1 hls hl).mono ?_
  intro e w' he
  unfold Asked at he
  rw [ha] at he
  obtain ⟨v, B, hv, hB, hp, S', R', g1, g2, g3, g4⟩ := he
  have hs := g4.size
  refine ⟨v, B, hv, hB, hp, ⟨_, R', Tz.bound g1, fun k hk => ⟨fun h => ?_, hk.2⟩, fun k hk h => ?_⟩, g4.mono (fun k hk hs => h2 k hs)⟩
  · obtain ⟨q1, q2⟩ := g2 k hk.1
    rcases h with h | h
    · rcases q1 with q | q
      · exact (h2 k q).1 h
      · have := hN k h; omega
    · omega
  · obtain ⟨q1, q2⟩ := g3 k hk
    rcases h with h | h
    · rcases q1 with q | q
      · exact h3 k q h
      · have := hN k h; omega
    · omega
end
end Go.Proofs.YtobphijbhghgmaaGreat.An

/-
  Contracts of the program's table that only read: made, Look, Len, Open.
-/
namespace Go.Proofs.YtobphijbhghgmaaGreat.Ia
set_option linter.unusedSimpArgs false
set_option linter.unusedVariables false
set_option maxRecDepth 100000
open Go Go.RowKit Ck Im Kw Ik

theorem made_yes (w : World) (S : Nat → Prop) (p : Nat) (L : List Tx) (h : Tb w S p L) :
    Calls Tryz.prog 60 #[.pointer (some ⟨p, 0, none⟩)] w fun e w' => e = .returned (.bool true) ∧ w = w' := by
  obtain ⟨m, tv, D, h1, -⟩ := h
  have c0 : w.cell? ⟨p, 0, none⟩ = some (.map (some m)) := h1.cell 0
  have hq := fun W => run_neq_map_nil (P := Tryz.prog) W 55 9 22 (some m) Tryz.underlying55
  clear h1
  go_enter Tryz.func60, Tryz.ntmps60
  go_wp2
  go_ret
  exact ⟨rfl, rfl⟩
theorem len_yes (w : World) (S : Nat → Prop) (p : Nat) (L : List Tx) (h : Tb w S p L) :
    Calls Tryz.prog 93 #[.pointer (some ⟨p, 0, none⟩)] w fun e w' => e = .returned (.int .i64 L.length) ∧ w = w' := by
  have hm := made_yes w S p L h
  obtain ⟨m, tv, D, h1, -, -, hown, -⟩ := h
  obtain ⟨A, c, rfl⟩ := own_shape hown
  have c1 : w.cell? ⟨p, 1, none⟩ = some (.slice A L.length c) := h1.cell 1
  have HM := Lib.hid hm
  clear h1 hm hown
  go_enter Tryz.func93, Tryz.ntmps93
  go_wp2_with (go_at_call 60; refine HM.out.mono ?_; rintro e w' ⟨rfl, rfl⟩)
  go_ret
  exact ⟨rfl, rfl⟩
theorem law_str : Maps.Keyed Tryz.prog 9 := Maps.string_keyed Tryz.underlying9
theorem zero_digest (w : World) : (zeroValue 22).run Tryz.prog w = .ok (.int .i64 0) w := by kernel_rfl

/-- The map's look-up, in the document's words. -/
theorem run_look {w : World} {m n : Nat} {D : DataW Unit} {L : List Tx} (h : w.ownsMap Tryz.prog 9 (plainElem Tryz.prog 22) m n D) (hN : Nums D L) (s : Tx) (hs : s.length ≤ maxLen) :
    (Instr.lookup 55 (.map (some m)) (.string ⟨s.toArray⟩) true).run Tryz.prog w = .ok (.tuple #[.int .i64 (num L s : Int), .bool (isIn L s)]) w := by
  obtain ⟨v, ps, hrun, hv⟩ := h.look_ok law_str Tryz.underlying55 (zero_digest w) (zd := .lit (.int .i64 0)) (zp := []) (plainElem_int Tryz.underlying22 (by decide)) (key := .string ⟨s.toArray⟩) (kl := .string s)
    (by have := _root_.Go.WideMaps.keyOf_string_mk (P := Tryz.prog) Tryz.underlying9 (s := ⟨s.toArray⟩) (show s.toArray.size ≤ maxLen by simpa using hs); simpa using this)
  rw [(hN s).2] at hv
  obtain ⟨c, rfl, hc, _⟩ := plainElem_int_inv Tryz.underlying22 hv
  have hc : (DataW.lit (.int .i64 (num L s : Int)) : DataW Unit) = .lit (.int .i64 c) := congrArg Prod.fst hc
  injection hc with hc
  injection hc with _ hc
  rw [hrun, (hN s).1, hc]

set_option maxHeartbeats 400000 in
theorem look_yes (w : World) (S X : Nat → Prop) (p : Nat) (L : List Tx) (A : Option Addr) (c : Nat) (b : Tx) (h : Tb w S p L) (hb : Sl w X 1 (.slice A b.length c) b.length (BVs b)) (hl : b.length ≤ 140737488355328) :
    Calls Tryz.prog 59 #[.pointer (some ⟨p, 0, none⟩), .slice A b.length c] w fun e w' => e = .returned (.tuple #[.int .i64 (num L b : Int), .bool (isIn L b)]) ∧ ∃ n, w' = w.drewN n := by
  have hm := made_yes w S p L h
  obtain ⟨m, tv, D, h1, hown, hN, -⟩ := h
  have c0 : w.cell? ⟨p, 0, none⟩ = some (.map (some m)) := h1.cell 0
  have e1 := fun nq : Nat => run_convert_sl (P := Tryz.prog) (w.drewN nq) X 25 9 5 A c b Tryz.underlying25 Tryz.underlying5 Tryz.underlying9 (hb.drewN nq)
  have e2 := fun nq : Nat => run_look (w := w.drewN nq) (hown : (w.drewN nq).ownsMap _ _ _ _ _ _) hN b (by simp only [maxLen]; omega)
  have HM := Lib.hid hm
  clear h1 hm hown hN
  go_enter Tryz.func59, Tryz.ntmps59
  go_wp2_with (go_at_call 60; refine HM.out.mono ?_; rintro e w' ⟨rfl, rfl⟩)
  go_quiet (fail)
  go_wp2
  go_ret2
  exact ⟨rfl, _, rfl⟩
end Go.Proofs.YtobphijbhghgmaaGreat.Ia
