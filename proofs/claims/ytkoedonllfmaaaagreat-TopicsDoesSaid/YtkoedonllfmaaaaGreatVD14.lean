/-
  Contract of the program's topics: do.
-/
import Derived.Test.YtkoedonllfmaaaaGreatVD08
import Derived.Test.YtkoedonllfmaaaaGreatVD13
namespace Go.Proofs.YtkoedonllfmaaaaGreat.Ai
set_option linter.unusedSimpArgs false
open Go Go.RowKit Ck Kw Ga Kf Km Kd Pm Pz Pe Pg Py Qb Qg Tm Tn Tq Aa Ab Ac Ad Ae Af Ag Ah
attribute [local go_sem ↓] Go.wp_at_zero Go.wp_at_succ
set_option linter.unusedVariables false

theorem small_of {o : O} (h : check o = 0) : o.topic.length ≤ 64 ∧ o.group.length ≤ 64 ∧ o.recs.length ≤ 4 ∧ (∀ x ∈ o.recs, x.length ≤ 64) ∧ (hasR o.kind = false → o.recs = []) := by
  obtain ⟨h1, h2, h3, h4⟩ := check_lens h
  obtain ⟨_, hm, _, _, _⟩ := check_ok h
  simp only [more, Bool.or_eq_false_iff, Bool.and_eq_false_iff, Bool.not_eq_false'] at hm
  obtain ⟨⟨⟨m1, m2⟩, _⟩, m4⟩ := hm
  refine ⟨?_, ?_, ?_, ?_, ?_⟩
  · rcases m1 with m | m
    · exact h1 (by simpa using m)
    · have e : o.topic = [] := List.isEmpty_iff.1 (by simpa using m)
      simp [e]
  · rcases m2 with m | m
    · exact h2 (by simpa using m)
    · have e : o.group = [] := List.isEmpty_iff.1 (by simpa using m)
      simp [e]
  · rcases m4 with m | m
    · exact (h4 (by simpa using m)).2.1
    · have e : o.recs = [] := List.isEmpty_iff.1 (by simpa using m)
      simp [e]
  · rcases m4 with m | m
    · exact (h4 (by simpa using m)).2.2.1
    · have e : o.recs = [] := List.isEmpty_iff.1 (by simpa using m)
      simp [e]
  · intro hR
    rcases m4 with m | m
    · rw [hR] at m; cases m
    · exact List.isEmpty_iff.1 (by simpa using m)
theorem far_of {o : O} (h : check o = 0) : far o 140737488351232 := by
  obtain ⟨h1, h2, h3, h4, _⟩ := small_of h
  exact ⟨by omega, by omega, by omega, fun l hl => by have := h4 l hl; omega⟩
/-- What an error leaves. -/
theorem does_err {L : List Tp} (hL : GoodL L) {o : O} (h : (doesS L o).1.1 ≠ 0) : (doesS L o).1.2 = 0 ∧ (doesS L o).2.1 = [] := by
  refine ⟨?_, ?_⟩
  · rcases (doesS_good hL o).2.2.2.2.2.2 with h' | h'
    · exact absurd h' h
    · exact h'
  · revert h
    unfold doesS
    repeat' split
    all_goals first
      | (intro h; rfl)
      | (intro h; exact absurd rfl h)
theorem does_placed {L : List Tp} {o : O} (hc : check o = 0) (h : (doesS L o).1.1 = 0) : (doesS L o).2.1 = placed o.topic (doesS L o).1.2 o.recs := by
  have hr := (small_of hc).2.2.2.2
  have e0 : o.kind ≠ 2 → o.recs = [] := fun hk => hr (by simp only [hasR, beq_eq_false_iff_ne]; exact hk)
  revert h
  unfold doesS
  split
  · rename_i h0; exact absurd hc h0
  · split
    · rename_i hk; intro _; rw [e0 (by omega)]; rfl
    · split
      · rename_i hk
        rw [e0 (by omega)]
        repeat' split
        all_goals (intro _; rfl)
      · split
        · intro h; exact absurd h (by simp)
        · split
          · split
            · intro h; exact absurd h (by simp)
            · intro _; rfl
          · rename_i hk2
            rw [e0 hk2]
            repeat' split
            all_goals (intro _; rfl)
/-- Topics s' behind a request. -/
def Applied (S R : Nat → Prop) (p : Nat) (s' : St) (B : Nat) (w w' : World) : Prop :=
  ∃ S' R', Tz w' S' R' p s' ∧ (∀ k, S' k → Up S w w' k ∧ k < B) ∧ (∀ k, R' k → Up R w w' k ∧ k < B) ∧ Ch S w w'
theorem Tz.bound {w : World} {S R : Nat → Prop} {p : Nat} {s : St} (h : Tz w S R p s) : Tz w (fun k => S k ∧ k < w.heap.size) R p s := by
  obtain ⟨m, D, G, V, M, F, h⟩ := h
  exact ⟨m, D, G, V, M, F, h.blk, ⟨h.sp, h.blk.lt⟩, h.own, h.tells, ⟨⟨h.sm.1, h.own.lt⟩, h.sm.2⟩, h.top, fun t ht k hk => ⟨⟨(h.sub t ht k hk).1, (h.sub t ht k hk).2.2.2⟩, (h.sub t ht k hk).2⟩, h.apart, fun k hk => ⟨fun hs => (h.rs k hk).1 hs.1, (h.rs k hk).2⟩, h.good⟩
theorem Tz.moreR {w : World} {S R R' : Nat → Prop} {p : Nat} {s : St} (h : Tz w S R p s) (hr : ∀ k, R k → R' k) (hs : ∀ k, R' k → ¬ S k ∧ k < w.heap.size) : Tz w S R' p s := by
  obtain ⟨m, D, G, V, M, F, h⟩ := h
  exact ⟨m, D, G, V, M, F, h.blk, h.sp, h.own, h.tells, h.sm, fun t ht => (h.top t ht).more hr (fun _ h => h), h.sub, h.apart, hs, h.good⟩
theorem applied_refl {w w' : World} {S R : Nat → Prop} {p : Nat} {s : St} (h : Tz w S R p s) (b : Below w.heap.size w w') : Applied S R p s w.heap.size w w' :=
  ⟨_, R, (Tz.bound h).later b, fun _ h => ⟨.inl h.1, h.2⟩, fun k hk => ⟨.inl hk, (Tz.rlt h k hk).2⟩, Ch.of_below b (Nat.le_refl _)⟩
/-- What do leaves. -/
def Done (S R : Nat → Prop) (p : Nat) (s : St) (o : O) (w : World) (e : Ending) (w' : World) : Prop :=
  ∃ v B, e = .returned (.tuple #[.agg #[.int .i64 (doesS s.L o).1.1, .int .i64 (doesS s.L o).1.2], v]) ∧ w.heap.size ≤ B ∧ Ps w' B v (doesS s.L o).2.1 ∧ Applied S R p ⟨(doesS s.L o).2.2, s.last⟩ B w w'
/-- do's own blocks: the operation, and the result. -/
structure DK (w : World) (o : O) (A : Option Addr) (c : Nat) (W : World) : Prop where
  below : Below w.heap.size w W
  op : OB W w.heap.size o A c
  res : Blk W (w.heap.size + 1) 30 #[.int .i64 0, .int .i64 0]
theorem DK.later {w W W' : World} {o : O} {A : Option Addr} {c : Nat} (h : DK w o A c W) (b : Below W.heap.size W W') : DK w o A c W' := ⟨h.below.trans (b.mono h.below.size), Blk.below h.op b (Blk.lt h.op), h.res.below b h.res.lt⟩
theorem DK.ch {w W W' : World} {o : O} {A : Option Addr} {c : Nat} {S : Nat → Prop} (h : DK w o A c W) (k : Ch S W W') (hs : ∀ k, S k → k < w.heap.size) : Blk W' w.heap.size 38 (OC o A c) ∧ Blk W' (w.heap.size + 1) 30 #[.int .i64 0, .int .i64 0] :=
  ⟨Blk.ch h.op k (fun e => by have := hs _ e; omega), h.res.ch k (fun e => by have := hs _ e; omega)⟩
theorem dk_new (w : World) (o : O) (A : Option Addr) (c : Nat) : DK w o A c ((w.alloc (.cells (OC o A c) 38)).alloc (.cells #[.int .i64 0, .int .i64 0] 30)) := by
  have hz : (w.alloc (.cells (OC o A c) 38)).heap.size = w.heap.size + 1 := by simp
  exact ⟨(op_below w _).trans ((op_below _ _).mono (by omega)), Blk.below (op_new w o A c) (op_below _ _) (by omega), by rw [← hz]; exact Blk.new _ _ _⟩
theorem size_res : (Tryz.prog.info? 30).map (·.size) = some 2 := by kernel_rfl
theorem blk2 {W : World} {g : Nat} {t : TypeId} {x y : Value} (h : Blk W g t #[x, y]) (u v : Value) : Blk ((W.setCell ⟨g, 0, none⟩ u).setCell ⟨g, 1, none⟩ v) g t #[u, v] := (h.set_ 0 u).set_ 1 v
theorem below2 {B : Nat} {w W : World} {g : Nat} (h : Below B w W) (hg : B ≤ g) (u v : Value) : Below B w ((W.setCell ⟨g, 0, none⟩ u).setCell ⟨g, 1, none⟩ v) := (h.setCell hg _).setCell hg _
set_option maxRecDepth 100000 in
set_option maxHeartbeats 1000000 in
theorem do_bad (w : World) (S R : Nat → Prop) (p : Nat) (s : St) (o : O) (X : Nat → Prop) (A : Option Addr) (c : Nat) (hc : check o ≠ 0) (h : Tz w S R p s) (hls : Ls w X (.slice A o.recs.length c) o.recs) (hl : o.recs.length ≤ 140737488355328) :
    Calls Tryz.prog 19 #[.pointer (some ⟨p, 0, none⟩), OV o A c] w (Done S R p s o w) := by
  have hdk := dk_new w o A c
  have HDK := Lib.hid hdk
  have HZ := Lib.hid h
  obtain ⟨a0, a1, a2, a3, a4⟩ := hdk.op.cells
  have HC := Lib.hid (check_any o _ X _ ⟨A, c, rfl, (hls.after (op_below w (.cells (OC o A c) 38))).after (op_below _ (.cells #[.int .i64 0, .int .i64 0] 30))⟩ hl)
  have HD : Hid (doesS s.L o = ((check o, 0), [], s.L)) := Lib.hid (by rw [doesS, if_pos hc])
  have hcb : (check o == 0) = false := beq_eq_false_iff_ne.2 hc
  clear hdk h hls hl hc
  unfold Done
  rw [HD.out]
  unfold OV at HC ⊢
  unfold OC at HDK HC a0 a1 a2 a3 a4
  generalize check o = k at *
  go_enter Tryz.func19, Tryz.ntmps19
  go_wp2_with fail
  refine HC.out.mono ?_
  rintro e w1 ⟨rfl, hb1⟩
  have HDK1 := Lib.hid (HDK.out.later hb1)
  have r0 := HDK1.out.res.cell 0
  have r1 := HDK1.out.res.cell 1
  have fr0 := HDK1.out.res.frozen 0
  have fr1 := HDK1.out.res.frozen 1
  simp only [List.getElem?_toArray, List.getElem?_cons_zero, List.getElem?_cons_succ] at r0 r1
  clear hb1
  go_wp2_with fail
  refine bodyPost_ret (results_row_tmp rfl _ _ (w.heap.size + 1) 30 #[.int .i64 k, .int .i64 0] (0, 0) _ rfl (blk2 HDK1.out.res _ _) Tryz.underlying30 rfl size_res) rfl ?_
  exact ⟨_, _, rfl, Nat.le_refl _, Ps.nil _ _, applied_refl HZ.out (below2 HDK1.out.below (by omega) _ _)⟩

theorem ins_ch {w0 W W' : World} {R S : Nat → Prop} {A : Option Addr} {c : Nat} {recs : List Tx} {vals : List Value} (h : CL w0 (.slice A recs.length c) recs vals recs.length W) (k : Ch S W W') (hs : ∀ k, S k → k < w0.heap.size) : Ins W' (fun k => R k ∨ (w0.heap.size ≤ k ∧ k < W.heap.size)) A c recs :=
  ⟨vals, Sl.of_own (own_ch h.row k (fun g hg e => by have := (h.row.lt g hg).1; have := hs _ e; omega)) (fun _ _ _ h => h), fun i hi => by
    obtain ⟨u, hu, ho⟩ := h.mine i hi hi
    exact ⟨u, hu, Sl.of_own' (own_ch ho k (fun g hg e => by have := (ho.lt g hg).1; have := hs _ e; omega)) (fun q h1 h2 => h2 (.inr (ho.lt q h1)))⟩⟩
theorem applied_fin {w w1 w2 w3 w4 w5 : World} {S R : Nat → Prop} {p : Nat} {s' : St} (s1 : w.heap.size ≤ w1.heap.size) (s2 : w1.heap.size ≤ w2.heap.size) (s3 : w2.heap.size ≤ w3.heap.size) (b : Below w.heap.size w w3)
    (hR : ∀ k, R k → k < w.heap.size) (hd : Did (fun k => S k ∧ k < w.heap.size) (fun k => R k ∨ (w1.heap.size ≤ k ∧ k < w2.heap.size)) p s' w3 w4) (c : Ch (fun k => w.heap.size ≤ k ∧ k < w1.heap.size) w4 w5) : Applied S R p s' w4.heap.size w w5 := by
  have s4 := hd.2.size
  have s5 := c.size
  refine ⟨_, _, hd.1.ch c (fun k hk h => ?_) (fun k hk h => ?_), fun k hk => ?_, fun k hk => ?_, ?_⟩
  · rcases hk with hk | ⟨h1, h2⟩
    · have := hk.2; omega
    · omega
  · rcases hk with hk | ⟨h1, h2⟩
    · have := hR k hk; omega
    · omega
  · rcases hk with hk | ⟨h1, h2⟩
    · exact ⟨.inl hk.1, by have := hk.2; have := b.size; omega⟩
    · exact ⟨.inr ⟨by omega, by omega⟩, h2⟩
  · rcases hk with hk | ⟨h1, h2⟩
    · exact ⟨.inl hk, by have := hR k hk; have := b.size; omega⟩
    · exact ⟨.inr ⟨by omega, by omega⟩, by omega⟩
  · have c3 : Ch S w w4 := (Ch.of_below (S := S) b (Nat.le_refl _)).trans (hd.2.mono (T := S) (fun k _ hk => hk.1)) (fun _ _ h => h)
    exact c3.trans c (fun k h1 h2 => by omega)
theorem done_of {w w' : World} {S R : Nat → Prop} {p : Nat} {s : St} {o : O} {k off : Int} {v : Value} {pl : List (Tx × Int × Tx)} (h1 : (doesS s.L o).1.1 = k) (h2 : (doesS s.L o).1.2 = off) (h3 : (doesS s.L o).2.1 = pl) {B : Nat} (hB : w.heap.size ≤ B) (h4 : Ps w' B v pl) (h5 : Applied S R p ⟨(doesS s.L o).2.2, s.last⟩ B w w') :
    Done S R p s o w (.returned (.tuple #[.agg #[.int .i64 k, .int .i64 off], v])) w' := by
  subst h1; subst h2; subst h3
  exact ⟨v, B, rfl, hB, h4, h5⟩
theorem own_cells {w w1 W W' : World} {g : Nat} (h : w.heap.size ≤ g) (h' : g < w1.heap.size) (c : Ch (fun k => w.heap.size ≤ k ∧ k < w1.heap.size) W W') (u v : Value) : Ch (fun k => w.heap.size ≤ k ∧ k < w1.heap.size) W ((W'.setCell ⟨g, 0, none⟩ u).setCell ⟨g, 1, none⟩ v) :=
  (c.setCell (p := ⟨g, 0, none⟩) (fun _ => ⟨h, h'⟩) _).setCell (p := ⟨g, 1, none⟩) (fun _ => ⟨h, h'⟩) _
theorem five {W : World} {g : Nat} {o : O} {A A2 : Option Addr} {c c2 : Nat} (h : OB W g o A c) :
    OB (((((W.setCell ⟨g, 0, none⟩ (.int .i64 o.kind)).setCell ⟨g, 1, none⟩ (.string ⟨o.topic.toArray⟩)).setCell ⟨g, 2, none⟩ (.string ⟨o.group.toArray⟩)).setCell ⟨g, 3, none⟩ (.int .i64 o.off)).setCell ⟨g, 4, none⟩ (.slice A2 o.recs.length c2)) g o A2 c2 :=
  ((((Blk.set_ h 0 _).set_ 1 _).set_ 2 _).set_ 3 _).set_ 4 _
theorem five_ch (W : World) (g : Nat) (x0 x1 x2 x3 x4 : Value) : Ch (fun k => k = g) W (((((W.setCell ⟨g, 0, none⟩ x0).setCell ⟨g, 1, none⟩ x1).setCell ⟨g, 2, none⟩ x2).setCell ⟨g, 3, none⟩ x3).setCell ⟨g, 4, none⟩ x4) :=
  (((((Ch.refl (fun k => k = g) W).setCell (p := ⟨g, 0, none⟩) (fun _ => rfl) _).setCell (p := ⟨g, 1, none⟩) (fun _ => rfl) _).setCell (p := ⟨g, 2, none⟩) (fun _ => rfl) _).setCell (p := ⟨g, 3, none⟩) (fun _ => rfl) _).setCell (p := ⟨g, 4, none⟩) (fun _ => rfl) _
set_option maxRecDepth 100000 in
set_option maxHeartbeats 2000000 in
theorem do_ok (w : World) (S R : Nat → Prop) (p : Nat) (s : St) (o : O) (X : Nat → Prop) (A : Option Addr) (c : Nat) (hc : check o = 0) (h : Tz w S R p s) (hls : Ls w X (.slice A o.recs.length c) o.recs) :
    Calls Tryz.prog 19 #[.pointer (some ⟨p, 0, none⟩), OV o A c] w (Done S R p s o w) := by
  have hdk := dk_new w o A c
  have HDK := Lib.hid hdk
  have HZ := Lib.hid h
  have hsm := small_of hc
  have hls2 := (hls.after (op_below w (.cells (OC o A c) 38))).after (op_below _ (.cells #[.int .i64 0, .int .i64 0] 30))
  obtain ⟨a0, a1, a2, a3, a4⟩ := hdk.op.cells
  have HC := Lib.hid (check_any o _ X _ ⟨A, c, rfl, hls2⟩ (by omega))
  have HLS := Lib.hid hls2
  have HCK := Lib.hid hc
  have HSM := Lib.hid hsm
  have HDE := Lib.hid (fun h => does_err h.good.L (L := s.L) (o := o) : Tz w S R p s → _)
  clear hdk h hls hls2 hsm hc
  unfold OV at HC ⊢
  unfold OC at HDK HC HLS a0 a1 a2 a3 a4
  rw [HCK.out] at HC
  go_enter Tryz.func19, Tryz.ntmps19
  go_wp2_with fail
  refine HC.out.mono ?_
  rintro e w1 ⟨rfl, hb1⟩
  have HDK1 := Lib.hid (HDK.out.later hb1)
  have HCL := Lib.hid (clone_any w1 o X A c (HLS.out.after hb1) (far_of HCK.out))
  clear hb1 a0 a1 a2 a3 a4
  obtain ⟨a0, a1, a2, a3, a4⟩ := HDK1.out.op.cells
  unfold OV at HCL
  go_wp2_with fail
  refine HCL.out.mono ?_
  rintro e w2 ⟨A2, c2, vals, rfl, hcl⟩
  have HDK2 := Lib.hid (HDK1.out.later hcl.below)
  have HCL2 := Lib.hid hcl
  clear hcl a0 a1 a2 a3 a4
  obtain ⟨a0, a1, a2, a3, a4⟩ := HDK2.out.op.cells
  have f0 := Blk.frozen HDK2.out.op 0
  have f1 := Blk.frozen HDK2.out.op 1
  have f2 := Blk.frozen HDK2.out.op 2
  have f3 := Blk.frozen HDK2.out.op 3
  have f4 := Blk.frozen HDK2.out.op 4
  unfold OV
  go_wp2_with fail
  have hop3 := five (A2 := A2) (c2 := c2) HDK2.out.op
  have hch3 := five_ch w2 w.heap.size (.int .i64 o.kind) (.string ⟨o.topic.toArray⟩) (.string ⟨o.group.toArray⟩) (.int .i64 o.off) (.slice A2 o.recs.length c2)
  generalize (((((w2.setCell ⟨w.heap.size, 0, none⟩ (.int .i64 o.kind)).setCell ⟨w.heap.size, 1, none⟩ (.string ⟨o.topic.toArray⟩)).setCell ⟨w.heap.size, 2, none⟩ (.string ⟨o.group.toArray⟩)).setCell ⟨w.heap.size, 3, none⟩ (.int .i64 o.off)).setCell ⟨w.heap.size, 4, none⟩ (.slice A2 o.recs.length c2)) = w3 at hop3 hch3 ⊢
  have z1 : w.heap.size + 2 ≤ w1.heap.size := by have := HDK1.out.res.lt; omega
  have z2 := HCL2.out.below.size
  have z3 := hch3.size
  have HZS := Lib.hid (And.intro z1 (And.intro z2 z3))
  have hres3 := HDK2.out.res.ch hch3 (by omega)
  have b3 : Below w.heap.size w w3 := ⟨hch3.os.trans HDK2.out.below.os, hch3.tape.trans HDK2.out.below.tape, hch3.output.trans HDK2.out.below.output, Nat.le_trans HDK2.out.below.size hch3.size, fun i hi => (hch3.block i (by omega) (by omega)).trans (HDK2.out.below.block i hi)⟩
  have HB3 := Lib.hid b3
  have hz3 : Tz w3 (fun k => S k ∧ k < w.heap.size) (fun k => R k ∨ (w1.heap.size ≤ k ∧ k < w2.heap.size)) p s := by
    refine Tz.moreR ((Tz.bound HZ.out).ch (Ch.of_below (S := fun k => w.heap.size ≤ k) b3 (Nat.le_refl _)) (fun k hk h => by have := hk.2; omega) (fun k hk h => by have := (Tz.rlt HZ.out k hk).2; omega)) (fun _ h => .inl h) (fun k hk => ?_)
    rcases hk with hk | ⟨h1, h2⟩
    · have := Tz.rlt HZ.out k hk
      exact ⟨fun h => this.1 h.1, by omega⟩
    · exact ⟨fun h => by have := h.2; omega, by omega⟩
  have HRN := Lib.hid (run_any w3 _ _ p s o A2 c2 HCK.out hz3 (ins_ch (R := R) HCL2.out hch3 (fun k hk => by omega)))
  have HL3 := Lib.hid ((CL.ls HCL2.out).ch hch3 (fun k _ hk => by show k < w1.heap.size; omega))
  have HO3 := Lib.hid (And.intro hop3 hres3)
  clear a0 a1 a2 a3 a4 f0 f1 f2 f3 f4 hch3 hres3 b3 hz3 z1 z2 z3 hop3
  unfold OV at HRN
  refine HRN.out.mono ?_
  rintro e w4 ⟨rfl, hd⟩
  have HD4 := Lib.hid hd
  have hop4 : OB w4 w.heap.size o A2 c2 := Blk.ch HO3.out.1 hd.2 (fun h => by have := h.2; omega)
  have hres4 := HO3.out.2.ch hd.2 (fun h => by have := h.2; omega)
  have HL4 := Lib.hid (HL3.out.ch hd.2 (fun k _ hk => by have := hk.2; have := HZS.out.1; show k < w1.heap.size; omega))
  have HO4 := Lib.hid (And.intro hop4 hres4)
  have hgr := (doesS_good HZ.out.good.L o).2
  obtain ⟨a0, a1, a2, a3, a4⟩ := hop4.cells
  have r0 := hres4.cell 0
  have r1 := hres4.cell 1
  have fr0 := hres4.frozen 0
  have fr1 := hres4.frozen 1
  simp only [List.getElem?_toArray, List.getElem?_cons_zero, List.getElem?_cons_succ] at r0 r1
  have HGR := Lib.hid hgr
  clear hd hop4 hres4 hgr
  by_cases he : (doesS s.L o).1.1 = 0
  · have HP := Lib.hid (does_placed HCK.out he)
    have HEE := Lib.hid he
    have q0 := HGR.out.2.2.2.1
    have q1 := HGR.out.2.2.2.2.1
    simp only [maxNum] at q1
    rw [he]
    clear he
    generalize hoff : (doesS s.L o).1.2 = off at q0 q1 HP ⊢
    have HOF := Lib.hid hoff
    have HPL := Lib.hid (places_any w4 o _ A2 c2 off HL4.out (by have := HSM.out.2.2.1; omega) HSM.out.2.2.2.1 q0 q1)
    unfold OV at HPL
    clear hoff
    go_wp2_with fail
    refine HPL.out.mono ?_
    rintro e w5 ⟨v5, rfl, hps, hb5⟩
    have HB5 := Lib.hid hb5
    have HPS := Lib.hid hps
    have hres5 := HO4.out.2.below hb5 HO4.out.2.lt
    have HR5 := Lib.hid hres5
    clear r0 r1 fr0 fr1
    have r0 := hres5.cell 0
    have r1 := hres5.cell 1
    have fr0 := hres5.frozen 0
    have fr1 := hres5.frozen 1
    simp only [List.getElem?_toArray, List.getElem?_cons_zero, List.getElem?_cons_succ] at r0 r1
    clear hb5 hps hres5
    go_wp2_with fail
    refine bodyPost_ret (results_row_tmp rfl _ _ (w.heap.size + 1) 30 #[.int .i64 0, .int .i64 off] (0, 0) _ rfl (blk2 HR5.out _ _) Tryz.underlying30 rfl size_res) rfl ?_
    have hz4 := HD4.out.2.size
    have hzs := HZS.out
    have c5 := own_cells (w := w) (w1 := w1) (g := w.heap.size + 1) (by omega) (by omega) (Ch.of_below HB5.out (Nat.le_refl _)) (.int .i64 0) (.int .i64 off)
    refine done_of HEE.out HOF.out HP.out (by omega) ?_ (applied_fin (by omega) hzs.2.1 hzs.2.2 HB3.out (fun k hk => (Tz.rlt HZ.out k hk).2) HD4.out c5)
    exact (HPS.out.ch (((Ch.refl (fun k => k = w.heap.size + 1) w5).setCell (p := ⟨w.heap.size + 1, 0, none⟩) (fun _ => rfl) _).setCell (p := ⟨w.heap.size + 1, 1, none⟩) (fun _ => rfl) _) (fun k hk => by omega))
  · obtain ⟨e2, e3⟩ := HDE.out HZ.out he
    have hcb : ((doesS s.L o).1.1 == 0) = false := beq_eq_false_iff_ne.2 he
    rw [e2]
    have HE2 := Lib.hid (And.intro e2 e3)
    generalize hk : (doesS s.L o).1.1 = k at hcb ⊢
    have HK := Lib.hid hk
    clear he e3 e2 hk
    go_wp2_with fail
    refine bodyPost_ret (results_row_tmp rfl _ _ (w.heap.size + 1) 30 #[.int .i64 k, .int .i64 0] (0, 0) _ rfl (blk2 HO4.out.2 _ _) Tryz.underlying30 rfl size_res) rfl ?_
    have hz4 := HD4.out.2.size
    have hzs := HZS.out
    have c5 := own_cells (w := w) (w1 := w1) (g := w.heap.size + 1) (by omega) (by omega) (Ch.refl _ w4) (.int .i64 k) (.int .i64 0)
    exact done_of HK.out HE2.out.1 HE2.out.2 (by omega) (Ps.nil _ _) (applied_fin (by omega) hzs.2.1 hzs.2.2 HB3.out (fun k hk => (Tz.rlt HZ.out k hk).2) HD4.out c5)
theorem do_any (w : World) (S R : Nat → Prop) (p : Nat) (s : St) (o : O) (X : Nat → Prop) (A : Option Addr) (c : Nat) (h : Tz w S R p s) (hls : Ls w X (.slice A o.recs.length c) o.recs) (hl : o.recs.length ≤ 140737488355328) :
    Calls Tryz.prog 19 #[.pointer (some ⟨p, 0, none⟩), OV o A c] w (Done S R p s o w) := by
  by_cases hc : check o = 0
  · exact do_ok w S R p s o X A c hc h hls
  · exact do_bad w S R p s o X A c hc h hls hl
end Go.Proofs.YtkoedonllfmaaaaGreat.Ai

/-
  Contract of the program's topics: Apply.
-/
namespace Go.Proofs.YtkoedonllfmaaaaGreat.Aj
set_option linter.unusedSimpArgs false
open Go Go.RowKit Ck Kw Ga Kf Km Kd Pm Pz Pe Pg Py Qb Qg Tm Tn Tq Aa Ab Ac Ad Ae Af Ag Ah Ai
attribute [local go_sem ↓] Go.wp_at_zero Go.wp_at_succ
set_option linter.unusedVariables false

/-- A request as a value. -/
def RC (client time : Int) (o : O) (A : Option Addr) (c : Nat) : Array Value := #[.int .i64 client, .int .i64 time, .int .i64 o.kind, .string ⟨o.topic.toArray⟩, .string ⟨o.group.toArray⟩, .int .i64 o.off, .slice A o.recs.length c]
def RV (client time : Int) (o : O) (A : Option Addr) (c : Nat) : Value := .agg (RC client time o A c)
theorem acs_set (l : List An) (i : Nat) (hi : i < l.length) (a : An) : (((ACs l).set (i * 3) (.int .i64 a.time)).set (i * 3 + 1) (.int .i64 a.err)).set (i * 3 + 2) (.int .i64 a.off) = ACs (l.set i a) := by
  unfold ACs
  have e1 := flat_set AC_len l i hi (⟨a.time, l[i].err, l[i].off⟩ : An) 0 (by omega) (.int .i64 a.time) rfl
  rw [Nat.add_zero] at e1
  rw [e1]
  have e2 := flat_set AC_len (l.set i (⟨a.time, l[i].err, l[i].off⟩ : An)) i (by simpa using hi) (⟨a.time, a.err, l[i].off⟩ : An) 1 (by omega) (.int .i64 a.err) (by simp [AC])
  rw [e2]
  have e3 := flat_set AC_len ((l.set i (⟨a.time, l[i].err, l[i].off⟩ : An)).set i (⟨a.time, a.err, l[i].off⟩ : An)) i (by simpa using hi) a 2 (by omega) (.int .i64 a.off) (by simp [AC])
  rw [e3]
  simp
theorem tz_last {w : World} {S R : Nat → Prop} {p : Nat} {s : St} (h : Tz w S R p s) {i : Nat} (hi : i < 8) (a : An) (hg : GoodS ⟨s.L, s.last.set i a⟩) :
    Tz (((w.setCell ⟨p, 1 + i * 3, none⟩ (.int .i64 a.time)).setCell ⟨p, 1 + i * 3 + 1, none⟩ (.int .i64 a.err)).setCell ⟨p, 1 + i * 3 + 2, none⟩ (.int .i64 a.off)) S R p ⟨s.L, s.last.set i a⟩ := by
  obtain ⟨m, D, G, V, M, F, h⟩ := h
  have h8 := h.good.eight
  have c : Ch (fun k => k = p) w (((w.setCell ⟨p, 1 + i * 3, none⟩ (.int .i64 a.time)).setCell ⟨p, 1 + i * 3 + 1, none⟩ (.int .i64 a.err)).setCell ⟨p, 1 + i * 3 + 2, none⟩ (.int .i64 a.off)) :=
    (((Ch.refl (fun k => k = p) w).setCell (p := ⟨p, 1 + i * 3, none⟩) (fun _ => rfl) _).setCell (p := ⟨p, 1 + i * 3 + 1, none⟩) (fun _ => rfl) _).setCell (p := ⟨p, 1 + i * 3 + 2, none⟩) (fun _ => rfl) _
  have hb := ((h.blk.set_ (1 + i * 3) (.int .i64 a.time)).set_ (1 + i * 3 + 1) (.int .i64 a.err)).set_ (1 + i * 3 + 2) (.int .i64 a.off)
  have e : ((((Value.map (some m) :: ACs s.last).toArray.setIfInBounds (1 + i * 3) (.int .i64 a.time)).setIfInBounds (1 + i * 3 + 1) (.int .i64 a.err)).setIfInBounds (1 + i * 3 + 2) (.int .i64 a.off)) = (Value.map (some m) :: ACs (s.last.set i a)).toArray := by
    rw [← acs_set s.last i (by omega) a]
    simp only [List.setIfInBounds_toArray]
    rw [show 1 + i * 3 + 2 = (i * 3 + 2) + 1 by omega, show 1 + i * 3 + 1 = (i * 3 + 1) + 1 by omega, show 1 + i * 3 = i * 3 + 1 by omega]
    simp only [List.set_cons_succ]
  rw [e] at hb
  exact ⟨m, D, G, V, M, F, hb, h.sp, map_ch h.own c h.sm.2, h.tells, h.sm, fun t ht => (h.top t ht).ch c (fun k hk e => (h.sub t ht k hk).2.1 e) (fun k hk e => (h.rs k hk).1 (by rw [e]; exact h.sp)), fun t ht k hk => ⟨(h.sub t ht k hk).1, (h.sub t ht k hk).2.1, (h.sub t ht k hk).2.2.1, Nat.lt_of_lt_of_le (h.sub t ht k hk).2.2.2 c.size⟩, h.apart, fun k hk => ⟨(h.rs k hk).1, Nat.lt_of_lt_of_le (h.rs k hk).2 c.size⟩, hg⟩
/-- Three results, the first a struct in a cell of its own. -/
theorem results_row_tmp2 {P : Program} {fn : Func} {p q r : Tmp} {ty : TypeId} (h : fn.results = #[.cell p ty, .tmp q, .tmp r]) (tmps : Array Value) (w : World) (g : Nat) (t : TypeId) (cs : Array Value) (fr : Nat × Nat) (d : TypeDesc)
    (hp : tmps.getD p undef = .pointer (some ⟨g, 0, none⟩)) (hg : w.heap[g]? = some (.cells cs t fr))
    (hu : P.underlying ty = some d) (hd : (match d with | .struct _ | .array _ _ => true | _ => false) = true) (hi : (P.info? ty).map (·.size) = some cs.size) :
    (results fn tmps).run P w = .ok (.tuple #[.agg cs, tmps.getD q undef, tmps.getD r undef]) w := by
  have hp' : tmps[p]?.getD undef = .pointer (some ⟨g, 0, none⟩) := by simpa using hp
  simp [results, h, hp', asAddr, run_loadVar_row w g t ty cs fr d hg hu hd hi]
/-- What Apply leaves. -/
def Asked (S R : Nat → Prop) (p : Nat) (s : St) (client time : Int) (o : O) (w : World) (e : Ending) (w' : World) : Prop :=
  ∃ v B, e = .returned (.tuple #[.agg #[.int .i64 (appS s client time o).1.1, .int .i64 (appS s client time o).1.2], v, .bool (appS s client time o).2.2.1]) ∧ w.heap.size ≤ B ∧ Ps w' B v (appS s client time o).2.1 ∧ Applied S R p (appS s client time o).2.2.2 B w w'
theorem asked_of {w w' : World} {S R : Nat → Prop} {p : Nat} {s s' : St} {client time : Int} {o : O} {k off : Int} {b : Bool} {v : Value} {pl : List (Tx × Int × Tx)} (h : appS s client time o = ((k, off), pl, b, s')) {B : Nat} (hB : w.heap.size ≤ B) (h4 : Ps w' B v pl) (h5 : Applied S R p s' B w w') :
    Asked S R p s client time o w (.returned (.tuple #[.agg #[.int .i64 k, .int .i64 off], v, .bool b])) w' := by
  unfold Asked
  rw [h]
  exact ⟨v, B, rfl, hB, h4, h5⟩
/-- Apply's own blocks. -/
structure AK (w : World) (client time : Int) (o : O) (A : Option Addr) (c : Nat) (W : World) : Prop where
  below : Below w.heap.size w W
  req : Blk W w.heap.size 40 (RC client time o A c)
  res : Blk W (w.heap.size + 1) 30 #[.int .i64 0, .int .i64 0]
theorem AK.later {w W W' : World} {client time : Int} {o : O} {A : Option Addr} {c : Nat} (h : AK w client time o A c W) (b : Below W.heap.size W W') : AK w client time o A c W' := ⟨h.below.trans (b.mono h.below.size), h.req.below b h.req.lt, h.res.below b h.res.lt⟩
theorem ak_new (w : World) (client time : Int) (o : O) (A : Option Addr) (c : Nat) : AK w client time o A c ((w.alloc (.cells (RC client time o A c) 40)).alloc (.cells #[.int .i64 0, .int .i64 0] 30)) := by
  have hz : (w.alloc (.cells (RC client time o A c) 40)).heap.size = w.heap.size + 1 := by simp
  have h1 : Blk (w.alloc (.cells (RC client time o A c) 40)) w.heap.size 40 (RC client time o A c) := Blk.new _ _ _
  exact ⟨(op_below w _).trans ((op_below _ _).mono (by omega)), h1.below (op_below _ _) (by omega), by rw [← hz]; exact Blk.new _ _ _⟩
theorem AK.cells {w W : World} {client time : Int} {o : O} {A : Option Addr} {c : Nat} (h : AK w client time o A c W) : W.cell? ⟨w.heap.size, 0, none⟩ = some (.int .i64 client) ∧ W.cell? ⟨w.heap.size, 1, none⟩ = some (.int .i64 time) ∧ W.cell? ⟨w.heap.size, 2, none⟩ = some (.int .i64 o.kind) ∧ W.cell? ⟨w.heap.size, 3, none⟩ = some (.string ⟨o.topic.toArray⟩) ∧ W.cell? ⟨w.heap.size, 4, none⟩ = some (.string ⟨o.group.toArray⟩) ∧ W.cell? ⟨w.heap.size, 5, none⟩ = some (.int .i64 o.off) ∧ W.cell? ⟨w.heap.size, 6, none⟩ = some (.slice A o.recs.length c) :=
  ⟨h.req.cell 0, h.req.cell 1, h.req.cell 2, h.req.cell 3, h.req.cell 4, h.req.cell 5, h.req.cell 6⟩
theorem AK.rcells {w W : World} {client time : Int} {o : O} {A : Option Addr} {c : Nat} (h : AK w client time o A c W) : W.cell? ⟨w.heap.size + 1, 0, none⟩ = some (.int .i64 0) ∧ W.cell? ⟨w.heap.size + 1, 1, none⟩ = some (.int .i64 0) ∧ W.frozen? ⟨w.heap.size + 1, 0, none⟩ = false ∧ W.frozen? ⟨w.heap.size + 1, 1, none⟩ = false :=
  ⟨h.res.cell 0, h.res.cell 1, h.res.frozen 0, h.res.frozen 1⟩
theorem two_below (w : World) (x y : Obj) : Below w.heap.size w ((w.alloc x).alloc y) := (op_below w x).trans ((op_below _ y).mono (by simp))
set_option maxRecDepth 100000 in
set_option maxHeartbeats 1000000 in
theorem apply_bad (w : World) (S R : Nat → Prop) (p : Nat) (s : St) (client time : Int) (o : O) (A : Option Addr) (c : Nat) (hb : badArg client time = true) (h : Tz w S R p s) :
    Calls Tryz.prog 7 #[.pointer (some ⟨p, 0, none⟩), RV client time o A c] w (Asked S R p s client time o w) := by
  have hak := ak_new w client time o A c
  have HAK := Lib.hid hak
  have HZ := Lib.hid h
  have HM := Lib.hid (made_on _ S R p s (h.later (HAK.out.below.mono (Nat.le_refl _))))
  have HAP : Hid (appS s client time o = ((1, 0), [], false, s)) := Lib.hid (by rw [appS, if_pos hb])
  obtain ⟨a0, a1, a2, a3, a4, a5, a6⟩ := hak.cells
  obtain ⟨r0, r1, fr0, fr1⟩ := hak.rcells
  clear hak h
  simp only [badArg, Bool.or_eq_true, decide_eq_true_eq] at hb
  unfold RV
  unfold RC at HAK HM a0 a1 a2 a3 a4 a5 a6 r0 r1 fr0 fr1 ⊢
  by_cases hcl : (decide (0 ≤ client) && decide (client < 8)) = true
  · simp only [Bool.and_eq_true, decide_eq_true_eq] at hcl
    by_cases ht : time < 1
    · clear hb
      go_enter Tryz.func7, Tryz.ntmps7
      go_wp2_with fail
      refine HM.out.mono ?_
      rintro e w1 ⟨rfl, rfl⟩
      go_wp2_with fail
      refine (client_any _ client).mono ?_
      rintro e w1 ⟨rfl, rfl⟩
      go_wp2_with fail
      refine bodyPost_ret (results_row_tmp2 rfl _ _ (w.heap.size + 1) 30 #[.int .i64 1, .int .i64 0] (0, 0) _ rfl (Blk.new_at (by simp) rfl) Tryz.underlying30 rfl Ai.size_res) rfl ?_
      exact asked_of HAP.out (Nat.le_refl _) (Ps.nil _ _) (applied_refl HZ.out (two_below _ _ _))
    · have ht2 : 9007199254740992 < time := by simp only [maxNum] at hb; omega
      clear hb ht
      have ht3 : 1 ≤ time := by omega
      go_enter Tryz.func7, Tryz.ntmps7
      go_wp2_with fail
      refine HM.out.mono ?_
      rintro e w1 ⟨rfl, rfl⟩
      go_wp2_with fail
      refine (client_any _ client).mono ?_
      rintro e w1 ⟨rfl, rfl⟩
      go_wp2_with fail
      refine bodyPost_ret (results_row_tmp2 rfl _ _ (w.heap.size + 1) 30 #[.int .i64 1, .int .i64 0] (0, 0) _ rfl (Blk.new_at (by simp) rfl) Tryz.underlying30 rfl Ai.size_res) rfl ?_
      exact asked_of HAP.out (Nat.le_refl _) (Ps.nil _ _) (applied_refl HZ.out (two_below _ _ _))
  · have hcl' : (decide (0 ≤ client) && decide (client < 8)) = false := Bool.eq_false_iff.2 hcl
    have HCN : ∀ W : World, Hid (Calls Tryz.prog 18 #[.int .i64 client] W fun e w' => e = .returned (.bool false) ∧ W = w') := fun W => Lib.hid (by rw [← hcl']; exact client_any W client)
    clear hcl hcl' hb
    go_enter Tryz.func7, Tryz.ntmps7
    go_wp2_with fail
    refine HM.out.mono ?_
    rintro e w1 ⟨rfl, rfl⟩
    go_wp2_with fail
    refine (HCN _).out.mono ?_
    rintro e w1 ⟨rfl, rfl⟩
    go_wp2_with fail
    refine bodyPost_ret (results_row_tmp2 rfl _ _ (w.heap.size + 1) 30 #[.int .i64 1, .int .i64 0] (0, 0) _ rfl (Blk.new_at (by simp) rfl) Tryz.underlying30 rfl Ai.size_res) rfl ?_
    exact asked_of HAP.out (Nat.le_refl _) (Ps.nil _ _) (applied_refl HZ.out (two_below _ _ _))

set_option maxRecDepth 100000 in
set_option maxHeartbeats 1000000 in
theorem apply_old (w : World) (S R : Nat → Prop) (p : Nat) (s : St) (client time : Int) (o : O) (A : Option Addr) (c : Nat) (hb : badArg client time = false) (hle : time ≤ (s.last.getD client.toNat An.zero).time) (h : Tz w S R p s) :
    Calls Tryz.prog 7 #[.pointer (some ⟨p, 0, none⟩), RV client time o A c] w (Asked S R p s client time o w) := by
  have hak := ak_new w client time o A c
  have HAK := Lib.hid hak
  have HZ := Lib.hid h
  have hz1 := h.later (HAK.out.below.mono (Nat.le_refl _))
  have HM := Lib.hid (made_on _ S R p s hz1)
  obtain ⟨c0, c1, t0, t1⟩ := badArg_no (by rw [hb]; simp)
  obtain ⟨m, D, G, V, M, F, hP⟩ := hz1
  have hlen := hP.len8
  obtain ⟨i, rfl⟩ : ∃ i : Nat, client = (i : Int) := ⟨client.toNat, by omega⟩
  have hi : i < s.last.length := by omega
  obtain ⟨q0, q1, q2⟩ := hP.cellA hi
  have hg : s.last.getD (Int.toNat (i : Int)) An.zero = s.last[i] := by rw [Int.toNat_natCast, List.getD_eq_getElem?_getD, List.getElem?_eq_getElem hi]; rfl
  rw [hg] at hle
  have HAP : Hid (appS s i time o = if time = s.last[i].time then ((s.last[i].err, s.last[i].off), [], false, s) else ((7, 0), [], false, s)) := Lib.hid (by
    rw [appS, if_neg (by rw [hb]; simp)]
    simp only [hg]
    split
    · rfl
    · rw [if_pos (by omega)])
  obtain ⟨a0, a1, a2, a3, a4, a5, a6⟩ := hak.cells
  obtain ⟨r0, r1, fr0, fr1⟩ := hak.rcells
  simp only [maxNum] at t1
  have hcl : (decide (0 ≤ (i : Int)) && decide ((i : Int) < 8)) = true := by simp; omega
  have HCN : ∀ W : World, Hid (Calls Tryz.prog 18 #[.int .i64 (i : Int)] W fun e w' => e = .returned (.bool true) ∧ W = w') := fun W => Lib.hid (by rw [← hcl]; exact client_any W i)
  have hi8 : i < 8 := by omega
  clear hak h hP hb hg hcl hlen
  generalize s.last[i] = a at *
  obtain ⟨at', ae, ao⟩ := a
  simp only at q0 q1 q2 hle HAP
  unfold RV
  unfold RC at HAK HM a0 a1 a2 a3 a4 a5 a6 r0 r1 fr0 fr1 q0 q1 q2 ⊢
  by_cases he : time = at'
  · subst he
    rw [if_pos rfl] at HAP
    go_enter Tryz.func7, Tryz.ntmps7
    go_wp2_with fail
    refine HM.out.mono ?_
    rintro e w1 ⟨rfl, rfl⟩
    go_wp2_with fail
    refine (HCN _).out.mono ?_
    rintro e w1 ⟨rfl, rfl⟩
    go_wp2_with fail
    generalize (w.alloc (.cells #[.int .i64 (i : Int), .int .i64 time, .int .i64 o.kind, .string ⟨o.topic.toArray⟩, .string ⟨o.group.toArray⟩, .int .i64 o.off, .slice A o.recs.length c] 40)).alloc (.cells #[.int .i64 0, .int .i64 0] 30) = W0 at *
    go_region_held3 (fun w' => w'.cell? ⟨w.heap.size, 0, none⟩ = some (.int .i64 (i : Int)) ∧ w'.cell? ⟨p, 1 + i * 3, none⟩ = some (.int .i64 time) ∧ w'.cell? ⟨p, 1 + i * 3 + 1, none⟩ = some (.int .i64 ae) ∧ w'.cell? ⟨p, 1 + i * 3 + 2, none⟩ = some (.int .i64 ao)) (first | exact ⟨a0, q0, q1, q2⟩ | go_keep) (fail)
    have hb1 : Below W0.heap.size W0 (W0.alloc (.cells #[.int .i64 time, .int .i64 ae, .int .i64 ao] 63)).drew := below_drewN (op_below _ _) 1
    have hl1 : Blk (W0.alloc (.cells #[.int .i64 time, .int .i64 ae, .int .i64 ao] 63)).drew W0.heap.size 63 #[.int .i64 time, .int .i64 ae, .int .i64 ao] := Blk.new _ _ _
    have HAK1 := Lib.hid (HAK.out.later hb1)
    generalize (W0.alloc (.cells #[.int .i64 time, .int .i64 ae, .int .i64 ao] 63)).drew = W1 at *
    clear a0 a1 a2 a3 a4 a5 a6 r0 r1 fr0 fr1 q0 q1 q2
    obtain ⟨a0, a1, a2, a3, a4, a5, a6⟩ := AK.cells HAK1.out
    obtain ⟨r0, r1, fr0, fr1⟩ := AK.rcells HAK1.out
    have l0 := hl1.cell 0
    have l1 := hl1.cell 1
    have l2 := hl1.cell 2
    simp only [List.getElem?_toArray, List.getElem?_cons_zero, List.getElem?_cons_succ] at l0 l1 l2
    have HB1 := Lib.hid (And.intro hb1 hl1)
    clear hb1 hl1
    go_wp2_with fail
    refine bodyPost_ret (results_row_tmp2 rfl _ _ (w.heap.size + 1) 30 #[.int .i64 ae, .int .i64 ao] (0, 0) _ rfl (blk2 HAK1.out.res _ _) Tryz.underlying30 rfl Ai.size_res) rfl ?_
    exact asked_of HAP.out (Nat.le_refl _) (Ps.nil _ _) (applied_refl HZ.out (below2 HAK1.out.below (by omega) _ _))
  · rw [if_neg he] at HAP
    have hlt : time < at' := by omega
    have heb : (time == at') = false := beq_eq_false_iff_ne.2 he
    clear hle he
    go_enter Tryz.func7, Tryz.ntmps7
    go_wp2_with fail
    refine HM.out.mono ?_
    rintro e w1 ⟨rfl, rfl⟩
    go_wp2_with fail
    refine (HCN _).out.mono ?_
    rintro e w1 ⟨rfl, rfl⟩
    go_wp2_with fail
    generalize (w.alloc (.cells #[.int .i64 (i : Int), .int .i64 time, .int .i64 o.kind, .string ⟨o.topic.toArray⟩, .string ⟨o.group.toArray⟩, .int .i64 o.off, .slice A o.recs.length c] 40)).alloc (.cells #[.int .i64 0, .int .i64 0] 30) = W0 at *
    go_region_held3 (fun w' => w'.cell? ⟨w.heap.size, 0, none⟩ = some (.int .i64 (i : Int)) ∧ w'.cell? ⟨p, 1 + i * 3, none⟩ = some (.int .i64 at') ∧ w'.cell? ⟨p, 1 + i * 3 + 1, none⟩ = some (.int .i64 ae) ∧ w'.cell? ⟨p, 1 + i * 3 + 2, none⟩ = some (.int .i64 ao)) (first | exact ⟨a0, q0, q1, q2⟩ | go_keep) (fail)
    have hb1 : Below W0.heap.size W0 (W0.alloc (.cells #[.int .i64 at', .int .i64 ae, .int .i64 ao] 63)).drew := below_drewN (op_below _ _) 1
    have hl1 : Blk (W0.alloc (.cells #[.int .i64 at', .int .i64 ae, .int .i64 ao] 63)).drew W0.heap.size 63 #[.int .i64 at', .int .i64 ae, .int .i64 ao] := Blk.new _ _ _
    have HAK1 := Lib.hid (HAK.out.later hb1)
    generalize (W0.alloc (.cells #[.int .i64 at', .int .i64 ae, .int .i64 ao] 63)).drew = W1 at *
    clear a0 a1 a2 a3 a4 a5 a6 r0 r1 fr0 fr1 q0 q1 q2
    obtain ⟨a0, a1, a2, a3, a4, a5, a6⟩ := AK.cells HAK1.out
    obtain ⟨r0, r1, fr0, fr1⟩ := AK.rcells HAK1.out
    have l0 := hl1.cell 0
    have l1 := hl1.cell 1
    have l2 := hl1.cell 2
    simp only [List.getElem?_toArray, List.getElem?_cons_zero, List.getElem?_cons_succ] at l0 l1 l2
    have HB1 := Lib.hid (And.intro hb1 hl1)
    clear hb1 hl1
    go_wp2_with fail
    refine bodyPost_ret (results_row_tmp2 rfl _ _ (w.heap.size + 1) 30 #[.int .i64 7, .int .i64 0] (0, 0) _ rfl (blk2 HAK1.out.res _ _) Tryz.underlying30 rfl Ai.size_res) rfl ?_
    exact asked_of HAP.out (Nat.le_refl _) (Ps.nil _ _) (applied_refl HZ.out (below2 HAK1.out.below (by omega) _ _))
end Go.Proofs.YtkoedonllfmaaaaGreat.Aj
