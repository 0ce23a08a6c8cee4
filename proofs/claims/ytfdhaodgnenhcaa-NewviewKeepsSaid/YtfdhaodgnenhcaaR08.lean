/-
  Layer 8: the program's Clone of batches, and what is one's own of it.
-/
import Derived.Test.YtfdhaodgnenhcaaR05
import Derived.Test.YtfdhaodgnenhcaaR07
import Derived.Test.YtfdhaodgnenhcaaR04
import Derived.Test.YtfdhaodgnenhcaaR02
import Derived.Maps.RangeWalk
import Derived.Test.YtfdhaodgnenhcaaR06
import Derived.Test.YtfdhaodgnenhcaaR03
namespace Go.Proofs.Ytfdhaodgnenhcaa.Jt
set_option linter.unusedSimpArgs false
open Go Go.RowKit Ck Kf Kw Ga Pm Pe Ph Py Qb Qs Qg Lk Ld Jm Ja Jb Jc Jf Jk
attribute [local go_sem ↓] Go.wp_at_zero Go.wp_at_succ
set_option linter.unusedVariables false
set_option maxRecDepth 100000

/-- Records of one's own: their row, and the bytes of each. -/
structure OR (B : Nat) (A : Option Addr) (c : Nat) (recs : List Tx) (vals : List Value) (W : World) : Prop where
  row : W.ownsRow B 86 1 (.slice A recs.length c) recs.length vals
  each : ∀ i (hi : i < recs.length), ∃ u, vals[i]? = some u ∧ W.ownsRow B 5 1 u recs[i].length (BVs recs[i])
section
variable {B : Nat} {A : Option Addr} {c : Nat} {recs : List Tx} {vals : List Value} {W W' : World}
theorem OR.later (h : OR B A c recs vals W) (b : Below W.heap.size W W') : OR B A c recs vals W' := ⟨own_below h.row b, fun i hi => by
  obtain ⟨u, hu, ho⟩ := h.each i hi
  exact ⟨u, hu, own_below ho b⟩⟩
theorem OR.base {B' : Nat} (h : OR B A c recs vals W) (hb : B' ≤ B) : OR B' A c recs vals W := ⟨own_base h.row hb, fun i hi => by
  obtain ⟨u, hu, ho⟩ := h.each i hi
  exact ⟨u, hu, own_base ho hb⟩⟩
theorem OR.ch {S : Nat → Prop} (h : OR B A c recs vals W) (k : Ch S W W') (hS : ∀ q, B ≤ q → ¬ S q) : OR B A c recs vals W' := ⟨own_ch h.row k (fun g hg => hS g (h.row.lt g hg).1), fun i hi => by
  obtain ⟨u, hu, ho⟩ := h.each i hi
  exact ⟨u, hu, own_ch ho k (fun g hg => hS g (ho.lt g hg).1)⟩⟩
/-- A store into a block of another type. -/
theorem OR.put {g j : Nat} {u : Value} {t : TypeId} {n m cc : Nat} {xs : List Value} (h : OR B A c recs vals W) (hr : W.ownsRow B t m (.slice (some ⟨g, 0, none⟩) n cc) n xs) (h1 : t ≠ 86) (h2 : t ≠ 5) : OR B A c recs vals (W.setCell ⟨g, j, none⟩ u) := by
  have cg := (hr.stored j u).2
  have ne : ∀ {t' : TypeId} {v : Value} {k s : Nat} {ys : List Value}, W.ownsRow B t' s v k ys → t ≠ t' → v.ownBlock = none ∨ v.ownBlock ≠ some g := fun {t' v k s ys} ho ht => by
    rcases ho.2 with ⟨rfl, _⟩ | ⟨g2, cap, cur, rfl, _, hg2, _⟩
    · exact .inl rfl
    · right
      simp only [Value.ownBlock, ne_eq, Option.some.injEq]
      rintro rfl
      rcases hr.2 with ⟨hn, _⟩ | ⟨g3, cap3, cur3, hv, _, hg3, _⟩
      · simp at hn
      · simp only [Value.slice.injEq, Option.some.injEq, Addr.mk.injEq, and_true] at hv
        obtain ⟨rfl, _⟩ := hv
        rw [hg3] at hg2
        simp only [Option.some.injEq, Obj.cells.injEq] at hg2
        exact ht hg2.2.1
  exact ⟨h.row.kept cg (ne h.row h1), fun i hi => by
    obtain ⟨w1, hu, ho⟩ := h.each i hi
    exact ⟨w1, hu, ho.kept cg (ne ho h2)⟩⟩
theorem OR.ls (h : OR B A c recs vals W) : Ls W (fun q => q < B) (.slice A recs.length c) recs :=
  ⟨vals, Sl.of_own h.row (fun q h1 _ h2 => by omega), fun i hi => by
    obtain ⟨u, hu, ho⟩ := h.each i hi
    exact ⟨u, hu, Sl.of_own ho (fun q h1 _ h2 => by omega)⟩⟩
end

/-- A request's clone, with its records one's own. -/
def OwnQ (w : World) (q : Q) (e : Ending) (w' : World) : Prop := ∃ A c vals, e = .returned (QV q A c) ∧ OR w.heap.size A c q.o.recs vals w' ∧ Below w.heap.size w w'
theorem fin2 {w w2 w3 : World} {q : Q} {A : Option Addr} {c : Nat} {vals : List Value} (h : OR (w.heap.size + 2) A c q.o.recs vals w2) (b : Below w.heap.size w w2) (hc : Ch (fun k => w.heap.size ≤ k ∧ k < w.heap.size + 2) w2 w3) :
    OwnQ w q (.returned (QV q A c)) w3 :=
  ⟨A, c, vals, rfl, (h.ch hc (fun q hq hk => by omega)).base (by omega), b.trans (hc.below (fun k hk h => by omega) b.size)⟩
set_option maxHeartbeats 2000000 in
theorem qown_any (w : World) (q : Q) (X : Nat → Prop) (A : Option Addr) (c : Nat) (hls : Ls w X (.slice A q.o.recs.length c) q.o.recs) (hlo : far q.o 140737488351232) :
    Calls Try.prog 41 #[QV q A c] w (OwnQ w q) := by
  have b1 := op_below w (.cells (QC q A c) 69)
  have b2 : Below w.heap.size w ((w.alloc (.cells (QC q A c) 69)).alloc (.cells Z7 69)) := b1.alloc b1.size _
  have k0 : QB ((w.alloc (.cells (QC q A c) 69)).alloc (.cells Z7 69)) w.heap.size q A c := Blk.alloc (Blk.new w _ _) _
  have k1 : Blk ((w.alloc (.cells (QC q A c) 69)).alloc (.cells Z7 69)) (w.heap.size + 1) 69 Z7 := Blk.new_at (by simp) rfl
  have hz : ((w.alloc (.cells (QC q A c) 69)).alloc (.cells Z7 69)).heap.size = w.heap.size + 2 := by simp
  have HZ := Lib.hid hz
  have HC := Lib.hid (Qg.clone_any _ q.o X A c (hls.after b2) hlo)
  obtain ⟨a0, a1, a2, a3, a4, a5, a6⟩ := k0.cells
  have HB := Lib.hid b2
  have HK0 := Lib.hid k0
  have HK1 := Lib.hid k1
  clear b1 b2 k0 k1 hls hlo hz
  unfold QV
  unfold OV at HC
  unfold QC Z7 at HC HB HK0 HK1 HZ a0 a1 a2 a3 a4 a5 a6
  unfold QC
  go_enter Try.func41, Try.ntmps41
  go_wp2_with fail
  refine HC.out.mono ?_
  rintro e w2 ⟨A2, c2, vals, rfl, hcl⟩
  have HOR : Hid (OR (w.heap.size + 2) A2 c2 q.o.recs vals w2) := Lib.hid (by
    rw [← HZ.out]
    exact ⟨hcl.row, fun i hi => hcl.mine i hi hi⟩)
  have hb2 := hcl.below
  have HB2 := Lib.hid (HB.out.trans (hb2.mono HB.out.size))
  have hq2 : Blk w2 w.heap.size 69 _ := Blk.below HK0.out hb2 (Blk.lt HK0.out)
  have hr2 : Blk w2 (w.heap.size + 1) 69 _ := Blk.below HK1.out hb2 (Blk.lt HK1.out)
  clear hcl hb2 a0 a1 a2 a3 a4 a5 a6
  obtain ⟨⟨a0, a1, a2, a3, a4, a5, a6⟩, ⟨f0, f1, f2, f3, f4, f5, f6⟩⟩ := Blk.cells7 hq2
  obtain ⟨⟨z0, z1, z2, z3, z4, z5, z6⟩, ⟨y0, y1, y2, y3, y4, y5, y6⟩⟩ := Blk.cells7 hr2
  have HQ2 := Lib.hid hq2
  have HR2 := Lib.hid hr2
  clear hq2 hr2
  unfold OV
  go_wp2_with fail
  refine bodyPost_ret (results_row1 rfl _ _ (w.heap.size + 1) 69 #[.int .i64 q.client, .int .i64 q.time, .int .i64 q.o.kind, .string ⟨q.o.topic.toArray⟩, .string ⟨q.o.group.toArray⟩, .int .i64 q.o.off, .slice A2 q.o.recs.length c2] (0, 0) _ rfl (blk7 (Blk.ch HR2.out (ch5 (Ch.refl _ _)) (by omega))) Try.underlying69 rfl size_req) rfl ?_
  exact fin2 HOR.out HB2.out (((ch5 (g := w.heap.size) (Ch.refl _ w2)).mono (fun k _ hk => by omega)).trans (ch7 (g := w.heap.size + 1) (Ch.refl _ _)) (fun k _ hk => by omega))

theorem flat_one {l : List Sd} {rs : List (Option Addr × Nat)} : ∀ u ∈ flat l rs, u.oneCell' = true := by
  intro u hu
  unfold flat at hu
  obtain ⟨p, _, hp⟩ := List.mem_flatMap.1 hu
  exact Jr.dc_one u hp
set_option maxHeartbeats 400000 in
theorem clone_sds (X : Nat → Prop) (v : Value) (n : Nat) (xs : List Value) (w : World) (hv : Sl w X 9 v n xs) (h1 : ∀ u ∈ xs, u.oneCell' = true) (hn : n * 104 ≤ 140737488355328) :
    Calls Try.prog 40 #[v] w fun e w' => ∃ A c, e = .returned (.slice A n c) ∧ w'.ownsRow w.heap.size 71 9 (.slice A n c) n xs ∧ Below w.heap.size w w' := by
  obtain ⟨i0, hi0, hz0, hz1, hz2⟩ := Jr.info_parts9 Jr.info_sd
  have hv' := hv
  obtain ⟨A, c, rfl, hxl, -⟩ := hv'
  have heq := fun (W : World) => Lib.run_eql_slice_nil (P := Try.prog) W 41 71 A n c 0 0 Try.underlying41
  rcases A with _ | ad
  · obtain ⟨h0, rfl⟩ := hv.none_
    subst h0
    clear hv h1 hxl
    go_enter Try.func40, Try.ntmps40
    go_wp2
    go_ret
    exact ⟨_, _, rfl, World.ownsRow_nil _ _ _ _, Below.refl _ _⟩
  · have HX := Lib.hid hxl
    clear hxl
    go_enter Try.func40, Try.ntmps40
    go_wp2_with (at_builtin; refine wpList_append_sh _ rfl (.tmp 5) (.tmp 6) _ rfl w.heap.size 71 i0 _ 9 104 Try.underlying41 hi0 hz0 hz1 hz2 rfl (by omega) (.slice (some ⟨w.heap.size, 0, none⟩) 0 0) 0 [] rfl (World.ownsRow_made w #[] 0 (Nat.le_refl _) (by simp only [maxLen]; omega) rfl) X _ n xs rfl (hv.alloc _) h1 (by simp only [maxLen]; omega) (by omega) (by simp) ?_; intro A2 c2 w2 happ)
    go_ret
    obtain ⟨ho, hg, hr⟩ := happ
    rw [Nat.zero_add] at hr
    refine ⟨A2, c2, by simp, by simpa using ho, ?_⟩
    exact ((Below.refl _ _).alloc (Nat.le_refl _) _).grown hg (by simp) (by simp [Value.ownBlock])

/-- A batch of one's own: the first k with records of one's own. -/
structure CLB (w0 : World) (X : Nat → Prop) (v : Value) (l : List Sd) (rs : List (Option Addr × Nat)) (k : Nat) (W : World) : Prop where
  below : Below w0.heap.size w0 W
  len : rs.length = l.length
  row : W.ownsRow w0.heap.size 71 9 v l.length (flat l rs)
  mine : ∀ i (hi : i < l.length), i < k → ∃ r vals, rs[i]? = some r ∧ OR w0.heap.size r.1 r.2 l[i].q.o.recs vals W
  rest : ∀ i (hi : i < l.length), k ≤ i → ∃ r, rs[i]? = some r ∧ Ls W (fun q => w0.heap.size ≤ q) (.slice r.1 l[i].q.o.recs.length r.2) l[i].q.o.recs
section
variable {w0 W W' : World} {X : Nat → Prop} {v : Value} {l : List Sd} {rs : List (Option Addr × Nat)} {k : Nat}
theorem CLB.later (h : CLB w0 X v l rs k W) (hb : Below W.heap.size W W') : CLB w0 X v l rs k W' :=
  ⟨h.below.trans (hb.mono h.below.size), h.len, own_below h.row hb, fun i hi hk => by
    obtain ⟨r, vals, hr, ho⟩ := h.mine i hi hk
    exact ⟨r, vals, hr, ho.later hb⟩, fun i hi hk => by
    obtain ⟨r, hr, ho⟩ := h.rest i hi hk
    exact ⟨r, hr, ho.after hb⟩⟩
theorem flat_at {l : List Sd} {rs : List (Option Addr × Nat)} (h : rs.length = l.length) {i : Nat} (hi : i < l.length) {r : Option Addr × Nat} (hr : rs[i]? = some r) (j : Nat) (hj : j < 9) : (flat l rs)[i * 9 + j]? = ((DC l[i] r.1 r.2).toList)[j]? := by
  have hz : i < (l.zip rs).length := by rw [zip_len h]; exact hi
  have hr2 : i < rs.length := by omega
  have he : (l.zip rs)[i] = (l[i], r) := by
    rw [List.getElem_zip]
    have : rs[i] = r := by have := List.getElem?_eq_getElem hr2; rw [this] at hr; exact Option.some.inj hr
    rw [this]
  rw [flat, flat_get DC_len _ _ hz j hj, he]
/-- The row's value, and the request at k. -/
theorem CLB.at_ (h : CLB w0 X v l rs k W) (hk : k < l.length) :
    ∃ g c r, v = .slice (some ⟨g, 0, none⟩) l.length c ∧ rs[k]? = some r ∧ (∀ j, j < 9 → W.cell? ⟨g, k * 9 + j, none⟩ = ((DC l[k] r.1 r.2).toList)[j]?) ∧ (∀ j, W.frozen? ⟨g, k * 9 + j, none⟩ = false) ∧ Ls W (fun q => w0.heap.size ≤ q) (.slice r.1 l[k].q.o.recs.length r.2) l[k].q.o.recs := by
  obtain ⟨g, c, rfl, hb, hlt⟩ := h.row.form (by omega)
  obtain ⟨r, hr, hs⟩ := h.rest k hk (Nat.le_refl _)
  refine ⟨g, c, r, rfl, hr, fun j hj => ?_, fun j => h.row.frozenAt _, hs⟩
  rw [h.row.cellAt _ (by omega), flat_at h.len hk hr j hj]
theorem set_same {xs : List Value} {i : Nat} {u : Value} (h : xs[i]? = some u) : xs.set i u = xs := by
  apply List.ext_getElem?
  intro j
  by_cases hj : i = j
  · subst hj
    rw [List.getElem?_set_self (by
      by_cases hl : i < xs.length
      · exact hl
      · rw [List.getElem?_eq_none (by omega)] at h; exact absurd h (by simp)), h]
  · rw [List.getElem?_set_ne hj]
theorem zip_set : ∀ (l : List Sd) (rs : List (Option Addr × Nat)) (k : Nat) (hk : k < l.length) (r : Option Addr × Nat), l.zip (rs.set k r) = (l.zip rs).set k (l[k], r)
  | [], _, _, hk, _ => absurd hk (by simp)
  | y :: l, [], k, hk, r => by simp
  | y :: l, a :: rs, 0, hk, r => rfl
  | y :: l, a :: rs, k + 1, hk, r => by
    have hk' : k < l.length := by simpa using hk
    have := zip_set l rs k hk' r
    simp only [List.set_cons_succ, List.zip_cons_cons, this, List.getElem_cons_succ]
theorem own_un {B : Nat} {g n cc m n' s : Nat} {xs ys : List Value} {t t' : TypeId} {v : Value} (hr : W.ownsRow B t m (.slice (some ⟨g, 0, none⟩) n cc) n xs) (ho : W.ownsRow B t' s v n' ys) (ht : t ≠ t') : v.ownBlock ≠ some g := by
  rcases ho.2 with ⟨rfl, _⟩ | ⟨g2, cap, cur, rfl, _, hg2, _⟩
  · simp [Value.ownBlock]
  · simp only [Value.ownBlock, ne_eq, Option.some.injEq]
    rintro rfl
    rcases hr.2 with ⟨hn, _⟩ | ⟨g3, cap3, cur3, hv, _, hg3, _⟩
    · simp at hn
    · simp only [Value.slice.injEq, Option.some.injEq, Addr.mk.injEq, and_true] at hv
      obtain ⟨rfl, _⟩ := hv
      rw [hg3] at hg2
      simp only [Option.some.injEq, Obj.cells.injEq] at hg2
      exact ht hg2.2.1
theorem OR.chT {B : Nat} {A : Option Addr} {c : Nat} {recs : List Tx} {vals : List Value} {g n cc m : Nat} {xs : List Value} {t : TypeId} (h : OR B A c recs vals W) (kc : Ch (fun q => q = g) W W') (hr : W.ownsRow B t m (.slice (some ⟨g, 0, none⟩) n cc) n xs) (h1 : t ≠ 86) (h2 : t ≠ 5) : OR B A c recs vals W' :=
  ⟨own_ch h.row kc (fun q hq e => own_un hr h.row h1 (by rw [hq, e])), fun i hi => by
    obtain ⟨u, hu, ho⟩ := h.each i hi
    exact ⟨u, hu, own_ch ho kc (fun q hq e => own_un hr ho h2 (by rw [hq, e]))⟩⟩
theorem ch7at {a w : World} {g o : Nat} {x0 x1 x2 x3 x4 x5 x6 : Value} (h : Ch (fun k => k = g) a w) :
    Ch (fun k => k = g) a (((((((w.setCell ⟨g, o, none⟩ x0).setCell ⟨g, o + 1, none⟩ x1).setCell ⟨g, o + 2, none⟩ x2).setCell ⟨g, o + 3, none⟩ x3).setCell ⟨g, o + 4, none⟩ x4).setCell ⟨g, o + 5, none⟩ x5).setCell ⟨g, o + 6, none⟩ x6) :=
  ((((((h.setCell (fun _ => rfl) _).setCell (fun _ => rfl) _).setCell (fun _ => rfl) _).setCell (fun _ => rfl) _).setCell (fun _ => rfl) _).setCell (fun _ => rfl) _).setCell (fun _ => rfl) _
theorem CLB.step {g c c2 : Nat} {A2 : Option Addr} {vals : List Value} (h : CLB w0 X (.slice (some ⟨g, 0, none⟩) l.length c) l rs k W) (hk : k < l.length) (ho : OR w0.heap.size A2 c2 l[k].q.o.recs vals W) :
    CLB w0 X (.slice (some ⟨g, 0, none⟩) l.length c) l (rs.set k (A2, c2)) (k + 1) (((((((W.setCell ⟨g, k * 9, none⟩ (.int .i64 l[k].q.client)).setCell ⟨g, k * 9 + 1, none⟩ (.int .i64 l[k].q.time)).setCell ⟨g, k * 9 + 2, none⟩ (.int .i64 l[k].q.o.kind)).setCell ⟨g, k * 9 + 3, none⟩ (.string ⟨l[k].q.o.topic.toArray⟩)).setCell ⟨g, k * 9 + 4, none⟩ (.string ⟨l[k].q.o.group.toArray⟩)).setCell ⟨g, k * 9 + 5, none⟩ (.int .i64 l[k].q.o.off)).setCell ⟨g, k * 9 + 6, none⟩ (.slice A2 l[k].q.o.recs.length c2)) := by
  obtain ⟨r, hr, -⟩ := h.rest k hk (Nat.le_refl _)
  have f := fun j hj => flat_at h.len hk hr j hj
  have f0 := f 0 (by omega)
  rw [Nat.add_zero] at f0
  have s0 := (h.row.stored (k * 9) (.int .i64 l[k].q.client)).1
  rw [set_same f0] at s0
  have s1 := (s0.stored (k * 9 + 1) (.int .i64 l[k].q.time)).1
  rw [set_same (f 1 (by omega))] at s1
  have s2 := (s1.stored (k * 9 + 2) (.int .i64 l[k].q.o.kind)).1
  rw [set_same (f 2 (by omega))] at s2
  have s3 := (s2.stored (k * 9 + 3) (.string ⟨l[k].q.o.topic.toArray⟩)).1
  rw [set_same (f 3 (by omega))] at s3
  have s4 := (s3.stored (k * 9 + 4) (.string ⟨l[k].q.o.group.toArray⟩)).1
  rw [set_same (f 4 (by omega))] at s4
  have s5 := (s4.stored (k * 9 + 5) (.int .i64 l[k].q.o.off)).1
  rw [set_same (f 5 (by omega))] at s5
  have s6 := (s5.stored (k * 9 + 6) (.slice A2 l[k].q.o.recs.length c2)).1
  have hzl : k < (l.zip rs).length := by rw [zip_len h.len]; exact hk
  have hrk : rs[k]'(by have := h.len; omega) = r := by have := List.getElem?_eq_getElem (show k < rs.length by have := h.len; omega); rw [this] at hr; exact Option.some.inj hr
  have he : (flat l rs).set (k * 9 + 6) (.slice A2 l[k].q.o.recs.length c2) = flat l (rs.set k (A2, c2)) := by
    unfold flat
    rw [zip_set l rs k hk (A2, c2)]
    exact flat_set DC_len _ k hzl (l[k], (A2, c2)) 6 (by omega) _ (by rw [List.getElem_zip, hrk]; rfl)
  rw [he] at s6
  have kc : Ch (fun q => q = g) W _ := ch7at (o := k * 9) (x0 := .int .i64 l[k].q.client) (x1 := .int .i64 l[k].q.time) (x2 := .int .i64 l[k].q.o.kind) (x3 := .string ⟨l[k].q.o.topic.toArray⟩) (x4 := .string ⟨l[k].q.o.group.toArray⟩) (x5 := .int .i64 l[k].q.o.off) (x6 := .slice A2 l[k].q.o.recs.length c2) (Ch.refl _ W)
  have hgb : w0.heap.size ≤ g := by
    obtain ⟨g', c', hv, hb, _⟩ := h.row.form (by omega)
    simp only [Value.slice.injEq, Option.some.injEq, Addr.mk.injEq, and_true] at hv
    omega
  refine ⟨h.below.trans (kc.below (fun q hq e => by omega) h.below.size), by simpa using h.len, s6, fun i hi hik => ?_, fun i hi hik => ?_⟩
  · by_cases he : i = k
    · subst he
      exact ⟨_, vals, List.getElem?_set_self (by have := h.len; omega), ho.chT kc h.row (by decide) (by decide)⟩
    · obtain ⟨r', vs, hr', ho'⟩ := h.mine i hi (by omega)
      exact ⟨r', vs, by rw [List.getElem?_set_ne (fun q => he q.symm)]; exact hr', ho'.chT kc h.row (by decide) (by decide)⟩
  · obtain ⟨r', hr', hl'⟩ := h.rest i hi (by omega)
    exact ⟨r', by rw [List.getElem?_set_ne (by omega)]; exact hr', hl'.ch kc (fun q _ e => by show w0.heap.size ≤ q; omega)⟩
end

set_option maxHeartbeats 4000000 in
theorem cloneb_any (w : World) (X : Nat → Prop) (A : Option Addr) (c : Nat) (l : List Sd) (h : BI w X (.slice A l.length c) l) (hf : ∀ y ∈ l, far y.q.o 140737488351232) (hl : l.length * 104 ≤ 140737488355328) :
    Calls Try.prog 35 #[.slice A l.length c] w fun e w' => ∃ A' c' rs, e = .returned (.slice A' l.length c') ∧ CLB w X (.slice A' l.length c') l rs l.length w' := by
  obtain ⟨rs, hrl, hsl, heach⟩ := h
  have HSC := Lib.hid (clone_sds X _ _ _ w hsl flat_one hl)
  have HEA := Lib.hid heach
  have HRL := Lib.hid hrl
  have HF := Lib.hid hf
  have hln : l.length ≤ 140737488355328 := by omega
  clear hsl heach hrl hf hl
  go_enter Try.func35, Try.ntmps35
  go_wp2_with fail
  refine HSC.out.mono ?_
  rintro e w1 ⟨A1, c1, rfl, ho1, hb1⟩
  have HC1 : Hid (CLB w X (.slice A1 l.length c1) l rs 0 w1) := Lib.hid ⟨hb1, HRL.out, ho1, fun i hi hk => absurd hk (by omega), fun i hi _ => by
    obtain ⟨r, hr, hls⟩ := HEA.out i hi
    exact ⟨r, hr, (hls.old' (Nat.le_refl _)).after hb1⟩⟩
  clear ho1 hb1 HSC
  go_wp2_with fail
  go_loopw [8] (fun i wr => ∃ (k : Nat) (rs : List (Option Addr × Nat)), k ≤ l.length ∧ i = .int .i64 k ∧ CLB w X (.slice A1 l.length c1) l rs k wr) (fun i _ => l.length - (intOf i).toNat)
  case atStart => exact ⟨0, rs, Nat.zero_le _, rfl, HC1.out⟩
  case round =>
    obtain ⟨k, rs2, hk, rfl, hcl⟩ := hrel
    clear HC1
    by_cases hlt : k < l.length
    · have HCL := Lib.hid hcl
      obtain ⟨g, cc, r, hv, hr, hcell, hfz, hls⟩ := hcl.at_ hlt
      simp only [Value.slice.injEq, true_and] at hv
      obtain ⟨rfl, rfl⟩ := hv
      obtain ⟨Ar, cr⟩ := r
      have hfar := HF.out _ (List.getElem_mem hlt)
      have a0 := hcell 0 (by omega)
      have a1 := hcell 1 (by omega)
      have a2 := hcell 2 (by omega)
      have a3 := hcell 3 (by omega)
      have a4 := hcell 4 (by omega)
      have a5 := hcell 5 (by omega)
      have a6 := hcell 6 (by omega)
      rw [Nat.add_zero] at a0
      unfold DC at a0 a1 a2 a3 a4 a5 a6
      simp only [List.getElem?_toArray, List.getElem?_cons_zero, List.getElem?_cons_succ] at a0 a1 a2 a3 a4 a5 a6
      have HCQ := Lib.hid (qown_any wr l[k].q _ Ar cr hls hfar)
      have HR := Lib.hid hr
      have HFZ := Lib.hid hfz
      have hkp : (0 : Int) ≤ (k : Int) := by omega
      have hkl : (k : Int) < (l.length : Int) := by omega
      clear hcl hr hcell hfz hls hfar
      unfold QV QC at HCQ
      go_wp2_with fail
      refine HCQ.out.mono ?_
      rintro e w2 ⟨A2, c2, vals, rfl, hor, hb2⟩
      have HC2 := Lib.hid (HCL.out.later hb2)
      have HN := Lib.hid (HC2.out.step hlt (hor.base HCL.out.below.size))
      obtain ⟨g', c', r', hv, hr, hcell, hfz, -⟩ := HC2.out.at_ hlt
      simp only [Value.slice.injEq, Option.some.injEq, Addr.mk.injEq, and_true, true_and] at hv
      obtain ⟨rfl, rfl⟩ := hv
      clear a0 a1 a2 a3 a4 a5 a6 hor hb2 HCQ
      have a0 := hcell 0 (by omega)
      have a1 := hcell 1 (by omega)
      have a2 := hcell 2 (by omega)
      have a3 := hcell 3 (by omega)
      have a4 := hcell 4 (by omega)
      have a5 := hcell 5 (by omega)
      have a6 := hcell 6 (by omega)
      have f0 := hfz 0
      have f1 := hfz 1
      have f2 := hfz 2
      have f3 := hfz 3
      have f4 := hfz 4
      have f5 := hfz 5
      have f6 := hfz 6
      rw [Nat.add_zero] at a0 f0
      unfold DC at a0 a1 a2 a3 a4 a5 a6
      simp only [List.getElem?_toArray, List.getElem?_cons_zero, List.getElem?_cons_succ] at a0 a1 a2 a3 a4 a5 a6
      clear hr hcell hfz
      unfold QV QC
      go_wp2_with fail
      go_roundw
      case rel => exact ⟨k + 1, _, by omega, by go_num, HN.out⟩
      case measure => simp [intOf]; omega
    · have hke : k = l.length := by omega
      subst hke
      have HCL := Lib.hid hcl
      clear hcl
      go_wp2_with fail
      go_ret
      exact ⟨_, _, rs2, rfl, HCL.out⟩
end Go.Proofs.Ytfdhaodgnenhcaa.Jt

/-
  Layer 15 (prepared): the program's clone of a certificate; isSeq; made.
-/
namespace Go.Proofs.Ytfdhaodgnenhcaa.Pub
set_option linter.unusedSimpArgs false
open Go Go.RowKit Ck Kw Ga Kf Pm Pe Pg Ik Lk Jm Ja Jb Jf Jg Jl Jn Pra Prb Prc Prd Pre Prf Prr Prx Psg Psh Pta Ptd Pte Pth Pua Ic Qb Jt
attribute [local go_sem ↓] Go.wp_at_zero Go.wp_at_succ
set_option linter.unusedVariables false
set_option maxRecDepth 100000

theorem clb_bi {w0 W : World} {X : Nat → Prop} {v : Value} {a : List Sd} {rs : List (Option Addr × Nat)} (h : CLB w0 X v a rs a.length W) : BI W (fun q => q < w0.heap.size) v a :=
  ⟨rs, h.len, Sl.of_own h.row (fun q h1 _ h2 => by omega), fun i hi => by
    obtain ⟨r, vals, hr, ho⟩ := h.mine i hi hi
    exact ⟨r, hr, ho.ls⟩⟩
/-- A certificate's rows are one's own. -/
structure OwnP (w : World) (p : Pd) (r : Pl2) (w' : World) : Prop where
  sg : w'.ownsRow w.heap.size 39 2 (.slice r.1.1 p.signs.length r.1.2) p.signs.length (p.signs.flatMap SC)
  bi : BI w' (fun k => k < w.heap.size) (.slice r.2.1 p.batch.length r.2.2) p.batch
  below : Below w.heap.size w w'
theorem OwnP.frozen {w w' : World} {p : Pd} {r : Pl2} (h : OwnP w p r w') (ad : Addr) (ha : r.1.1 = some ad) : w'.frozen? ad = false := by
  have hs := h.sg
  rw [ha] at hs
  rcases hs.2 with ⟨hn, _⟩ | ⟨g, cap, cur, hv, _⟩
  · cases hn
  · have e : ad = ⟨g, 0, none⟩ := by simp only [Value.slice.injEq, Option.some.injEq] at hv; exact hv.1
    rw [e] at hs ⊢
    exact hs.frozenAt 0
theorem OwnP.later {w w' w'' : World} {p : Pd} {r : Pl2} (h : OwnP w p r w') (b : Below w'.heap.size w' w'') : OwnP w p r w'' :=
  ⟨own_below h.sg b, h.bi.after b, h.below.trans (b.mono h.below.size)⟩
theorem OwnP.base {w w1 w' : World} {p : Pd} {r : Pl2} (h : OwnP w1 p r w') (b : Below w.heap.size w w1) : OwnP w p r w' :=
  ⟨own_base h.sg b.size, h.bi.weaken (fun k _ hk => by show k < w1.heap.size; have := b.size; have hk' : k < w.heap.size := hk; omega), b.trans (h.below.mono b.size)⟩
/-- Behind a change of blocks that are new, but not its own. -/
theorem OwnP.turn {w w1 w' w'' : World} {T : Nat → Prop} {p : Pd} {r : Pl2} (h : OwnP w1 p r w') (b : Below w.heap.size w w1) (c : Ch T w' w'') (h1 : ∀ k, T k → k < w1.heap.size) (h2 : ∀ k, T k → w.heap.size ≤ k) : OwnP w p r w'' :=
  ⟨own_base (own_ch h.sg c (fun m hm e => by have := (h.sg.lt m hm).1; have := h1 m e; omega)) b.size, (h.bi.ch c (fun k _ hk => h1 k hk)).weaken (fun k _ hk => by show k < w1.heap.size; have := b.size; have hk' : k < w.heap.size := hk; omega), (b.trans (h.below.mono b.size)).trans (c.below (fun k hk e => by have := h2 k e; omega) (b.trans (h.below.mono b.size)).size)⟩
theorem sc_one {l : List (Int × Int)} : ∀ u ∈ l.flatMap SC, u.oneCell' = true := by
  intro u hu
  obtain ⟨x, -, hx⟩ := List.mem_flatMap.1 hu
  simp only [SC, List.mem_cons, List.not_mem_nil, or_false] at hx
  rcases hx with rfl | rfl <;> rfl
end Go.Proofs.Ytfdhaodgnenhcaa.Pub

/-
  Layer 16 (newview): the program's entries.
-/
namespace Go.Proofs.Ytfdhaodgnenhcaa.Nxf
set_option linter.unusedSimpArgs false
open Go Go.RowKit Ck Kw Ga Kf Pm Py Jm Jb Jt Pra Prb Prh Prr Pte Pub Ky Nva Nvb Nve Nxa Nxe
attribute [local go_sem ↓] Go.wp_at_zero Go.wp_at_succ
set_option linter.unusedVariables false
set_option maxRecDepth 100000

/-- A row of one's own whose elements point into blocks of T, none of which is the row's. -/
structure OT {α ρ : Type} (κ : Ky.Kd α ρ) (w0 : World) (t : TypeId) (T : Nat → Prop) (v : Value) (l : List α) (W : World) : Prop where
  og : OG κ W w0.heap.size t (fun k => ¬ T k) v l
  lo : ∀ k, T k → w0.heap.size ≤ k ∧ k < W.heap.size
  own : ∀ q, v.ownBlock = some q → ¬ T q
  below : Below w0.heap.size w0 W
theorem OT.nil {α ρ : Type} (κ : Ky.Kd α ρ) (w0 : World) (t : TypeId) {W : World} (b : Below w0.heap.size w0 W) : OT κ w0 t (fun _ => False) (.slice none 0 0) [] W :=
  ⟨OG.nil _ _ _ _ _, fun k h => h.elim, fun q h => by simp [Value.ownBlock] at h, b⟩
theorem OT.later {α ρ : Type} {κ : Ky.Kd α ρ} {w0 : World} {t : TypeId} {T : Nat → Prop} {v : Value} {l : List α} {W W' : World} (h : OT κ w0 t T v l W) (b : Below W.heap.size W W') : OT κ w0 t T v l W' :=
  ⟨h.og.below b, fun k hk => ⟨(h.lo k hk).1, Nat.lt_of_lt_of_le (h.lo k hk).2 b.size⟩, h.own, h.below.trans (b.mono h.below.size)⟩
theorem OT.snoc {α ρ : Type} {κ : Ky.Kd α ρ} {w0 : World} {t : TypeId} {T : Nat → Prop} {v v' : Value} {l : List α} {rs : List ρ} {a : α} {r : ρ} {W W1 W3 : World} {o : Obj} (h : OT κ w0 t T v l W) (hg : Gts κ W (fun k => ¬ T k) l rs) (hr : W.ownsRow w0.heap.size t κ.K v l.length (flatG κ l rs)) (b : Below W.heap.size W W1) (hI : κ.I W1 (fun q => q < W.heap.size) a r)
    (ha : Appended (W1.alloc o) w0.heap.size t κ.K v (l.length + 1) (flatG κ l rs ++ (κ.C a r).toList) v' W3) : OT κ w0 t (fun k => T k ∨ (W.heap.size ≤ k ∧ k < W1.heap.size)) v' (l ++ [a]) W3 := by
  have hb2 : Below W1.heap.size W1 (W1.alloc o) := (Below.refl _ _).alloc (Nat.le_refl _) _
  have hbb := b.trans (hb2.mono b.size)
  have hs := b.size
  have hs2 : (W1.alloc o).heap.size = W1.heap.size + 1 := by simp
  have hc := Ch.of_grown (S := fun k => v.ownBlock = some k) ha.2.1 (fun g hg _ => hg)
  have hs3 := hc.size
  have hw := h.below.size
  have how : ∀ q, v.ownBlock = some q → w0.heap.size ≤ q ∧ q < W.heap.size := fun q hq => hr.lt q hq
  refine ⟨OG.snoc ((hg.weaken (fun b _ hn ht => hn (.inl ht))).after hbb) (κ.after (κ.weaken hI (fun b hb hn => ?_)) hb2) ha hc (fun k hk => ?_), fun k hk => ?_, fun q hq => ?_, ?_⟩
  · show b < W.heap.size
    rcases Nat.lt_or_ge b W.heap.size with hlt | hge
    · exact hlt
    · exact (hn (.inr ⟨hge, hb⟩)).elim
  · rintro (ht | ht)
    · exact h.own k hk ht
    · have := how k hk; omega
  · rcases hk with hk | hk
    · have := h.lo k hk; omega
    · omega
  · rcases ha.2.2 with e | e
    · rw [e] at hq
      rintro (ht | ht)
      · exact h.own q hq ht
      · have := how q hq; omega
    · rw [e] at hq
      obtain rfl := Option.some.inj hq
      rintro (ht | ht)
      · have := h.lo _ ht; omega
      · omega
  · exact (h.below.trans (hbb.mono hw)).trans (hc.below (fun k hk e => by have := how k e; omega) (by omega))
theorem info_entry : (Try.prog.info? 56).map (fun i => (i.zero, i.size, i.bytes)) = some (some (.agg #[.int .i64 0, .int .i64 0, .slice none 0 0, .int .i64 0, .int .i64 0]), 5, 56) := by kernel_rfl
/-- What a list of view-changes is of, for Select. -/
structure okL (l : List Cg) : Prop where
  above : ∀ c ∈ l, c.above.length ≤ NN
  seq : ∀ c ∈ l, ∀ p ∈ c.above, I64 p.seq
  each : ∀ c ∈ l, ∀ p ∈ c.above, okV p
theorem field_batch (W : World) (a0 a1 a2 a3 a4 a5 : Value) (A : Option Addr) (n c : Nat) : (Instr.field 43 (.agg #[a0, a1, a2, a3, a4, a5, .slice A n c]) 5).run Try.prog W = .ok (.slice A n c) W := by kernel_rfl
theorem batch_of (o : Option Pd) : (o.getD Pd.zero).batch = batchO o := by cases o <;> rfl
theorem batch_ok {l : List Cg} (h : okL l) (s : Int) : (∀ y ∈ batchO (latC s none l), far y.q.o 140737488351232) ∧ (batchO (latC s none l)).length * 104 ≤ 140737488355328 := by
  cases hx : latC s none l with
  | none => exact ⟨fun y hy => absurd hy (by simp [batchO]), by simp [batchO]⟩
  | some p =>
    rcases latC_mem l hx with h1 | ⟨h1, c, h2, h3⟩
    · cases h1
    · have := h.each c h2 p h3
      exact ⟨this.2.2.2, by have := this.2.2.1; simp only [batchO]; omega⟩
theorem top_range {l : List Cg} (h : okL l) {low : Int} (hl : I64 low) : topC low l ≤ 9223372036854775807 := topC_range l hl.2 (fun c hc p hp => (h.seq c hc p hp).2)
set_option maxHeartbeats 8000000 in
theorem entries_any (w : World) (X : Nat → Prop) (view low : Int) (v : Value) (l : List Cg) (h : CgL w X v l) (hl : l.length ≤ 13) (hok : okL l) (hlow : I64 low) :
    Calls Try.prog 25 #[.int .i64 view, .int .i64 low, v] w fun e w' => ∃ T v', e = .returned v' ∧ OT kE w 56 T v' (entriesE view low (topC 0 l) l) w' := by
  have HLT := Lib.hid (latest_any w X v l h hl hok.above hok.seq)
  have HOK := Lib.hid (And.intro hok hlow)
  by_cases h0 : low < 0
  · have HN : Hid (entriesE view low (topC 0 l) l = []) := Lib.hid (by unfold entriesE; rw [none_prog l h0]; rfl)
    clear hlow HLT
    go_enter Try.func25, Try.ntmps25
    go_wp2_with fail
    go_ret
    exact ⟨_, _, rfl, by rw [HN.out]; exact OT.nil _ _ _ (Below.refl _ _)⟩
  · have HMN : Hid ((manyE low (topC 0 l) : Int) = min (topC low l - low) 8) := Lib.hid (many_prog l (by omega))
    have HTR := Lib.hid (And.intro (top_range hok hlow) ((topC_le l low).1))
    clear hok hlow hl h
    go_enter Try.func25, Try.ntmps25
    go_wp2_with fail
    refine HLT.out.mono ?_
    rintro e w1 ⟨b, n, D, rfl, ht⟩
    have HT := Lib.hid ht
    have hown := ht.own
    have hb1 := ht.below
    clear ht
    go_wp2_with (at_range; refine wpList_range_own _ rfl _ 78 rfl 2 43 law_i64 Try.underlying78 _ b n D rfl hown ?_; intro w2 hrg0 hg0 hs0)
    have hb2 : Below w1.heap.size w1 w2 := below_of_grown hg0 (fun k hk => by cases hk)
    have HT2 := Lib.hid (HT.out.later hb2)
    have HSZ : Hid (w.heap.size ≤ w1.heap.size ∧ b < w1.heap.size ∧ w.heap.size ≤ b) := Lib.hid ⟨hb1.size, hown.lt, HT.out.big⟩
    generalize w1.heap.size = r at *
    have HTA : Hid (TopAt (fun s => latC s none l) low (Maps.has D) low) := Lib.hid ⟨Int.le_refl _, .inl rfl, fun n hn hl => by rw [HT.out.df.has, hn] at hl; cases hl⟩
    clear hown hb1 hb2 hg0 hs0
    go_frame
    go_loopw [8] (fun tv wr => ∃ (t : Int) (left : Lit → Bool) (cnt : Nat), tv = .int .i64 t ∧ wr.ranges Try.prog 2 RV b r n D left cnt ∧ TopAt (fun s => latC s none l) low left t ∧ Below w.heap.size w wr)
      (fun _ wr => wr.rangeLeft b r)
    case atStart => exact ⟨low, _, _, rfl, hrg0, HTA.out, HT2.out.below⟩
    case round =>
      obtain ⟨t, left, cnt, rfl, hrg, hta, hbr⟩ := hrel
      clear hrg0
      have HDF := Lib.hid HT.out.df
      go_wp2_with (at_next; refine wpList_next_told _ rfl _ rfl b r n D left cnt HDF.out rfl hrg ?_ ?_)
      · intro hdone
        have HTE : Hid (t = topC low l) := Lib.hid (hta.done hdone)
        have HTM : Hid (TM w X b n D (fun s => latC s none l) wr) := Lib.hid ⟨hbr, hrg.owns, HT.out.df, HSZ.out.2.2⟩
        have HTT : Hid (t ≤ 9223372036854775807 ∧ low ≤ t) := Lib.hid (by rw [HTE.out]; exact HTR.out)
        have HL0 : Hid (0 ≤ low) := Lib.hid (by omega)
        have HM : Hid ((manyE low (topC 0 l) : Int) = min (t - low) 8) := Lib.hid (by rw [HTE.out]; exact HMN.out)
        have hw : IntKind.i64.wrap (t - low) = t - low := wrap64 (by have := HTT.out; omega) (by have := HTT.out; have := HL0.out; omega)
        clear hta hrg hbr h0 HTE
        obtain ⟨mn, hmn⟩ : ∃ mn, mn = manyE low (topC 0 l) := ⟨_, rfl⟩
        rw [← hmn] at HM
        have HMN := Lib.hid hmn
        clear hmn
        obtain ⟨i0, hi0, hz0, hz1, hz2⟩ := info_parts info_entry
        have HOW : Hid (wr.ownsMap Try.prog 2 RV b n D ∧ OT kE w 56 (fun _ => False) (.slice none 0 0) ([] : List En) wr) := Lib.hid ⟨HTM.out.own, OT.nil _ _ _ HTM.out.below⟩
        go_wp2_with fail
        rw [← HM.out]
        have hmn8 : mn ≤ 8 := by have := HM.out; omega
        go_loopw [10, 31] (fun lv i wx => ∃ (k : Nat) (T : Nat → Prop), k ≤ mn ∧ i = .int .i64 k ∧ OT kE w 56 T lv ((List.range k).map (entE view low l)) wx ∧ wx.ownsMap Try.prog 2 RV b n D) (fun _ i _ => mn - (intOf i).toNat)
        case atStart => exact ⟨0, fun _ => False, Nat.zero_le _, rfl, HOW.out.2, HOW.out.1⟩
        case round =>
          obtain ⟨k, T, hk, rfl, hot, hown⟩ := hrel
          by_cases hlt : k < mn
          · have hkp : (0 : Int) ≤ (k : Int) := by omega
            have hkl : (k : Int) < (mn : Int) := by omega
            have hkt : low + 1 + (k : Int) ≤ t := by have := HM.out; omega
            obtain ⟨z, hz⟩ : ∃ z, z = low + 1 + (k : Int) := ⟨_, rfl⟩
            have hw1 : IntKind.i64.wrap (low + 1) = low + 1 := wrap64 (by have := HL0.out; omega) (by have := HTT.out; omega)
            have hw2 : IntKind.i64.wrap (low + 1 + (k : Int)) = z := by rw [hz]; exact wrap64 (by have := HL0.out; omega) (by have := HTT.out; omega)
            have HEE : Hid (entE view low l k = ⟨view, z, batchO (latC z none l), (0, 0)⟩) := Lib.hid (by
              have : low + (k : Int) + 1 = z := by omega
              unfold entE
              rw [this])
            have hzi : I64 z := ⟨by have := HL0.out; omega, by have := HTT.out; omega⟩
            obtain ⟨ro, hpo, hlk⟩ := look_df HT.out.df hzi
            have hl2 := (hlk wr b n hown).2
            have hbo := batch_of (latC z none l)
            have hbk := batch_ok HOK.out.1 z
            have HCL := Lib.hid (cloneb_any wr _ ro.2.1 ro.2.2 ((latC z none l).getD Pd.zero).batch (hpo.batch.after hot.below) (by rw [hbo]; exact hbk.1) (by rw [hbo]; exact hbk.2))
            have HSN := Lib.hid (ents_step view low l k)
            obtain ⟨rs, hg, hrow⟩ := hot.og.ex
            have HOT := Lib.hid (And.intro hot (And.intro hg (And.intro hrow hown)))
            have HEL : Hid (((List.range k).map (entE view low l)).length + 1 ≤ maxLen ∧ (((List.range k).map (entE view low l)).length + 1) * 56 ≤ 140737488355328) := Lib.hid (by rw [List.length_map, List.length_range]; simp only [maxLen]; omega)
            rw [hbo] at HCL
            generalize (List.range k).map (entE view low l) = es at *
            obtain ⟨Ae, ce, rfl⟩ := own_shape hrow
            generalize (latC z none l).getD Pd.zero = old at *
            generalize batchO (latC z none l) = bat at *
            clear hg hrow hot hown hpo hlk hz hkt
            unfold PC at hl2
            have hfd := field_batch wr (.int .i64 old.view) (.int .i64 old.seq) (.int .i64 old.dig) (.int .i64 old.first.1) (.int .i64 old.first.2) (.slice ro.1.1 old.signs.length ro.1.2) ro.2.1 bat.length ro.2.2
            go_wp2_with fail
            refine HCL.out.mono ?_
            rintro e w5 ⟨A5, c5, rs5, rfl, hcl⟩
            have hb5 := hcl.below
            have HBI := Lib.hid (clb_bi hcl)
            have HB5 := Lib.hid hb5
            have HRW : Hid ((w5.alloc (.cells (EC ⟨view, z, bat, (0, 0)⟩ (A5, c5)) 56)).ownsRow w.heap.size 56 5 (.slice Ae es.length ce) es.length (flatG kE es rs)) := Lib.hid (own_below HOT.out.2.2.1 (hb5.alloc hb5.size _))
            have HLIT := Lib.hid (lit_one kE w5 (fun _ => False) 56 ⟨view, z, bat, (0, 0)⟩ (A5, c5) (fun h => h))
            have HONE := Lib.hid (EC_one ⟨view, z, bat, (0, 0)⟩ (A5, c5))
            have HWS : Hid (w.heap.size ≤ (w5.alloc (.cells (EC ⟨view, z, bat, (0, 0)⟩ (A5, c5)) 56)).heap.size) := Lib.hid (by have := HOT.out.1.below.size; have := hb5.size; simp only [World.size_alloc]; omega)
            change Hid (Sl (w5.alloc (.cells (EC ⟨view, z, bat, (0, 0)⟩ (A5, c5)) 56)) (fun _ => False) 5 _ 1 (EC ⟨view, z, bat, (0, 0)⟩ (A5, c5)).toList) at HLIT
            clear hcl hb5 hl2 hfd
            unfold EC at HLIT HONE HRW HWS
            go_wp2_with (at_builtin; refine wpList_append_sh _ rfl (.tmp 38) (.tmp 47) _ rfl w.heap.size 56 i0 _ 5 56 Try.underlying27 hi0 hz0 hz1 hz2 rfl (by omega) (.slice Ae es.length ce) es.length (flatG kE es rs) rfl HRW.out (fun _ => False) _ 1 _ rfl HLIT.out HONE.out HEL.out.1 HEL.out.2 HWS.out ?_; intro Af cf w6 happ)
            have hno := OT.snoc (κ := kE) (a := ⟨view, z, bat, (0, 0)⟩) (r := (A5, c5)) HOT.out.1 HOT.out.2.1 HOT.out.2.2.1 HB5.out HBI.out happ
            have hb7 : Below w5.heap.size w5 (w5.alloc (.cells (EC ⟨view, z, bat, (0, 0)⟩ (A5, c5)) 56)) := (Below.refl _ _).alloc (Nat.le_refl _) _
            have hown6 := map_ch HOT.out.2.2.2 ((Ch.of_below (S := fun k => (Value.slice Ae es.length ce).ownBlock = some k) (HB5.out.trans (hb7.mono HB5.out.size)) (Nat.le_refl _)).trans (Ch.of_grown (S := fun k => (Value.slice Ae es.length ce).ownBlock = some k) happ.2.1 (fun g hg _ => hg)) (fun _ _ h => h)) (map_row HOT.out.2.2.2 HOT.out.2.2.1)
            rw [← HEE.out, ← HSN.out] at hno
            have HNO := Lib.hid (And.intro hno hown6)
            clear hno hown6 hb7 happ HLIT HONE HRW HWS
            go_roundw
            case rel => exact ⟨k + 1, _, by omega, by go_num, HNO.out.1, HNO.out.2⟩
            case measure => simp [intOf]; omega
          · have hke : k = mn := by omega
            subst hke
            have HFN : Hid (OT kE w 56 T _ (entriesE view low (topC 0 l) l) wr) := Lib.hid (by unfold entriesE; rw [← HMN.out]; exact hot)
            clear hot hown
            go_wp2_with fail
            go_ret
            exact ⟨T, _, rfl, HFN.out⟩
      · intro s vv w3 cnt3 hs hleft hrg3 hlt3 hg3 hs3 hen
        have hc3 : Ch (fun k => k = r) wr w3 := Ch.of_grown hg3 (fun k hk _ => (Option.some.inj hk).symm)
        have HB3 := Lib.hid (hbr.trans (hc3.below (fun k hk e => by have := HSZ.out; omega) hbr.size))
        have HTA3 := Lib.hid (hta.step hs)
        have HLT3 := Lib.hid (And.intro hlt3 hrg)
        have HRG3 := Lib.hid hrg3
        clear hta hrg hbr hs hleft hlt3 hg3 hs3 hc3 hrg3
        go_wp2_with fail
        go_roundw
        case rel => exact ⟨max t s, _, cnt3, rfl, HRG3.out, HTA3.out, HB3.out⟩
        case measure => rw [HRG3.out.left_eq, HLT3.out.2.left_eq]; exact HLT3.out.1
end Go.Proofs.Ytfdhaodgnenhcaa.Nxf

/-
  Layer 15 (prepared): opening certificates, what is done with a Held, specs, votes under the form's own reach.
-/
namespace Go.Proofs.Ytfdhaodgnenhcaa.Ptm
set_option linter.unusedSimpArgs false
open Go Go.RowKit Go.ChangeShapes Go.WideShapes Go.ChangeAt Go.Deep Ck Kf Kp Pm Pe Py Lk Jm Ja Jb Jo Pra Prb Prr Pta Pte
set_option linter.unusedVariables false
set_option maxRecDepth 100000

section
variable {H : Type} {enc : TypeId × Value → H}
/-- A slice, opened: its elements one by one. -/
theorem open_gen {w : World} {fuel base : Nat} {v : Value} {x : DataW H × List MemPlace} {TS TE : TypeId} (hu : Try.prog.underlying TS = some (.slice TE)) {size bytes R : Nat} (hc : Try.prog.cellsOf TE = size) (hb : Try.prog.bytesOf TE = bytes) (hs : 0 < size)
    {E : Type} (cells : E → List Value) (hlen : ∀ e, (cells e).length = size) (P : E → Prop) (d : E)
    (helem : ∀ fuel cs y, DataW.trod enc Try.prog w base (fun _ => true) true fuel TE cs = some y → (∀ n ∈ y.1.weights Try.prog TE, n ≤ R) → ∃ e, cs = cells e ∧ P e)
    (h : DataW.trod enc Try.prog w base (fun _ => true) true fuel TS [v] = some x) (hR : ∀ n ∈ x.1.weights Try.prog TS, n ≤ R) :
    ∃ l : List E, Sl w (fun k => w.heap.size ≤ k) size v l.length (l.flatMap cells) ∧ l.length * bytes ≤ R ∧ ∀ e ∈ l, P e := by
  rcases open_slice hu h with ⟨hcs, rfl⟩ | ⟨a, len, cap, m, n, D, Pl, hcs, _, hl, hm, hmm, rfl, hx⟩
  · obtain rfl : v = .slice none 0 0 := by simpa using hcs
    exact ⟨[], Sl.nil _ _ _, by simp, fun e he => absurd he (by simp)⟩
  · obtain rfl : v = .slice (some a) len cap := by simpa using hcs
    simp only [if_true] at hmm
    have each : ∀ i, ∃ e : E, i < len → (∀ j u, (cells e)[j]? = some u → w.cell? (a.add (i * size + j)) = some u) ∧ P e := by
      intro i
      by_cases hi : i < len
      · obtain ⟨cs', hcc, ht⟩ := hx i (by omega)
        obtain ⟨e, rfl, hp⟩ := helem _ _ _ ht (fun n hn => hR n (by
          simp only [DataW.weights, hu, List.mem_cons, List.mem_append]
          exact .inr (.inl (all_mem hn (List.mem_map.2 ⟨i, by simpa using hi, rfl⟩)))))
        rw [hc] at hcc
        obtain ⟨_, _, hcell⟩ := World.cells?_some hcc
        refine ⟨e, fun _ => ⟨fun j u hj => ?_, hp⟩⟩
        have hjl : j < size := by rw [← hlen e]; exact (List.getElem?_eq_some_iff.1 hj).1
        have h1 := hcell j hjl
        rw [Ck.add_add] at h1
        rw [h1, ← hj, List.getElem?_eq_getElem (by rw [hlen]; exact hjl)]
      · exact ⟨d, fun h => absurd h hi⟩
    obtain ⟨f, hf⟩ := Classical.axiomOfChoice each
    have hll : ((List.range len).map f).length = len := by simp
    refine ⟨(List.range len).map f, ?_, ?_, fun e he => ?_⟩
    · refine ⟨some a, cap, by rw [hll], by rw [flat_len hlen, hll], by rw [hll]; exact hl, hm, fun hn => ?_⟩
      rw [hll] at hn
      have h00 : (cells (f 0))[0]? = some ((cells (f 0))[0]'(by rw [hlen]; exact hs)) := List.getElem?_eq_getElem _
      have h0 := (hf 0 hn).1 0 _ h00
      refine ⟨a, rfl, by have := World.block_lt_of_cell? w _ h0; rw [Ck.add_block] at this; exact this, by have := World.block_lt_of_cell? w _ h0; rw [Ck.add_block] at this; omega, fun j u hj => ?_⟩
      have hjl : j < len * size := by
        have := (List.getElem?_eq_some_iff.1 hj).1
        rw [flat_len hlen, hll] at this
        exact this
      have hi : j / size < len := (Nat.div_lt_iff_lt_mul hs).2 hjl
      have hmd : j % size < size := Nat.mod_lt _ hs
      have hg := flat_get hlen ((List.range len).map f) (j / size) (by rw [hll]; exact hi) (j % size) hmd
      rw [Nat.div_add_mod' j size] at hg
      rw [hg] at hj
      have := (hf (j / size) hi).1 (j % size) u (by rw [← hj]; congr 1; simp)
      rwa [Nat.div_add_mod' j size] at this
    · have := hR _ (by simp only [DataW.weights, hu]; exact List.mem_cons_self)
      rw [hb] at this
      rw [hll]
      simp only [List.length_append, List.length_map, List.length_range, List.length_replicate] at this
      exact Nat.le_trans (Nat.mul_le_mul_right bytes (by omega)) this
    · obtain ⟨i, hi, rfl⟩ := List.mem_map.1 he
      exact (hf i (by simpa using hi)).2
theorem bytes_sgn : Try.prog.bytesOf 39 = 16 := by kernel_rfl
theorem open_ss {w : World} {fuel base : Nat} {v : Value} {x : DataW H × List MemPlace} {R : Nat} (h : DataW.trod enc Try.prog w base (fun _ => true) true fuel 24 [v] = some x) (hR : ∀ n ∈ x.1.weights Try.prog 24, n ≤ R) :
    ∃ l : List Sg, SS w (fun k => w.heap.size ≤ k) v l ∧ l.length * 16 ≤ R ∧ ∀ s ∈ l, wfS s :=
  open_gen Try.underlying24 cells_sgn bytes_sgn (by omega) SC SC_len wfS (0, 0) (fun fuel cs y hy _ => by
    obtain ⟨s, h1, h2⟩ := open_sg hy
    exact ⟨s, h1, h2⟩) h hR
theorem cells_prep : Try.prog.cellsOf 43 = 7 := by kernel_rfl
theorem bytes_prep : Try.prog.bytesOf 43 = 88 := by kernel_rfl
theorem cells_ss : Try.prog.cellsOf 24 = 1 := by kernel_rfl
theorem cells_bat : Try.prog.cellsOf 41 = 1 := by kernel_rfl
def wfP (p : Pd) : Prop := (-9223372036854775808 ≤ p.seq ∧ p.seq ≤ 9223372036854775807) ∧ (-9223372036854775808 ≤ p.view ∧ p.view ≤ 9223372036854775807)
theorem open_prep {w : World} {base fuel : Nat} {cs : List Value} {x : DataW H × List MemPlace} (h : DataW.trod enc Try.prog w base (fun _ => true) true fuel 43 cs = some x) (hR : ∀ n ∈ x.1.weights Try.prog 43, n ≤ 140737488351232) :
    ∃ e : Pd × Pl2, cs = (PC e.1 e.2).toList ∧ PI w (fun k => w.heap.size ≤ k) e.1 e.2 ∧ okV e.1 ∧ wfP e.1 := by
  obtain ⟨xs, n', _, hx, hl, hxl, hf⟩ := DataW.trod_struct Try.underlying43 h
  rw [cells_prep] at hl
  have hxl' : xs.length = 6 := hxl
  match cs, hl with
  | [v0, v1, v2, v3, v4, v5, v6], _ =>
    have f0 : DataW.trod enc Try.prog w base (fun _ => true) true n' 2 (([v0, v1, v2, v3, v4, v5, v6].drop 0).take (Try.prog.cellsOf 2)) = xs[0]? := hf 0 _ rfl
    have f1 : DataW.trod enc Try.prog w base (fun _ => true) true n' 2 (([v0, v1, v2, v3, v4, v5, v6].drop 1).take (Try.prog.cellsOf 2)) = xs[1]? := hf 1 _ rfl
    have f2 : DataW.trod enc Try.prog w base (fun _ => true) true n' 23 (([v0, v1, v2, v3, v4, v5, v6].drop 2).take (Try.prog.cellsOf 23)) = xs[2]? := hf 2 _ rfl
    have f3 : DataW.trod enc Try.prog w base (fun _ => true) true n' 39 (([v0, v1, v2, v3, v4, v5, v6].drop 3).take (Try.prog.cellsOf 39)) = xs[3]? := hf 3 _ rfl
    have f4 : DataW.trod enc Try.prog w base (fun _ => true) true n' 24 (([v0, v1, v2, v3, v4, v5, v6].drop 5).take (Try.prog.cellsOf 24)) = xs[4]? := hf 4 _ rfl
    have f5 : DataW.trod enc Try.prog w base (fun _ => true) true n' 41 (([v0, v1, v2, v3, v4, v5, v6].drop 6).take (Try.prog.cellsOf 41)) = xs[5]? := hf 5 _ rfl
    rw [Py.cells_i64] at f0 f1
    rw [Jo.cells_dig] at f2
    rw [cells_sgn] at f3
    rw [cells_ss] at f4
    rw [cells_bat] at f5
    simp only [List.drop_zero, List.drop_succ_cons, List.take_succ_cons, List.take_zero] at f0 f1 f2 f3 f4 f5
    obtain ⟨z0, e0, w0⟩ := one_int Try.underlying2 (by omega) f0
    obtain ⟨z1, e1, w1⟩ := one_int Try.underlying2 (by omega) f1
    obtain ⟨z2, e2, w2⟩ := one_int Try.underlying23 (by omega) f2
    rw [List.getElem?_eq_getElem (by omega)] at f3 f4 f5
    have m : ∀ (j : Nat) (t : TypeId) (ht : [2, 2, 23, 39, 24, 41][j]? = some t) (hj : j < xs.length), ∀ n ∈ (xs[j]).1.weights Try.prog t, n ≤ 140737488351232 := fun j t ht hj n hn => hR n (by
      rw [hx]
      simp only [DataW.weights, Try.underlying43]
      exact DataW.weights_mem_each (ts := [2, 2, 23, 39, 24, 41]) (j := j) (t := t) ht (by simp [List.getElem?_eq_getElem hj]) n hn)
    obtain ⟨s, e3, ws⟩ := open_sg f3
    obtain ⟨sl, hss, hsl, _⟩ := open_ss f4 (m 4 _ rfl (by omega))
    obtain ⟨bl, hbi, hbl, hby⟩ := open_batch f5 (m 5 _ rfl (by omega))
    have b0 : -9223372036854775808 ≤ z0 ∧ z0 ≤ 9223372036854775807 := by simpa [Lit.wf, IntKind.min, IntKind.max, IntKind.signed, IntKind.bits] using w0
    have b1 : -9223372036854775808 ≤ z1 ∧ z1 ≤ 9223372036854775807 := by simpa [Lit.wf, IntKind.min, IntKind.max, IntKind.signed, IntKind.bits] using w1
    simp only [List.cons.injEq, and_true] at e0 e1 e2 e3
    obtain ⟨A, c, rfl, -⟩ := id hss
    obtain ⟨A2, c2, rfl, -⟩ := hbi.shape
    refine ⟨(⟨z0, z1, z2, s, sl, bl⟩, ((A, c), (A2, c2))), ?_, ⟨hss, hbi⟩, ⟨⟨fun y hy => ?_, show bl.length ≤ 140737488355328 by omega, show sl.length ≤ 140737488355328 by omega⟩, hsl, hbl, fun y hy => (hby y hy).1⟩, b1, b0⟩
    · rw [e0, e1, e2, e3.1, e3.2]; rfl
    · have := (hby y hy).1.2.2.1; omega
theorem zip_maps {α β : Type} : ∀ l : List (α × β), (l.map (·.1)).zip (l.map (·.2)) = l
  | [] => rfl
  | e :: l => by rw [List.map_cons, List.map_cons, List.zip_cons_cons, zip_maps l]
theorem open_preps {w : World} {base fuel : Nat} {v : Value} {x : DataW H × List MemPlace} (h : DataW.trod enc Try.prog w base (fun _ => true) true fuel 47 [v] = some x) (hR : ∀ n ∈ x.1.weights Try.prog 47, n ≤ 140737488351232) :
    ∃ l : List Pd, PL w (fun k => w.heap.size ≤ k) v l ∧ l.length * 88 ≤ 140737488351232 ∧ ∀ p ∈ l, okV p ∧ wfP p := by
  obtain ⟨l, h1, h2, h3⟩ := open_gen Try.underlying47 cells_prep bytes_prep (by omega) (fun e : Pd × Pl2 => (PC e.1 e.2).toList) (fun e => PC_len e) (fun e => PI w (fun k => w.heap.size ≤ k) e.1 e.2 ∧ okV e.1 ∧ wfP e.1) (Pd.zero, ((none, 0), (none, 0))) (fun fuel cs y hy hr => open_prep hy hr) h hR
  refine ⟨l.map (·.1), ⟨l.map (·.2), ⟨by simp, fun i hi => ?_⟩, ?_⟩, by rw [List.length_map]; exact h2, fun p hp => ?_⟩
  · have hi' : i < l.length := by simpa using hi
    refine ⟨l[i].2, by rw [List.getElem?_map, List.getElem?_eq_getElem hi']; rfl, ?_⟩
    have := (h3 _ (List.getElem_mem hi')).1
    simpa using this
  · rw [List.length_map, flatP, zip_maps]
    exact h1
  · obtain ⟨e, he, rfl⟩ := List.mem_map.1 hp
    exact (h3 e he).2
end
end Go.Proofs.Ytfdhaodgnenhcaa.Ptm

/-
  Layer 16 (newview): opening view-changes under the form's own reach.
-/
namespace Go.Proofs.Ytfdhaodgnenhcaa.Nxo
set_option linter.unusedSimpArgs false
open Go Go.RowKit Go.ChangeShapes Go.WideShapes Go.ChangeAt Go.Deep Ck Kf Kp Pm Pe Py Lk Jm Ja Jb Jo Pra Prb Prr Pte Ptm Ky Nva Nvb
set_option linter.unusedVariables false
set_option maxRecDepth 100000

/-- What a view-change is of: its rows are no longer than memory is; its numbers are numbers of their kind. -/
structure okC (c : Cg) : Prop where
  signs : c.cert.signs.length * 16 ≤ 140737488351232
  above : c.above.length * 88 ≤ 140737488351232
  each : ∀ p ∈ c.above, okV p ∧ wfP p
  seq : -9223372036854775808 ≤ c.cert.seq ∧ c.cert.seq ≤ 9223372036854775807
  from_ : -9223372036854775808 ≤ c.from_ ∧ c.from_ ≤ 9223372036854775807
section
variable {H : Type} {enc : TypeId × Value → H}
theorem cells_cert : Try.prog.cellsOf 26 = 3 := by kernel_rfl
theorem cells_change : Try.prog.cellsOf 49 = 8 := by kernel_rfl
theorem bytes_change : Try.prog.bytesOf 49 = 96 := by kernel_rfl
theorem cells_preps : Try.prog.cellsOf 47 = 1 := by kernel_rfl
theorem open_cert {w : World} {base fuel : Nat} {cs : List Value} {x : DataW H × List MemPlace} (h : DataW.trod enc Try.prog w base (fun _ => true) true fuel 26 cs = some x) (hR : ∀ n ∈ x.1.weights Try.prog 26, n ≤ 140737488351232) :
    ∃ (e : Ce) (r : Option Addr × Nat), cs = [.int .i64 e.seq, .int .i64 e.dig, .slice r.1 e.signs.length r.2] ∧ SS w (fun k => w.heap.size ≤ k) (.slice r.1 e.signs.length r.2) e.signs ∧ e.signs.length * 16 ≤ 140737488351232 ∧ (-9223372036854775808 ≤ e.seq ∧ e.seq ≤ 9223372036854775807) := by
  obtain ⟨xs, n', _, hx, hl, hxl, hf⟩ := DataW.trod_struct Try.underlying26 h
  rw [cells_cert] at hl
  have hxl' : xs.length = 3 := hxl
  match cs, hl with
  | [v0, v1, v2], _ =>
    have f0 : DataW.trod enc Try.prog w base (fun _ => true) true n' 2 (([v0, v1, v2].drop 0).take (Try.prog.cellsOf 2)) = xs[0]? := hf 0 _ rfl
    have f1 : DataW.trod enc Try.prog w base (fun _ => true) true n' 23 (([v0, v1, v2].drop 1).take (Try.prog.cellsOf 23)) = xs[1]? := hf 1 _ rfl
    have f2 : DataW.trod enc Try.prog w base (fun _ => true) true n' 24 (([v0, v1, v2].drop 2).take (Try.prog.cellsOf 24)) = xs[2]? := hf 2 _ rfl
    rw [Py.cells_i64] at f0
    rw [Jo.cells_dig] at f1
    rw [cells_ss] at f2
    simp only [List.drop_zero, List.drop_succ_cons, List.take_succ_cons, List.take_zero] at f0 f1 f2
    obtain ⟨z0, e0, w0⟩ := one_int Try.underlying2 (by omega) f0
    obtain ⟨z1, e1, w1⟩ := one_int Try.underlying23 (by omega) f1
    rw [List.getElem?_eq_getElem (by omega)] at f2
    obtain ⟨sl, hss, hsl, _⟩ := open_ss f2 (fun n hn => hR n (by
      rw [hx]
      simp only [DataW.weights, Try.underlying26]
      exact DataW.weights_mem_each (ts := [2, 23, 24]) (j := 2) (t := 24) rfl (by simp [List.getElem?_eq_getElem (show 2 < xs.length by omega)]) n hn))
    have b0 : -9223372036854775808 ≤ z0 ∧ z0 ≤ 9223372036854775807 := by simpa [Lit.wf, IntKind.min, IntKind.max, IntKind.signed, IntKind.bits] using w0
    simp only [List.cons.injEq, and_true] at e0 e1
    obtain ⟨A, c, rfl, -⟩ := id hss
    refine ⟨⟨z0, z1, sl⟩, (A, c), ?_, hss, hsl, b0⟩
    rw [e0, e1]
theorem open_change {w : World} {base fuel : Nat} {cs : List Value} {x : DataW H × List MemPlace} (h : DataW.trod enc Try.prog w base (fun _ => true) true fuel 49 cs = some x) (hR : ∀ n ∈ x.1.weights Try.prog 49, n ≤ 140737488351232) :
    ∃ e : Cg × Pl2, cs = (CC e.1 e.2).toList ∧ CgI w (fun k => w.heap.size ≤ k) e.1 e.2 ∧ okC e.1 := by
  obtain ⟨xs, n', _, hx, hl, hxl, hf⟩ := DataW.trod_struct Try.underlying49 h
  rw [cells_change] at hl
  have hxl' : xs.length = 5 := hxl
  match cs, hl with
  | [v0, v1, v2, v3, v4, v5, v6, v7], _ =>
    have f0 : DataW.trod enc Try.prog w base (fun _ => true) true n' 2 (([v0, v1, v2, v3, v4, v5, v6, v7].drop 0).take (Try.prog.cellsOf 2)) = xs[0]? := hf 0 _ rfl
    have f1 : DataW.trod enc Try.prog w base (fun _ => true) true n' 3 (([v0, v1, v2, v3, v4, v5, v6, v7].drop 1).take (Try.prog.cellsOf 3)) = xs[1]? := hf 1 _ rfl
    have f2 : DataW.trod enc Try.prog w base (fun _ => true) true n' 26 (([v0, v1, v2, v3, v4, v5, v6, v7].drop 2).take (Try.prog.cellsOf 26)) = xs[2]? := hf 2 _ rfl
    have f3 : DataW.trod enc Try.prog w base (fun _ => true) true n' 47 (([v0, v1, v2, v3, v4, v5, v6, v7].drop 5).take (Try.prog.cellsOf 47)) = xs[3]? := hf 3 _ rfl
    have f4 : DataW.trod enc Try.prog w base (fun _ => true) true n' 39 (([v0, v1, v2, v3, v4, v5, v6, v7].drop 6).take (Try.prog.cellsOf 39)) = xs[4]? := hf 4 _ rfl
    have ci : Try.prog.cellsOf 3 = 1 := by kernel_rfl
    rw [Py.cells_i64] at f0
    rw [ci] at f1
    rw [cells_cert] at f2
    rw [cells_preps] at f3
    rw [cells_sgn] at f4
    simp only [List.drop_zero, List.drop_succ_cons, List.take_succ_cons, List.take_zero] at f0 f1 f2 f3 f4
    obtain ⟨z0, e0, w0⟩ := one_int Try.underlying2 (by omega) f0
    obtain ⟨z1, e1, w1⟩ := one_int Try.underlying3 (by omega) f1
    rw [List.getElem?_eq_getElem (by omega)] at f2 f3 f4
    have m : ∀ (j : Nat) (t : TypeId) (ht : [2, 3, 26, 47, 39][j]? = some t) (hj : j < xs.length), ∀ n ∈ (xs[j]).1.weights Try.prog t, n ≤ 140737488351232 := fun j t ht hj n hn => hR n (by
      rw [hx]
      simp only [DataW.weights, Try.underlying49]
      exact DataW.weights_mem_each (ts := [2, 3, 26, 47, 39]) (j := j) (t := t) ht (by simp [List.getElem?_eq_getElem hj]) n hn)
    obtain ⟨ce, r, e2, hss, hsl, hsq⟩ := open_cert f2 (m 2 _ rfl (by omega))
    obtain ⟨al, hal, hll, hok⟩ := open_preps f3 (m 3 _ rfl (by omega))
    obtain ⟨s, e4, ws⟩ := open_sg f4
    have b1 : -9223372036854775808 ≤ z1 ∧ z1 ≤ 9223372036854775807 := by simpa [Lit.wf, IntKind.min, IntKind.max, IntKind.signed, IntKind.bits] using w1
    simp only [List.cons.injEq, and_true] at e0 e1 e2 e4
    obtain ⟨A2, c2, rfl, -⟩ := GL.shape (PL.gl.1 hal)
    refine ⟨(⟨z0, z1, ce, al, s⟩, (r, (A2, c2))), ?_, ⟨hss, hal⟩, ⟨hsl, hll, hok, hsq, b1⟩⟩
    rw [e0, e1, e2.1, e2.2.1, e2.2.2, e4.1, e4.2]
    rfl
theorem open_changes {w : World} {base fuel : Nat} {v : Value} {x : DataW H × List MemPlace} (h : DataW.trod enc Try.prog w base (fun _ => true) true fuel 22 [v] = some x) (hR : ∀ n ∈ x.1.weights Try.prog 22, n ≤ 140737488351232) :
    ∃ l : List Cg, CgL w (fun k => w.heap.size ≤ k) v l ∧ l.length * 96 ≤ 140737488351232 ∧ ∀ c ∈ l, okC c := by
  obtain ⟨l, h1, h2, h3⟩ := open_gen Try.underlying22 cells_change bytes_change (by omega) (fun e : Cg × Pl2 => (CC e.1 e.2).toList) (fun e => rfl) (fun e => CgI w (fun k => w.heap.size ≤ k) e.1 e.2 ∧ okC e.1) (⟨0, 0, Ce.zero, [], (0, 0)⟩, ((none, 0), (none, 0))) (fun fuel cs y hy hr => open_change hy hr) h hR
  refine ⟨l.map (·.1), ⟨l.map (·.2), ⟨by simp, fun i hi => ?_⟩, ?_⟩, by rw [List.length_map]; exact h2, fun p hp => ?_⟩
  · have hi' : i < l.length := by simpa using hi
    refine ⟨l[i].2, by rw [List.getElem?_map, List.getElem?_eq_getElem hi']; rfl, ?_⟩
    have := (h3 _ (List.getElem_mem hi')).1
    rw [List.getElem_map]
    exact this
  · rw [List.length_map, flatG, zip_maps]
    exact h1
  · obtain ⟨e, he, rfl⟩ := List.mem_map.1 hp
    exact (h3 e he).2
end
end Go.Proofs.Ytfdhaodgnenhcaa.Nxo
