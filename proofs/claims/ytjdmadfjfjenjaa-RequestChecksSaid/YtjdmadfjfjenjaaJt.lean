/-
  Layer 8: the program's Clone of batches, and what is one's own of it.
-/
import Derived.Test.YtjdmadfjfjenjaaJs
import Derived.Test.YtjdmadfjfjenjaaJf
import Derived.Test.YtjdmadfjfjenjaaJr
namespace Go.Proofs.Ytjdmadfjfjenjaa.Jt
set_option linter.unusedSimpArgs false
open Go Go.RowKit Ck Kf Kw Ga Pm Pe Ph Pk Py Qb Qs Qg Lk Ld Jm Ja Jb Jc Jf Jk Js
attribute [local go_sem ↓] Go.wp_at_zero Go.wp_at_succ
set_option linter.unusedVariables false
set_option maxRecDepth 100000

/-- Records of one's own: their row, and the bytes of each. -/
structure OR (B : Nat) (A : Option Addr) (c : Nat) (recs : List Tx) (vals : List Value) (W : World) : Prop where
  row : W.ownsRow B 43 1 (.slice A recs.length c) recs.length vals
  each : ∀ i (hi : i < recs.length), ∃ u, vals[i]? = some u ∧ W.ownsRow B 5 1 u recs[i].length (BVs recs[i])
section
variable {B : Nat} {A : Option Addr} {c : Nat} {recs : List Tx} {vals : List Value} {W W' : World}
theorem OR.later (h : OR B A c recs vals W) (b : Below W.heap.size W W') : OR B A c recs vals W' := ⟨own_below h.row b, fun i hi => by
  obtain ⟨u, hu, ho⟩ := h.each i hi
  exact ⟨u, hu, own_below ho b⟩⟩
theorem OR.base {B' : Nat} (h : OR B A c recs vals W) (hb : B' ≤ B) : OR B' A c recs vals W := ⟨own_base h.row hb, fun i hi => by
  obtain ⟨u, hu, ho⟩ := h.each i hi
  exact ⟨u, hu, own_base ho hb⟩⟩
theorem OR.ch {S : Nat → Prop} (h : OR B A c recs vals W) (k : Ch S W W') (hS : ∀ q, B ≤ q → ¬ S q) : OR B A c recs vals W' := ⟨own_ch h.row k (fun g hg => hS g (h.row.lt g hg).1), fun i hi => by
  obtain ⟨u, hu, ho⟩ := h.each i hi
  exact ⟨u, hu, own_ch ho k (fun g hg => hS g (ho.lt g hg).1)⟩⟩
/-- A store into a block of another type. -/
theorem OR.put {g j : Nat} {u : Value} {t : TypeId} {n m cc : Nat} {xs : List Value} (h : OR B A c recs vals W) (hr : W.ownsRow B t m (.slice (some ⟨g, 0, none⟩) n cc) n xs) (h1 : t ≠ 43) (h2 : t ≠ 5) : OR B A c recs vals (W.setCell ⟨g, j, none⟩ u) := by
  have cg := (hr.stored j u).2
  have ne : ∀ {t' : TypeId} {v : Value} {k s : Nat} {ys : List Value}, W.ownsRow B t' s v k ys → t ≠ t' → v.ownBlock = none ∨ v.ownBlock ≠ some g := fun {t' v k s ys} ho ht => by
    rcases ho.2 with ⟨rfl, _⟩ | ⟨g2, cap, cur, rfl, _, hg2, _⟩
    · exact .inl rfl
    · right
      simp only [Value.ownBlock, ne_eq, Option.some.injEq]
      rintro rfl
      rcases hr.2 with ⟨hn, _⟩ | ⟨g3, cap3, cur3, hv, _, hg3, _⟩
      · simp at hn
      · simp only [Value.slice.injEq, Option.some.injEq, Addr.mk.injEq, and_true] at hv
        obtain ⟨rfl, _⟩ := hv
        rw [hg3] at hg2
        simp only [Option.some.injEq, Obj.cells.injEq] at hg2
        exact ht hg2.2.1
  exact ⟨h.row.kept cg (ne h.row h1), fun i hi => by
    obtain ⟨w1, hu, ho⟩ := h.each i hi
    exact ⟨w1, hu, ho.kept cg (ne ho h2)⟩⟩
theorem OR.ls (h : OR B A c recs vals W) : Ls W (fun q => q < B) (.slice A recs.length c) recs :=
  ⟨vals, Sl.of_own h.row (fun q h1 _ h2 => by omega), fun i hi => by
    obtain ⟨u, hu, ho⟩ := h.each i hi
    exact ⟨u, hu, Sl.of_own ho (fun q h1 _ h2 => by omega)⟩⟩
end

/-- A request's clone, with its records one's own. -/
def OwnQ (w : World) (q : Q) (e : Ending) (w' : World) : Prop := ∃ A c vals, e = .returned (QV q A c) ∧ OR w.heap.size A c q.o.recs vals w' ∧ Below w.heap.size w w'
theorem fin2 {w w2 w3 : World} {q : Q} {A : Option Addr} {c : Nat} {vals : List Value} (h : OR (w.heap.size + 2) A c q.o.recs vals w2) (b : Below w.heap.size w w2) (hc : Ch (fun k => w.heap.size ≤ k ∧ k < w.heap.size + 2) w2 w3) :
    OwnQ w q (.returned (QV q A c)) w3 :=
  ⟨A, c, vals, rfl, (h.ch hc (fun q hq hk => by omega)).base (by omega), b.trans (hc.below (fun k hk h => by omega) b.size)⟩
set_option maxHeartbeats 2000000 in
theorem qown_any (w : World) (q : Q) (X : Nat → Prop) (A : Option Addr) (c : Nat) (hls : Ls w X (.slice A q.o.recs.length c) q.o.recs) (hlo : far q.o 140737488351232) :
    Calls Try.prog 48 #[QV q A c] w (OwnQ w q) := by
  have b1 := op_below w (.cells (QC q A c) 26)
  have b2 : Below w.heap.size w ((w.alloc (.cells (QC q A c) 26)).alloc (.cells Z7 26)) := b1.alloc b1.size _
  have k0 : QB ((w.alloc (.cells (QC q A c) 26)).alloc (.cells Z7 26)) w.heap.size q A c := Blk.alloc (Blk.new w _ _) _
  have k1 : Blk ((w.alloc (.cells (QC q A c) 26)).alloc (.cells Z7 26)) (w.heap.size + 1) 26 Z7 := Blk.new_at (by simp) rfl
  have hz : ((w.alloc (.cells (QC q A c) 26)).alloc (.cells Z7 26)).heap.size = w.heap.size + 2 := by simp
  have HZ := Lib.hid hz
  have HC := Lib.hid (Qg.clone_any _ q.o X A c (hls.after b2) hlo)
  obtain ⟨a0, a1, a2, a3, a4, a5, a6⟩ := k0.cells
  have HB := Lib.hid b2
  have HK0 := Lib.hid k0
  have HK1 := Lib.hid k1
  clear b1 b2 k0 k1 hls hlo hz
  unfold QV
  unfold OV at HC
  unfold QC Z7 at HC HB HK0 HK1 HZ a0 a1 a2 a3 a4 a5 a6
  unfold QC
  go_enter Try.func48, Try.ntmps48
  go_wp2_with fail
  refine HC.out.mono ?_
  rintro e w2 ⟨A2, c2, vals, rfl, hcl⟩
  have HOR : Hid (OR (w.heap.size + 2) A2 c2 q.o.recs vals w2) := Lib.hid (by
    rw [← HZ.out]
    exact ⟨hcl.row, fun i hi => hcl.mine i hi hi⟩)
  have hb2 := hcl.below
  have HB2 := Lib.hid (HB.out.trans (hb2.mono HB.out.size))
  have hq2 : Blk w2 w.heap.size 26 _ := Blk.below HK0.out hb2 (Blk.lt HK0.out)
  have hr2 : Blk w2 (w.heap.size + 1) 26 _ := Blk.below HK1.out hb2 (Blk.lt HK1.out)
  clear hcl hb2 a0 a1 a2 a3 a4 a5 a6
  obtain ⟨⟨a0, a1, a2, a3, a4, a5, a6⟩, ⟨f0, f1, f2, f3, f4, f5, f6⟩⟩ := Blk.cells7 hq2
  obtain ⟨⟨z0, z1, z2, z3, z4, z5, z6⟩, ⟨y0, y1, y2, y3, y4, y5, y6⟩⟩ := Blk.cells7 hr2
  have HQ2 := Lib.hid hq2
  have HR2 := Lib.hid hr2
  clear hq2 hr2
  unfold OV
  go_wp2_with fail
  refine bodyPost_ret (results_row1 rfl _ _ (w.heap.size + 1) 26 #[.int .i64 q.client, .int .i64 q.time, .int .i64 q.o.kind, .string ⟨q.o.topic.toArray⟩, .string ⟨q.o.group.toArray⟩, .int .i64 q.o.off, .slice A2 q.o.recs.length c2] (0, 0) _ rfl (blk7 (Blk.ch HR2.out (ch5 (Ch.refl _ _)) (by omega))) Try.underlying26 rfl size_req) rfl ?_
  exact fin2 HOR.out HB2.out (((ch5 (g := w.heap.size) (Ch.refl _ w2)).mono (fun k _ hk => by omega)).trans (ch7 (g := w.heap.size + 1) (Ch.refl _ _)) (fun k _ hk => by omega))

theorem flat_one {l : List Sd} {rs : List (Option Addr × Nat)} : ∀ u ∈ flat l rs, u.oneCell' = true := by
  intro u hu
  unfold flat at hu
  obtain ⟨p, _, hp⟩ := List.mem_flatMap.1 hu
  exact Jr.dc_one u hp
set_option maxHeartbeats 400000 in
theorem clone_sds (X : Nat → Prop) (v : Value) (n : Nat) (xs : List Value) (w : World) (hv : Sl w X 9 v n xs) (h1 : ∀ u ∈ xs, u.oneCell' = true) (hn : n * 104 ≤ 140737488355328) :
    Calls Try.prog 47 #[v] w fun e w' => ∃ A c, e = .returned (.slice A n c) ∧ w'.ownsRow w.heap.size 41 9 (.slice A n c) n xs ∧ Below w.heap.size w w' := by
  obtain ⟨i0, hi0, hz0, hz1, hz2⟩ := Jr.info_parts9 Jr.info_sd
  have hv' := hv
  obtain ⟨A, c, rfl, hxl, -⟩ := hv'
  have heq := fun (W : World) => Lib.run_eql_slice_nil (P := Try.prog) W 31 41 A n c 0 0 Try.underlying31
  rcases A with _ | ad
  · obtain ⟨h0, rfl⟩ := hv.none_
    subst h0
    clear hv h1 hxl
    go_enter Try.func47, Try.ntmps47
    go_wp2
    go_ret
    exact ⟨_, _, rfl, World.ownsRow_nil _ _ _ _, Below.refl _ _⟩
  · have HX := Lib.hid hxl
    clear hxl
    go_enter Try.func47, Try.ntmps47
    go_wp2_with (at_builtin; refine wpList_append_sh _ rfl (.tmp 5) (.tmp 6) _ rfl w.heap.size 41 i0 _ 9 104 Try.underlying31 hi0 hz0 hz1 hz2 rfl (by omega) (.slice (some ⟨w.heap.size, 0, none⟩) 0 0) 0 [] rfl (World.ownsRow_made w #[] 0 (Nat.le_refl _) (by simp only [maxLen]; omega) rfl) X _ n xs rfl (hv.alloc _) h1 (by simp only [maxLen]; omega) (by omega) (by simp) ?_; intro A2 c2 w2 happ)
    go_ret
    obtain ⟨ho, hg, hr⟩ := happ
    rw [Nat.zero_add] at hr
    refine ⟨A2, c2, by simp, by simpa using ho, ?_⟩
    exact ((Below.refl _ _).alloc (Nat.le_refl _) _).grown hg (by simp) (by simp [Value.ownBlock])

/-- A batch of one's own: the first k with records of one's own. -/
structure CLB (w0 : World) (X : Nat → Prop) (v : Value) (l : List Sd) (rs : List (Option Addr × Nat)) (k : Nat) (W : World) : Prop where
  below : Below w0.heap.size w0 W
  len : rs.length = l.length
  row : W.ownsRow w0.heap.size 41 9 v l.length (flat l rs)
  mine : ∀ i (hi : i < l.length), i < k → ∃ r vals, rs[i]? = some r ∧ OR w0.heap.size r.1 r.2 l[i].q.o.recs vals W
  rest : ∀ i (hi : i < l.length), k ≤ i → ∃ r, rs[i]? = some r ∧ Ls W (fun q => w0.heap.size ≤ q) (.slice r.1 l[i].q.o.recs.length r.2) l[i].q.o.recs
section
variable {w0 W W' : World} {X : Nat → Prop} {v : Value} {l : List Sd} {rs : List (Option Addr × Nat)} {k : Nat}
theorem CLB.later (h : CLB w0 X v l rs k W) (hb : Below W.heap.size W W') : CLB w0 X v l rs k W' :=
  ⟨h.below.trans (hb.mono h.below.size), h.len, own_below h.row hb, fun i hi hk => by
    obtain ⟨r, vals, hr, ho⟩ := h.mine i hi hk
    exact ⟨r, vals, hr, ho.later hb⟩, fun i hi hk => by
    obtain ⟨r, hr, ho⟩ := h.rest i hi hk
    exact ⟨r, hr, ho.after hb⟩⟩
theorem flat_at {l : List Sd} {rs : List (Option Addr × Nat)} (h : rs.length = l.length) {i : Nat} (hi : i < l.length) {r : Option Addr × Nat} (hr : rs[i]? = some r) (j : Nat) (hj : j < 9) : (flat l rs)[i * 9 + j]? = ((DC l[i] r.1 r.2).toList)[j]? := by
  have hz : i < (l.zip rs).length := by rw [zip_len h]; exact hi
  have hr2 : i < rs.length := by omega
  have he : (l.zip rs)[i] = (l[i], r) := by
    rw [List.getElem_zip]
    have : rs[i] = r := by have := List.getElem?_eq_getElem hr2; rw [this] at hr; exact Option.some.inj hr
    rw [this]
  rw [flat, flat_get DC_len _ _ hz j hj, he]
/-- The row's value, and the request at k. -/
theorem CLB.at_ (h : CLB w0 X v l rs k W) (hk : k < l.length) :
    ∃ g c r, v = .slice (some ⟨g, 0, none⟩) l.length c ∧ rs[k]? = some r ∧ (∀ j, j < 9 → W.cell? ⟨g, k * 9 + j, none⟩ = ((DC l[k] r.1 r.2).toList)[j]?) ∧ (∀ j, W.frozen? ⟨g, k * 9 + j, none⟩ = false) ∧ Ls W (fun q => w0.heap.size ≤ q) (.slice r.1 l[k].q.o.recs.length r.2) l[k].q.o.recs := by
  obtain ⟨g, c, rfl, hb, hlt⟩ := h.row.form (by omega)
  obtain ⟨r, hr, hs⟩ := h.rest k hk (Nat.le_refl _)
  refine ⟨g, c, r, rfl, hr, fun j hj => ?_, fun j => h.row.frozenAt _, hs⟩
  rw [h.row.cellAt _ (by omega), flat_at h.len hk hr j hj]
theorem set_same {xs : List Value} {i : Nat} {u : Value} (h : xs[i]? = some u) : xs.set i u = xs := by
  apply List.ext_getElem?
  intro j
  by_cases hj : i = j
  · subst hj
    rw [List.getElem?_set_self (by
      by_cases hl : i < xs.length
      · exact hl
      · rw [List.getElem?_eq_none (by omega)] at h; exact absurd h (by simp)), h]
  · rw [List.getElem?_set_ne hj]
theorem zip_set : ∀ (l : List Sd) (rs : List (Option Addr × Nat)) (k : Nat) (hk : k < l.length) (r : Option Addr × Nat), l.zip (rs.set k r) = (l.zip rs).set k (l[k], r)
  | [], _, _, hk, _ => absurd hk (by simp)
  | y :: l, [], k, hk, r => by simp
  | y :: l, a :: rs, 0, hk, r => rfl
  | y :: l, a :: rs, k + 1, hk, r => by
    have hk' : k < l.length := by simpa using hk
    have := zip_set l rs k hk' r
    simp only [List.set_cons_succ, List.zip_cons_cons, this, List.getElem_cons_succ]
theorem own_un {B : Nat} {g n cc m n' s : Nat} {xs ys : List Value} {t t' : TypeId} {v : Value} (hr : W.ownsRow B t m (.slice (some ⟨g, 0, none⟩) n cc) n xs) (ho : W.ownsRow B t' s v n' ys) (ht : t ≠ t') : v.ownBlock ≠ some g := by
  rcases ho.2 with ⟨rfl, _⟩ | ⟨g2, cap, cur, rfl, _, hg2, _⟩
  · simp [Value.ownBlock]
  · simp only [Value.ownBlock, ne_eq, Option.some.injEq]
    rintro rfl
    rcases hr.2 with ⟨hn, _⟩ | ⟨g3, cap3, cur3, hv, _, hg3, _⟩
    · simp at hn
    · simp only [Value.slice.injEq, Option.some.injEq, Addr.mk.injEq, and_true] at hv
      obtain ⟨rfl, _⟩ := hv
      rw [hg3] at hg2
      simp only [Option.some.injEq, Obj.cells.injEq] at hg2
      exact ht hg2.2.1
theorem OR.chT {B : Nat} {A : Option Addr} {c : Nat} {recs : List Tx} {vals : List Value} {g n cc m : Nat} {xs : List Value} {t : TypeId} (h : OR B A c recs vals W) (kc : Ch (fun q => q = g) W W') (hr : W.ownsRow B t m (.slice (some ⟨g, 0, none⟩) n cc) n xs) (h1 : t ≠ 43) (h2 : t ≠ 5) : OR B A c recs vals W' :=
  ⟨own_ch h.row kc (fun q hq e => own_un hr h.row h1 (by rw [hq, e])), fun i hi => by
    obtain ⟨u, hu, ho⟩ := h.each i hi
    exact ⟨u, hu, own_ch ho kc (fun q hq e => own_un hr ho h2 (by rw [hq, e]))⟩⟩
theorem ch7at {a w : World} {g o : Nat} {x0 x1 x2 x3 x4 x5 x6 : Value} (h : Ch (fun k => k = g) a w) :
    Ch (fun k => k = g) a (((((((w.setCell ⟨g, o, none⟩ x0).setCell ⟨g, o + 1, none⟩ x1).setCell ⟨g, o + 2, none⟩ x2).setCell ⟨g, o + 3, none⟩ x3).setCell ⟨g, o + 4, none⟩ x4).setCell ⟨g, o + 5, none⟩ x5).setCell ⟨g, o + 6, none⟩ x6) :=
  ((((((h.setCell (fun _ => rfl) _).setCell (fun _ => rfl) _).setCell (fun _ => rfl) _).setCell (fun _ => rfl) _).setCell (fun _ => rfl) _).setCell (fun _ => rfl) _).setCell (fun _ => rfl) _
theorem CLB.step {g c c2 : Nat} {A2 : Option Addr} {vals : List Value} (h : CLB w0 X (.slice (some ⟨g, 0, none⟩) l.length c) l rs k W) (hk : k < l.length) (ho : OR w0.heap.size A2 c2 l[k].q.o.recs vals W) :
    CLB w0 X (.slice (some ⟨g, 0, none⟩) l.length c) l (rs.set k (A2, c2)) (k + 1) (((((((W.setCell ⟨g, k * 9, none⟩ (.int .i64 l[k].q.client)).setCell ⟨g, k * 9 + 1, none⟩ (.int .i64 l[k].q.time)).setCell ⟨g, k * 9 + 2, none⟩ (.int .i64 l[k].q.o.kind)).setCell ⟨g, k * 9 + 3, none⟩ (.string ⟨l[k].q.o.topic.toArray⟩)).setCell ⟨g, k * 9 + 4, none⟩ (.string ⟨l[k].q.o.group.toArray⟩)).setCell ⟨g, k * 9 + 5, none⟩ (.int .i64 l[k].q.o.off)).setCell ⟨g, k * 9 + 6, none⟩ (.slice A2 l[k].q.o.recs.length c2)) := by
  obtain ⟨r, hr, -⟩ := h.rest k hk (Nat.le_refl _)
  have f := fun j hj => flat_at h.len hk hr j hj
  have f0 := f 0 (by omega)
  rw [Nat.add_zero] at f0
  have s0 := (h.row.stored (k * 9) (.int .i64 l[k].q.client)).1
  rw [set_same f0] at s0
  have s1 := (s0.stored (k * 9 + 1) (.int .i64 l[k].q.time)).1
  rw [set_same (f 1 (by omega))] at s1
  have s2 := (s1.stored (k * 9 + 2) (.int .i64 l[k].q.o.kind)).1
  rw [set_same (f 2 (by omega))] at s2
  have s3 := (s2.stored (k * 9 + 3) (.string ⟨l[k].q.o.topic.toArray⟩)).1
  rw [set_same (f 3 (by omega))] at s3
  have s4 := (s3.stored (k * 9 + 4) (.string ⟨l[k].q.o.group.toArray⟩)).1
  rw [set_same (f 4 (by omega))] at s4
  have s5 := (s4.stored (k * 9 + 5) (.int .i64 l[k].q.o.off)).1
  rw [set_same (f 5 (by omega))] at s5
  have s6 := (s5.stored (k * 9 + 6) (.slice A2 l[k].q.o.recs.length c2)).1
  have hzl : k < (l.zip rs).length := by rw [zip_len h.len]; exact hk
  have hrk : rs[k]'(by have := h.len; omega) = r := by have := List.getElem?_eq_getElem (show k < rs.length by have := h.len; omega); rw [this] at hr; exact Option.some.inj hr
  have he : (flat l rs).set (k * 9 + 6) (.slice A2 l[k].q.o.recs.length c2) = flat l (rs.set k (A2, c2)) := by
    unfold flat
    rw [zip_set l rs k hk (A2, c2)]
    exact flat_set DC_len _ k hzl (l[k], (A2, c2)) 6 (by omega) _ (by rw [List.getElem_zip, hrk]; rfl)
  rw [he] at s6
  have kc : Ch (fun q => q = g) W _ := ch7at (o := k * 9) (x0 := .int .i64 l[k].q.client) (x1 := .int .i64 l[k].q.time) (x2 := .int .i64 l[k].q.o.kind) (x3 := .string ⟨l[k].q.o.topic.toArray⟩) (x4 := .string ⟨l[k].q.o.group.toArray⟩) (x5 := .int .i64 l[k].q.o.off) (x6 := .slice A2 l[k].q.o.recs.length c2) (Ch.refl _ W)
  have hgb : w0.heap.size ≤ g := by
    obtain ⟨g', c', hv, hb, _⟩ := h.row.form (by omega)
    simp only [Value.slice.injEq, Option.some.injEq, Addr.mk.injEq, and_true] at hv
    omega
  refine ⟨h.below.trans (kc.below (fun q hq e => by omega) h.below.size), by simpa using h.len, s6, fun i hi hik => ?_, fun i hi hik => ?_⟩
  · by_cases he : i = k
    · subst he
      exact ⟨_, vals, List.getElem?_set_self (by have := h.len; omega), ho.chT kc h.row (by decide) (by decide)⟩
    · obtain ⟨r', vs, hr', ho'⟩ := h.mine i hi (by omega)
      exact ⟨r', vs, by rw [List.getElem?_set_ne (fun q => he q.symm)]; exact hr', ho'.chT kc h.row (by decide) (by decide)⟩
  · obtain ⟨r', hr', hl'⟩ := h.rest i hi (by omega)
    exact ⟨r', by rw [List.getElem?_set_ne (by omega)]; exact hr', hl'.ch kc (fun q _ e => by show w0.heap.size ≤ q; omega)⟩
end

set_option maxHeartbeats 4000000 in
theorem cloneb_any (w : World) (X : Nat → Prop) (A : Option Addr) (c : Nat) (l : List Sd) (h : BI w X (.slice A l.length c) l) (hf : ∀ y ∈ l, far y.q.o 140737488351232) (hl : l.length * 104 ≤ 140737488355328) :
    Calls Try.prog 18 #[.slice A l.length c] w fun e w' => ∃ A' c' rs, e = .returned (.slice A' l.length c') ∧ CLB w X (.slice A' l.length c') l rs l.length w' := by
  obtain ⟨rs, hrl, hsl, heach⟩ := h
  have HSC := Lib.hid (clone_sds X _ _ _ w hsl flat_one hl)
  have HEA := Lib.hid heach
  have HRL := Lib.hid hrl
  have HF := Lib.hid hf
  have hln : l.length ≤ 140737488355328 := by omega
  clear hsl heach hrl hf hl
  go_enter Try.func18, Try.ntmps18
  go_wp2_with fail
  refine HSC.out.mono ?_
  rintro e w1 ⟨A1, c1, rfl, ho1, hb1⟩
  have HC1 : Hid (CLB w X (.slice A1 l.length c1) l rs 0 w1) := Lib.hid ⟨hb1, HRL.out, ho1, fun i hi hk => absurd hk (by omega), fun i hi _ => by
    obtain ⟨r, hr, hls⟩ := HEA.out i hi
    exact ⟨r, hr, (hls.old' (Nat.le_refl _)).after hb1⟩⟩
  clear ho1 hb1 HSC
  go_wp2_with fail
  go_loopw [8] (fun i wr => ∃ (k : Nat) (rs : List (Option Addr × Nat)), k ≤ l.length ∧ i = .int .i64 k ∧ CLB w X (.slice A1 l.length c1) l rs k wr) (fun i _ => l.length - (intOf i).toNat)
  case atStart => exact ⟨0, rs, Nat.zero_le _, rfl, HC1.out⟩
  case round =>
    obtain ⟨k, rs2, hk, rfl, hcl⟩ := hrel
    clear HC1
    by_cases hlt : k < l.length
    · have HCL := Lib.hid hcl
      obtain ⟨g, cc, r, hv, hr, hcell, hfz, hls⟩ := hcl.at_ hlt
      simp only [Value.slice.injEq, true_and] at hv
      obtain ⟨rfl, rfl⟩ := hv
      obtain ⟨Ar, cr⟩ := r
      have hfar := HF.out _ (List.getElem_mem hlt)
      have a0 := hcell 0 (by omega)
      have a1 := hcell 1 (by omega)
      have a2 := hcell 2 (by omega)
      have a3 := hcell 3 (by omega)
      have a4 := hcell 4 (by omega)
      have a5 := hcell 5 (by omega)
      have a6 := hcell 6 (by omega)
      rw [Nat.add_zero] at a0
      unfold DC at a0 a1 a2 a3 a4 a5 a6
      simp only [List.getElem?_toArray, List.getElem?_cons_zero, List.getElem?_cons_succ] at a0 a1 a2 a3 a4 a5 a6
      have HCQ := Lib.hid (qown_any wr l[k].q _ Ar cr hls hfar)
      have HR := Lib.hid hr
      have HFZ := Lib.hid hfz
      have hkp : (0 : Int) ≤ (k : Int) := by omega
      have hkl : (k : Int) < (l.length : Int) := by omega
      clear hcl hr hcell hfz hls hfar
      unfold QV QC at HCQ
      go_wp2_with fail
      refine HCQ.out.mono ?_
      rintro e w2 ⟨A2, c2, vals, rfl, hor, hb2⟩
      have HC2 := Lib.hid (HCL.out.later hb2)
      have HN := Lib.hid (HC2.out.step hlt (hor.base HCL.out.below.size))
      obtain ⟨g', c', r', hv, hr, hcell, hfz, -⟩ := HC2.out.at_ hlt
      simp only [Value.slice.injEq, Option.some.injEq, Addr.mk.injEq, and_true, true_and] at hv
      obtain ⟨rfl, rfl⟩ := hv
      clear a0 a1 a2 a3 a4 a5 a6 hor hb2 HCQ
      have a0 := hcell 0 (by omega)
      have a1 := hcell 1 (by omega)
      have a2 := hcell 2 (by omega)
      have a3 := hcell 3 (by omega)
      have a4 := hcell 4 (by omega)
      have a5 := hcell 5 (by omega)
      have a6 := hcell 6 (by omega)
      have f0 := hfz 0
      have f1 := hfz 1
      have f2 := hfz 2
      have f3 := hfz 3
      have f4 := hfz 4
      have f5 := hfz 5
      have f6 := hfz 6
      rw [Nat.add_zero] at a0 f0
      unfold DC at a0 a1 a2 a3 a4 a5 a6
      simp only [List.getElem?_toArray, List.getElem?_cons_zero, List.getElem?_cons_succ] at a0 a1 a2 a3 a4 a5 a6
      clear hr hcell hfz
      unfold QV QC
      go_wp2_with fail
      go_roundw
      case rel => exact ⟨k + 1, _, by omega, by go_num, HN.out⟩
      case measure => simp [intOf]; omega
    · have hke : k = l.length := by omega
      subst hke
      have HCL := Lib.hid hcl
      clear hcl
      go_wp2_with fail
      go_ret
      exact ⟨_, _, rs2, rfl, HCL.out⟩
end Go.Proofs.Ytjdmadfjfjenjaa.Jt
