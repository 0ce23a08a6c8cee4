/-
  Layer 8: RequestChecks, whatever it is asked of.
-/
import Derived.Test.YtjdmadfjfjenjaaJt
import Derived.Test.YtjdmadfjfjenjaaJe
import Derived.Test.YtjdmadfjfjenjaaJh
namespace Go.Proofs.Ytjdmadfjfjenjaa.Jv
set_option linter.unusedSimpArgs false
open Go Go.RowKit Ck Kf Kw Ca Ga Pm Pe Pg Ph Pk Pn Py Qb Qs Qg Lk Jm Ja Jb Jc Jd Je Jf Jh Jk Js Jt
attribute [local go_sem ↓] Go.wp_at_zero Go.wp_at_succ
set_option linter.unusedVariables false
set_option maxRecDepth 100000

/-- What stands there all the while. -/
structure CS (w0 : World) (x : Q) (A : Option Addr) (c : Nat) (s1 s2 : Int) (va vb : Value) (a b : List Sd) (W : World) : Prop where
  below : Below w0.heap.size w0 W
  req : QB W w0.heap.size x A c
  sign : Blk W (w0.heap.size + 1) 29 #[.int .i64 s1, .int .i64 s2]
  lx : Ls W (fun k => w0.heap.size ≤ k) (.slice A x.o.recs.length c) x.o.recs
  ba : BI W (fun k => w0.heap.size ≤ k) va a
  bb : BI W (fun k => w0.heap.size ≤ k) vb b
section
variable {w0 W W' : World} {x : Q} {A : Option Addr} {c : Nat} {s1 s2 : Int} {va vb : Value} {a b : List Sd}
theorem CS.later (h : CS w0 x A c s1 s2 va vb a b W) (k : Below W.heap.size W W') : CS w0 x A c s1 s2 va vb a b W' :=
  ⟨h.below.trans (k.mono h.below.size), Blk.below h.req k (Blk.lt h.req), h.sign.below k h.sign.lt, h.lx.after k, h.ba.after k, h.bb.after k⟩
theorem CS.size (h : CS w0 x A c s1 s2 va vb a b W) : w0.heap.size + 2 ≤ W.heap.size := by have := h.sign.lt; omega
theorem cs_new (h2 : Ls w0 (fun k => w0.heap.size ≤ k) (.slice A x.o.recs.length c) x.o.recs) (h3 : BI w0 (fun k => w0.heap.size ≤ k) va a) (h4 : BI w0 (fun k => w0.heap.size ≤ k) vb b) :
    CS w0 x A c s1 s2 va vb a b ((w0.alloc (.cells (QC x A c) 26)).alloc (.cells #[.int .i64 s1, .int .i64 s2] 29)) := by
  have b1 : Below w0.heap.size w0 ((w0.alloc (.cells (QC x A c) 26)).alloc (.cells #[.int .i64 s1, .int .i64 s2] 29)) := (op_below w0 _).trans ((op_below _ _).mono (by simp))
  exact ⟨b1, Blk.alloc (Blk.new w0 _ _) _, Blk.new_at (by simp) rfl, h2.after b1, h3.after b1, h4.after b1⟩
theorem CS.cells (h : CS w0 x A c s1 s2 va vb a b W) :
    (W.cell? ⟨w0.heap.size, 0, none⟩ = some (.int .i64 x.client) ∧ W.cell? ⟨w0.heap.size, 1, none⟩ = some (.int .i64 x.time) ∧ W.cell? ⟨w0.heap.size, 2, none⟩ = some (.int .i64 x.o.kind) ∧ W.cell? ⟨w0.heap.size, 3, none⟩ = some (.string ⟨x.o.topic.toArray⟩) ∧ W.cell? ⟨w0.heap.size, 4, none⟩ = some (.string ⟨x.o.group.toArray⟩) ∧ W.cell? ⟨w0.heap.size, 5, none⟩ = some (.int .i64 x.o.off) ∧ W.cell? ⟨w0.heap.size, 6, none⟩ = some (.slice A x.o.recs.length c)) ∧ (W.cell? ⟨w0.heap.size + 1, 0, none⟩ = some (.int .i64 s1) ∧ W.cell? ⟨w0.heap.size + 1, 1, none⟩ = some (.int .i64 s2)) :=
  ⟨QB.cells h.req, h.sign.cell 0, h.sign.cell 1⟩
end

/-- Cells that hold bytes, whichever. -/
def U8s (xs : List Value) : Prop := ∀ x ∈ xs, ∃ z : Int, x = .int .u8 z
theorem u8s_bvs (l : Tx) : U8s (BVs l) := fun x hx => by
  simp only [BVs, List.mem_map] at hx
  obtain ⟨y, _, rfl⟩ := hx
  exact ⟨_, rfl⟩
/-- The clone, whatever bytes and times it holds; the batch as it came. -/
structure MU (w0 : World) (M : Nat) (va : Value) (a : List Sd) (A7 : Option Addr) (c7 : Nat) (rs : List (Option Addr × Nat)) (vs : Nat → List Value) (xs : List Value) (W : World) : Prop where
  below : Below w0.heap.size w0 W
  ba : BI W (fun k => w0.heap.size ≤ k) va a
  far : w0.heap.size ≤ M
  row : W.ownsRow M 41 9 (.slice A7 a.length c7) a.length xs
  time : ∀ i (hi : i < a.length), ∃ t : Int, xs[i * 9 + 1]? = some (.int .i64 t)
  recs : ∀ i (hi : i < a.length), ∃ r, rs[i]? = some r ∧ xs[i * 9 + 6]? = some (.slice r.1 a[i].q.o.recs.length r.2)
  rows : ∀ i (hi : i < a.length), ∃ r, rs[i]? = some r ∧ W.ownsRow M 43 1 (.slice r.1 a[i].q.o.recs.length r.2) a[i].q.o.recs.length (vs i)
  each : ∀ i (hi : i < a.length) j (hj : j < a[i].q.o.recs.length), ∃ u ys, (vs i)[j]? = some u ∧ W.ownsRow M 5 1 u a[i].q.o.recs[j].length ys ∧ U8s ys
section
variable {w0 W W' : World} {M : Nat} {va : Value} {a : List Sd} {A7 : Option Addr} {c7 : Nat} {rs : List (Option Addr × Nat)} {vs : Nat → List Value} {xs : List Value}
theorem mu_start {w7 : World} {X : Nat → Prop} (hb : Below w0.heap.size w0 W) (hba : BI W (fun k => w0.heap.size ≤ k) va a) (h : CLB w7 X (.slice A7 a.length c7) a rs a.length W) (h7 : w0.heap.size ≤ w7.heap.size) : ∃ vs, MU w0 w7.heap.size va a A7 c7 rs vs (flat a rs) W := by
  have each : ∀ i, ∃ vals : List Value, ∀ hi : i < a.length, ∃ r, rs[i]? = some r ∧ OR w7.heap.size r.1 r.2 a[i].q.o.recs vals W := fun i => by
    by_cases hi : i < a.length
    · obtain ⟨r, vals, hr, ho⟩ := h.mine i hi hi
      exact ⟨vals, fun _ => ⟨r, hr, ho⟩⟩
    · exact ⟨[], fun q => absurd q hi⟩
  refine ⟨fun i => Classical.choose (each i), hb, hba, h7, h.row, fun i hi => ?_, fun i hi => ?_, fun i hi => ?_, fun i hi j hj => ?_⟩
  · obtain ⟨r, vals, hr, ho⟩ := h.mine i hi hi
    exact ⟨a[i].q.time, flat_at h.len hi hr 1 (by omega)⟩
  · obtain ⟨r, vals, hr, ho⟩ := h.mine i hi hi
    exact ⟨r, hr, flat_at h.len hi hr 6 (by omega)⟩
  · obtain ⟨r, hr, ho⟩ := Classical.choose_spec (each i) hi
    exact ⟨r, hr, ho.row⟩
  · obtain ⟨r, hr, ho⟩ := Classical.choose_spec (each i) hi
    obtain ⟨u, hu, h2⟩ := ho.each j hj
    exact ⟨u, _, hu, h2, u8s_bvs _⟩
theorem MU.later (h : MU w0 M va a A7 c7 rs vs xs W) (b : Below W.heap.size W W') : MU w0 M va a A7 c7 rs vs xs W' :=
  ⟨h.below.trans (b.mono h.below.size), h.ba.after b, h.far, own_below h.row b, h.time, h.recs, fun i hi => by
    obtain ⟨r, hr, ho⟩ := h.rows i hi
    exact ⟨r, hr, own_below ho b⟩, fun i hi j hj => by
    obtain ⟨u, ys, hu, ho, hy⟩ := h.each i hi j hj
    exact ⟨u, ys, hu, own_below ho b, hy⟩⟩
theorem MU.slot (h : MU w0 M va a A7 c7 rs vs xs W) {i : Nat} (hi : i < a.length) :
    ∃ g r t, A7 = some ⟨g, 0, none⟩ ∧ rs[i]? = some r ∧ W.cell? ⟨g, i * 9 + 6, none⟩ = some (.slice r.1 a[i].q.o.recs.length r.2) ∧ W.cell? ⟨g, i * 9 + 1, none⟩ = some (.int .i64 t) ∧ W.frozen? ⟨g, i * 9 + 1, none⟩ = false := by
  obtain ⟨g, cc, hv, hb, hlt⟩ := h.row.form (by omega)
  simp only [Value.slice.injEq, true_and] at hv
  obtain ⟨rfl, rfl⟩ := hv
  obtain ⟨r, hr, h6⟩ := h.recs i hi
  obtain ⟨t, h1⟩ := h.time i hi
  exact ⟨g, r, t, rfl, hr, by rw [h.row.cellAt _ (by omega), h6], by rw [h.row.cellAt _ (by omega), h1], h.row.frozenAt _⟩
theorem MU.stamp {g : Nat} (h : MU w0 M va a (some ⟨g, 0, none⟩) c7 rs vs xs W) {i : Nat} (hi : i < a.length) (y : Int) : MU w0 M va a (some ⟨g, 0, none⟩) c7 rs vs (xs.set (i * 9 + 1) (.int .i64 y)) (W.setCell ⟨g, i * 9 + 1, none⟩ (.int .i64 y)) := by
  have st := h.row.stored (i * 9 + 1) (.int .i64 y)
  have hxl : xs.length = a.length * 9 := h.row.1
  have kc : Ch (fun q => q = g) W (W.setCell ⟨g, i * 9 + 1, none⟩ (.int .i64 y)) := Ch.setCell (Ch.refl (fun q => q = g) W) (fun _ => rfl) _
  have hgb : M ≤ g := by
    obtain ⟨g', c', hv, hb, _⟩ := h.row.form (by omega)
    simp only [Value.slice.injEq, Option.some.injEq, Addr.mk.injEq, and_true] at hv
    omega
  have n1 := h.far
  refine ⟨h.below.trans (kc.below (fun q hq e => by omega) h.below.size), h.ba.ch kc (fun q _ e => by show w0.heap.size ≤ q; omega), n1, st.1, fun i' hi' => ?_, fun i' hi' => ?_, fun i' hi' => ?_, fun i' hi' j hj => ?_⟩
  · by_cases he : i = i'
    · subst he
      exact ⟨y, List.getElem?_set_self (by omega)⟩
    · rw [List.getElem?_set_ne (by omega)]
      exact h.time i' hi'
  · rw [List.getElem?_set_ne (by omega)]
    exact h.recs i' hi'
  · obtain ⟨r, hr, ho⟩ := h.rows i' hi'
    exact ⟨r, hr, own_ch ho kc (fun q hq e => own_un h.row ho (by decide) (by rw [hq, e]))⟩
  · obtain ⟨u, ys, hu, ho, hy⟩ := h.each i' hi' j hj
    exact ⟨u, ys, hu, own_ch ho kc (fun q hq e => own_un h.row ho (by decide) (by rw [hq, e])), hy⟩
/-- Record j of request i: its place in its row. -/
theorem MU.rec_ (h : MU w0 M va a A7 c7 rs vs xs W) {i j : Nat} (hi : i < a.length) (hj : j < a[i].q.o.recs.length) {r : Option Addr × Nat} (hr : rs[i]? = some r) :
    ∃ g A' c', r.1 = some ⟨g, 0, none⟩ ∧ W.cell? ⟨g, j, none⟩ = some (.slice A' a[i].q.o.recs[j].length c') ∧ (vs i)[j]? = some (.slice A' a[i].q.o.recs[j].length c') := by
  obtain ⟨r', hr', ho⟩ := h.rows i hi
  rw [hr] at hr'
  obtain rfl := Option.some.inj hr'
  obtain ⟨g, cc, hv, hb, hlt⟩ := ho.form (by omega)
  simp only [Value.slice.injEq, true_and] at hv
  obtain ⟨h1, h2⟩ := hv
  obtain ⟨u, ys, hu, hou, _⟩ := h.each i hi j hj
  obtain ⟨A', c', rfl⟩ := own_shape hou
  rw [h1, h2] at ho
  exact ⟨g, A', c', h1, by rw [ho.cellAt j (by omega), hu], hu⟩
theorem MU.byte (h : MU w0 M va a A7 c7 rs vs xs W) {i j p : Nat} (hi : i < a.length) (hj : j < a[i].q.o.recs.length) {A' : Option Addr} {c' : Nat} (hv : (vs i)[j]? = some (.slice A' a[i].q.o.recs[j].length c')) (hp : p < a[i].q.o.recs[j].length) :
    ∃ g z, A' = some ⟨g, 0, none⟩ ∧ W.cell? ⟨g, p, none⟩ = some (.int .u8 z) ∧ W.frozen? ⟨g, p, none⟩ = false ∧ ∀ y : Int, MU w0 M va a A7 c7 rs vs xs (W.setCell ⟨g, p, none⟩ (.int .u8 y)) := by
  obtain ⟨u, ys, hu, ho, hx⟩ := h.each i hi j hj
  rw [hv] at hu
  obtain rfl := Option.some.inj hu
  obtain ⟨g, cc, hq, hb, hlt⟩ := ho.form (by omega)
  simp only [Value.slice.injEq, true_and] at hq
  obtain ⟨rfl, rfl⟩ := hq
  have hxl : ys.length = a[i].q.o.recs[j].length := by have := ho.1; omega
  obtain ⟨z, hz⟩ := hx _ (List.getElem_mem (show p < ys.length by omega))
  refine ⟨g, z, rfl, by rw [ho.cellAt p (by omega), List.getElem?_eq_getElem (by omega), hz], ho.frozenAt p, fun y => ?_⟩
  have kc : Ch (fun q => q = g) W (W.setCell ⟨g, p, none⟩ (.int .u8 y)) := Ch.setCell (Ch.refl (fun q => q = g) W) (fun _ => rfl) _
  have n1 := h.far
  refine ⟨h.below.trans (kc.below (fun q hq e => by omega) h.below.size), h.ba.ch kc (fun q _ e => by show w0.heap.size ≤ q; omega), n1, own_ch h.row kc (fun q hq e => own_un ho h.row (by decide) (by rw [hq, e])), h.time, h.recs, fun i' hi' => ?_, fun i' hi' j' hj' => ?_⟩
  · obtain ⟨r, hr, ho'⟩ := h.rows i' hi'
    exact ⟨r, hr, own_ch ho' kc (fun q hq e => own_un ho ho' (by decide) (by rw [hq, e]))⟩
  · obtain ⟨u', ys', hu', ho', hx'⟩ := h.each i' hi' j' hj'
    by_cases hg : u'.ownBlock = some g
    · rcases ho'.2 with ⟨rfl, h0⟩ | ⟨g2, cap2, cur2, rfl, _⟩
      · simp [Value.ownBlock] at hg
      · simp only [Value.ownBlock, Option.some.injEq] at hg
        subst hg
        refine ⟨_, _, hu', (ho'.stored p (.int .u8 y)).1, fun x hxm => ?_⟩
        rcases List.mem_or_eq_of_mem_set hxm with hm | rfl
        · exact hx' x hm
        · exact ⟨y, rfl⟩
    · exact ⟨u', ys', hu', own_ch ho' kc (fun q hq e => hg (by rw [hq, e])), hx'⟩
theorem clb_bi {X : Nat → Prop} {v : Value} (h : CLB w0 X v a rs a.length W) : BI W (fun q => q < w0.heap.size) v a :=
  ⟨rs, h.len, Sl.of_own h.row (fun q h1 _ h2 => by omega), fun i hi => by
    obtain ⟨r, vals, hr, ho⟩ := h.mine i hi hi
    exact ⟨r, hr, ho.ls⟩⟩
end

set_option maxHeartbeats 16000000 in
theorem reqchecks_any (w : World) (x : Q) (Ax : Option Addr) (cx : Nat) (s : Sg) (a b : List Sd) (va vb : Value) (hx : Ls w (fun k => w.heap.size ≤ k) (.slice Ax x.o.recs.length cx) x.o.recs) (hxf : far x.o 140737488351232) (ha : BI w (fun k => w.heap.size ≤ k) va a) (hb : BI w (fun k => w.heap.size ≤ k) vb b)
    (hfa : ∀ y ∈ a, far y.q.o 140737488351232) (hfb : ∀ y ∈ b, far y.q.o 140737488351232) (hla : a.length * 104 ≤ 140737488355328) (hlb : b.length ≤ 140737488355328) :
    Calls Try.prog 3 #[QV x Ax cx, GV s, va, vb] w fun e w' => e = .returned (.bool true) ∧ Below w.heap.size w w' := by
  obtain ⟨s1, s2⟩ := s
  obtain ⟨Aa, ca, rfl, -⟩ := ha.shape
  obtain ⟨Ab, cb, rfl, -⟩ := hb.shape
  have HT0 := Lib.hid ((cs_new (s1 := s1) (s2 := s2) hx ha hb).later (below_drewN (Below.refl _ _) 1))
  have HXL : Hid (x.o.recs.length ≤ 140737488355328) := Lib.hid (by have := hxf.2.2.1; omega)
  have HFA := Lib.hid hfa
  have HAR : Hid (∀ y ∈ a, y.q.o.recs.length ≤ 140737488355328) := Lib.hid (fun y hy => by have := (hfa y hy).2.2.1; omega)
  have HLA := Lib.hid hla
  have HAL : Hid (a.length ≤ 140737488355328) := Lib.hid (by omega)
  have h_0 : (qcheck x == qcheck x) = true := beq_self_eq_true _
  have h_1 : (scheck (s1, s2) == scheck (s1, s2)) = true := beq_self_eq_true _
  have h_2 : (bcheck a == bcheck a) = true := beq_self_eq_true _
  have h_3 : (key x.client == key x.client) = true := beq_self_eq_true _
  clear hx hxf ha hb hfa hfb hla hlb
  unfold QV GV
  unfold QC at HT0 ⊢
  go_enter Try.func3, Try.ntmps3
  go_wp2_with fail
  go_region_held3 (fun w' => (w'.cell? ⟨w.heap.size, 0, none⟩ = some (.int .i64 x.client) ∧ w'.cell? ⟨w.heap.size, 1, none⟩ = some (.int .i64 x.time) ∧ w'.cell? ⟨w.heap.size, 2, none⟩ = some (.int .i64 x.o.kind) ∧ w'.cell? ⟨w.heap.size, 3, none⟩ = some (.string ⟨x.o.topic.toArray⟩) ∧ w'.cell? ⟨w.heap.size, 4, none⟩ = some (.string ⟨x.o.group.toArray⟩) ∧ w'.cell? ⟨w.heap.size, 5, none⟩ = some (.int .i64 x.o.off) ∧ w'.cell? ⟨w.heap.size, 6, none⟩ = some (.slice Ax x.o.recs.length cx)) ∧ (w'.cell? ⟨w.heap.size + 1, 0, none⟩ = some (.int .i64 s1) ∧ w'.cell? ⟨w.heap.size + 1, 1, none⟩ = some (.int .i64 s2)))
    (first | exact HT0.out.cells | exact HT1.out.cells | exact HT2.out.cells | exact HT3.out.cells | exact HT4.out.cells | exact HT5.out.cells | exact HT6.out.cells | exact HT7.out.cells)
    (first
    | (go_at_call 7; refine (begun_any _).mono ?_; rintro e w1 ⟨rfl, hb1⟩; have HT1 := Lib.hid (HT0.out.later hb1); clear hb1)
    | (go_at_call 8; refine (check_any x _ _ _ (show QI _ _ (.agg #[.int .i64 x.client, .int .i64 x.time, .int .i64 x.o.kind, .string ⟨x.o.topic.toArray⟩, .string ⟨x.o.group.toArray⟩, .int .i64 x.o.off, .slice Ax x.o.recs.length cx]) x from ⟨Ax, cx, rfl, HT1.out.lx⟩) HXL.out).mono ?_; rintro e w2 ⟨rfl, hb2⟩; have HT2 := Lib.hid (HT1.out.later hb2); clear hb2)
    | (go_at_call 9; refine (rcheck_any x _ _ _ (show QI _ _ (.agg #[.int .i64 x.client, .int .i64 x.time, .int .i64 x.o.kind, .string ⟨x.o.topic.toArray⟩, .string ⟨x.o.group.toArray⟩, .int .i64 x.o.off, .slice Ax x.o.recs.length cx]) x from ⟨Ax, cx, rfl, HT2.out.lx⟩) HXL.out).mono ?_; rintro e w3 ⟨rfl, hb3⟩; have HT3 := Lib.hid (HT2.out.later hb3); clear hb3)
    | (go_at_call 10; refine (csign_any (s1, s2) _).mono ?_; rintro e w4 ⟨rfl, hb4⟩; have HT4 := Lib.hid (HT3.out.later hb4); clear hb4)
    | (go_at_call 11; refine (rcsign_any (s1, s2) _).mono ?_; rintro e w5 ⟨rfl, hb5⟩; have HT5 := Lib.hid (HT4.out.later hb5); clear hb5)
    | (go_at_call 12; refine (cbatch_any _ _ _ a HT5.out.ba HAR.out HAL.out).mono ?_; rintro e w6 ⟨rfl, hb6⟩; have HT6 := Lib.hid (HT5.out.later hb6); clear hb6)
    | (go_at_call 13; refine (rcbatch_any _ _ _ a HT6.out.ba HAR.out HAL.out).mono ?_; rintro e w7 ⟨rfl, hb7⟩; have HT7 := Lib.hid (HT6.out.later hb7); clear hb7)
    | (go_at_call 14; refine (key_any _ _).mono ?_; rintro e w8 ⟨rfl, rfl⟩)
    | (go_at_call 15; refine (rkey_any _ _).mono ?_; rintro e w9 ⟨rfl, rfl⟩))
  all_goals
    --CUT1
    clear HT0 HT1 HT2 HT3 HT4 HT5 HT6 h_0 h_1 h_2 h_3
    have HS1 := Lib.hid (sameb_any w7 _ _ _ _ a b HT7.out.ba HT7.out.bb HAR.out HAL.out)
    generalize hab : decide (a = b) = ab at HS1
    have HAB := Lib.hid hab
    clear hab
    have hbb : (ab == ab) = true := beq_self_eq_true _
    go_wp2_with fail
    refine HS1.out.mono ?_
    rintro e w8 ⟨rfl, hb8⟩
    have HT8 := Lib.hid (HT7.out.later hb8)
    have HS2 := Lib.hid (rsameb_any w8 _ _ _ _ a b HT8.out.ba HT8.out.bb HAR.out HAL.out)
    rw [HAB.out] at HS2
    clear hb8 HS1
    go_wp2_with fail
    refine HS2.out.mono ?_
    rintro e w9 ⟨rfl, hb9⟩
    have HT9 := Lib.hid (HT8.out.later hb9)
    have HS3 := Lib.hid (sameb_any w9 _ _ _ _ a a HT9.out.ba HT9.out.ba HAR.out HAL.out)
    rw [decide_eq_true rfl] at HS3
    clear hb9 HS2
    go_wp2_with fail
    refine HS3.out.mono ?_
    rintro e w10 ⟨rfl, hb10⟩
    have HT10 := Lib.hid (HT9.out.later hb10)
    have HCL := Lib.hid (cloneb_any w10 _ Aa ca a HT10.out.ba HFA.out HLA.out)
    clear hb10 HS3
    go_wp2_with fail
    refine HCL.out.mono ?_
    rintro e w11 ⟨A7, c7, rs, rfl, hcl⟩
    have HT11 := Lib.hid (HT10.out.later hcl.below)
    have HC11 := Lib.hid hcl
    have HS4 := Lib.hid (rsameb_any w11 _ _ _ _ a a HT11.out.ba (clb_bi hcl) HAR.out HAL.out)
    rw [decide_eq_true rfl] at HS4
    clear hcl HCL
    go_wp2_with fail
    refine HS4.out.mono ?_
    rintro e w12 ⟨rfl, hb12⟩
    obtain ⟨vs, hmu⟩ := mu_start (HT11.out.later hb12).below (HT11.out.later hb12).ba (HC11.out.later hb12) HT10.out.below.size
    have HMU := Lib.hid hmu
    generalize w10.heap.size = M at *
    generalize hxs : flat a rs = xs at *
    clear hmu hb12 HS4 HC11 HT11 HT10 HT9 HT8 HT7 hxs
    have hal : a.length ≤ 140737488355328 := HAL.out
    go_wp2_with fail
    --CUT2
    go_loopw [67] (fun i wr => ∃ (k : Nat) (xs : List Value), k ≤ a.length ∧ i = .int .i64 k ∧ MU w M (.slice Aa a.length ca) a A7 c7 rs vs xs wr) (fun i _ => a.length - (intOf i).toNat)
    case atStart => exact ⟨0, xs, Nat.zero_le _, rfl, HMU.out⟩
    case round =>
      obtain ⟨k, ys, hk, rfl, hmk⟩ := hrel
      clear HMU
      have HMK := Lib.hid hmk
      by_cases hlt : k < a.length
      · have HLT := Lib.hid hlt
        obtain ⟨g, r, t, rfl, hr, hc6, hc1, hf1⟩ := hmk.slot hlt
        obtain ⟨Ar, cr⟩ := r
        have HR := Lib.hid hr
        have hkp : (0 : Int) ≤ (k : Int) := by omega
        have hkl : (k : Int) < (a.length : Int) := by omega
        have hrl := HAR.out _ (List.getElem_mem hlt)
        simp only at hc6
        clear hmk hr hc1 hf1
        go_wp2_with fail
        --CUT3
        go_loopw [78] (fun i wr => ∃ j : Nat, j ≤ a[k].q.o.recs.length ∧ i = .int .i64 j ∧ MU w M (.slice Aa a.length ca) a (some ⟨g, 0, none⟩) c7 rs vs ys wr) (fun i _ => a[k].q.o.recs.length - (intOf i).toNat)
        case atStart => exact ⟨0, Nat.zero_le _, rfl, HMK.out⟩
        case round =>
          obtain ⟨j, hj, rfl, hmj⟩ := hrel
          clear hc6 HMK
          have HMJ := Lib.hid hmj
          by_cases hlj : j < a[k].q.o.recs.length
          · have HLJ := Lib.hid hlj
            obtain ⟨g2, A', c', he, hcj, hvj⟩ := hmj.rec_ HLT.out hlj HR.out
            simp only at he
            subst he
            have HVJ := Lib.hid hvj
            have hjp : (0 : Int) ≤ (j : Int) := by omega
            have hjl : (j : Int) < (a[k].q.o.recs.length : Int) := by omega
            have hle : a[k].q.o.recs[j].length ≤ 140737488355328 := by have := (HFA.out _ (List.getElem_mem HLT.out)).2.2.2 _ (List.getElem_mem hlj); omega
            clear hmj hvj
            go_wp2_with fail
            go_loopw [84] (fun i wr => ∃ p : Nat, p ≤ a[k].q.o.recs[j].length ∧ i = .int .i64 p ∧ MU w M (.slice Aa a.length ca) a (some ⟨g, 0, none⟩) c7 rs vs ys wr) (fun i _ => a[k].q.o.recs[j].length - (intOf i).toNat)
            case atStart => exact ⟨0, Nat.zero_le _, rfl, HMJ.out⟩
            case round =>
              obtain ⟨p, hp, rfl, hmp⟩ := hrel
              clear hcj HMJ
              have HMP := Lib.hid hmp
              by_cases hlp : p < a[k].q.o.recs[j].length
              · have HLP := Lib.hid hlp
                obtain ⟨g3, z, rfl, hbc, hfz, hst⟩ := hmp.byte HLT.out HLJ.out HVJ.out hlp
                have HST := Lib.hid hst
                clear hmp hst
                go_wp2_with fail
                go_roundw
                case rel => exact ⟨p + 1, by have := HLP.out; omega, by go_num, HST.out _⟩
                case measure => simp [intOf]; omega
              · have hpe : p = a[k].q.o.recs[j].length := by omega
                clear hmp
                go_wp2_with fail
                go_roundw
                case rel => exact ⟨j + 1, by have := HLJ.out; omega, by go_num, HMP.out⟩
                case measure => simp [intOf]; omega
          · have hje : j = a[k].q.o.recs.length := by omega
            obtain ⟨g', r', t', hA, hr', hc6', hc1, hf1⟩ := hmj.slot HLT.out
            obtain rfl : g = g' := by injection hA with hA; injection hA
            have HNX := Lib.hid fun y => hmj.stamp HLT.out y
            clear hmj hr' hc6' hA
            go_wp2_with fail
            go_roundw
            case rel => exact ⟨k + 1, _, by have := HLT.out; omega, by go_num, HNX.out _⟩
            case measure => simp [intOf]; omega
      · have hke : k = a.length := by omega
        subst hke
        have HCL := Lib.hid (cloneb_any wr _ Aa ca a hmk.ba HFA.out HLA.out)
        clear hmk
        go_wp2_with fail
        refine HCL.out.mono ?_
        rintro e w13 ⟨A9, c9, rs9, rfl, hcl⟩
        have HM13 := Lib.hid (HMK.out.later hcl.below)
        have HS5 := Lib.hid (rsameb_any w13 _ _ _ _ a a HM13.out.ba (clb_bi hcl) HAR.out HAL.out)
        rw [decide_eq_true rfl] at HS5
        clear hcl HCL
        go_wp2_with fail
        refine HS5.out.mono ?_
        rintro e w14 ⟨rfl, hb14⟩
        have HM14 := Lib.hid (HM13.out.later hb14)
        go_wp2_with fail
        go_ret
        exact ⟨rfl, HM14.out.below⟩
end Go.Proofs.Ytjdmadfjfjenjaa.Jv
