/-
  Layer 6 (op): the walk of the statement OpChecks.
-/
import Derived.Test.YtbglojjljccgkaaQg
import Derived.Outline
namespace Go.Proofs.Ytbglojjljccgkaa.Qh
open Go Go.RowKit Ck Kw Ca Cb Ce Cf Cg Ch Ci Cj Cn Co Kx Pm Pa Pe Pf Pg Ph Ppi Pj Pk Pl Pp Py Qb Qs Qd Qg
attribute [local go_sem ↓] Go.wp_at_zero Go.wp_at_succ
set_option linter.unusedVariables false

/-- Both operations, as they came. -/
structure TB (w0 : World) (a b : O) (A B : Option Addr) (c d : Nat) (W : World) : Prop where
  below : Below w0.heap.size w0 W
  one : OB W w0.heap.size a A c
  two : OB W (w0.heap.size + 1) b B d
  la : Ls W (fun k => w0.heap.size ≤ k) (.slice A a.recs.length c) a.recs
  lb : Ls W (fun k => w0.heap.size ≤ k) (.slice B b.recs.length d) b.recs
variable {w0 W W' : World} {a b : O} {A B : Option Addr} {c d : Nat}
theorem TB.later (h : TB w0 a b A B c d W) (hb : Below W.heap.size W W') : TB w0 a b A B c d W' := ⟨h.below.trans (hb.mono h.below.size), Blk.below h.one hb (Blk.lt h.one), Blk.below h.two hb (Blk.lt h.two), h.la.after hb, h.lb.after hb⟩
theorem TB.oa (h : TB w0 a b A B c d W) : OI W (fun k => w0.heap.size ≤ k) (OV a A c) a := ⟨A, c, rfl, h.la⟩
theorem TB.ob (h : TB w0 a b A B c d W) : OI W (fun k => w0.heap.size ≤ k) (OV b B d) b := ⟨B, d, rfl, h.lb⟩
theorem tb_start (ha : Ls w0 (fun k => w0.heap.size ≤ k) (.slice A a.recs.length c) a.recs) (hb : Ls w0 (fun k => w0.heap.size ≤ k) (.slice B b.recs.length d) b.recs) :
    TB w0 a b A B c d ((w0.alloc (.cells (OC a A c) 27)).alloc (.cells (OC b B d) 27)) := by
  have h := sb_start ha hb
  exact ⟨h.below, h.one, h.two, h.la, h.lb⟩
theorem TB.cells (h : TB w0 a b A B c d W) :
    W.cell? ⟨w0.heap.size, 0, none⟩ = some (.int .i64 a.kind) ∧ W.cell? ⟨w0.heap.size, 1, none⟩ = some (.string ⟨a.topic.toArray⟩) ∧ W.cell? ⟨w0.heap.size, 2, none⟩ = some (.string ⟨a.group.toArray⟩) ∧ W.cell? ⟨w0.heap.size, 3, none⟩ = some (.int .i64 a.off) ∧ W.cell? ⟨w0.heap.size, 4, none⟩ = some (.slice A a.recs.length c)
    ∧ W.cell? ⟨w0.heap.size + 1, 0, none⟩ = some (.int .i64 b.kind) ∧ W.cell? ⟨w0.heap.size + 1, 1, none⟩ = some (.string ⟨b.topic.toArray⟩) ∧ W.cell? ⟨w0.heap.size + 1, 2, none⟩ = some (.string ⟨b.group.toArray⟩) ∧ W.cell? ⟨w0.heap.size + 1, 3, none⟩ = some (.int .i64 b.off) ∧ W.cell? ⟨w0.heap.size + 1, 4, none⟩ = some (.slice B b.recs.length d) := by
  obtain ⟨a0, a1, a2, a3, a4⟩ := OB.cells' h.one
  obtain ⟨b0, b1, b2, b3, b4⟩ := OB.cells' h.two
  exact ⟨a0, a1, a2, a3, a4, b0, b1, b2, b3, b4⟩

theorem TB.size (h : TB w0 a b A B c d W) : w0.heap.size + 2 ≤ W.heap.size := by have := Blk.lt h.two; omega
/-- Cells that hold bytes, whichever. -/
def U8s (xs : List Value) : Prop := ∀ x ∈ xs, ∃ z : Int, x = .int .u8 z
theorem u8s_bvs (l : Tx) : U8s (BVs l) := fun x hx => by
  simp only [BVs, List.mem_map] at hx
  obtain ⟨y, _, rfl⟩ := hx
  exact ⟨_, rfl⟩
/-- The operation, its clone, and the clone's rows, whatever bytes they hold. -/
structure BI (w0 : World) (M g7 : Nat) (a b : O) (A B : Option Addr) (c d : Nat) (A7 : Option Addr) (c7 : Nat) (vals : List Value) (W : World) : Prop where
  tb : TB w0 a b A B c d W
  op : OB W g7 a A7 c7
  far : w0.heap.size + 2 ≤ M
  row : W.ownsRow M 33 1 (.slice A7 a.recs.length c7) a.recs.length vals
  each : ∀ i (hi : i < a.recs.length), ∃ u xs, vals[i]? = some u ∧ W.ownsRow M 5 1 u a.recs[i].length xs ∧ U8s xs
theorem bi_start {w6 : World} {g7 : Nat} {A7 : Option Addr} {c7 : Nat} {vals : List Value} (h : TB w0 a b A B c d W) (hop : OB W g7 a A7 c7) (hcl : CL w6 (.slice A7 a.recs.length c7) a.recs vals a.recs.length W) (h6 : w0.heap.size + 2 ≤ w6.heap.size) :
    BI w0 w6.heap.size g7 a b A B c d A7 c7 vals W :=
  ⟨h, hop, h6, hcl.row, fun i hi => by
    obtain ⟨u, hu, ho⟩ := hcl.mine i hi hi
    exact ⟨u, _, hu, ho, u8s_bvs _⟩⟩
variable {M g7 : Nat} {A7 : Option Addr} {c7 : Nat} {vals : List Value}
theorem BI.later (h : BI w0 M g7 a b A B c d A7 c7 vals W) (hb : Below W.heap.size W W') : BI w0 M g7 a b A B c d A7 c7 vals W' :=
  ⟨h.tb.later hb, Blk.below h.op hb (Blk.lt h.op), h.far, own_below h.row hb, fun i hi => by
    obtain ⟨u, xs, hu, ho, hx⟩ := h.each i hi
    exact ⟨u, xs, hu, own_below ho hb, hx⟩⟩
/-- The clone's record i: its place in the row, and its bytes' places. -/
theorem BI.at_ (h : BI w0 M g7 a b A B c d A7 c7 vals W) {i : Nat} (hi : i < a.recs.length) :
    ∃ g A' c', A7 = some ⟨g, 0, none⟩ ∧ W.cell? ⟨g, i, none⟩ = some (.slice A' a.recs[i].length c') ∧ vals[i]? = some (.slice A' a.recs[i].length c') := by
  obtain ⟨g, cc, hv, hb, hlt⟩ := h.row.form (by omega)
  simp only [Value.slice.injEq, true_and] at hv
  obtain ⟨rfl, rfl⟩ := hv
  obtain ⟨u, xs, hu, ho, hx⟩ := h.each i hi
  obtain ⟨A', c', rfl⟩ := own_shape ho
  exact ⟨g, A', c', rfl, by rw [h.row.cellAt i (by omega), hu], hu⟩
theorem BI.rowcell {g : Nat} (h : BI w0 M g7 a b A B c d (some ⟨g, 0, none⟩) c7 vals W) {i : Nat} (hi : i < a.recs.length) {v : Value} (hv : vals[i]? = some v) : W.cell? ⟨g, i, none⟩ = some v := by
  rw [h.row.cellAt i (by omega), hv]
theorem BI.byte (h : BI w0 M g7 a b A B c d A7 c7 vals W) {i j : Nat} (hi : i < a.recs.length) {A' : Option Addr} {c' : Nat} (hv : vals[i]? = some (.slice A' a.recs[i].length c')) (hj : j < a.recs[i].length) :
    ∃ g z, A' = some ⟨g, 0, none⟩ ∧ W.cell? ⟨g, j, none⟩ = some (.int .u8 z) ∧ W.frozen? ⟨g, j, none⟩ = false ∧ ∀ y : Int, BI w0 M g7 a b A B c d A7 c7 vals (W.setCell ⟨g, j, none⟩ (.int .u8 y)) := by
  obtain ⟨u, xs, hu, ho, hx⟩ := h.each i hi
  rw [hv] at hu
  obtain rfl := Option.some.inj hu
  obtain ⟨g, cc, hq, hb, hlt⟩ := ho.form (by omega)
  simp only [Value.slice.injEq, true_and] at hq
  obtain ⟨rfl, rfl⟩ := hq
  have hxl : xs.length = a.recs[i].length := by have := ho.1; omega
  obtain ⟨z, hz⟩ := hx _ (List.getElem_mem (show j < xs.length by omega))
  refine ⟨g, z, rfl, by rw [ho.cellAt j (by omega), List.getElem?_eq_getElem (by omega), hz], ho.frozenAt j, fun y => ?_⟩
  have cg : W.grownBy (W.setCell ⟨g, j, none⟩ (.int .u8 y)) (some g) := (ho.stored j (.int .u8 y)).2
  have n1 := h.far
  have n2 := h.tb.below.size
  refine ⟨⟨h.tb.below.grown cg n2 (fun q hq => by injection hq with hq; omega), Blk.grown h.tb.one cg (by simp; omega), Blk.grown h.tb.two cg (by simp; omega), h.tb.la.grown cg (fun q hq _ => by injection hq with hq; show w0.heap.size ≤ q; omega), h.tb.lb.grown cg (fun q hq _ => by injection hq with hq; show w0.heap.size ≤ q; omega)⟩, Blk.grown h.op cg (by
    have := own_blk ho h.op (by decide)
    simp; exact this), n1, h.row.kept cg (by
    have := own_types ho h.row (by decide)
    first | exact this | (intro h1; exact this h1) | (cases hq : (Value.slice A7 a.recs.length c7).ownBlock <;> simp_all)), fun i' hi' => ?_⟩
  obtain ⟨u', xs', hu', ho', hx'⟩ := h.each i' hi'
  by_cases hg : u'.ownBlock = some g
  · rcases ho'.2 with ⟨rfl, h0⟩ | ⟨g2, cap2, cur2, rfl, _⟩
    · simp [Value.ownBlock] at hg
    · simp only [Value.ownBlock, Option.some.injEq] at hg
      subst hg
      refine ⟨_, _, hu', (ho'.stored j (.int .u8 y)).1, fun x hxm => ?_⟩
      rcases List.mem_or_eq_of_mem_set hxm with hm | rfl
      · exact hx' x hm
      · exact ⟨y, rfl⟩
  · exact ⟨u', xs', hu', ho'.kept cg (by
      first | exact hg | (intro h1; exact hg h1) | (cases hq : u'.ownBlock <;> simp_all)), hx'⟩

set_option maxRecDepth 100000 in
set_option maxHeartbeats 8000000 in
theorem opchecks_any (w : World) (a b : O) (va vb : Value) (ha : OI w (fun k => w.heap.size ≤ k) va a) (hb : OI w (fun k => w.heap.size ≤ k) vb b) (hfa : far a 140737488351232) (hfb : far b 140737488351232) :
    Calls Try.prog 4 #[va, vb] w fun e w' => e = .returned (.bool true) ∧ Below w.heap.size w w' := by
  obtain ⟨A, c, rfl, hla⟩ := ha
  obtain ⟨B, d, rfl, hlb⟩ := hb
  have HT0 := Lib.hid ((tb_start hla hlb).later (below_drewN (Below.refl _ _) 1))
  have HFA := Lib.hid hfa
  have LA : Hid (a.recs.length ≤ 140737488355328) := Lib.hid (by have := hfa.2.2.1; omega)
  have hse := sameO_refl a
  have hcc : (check a == check a) = true := beq_self_eq_true _
  have hss : (sameO a b == sameO a b) = true := beq_self_eq_true _
  clear hla hlb hfa hfb
  have tok1 : True := trivial
  have tok2 : True := trivial
  unfold OV
  unfold OC at HT0
  go_enter Try.func4, Try.ntmps4
  go_wp2_with fail
  go_region_held3 (fun w' => w'.cell? ⟨w.heap.size, 0, none⟩ = some (.int .i64 a.kind) ∧ w'.cell? ⟨w.heap.size, 1, none⟩ = some (.string ⟨a.topic.toArray⟩) ∧ w'.cell? ⟨w.heap.size, 2, none⟩ = some (.string ⟨a.group.toArray⟩) ∧ w'.cell? ⟨w.heap.size, 3, none⟩ = some (.int .i64 a.off) ∧ w'.cell? ⟨w.heap.size, 4, none⟩ = some (.slice A a.recs.length c) ∧ w'.cell? ⟨w.heap.size + 1, 0, none⟩ = some (.int .i64 b.kind) ∧ w'.cell? ⟨w.heap.size + 1, 1, none⟩ = some (.string ⟨b.topic.toArray⟩) ∧ w'.cell? ⟨w.heap.size + 1, 2, none⟩ = some (.string ⟨b.group.toArray⟩) ∧ w'.cell? ⟨w.heap.size + 1, 3, none⟩ = some (.int .i64 b.off) ∧ w'.cell? ⟨w.heap.size + 1, 4, none⟩ = some (.slice B b.recs.length d))
    (first | exact HT0.out.cells | exact HT1.out.cells | exact HT2.out.cells | exact HT3.out.cells | exact HT4.out.cells | exact HT5.out.cells | exact HT6.out.cells)
    (first
    | (go_at_call 9; refine (begun_any _).mono ?_; rintro e w1 ⟨rfl, hb1⟩; have HT1 := Lib.hid (HT0.out.later hb1); clear hb1)
    | (go_at_call 14; refine (check_any a _ _ _ HT1.out.oa LA.out).mono ?_; rintro e w2 ⟨rfl, hb2⟩; have HT2 := Lib.hid (HT1.out.later hb2); clear hb2)
    | (go_at_call 15; refine (rcheck_any a _ _ _ HT2.out.oa LA.out).mono ?_; rintro e w3 ⟨rfl, hb3⟩; have HT3 := Lib.hid (HT2.out.later hb3); clear hb3)
    | (go_at_call 16; have _t := tok1; clear tok1 _t; refine (same_any a b _ _ _ _ _ HT3.out.oa HT3.out.ob LA.out).mono ?_; rintro e w4 ⟨rfl, hb4⟩; have HT4 := Lib.hid (HT3.out.later hb4); clear hb4)
    | (go_at_call 17; refine (rsame_any a b _ _ _ _ _ HT4.out.oa HT4.out.ob LA.out).mono ?_; rintro e w5 ⟨rfl, hb5⟩; have HT5 := Lib.hid (HT4.out.later hb5); clear hb5)
    | (go_at_call 16; have _t := tok2; clear tok2 _t; refine (same_any a a _ _ _ _ _ HT5.out.oa HT5.out.oa LA.out).mono ?_; rintro e w6 ⟨he, hb6⟩; rw [hse] at he; subst he; have HT6 := Lib.hid (HT5.out.later hb6); clear hb6))
  all_goals
    clear HT0 HT1 HT2 HT3 HT4 HT5
    have HCL := Lib.hid (Qg.clone_any w6 a _ A c HT6.out.la HFA.out)
    obtain ⟨a0, a1, a2, a3, a4, -⟩ := HT6.out.cells
    unfold OV at HCL
    go_wp2_with fail
    refine HCL.out.mono ?_
    rintro e w7 ⟨A7, c7, vals, rfl, hcl7⟩
    unfold OV
    have HT7 := Lib.hid ((HT6.out.later hcl7.below).later (al_below w7 (.cells (OC a A7 c7) 27)))
    have HCL7 := Lib.hid (hcl7.later (al_below w7 (.cells (OC a A7 c7) 27)))
    have HC7 : Hid (OB (w7.alloc (.cells (OC a A7 c7) 27)) w7.heap.size a A7 c7) := Lib.hid (Blk.new _ _ _)
    clear hcl7 a0 a1 a2 a3 a4 HCL
    obtain ⟨a0, a1, a2, a3, a4, -⟩ := HT7.out.cells
    obtain ⟨k0, k1, k2, k3, k4⟩ := OB.cells' HC7.out
    unfold OC at HT7 HCL7 HC7 a0 a1 a2 a3 a4 k0 k1 k2 k3 k4
    have HSM := Lib.hid (rsame_any a a _ _ _ _ _ HT7.out.oa (show OI _ _ (.agg #[.int .i64 a.kind, .string ⟨a.topic.toArray⟩, .string ⟨a.group.toArray⟩, .int .i64 a.off, .slice A7 a.recs.length c7]) a from ⟨A7, c7, rfl, HCL7.out.ls⟩) LA.out)
    go_wp2_with fail
    refine HSM.out.mono ?_
    rintro e w8 ⟨he, hb8⟩
    rw [hse] at he
    subst he
    have HBI := Lib.hid (bi_start (HT7.out.later hb8) (Blk.below HC7.out hb8 (Blk.lt HC7.out)) (HCL7.out.later hb8) HT6.out.size)
    clear hb8 a0 a1 a2 a3 a4 k0 k1 k2 k3 k4 HSM
    obtain ⟨k0, k1, k2, k3, k4⟩ := OB.cells' HBI.out.op
    go_wp2_with fail
    have hnl : a.recs.length ≤ 140737488355328 := LA.out
    have HLE : Hid (∀ i (hi : i < a.recs.length), a.recs[i].length ≤ 140737488355328) := Lib.hid (fun i hi => by have := HFA.out.2.2.2 _ (List.getElem_mem hi); omega)
    generalize w6.heap.size = M at *
    generalize w7.heap.size = g7 at *
    clear k0 k1 k2 k3 k4 HC7 HT7 HCL7 HT6
    go_loopw [42] (fun i wr => ∃ k : Nat, k ≤ a.recs.length ∧ i = .int .i64 k ∧ BI w M g7 a b A B c d A7 c7 vals wr) (fun i _ => a.recs.length - (intOf i).toNat)
    case atStart => exact ⟨0, Nat.zero_le _, rfl, HBI.out⟩
    case round =>
      obtain ⟨k, hk, rfl, hbi⟩ := hrel
      clear HBI
      have HB := Lib.hid hbi
      by_cases hlt : k < a.recs.length
      · have HLT := Lib.hid hlt
        obtain ⟨g, A', c', rfl, hrc, hvk⟩ := hbi.at_ hlt
        have HVK := Lib.hid hvk
        obtain ⟨k0, k1, k2, k3, k4⟩ := OB.cells' hbi.op
        have hle := HLE.out k hlt
        clear hbi hvk
        go_wp2_with fail
        go_loopw [51] (fun i wr => ∃ j : Nat, j ≤ a.recs[k].length ∧ i = .int .i64 j ∧ BI w M g7 a b A B c d (some ⟨g, 0, none⟩) c7 vals wr) (fun i _ => a.recs[k].length - (intOf i).toNat)
        case atStart => exact ⟨0, Nat.zero_le _, rfl, HB.out⟩
        case round =>
          obtain ⟨j, hj, rfl, hbj⟩ := hrel
          clear hrc k0 k1 k2 k3 k4
          have hrc := hbj.rowcell HLT.out HVK.out
          obtain ⟨k0, k1, k2, k3, k4⟩ := OB.cells' hbj.op
          have HBJ := Lib.hid hbj
          clear hbj
          by_cases hlj : j < a.recs[k].length
          · obtain ⟨g', z, rfl, hbc, hfz, hst⟩ := HBJ.out.byte HLT.out HVK.out hlj
            have HST := Lib.hid hst
            have HLJ := Lib.hid hlj
            clear hst
            go_wp2_with fail
            go_roundw
            case rel => exact ⟨j + 1, by have := HLJ.out; omega, by go_num, HST.out _⟩
            case measure => simp [intOf]; omega
          · have hje : j = a.recs[k].length := by omega
            go_wp2_with fail
            go_roundw
            case rel => exact ⟨k + 1, by have := HLT.out; omega, by go_num, HBJ.out⟩
            case measure => simp [intOf]; omega
      · have hke : k = a.recs.length := by omega
        subst hke
        obtain ⟨a0, a1, a2, a3, a4, -⟩ := hbi.tb.cells
        have HCL := Lib.hid (Qg.clone_any wr a _ A c hbi.tb.la HFA.out)
        clear hbi
        unfold OV at HCL
        go_wp2_with fail
        refine HCL.out.mono ?_
        rintro e w9 ⟨A9, c9, vals9, rfl, hcl9⟩
        unfold OV
        have HT9 := Lib.hid ((HB.out.tb.later hcl9.below).later (al_below w9 (.cells (OC a A9 c9) 27)))
        have HCL9 := Lib.hid (hcl9.later (al_below w9 (.cells (OC a A9 c9) 27)))
        have HC9 : Hid (OB (w9.alloc (.cells (OC a A9 c9) 27)) w9.heap.size a A9 c9) := Lib.hid (Blk.new _ _ _)
        clear hcl9 a0 a1 a2 a3 a4 HCL
        obtain ⟨a0, a1, a2, a3, a4, -⟩ := HT9.out.cells
        obtain ⟨k0, k1, k2, k3, k4⟩ := OB.cells' HC9.out
        unfold OC at HT9 HCL9 HC9 a0 a1 a2 a3 a4 k0 k1 k2 k3 k4
        have HSM := Lib.hid (rsame_any a a _ _ _ _ _ HT9.out.oa (show OI _ _ (.agg #[.int .i64 a.kind, .string ⟨a.topic.toArray⟩, .string ⟨a.group.toArray⟩, .int .i64 a.off, .slice A9 a.recs.length c9]) a from ⟨A9, c9, rfl, HCL9.out.ls⟩) LA.out)
        go_wp2_with fail
        refine HSM.out.mono ?_
        rintro e w10 ⟨he, hb10⟩
        rw [hse] at he
        subst he
        have HT10 := Lib.hid (HT9.out.later hb10)
        go_wp2_with fail
        go_ret
        exact ⟨rfl, HT10.out.below⟩
end Go.Proofs.Ytbglojjljccgkaa.Qh
