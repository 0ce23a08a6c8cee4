/-
  Layer 6 (op): bytes.HasPrefix; the walk of the statement OpApart.
-/
import Derived.Test.YtbglojjljccgkaaQs
import Derived.Test.YtbglojjljccgkaaPl
import Derived.Test.YtbglojjljccgkaaGa
namespace Go.Proofs.Ytbglojjljccgkaa.Qf
open Go Go.RowKit Ck Kw Ca Cb Ci Pm Pa Pe Pf Pg Ph Ppi Pk Pl Pp Qs
set_option linter.unusedVariables false

def pre (k l : Tx) : Bool := decide (k <+: l)
theorem pre_take {k l : Tx} : pre k l = (l.take k.length == k) := by
  rw [Bool.eq_iff_iff]
  simp only [pre, decide_eq_true_eq, beq_iff_eq]
  exact ⟨fun h => (List.prefix_iff_eq_take.1 h).symm, fun h => List.prefix_iff_eq_take.2 h.symm⟩
set_option maxRecDepth 100000 in
set_option maxHeartbeats 1000000 in
theorem prefix_any (w : World) (X Y : Nat → Prop) (va vb : Value) (n m : Nat) (l k : Tx) (ha : Sl w X 1 va n (BVs l)) (hb : Sl w Y 1 vb m (BVs k)) (hl : l.length ≤ 140737488355328) :
    Calls Try.prog 37 #[va, vb] w fun e w' => e = .returned (.bool (pre k l)) ∧ w = w' := by
  have hn : n = l.length := by obtain ⟨_, _, _, h, _⟩ := ha; rw [BVs_len] at h; omega
  have hm : m = k.length := by obtain ⟨_, _, _, h, _⟩ := hb; rw [BVs_len] at h; omega
  subst hn; subst hm
  have ha' := ha
  have hb' := hb
  obtain ⟨A, c, rfl, _, hnc, _⟩ := ha'
  obtain ⟨B, d, rfl, -⟩ := hb'
  by_cases hle : k.length ≤ l.length
  · have hup : Sl w X 1 (.slice A k.length c) k.length (BVs (l.take k.length)) := by
      have := ha.upto hle
      rw [show (BVs l).take (k.length * 1) = BVs (l.take k.length) from by simp [BVs, List.map_take]] at this
      exact this
    have HC := Lib.hid (equal_any w X Y _ _ _ _ _ _ hup hb)
    have hs := Ga.slice_upto A l.length c k.length (by omega)
    have HP := Lib.hid (pre_take (k := k) (l := l))
    clear ha hb hup
    go_enter Try.func37, Try.ntmps37
    go_wp2_with (go_at_call 22; refine HC.out.mono ?_; rintro e w1 ⟨rfl, rfl⟩)
    go_ret
    exact ⟨by rw [HP.out]; rfl, rfl⟩
  · have hp : pre k l = false := by
      simp only [pre, decide_eq_false_iff_not]
      exact fun h => hle h.length_le
    have HP := Lib.hid hp
    have hd : decide ((k.length : Int) ≤ (l.length : Int)) = false := decide_eq_false (by omega)
    have hlt : l.length < k.length := by omega
    clear ha hb hp hle
    go_enter Try.func37, Try.ntmps37
    go_wp2
    go_ret
    exact ⟨by rw [HP.out]; rfl, rfl⟩

/-- A row of new bytes, kept. -/
structure VB (w0 : World) (v : Value) (l : Tx) (W : World) : Prop where
  below : Below w0.heap.size w0 W
  row : Sl W (fun k => k < w0.heap.size) 1 v l.length (BVs l)
theorem VB.later {w0 W W' : World} {v : Value} {l : Tx} (h : VB w0 v l W) (b : Below W.heap.size W W') : VB w0 v l W' := ⟨h.below.trans (b.mono h.below.size), h.row.after b⟩

set_option maxRecDepth 100000 in
set_option maxHeartbeats 4000000 in
theorem opapart_any (w : World) (a b : O) (va vb : Value) (ha : OI w (fun k => w.heap.size ≤ k) va a) (hb : OI w (fun k => w.heap.size ≤ k) vb b) (hla : a.recs.length * 24 ≤ 140737488351232) (hlb : b.recs.length * 24 ≤ 140737488351232) :
    Calls Try.prog 8 #[va, vb] w fun e w' => e = .returned (.bool true) ∧ Below w.heap.size w w' := by
  obtain ⟨A, c, rfl, hla1⟩ := ha
  obtain ⟨B, d, rfl, hlb1⟩ := hb
  have HS := Lib.hid (sb_start hla1 hlb1)
  have LA : a.recs.length ≤ 140737488355328 := by omega
  have LB : b.recs.length ≤ 140737488355328 := by omega
  have HLA := Lib.hid LA
  have HLB := Lib.hid LB
  have hss : (sameO a b == sameO a b) = true := beq_self_eq_true _
  clear hla1 hlb1 hla hlb LA LB
  have HKA : Hid (∀ W, Below w.heap.size w W → SB w w.heap.size (w.heap.size + 1) a b A B c d (fun k => w.heap.size ≤ k) (fun k => w.heap.size ≤ k) W → OI W (fun k => w.heap.size ≤ k) (OV a A c) a ∧ OI W (fun k => w.heap.size ≤ k) (OV b B d) b) := Lib.hid fun W _ h => ⟨⟨A, c, rfl, h.la⟩, ⟨B, d, rfl, h.lb⟩⟩
  have HLater : Hid (∀ W W', SB w w.heap.size (w.heap.size + 1) a b A B c d (fun k => w.heap.size ≤ k) (fun k => w.heap.size ≤ k) W → Below W.heap.size W W' → SB w w.heap.size (w.heap.size + 1) a b A B c d (fun k => w.heap.size ≤ k) (fun k => w.heap.size ≤ k) W') := Lib.hid fun W W' h hb => ⟨h.below.trans (hb.mono h.below.size), Blk.below h.one hb (Blk.lt h.one), Blk.below h.two hb (Blk.lt h.two), h.la.after hb, h.lb.after hb⟩
  unfold OV at HKA ⊢
  go_enter Try.func8, Try.ntmps8
  go_wp2_with fail
  refine (bytes_any a _ _ _ (HKA.out _ HS.out.below HS.out).1 HLA.out).mono ?_
  rintro e w1 ⟨p, rfl, hown1, hb1⟩
  obtain ⟨Ap, cp, rfl⟩ := own_shape hown1
  have HS1 := Lib.hid (HLater.out _ _ HS.out hb1)
  have HP1 : Hid (VB w (.slice Ap (form a).length cp) (form a) w1) := Lib.hid ⟨HS1.out.below, Sl.of_own hown1 (fun k h1 _ h2 => by have := HS.out.below.size; omega)⟩
  obtain ⟨a0, a1, a2, a3, a4⟩ := HS1.out.one.cells
  obtain ⟨b0, b1, b2, b3, b4⟩ := HS1.out.two.cells
  clear hown1 hb1
  go_wp2_with fail
  refine (bytes_any b _ _ _ (HKA.out _ HS1.out.below HS1.out).2 HLB.out).mono ?_
  rintro e w2 ⟨q, rfl, hown2, hb2⟩
  obtain ⟨Aq, cq, rfl⟩ := own_shape hown2
  have HS2 := Lib.hid (HLater.out _ _ HS1.out hb2)
  have HP2 := Lib.hid (HP1.out.later hb2)
  have HQ2 : Hid (VB w (.slice Aq (form b).length cq) (form b) w2) := Lib.hid ⟨HS2.out.below, Sl.of_own hown2 (fun k h1 _ h2 => by have := HS1.out.below.size; omega)⟩
  clear hown2 hb2 a0 a1 a2 a3 a4 b0 b1 b2 b3 b4
  go_wp2_with fail
  refine (begun_any w2).mono ?_
  rintro e w3 ⟨rfl, hb3⟩
  have HS3 := Lib.hid (HLater.out _ _ HS2.out hb3)
  have HP3 := Lib.hid (HP2.out.later hb3)
  have HQ3 := Lib.hid (HQ2.out.later hb3)
  clear hb3
  by_cases hca : check a = 0
  · have e1 : (check a == 0) = true := by rw [hca]; rfl
    have n1 : (check a != 0) = false := by rw [bne, e1]; rfl
    by_cases hcb : check b = 0
    · have e2 : (check b == 0) = true := by rw [hcb]; rfl
      have n2 : (check b != 0) = false := by rw [bne, e2]; rfl
      have fa : form a = raw a := by rw [form, if_neg (by omega)]
      have fb : form b = raw b := by rw [form, if_neg (by omega)]
      have hpos : 0 < (form a).length := by rw [fa]; exact raw_pos a
      have P1 : Hid (pre (form b) (form a) = sameO a b) := Lib.hid (by
        rw [Bool.eq_iff_iff]
        simp only [pre, sameO, decide_eq_true_eq]
        rw [fa, fb]
        exact ⟨fun h => raw_prefix hca hcb h, fun h => by rw [h]; exact List.prefix_refl _⟩)
      have P2 : Hid (pre (form a) (form b) = sameO a b) := Lib.hid (by
        rw [Bool.eq_iff_iff]
        simp only [pre, sameO, decide_eq_true_eq]
        rw [fa, fb]
        exact ⟨fun h => (raw_prefix hcb hca h).symm, fun h => by rw [h]; exact List.prefix_refl _⟩)
      have la := form_len a
      have lb := form_len b
      obtain ⟨a0, a1, a2, a3, a4⟩ := HS3.out.one.cells
      obtain ⟨b0, b1, b2, b3, b4⟩ := HS3.out.two.cells
      clear hca hcb e1 e2 fa fb
      go_wp2_with fail
      refine (rsame_any a b _ _ _ _ _ (HKA.out _ HS3.out.below HS3.out).1 (HKA.out _ HS3.out.below HS3.out).2 HLA.out).mono ?_
      rintro e w4 ⟨rfl, hb4⟩
      have HS4 := Lib.hid (HLater.out _ _ HS3.out hb4)
      have HP4 := Lib.hid (HP3.out.later hb4)
      have HQ4 := Lib.hid (HQ3.out.later hb4)
      clear hb4 a0 a1 a2 a3 a4 b0 b1 b2 b3 b4
      go_wp2_with fail
      refine (prefix_any w4 _ _ _ _ _ _ (form a) (form b) HP4.out.row HQ4.out.row (by omega)).mono ?_
      rintro e w5 ⟨he, rfl⟩
      rw [P1.out] at he
      subst he
      obtain ⟨a0, a1, a2, a3, a4⟩ := HS4.out.one.cells
      obtain ⟨b0, b1, b2, b3, b4⟩ := HS4.out.two.cells
      go_wp2_with fail
      refine (rsame_any a b _ _ _ _ _ (HKA.out _ HS4.out.below HS4.out).1 (HKA.out _ HS4.out.below HS4.out).2 HLA.out).mono ?_
      rintro e w6 ⟨rfl, hb6⟩
      have HS6 := Lib.hid (HLater.out _ _ HS4.out hb6)
      have HP6 := Lib.hid (HP4.out.later hb6)
      have HQ6 := Lib.hid (HQ4.out.later hb6)
      clear hb6 a0 a1 a2 a3 a4 b0 b1 b2 b3 b4
      go_wp2_with fail
      refine (prefix_any w6 _ _ _ _ _ _ (form b) (form a) HQ6.out.row HP6.out.row (by omega)).mono ?_
      rintro e w7 ⟨he, rfl⟩
      rw [P2.out] at he
      subst he
      go_wp2_with fail
      go_ret
      exact ⟨rfl, HS6.out.below⟩
    · have e2 : (check b == 0) = false := beq_eq_false_iff_ne.2 hcb
      have n2 : (check b != 0) = true := by rw [bne, e2]; rfl
      clear hca hcb e1 e2
      go_wp2_with fail
      refine (begun_any w3).mono ?_
      rintro e w4 ⟨rfl, hb4⟩
      have HS4 := Lib.hid (HLater.out _ _ HS3.out hb4)
      clear hb4
      go_wp2_with fail
      go_ret
      exact ⟨rfl, HS4.out.below⟩
  · have e1 : (check a == 0) = false := beq_eq_false_iff_ne.2 hca
    have n1 : (check a != 0) = true := by rw [bne, e1]; rfl
    clear hca e1
    go_wp2_with fail
    refine (begun_any w3).mono ?_
    rintro e w4 ⟨rfl, hb4⟩
    have HS4 := Lib.hid (HLater.out _ _ HS3.out hb4)
    clear hb4
    go_wp2_with fail
    go_ret
    exact ⟨rfl, HS4.out.below⟩

end Go.Proofs.Ytbglojjljccgkaa.Qf
