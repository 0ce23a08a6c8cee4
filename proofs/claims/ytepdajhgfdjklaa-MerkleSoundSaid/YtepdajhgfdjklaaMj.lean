/-
  Contracts of layer 5: Verify, the program's and the document's.
-/
import Derived.Test.YtepdajhgfdjklaaMi
import Derived.Test.YtepdajhgfdjklaaMf
namespace Go.Proofs.Ytepdajhgfdjklaa.Mj
open Go Go.RowKit Ck Im Ik Ia Ib Ic Ig Ih Ij Mm Ma Mb Mc Md Pr Me Mf Mh Mi
attribute [local go_sem ↓] Go.wp_at_zero Go.wp_at_succ
set_option linter.unusedVariables false

theorem clov_new (w : World) (p : Nat) (lv : Value) :
    CloV (((w.alloc (.cells #[.pointer (some ⟨p, 0, none⟩)] 24)).alloc (.cells #[lv] 41)).alloc (.cells #[.func (.func 44) #[] #[.pointer (some ⟨w.heap.size, 0, none⟩), .pointer (some ⟨w.heap.size + 1, 0, none⟩), .pointer (some ⟨w.heap.size + 1 + 1, 0, none⟩)]] 79)) p w.heap.size (w.heap.size + 1) (w.heap.size + 1 + 1) lv
    ∧ Below w.heap.size w (((w.alloc (.cells #[.pointer (some ⟨p, 0, none⟩)] 24)).alloc (.cells #[lv] 41)).alloc (.cells #[.func (.func 44) #[] #[.pointer (some ⟨w.heap.size, 0, none⟩), .pointer (some ⟨w.heap.size + 1, 0, none⟩), .pointer (some ⟨w.heap.size + 1 + 1, 0, none⟩)]] 79)) :=
  ⟨⟨(three w _ _ _).1, (three w _ _ _).2.1, (three w _ _ _).2.2⟩, three_below w _ _ _⟩
theorem two_below (w : World) (a b : Obj) : Below w.heap.size w ((w.alloc a).alloc b) := ((Below.refl _ w).alloc (Nat.le_refl _) _).alloc (by simp) _

theorem lenI_yes {i n : Nat} (h : i < n) : lenI i n = len i n := lenI_of h

set_option maxRecDepth 100000 in
set_option maxHeartbeats 1000000 in
theorem verify_any (w : World) (S X Y : Nat → Prop) (p : Nat) (L : List Tx) (r i n : Int) (A : Option Addr) (c : Nat) (ds : List Int) (lv : Value) (b : Tx) (hn63 : n ≤ 9223372036854775807) (hT : Tb w S p L) (hds : Sl w X 1 (.slice A ds.length c) ds.length (IVs ds))
    (hd63 : ∀ x ∈ ds, x ≤ 9223372036854775807) (hlv : Sl w Y 1 lv b.length (BVs b)) (hbl : b.length ≤ 140737488355327) (hdl : ds.length ≤ 140737488355328) :
    Calls Try.prog 26 #[.pointer (some ⟨p, 0, none⟩), .int .i64 r, lv, .int .i64 i, .int .i64 n, .slice A ds.length c] w fun e w' => e = .returned (.bool (verify L r b i n ds)) ∧ Below w.heap.size w w' := by
  obtain ⟨lA, lc, rfl, -⟩ := id hlv
  have HP := fun W => isplace_any W i n
  by_cases hp : 0 ≤ i ∧ i < n
  · rw [isPl_yes hp.1 hp.2] at HP
    have HP := Lib.hid HP
    obtain ⟨x, rfl⟩ : ∃ x : Nat, i = (x : Int) := ⟨i.toNat, by omega⟩
    obtain ⟨m, rfl⟩ : ∃ m : Nat, n = (m : Int) := ⟨n.toNat, by omega⟩
    have hxm : x < m := by omega
    have HL := fun W => length_any W x m hn63
    rw [lenI_yes hxm] at HL
    by_cases hl : ds.length = len x m
    · obtain ⟨hC, hb⟩ := clov_new w p (.slice lA b.length lc)
      have HV := Lib.hid (vdown_any m _ S X Y p L x m A c ds (.slice lA b.length lc) b _ _ _ (Nat.le_refl _) hxm (by omega) hl (Tb.after hT hb) (hds.after hb) hd63 (hlv.after hb) hbl hC)
      have HB := Lib.hid hb
      have hq : ((ds.length : Int) == (len x m : Int)) = true := by rw [beq_iff_eq]; omega
      have hq2 : ((ds.length : Int) != (len x m : Int)) = false := by simp [hl]
      have hv0 : comes L b x m ds = none → verify L r b x m ds = false := fun h => verify_none hxm hl h
      have hv1 : ∀ d, comes L b x m ds = some d → verify L r b x m ds = ((d : Int) == r) := fun d h => verify_some hxm hl h
      generalize len x m = g at *
      generalize verify L r b x m ds = vv at *
      generalize comes L b x m ds = o at *
      have HL := Lib.hid HL
      have H0 := Lib.hid hv0
      have H1 := Lib.hid hv1
      clear hT hds hd63 hlv hb hC hl hp hv0 hv1 hq
      rcases o with _ | d
      · rw [H0.out rfl]
        rw [cv_none] at HV
        go_enter Try.func26, Try.ntmps26
        go_wp2_with fail
        refine (HP.out _).mono ?_
        rintro e w' ⟨rfl, rfl⟩
        go_wp2_with fail
        refine (HL.out _).mono ?_
        rintro e w' ⟨rfl, rfl⟩
        go_wp2_with fail
        refine HV.out.mono ?_
        rintro e w2 ⟨rfl, hb2⟩
        have HB2 := Lib.hid (below_tr HB.out hb2)
        clear hb2
        go_wp2_with fail
        go_ret
        exact ⟨rfl, HB2.out⟩
      · rw [H1.out d rfl]
        rw [cv_some] at HV
        go_enter Try.func26, Try.ntmps26
        go_wp2_with fail
        refine (HP.out _).mono ?_
        rintro e w' ⟨rfl, rfl⟩
        go_wp2_with fail
        refine (HL.out _).mono ?_
        rintro e w' ⟨rfl, rfl⟩
        go_wp2_with fail
        refine HV.out.mono ?_
        rintro e w2 ⟨rfl, hb2⟩
        have HB2 := Lib.hid (below_tr HB.out hb2)
        clear hb2
        go_wp2_with fail
        go_ret
        exact ⟨rfl, HB2.out⟩
    · have HR := Lib.hid (verify_no L r b (i := x) (n := m) ds (fun h => hl (by simpa using h.2.2)))
      have hq : ((ds.length : Int) == (len x m : Int)) = false := by rw [beq_eq_false_iff_ne]; omega
      have hq2 : ((ds.length : Int) != (len x m : Int)) = true := by simp only [bne_iff_ne, ne_eq]; omega
      have hq3 : ¬ ds.length = len x m := hl
      generalize len x m = g at *
      have HL := Lib.hid HL
      have HB := Lib.hid (two_below w (.cells #[.pointer (some ⟨p, 0, none⟩)] 24) (.cells #[.slice lA b.length lc] 41))
      clear hT hds hd63 hlv hl hp
      rw [HR.out]
      go_enter Try.func26, Try.ntmps26
      go_wp2_with fail
      refine (HP.out _).mono ?_
      rintro e w' ⟨rfl, rfl⟩
      go_wp2_with fail
      refine (HL.out _).mono ?_
      rintro e w' ⟨rfl, rfl⟩
      go_wp2_with fail
      go_ret
      exact ⟨rfl, HB.out⟩
  · rw [isPl_no hp] at HP
    have HP := Lib.hid HP
    have HR := Lib.hid (verify_no L r b (i := i) (n := n) ds (fun h => hp ⟨h.1, h.2.1⟩))
    have HB := Lib.hid (two_below w (.cells #[.pointer (some ⟨p, 0, none⟩)] 24) (.cells #[.slice lA b.length lc] 41))
    clear hT hds hd63 hlv hp
    rw [HR.out]
    go_enter Try.func26, Try.ntmps26
    go_wp2_with fail
    refine (HP.out _).mono ?_
    rintro e w' ⟨rfl, rfl⟩
    go_wp2_with fail
    go_ret
    exact ⟨rfl, HB.out⟩

set_option maxRecDepth 100000 in
set_option maxHeartbeats 1000000 in
theorem rverify_any (w : World) (S X Y : Nat → Prop) (p : Nat) (L : List Tx) (r i n : Int) (A : Option Addr) (c : Nat) (ds : List Int) (lv : Value) (b : Tx) (hn63 : n ≤ 9223372036854775807) (hT : Rf w S p L) (hds : Sl w X 1 (.slice A ds.length c) ds.length (IVs ds))
    (hd63 : ∀ x ∈ ds, x ≤ 9223372036854775807) (hlv : Sl w Y 1 lv b.length (BVs b)) (hbl : b.length ≤ 140737488355327) (hdl : ds.length ≤ 140737488355328) :
    Calls Try.prog 27 #[.pointer (some ⟨p, 0, none⟩), .int .i64 r, lv, .int .i64 i, .int .i64 n, .slice A ds.length c] w fun e w' => e = .returned (.bool (verify L r b i n ds)) ∧ Below w.heap.size w w' := by
  by_cases hi0 : i < 0
  · have HR := Lib.hid (verify_no L r b (i := i) (n := n) ds (fun h => by omega))
    clear hT hds hd63 hlv
    rw [HR.out]
    go_enter Try.func27, Try.ntmps27
    go_wp2_with fail
    go_ret
    exact ⟨rfl, Below.refl _ _⟩
  by_cases hin : n ≤ i
  · have HR := Lib.hid (verify_no L r b (i := i) (n := n) ds (fun h => by omega))
    clear hT hds hd63 hlv
    rw [HR.out]
    go_enter Try.func27, Try.ntmps27
    go_wp2_with fail
    go_ret
    exact ⟨rfl, Below.refl _ _⟩
  · obtain ⟨x, rfl⟩ : ∃ x : Nat, i = (x : Int) := ⟨i.toNat, by omega⟩
    obtain ⟨m, rfl⟩ : ∃ m : Nat, n = (m : Int) := ⟨n.toNat, by omega⟩
    have hxm : x < m := by omega
    have HL := fun W => rlength_any W x m hn63
    rw [lenI_yes hxm] at HL
    by_cases hl : ds.length = len x m
    · have HV := Lib.hid (rcomes_any m w S X Y p L x m A c ds lv b (Nat.le_refl _) hxm (by omega) hl hT hds hd63 hlv hbl)
      have hq2 : ((ds.length : Int) != (len x m : Int)) = false := by simp [hl]
      have hv0 : comes L b x m ds = none → verify L r b x m ds = false := fun h => verify_none hxm hl h
      have hv1 : ∀ d, comes L b x m ds = some d → verify L r b x m ds = ((d : Int) == r) := fun d h => verify_some hxm hl h
      generalize len x m = g at *
      generalize verify L r b x m ds = vv at *
      generalize comes L b x m ds = o at *
      have HL := Lib.hid HL
      have H0 := Lib.hid hv0
      have H1 := Lib.hid hv1
      clear hT hds hd63 hlv hl hv0 hv1
      rcases o with _ | d
      · rw [H0.out rfl]
        rw [cv_none] at HV
        go_enter Try.func27, Try.ntmps27
        go_wp2_with fail
        refine (HL.out _).mono ?_
        rintro e w' ⟨rfl, rfl⟩
        go_wp2_with fail
        refine HV.out.mono ?_
        rintro e w2 ⟨rfl, hb2⟩
        have HB2 := Lib.hid hb2
        clear hb2
        go_wp2_with fail
        go_ret
        exact ⟨rfl, HB2.out⟩
      · rw [H1.out d rfl]
        rw [cv_some] at HV
        go_enter Try.func27, Try.ntmps27
        go_wp2_with fail
        refine (HL.out _).mono ?_
        rintro e w' ⟨rfl, rfl⟩
        go_wp2_with fail
        refine HV.out.mono ?_
        rintro e w2 ⟨rfl, hb2⟩
        have HB2 := Lib.hid hb2
        clear hb2
        go_wp2_with fail
        go_ret
        exact ⟨rfl, HB2.out⟩
    · have HR := Lib.hid (verify_no L r b (i := x) (n := m) ds (fun h => hl (by simpa using h.2.2)))
      have hq2 : ((ds.length : Int) != (len x m : Int)) = true := by simp only [bne_iff_ne, ne_eq]; omega
      generalize len x m = g at *
      have HL := Lib.hid HL
      clear hT hds hd63 hlv hl
      rw [HR.out]
      go_enter Try.func27, Try.ntmps27
      go_wp2_with fail
      refine (HL.out _).mono ?_
      rintro e w' ⟨rfl, rfl⟩
      go_wp2_with fail
      go_ret
      exact ⟨rfl, Below.refl _ _⟩

end Go.Proofs.Ytepdajhgfdjklaa.Mj
