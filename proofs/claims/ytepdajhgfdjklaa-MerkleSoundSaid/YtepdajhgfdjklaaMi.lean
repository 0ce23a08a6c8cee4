/-
  Contracts of layer 5: the document's Verify; the program's Verify as it is called.
-/
import Derived.Test.YtepdajhgfdjklaaMh
import Derived.Test.YtepdajhgfdjklaaMd
namespace Go.Proofs.Ytepdajhgfdjklaa.Mi
open Go Go.RowKit Ck Im Ik Ia Ib Ic Ig Ih Ij Mm Ma Mb Mc Md Pr Me Mh
attribute [local go_sem ↓] Go.wp_at_zero Go.wp_at_succ
set_option linter.unusedVariables false

theorem rlook_made (w w1 : World) (S : Nat → Prop) (p : Nat) (L : List Tx) (v : Value) (b : Tx) (h : Rf w S p L) (ho : w1.ownsRow w.heap.size 5 1 v b.length (BVs b)) (b1 : Below w.heap.size w w1) :
    Calls Try.prog 48 #[.pointer (some ⟨p, 0, none⟩), v] w1 fun e w' => e = .returned (.tuple #[.int .i64 (((Mm.look L b).getD 0 : Nat) : Int), .bool (Mm.look L b).isSome]) ∧ Below w.heap.size w w' := by
  refine (rlook_any w1 S (fun _ => False) p L v _ b (Rf.after h b1) (Sl.of_own ho (fun _ _ _ h => h))).mono ?_
  rintro e w' ⟨rfl, rfl⟩
  exact ⟨by rw [look_cv]; rfl, b1⟩

set_option maxRecDepth 100000 in
set_option maxHeartbeats 4000000 in
theorem rcomes_any : ∀ (f : Nat) (w : World) (S X Y : Nat → Prop) (p : Nat) (L : List Tx) (i n : Nat) (A : Option Addr) (c : Nat) (ds : List Int) (lv : Value) (b : Tx), n ≤ f → i < n → n ≤ 9223372036854775807 → ds.length = len i n → Rf w S p L → Sl w X 1 (.slice A ds.length c) ds.length (IVs ds) →
    (∀ x ∈ ds, x ≤ 9223372036854775807) → Sl w Y 1 lv b.length (BVs b) → b.length ≤ 140737488355327 →
    Calls Try.prog 46 #[.pointer (some ⟨p, 0, none⟩), lv, .int .i64 i, .int .i64 n, .slice A ds.length c] w fun e w' => e = .returned (CV (comes L b i n ds)) ∧ Below w.heap.size w w'
  | 0, w, S, X, Y, p, L, i, n, A, c, ds, lv, b, hf, hi, _, _, _, _, _, _, _ => by omega
  | f + 1, w, S, X, Y, p, L, i, n, A, c, ds, lv, b, hf, hi, hn63, hlen, hT, hds, hd63, hlv, hbl => by
    by_cases hone : n = 1
    · subst hone
      have HR := Lib.hid (comes_one L b ds (i := i) (n := 1) (Nat.le_refl _))
      have HLB := Lib.hid (rleafbytes_any w Y lv b.length b hlv hbl)
      have HT := Lib.hid hT
      clear hf hi hlen hT hds hd63 hlv hbl hn63
      go_enter Try.func46, Try.ntmps46
      go_wp2_with fail
      refine HLB.out.mono ?_
      rintro e w1 ⟨v1, rfl, ho1, hb1⟩
      have HLK := Lib.hid (rlook_made w w1 S p L v1 (leafB b) HT.out ho1 hb1)
      clear ho1 hb1
      go_wp2_with fail
      refine HLK.out.mono ?_
      rintro e w2 ⟨rfl, hb2⟩
      have HB2 := Lib.hid hb2
      clear hb2
      go_wp2_with fail
      go_ret2
      rw [HR.out]
      exact ⟨rfl, HB2.out⟩
    · obtain ⟨s1, s2, s3⟩ := split_spec (n := n) (by omega)
      have h2 : 2 ≤ n := by omega
      have hih := rcomes_any f
      have hLL := Rf.len hT
      have hsp := rsplit_any w n (by omega)
      rw [show ((n : Int)).toNat = n from by omega] at hsp
      obtain ⟨m, hm⟩ : ∃ m, ds.length = m + 1 := by
        by_cases hs : i < split n
        · exact ⟨len i (split n), by rw [hlen, len_left h2 hs]⟩
        · exact ⟨len (i - split n) (n - split n), by rw [hlen, len_right h2 hs]⟩
      have hmt : (ds.take m).length = m := by rw [List.length_take]; omega
      obtain ⟨ad, rfl, hel, hcap⟩ := ds_at hds (k := m) (by omega)
      have hdt := ds_take hds m (by omega)
      rw [hmt] at hdt
      have rcut := dcut_upto (some ad) (m + 1) c m (by omega)
      have hgd := getD_le hd63 m
      have hd63' : ∀ x ∈ ds.take m, x ≤ 9223372036854775807 := fun x hx => hd63 x (List.mem_of_mem_take hx)
      rw [hm] at hlen ⊢
      have hcm : m + 1 ≤ c := by omega
      have hmb : m ≤ 9223372036854775806 := by have := len_lt n i (by omega); omega
      clear hds hcap
      by_cases hs : i < split n
      · have hM := comes_left L b ds h2 hs
        rw [hm, Nat.add_sub_cancel] at hM
        have hll := len_left h2 hs
        generalize hk : split n = k at *
        clear hk
        have hIH := hih w S X Y p L i k (some ad) c (ds.take m) lv b (by omega) (by omega) (by omega) (by rw [hmt]; omega) hT (by rw [hmt]; exact hdt) hd63' hlv hbl
        rw [hmt] at hIH
        generalize hel2 : ds.getD m 0 = z at *
        generalize hcom : comes L b i k (ds.take m) = o at *
        have HIH := Lib.hid hIH
        have HM := Lib.hid hM
        have HT := Lib.hid hT
        have HZ := Lib.hid hgd
        have HSP := Lib.hid hsp
        have hol : ∀ d, o = some d → d ≤ 1048576 := fun d hd => by
          rw [hd] at hcom
          have := comes_le hcom
          omega
        have HOL := Lib.hid hol
        have h1 : (n : Int) ≠ 1 := by omega
        have h1' : ((n : Int) == 1) = false := by rw [beq_eq_false_iff_ne]; exact h1
        clear hf hlen hT hd63 hlv hbl hih hmt hdt hgd hd63' hM hll hIH hel2 hcom hol hLL hone hm h1 hsp
        rcases o with _ | d
        · have hM := HM.out
          simp only [Option.bind_none] at hM
          have HM2 := Lib.hid hM
          clear hM HM
          rw [cv_none] at HIH
          go_enter Try.func46, Try.ntmps46
          go_wp2_with fail
          refine HSP.out.mono ?_
          rintro e w' ⟨rfl, rfl⟩
          go_wp2_with fail
          refine HIH.out.mono ?_
          rintro e w1 ⟨rfl, hb1⟩
          have HB1 := Lib.hid hb1
          clear hb1
          go_wp2_with fail
          go_ret2
          rw [HM2.out]
          exact ⟨rfl, HB1.out⟩
        · have hM := HM.out
          simp only [Option.bind_some] at hM
          have HM2 := Lib.hid hM
          clear hM HM
          rw [cv_some] at HIH
          have hdl := HOL.out d rfl
          go_enter Try.func46, Try.ntmps46
          go_wp2_with fail
          refine HSP.out.mono ?_
          rintro e w' ⟨rfl, rfl⟩
          go_wp2_with fail
          refine HIH.out.mono ?_
          rintro e w1 ⟨rfl, hb1⟩
          have HT1 := Lib.hid (Rf.after HT.out hb1)
          have HB1 := Lib.hid hb1
          have HNB := Lib.hid (rnodebytes_any w1 (d : Int) z (by have := HZ.out; omega) (by have := HZ.out; omega))
          clear hb1
          go_wp2_with fail
          refine HNB.out.mono ?_
          rintro e w2 ⟨v2, rfl, ho2, hb2⟩
          have HLK := Lib.hid (rlook_made w1 w2 S p L v2 (nodeB (d : Int) z) HT1.out ho2 hb2)
          clear ho2 hb2
          go_wp2_with fail
          refine HLK.out.mono ?_
          rintro e w3 ⟨rfl, hb3⟩
          have HB3 := Lib.hid (below_tr HB1.out hb3)
          clear hb3
          go_wp2_with fail
          go_ret2
          rw [HM2.out]
          exact ⟨rfl, HB3.out⟩
      · have hM := comes_right L b ds h2 hs
        rw [hm, Nat.add_sub_cancel] at hM
        have hll := len_right h2 hs
        generalize hk : split n = k at *
        clear hk
        have hIH := hih w S X Y p L (i - k) (n - k) (some ad) c (ds.take m) lv b (by omega) (by omega) (by omega) (by rw [hmt]; omega) hT (by rw [hmt]; exact hdt) hd63' hlv hbl
        rw [hmt, show ((i - k : Nat) : Int) = (i : Int) - k from by omega, show ((n - k : Nat) : Int) = (n : Int) - k from by omega] at hIH
        generalize hel2 : ds.getD m 0 = z at *
        generalize hcom : comes L b (i - k) (n - k) (ds.take m) = o at *
        have HIH := Lib.hid hIH
        have HM := Lib.hid hM
        have HT := Lib.hid hT
        have HZ := Lib.hid hgd
        have HSP := Lib.hid hsp
        have hol : ∀ d, o = some d → d ≤ 1048576 := fun d hd => by
          rw [hd] at hcom
          have := comes_le hcom
          omega
        have HOL := Lib.hid hol
        have h1 : (n : Int) ≠ 1 := by omega
        have h1' : ((n : Int) == 1) = false := by rw [beq_eq_false_iff_ne]; exact h1
        clear hf hlen hT hd63 hlv hbl hih hmt hdt hgd hd63' hM hll hIH hel2 hcom hol hLL hone hm h1 hsp
        rcases o with _ | d
        · have hM := HM.out
          simp only [Option.bind_none] at hM
          have HM2 := Lib.hid hM
          clear hM HM
          rw [cv_none] at HIH
          go_enter Try.func46, Try.ntmps46
          go_wp2_with fail
          refine HSP.out.mono ?_
          rintro e w' ⟨rfl, rfl⟩
          go_wp2_with fail
          refine HIH.out.mono ?_
          rintro e w1 ⟨rfl, hb1⟩
          have HB1 := Lib.hid hb1
          clear hb1
          go_wp2_with fail
          go_ret2
          rw [HM2.out]
          exact ⟨rfl, HB1.out⟩
        · have hM := HM.out
          simp only [Option.bind_some] at hM
          have HM2 := Lib.hid hM
          clear hM HM
          rw [cv_some] at HIH
          have hdl := HOL.out d rfl
          go_enter Try.func46, Try.ntmps46
          go_wp2_with fail
          refine HSP.out.mono ?_
          rintro e w' ⟨rfl, rfl⟩
          go_wp2_with fail
          refine HIH.out.mono ?_
          rintro e w1 ⟨rfl, hb1⟩
          have HT1 := Lib.hid (Rf.after HT.out hb1)
          have HB1 := Lib.hid hb1
          have HNB := Lib.hid (rnodebytes_any w1 z (d : Int) (by have := HZ.out; omega) (by have := HZ.out; omega))
          clear hb1
          go_wp2_with fail
          refine HNB.out.mono ?_
          rintro e w2 ⟨v2, rfl, ho2, hb2⟩
          have HLK := Lib.hid (rlook_made w1 w2 S p L v2 (nodeB z (d : Int)) HT1.out ho2 hb2)
          clear ho2 hb2
          go_wp2_with fail
          refine HLK.out.mono ?_
          rintro e w3 ⟨rfl, hb3⟩
          have HB3 := Lib.hid (below_tr HB1.out hb3)
          clear hb3
          go_wp2_with fail
          go_ret2
          rw [HM2.out]
          exact ⟨rfl, HB3.out⟩

/-- What Verify answers, in the terms that both sides compute. -/
theorem verify_eq (L : List Tx) (r : Int) (b : Tx) {i n : Nat} (h : i < n) (ds : List Int) (hl : ds.length = len i n) : verify L r b i n ds = decide (∃ d, comes L b i n ds = some d ∧ (d : Int) = r) := by
  unfold verify
  congr 1
  simp only [Int.toNat_natCast, eq_iff_iff]
  constructor
  · rintro ⟨_, _, _, h⟩; exact h
  · intro h2; exact ⟨by omega, by omega, hl, h2⟩
theorem verify_no (L : List Tx) (r : Int) (b : Tx) {i n : Int} (ds : List Int) (h : ¬ (0 ≤ i ∧ i < n ∧ ds.length = len i.toNat n.toNat)) : verify L r b i n ds = false := by
  unfold verify
  rw [decide_eq_false_iff_not]
  rintro ⟨h1, h2, h3, _⟩
  exact h ⟨h1, h2, h3⟩
theorem verify_none {L : List Tx} {r : Int} {b : Tx} {i n : Nat} {ds : List Int} (h : i < n) (hl : ds.length = len i n) (hc : comes L b i n ds = none) : verify L r b i n ds = false := by
  rw [verify_eq L r b h ds hl, hc, decide_eq_false_iff_not]
  rintro ⟨d, h, _⟩
  cases h
theorem verify_some {L : List Tx} {r : Int} {b : Tx} {i n d : Nat} {ds : List Int} (h : i < n) (hl : ds.length = len i n) (hc : comes L b i n ds = some d) : verify L r b i n ds = ((d : Int) == r) := by
  rw [verify_eq L r b h ds hl, hc]
  by_cases hd : (d : Int) = r
  · rw [decide_eq_true ⟨d, rfl, hd⟩, hd, beq_self_eq_true]
  · rw [beq_false_of_ne hd, decide_eq_false_iff_not]
    rintro ⟨d', h1, h2⟩
    injection h1 with h1
    subst h1
    exact hd h2

end Go.Proofs.Ytepdajhgfdjklaa.Mi
