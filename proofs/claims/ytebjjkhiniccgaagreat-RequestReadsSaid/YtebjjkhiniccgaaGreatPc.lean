/-
  Layer 6 (op): the document's own runes of three and four bytes.
-/
import Derived.Test.YtebjjkhiniccgaaGreatPb
namespace Go.Proofs.YtebjjkhiniccgaaGreat.Pc
set_option linter.unusedSimpArgs false
open Go Go.RowKit Ck Kw Pm Pa Pb
set_option linter.unusedVariables false

set_option maxRecDepth 100000 in
set_option maxHeartbeats 4000000 in
theorem rune_three (l : Tx) (h : sz (byte l 0) = 3) (hl : 3 ≤ l.length) (w : World) :
    Calls Tryz.prog 130 #[SV l] w (Rune l w) := by
  have h0 := byte_lt l 0
  have HS := Lib.hid (size_call h0 h w)
  have HR := Lib.hid (r1_three h hl)
  unfold SV
  have hz0 : 0 < (ByteArray.mk l.toArray).size := by rw [sv_size]; omega
  have hx0 := byte_ix hz0
  have hsz := sv_size l
  have hm := and15 (byte l 0) h0
  have HSZ := Lib.hid hsz
  have hq2 : ¬ ((l.length : Int) < 3) := by omega
  have hq3 : ¬ (3 > (l.length : Int)) := by omega
  clear h
  go_enter Tryz.func130, Tryz.ntmps130
  go_wp2_with (go_at_call 131; refine HS.out.mono ?_; rintro e w1 ⟨rfl, rfl⟩)
  go_quiet (fail)
  go_wp2
  go_loop [5, 6] (fun v i => ∃ k : Nat, 1 ≤ k ∧ k ≤ 3 ∧ i = .int .i64 k ∧ v = .int .i64 ((gath l 16 (k - 1) : Nat) : Int) ∧ (∀ p, 1 ≤ p → p < k → cont l p)) (fun _ i => 3 - (intOf i).toNat)
  case atStart => exact ⟨1, by omega, by omega, rfl, rfl, fun p h1 h2 => by omega⟩
  case round =>
    obtain ⟨k, hk1, hkn, rfl, rfl, hc⟩ := hrel
    have HC := Lib.hid hc
    have hg := gath_le l (m := 16) (by omega) (by omega) (k - 1) (by omega)
    have HG := Lib.hid hg
    clear hc
    by_cases hk : k < 3
    · have hxk := byte_ix (l := l) (k := k) (by rw [HSZ.out]; omega)
      have hzk : k < (ByteArray.mk l.toArray).size := by rw [HSZ.out]; omega
      have hbk := byte_lt l k
      have HB := Lib.hid (show gath l 16 k = gath l 16 (k - 1) * 64 + byte l k % 64 from by obtain ⟨j, rfl⟩ : ∃ j, k = j + 1 := ⟨k - 1, by omega⟩; rfl)
      generalize hG : gath l 16 (k - 1) = G at *
      by_cases h1 : byte l k < 128
      · have HN := Lib.hid (HR.out.1 (by
          intro hh
          have : k = 1  ∨ k = 2:= by omega
          rcases this with rfl | rfl
          all_goals first | exact absurd hh.1 (by unfold cont; omega) | exact absurd hh.2 (by unfold cont; omega)))
        clear hm hx0
        go_wp2
        go_ret2
        exact rune_of HN.out (below_drewN (Below.refl _ _) _)
      · by_cases h2 : 192 ≤ byte l k
        · have HN := Lib.hid (HR.out.1 (by
            intro hh
            have : k = 1  ∨ k = 2 := by omega
            rcases this with rfl | rfl
            all_goals first | exact absurd hh.1 (by unfold cont; omega) | exact absurd hh.2 (by unfold cont; omega)))
          clear hm hx0
          go_wp2
          go_ret2
          exact rune_of HN.out (below_drewN (Below.refl _ _) _)
        · have h2' : byte l k < 192 := by omega
          have h2'' : decide (192 ≤ (byte l k : Int)) = false := decide_eq_false (by omega)
          have HCK := Lib.hid (show cont l k from ⟨h1, h2⟩)
          clear h2
          clear hm hx0
          go_wp2
          go_round
          case rel =>
            refine ⟨k + 1, by omega, by omega, by go_num, ?_, fun p hp1 hp2 => ?_⟩
            · rw [Nat.add_sub_cancel, HB.out]; go_num
            · rcases Nat.lt_or_ge p k with hp | hp
              · exact HC.out p hp1 hp
              · obtain rfl : p = k := by omega
                exact HCK.out
          case measure => simp [intOf]; omega
    · obtain rfl : k = 3 := by omega
      have hld := lits_at w nq 3 2048 rfl
      have HX := Lib.hid (HR.out.2 ⟨HC.out 1 (by omega) (by omega), HC.out 2 (by omega) (by omega)⟩)
      simp only [Nat.reduceSub] at hg
      generalize hG : gath l 16 2 = G at *
      clear hm hx0
      by_cases q1 : G < 2048
      · have HN := Lib.hid (HX.out.2 (fun h => h.1 q1))
        have q1' : decide ((G : Int) < 2048) = true := decide_eq_true (by omega)
        clear q1
        go_wp2
        go_ret2
        exact rune_of HN.out (((below_drewN (Below.refl _ _) _).alloc (Nat.le_refl _) _))
      · have q1' : decide ((G : Int) < 2048) = false := decide_eq_false (by omega)
        by_cases q2 : 1114111 < G
        · have HN := Lib.hid (HX.out.2 (fun h => h.2.1 q2))
          have q2' : decide (1114111 < (G : Int)) = true := decide_eq_true (by omega)
          clear q1 q2
          go_wp2
          go_ret2
          exact rune_of HN.out (((below_drewN (Below.refl _ _) _).alloc (Nat.le_refl _) _))
        · have q2' : decide (1114111 < (G : Int)) = false := decide_eq_false (by omega)
          by_cases q3 : 55296 ≤ G ∧ G < 57344
          · have HN := Lib.hid (HX.out.2 (fun h => h.2.2 q3))
            have q5 : decide (55296 ≤ (G : Int)) = true := decide_eq_true (by omega)
            have q6 : decide ((G : Int) < 57344) = true := decide_eq_true (by omega)
            clear q1 q2 q3
            go_wp2
            go_ret2
            exact rune_of HN.out (((below_drewN (Below.refl _ _) _).alloc (Nat.le_refl _) _))
          · have HN := Lib.hid (HX.out.1 ⟨q1, q2, q3⟩)
            clear q1 q2
            by_cases q4 : 55296 ≤ G
            · have q5 : decide ((G : Int) < 57344) = false := decide_eq_false (by omega)
              have q6 : decide (55296 ≤ (G : Int)) = true := decide_eq_true (by omega)
              clear q3 q4
              go_wp2
              go_ret2
              exact rune_of HN.out (((below_drewN (Below.refl _ _) _).alloc (Nat.le_refl _) _))
            · have q5 : decide (55296 ≤ (G : Int)) = false := decide_eq_false (by omega)
              clear q3 q4
              go_wp2
              go_ret2
              exact rune_of HN.out (((below_drewN (Below.refl _ _) _).alloc (Nat.le_refl _) _))

set_option maxRecDepth 100000 in
set_option maxHeartbeats 4000000 in
theorem rune_four (l : Tx) (h : sz (byte l 0) = 4) (hl : 4 ≤ l.length) (w : World) :
    Calls Tryz.prog 130 #[SV l] w (Rune l w) := by
  have h0 := byte_lt l 0
  have HS := Lib.hid (size_call h0 h w)
  have HR := Lib.hid (r1_four h hl)
  unfold SV
  have hz0 : 0 < (ByteArray.mk l.toArray).size := by rw [sv_size]; omega
  have hx0 := byte_ix hz0
  have hsz := sv_size l
  have hm := and7 (byte l 0) h0
  have HSZ := Lib.hid hsz
  have hq2 : ¬ ((l.length : Int) < 4) := by omega
  have hq3 : ¬ (4 > (l.length : Int)) := by omega
  clear h
  go_enter Tryz.func130, Tryz.ntmps130
  go_wp2_with (go_at_call 131; refine HS.out.mono ?_; rintro e w1 ⟨rfl, rfl⟩)
  go_quiet (fail)
  go_wp2
  go_loop [5, 6] (fun v i => ∃ k : Nat, 1 ≤ k ∧ k ≤ 4 ∧ i = .int .i64 k ∧ v = .int .i64 ((gath l 8 (k - 1) : Nat) : Int) ∧ (∀ p, 1 ≤ p → p < k → cont l p)) (fun _ i => 4 - (intOf i).toNat)
  case atStart => exact ⟨1, by omega, by omega, rfl, rfl, fun p h1 h2 => by omega⟩
  case round =>
    obtain ⟨k, hk1, hkn, rfl, rfl, hc⟩ := hrel
    have HC := Lib.hid hc
    have hg := gath_le l (m := 8) (by omega) (by omega) (k - 1) (by omega)
    have HG := Lib.hid hg
    clear hc
    by_cases hk : k < 4
    · have hxk := byte_ix (l := l) (k := k) (by rw [HSZ.out]; omega)
      have hzk : k < (ByteArray.mk l.toArray).size := by rw [HSZ.out]; omega
      have hbk := byte_lt l k
      have HB := Lib.hid (show gath l 8 k = gath l 8 (k - 1) * 64 + byte l k % 64 from by obtain ⟨j, rfl⟩ : ∃ j, k = j + 1 := ⟨k - 1, by omega⟩; rfl)
      generalize hG : gath l 8 (k - 1) = G at *
      by_cases h1 : byte l k < 128
      · have HN := Lib.hid (HR.out.1 (by
          intro hh
          have : k = 1  ∨ k = 2 ∨ k = 3:= by omega
          rcases this with rfl | rfl | rfl
          all_goals first | exact absurd hh.1 (by unfold cont; omega) | exact absurd hh.2.1 (by unfold cont; omega) | exact absurd hh.2.2 (by unfold cont; omega)))
        clear hm hx0
        go_wp2
        go_ret2
        exact rune_of HN.out (below_drewN (Below.refl _ _) _)
      · by_cases h2 : 192 ≤ byte l k
        · have HN := Lib.hid (HR.out.1 (by
            intro hh
            have : k = 1  ∨ k = 2 ∨ k = 3 := by omega
            rcases this with rfl | rfl | rfl
            all_goals first | exact absurd hh.1 (by unfold cont; omega) | exact absurd hh.2.1 (by unfold cont; omega) | exact absurd hh.2.2 (by unfold cont; omega)))
          clear hm hx0
          go_wp2
          go_ret2
          exact rune_of HN.out (below_drewN (Below.refl _ _) _)
        · have h2' : byte l k < 192 := by omega
          have h2'' : decide (192 ≤ (byte l k : Int)) = false := decide_eq_false (by omega)
          have HCK := Lib.hid (show cont l k from ⟨h1, h2⟩)
          clear h2
          clear hm hx0
          go_wp2
          go_round
          case rel =>
            refine ⟨k + 1, by omega, by omega, by go_num, ?_, fun p hp1 hp2 => ?_⟩
            · rw [Nat.add_sub_cancel, HB.out]; go_num
            · rcases Nat.lt_or_ge p k with hp | hp
              · exact HC.out p hp1 hp
              · obtain rfl : p = k := by omega
                exact HCK.out
          case measure => simp [intOf]; omega
    · obtain rfl : k = 4 := by omega
      have hld := lits_at w nq 4 65536 rfl
      have HX := Lib.hid (HR.out.2 ⟨HC.out 1 (by omega) (by omega), HC.out 2 (by omega) (by omega), HC.out 3 (by omega) (by omega)⟩)
      simp only [Nat.reduceSub] at hg
      generalize hG : gath l 8 3 = G at *
      clear hm hx0
      by_cases q1 : G < 65536
      · have HN := Lib.hid (HX.out.2 (fun h => h.1 q1))
        have q1' : decide ((G : Int) < 65536) = true := decide_eq_true (by omega)
        clear q1
        go_wp2
        go_ret2
        exact rune_of HN.out (((below_drewN (Below.refl _ _) _).alloc (Nat.le_refl _) _))
      · have q1' : decide ((G : Int) < 65536) = false := decide_eq_false (by omega)
        by_cases q2 : 1114111 < G
        · have HN := Lib.hid (HX.out.2 (fun h => h.2.1 q2))
          have q2' : decide (1114111 < (G : Int)) = true := decide_eq_true (by omega)
          clear q1 q2
          go_wp2
          go_ret2
          exact rune_of HN.out (((below_drewN (Below.refl _ _) _).alloc (Nat.le_refl _) _))
        · have q2' : decide (1114111 < (G : Int)) = false := decide_eq_false (by omega)
          by_cases q3 : 55296 ≤ G ∧ G < 57344
          · have HN := Lib.hid (HX.out.2 (fun h => h.2.2 q3))
            have q5 : decide (55296 ≤ (G : Int)) = true := decide_eq_true (by omega)
            have q6 : decide ((G : Int) < 57344) = true := decide_eq_true (by omega)
            clear q1 q2 q3
            go_wp2
            go_ret2
            exact rune_of HN.out (((below_drewN (Below.refl _ _) _).alloc (Nat.le_refl _) _))
          · have HN := Lib.hid (HX.out.1 ⟨q1, q2, q3⟩)
            clear q1 q2
            by_cases q4 : 55296 ≤ G
            · have q5 : decide ((G : Int) < 57344) = false := decide_eq_false (by omega)
              have q6 : decide (55296 ≤ (G : Int)) = true := decide_eq_true (by omega)
              clear q3 q4
              go_wp2
              go_ret2
              exact rune_of HN.out (((below_drewN (Below.refl _ _) _).alloc (Nat.le_refl _) _))
            · have q5 : decide (55296 ≤ (G : Int)) = false := decide_eq_false (by omega)
              clear q3 q4
              go_wp2
              go_ret2
              exact rune_of HN.out (((below_drewN (Below.refl _ _) _).alloc (Nat.le_refl _) _))

end Go.Proofs.YtebjjkhiniccgaaGreat.Pc
