/-
  Layer 6 (op): the document's own Runes and Name.
-/
import Derived.Test.YtebjjkhiniccgaaGreatPc
namespace Go.Proofs.YtebjjkhiniccgaaGreat.Pd
set_option linter.unusedSimpArgs false
open Go Go.RowKit Ck Kw Pm Pa Pb Pc
set_option linter.unusedVariables false

theorem rune_any (l : Tx) (hl : 1 ≤ l.length) (w : World) : Calls Tryz.prog 130 #[SV l] w (Rune l w) := by
  by_cases h : sz (byte l 0) = 0 ∨ l.length < sz (byte l 0)
  · exact rune_no l hl h w
  · have hc := sz_cases (byte l 0)
    by_cases h1 : sz (byte l 0) = 1
    · exact rune_one l hl h1 w
    · by_cases h2 : sz (byte l 0) = 2
      · exact rune_two l h2 (by omega) w
      · by_cases h3 : sz (byte l 0) = 3
        · exact rune_three l h3 (by omega) w
        · exact rune_four l (by omega) (by omega) w

theorem extract_tail (l : Tx) (n : Nat) : (ByteArray.mk l.toArray).extract n l.length = ⟨(l.drop n).toArray⟩ := by
  apply ByteArray.ext
  rw [ByteArray.data_extract]
  apply Array.ext'
  rw [Array.toList_extract]
  simp [sv_size]
  rw [← List.length_drop, List.take_length]
theorem r1_cases (l : Tx) : (r1 l = (0, 0) ∧ Bar (dec l).1) ∨ (r1 l = dec l ∧ 1 ≤ (dec l).2 ∧ (dec l).1 ≤ 1114111) := by
  unfold r1
  split
  · rename_i h
    exact .inl ⟨rfl, by rw [h]; exact .inr (.inr (.inr rfl))⟩
  · exact .inr ⟨rfl, dec_width l, dec_lt l⟩

set_option maxRecDepth 100000 in
set_option maxHeartbeats 4000000 in
theorem rrunes_any (l : Tx) (w : World) :
    Calls Tryz.prog 118 #[SV l] w fun e w' => e = .returned (.int .i64 (runes l : Nat)) ∧ Below w.heap.size w w' := by
  unfold SV
  go_enter Tryz.func118, Tryz.ntmps118
  go_wp2
  go_loopw [0, 3] (fun s n wr => ∃ (k : Tx) (j : Nat), s = .string ⟨k.toArray⟩ ∧ n = .int .i64 ((16 - j : Nat) : Int) ∧ j ≤ 16 ∧ rn j k = runes l ∧ Below w.heap.size w wr) (fun s _ _ => match s with | .string b => b.size | _ => 0)
  case atStart => exact ⟨l, 16, rfl, rfl, Nat.le_refl _, rfl, Below.refl _ _⟩
  case round =>
    obtain ⟨k, j, rfl, rfl, hj, hr, hb⟩ := hrel
    have hsz := sv_size k
    by_cases hk : k = []
    · subst hk
      rw [rn_nil _ hj] at hr
      have HR := Lib.hid hr
      clear hr
      have hz : ¬ 0 < (ByteArray.mk ([] : Tx).toArray).size := by rw [hsz]; simp
      go_wp2
      go_ret
      exact ⟨by rw [← HR.out]; rfl, hb⟩
    · have hl1 : 1 ≤ k.length := by
        rcases Nat.eq_zero_or_pos k.length with h | h
        · exact absurd (List.eq_nil_of_length_eq_zero h) hk
        · exact h
      have HC := Lib.hid (rune_any k hl1 wr)
      have HR := Lib.hid hr
      have HK := Lib.hid hk
      clear hr hk
      rcases r1_cases k with ⟨h1, hbar⟩ | ⟨h1, hw1, hv⟩
      · have HBAR := Lib.hid hbar
        have H1 := Lib.hid h1
        clear hbar h1
        go_wp2_with (go_at_call 130; refine HC.out.mono ?_; rintro e w1 ⟨he, hb1⟩; rw [H1.out] at he; subst he)
        go_ret
        exact ⟨by rw [← HR.out, rn_bar HK.out HBAR.out]; rfl, hb.trans (hb1.mono hb.size)⟩
      · have H1 := Lib.hid h1
        clear h1
        have HE := Lib.hid (extract_tail k (dec k).2)
        have hwl := dec_width_le k hl1
        generalize hd : dec k = d at *
        obtain ⟨v, n⟩ := d
        simp only at hw1 hv HE hwl
        have HD := Lib.hid hd
        clear hd
        have hn0 : ((n : Int) == 0) = false := by rw [beq_eq_false_iff_ne]; omega
        have hnk : n ≤ (ByteArray.mk k.toArray).size := by rw [hsz]; exact hwl
        by_cases hbar : Bar v
        · have HB := Lib.hid hbar
          unfold Bar at hbar
          by_cases q1 : v < 33
          · clear hbar
            go_wp2_with (go_at_call 130; refine HC.out.mono ?_; rintro e w1 ⟨he, hb1⟩; rw [H1.out] at he; subst he)
            go_ret
            exact ⟨by rw [← HR.out, rn_bar HK.out (by rw [HD.out]; exact HB.out)]; rfl, hb.trans (hb1.mono hb.size)⟩
          · have d1 : decide ((v : Int) < 33) = false := decide_eq_false (by omega)
            by_cases q2 : 127 ≤ v ∧ v ≤ 159
            · have d2 : decide (127 ≤ (v : Int)) = true := decide_eq_true (by omega)
              have d3 : decide ((v : Int) < 160) = true := decide_eq_true (by omega)
              clear hbar q1 q2
              go_wp2_with (go_at_call 130; refine HC.out.mono ?_; rintro e w1 ⟨he, hb1⟩; rw [H1.out] at he; subst he)
              go_ret
              exact ⟨by rw [← HR.out, rn_bar HK.out (by rw [HD.out]; exact HB.out)]; rfl, hb.trans (hb1.mono hb.size)⟩
            · by_cases q3 : v = 47
              · subst q3
                clear hbar q1 q2 d1
                go_wp2_with (go_at_call 130; refine HC.out.mono ?_; rintro e w1 ⟨he, hb1⟩; rw [H1.out] at he; subst he)
                go_ret
                exact ⟨by rw [← HR.out, rn_bar HK.out (by rw [HD.out]; exact HB.out)]; rfl, hb.trans (hb1.mono hb.size)⟩
              · obtain rfl : v = 65533 := by omega
                clear hbar q1 q2 q3 d1
                go_wp2_with (go_at_call 130; refine HC.out.mono ?_; rintro e w1 ⟨he, hb1⟩; rw [H1.out] at he; subst he)
                go_ret
                exact ⟨by rw [← HR.out, rn_bar HK.out (by rw [HD.out]; exact HB.out)]; rfl, hb.trans (hb1.mono hb.size)⟩
        · have HB := Lib.hid hbar
          unfold Bar at hbar
          have d1 : decide ((v : Int) < 33) = false := decide_eq_false (by omega)
          have e47 : ((v : Int) == 47) = false := by rw [beq_eq_false_iff_ne]; omega
          have e65 : ((v : Int) == 65533) = false := by rw [beq_eq_false_iff_ne]; omega
          by_cases hj0 : j = 0
          · subst hj0
            have HZ := Lib.hid (rn_zero HK.out)
            by_cases q2 : 127 ≤ v
            · have d2 : decide (127 ≤ (v : Int)) = true := decide_eq_true (by omega)
              have d3 : decide ((v : Int) < 160) = false := decide_eq_false (by omega)
              clear hbar q2
              go_wp2_with (go_at_call 130; refine HC.out.mono ?_; rintro e w1 ⟨he, hb1⟩; rw [H1.out] at he; subst he)
              go_ret
              exact ⟨by rw [← HR.out, HZ.out]; rfl, hb.trans (hb1.mono hb.size)⟩
            · have d2 : decide (127 ≤ (v : Int)) = false := decide_eq_false (by omega)
              clear hbar q2
              go_wp2_with (go_at_call 130; refine HC.out.mono ?_; rintro e w1 ⟨he, hb1⟩; rw [H1.out] at he; subst he)
              go_ret
              exact ⟨by rw [← HR.out, HZ.out]; rfl, hb.trans (hb1.mono hb.size)⟩
          · obtain ⟨m, rfl⟩ : ∃ m, j = m + 1 := ⟨j - 1, by omega⟩
            have d16 : decide (16 ≤ ((16 - (m + 1) : Nat) : Int)) = false := decide_eq_false (by omega)
            have HS := Lib.hid (rn_step (j := m) HK.out (by rw [HD.out]; exact HB.out))
            by_cases q2 : 127 ≤ v
            · have d2 : decide (127 ≤ (v : Int)) = true := decide_eq_true (by omega)
              have d3 : decide ((v : Int) < 160) = false := decide_eq_false (by omega)
              clear hbar q2
              go_wp2_with (go_at_call 130; refine HC.out.mono ?_; rintro e w1 ⟨he, hb1⟩; rw [H1.out] at he; subst he)
              go_roundw
              case rel =>
                refine ⟨k.drop n, m, by rw [HE.out], by go_num, by omega, ?_, hb.trans (hb1.mono hb.size)⟩
                rw [← HR.out, HS.out, HD.out]
              case measure =>
                simp [sv_size]
                omega
            · have d2 : decide (127 ≤ (v : Int)) = false := decide_eq_false (by omega)
              clear hbar q2
              go_wp2_with (go_at_call 130; refine HC.out.mono ?_; rintro e w1 ⟨he, hb1⟩; rw [H1.out] at he; subst he)
              go_roundw
              case rel =>
                refine ⟨k.drop n, m, by rw [HE.out], by go_num, by omega, ?_, hb.trans (hb1.mono hb.size)⟩
                rw [← HR.out, HS.out, HD.out]
              case measure =>
                simp [sv_size]
                omega

theorem rname_any (l : Tx) (w : World) :
    Calls Tryz.prog 96 #[SV l] w fun e w' => e = .returned (.bool (name l)) ∧ Below w.heap.size w w' := by
  have HC := Lib.hid (rrunes_any l w)
  unfold name
  generalize runes l = r at *
  go_enter Tryz.func96, Tryz.ntmps96
  go_wp2_with (go_at_call 118; refine HC.out.mono ?_; rintro e w1 ⟨rfl, hb⟩)
  go_ret
  exact ⟨by simp, hb⟩

end Go.Proofs.YtebjjkhiniccgaaGreat.Pd
