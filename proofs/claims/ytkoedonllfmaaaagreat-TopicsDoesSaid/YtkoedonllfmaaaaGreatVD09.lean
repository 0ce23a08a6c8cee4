/-
  Layer 6 (op): the document's own runes of three and four bytes.
-/
import Derived.Test.YtkoedonllfmaaaaGreatVD08
namespace Go.Proofs.YtkoedonllfmaaaaGreat.Pc
set_option linter.unusedSimpArgs false
open Go Go.RowKit Ck Kw Pm Pa Pb
set_option linter.unusedVariables false

set_option maxRecDepth 100000 in
set_option maxHeartbeats 4000000 in
theorem rune_three (l : Tx) (h : sz (byte l 0) = 3) (hl : 3 ≤ l.length) (w : World) :
    Calls Tryz.prog 124 #[SV l] w (Rune l w) := by
  have h0 := byte_lt l 0
  have HS := Lib.hid (size_call h0 h w)
  have HR := Lib.hid (r1_three h hl)
  unfold SV
  have hz0 : 0 < (ByteArray.mk l.toArray).size := by rw [sv_size]; omega
  have hx0 := byte_ix hz0
  have hsz := sv_size l
  have hm := and15 (byte l 0) h0
  have HSZ := Lib.hid hsz
  have hq2 : ¬ ((l.length : Int) < 3) := by omega
  have hq3 : ¬ (3 > (l.length : Int)) := by omega
  clear h
  go_enter Tryz.func124, Tryz.ntmps124
  go_wp2_with (go_at_call 139; refine HS.out.mono ?_; rintro e w1 ⟨rfl, rfl⟩)
  go_quiet (fail)
  go_wp2
  go_loop [5, 6] (fun v i => ∃ k : Nat, 1 ≤ k ∧ k ≤ 3 ∧ i = .int .i64 k ∧ v = .int .i64 ((gath l 16 (k - 1) : Nat) : Int) ∧ (∀ p, 1 ≤ p → p < k → cont l p)) (fun _ i => 3 - (intOf i).toNat)
  case atStart => exact ⟨1, by omega, by omega, rfl, rfl, fun p h1 h2 => by omega⟩
  case round =>
    obtain ⟨k, hk1, hkn, rfl, rfl, hc⟩ := hrel
    have HC := Lib.hid hc
    have hg := gath_le l (m := 16) (by omega) (by omega) (k - 1) (by omega)
    have HG := Lib.hid hg
    clear hc
    by_cases hk : k < 3
    · have hxk := byte_ix (l := l) (k := k) (by rw [HSZ.out]; omega)
      have hzk : k < (ByteArray.mk l.toArray).size := by rw [HSZ.out]; omega
      have hbk := byte_lt l k
      have HB := Lib.hid (show gath l 16 k = gath l 16 (k - 1) * 64 + byte l k % 64 from by obtain ⟨j, rfl⟩ : ∃ j, k = j + 1 := ⟨k - 1, by omega⟩; rfl)
      generalize hG : gath l 16 (k - 1) = G at *
      by_cases h1 : byte l k < 128
      · have HN := Lib.hid (HR.out.1 (by
          intro hh
          have : k = 1  ∨ k = 2:= by omega
          rcases this with rfl | rfl
          all_goals first | exact absurd hh.1 (by unfold cont; omega) | exact absurd hh.2 (by unfold cont; omega)))
        clear hm hx0
        go_wp2
        go_ret2
        exact rune_of HN.out (below_drewN (Below.refl _ _) _)
      · by_cases h2 : 192 ≤ byte l k
        · have HN := Lib.hid (HR.out.1 (by
            intro hh
            have : k = 1  ∨ k = 2 := by omega
            rcases this with rfl | rfl
            all_goals first | exact absurd hh.1 (by unfold cont; omega) | exact absurd hh.2 (by unfold cont; omega)))
          clear hm hx0
          go_wp2
          go_ret2
          exact rune_of HN.out (below_drewN (Below.refl _ _) _)
        · have h2' : byte l k < 192 := by omega
          have h2'' : decide (192 ≤ (byte l k : Int)) = false := decide_eq_false (by omega)
          have HCK := Lib.hid (show cont l k from ⟨h1, h2⟩)
          clear h2
          clear hm hx0
          go_wp2
          go_round
          case rel =>
            refine ⟨k + 1, by omega, by omega, by go_num, ?_, fun p hp1 hp2 => ?_⟩
            · rw [Nat.add_sub_cancel, HB.out]; go_num
            · rcases Nat.lt_or_ge p k with hp | hp
              · exact HC.out p hp1 hp
              · obtain rfl : p = k := by omega
                exact HCK.out
          case measure => simp [intOf]; omega
    · obtain rfl : k = 3 := by omega
      have hld := lits_at w nq 3 2048 rfl
      have HX := Lib.hid (HR.out.2 ⟨HC.out 1 (by omega) (by omega), HC.out 2 (by omega) (by omega)⟩)
      simp only [Nat.reduceSub] at hg
      generalize hG : gath l 16 2 = G at *
      clear hm hx0
      by_cases q1 : G < 2048
      · have HN := Lib.hid (HX.out.2 (fun h => h.1 q1))
        have q1' : decide ((G : Int) < 2048) = true := decide_eq_true (by omega)
        clear q1
        go_wp2
        go_ret2
        exact rune_of HN.out (((below_drewN (Below.refl _ _) _).alloc (Nat.le_refl _) _))
      · have q1' : decide ((G : Int) < 2048) = false := decide_eq_false (by omega)
        by_cases q2 : 1114111 < G
        · have HN := Lib.hid (HX.out.2 (fun h => h.2.1 q2))
          have q2' : decide (1114111 < (G : Int)) = true := decide_eq_true (by omega)
          clear q1 q2
          go_wp2
          go_ret2
          exact rune_of HN.out (((below_drewN (Below.refl _ _) _).alloc (Nat.le_refl _) _))
        · have q2' : decide (1114111 < (G : Int)) = false := decide_eq_false (by omega)
          by_cases q3 : 55296 ≤ G ∧ G < 57344
          · have HN := Lib.hid (HX.out.2 (fun h => h.2.2 q3))
            have q5 : decide (55296 ≤ (G : Int)) = true := decide_eq_true (by omega)
            have q6 : decide ((G : Int) < 57344) = true := decide_eq_true (by omega)
            clear q1 q2 q3
            go_wp2
            go_ret2
            exact rune_of HN.out (((below_drewN (Below.refl _ _) _).alloc (Nat.le_refl _) _))
          · have HN := Lib.hid (HX.out.1 ⟨q1, q2, q3⟩)
            clear q1 q2
            by_cases q4 : 55296 ≤ G
            · have q5 : decide ((G : Int) < 57344) = false := decide_eq_false (by omega)
              have q6 : decide (55296 ≤ (G : Int)) = true := decide_eq_true (by omega)
              clear q3 q4
              go_wp2
              go_ret2
              exact rune_of HN.out (((below_drewN (Below.refl _ _) _).alloc (Nat.le_refl _) _))
            · have q5 : decide (55296 ≤ (G : Int)) = false := decide_eq_false (by omega)
              clear q3 q4
              go_wp2
              go_ret2
              exact rune_of HN.out (((below_drewN (Below.refl _ _) _).alloc (Nat.le_refl _) _))

set_option maxRecDepth 100000 in
set_option maxHeartbeats 4000000 in
theorem rune_four (l : Tx) (h : sz (byte l 0) = 4) (hl : 4 ≤ l.length) (w : World) :
    Calls Tryz.prog 124 #[SV l] w (Rune l w) := by
  have h0 := byte_lt l 0
  have HS := Lib.hid (size_call h0 h w)
  have HR := Lib.hid (r1_four h hl)
  unfold SV
  have hz0 : 0 < (ByteArray.mk l.toArray).size := by rw [sv_size]; omega
  have hx0 := byte_ix hz0
  have hsz := sv_size l
  have hm := and7 (byte l 0) h0
  have HSZ := Lib.hid hsz
  have hq2 : ¬ ((l.length : Int) < 4) := by omega
  have hq3 : ¬ (4 > (l.length : Int)) := by omega
  clear h
  go_enter Tryz.func124, Tryz.ntmps124
  go_wp2_with (go_at_call 139; refine HS.out.mono ?_; rintro e w1 ⟨rfl, rfl⟩)
  go_quiet (fail)
  go_wp2
  go_loop [5, 6] (fun v i => ∃ k : Nat, 1 ≤ k ∧ k ≤ 4 ∧ i = .int .i64 k ∧ v = .int .i64 ((gath l 8 (k - 1) : Nat) : Int) ∧ (∀ p, 1 ≤ p → p < k → cont l p)) (fun _ i => 4 - (intOf i).toNat)
  case atStart => exact ⟨1, by omega, by omega, rfl, rfl, fun p h1 h2 => by omega⟩
  case round =>
    obtain ⟨k, hk1, hkn, rfl, rfl, hc⟩ := hrel
    have HC := Lib.hid hc
    have hg := gath_le l (m := 8) (by omega) (by omega) (k - 1) (by omega)
    have HG := Lib.hid hg
    clear hc
    by_cases hk : k < 4
    · have hxk := byte_ix (l := l) (k := k) (by rw [HSZ.out]; omega)
      have hzk : k < (ByteArray.mk l.toArray).size := by rw [HSZ.out]; omega
      have hbk := byte_lt l k
      have HB := Lib.hid (show gath l 8 k = gath l 8 (k - 1) * 64 + byte l k % 64 from by obtain ⟨j, rfl⟩ : ∃ j, k = j + 1 := ⟨k - 1, by omega⟩; rfl)
      generalize hG : gath l 8 (k - 1) = G at *
      by_cases h1 : byte l k < 128
      · have HN := Lib.hid (HR.out.1 (by
          intro hh
          have : k = 1  ∨ k = 2 ∨ k = 3:= by omega
          rcases this with rfl | rfl | rfl
          all_goals first | exact absurd hh.1 (by unfold cont; omega) | exact absurd hh.2.1 (by unfold cont; omega) | exact absurd hh.2.2 (by unfold cont; omega)))
        clear hm hx0
        go_wp2
        go_ret2
        exact rune_of HN.out (below_drewN (Below.refl _ _) _)
      · by_cases h2 : 192 ≤ byte l k
        · have HN := Lib.hid (HR.out.1 (by
            intro hh
            have : k = 1  ∨ k = 2 ∨ k = 3 := by omega
            rcases this with rfl | rfl | rfl
            all_goals first | exact absurd hh.1 (by unfold cont; omega) | exact absurd hh.2.1 (by unfold cont; omega) | exact absurd hh.2.2 (by unfold cont; omega)))
          clear hm hx0
          go_wp2
          go_ret2
          exact rune_of HN.out (below_drewN (Below.refl _ _) _)
        · have h2' : byte l k < 192 := by omega
          have h2'' : decide (192 ≤ (byte l k : Int)) = false := decide_eq_false (by omega)
          have HCK := Lib.hid (show cont l k from ⟨h1, h2⟩)
          clear h2
          clear hm hx0
          go_wp2
          go_round
          case rel =>
            refine ⟨k + 1, by omega, by omega, by go_num, ?_, fun p hp1 hp2 => ?_⟩
            · rw [Nat.add_sub_cancel, HB.out]; go_num
            · rcases Nat.lt_or_ge p k with hp | hp
              · exact HC.out p hp1 hp
              · obtain rfl : p = k := by omega
                exact HCK.out
          case measure => simp [intOf]; omega
    · obtain rfl : k = 4 := by omega
      have hld := lits_at w nq 4 65536 rfl
      have HX := Lib.hid (HR.out.2 ⟨HC.out 1 (by omega) (by omega), HC.out 2 (by omega) (by omega), HC.out 3 (by omega) (by omega)⟩)
      simp only [Nat.reduceSub] at hg
      generalize hG : gath l 8 3 = G at *
      clear hm hx0
      by_cases q1 : G < 65536
      · have HN := Lib.hid (HX.out.2 (fun h => h.1 q1))
        have q1' : decide ((G : Int) < 65536) = true := decide_eq_true (by omega)
        clear q1
        go_wp2
        go_ret2
        exact rune_of HN.out (((below_drewN (Below.refl _ _) _).alloc (Nat.le_refl _) _))
      · have q1' : decide ((G : Int) < 65536) = false := decide_eq_false (by omega)
        by_cases q2 : 1114111 < G
        · have HN := Lib.hid (HX.out.2 (fun h => h.2.1 q2))
          have q2' : decide (1114111 < (G : Int)) = true := decide_eq_true (by omega)
          clear q1 q2
          go_wp2
          go_ret2
          exact rune_of HN.out (((below_drewN (Below.refl _ _) _).alloc (Nat.le_refl _) _))
        · have q2' : decide (1114111 < (G : Int)) = false := decide_eq_false (by omega)
          by_cases q3 : 55296 ≤ G ∧ G < 57344
          · have HN := Lib.hid (HX.out.2 (fun h => h.2.2 q3))
            have q5 : decide (55296 ≤ (G : Int)) = true := decide_eq_true (by omega)
            have q6 : decide ((G : Int) < 57344) = true := decide_eq_true (by omega)
            clear q1 q2 q3
            go_wp2
            go_ret2
            exact rune_of HN.out (((below_drewN (Below.refl _ _) _).alloc (Nat.le_refl _) _))
          · have HN := Lib.hid (HX.out.1 ⟨q1, q2, q3⟩)
            clear q1 q2
            by_cases q4 : 55296 ≤ G
            · have q5 : decide ((G : Int) < 57344) = false := decide_eq_false (by omega)
              have q6 : decide (55296 ≤ (G : Int)) = true := decide_eq_true (by omega)
              clear q3 q4
              go_wp2
              go_ret2
              exact rune_of HN.out (((below_drewN (Below.refl _ _) _).alloc (Nat.le_refl _) _))
            · have q5 : decide (55296 ≤ (G : Int)) = false := decide_eq_false (by omega)
              clear q3 q4
              go_wp2
              go_ret2
              exact rune_of HN.out (((below_drewN (Below.refl _ _) _).alloc (Nat.le_refl _) _))

end Go.Proofs.YtkoedonllfmaaaaGreat.Pc

/-
  Layer 6 (op): the document's own Runes and Name.
-/
namespace Go.Proofs.YtkoedonllfmaaaaGreat.Pd
set_option linter.unusedSimpArgs false
open Go Go.RowKit Ck Kw Pm Pa Pb Pc
set_option linter.unusedVariables false

theorem rune_any (l : Tx) (hl : 1 ≤ l.length) (w : World) : Calls Tryz.prog 124 #[SV l] w (Rune l w) := by
  by_cases h : sz (byte l 0) = 0 ∨ l.length < sz (byte l 0)
  · exact rune_no l hl h w
  · have hc := sz_cases (byte l 0)
    by_cases h1 : sz (byte l 0) = 1
    · exact rune_one l hl h1 w
    · by_cases h2 : sz (byte l 0) = 2
      · exact rune_two l h2 (by omega) w
      · by_cases h3 : sz (byte l 0) = 3
        · exact rune_three l h3 (by omega) w
        · exact rune_four l (by omega) (by omega) w

theorem extract_tail (l : Tx) (n : Nat) : (ByteArray.mk l.toArray).extract n l.length = ⟨(l.drop n).toArray⟩ := by
  apply ByteArray.ext
  rw [ByteArray.data_extract]
  apply Array.ext'
  rw [Array.toList_extract]
  simp [sv_size]
  rw [← List.length_drop, List.take_length]
theorem r1_cases (l : Tx) : (r1 l = (0, 0) ∧ Bar (dec l).1) ∨ (r1 l = dec l ∧ 1 ≤ (dec l).2 ∧ (dec l).1 ≤ 1114111) := by
  unfold r1
  split
  · rename_i h
    exact .inl ⟨rfl, by rw [h]; exact .inr (.inr (.inr rfl))⟩
  · exact .inr ⟨rfl, dec_width l, dec_lt l⟩

set_option maxRecDepth 100000 in
set_option maxHeartbeats 4000000 in
theorem rrunes_any (l : Tx) (w : World) :
    Calls Tryz.prog 105 #[SV l] w fun e w' => e = .returned (.int .i64 (runes l : Nat)) ∧ Below w.heap.size w w' := by
  unfold SV
  go_enter Tryz.func105, Tryz.ntmps105
  go_wp2
  go_loopw [0, 3] (fun s n wr => ∃ (k : Tx) (j : Nat), s = .string ⟨k.toArray⟩ ∧ n = .int .i64 ((16 - j : Nat) : Int) ∧ j ≤ 16 ∧ rn j k = runes l ∧ Below w.heap.size w wr) (fun s _ _ => match s with | .string b => b.size | _ => 0)
  case atStart => exact ⟨l, 16, rfl, rfl, Nat.le_refl _, rfl, Below.refl _ _⟩
  case round =>
    obtain ⟨k, j, rfl, rfl, hj, hr, hb⟩ := hrel
    have hsz := sv_size k
    by_cases hk : k = []
    · subst hk
      rw [rn_nil _ hj] at hr
      have HR := Lib.hid hr
      clear hr
      have hz : ¬ 0 < (ByteArray.mk ([] : Tx).toArray).size := by rw [hsz]; simp
      go_wp2
      go_ret
      exact ⟨by rw [← HR.out]; rfl, hb⟩
    · have hl1 : 1 ≤ k.length := by
        rcases Nat.eq_zero_or_pos k.length with h | h
        · exact absurd (List.eq_nil_of_length_eq_zero h) hk
        · exact h
      have HC := Lib.hid (rune_any k hl1 wr)
      have HR := Lib.hid hr
      have HK := Lib.hid hk
      clear hr hk
      rcases r1_cases k with ⟨h1, hbar⟩ | ⟨h1, hw1, hv⟩
      · have HBAR := Lib.hid hbar
        have H1 := Lib.hid h1
        clear hbar h1
        go_wp2_with (go_at_call 124; refine HC.out.mono ?_; rintro e w1 ⟨he, hb1⟩; rw [H1.out] at he; subst he)
        go_ret
        exact ⟨by rw [← HR.out, rn_bar HK.out HBAR.out]; rfl, hb.trans (hb1.mono hb.size)⟩
      · have H1 := Lib.hid h1
        clear h1
        have HE := Lib.hid (extract_tail k (dec k).2)
        have hwl := dec_width_le k hl1
        generalize hd : dec k = d at *
        obtain ⟨v, n⟩ := d
        simp only at hw1 hv HE hwl
        have HD := Lib.hid hd
        clear hd
        have hn0 : ((n : Int) == 0) = false := by rw [beq_eq_false_iff_ne]; omega
        have hnk : n ≤ (ByteArray.mk k.toArray).size := by rw [hsz]; exact hwl
        by_cases hbar : Bar v
        · have HB := Lib.hid hbar
          unfold Bar at hbar
          by_cases q1 : v < 33
          · clear hbar
            go_wp2_with (go_at_call 124; refine HC.out.mono ?_; rintro e w1 ⟨he, hb1⟩; rw [H1.out] at he; subst he)
            go_ret
            exact ⟨by rw [← HR.out, rn_bar HK.out (by rw [HD.out]; exact HB.out)]; rfl, hb.trans (hb1.mono hb.size)⟩
          · have d1 : decide ((v : Int) < 33) = false := decide_eq_false (by omega)
            by_cases q2 : 127 ≤ v ∧ v ≤ 159
            · have d2 : decide (127 ≤ (v : Int)) = true := decide_eq_true (by omega)
              have d3 : decide ((v : Int) < 160) = true := decide_eq_true (by omega)
              clear hbar q1 q2
              go_wp2_with (go_at_call 124; refine HC.out.mono ?_; rintro e w1 ⟨he, hb1⟩; rw [H1.out] at he; subst he)
              go_ret
              exact ⟨by rw [← HR.out, rn_bar HK.out (by rw [HD.out]; exact HB.out)]; rfl, hb.trans (hb1.mono hb.size)⟩
            · by_cases q3 : v = 47
              · subst q3
                clear hbar q1 q2 d1
                go_wp2_with (go_at_call 124; refine HC.out.mono ?_; rintro e w1 ⟨he, hb1⟩; rw [H1.out] at he; subst he)
                go_ret
                exact ⟨by rw [← HR.out, rn_bar HK.out (by rw [HD.out]; exact HB.out)]; rfl, hb.trans (hb1.mono hb.size)⟩
              · obtain rfl : v = 65533 := by omega
                clear hbar q1 q2 q3 d1
                go_wp2_with (go_at_call 124; refine HC.out.mono ?_; rintro e w1 ⟨he, hb1⟩; rw [H1.out] at he; subst he)
                go_ret
                exact ⟨by rw [← HR.out, rn_bar HK.out (by rw [HD.out]; exact HB.out)]; rfl, hb.trans (hb1.mono hb.size)⟩
        · have HB := Lib.hid hbar
          unfold Bar at hbar
          have d1 : decide ((v : Int) < 33) = false := decide_eq_false (by omega)
          have e47 : ((v : Int) == 47) = false := by rw [beq_eq_false_iff_ne]; omega
          have e65 : ((v : Int) == 65533) = false := by rw [beq_eq_false_iff_ne]; omega
          by_cases hj0 : j = 0
          · subst hj0
            have HZ := Lib.hid (rn_zero HK.out)
            by_cases q2 : 127 ≤ v
            · have d2 : decide (127 ≤ (v : Int)) = true := decide_eq_true (by omega)
              have d3 : decide ((v : Int) < 160) = false := decide_eq_false (by omega)
              clear hbar q2
              go_wp2_with (go_at_call 124; refine HC.out.mono ?_; rintro e w1 ⟨he, hb1⟩; rw [H1.out] at he; subst he)
              go_ret
              exact ⟨by rw [← HR.out, HZ.out]; rfl, hb.trans (hb1.mono hb.size)⟩
            · have d2 : decide (127 ≤ (v : Int)) = false := decide_eq_false (by omega)
              clear hbar q2
              go_wp2_with (go_at_call 124; refine HC.out.mono ?_; rintro e w1 ⟨he, hb1⟩; rw [H1.out] at he; subst he)
              go_ret
              exact ⟨by rw [← HR.out, HZ.out]; rfl, hb.trans (hb1.mono hb.size)⟩
          · obtain ⟨m, rfl⟩ : ∃ m, j = m + 1 := ⟨j - 1, by omega⟩
            have d16 : decide (16 ≤ ((16 - (m + 1) : Nat) : Int)) = false := decide_eq_false (by omega)
            have HS := Lib.hid (rn_step (j := m) HK.out (by rw [HD.out]; exact HB.out))
            by_cases q2 : 127 ≤ v
            · have d2 : decide (127 ≤ (v : Int)) = true := decide_eq_true (by omega)
              have d3 : decide ((v : Int) < 160) = false := decide_eq_false (by omega)
              clear hbar q2
              go_wp2_with (go_at_call 124; refine HC.out.mono ?_; rintro e w1 ⟨he, hb1⟩; rw [H1.out] at he; subst he)
              go_roundw
              case rel =>
                refine ⟨k.drop n, m, by rw [HE.out], by go_num, by omega, ?_, hb.trans (hb1.mono hb.size)⟩
                rw [← HR.out, HS.out, HD.out]
              case measure =>
                simp [sv_size]
                omega
            · have d2 : decide (127 ≤ (v : Int)) = false := decide_eq_false (by omega)
              clear hbar q2
              go_wp2_with (go_at_call 124; refine HC.out.mono ?_; rintro e w1 ⟨he, hb1⟩; rw [H1.out] at he; subst he)
              go_roundw
              case rel =>
                refine ⟨k.drop n, m, by rw [HE.out], by go_num, by omega, ?_, hb.trans (hb1.mono hb.size)⟩
                rw [← HR.out, HS.out, HD.out]
              case measure =>
                simp [sv_size]
                omega

theorem rname_any (l : Tx) (w : World) :
    Calls Tryz.prog 77 #[SV l] w fun e w' => e = .returned (.bool (name l)) ∧ Below w.heap.size w w' := by
  have HC := Lib.hid (rrunes_any l w)
  unfold name
  generalize runes l = r at *
  go_enter Tryz.func77, Tryz.ntmps77
  go_wp2_with (go_at_call 105; refine HC.out.mono ?_; rintro e w1 ⟨rfl, hb⟩)
  go_ret
  exact ⟨by simp, hb⟩

end Go.Proofs.YtkoedonllfmaaaaGreat.Pd
