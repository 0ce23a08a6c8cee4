/-
  Layer 6 (op): the contracts of barred, Runes and Name.
-/
import Derived.Test.YtebjjkhiniccgaaGreatPm
import Derived.Test.YtebjjkhiniccgaaGreatKw
import Derived.LoopTactic
import Derived.Outline
import Derived.Laws.RangeAny
import Derived.WalkMore
import Derived.Laws.RangeString
namespace Go.Proofs.YtebjjkhiniccgaaGreat.Pa
set_option linter.unusedSimpArgs false
open Go Go.RowKit Ck Kw Pm
set_option linter.unusedVariables false

theorem sv_size (l : Tx) : (ByteArray.mk l.toArray).size = l.length := by show l.toArray.size = _; simp

set_option maxHeartbeats 1000000 in
theorem barred_yes (v : Nat) (h : Bar v) (w : World) :
    Calls Tryz.prog 128 #[.int .i32 v] w fun e w' => e = .returned (.bool true) ∧ w = w' := by
  unfold Bar at h
  by_cases h1 : v < 33
  · clear h
    go_enter Tryz.func128, Tryz.ntmps128
    go_wp2
    go_ret
    exact ⟨rfl, rfl⟩
  · by_cases h2 : v = 47
    · subst h2
      clear h h1
      go_enter Tryz.func128, Tryz.ntmps128
      go_wp2
      go_ret
      exact ⟨rfl, rfl⟩
    · have e2 : ((v : Int) == 47) = false := by rw [beq_eq_false_iff_ne]; omega
      by_cases h3 : 127 ≤ v ∧ v ≤ 159
      · obtain ⟨h3, h4⟩ := h3
        clear h h2
        go_enter Tryz.func128, Tryz.ntmps128
        go_wp2
        go_ret
        exact ⟨rfl, rfl⟩
      · have h4 : v = 65533 := by omega
        subst h4
        clear h h1 h2 h3 e2
        go_enter Tryz.func128, Tryz.ntmps128
        go_wp2
        go_ret
        exact ⟨rfl, rfl⟩

set_option maxHeartbeats 1000000 in
theorem barred_no (v : Nat) (h : ¬ Bar v) (w : World) :
    Calls Tryz.prog 128 #[.int .i32 v] w fun e w' => e = .returned (.bool false) ∧ w = w' := by
  unfold Bar at h
  have h1 : decide ((v : Int) < 33) = false := decide_eq_false (by omega)
  have e2 : ((v : Int) == 47) = false := by rw [beq_eq_false_iff_ne]; omega
  have e3 : ((v : Int) == 65533) = false := by rw [beq_eq_false_iff_ne]; omega
  by_cases h3 : 127 ≤ v
  · have h4 : decide ((v : Int) ≤ 159) = false := decide_eq_false (by omega)
    clear h
    go_enter Tryz.func128, Tryz.ntmps128
    go_wp2
    go_ret
    exact ⟨rfl, rfl⟩
  · clear h
    go_enter Tryz.func128, Tryz.ntmps128
    go_wp2
    go_ret
    exact ⟨rfl, rfl⟩

theorem iter_below (w : World) (s : ByteArray) (p : Nat) : Below w.heap.size w (w.iter s p) := (Below.refl _ w).alloc (Nat.le_refl _) _
theorem drop_nil_iff {l : Tx} {p : Nat} : l.drop p = [] ↔ ¬ p < l.length := by rw [List.drop_eq_nil_iff]; omega

set_option maxRecDepth 100000 in
set_option maxHeartbeats 2000000 in
theorem runes_any (l : Tx) (w : World) :
    Calls Tryz.prog 115 #[SV l] w fun e w' => e = .returned (.int .i64 (runes l : Nat)) ∧ Below w.heap.size w w' := by
  unfold SV
  go_enter Tryz.func115, Tryz.ntmps115
  go_wp2
  go_step3
  go_wp2
  go_step3
  go_wp2
  go_loopw [3] (fun n wr => ∃ pos j : Nat, wr = w.iter ⟨l.toArray⟩ pos ∧ n = .int .i64 ((16 - j : Nat) : Int) ∧ j ≤ 16 ∧ rn j (l.drop pos) = runes l) (fun _ wr => l.length - wr.iterPos w.heap.size)
  case atStart => exact ⟨0, 16, rfl, rfl, Nat.le_refl _, rfl⟩
  case round =>
    obtain ⟨pos, j, rfl, rfl, hj, hr⟩ := hrel
    by_cases hp : pos < l.length
    · have hnx : ∀ ty, (Instr.next (.pointer (some ⟨w.heap.size, 0, none⟩)) true ty).run Tryz.prog (w.iter ⟨l.toArray⟩ pos) = _ := fun ty => run_next_any w ⟨l.toArray⟩ pos ty (by rw [sv_size]; exact hp)
      have hwd := dec_width (l.drop pos)
      have hlt := dec_lt (l.drop pos)
      have hne : l.drop pos ≠ [] := fun h => (drop_nil_iff.1 h) hp
      rw [decode_dec] at hnx
      have HJ := Lib.hid (l.drop_drop (i := (dec (l.drop pos)).2) (j := pos))
      generalize hd : dec (l.drop pos) = d at *
      obtain ⟨v, n⟩ := d
      simp only at hnx hwd hlt HJ
      have HR := Lib.hid hr
      have HD := Lib.hid hd
      have HNE := Lib.hid hne
      clear hr hd hne
      by_cases hb : Bar v
      · have HB := Lib.hid hb
        clear hb
        go_wp2_with (go_at_call 128; refine (barred_yes v HB.out _).mono ?_; rintro e w1 ⟨rfl, rfl⟩)
        rw [Exit.noGoto_ret]
        go_ret
        refine ⟨?_, iter_below _ _ _⟩
        rw [← HR.out, rn_bar HNE.out (by rw [HD.out]; exact HB.out)]
        rfl
      · have HB := Lib.hid hb
        clear hb
        by_cases hj0 : j = 0
        · subst hj0
          go_wp2_with (go_at_call 128; refine (barred_no v HB.out _).mono ?_; rintro e w1 ⟨rfl, rfl⟩)
          rw [Exit.noGoto_ret]
          go_ret
          refine ⟨?_, iter_below _ _ _⟩
          rw [← HR.out, rn_zero HNE.out]
          rfl
        · obtain ⟨m, rfl⟩ : ∃ m, j = m + 1 := ⟨j - 1, by omega⟩
          have h16 : (((16 - (m + 1) : Nat) : Int) == 16) = false := by rw [beq_eq_false_iff_ne]; omega
          go_wp2_with (go_at_call 128; refine (barred_no v HB.out _).mono ?_; rintro e w1 ⟨rfl, rfl⟩)
          go_roundw
          case rel =>
            refine ⟨pos + n, m, rfl, ?_, by omega, ?_⟩
            · go_num
            · rw [← HR.out, rn_step HNE.out (by rw [HD.out]; exact HB.out), HD.out, HJ.out]
          case measure =>
            simp
            omega
    · have hnx : ∀ ty, (Instr.next (.pointer (some ⟨w.heap.size, 0, none⟩)) true ty).run Tryz.prog (w.iter ⟨l.toArray⟩ pos) = _ := fun ty => run_next_end w ⟨l.toArray⟩ pos ty (by rw [sv_size]; exact hp)
      have hz := drop_nil_iff.2 hp
      rw [hz, rn_nil _ hj] at hr
      have HR := Lib.hid hr
      clear hr hz
      go_wp2
      rw [Exit.noGoto_ret]
      go_ret
      exact ⟨by rw [← HR.out]; rfl, iter_below _ _ _⟩

theorem name_any (l : Tx) (w : World) :
    Calls Tryz.prog 94 #[SV l] w fun e w' => e = .returned (.bool (name l)) ∧ Below w.heap.size w w' := by
  have HC := Lib.hid (runes_any l w)
  unfold name
  generalize runes l = r at *
  go_enter Tryz.func94, Tryz.ntmps94
  go_wp2_with (go_at_call 115; refine HC.out.mono ?_; rintro e w1 ⟨rfl, hb⟩)
  go_ret
  exact ⟨by simp, hb⟩

end Go.Proofs.YtebjjkhiniccgaaGreat.Pa
