/-
  Layer 6 (op): the contract of holdMore, kind by kind.
-/
import Derived.Test.YtebjjkhiniccgaaGreatPe
namespace Go.Proofs.YtebjjkhiniccgaaGreat.Pf
set_option linter.unusedSimpArgs false
open Go Go.RowKit Ck Kw Pm Pa Pe
set_option linter.unusedVariables false

theorem bne_nil (l : Tx) : (!l.isEmpty) = !l.isEmpty := rfl
theorem emptyP {l : Tx} : (l.length : Int) > 0 ↔ l.isEmpty = false := by cases l <;> simp <;> omega

set_option maxHeartbeats 2000000 in
theorem more_0 (o : O) (A : Option Addr) (c : Nat) (hk : o.kind = 0) (w : World) (hl : o.recs.length ≤ 140737488355328) :
    Calls Tryz.prog 93 #[FV 0, OV o A c] w fun e w' => e = .returned (.bool (more o)) ∧ Below w.heap.size w w' := by
  have hF : FV 0 = .agg #[.bool false, .bool false, .bool false, .bool false] := rfl
  rw [hF]
  have hm : more o = ((!hasT 0 && !o.topic.isEmpty) || (!hasG 0 && !o.group.isEmpty) || (!hasO 0 && (o.off != 0)) || (!hasR 0 && !o.recs.isEmpty)) := by rw [more, hk]
  have hT : hasT 0 = false := rfl
  have hG : hasG 0 = false := rfl
  have hO : hasO 0 = false := rfl
  have hR : hasR 0 = false := rfl
  rw [hm, hT, hG, hO, hR]
  clear hm hT hG hO hR hF
  obtain ⟨kind, topic, group, off, recs⟩ := o
  simp only at hk hl ⊢
  unfold OV
  simp only
  subst hk
  by_cases h_topic : topic.isEmpty = true
  · have e_topic := List.isEmpty_iff.1 h_topic
    subst e_topic
    clear h_topic
    by_cases h_group : group.isEmpty = true
    · have e_group := List.isEmpty_iff.1 h_group
      subst e_group
      clear h_group
      by_cases h_off : off = 0
      · subst h_off
        by_cases h_recs : recs.isEmpty = true
        · have e_recs := List.isEmpty_iff.1 h_recs
          subst e_recs
          clear h_recs
          go_enter Tryz.func93, Tryz.ntmps93
          go_wp2
          go_ret
          exact ⟨by simp_all, ((Below.refl _ w).alloc (Nat.le_refl _) _).alloc (by simp) _⟩
        · have e_recs := Bool.eq_false_iff.2 h_recs
          have p_recs : 0 < recs.length := by cases recs with | nil => exact absurd rfl h_recs | cons _ _ => simp
          clear h_recs
          go_enter Tryz.func93, Tryz.ntmps93
          go_wp2
          go_ret
          exact ⟨by simp_all, ((Below.refl _ w).alloc (Nat.le_refl _) _).alloc (by simp) _⟩
      · have e_off : (off == 0) = false := beq_eq_false_iff_ne.2 h_off
        have n_off : (off != 0) = true := by rw [bne, e_off]; rfl
        clear h_off
        go_enter Tryz.func93, Tryz.ntmps93
        go_wp2
        go_ret
        exact ⟨by simp_all, ((Below.refl _ w).alloc (Nat.le_refl _) _).alloc (by simp) _⟩
    · have e_group := Bool.eq_false_iff.2 h_group
      clear h_group
      go_enter Tryz.func93, Tryz.ntmps93
      go_wp2
      go_ret
      exact ⟨by simp_all, ((Below.refl _ w).alloc (Nat.le_refl _) _).alloc (by simp) _⟩
  · have e_topic := Bool.eq_false_iff.2 h_topic
    clear h_topic
    go_enter Tryz.func93, Tryz.ntmps93
    go_wp2
    go_ret
    exact ⟨by simp_all, ((Below.refl _ w).alloc (Nat.le_refl _) _).alloc (by simp) _⟩

set_option maxHeartbeats 2000000 in
theorem more_1 (o : O) (A : Option Addr) (c : Nat) (hk : o.kind = 1) (w : World) (hl : o.recs.length ≤ 140737488355328) :
    Calls Tryz.prog 93 #[FV 1, OV o A c] w fun e w' => e = .returned (.bool (more o)) ∧ Below w.heap.size w w' := by
  have hF : FV 1 = .agg #[.bool true, .bool false, .bool false, .bool false] := rfl
  rw [hF]
  have hm : more o = ((!hasT 1 && !o.topic.isEmpty) || (!hasG 1 && !o.group.isEmpty) || (!hasO 1 && (o.off != 0)) || (!hasR 1 && !o.recs.isEmpty)) := by rw [more, hk]
  have hT : hasT 1 = true := rfl
  have hG : hasG 1 = false := rfl
  have hO : hasO 1 = false := rfl
  have hR : hasR 1 = false := rfl
  rw [hm, hT, hG, hO, hR]
  clear hm hT hG hO hR hF
  obtain ⟨kind, topic, group, off, recs⟩ := o
  simp only at hk hl ⊢
  unfold OV
  simp only
  subst hk
  by_cases h_group : group.isEmpty = true
  · have e_group := List.isEmpty_iff.1 h_group
    subst e_group
    clear h_group
    by_cases h_off : off = 0
    · subst h_off
      by_cases h_recs : recs.isEmpty = true
      · have e_recs := List.isEmpty_iff.1 h_recs
        subst e_recs
        clear h_recs
        go_enter Tryz.func93, Tryz.ntmps93
        go_wp2
        go_ret
        exact ⟨by simp_all, ((Below.refl _ w).alloc (Nat.le_refl _) _).alloc (by simp) _⟩
      · have e_recs := Bool.eq_false_iff.2 h_recs
        have p_recs : 0 < recs.length := by cases recs with | nil => exact absurd rfl h_recs | cons _ _ => simp
        clear h_recs
        go_enter Tryz.func93, Tryz.ntmps93
        go_wp2
        go_ret
        exact ⟨by simp_all, ((Below.refl _ w).alloc (Nat.le_refl _) _).alloc (by simp) _⟩
    · have e_off : (off == 0) = false := beq_eq_false_iff_ne.2 h_off
      have n_off : (off != 0) = true := by rw [bne, e_off]; rfl
      clear h_off
      go_enter Tryz.func93, Tryz.ntmps93
      go_wp2
      go_ret
      exact ⟨by simp_all, ((Below.refl _ w).alloc (Nat.le_refl _) _).alloc (by simp) _⟩
  · have e_group := Bool.eq_false_iff.2 h_group
    clear h_group
    go_enter Tryz.func93, Tryz.ntmps93
    go_wp2
    go_ret
    exact ⟨by simp_all, ((Below.refl _ w).alloc (Nat.le_refl _) _).alloc (by simp) _⟩

set_option maxHeartbeats 2000000 in
theorem more_2 (o : O) (A : Option Addr) (c : Nat) (hk : o.kind = 2) (w : World) (hl : o.recs.length ≤ 140737488355328) :
    Calls Tryz.prog 93 #[FV 2, OV o A c] w fun e w' => e = .returned (.bool (more o)) ∧ Below w.heap.size w w' := by
  have hF : FV 2 = .agg #[.bool true, .bool false, .bool false, .bool true] := rfl
  rw [hF]
  have hm : more o = ((!hasT 2 && !o.topic.isEmpty) || (!hasG 2 && !o.group.isEmpty) || (!hasO 2 && (o.off != 0)) || (!hasR 2 && !o.recs.isEmpty)) := by rw [more, hk]
  have hT : hasT 2 = true := rfl
  have hG : hasG 2 = false := rfl
  have hO : hasO 2 = false := rfl
  have hR : hasR 2 = true := rfl
  rw [hm, hT, hG, hO, hR]
  clear hm hT hG hO hR hF
  obtain ⟨kind, topic, group, off, recs⟩ := o
  simp only at hk hl ⊢
  unfold OV
  simp only
  subst hk
  by_cases h_group : group.isEmpty = true
  · have e_group := List.isEmpty_iff.1 h_group
    subst e_group
    clear h_group
    by_cases h_off : off = 0
    · subst h_off
      go_enter Tryz.func93, Tryz.ntmps93
      go_wp2
      go_ret
      exact ⟨by simp_all, ((Below.refl _ w).alloc (Nat.le_refl _) _).alloc (by simp) _⟩
    · have e_off : (off == 0) = false := beq_eq_false_iff_ne.2 h_off
      have n_off : (off != 0) = true := by rw [bne, e_off]; rfl
      clear h_off
      go_enter Tryz.func93, Tryz.ntmps93
      go_wp2
      go_ret
      exact ⟨by simp_all, ((Below.refl _ w).alloc (Nat.le_refl _) _).alloc (by simp) _⟩
  · have e_group := Bool.eq_false_iff.2 h_group
    clear h_group
    go_enter Tryz.func93, Tryz.ntmps93
    go_wp2
    go_ret
    exact ⟨by simp_all, ((Below.refl _ w).alloc (Nat.le_refl _) _).alloc (by simp) _⟩

set_option maxHeartbeats 2000000 in
theorem more_3 (o : O) (A : Option Addr) (c : Nat) (hk : o.kind = 3) (w : World) (hl : o.recs.length ≤ 140737488355328) :
    Calls Tryz.prog 93 #[FV 3, OV o A c] w fun e w' => e = .returned (.bool (more o)) ∧ Below w.heap.size w w' := by
  have hF : FV 3 = .agg #[.bool true, .bool true, .bool true, .bool false] := rfl
  rw [hF]
  have hm : more o = ((!hasT 3 && !o.topic.isEmpty) || (!hasG 3 && !o.group.isEmpty) || (!hasO 3 && (o.off != 0)) || (!hasR 3 && !o.recs.isEmpty)) := by rw [more, hk]
  have hT : hasT 3 = true := rfl
  have hG : hasG 3 = true := rfl
  have hO : hasO 3 = true := rfl
  have hR : hasR 3 = false := rfl
  rw [hm, hT, hG, hO, hR]
  clear hm hT hG hO hR hF
  obtain ⟨kind, topic, group, off, recs⟩ := o
  simp only at hk hl ⊢
  unfold OV
  simp only
  subst hk
  by_cases h_recs : recs.isEmpty = true
  · have e_recs := List.isEmpty_iff.1 h_recs
    subst e_recs
    clear h_recs
    go_enter Tryz.func93, Tryz.ntmps93
    go_wp2
    go_ret
    exact ⟨by simp_all, ((Below.refl _ w).alloc (Nat.le_refl _) _).alloc (by simp) _⟩
  · have e_recs := Bool.eq_false_iff.2 h_recs
    have p_recs : 0 < recs.length := by cases recs with | nil => exact absurd rfl h_recs | cons _ _ => simp
    clear h_recs
    go_enter Tryz.func93, Tryz.ntmps93
    go_wp2
    go_ret
    exact ⟨by simp_all, ((Below.refl _ w).alloc (Nat.le_refl _) _).alloc (by simp) _⟩

set_option maxHeartbeats 2000000 in
theorem more_4 (o : O) (A : Option Addr) (c : Nat) (hk : o.kind = 4) (w : World) (hl : o.recs.length ≤ 140737488355328) :
    Calls Tryz.prog 93 #[FV 4, OV o A c] w fun e w' => e = .returned (.bool (more o)) ∧ Below w.heap.size w w' := by
  have hF : FV 4 = .agg #[.bool true, .bool false, .bool true, .bool false] := rfl
  rw [hF]
  have hm : more o = ((!hasT 4 && !o.topic.isEmpty) || (!hasG 4 && !o.group.isEmpty) || (!hasO 4 && (o.off != 0)) || (!hasR 4 && !o.recs.isEmpty)) := by rw [more, hk]
  have hT : hasT 4 = true := rfl
  have hG : hasG 4 = false := rfl
  have hO : hasO 4 = true := rfl
  have hR : hasR 4 = false := rfl
  rw [hm, hT, hG, hO, hR]
  clear hm hT hG hO hR hF
  obtain ⟨kind, topic, group, off, recs⟩ := o
  simp only at hk hl ⊢
  unfold OV
  simp only
  subst hk
  by_cases h_group : group.isEmpty = true
  · have e_group := List.isEmpty_iff.1 h_group
    subst e_group
    clear h_group
    by_cases h_recs : recs.isEmpty = true
    · have e_recs := List.isEmpty_iff.1 h_recs
      subst e_recs
      clear h_recs
      go_enter Tryz.func93, Tryz.ntmps93
      go_wp2
      go_ret
      exact ⟨by simp_all, ((Below.refl _ w).alloc (Nat.le_refl _) _).alloc (by simp) _⟩
    · have e_recs := Bool.eq_false_iff.2 h_recs
      have p_recs : 0 < recs.length := by cases recs with | nil => exact absurd rfl h_recs | cons _ _ => simp
      clear h_recs
      go_enter Tryz.func93, Tryz.ntmps93
      go_wp2
      go_ret
      exact ⟨by simp_all, ((Below.refl _ w).alloc (Nat.le_refl _) _).alloc (by simp) _⟩
  · have e_group := Bool.eq_false_iff.2 h_group
    clear h_group
    go_enter Tryz.func93, Tryz.ntmps93
    go_wp2
    go_ret
    exact ⟨by simp_all, ((Below.refl _ w).alloc (Nat.le_refl _) _).alloc (by simp) _⟩

theorem more_any (o : O) (A : Option Addr) (c : Nat) (hk : known o.kind = true) (w : World) (hl : o.recs.length ≤ 140737488355328) :
    Calls Tryz.prog 93 #[FV o.kind, OV o A c] w fun e w' => e = .returned (.bool (more o)) ∧ Below w.heap.size w w' := by
  rcases kind_cases hk with h | h | h | h | h
  · rw [h]; exact more_0 o A c h w hl
  · rw [h]; exact more_1 o A c h w hl
  · rw [h]; exact more_2 o A c h w hl
  · rw [h]; exact more_3 o A c h w hl
  · rw [h]; exact more_4 o A c h w hl

end Go.Proofs.YtebjjkhiniccgaaGreat.Pf
