/-
  Layer 6 (op): the contracts of fieldsOf, holdMore, isLong and areRecords; an operation in memory.
-/
import Derived.Test.YtobphijbhghgmaaGreatO01
import Derived.Outline
import Derived.Test.YtobphijbhghgmaaGreatRows
namespace Go.Proofs.YtobphijbhghgmaaGreat.Pe
set_option linter.unusedSimpArgs false
open Go Go.RowKit Ck Kw Pm Pa
set_option linter.unusedVariables false

/-- The fields that a kind has, as a value. -/
def FV (k : Int) : Value := .agg #[.bool (hasT k), .bool (hasG k), .bool (hasO k), .bool (hasR k)]
theorem size_fields : (Tryz.prog.info? 207).map (·.size) = some 4 := by kernel_rfl
set_option maxRecDepth 100000 in
set_option maxHeartbeats 2000000 in
theorem fields_any (k : Int) (w : World) :
    Calls Tryz.prog 132 #[.int .i64 k] w fun e w' => e = .returned (.tuple #[FV k, .bool (known k)]) ∧ Below w.heap.size w w' := by
  by_cases hk : known k = true
  · rcases kind_cases hk with rfl | rfl | rfl | rfl | rfl
    · clear hk
      go_enter Tryz.func132, Tryz.ntmps132
      go_wp2
      refine bodyPost_ret (results_row_tmp rfl _ _ w.heap.size 207 #[.bool false, .bool false, .bool false, .bool false] (0, 0) _ rfl ?_ Tryz.underlying207 rfl size_fields) rfl ?_
      · exact heap_alloc_new w _
      · exact ⟨rfl, (Below.refl _ w).alloc (Nat.le_refl _) _⟩
    · clear hk
      go_enter Tryz.func132, Tryz.ntmps132
      go_wp2
      refine bodyPost_ret (results_row_tmp rfl _ _ w.heap.size 207 #[.bool true, .bool false, .bool false, .bool false] (0, 0) _ rfl ?_ Tryz.underlying207 rfl size_fields) rfl ?_
      · exact heap_alloc_new w _
      · exact ⟨rfl, (Below.refl _ w).alloc (Nat.le_refl _) _⟩
    · clear hk
      go_enter Tryz.func132, Tryz.ntmps132
      go_wp2
      refine bodyPost_ret (results_row_tmp rfl _ _ w.heap.size 207 #[.bool true, .bool false, .bool false, .bool true] (0, 0) _ rfl ?_ Tryz.underlying207 rfl size_fields) rfl ?_
      · exact heap_alloc_new w _
      · exact ⟨rfl, (Below.refl _ w).alloc (Nat.le_refl _) _⟩
    · clear hk
      go_enter Tryz.func132, Tryz.ntmps132
      go_wp2
      refine bodyPost_ret (results_row_tmp rfl _ _ w.heap.size 207 #[.bool true, .bool true, .bool true, .bool false] (0, 0) _ rfl ?_ Tryz.underlying207 rfl size_fields) rfl ?_
      · exact heap_alloc_new w _
      · exact ⟨rfl, (Below.refl _ w).alloc (Nat.le_refl _) _⟩
    · clear hk
      go_enter Tryz.func132, Tryz.ntmps132
      go_wp2
      refine bodyPost_ret (results_row_tmp rfl _ _ w.heap.size 207 #[.bool true, .bool false, .bool true, .bool false] (0, 0) _ rfl ?_ Tryz.underlying207 rfl size_fields) rfl ?_
      · exact heap_alloc_new w _
      · exact ⟨rfl, (Below.refl _ w).alloc (Nat.le_refl _) _⟩
  · have hn := Bool.eq_false_iff.2 hk
    have hv := kind_none hn
    have e0 : (k == 0) = false := beq_eq_false_iff_ne.2 hv.1
    have e1 : (k == 1) = false := beq_eq_false_iff_ne.2 hv.2.1
    have e2 : (k == 2) = false := beq_eq_false_iff_ne.2 hv.2.2.1
    have e3 : (k == 3) = false := beq_eq_false_iff_ne.2 hv.2.2.2.1
    have e4 : (k == 4) = false := beq_eq_false_iff_ne.2 hv.2.2.2.2
    have hF : FV k = .agg #[.bool false, .bool false, .bool false, .bool false] := by simp [FV, hasT, hasG, hasO, hasR, e1, e2, e3, e4]
    rw [hn, hF]
    clear hk hn hv hF
    go_enter Tryz.func132, Tryz.ntmps132
    go_wp2
    refine bodyPost_ret (results_row_tmp rfl _ _ w.heap.size 207 #[.bool false, .bool false, .bool false, .bool false] (0, 0) _ rfl ?_ Tryz.underlying207 rfl size_fields) rfl ?_
    · exact heap_alloc_new w _
    · exact ⟨rfl, (Below.refl _ w).alloc (Nat.le_refl _) _⟩

/-- An operation as a value: its records lie at A. -/
def OV (o : O) (A : Option Addr) (c : Nat) : Value := .agg #[.int .i64 o.kind, .string ⟨o.topic.toArray⟩, .string ⟨o.group.toArray⟩, .int .i64 o.off, .slice A o.recs.length c]
/-- The value v is the operation o, its records in no block of X. -/
def OI (w : World) (X : Nat → Prop) (v : Value) (o : O) : Prop := ∃ A c, v = OV o A c ∧ Ls w X (.slice A o.recs.length c) o.recs
section
variable {w w' : World} {X Y : Nat → Prop} {v : Value} {o : O}
theorem OI.keep (h : OI w X v o) (hs : w.heap.size ≤ w'.heap.size) (hk : ∀ b, b < w.heap.size → ¬ X b → w'.heap[b]? = w.heap[b]?) : OI w' X v o := by
  obtain ⟨A, c, hv, hl⟩ := h
  exact ⟨A, c, hv, hl.keep hs hk⟩
theorem OI.weaken (h : OI w X v o) (hk : ∀ b, b < w.heap.size → Y b → X b) : OI w Y v o := by
  obtain ⟨A, c, hv, hl⟩ := h
  exact ⟨A, c, hv, hl.weaken hk⟩
theorem OI.after (h : OI w X v o) (hb : Below w.heap.size w w') : OI w' X v o := by
  obtain ⟨A, c, hv, hl⟩ := h
  exact ⟨A, c, hv, hl.after hb⟩
theorem OI.ch {S : Nat → Prop} (h : OI w X v o) (c : Ch S w w') (hd : ∀ k, k < w.heap.size → S k → X k) : OI w' X v o := by
  obtain ⟨A, c', hv, hl⟩ := h
  exact ⟨A, c', hv, hl.ch c hd⟩
end
theorem long_any (A : Option Addr) (n c : Nat) (w : World) :
    Calls Tryz.prog 158 #[.slice A n c] w fun e w' => e = .returned (.bool (decide (64 < n))) ∧ w = w' := by
  go_enter Tryz.func158, Tryz.ntmps158
  go_wp2
  go_ret
  exact ⟨by simp; omega, rfl⟩

/-- Where the first long record stands. -/
def ixLong : List Tx → Nat → Int
  | [], _ => -1
  | x :: l, i => if 64 < x.length then (i : Int) else ixLong l (i + 1)
theorem ix_at {l : List Tx} {k : Nat} (h : k < l.length) : ixLong (l.drop k) k = if 64 < l[k].length then (k : Int) else ixLong (l.drop (k + 1)) (k + 1) := by
  rw [List.drop_eq_getElem_cons h]
  rfl
theorem ix_all : ∀ (l : List Tx) (i : Nat), decide (0 ≤ ixLong l i) = !(l.all fun x => decide (x.length ≤ 64))
  | [], i => rfl
  | x :: l, i => by
    rw [ixLong, List.all_cons]
    by_cases h : 64 < x.length
    · rw [if_pos h]
      have : decide (x.length ≤ 64) = false := decide_eq_false (by omega)
      simp [this]
    · rw [if_neg h, ix_all l]
      have : decide (x.length ≤ 64) = true := decide_eq_true (by omega)
      simp [this]

set_option maxHeartbeats 1000000 in
theorem index_any (w : World) (X : Nat → Prop) (A : Option Addr) (c : Nat) (ls : List Tx) (ha : Ls w X (.slice A ls.length c) ls) (hl : ls.length ≤ 140737488355328) :
    Calls Tryz.prog 168 #[.slice A ls.length c, .func (.func 158) #[] #[]] w fun e w' => e = .returned (.int .i64 (ixLong ls 0)) ∧ w = w' := by
  have HA := Lib.hid ha
  clear ha
  go_enter Tryz.func168, Tryz.ntmps168
  go_wp2
  go_loop [8] (fun i => ∃ k : Nat, k ≤ ls.length ∧ i = .int .i64 k ∧ ixLong (ls.drop k) k = ixLong ls 0) (fun i => ls.length - (intOf i).toNat)
  case atStart => exact ⟨0, Nat.zero_le _, rfl, rfl⟩
  case round =>
    obtain ⟨k, hk, rfl, hix⟩ := hrel
    by_cases hlt : k < ls.length
    · obtain ⟨ad, B, d, rfl, hcell, -⟩ := HA.out.at_ hlt
      rw [ix_at hlt] at hix
      by_cases h64 : 64 < ls[k].length
      · rw [if_pos h64] at hix
        have hd : decide (64 < ls[k].length) = true := decide_eq_true h64
        have HIX := Lib.hid hix
        clear hix h64
        go_wp2_with (go_at_call 158; refine (long_any _ _ _ _).mono ?_; rintro e w1 ⟨rfl, rfl⟩)
        go_ret
        exact ⟨by rw [← HIX.out]; rfl, rfl⟩
      · rw [if_neg h64] at hix
        have hd : decide (64 < ls[k].length) = false := decide_eq_false h64
        have HIX := Lib.hid hix
        clear hix h64
        go_wp2_with (go_at_call 158; refine (long_any _ _ _ _).mono ?_; rintro e w1 ⟨rfl, rfl⟩)
        go_round
        case rel => exact ⟨k + 1, by omega, by go_num, HIX.out⟩
        case measure => simp [intOf]; omega
    · have hz : ls.drop k = [] := List.drop_eq_nil_iff.2 (by omega)
      rw [hz] at hix
      have HIX := Lib.hid hix
      clear hix hz
      go_wp2
      go_ret
      exact ⟨by rw [← HIX.out]; rfl, rfl⟩

theorem contains_any (w : World) (X : Nat → Prop) (A : Option Addr) (c : Nat) (ls : List Tx) (ha : Ls w X (.slice A ls.length c) ls) (hl : ls.length ≤ 140737488355328) :
    Calls Tryz.prog 157 #[.slice A ls.length c, .func (.func 158) #[] #[]] w fun e w' => e = .returned (.bool (!(ls.all fun x => decide (x.length ≤ 64)))) ∧ w = w' := by
  have HC := Lib.hid (index_any w X A c ls ha hl)
  rw [← ix_all ls 0]
  clear ha
  go_enter Tryz.func157, Tryz.ntmps157
  go_wp2_with (go_at_call 168; refine HC.out.mono ?_; rintro e w1 ⟨rfl, rfl⟩)
  go_ret
  exact ⟨rfl, rfl⟩

theorem arerecs_any (w : World) (X : Nat → Prop) (A : Option Addr) (c : Nat) (ls : List Tx) (ha : Ls w X (.slice A ls.length c) ls) (hl : ls.length ≤ 140737488355328) :
    Calls Tryz.prog 135 #[.slice A ls.length c] w fun e w' => e = .returned (.bool (areRecs ls)) ∧ w = w' := by
  have HC := Lib.hid (contains_any w X A c ls ha hl)
  clear ha
  unfold areRecs
  generalize (ls.all fun x => decide (x.length ≤ 64)) = q at *
  by_cases h0 : 0 < ls.length
  · have d0 : decide (0 < (ls.length : Int)) = true := decide_eq_true (by omega)
    have d0' : decide (0 < ls.length) = true := decide_eq_true h0
    by_cases h4 : ls.length ≤ 4
    · have d4 : decide ((ls.length : Int) ≤ 4) = true := decide_eq_true (by omega)
      have d4' : decide (ls.length ≤ 4) = true := decide_eq_true h4
      rw [d0', d4']
      clear d0' d4' d0 d4
      go_enter Tryz.func135, Tryz.ntmps135
      go_wp2_with (go_at_call 157; refine HC.out.mono ?_; rintro e w1 ⟨rfl, rfl⟩)
      go_ret
      exact ⟨by simp, rfl⟩
    · have d4 : decide ((ls.length : Int) ≤ 4) = false := decide_eq_false (by omega)
      have h4' : 4 < ls.length := by omega
      have d4' : decide (ls.length ≤ 4) = false := decide_eq_false h4
      rw [d0', d4']
      clear d0' d4' d0 d4
      go_enter Tryz.func135, Tryz.ntmps135
      go_wp2
      go_ret
      exact ⟨rfl, rfl⟩
  · have d0 : decide (0 < (ls.length : Int)) = false := decide_eq_false (by omega)
    have d0' : decide (0 < ls.length) = false := decide_eq_false h0
    rw [d0']
    clear d0' d0
    go_enter Tryz.func135, Tryz.ntmps135
    go_wp2
    go_ret
    exact ⟨rfl, rfl⟩

end Go.Proofs.YtobphijbhghgmaaGreat.Pe

/-
  Layer 6 (op): the contract of holdMore, kind by kind.
-/
namespace Go.Proofs.YtobphijbhghgmaaGreat.Pf
set_option linter.unusedSimpArgs false
open Go Go.RowKit Ck Kw Pm Pa Pe
set_option linter.unusedVariables false

set_option maxHeartbeats 2000000 in
theorem more_0 (o : O) (A : Option Addr) (c : Nat) (hk : o.kind = 0) (w : World) (hl : o.recs.length ≤ 140737488355328) :
    Calls Tryz.prog 133 #[FV 0, OV o A c] w fun e w' => e = .returned (.bool (more o)) ∧ Below w.heap.size w w' := by
  have hF : FV 0 = .agg #[.bool false, .bool false, .bool false, .bool false] := rfl
  rw [hF]
  have hm : more o = ((!hasT 0 && !o.topic.isEmpty) || (!hasG 0 && !o.group.isEmpty) || (!hasO 0 && (o.off != 0)) || (!hasR 0 && !o.recs.isEmpty)) := by rw [more, hk]
  have hT : hasT 0 = false := rfl
  have hG : hasG 0 = false := rfl
  have hO : hasO 0 = false := rfl
  have hR : hasR 0 = false := rfl
  rw [hm, hT, hG, hO, hR]
  clear hm hT hG hO hR hF
  obtain ⟨kind, topic, group, off, recs⟩ := o
  simp only at hk hl ⊢
  unfold OV
  simp only
  subst hk
  by_cases h_topic : topic.isEmpty = true
  · have e_topic := List.isEmpty_iff.1 h_topic
    subst e_topic
    clear h_topic
    by_cases h_group : group.isEmpty = true
    · have e_group := List.isEmpty_iff.1 h_group
      subst e_group
      clear h_group
      by_cases h_off : off = 0
      · subst h_off
        by_cases h_recs : recs.isEmpty = true
        · have e_recs := List.isEmpty_iff.1 h_recs
          subst e_recs
          clear h_recs
          go_enter Tryz.func133, Tryz.ntmps133
          go_wp2
          go_ret
          exact ⟨by simp_all, ((Below.refl _ w).alloc (Nat.le_refl _) _).alloc (by simp) _⟩
        · have e_recs := Bool.eq_false_iff.2 h_recs
          have p_recs : 0 < recs.length := by cases recs with | nil => exact absurd rfl h_recs | cons _ _ => simp
          clear h_recs
          go_enter Tryz.func133, Tryz.ntmps133
          go_wp2
          go_ret
          exact ⟨by simp_all, ((Below.refl _ w).alloc (Nat.le_refl _) _).alloc (by simp) _⟩
      · have e_off : (off == 0) = false := beq_eq_false_iff_ne.2 h_off
        have n_off : (off != 0) = true := by rw [bne, e_off]; rfl
        clear h_off
        go_enter Tryz.func133, Tryz.ntmps133
        go_wp2
        go_ret
        exact ⟨by simp_all, ((Below.refl _ w).alloc (Nat.le_refl _) _).alloc (by simp) _⟩
    · have e_group := Bool.eq_false_iff.2 h_group
      clear h_group
      go_enter Tryz.func133, Tryz.ntmps133
      go_wp2
      go_ret
      exact ⟨by simp_all, ((Below.refl _ w).alloc (Nat.le_refl _) _).alloc (by simp) _⟩
  · have e_topic := Bool.eq_false_iff.2 h_topic
    clear h_topic
    go_enter Tryz.func133, Tryz.ntmps133
    go_wp2
    go_ret
    exact ⟨by simp_all, ((Below.refl _ w).alloc (Nat.le_refl _) _).alloc (by simp) _⟩

set_option maxHeartbeats 2000000 in
theorem more_1 (o : O) (A : Option Addr) (c : Nat) (hk : o.kind = 1) (w : World) (hl : o.recs.length ≤ 140737488355328) :
    Calls Tryz.prog 133 #[FV 1, OV o A c] w fun e w' => e = .returned (.bool (more o)) ∧ Below w.heap.size w w' := by
  have hF : FV 1 = .agg #[.bool true, .bool false, .bool false, .bool false] := rfl
  rw [hF]
  have hm : more o = ((!hasT 1 && !o.topic.isEmpty) || (!hasG 1 && !o.group.isEmpty) || (!hasO 1 && (o.off != 0)) || (!hasR 1 && !o.recs.isEmpty)) := by rw [more, hk]
  have hT : hasT 1 = true := rfl
  have hG : hasG 1 = false := rfl
  have hO : hasO 1 = false := rfl
  have hR : hasR 1 = false := rfl
  rw [hm, hT, hG, hO, hR]
  clear hm hT hG hO hR hF
  obtain ⟨kind, topic, group, off, recs⟩ := o
  simp only at hk hl ⊢
  unfold OV
  simp only
  subst hk
  by_cases h_group : group.isEmpty = true
  · have e_group := List.isEmpty_iff.1 h_group
    subst e_group
    clear h_group
    by_cases h_off : off = 0
    · subst h_off
      by_cases h_recs : recs.isEmpty = true
      · have e_recs := List.isEmpty_iff.1 h_recs
        subst e_recs
        clear h_recs
        go_enter Tryz.func133, Tryz.ntmps133
        go_wp2
        go_ret
        exact ⟨by simp_all, ((Below.refl _ w).alloc (Nat.le_refl _) _).alloc (by simp) _⟩
      · have e_recs := Bool.eq_false_iff.2 h_recs
        have p_recs : 0 < recs.length := by cases recs with | nil => exact absurd rfl h_recs | cons _ _ => simp
        clear h_recs
        go_enter Tryz.func133, Tryz.ntmps133
        go_wp2
        go_ret
        exact ⟨by simp_all, ((Below.refl _ w).alloc (Nat.le_refl _) _).alloc (by simp) _⟩
    · have e_off : (off == 0) = false := beq_eq_false_iff_ne.2 h_off
      have n_off : (off != 0) = true := by rw [bne, e_off]; rfl
      clear h_off
      go_enter Tryz.func133, Tryz.ntmps133
      go_wp2
      go_ret
      exact ⟨by simp_all, ((Below.refl _ w).alloc (Nat.le_refl _) _).alloc (by simp) _⟩
  · have e_group := Bool.eq_false_iff.2 h_group
    clear h_group
    go_enter Tryz.func133, Tryz.ntmps133
    go_wp2
    go_ret
    exact ⟨by simp_all, ((Below.refl _ w).alloc (Nat.le_refl _) _).alloc (by simp) _⟩

set_option maxHeartbeats 2000000 in
theorem more_2 (o : O) (A : Option Addr) (c : Nat) (hk : o.kind = 2) (w : World) (hl : o.recs.length ≤ 140737488355328) :
    Calls Tryz.prog 133 #[FV 2, OV o A c] w fun e w' => e = .returned (.bool (more o)) ∧ Below w.heap.size w w' := by
  have hF : FV 2 = .agg #[.bool true, .bool false, .bool false, .bool true] := rfl
  rw [hF]
  have hm : more o = ((!hasT 2 && !o.topic.isEmpty) || (!hasG 2 && !o.group.isEmpty) || (!hasO 2 && (o.off != 0)) || (!hasR 2 && !o.recs.isEmpty)) := by rw [more, hk]
  have hT : hasT 2 = true := rfl
  have hG : hasG 2 = false := rfl
  have hO : hasO 2 = false := rfl
  have hR : hasR 2 = true := rfl
  rw [hm, hT, hG, hO, hR]
  clear hm hT hG hO hR hF
  obtain ⟨kind, topic, group, off, recs⟩ := o
  simp only at hk hl ⊢
  unfold OV
  simp only
  subst hk
  by_cases h_group : group.isEmpty = true
  · have e_group := List.isEmpty_iff.1 h_group
    subst e_group
    clear h_group
    by_cases h_off : off = 0
    · subst h_off
      go_enter Tryz.func133, Tryz.ntmps133
      go_wp2
      go_ret
      exact ⟨by simp_all, ((Below.refl _ w).alloc (Nat.le_refl _) _).alloc (by simp) _⟩
    · have e_off : (off == 0) = false := beq_eq_false_iff_ne.2 h_off
      have n_off : (off != 0) = true := by rw [bne, e_off]; rfl
      clear h_off
      go_enter Tryz.func133, Tryz.ntmps133
      go_wp2
      go_ret
      exact ⟨by simp_all, ((Below.refl _ w).alloc (Nat.le_refl _) _).alloc (by simp) _⟩
  · have e_group := Bool.eq_false_iff.2 h_group
    clear h_group
    go_enter Tryz.func133, Tryz.ntmps133
    go_wp2
    go_ret
    exact ⟨by simp_all, ((Below.refl _ w).alloc (Nat.le_refl _) _).alloc (by simp) _⟩

set_option maxHeartbeats 2000000 in
theorem more_3 (o : O) (A : Option Addr) (c : Nat) (hk : o.kind = 3) (w : World) (hl : o.recs.length ≤ 140737488355328) :
    Calls Tryz.prog 133 #[FV 3, OV o A c] w fun e w' => e = .returned (.bool (more o)) ∧ Below w.heap.size w w' := by
  have hF : FV 3 = .agg #[.bool true, .bool true, .bool true, .bool false] := rfl
  rw [hF]
  have hm : more o = ((!hasT 3 && !o.topic.isEmpty) || (!hasG 3 && !o.group.isEmpty) || (!hasO 3 && (o.off != 0)) || (!hasR 3 && !o.recs.isEmpty)) := by rw [more, hk]
  have hT : hasT 3 = true := rfl
  have hG : hasG 3 = true := rfl
  have hO : hasO 3 = true := rfl
  have hR : hasR 3 = false := rfl
  rw [hm, hT, hG, hO, hR]
  clear hm hT hG hO hR hF
  obtain ⟨kind, topic, group, off, recs⟩ := o
  simp only at hk hl ⊢
  unfold OV
  simp only
  subst hk
  by_cases h_recs : recs.isEmpty = true
  · have e_recs := List.isEmpty_iff.1 h_recs
    subst e_recs
    clear h_recs
    go_enter Tryz.func133, Tryz.ntmps133
    go_wp2
    go_ret
    exact ⟨by simp_all, ((Below.refl _ w).alloc (Nat.le_refl _) _).alloc (by simp) _⟩
  · have e_recs := Bool.eq_false_iff.2 h_recs
    have p_recs : 0 < recs.length := by cases recs with | nil => exact absurd rfl h_recs | cons _ _ => simp
    clear h_recs
    go_enter Tryz.func133, Tryz.ntmps133
    go_wp2
    go_ret
    exact ⟨by simp_all, ((Below.refl _ w).alloc (Nat.le_refl _) _).alloc (by simp) _⟩

set_option maxHeartbeats 2000000 in
theorem more_4 (o : O) (A : Option Addr) (c : Nat) (hk : o.kind = 4) (w : World) (hl : o.recs.length ≤ 140737488355328) :
    Calls Tryz.prog 133 #[FV 4, OV o A c] w fun e w' => e = .returned (.bool (more o)) ∧ Below w.heap.size w w' := by
  have hF : FV 4 = .agg #[.bool true, .bool false, .bool true, .bool false] := rfl
  rw [hF]
  have hm : more o = ((!hasT 4 && !o.topic.isEmpty) || (!hasG 4 && !o.group.isEmpty) || (!hasO 4 && (o.off != 0)) || (!hasR 4 && !o.recs.isEmpty)) := by rw [more, hk]
  have hT : hasT 4 = true := rfl
  have hG : hasG 4 = false := rfl
  have hO : hasO 4 = true := rfl
  have hR : hasR 4 = false := rfl
  rw [hm, hT, hG, hO, hR]
  clear hm hT hG hO hR hF
  obtain ⟨kind, topic, group, off, recs⟩ := o
  simp only at hk hl ⊢
  unfold OV
  simp only
  subst hk
  by_cases h_group : group.isEmpty = true
  · have e_group := List.isEmpty_iff.1 h_group
    subst e_group
    clear h_group
    by_cases h_recs : recs.isEmpty = true
    · have e_recs := List.isEmpty_iff.1 h_recs
      subst e_recs
      clear h_recs
      go_enter Tryz.func133, Tryz.ntmps133
      go_wp2
      go_ret
      exact ⟨by simp_all, ((Below.refl _ w).alloc (Nat.le_refl _) _).alloc (by simp) _⟩
    · have e_recs := Bool.eq_false_iff.2 h_recs
      have p_recs : 0 < recs.length := by cases recs with | nil => exact absurd rfl h_recs | cons _ _ => simp
      clear h_recs
      go_enter Tryz.func133, Tryz.ntmps133
      go_wp2
      go_ret
      exact ⟨by simp_all, ((Below.refl _ w).alloc (Nat.le_refl _) _).alloc (by simp) _⟩
  · have e_group := Bool.eq_false_iff.2 h_group
    clear h_group
    go_enter Tryz.func133, Tryz.ntmps133
    go_wp2
    go_ret
    exact ⟨by simp_all, ((Below.refl _ w).alloc (Nat.le_refl _) _).alloc (by simp) _⟩

end Go.Proofs.YtobphijbhghgmaaGreat.Pf

/-
  Layer 6 (op): the contract of Check, kind by kind.
-/
namespace Go.Proofs.YtobphijbhghgmaaGreat.Pg
set_option linter.unusedSimpArgs false
open Go Go.RowKit Ck Kw Pm Pa Pe Pf
set_option linter.unusedVariables false

/-- An operation's cells. -/
def OC (o : O) (A : Option Addr) (c : Nat) : Array Value := #[.int .i64 o.kind, .string ⟨o.topic.toArray⟩, .string ⟨o.group.toArray⟩, .int .i64 o.off, .slice A o.recs.length c]
/-- The operation in block g. -/
def OB (W : World) (g : Nat) (o : O) (A : Option Addr) (c : Nat) : Prop := Blk W g 98 (OC o A c)
theorem OB.cells {W : World} {g : Nat} {o : O} {A : Option Addr} {c : Nat} (h : OB W g o A c) :
    W.cell? ⟨g, 0, none⟩ = some (.int .i64 o.kind) ∧ W.cell? ⟨g, 1, none⟩ = some (.string ⟨o.topic.toArray⟩) ∧ W.cell? ⟨g, 2, none⟩ = some (.string ⟨o.group.toArray⟩) ∧ W.cell? ⟨g, 3, none⟩ = some (.int .i64 o.off) ∧ W.cell? ⟨g, 4, none⟩ = some (.slice A o.recs.length c) :=
  ⟨Blk.cell h 0, Blk.cell h 1, Blk.cell h 2, Blk.cell h 3, Blk.cell h 4⟩
/-- The fields of a kind in block g. -/
def FB (W : World) (g : Nat) (k : Int) : Prop := Blk W g 207 #[.bool (hasT k), .bool (hasG k), .bool (hasO k), .bool (hasR k)]
theorem FB.cells {W : World} {g : Nat} {k : Int} (h : FB W g k) : W.cell? ⟨g, 0, none⟩ = some (.bool (hasT k)) ∧ W.cell? ⟨g, 1, none⟩ = some (.bool (hasG k)) ∧ W.cell? ⟨g, 2, none⟩ = some (.bool (hasO k)) ∧ W.cell? ⟨g, 3, none⟩ = some (.bool (hasR k)) :=
  ⟨Blk.cell h 0, Blk.cell h 1, Blk.cell h 2, Blk.cell h 3⟩
/-- Both stand there, beside what was there. -/
structure CK (w0 : World) (g1 g3 : Nat) (o : O) (A : Option Addr) (c : Nat) (W : World) : Prop where
  below : Below w0.heap.size w0 W
  op : OB W g1 o A c
  fields : FB W g3 o.kind
theorem CK.later {w0 W W' : World} {g1 g3 : Nat} {o : O} {A : Option Addr} {c : Nat} (h : CK w0 g1 g3 o A c W) (b : Below W.heap.size W W') : CK w0 g1 g3 o A c W' :=
  ⟨h.below.trans (b.mono h.below.size), Blk.below h.op b (Blk.lt h.op), Blk.below h.fields b (Blk.lt h.fields)⟩
theorem ck_start {w w2 : World} {o : O} {A : Option Addr} {c : Nat} (b : Below (w.alloc (.cells (OC o A c) 98)).heap.size (w.alloc (.cells (OC o A c) 98)) w2) :
    CK w w.heap.size w2.heap.size o A c (w2.alloc (.cells #[.bool (hasT o.kind), .bool (hasG o.kind), .bool (hasO o.kind), .bool (hasR o.kind)] 207)) := by
  have b0 : Below w.heap.size w (w.alloc (.cells (OC o A c) 98)) := (Below.refl _ w).alloc (Nat.le_refl _) _
  have b1 : Below w.heap.size w w2 := b0.trans (b.mono b0.size)
  refine ⟨b1.alloc b1.size _, ?_, Blk.new w2 _ _⟩
  have h1 : OB (w.alloc (.cells (OC o A c) 98)) w.heap.size o A c := Blk.new w _ _
  have h2 : OB w2 w.heap.size o A c := Blk.below h1 b (Blk.lt h1)
  exact Blk.alloc h2 _

set_option maxRecDepth 100000 in
set_option maxHeartbeats 2000000 in
theorem check_none (o : O) (A : Option Addr) (c : Nat) (hk : known o.kind = false) (w : World) :
    Calls Tryz.prog 110 #[OV o A c] w fun e w' => e = .returned (.int .i64 (check o)) ∧ Below w.heap.size w w' := by
  have hc : check o = 60 := by simp [check, hk]
  rw [hc]
  have HK := Lib.hid hk
  clear hc hk
  obtain ⟨kind, topic, group, off, recs⟩ := o
  unfold OV
  simp only at HK ⊢
  go_enter Tryz.func110, Tryz.ntmps110
  go_wp2_with fail
  refine (fields_any kind _).mono ?_
  rintro e w2 ⟨he, hb2⟩
  rw [HK.out] at he
  subst he
  have HC := Lib.hid (ck_start (o := ⟨kind, topic, group, off, recs⟩) hb2)
  clear hb2
  unfold FV
  go_wp2_with fail
  go_ret
  exact ⟨rfl, HC.out.below⟩

set_option maxRecDepth 100000 in
set_option maxHeartbeats 4000000 in
theorem check_0 (o : O) (A : Option Addr) (c : Nat) (X : Nat → Prop) (hk : o.kind = 0) (w : World) (hl : o.recs.length ≤ 140737488355328) (hls : Ls w X (.slice A o.recs.length c) o.recs) :
    Calls Tryz.prog 110 #[OV o A c] w fun e w' => e = .returned (.int .i64 (check o)) ∧ Below w.heap.size w w' := by
  have HM := fun W => Lib.hid (more_0 o A c hk W hl)
  obtain ⟨kind, topic, group, off, recs⟩ := o
  unfold OV at HM ⊢
  simp only at hk hl hls HM ⊢
  subst hk
  have HLS := Lib.hid hls
  have HL := Lib.hid hl
  clear hls hl
  have hF : FV 0 = .agg #[.bool false, .bool false, .bool false, .bool false] := rfl
  rw [hF] at HM
  have HMM := Lib.hid HM
  clear HM
  go_enter Tryz.func110, Tryz.ntmps110
  go_wp2_with fail
  refine (fields_any 0 _).mono ?_
  rintro e w2 ⟨he, hb2⟩
  have he : e = .returned (.tuple #[.agg #[.bool false, .bool false, .bool false, .bool false], .bool true]) := he
  subst he
  have HC := Lib.hid (ck_start (o := ⟨0, topic, group, off, recs⟩) hb2)
  have HC : Hid (CK w w.heap.size w2.heap.size ⟨0, topic, group, off, recs⟩ A c (w2.alloc (.cells #[.bool false, .bool false, .bool false, .bool false] 207))) := HC
  clear hb2 hF
  obtain ⟨a0, a1, a2, a3, a4⟩ := HC.out.op.cells
  simp only at a0 a1 a2 a3 a4
  go_wp2_with fail
  refine (HMM.out _).out.mono ?_
  clear a0 a1 a2 a3 a4
  rintro e w5 ⟨he, hb⟩
  have HC5 := Lib.hid (HC.out.later hb)
  clear hb
  obtain ⟨a0, a1, a2, a3, a4⟩ := HC5.out.op.cells
  obtain ⟨b0, b1, b2, b3⟩ := HC5.out.fields.cells
  simp only at a0 a1 a2 a3 a4
  have b0 : w5.cell? _ = some (.bool false) := b0
  have b1 : w5.cell? _ = some (.bool false) := b1
  have b2 : w5.cell? _ = some (.bool false) := b2
  have b3 : w5.cell? _ = some (.bool false) := b3
  by_cases hm : more ⟨0, topic, group, off, recs⟩ = true
  · rw [hm] at he
    subst he
    have HX := Lib.hid hm
    clear hm
    go_wp2_with fail
    go_ret
    exact ⟨by rw [show check ⟨0, topic, group, off, recs⟩ = 60 from by simp [check, known, badName, badRecs, badOff, hasT, hasG, hasO, hasR, HX.out]]; rfl, HC5.out.below⟩
  · have hm := Bool.eq_false_iff.2 hm
    rw [hm] at he
    subst he
    have HX := Lib.hid hm
    clear hm
    go_wp2_with fail
    go_ret
    exact ⟨by rw [show check ⟨0, topic, group, off, recs⟩ = 0 from by simp [check, known, badName, badRecs, badOff, hasT, hasG, hasO, hasR, HX.out]]; rfl, HC5.out.below⟩

set_option maxRecDepth 100000 in
set_option maxHeartbeats 4000000 in
theorem check_1 (o : O) (A : Option Addr) (c : Nat) (X : Nat → Prop) (hk : o.kind = 1) (w : World) (hl : o.recs.length ≤ 140737488355328) (hls : Ls w X (.slice A o.recs.length c) o.recs) :
    Calls Tryz.prog 110 #[OV o A c] w fun e w' => e = .returned (.int .i64 (check o)) ∧ Below w.heap.size w w' := by
  have HM := fun W => Lib.hid (more_1 o A c hk W hl)
  obtain ⟨kind, topic, group, off, recs⟩ := o
  unfold OV at HM ⊢
  simp only at hk hl hls HM ⊢
  subst hk
  have HLS := Lib.hid hls
  have HL := Lib.hid hl
  clear hls hl
  have hF : FV 1 = .agg #[.bool true, .bool false, .bool false, .bool false] := rfl
  rw [hF] at HM
  have HMM := Lib.hid HM
  clear HM
  go_enter Tryz.func110, Tryz.ntmps110
  go_wp2_with fail
  refine (fields_any 1 _).mono ?_
  rintro e w2 ⟨he, hb2⟩
  have he : e = .returned (.tuple #[.agg #[.bool true, .bool false, .bool false, .bool false], .bool true]) := he
  subst he
  have HC := Lib.hid (ck_start (o := ⟨1, topic, group, off, recs⟩) hb2)
  have HC : Hid (CK w w.heap.size w2.heap.size ⟨1, topic, group, off, recs⟩ A c (w2.alloc (.cells #[.bool true, .bool false, .bool false, .bool false] 207))) := HC
  clear hb2 hF
  obtain ⟨a0, a1, a2, a3, a4⟩ := HC.out.op.cells
  simp only at a0 a1 a2 a3 a4
  go_wp2_with fail
  refine (HMM.out _).out.mono ?_
  clear a0 a1 a2 a3 a4
  rintro e w5 ⟨he, hb⟩
  have HC5 := Lib.hid (HC.out.later hb)
  clear hb
  obtain ⟨a0, a1, a2, a3, a4⟩ := HC5.out.op.cells
  obtain ⟨b0, b1, b2, b3⟩ := HC5.out.fields.cells
  simp only at a0 a1 a2 a3 a4
  have b0 : w5.cell? _ = some (.bool true) := b0
  have b1 : w5.cell? _ = some (.bool false) := b1
  have b2 : w5.cell? _ = some (.bool false) := b2
  have b3 : w5.cell? _ = some (.bool false) := b3
  by_cases hm : more ⟨1, topic, group, off, recs⟩ = true
  · rw [hm] at he
    subst he
    have HX := Lib.hid hm
    clear hm
    go_wp2_with fail
    go_ret
    exact ⟨by rw [show check ⟨1, topic, group, off, recs⟩ = 60 from by simp [check, known, badName, badRecs, badOff, hasT, hasG, hasO, hasR, HX.out]]; rfl, HC5.out.below⟩
  · have hm := Bool.eq_false_iff.2 hm
    rw [hm] at he
    subst he
    have HX := Lib.hid hm
    clear hm
    go_wp2_with fail
    refine (name_any topic _).mono ?_
    rintro e w6 ⟨he, hb⟩
    have HC6 := Lib.hid (HC5.out.later hb)
    clear hb a0 a1 a2 a3 a4 b0 b1 b2 b3
    obtain ⟨a0, a1, a2, a3, a4⟩ := HC6.out.op.cells
    obtain ⟨b0, b1, b2, b3⟩ := HC6.out.fields.cells
    simp only at a0 a1 a2 a3 a4
    have b0 : w6.cell? _ = some (.bool true) := b0
    have b1 : w6.cell? _ = some (.bool false) := b1
    have b2 : w6.cell? _ = some (.bool false) := b2
    have b3 : w6.cell? _ = some (.bool false) := b3
    by_cases hn : name topic = true
    · rw [hn] at he
      subst he
      have HN_topic := Lib.hid hn
      clear hn
      go_wp2_with fail
      go_ret
      exact ⟨by rw [show check ⟨1, topic, group, off, recs⟩ = 0 from by simp [check, known, badName, badRecs, badOff, hasT, hasG, hasO, hasR, HX.out, HN_topic.out]]; rfl, HC6.out.below⟩
    · have hn := Bool.eq_false_iff.2 hn
      rw [hn] at he
      subst he
      have HN_topic := Lib.hid hn
      clear hn
      go_wp2_with fail
      go_ret
      exact ⟨by rw [show check ⟨1, topic, group, off, recs⟩ = 61 from by simp [check, known, badName, badRecs, badOff, hasT, hasG, hasO, hasR, HX.out, HN_topic.out]]; rfl, HC6.out.below⟩

set_option maxRecDepth 100000 in
set_option maxHeartbeats 4000000 in
theorem check_2 (o : O) (A : Option Addr) (c : Nat) (X : Nat → Prop) (hk : o.kind = 2) (w : World) (hl : o.recs.length ≤ 140737488355328) (hls : Ls w X (.slice A o.recs.length c) o.recs) :
    Calls Tryz.prog 110 #[OV o A c] w fun e w' => e = .returned (.int .i64 (check o)) ∧ Below w.heap.size w w' := by
  have HM := fun W => Lib.hid (more_2 o A c hk W hl)
  obtain ⟨kind, topic, group, off, recs⟩ := o
  unfold OV at HM ⊢
  simp only at hk hl hls HM ⊢
  subst hk
  have HLS := Lib.hid hls
  have HL := Lib.hid hl
  clear hls hl
  have hF : FV 2 = .agg #[.bool true, .bool false, .bool false, .bool true] := rfl
  rw [hF] at HM
  have HMM := Lib.hid HM
  clear HM
  go_enter Tryz.func110, Tryz.ntmps110
  go_wp2_with fail
  refine (fields_any 2 _).mono ?_
  rintro e w2 ⟨he, hb2⟩
  have he : e = .returned (.tuple #[.agg #[.bool true, .bool false, .bool false, .bool true], .bool true]) := he
  subst he
  have HC := Lib.hid (ck_start (o := ⟨2, topic, group, off, recs⟩) hb2)
  have HC : Hid (CK w w.heap.size w2.heap.size ⟨2, topic, group, off, recs⟩ A c (w2.alloc (.cells #[.bool true, .bool false, .bool false, .bool true] 207))) := HC
  clear hb2 hF
  obtain ⟨a0, a1, a2, a3, a4⟩ := HC.out.op.cells
  simp only at a0 a1 a2 a3 a4
  go_wp2_with fail
  refine (HMM.out _).out.mono ?_
  clear a0 a1 a2 a3 a4
  rintro e w5 ⟨he, hb⟩
  have HC5 := Lib.hid (HC.out.later hb)
  clear hb
  obtain ⟨a0, a1, a2, a3, a4⟩ := HC5.out.op.cells
  obtain ⟨b0, b1, b2, b3⟩ := HC5.out.fields.cells
  simp only at a0 a1 a2 a3 a4
  have b0 : w5.cell? _ = some (.bool true) := b0
  have b1 : w5.cell? _ = some (.bool false) := b1
  have b2 : w5.cell? _ = some (.bool false) := b2
  have b3 : w5.cell? _ = some (.bool true) := b3
  by_cases hm : more ⟨2, topic, group, off, recs⟩ = true
  · rw [hm] at he
    subst he
    have HX := Lib.hid hm
    clear hm
    go_wp2_with fail
    go_ret
    exact ⟨by rw [show check ⟨2, topic, group, off, recs⟩ = 60 from by simp [check, known, badName, badRecs, badOff, hasT, hasG, hasO, hasR, HX.out]]; rfl, HC5.out.below⟩
  · have hm := Bool.eq_false_iff.2 hm
    rw [hm] at he
    subst he
    have HX := Lib.hid hm
    clear hm
    go_wp2_with fail
    refine (name_any topic _).mono ?_
    rintro e w6 ⟨he, hb⟩
    have HC6 := Lib.hid (HC5.out.later hb)
    clear hb a0 a1 a2 a3 a4 b0 b1 b2 b3
    obtain ⟨a0, a1, a2, a3, a4⟩ := HC6.out.op.cells
    obtain ⟨b0, b1, b2, b3⟩ := HC6.out.fields.cells
    simp only at a0 a1 a2 a3 a4
    have b0 : w6.cell? _ = some (.bool true) := b0
    have b1 : w6.cell? _ = some (.bool false) := b1
    have b2 : w6.cell? _ = some (.bool false) := b2
    have b3 : w6.cell? _ = some (.bool true) := b3
    by_cases hn : name topic = true
    · rw [hn] at he
      subst he
      have HN_topic := Lib.hid hn
      clear hn
      go_wp2_with fail
      refine (arerecs_any _ X A c recs (HLS.out.after HC6.out.below) HL.out).mono ?_
      rintro e w9 ⟨he, rfl⟩
      by_cases hn : areRecs recs = true
      · rw [hn] at he
        subst he
        have HR := Lib.hid hn
        clear hn
        go_wp2_with fail
        go_ret
        exact ⟨by rw [show check ⟨2, topic, group, off, recs⟩ = 0 from by simp [check, known, badName, badRecs, badOff, hasT, hasG, hasO, hasR, HX.out, HN_topic.out, HR.out]]; rfl, HC6.out.below⟩
      · have hn := Bool.eq_false_iff.2 hn
        rw [hn] at he
        subst he
        have HR := Lib.hid hn
        clear hn
        go_wp2_with fail
        go_ret
        exact ⟨by rw [show check ⟨2, topic, group, off, recs⟩ = 62 from by simp [check, known, badName, badRecs, badOff, hasT, hasG, hasO, hasR, HX.out, HN_topic.out, HR.out]]; rfl, HC6.out.below⟩
    · have hn := Bool.eq_false_iff.2 hn
      rw [hn] at he
      subst he
      have HN_topic := Lib.hid hn
      clear hn
      go_wp2_with fail
      go_ret
      exact ⟨by rw [show check ⟨2, topic, group, off, recs⟩ = 61 from by simp [check, known, badName, badRecs, badOff, hasT, hasG, hasO, hasR, HX.out, HN_topic.out]]; rfl, HC6.out.below⟩

set_option maxRecDepth 100000 in
set_option maxHeartbeats 4000000 in
theorem check_3 (o : O) (A : Option Addr) (c : Nat) (X : Nat → Prop) (hk : o.kind = 3) (w : World) (hl : o.recs.length ≤ 140737488355328) (hls : Ls w X (.slice A o.recs.length c) o.recs) :
    Calls Tryz.prog 110 #[OV o A c] w fun e w' => e = .returned (.int .i64 (check o)) ∧ Below w.heap.size w w' := by
  have HM := fun W => Lib.hid (more_3 o A c hk W hl)
  obtain ⟨kind, topic, group, off, recs⟩ := o
  unfold OV at HM ⊢
  simp only at hk hl hls HM ⊢
  subst hk
  have HLS := Lib.hid hls
  have HL := Lib.hid hl
  clear hls hl
  have hF : FV 3 = .agg #[.bool true, .bool true, .bool true, .bool false] := rfl
  rw [hF] at HM
  have HMM := Lib.hid HM
  clear HM
  go_enter Tryz.func110, Tryz.ntmps110
  go_wp2_with fail
  refine (fields_any 3 _).mono ?_
  rintro e w2 ⟨he, hb2⟩
  have he : e = .returned (.tuple #[.agg #[.bool true, .bool true, .bool true, .bool false], .bool true]) := he
  subst he
  have HC := Lib.hid (ck_start (o := ⟨3, topic, group, off, recs⟩) hb2)
  have HC : Hid (CK w w.heap.size w2.heap.size ⟨3, topic, group, off, recs⟩ A c (w2.alloc (.cells #[.bool true, .bool true, .bool true, .bool false] 207))) := HC
  clear hb2 hF
  obtain ⟨a0, a1, a2, a3, a4⟩ := HC.out.op.cells
  simp only at a0 a1 a2 a3 a4
  go_wp2_with fail
  refine (HMM.out _).out.mono ?_
  clear a0 a1 a2 a3 a4
  rintro e w5 ⟨he, hb⟩
  have HC5 := Lib.hid (HC.out.later hb)
  clear hb
  obtain ⟨a0, a1, a2, a3, a4⟩ := HC5.out.op.cells
  obtain ⟨b0, b1, b2, b3⟩ := HC5.out.fields.cells
  simp only at a0 a1 a2 a3 a4
  have b0 : w5.cell? _ = some (.bool true) := b0
  have b1 : w5.cell? _ = some (.bool true) := b1
  have b2 : w5.cell? _ = some (.bool true) := b2
  have b3 : w5.cell? _ = some (.bool false) := b3
  by_cases hm : more ⟨3, topic, group, off, recs⟩ = true
  · rw [hm] at he
    subst he
    have HX := Lib.hid hm
    clear hm
    go_wp2_with fail
    go_ret
    exact ⟨by rw [show check ⟨3, topic, group, off, recs⟩ = 60 from by simp [check, known, badName, badRecs, badOff, hasT, hasG, hasO, hasR, HX.out]]; rfl, HC5.out.below⟩
  · have hm := Bool.eq_false_iff.2 hm
    rw [hm] at he
    subst he
    have HX := Lib.hid hm
    clear hm
    go_wp2_with fail
    refine (name_any topic _).mono ?_
    rintro e w6 ⟨he, hb⟩
    have HC6 := Lib.hid (HC5.out.later hb)
    clear hb a0 a1 a2 a3 a4 b0 b1 b2 b3
    obtain ⟨a0, a1, a2, a3, a4⟩ := HC6.out.op.cells
    obtain ⟨b0, b1, b2, b3⟩ := HC6.out.fields.cells
    simp only at a0 a1 a2 a3 a4
    have b0 : w6.cell? _ = some (.bool true) := b0
    have b1 : w6.cell? _ = some (.bool true) := b1
    have b2 : w6.cell? _ = some (.bool true) := b2
    have b3 : w6.cell? _ = some (.bool false) := b3
    by_cases hn : name topic = true
    · rw [hn] at he
      subst he
      have HN_topic := Lib.hid hn
      clear hn
      go_wp2_with fail
      refine (name_any group _).mono ?_
      rintro e w7 ⟨he, hb⟩
      have HC7 := Lib.hid (HC6.out.later hb)
      clear hb a0 a1 a2 a3 a4 b0 b1 b2 b3
      obtain ⟨a0, a1, a2, a3, a4⟩ := HC7.out.op.cells
      obtain ⟨b0, b1, b2, b3⟩ := HC7.out.fields.cells
      simp only at a0 a1 a2 a3 a4
      have b0 : w7.cell? _ = some (.bool true) := b0
      have b1 : w7.cell? _ = some (.bool true) := b1
      have b2 : w7.cell? _ = some (.bool true) := b2
      have b3 : w7.cell? _ = some (.bool false) := b3
      by_cases hn : name group = true
      · rw [hn] at he
        subst he
        have HN_group := Lib.hid hn
        clear hn
        by_cases ho : off < 0
        · have d1 : decide (off < 0) = true := decide_eq_true ho
          clear ho
          go_wp2_with fail
          go_ret
          exact ⟨by rw [show check ⟨3, topic, group, off, recs⟩ = 60 from by simp [check, known, badName, badRecs, badOff, hasT, hasG, hasO, hasR, HX.out, HN_topic.out, HN_group.out, d1]]; rfl, HC7.out.below⟩
        · have d1 : decide (off < 0) = false := decide_eq_false ho
          by_cases hp : 9007199254740992 < off
          · have d2 : decide (9007199254740992 < off) = true := decide_eq_true hp
            clear ho hp
            go_wp2_with fail
            go_ret
            exact ⟨by rw [show check ⟨3, topic, group, off, recs⟩ = 60 from by simp [check, known, badName, badRecs, badOff, hasT, hasG, hasO, hasR, HX.out, HN_topic.out, HN_group.out, d1, d2]]; rfl, HC7.out.below⟩
          · have d2 : decide (9007199254740992 < off) = false := decide_eq_false hp
            clear ho hp
            go_wp2_with fail
            go_ret
            exact ⟨by rw [show check ⟨3, topic, group, off, recs⟩ = 0 from by simp [check, known, badName, badRecs, badOff, hasT, hasG, hasO, hasR, HX.out, HN_topic.out, HN_group.out, d1, d2]]; rfl, HC7.out.below⟩
      · have hn := Bool.eq_false_iff.2 hn
        rw [hn] at he
        subst he
        have HN_group := Lib.hid hn
        clear hn
        go_wp2_with fail
        go_ret
        exact ⟨by rw [show check ⟨3, topic, group, off, recs⟩ = 61 from by simp [check, known, badName, badRecs, badOff, hasT, hasG, hasO, hasR, HX.out, HN_topic.out, HN_group.out]]; rfl, HC7.out.below⟩
    · have hn := Bool.eq_false_iff.2 hn
      rw [hn] at he
      subst he
      have HN_topic := Lib.hid hn
      clear hn
      go_wp2_with fail
      go_ret
      exact ⟨by rw [show check ⟨3, topic, group, off, recs⟩ = 61 from by simp [check, known, badName, badRecs, badOff, hasT, hasG, hasO, hasR, HX.out, HN_topic.out]]; rfl, HC6.out.below⟩

set_option maxRecDepth 100000 in
set_option maxHeartbeats 4000000 in
theorem check_4 (o : O) (A : Option Addr) (c : Nat) (X : Nat → Prop) (hk : o.kind = 4) (w : World) (hl : o.recs.length ≤ 140737488355328) (hls : Ls w X (.slice A o.recs.length c) o.recs) :
    Calls Tryz.prog 110 #[OV o A c] w fun e w' => e = .returned (.int .i64 (check o)) ∧ Below w.heap.size w w' := by
  have HM := fun W => Lib.hid (more_4 o A c hk W hl)
  obtain ⟨kind, topic, group, off, recs⟩ := o
  unfold OV at HM ⊢
  simp only at hk hl hls HM ⊢
  subst hk
  have HLS := Lib.hid hls
  have HL := Lib.hid hl
  clear hls hl
  have hF : FV 4 = .agg #[.bool true, .bool false, .bool true, .bool false] := rfl
  rw [hF] at HM
  have HMM := Lib.hid HM
  clear HM
  go_enter Tryz.func110, Tryz.ntmps110
  go_wp2_with fail
  refine (fields_any 4 _).mono ?_
  rintro e w2 ⟨he, hb2⟩
  have he : e = .returned (.tuple #[.agg #[.bool true, .bool false, .bool true, .bool false], .bool true]) := he
  subst he
  have HC := Lib.hid (ck_start (o := ⟨4, topic, group, off, recs⟩) hb2)
  have HC : Hid (CK w w.heap.size w2.heap.size ⟨4, topic, group, off, recs⟩ A c (w2.alloc (.cells #[.bool true, .bool false, .bool true, .bool false] 207))) := HC
  clear hb2 hF
  obtain ⟨a0, a1, a2, a3, a4⟩ := HC.out.op.cells
  simp only at a0 a1 a2 a3 a4
  go_wp2_with fail
  refine (HMM.out _).out.mono ?_
  clear a0 a1 a2 a3 a4
  rintro e w5 ⟨he, hb⟩
  have HC5 := Lib.hid (HC.out.later hb)
  clear hb
  obtain ⟨a0, a1, a2, a3, a4⟩ := HC5.out.op.cells
  obtain ⟨b0, b1, b2, b3⟩ := HC5.out.fields.cells
  simp only at a0 a1 a2 a3 a4
  have b0 : w5.cell? _ = some (.bool true) := b0
  have b1 : w5.cell? _ = some (.bool false) := b1
  have b2 : w5.cell? _ = some (.bool true) := b2
  have b3 : w5.cell? _ = some (.bool false) := b3
  by_cases hm : more ⟨4, topic, group, off, recs⟩ = true
  · rw [hm] at he
    subst he
    have HX := Lib.hid hm
    clear hm
    go_wp2_with fail
    go_ret
    exact ⟨by rw [show check ⟨4, topic, group, off, recs⟩ = 60 from by simp [check, known, badName, badRecs, badOff, hasT, hasG, hasO, hasR, HX.out]]; rfl, HC5.out.below⟩
  · have hm := Bool.eq_false_iff.2 hm
    rw [hm] at he
    subst he
    have HX := Lib.hid hm
    clear hm
    go_wp2_with fail
    refine (name_any topic _).mono ?_
    rintro e w6 ⟨he, hb⟩
    have HC6 := Lib.hid (HC5.out.later hb)
    clear hb a0 a1 a2 a3 a4 b0 b1 b2 b3
    obtain ⟨a0, a1, a2, a3, a4⟩ := HC6.out.op.cells
    obtain ⟨b0, b1, b2, b3⟩ := HC6.out.fields.cells
    simp only at a0 a1 a2 a3 a4
    have b0 : w6.cell? _ = some (.bool true) := b0
    have b1 : w6.cell? _ = some (.bool false) := b1
    have b2 : w6.cell? _ = some (.bool true) := b2
    have b3 : w6.cell? _ = some (.bool false) := b3
    by_cases hn : name topic = true
    · rw [hn] at he
      subst he
      have HN_topic := Lib.hid hn
      clear hn
      by_cases ho : off < 0
      · have d1 : decide (off < 0) = true := decide_eq_true ho
        clear ho
        go_wp2_with fail
        go_ret
        exact ⟨by rw [show check ⟨4, topic, group, off, recs⟩ = 60 from by simp [check, known, badName, badRecs, badOff, hasT, hasG, hasO, hasR, HX.out, HN_topic.out, d1]]; rfl, HC6.out.below⟩
      · have d1 : decide (off < 0) = false := decide_eq_false ho
        by_cases hp : 9007199254740992 < off
        · have d2 : decide (9007199254740992 < off) = true := decide_eq_true hp
          clear ho hp
          go_wp2_with fail
          go_ret
          exact ⟨by rw [show check ⟨4, topic, group, off, recs⟩ = 60 from by simp [check, known, badName, badRecs, badOff, hasT, hasG, hasO, hasR, HX.out, HN_topic.out, d1, d2]]; rfl, HC6.out.below⟩
        · have d2 : decide (9007199254740992 < off) = false := decide_eq_false hp
          clear ho hp
          go_wp2_with fail
          go_ret
          exact ⟨by rw [show check ⟨4, topic, group, off, recs⟩ = 0 from by simp [check, known, badName, badRecs, badOff, hasT, hasG, hasO, hasR, HX.out, HN_topic.out, d1, d2]]; rfl, HC6.out.below⟩
    · have hn := Bool.eq_false_iff.2 hn
      rw [hn] at he
      subst he
      have HN_topic := Lib.hid hn
      clear hn
      go_wp2_with fail
      go_ret
      exact ⟨by rw [show check ⟨4, topic, group, off, recs⟩ = 61 from by simp [check, known, badName, badRecs, badOff, hasT, hasG, hasO, hasR, HX.out, HN_topic.out]]; rfl, HC6.out.below⟩

theorem check_any (o : O) (v : Value) (X : Nat → Prop) (w : World) (h : OI w X v o) (hl : o.recs.length ≤ 140737488355328) :
    Calls Tryz.prog 110 #[v] w fun e w' => e = .returned (.int .i64 (check o)) ∧ Below w.heap.size w w' := by
  obtain ⟨A, c, rfl, hls⟩ := h
  by_cases hk : known o.kind = true
  · rcases kind_cases hk with h | h | h | h | h
    · exact check_0 o A c X h w hl hls
    · exact check_1 o A c X h w hl hls
    · exact check_2 o A c X h w hl hls
    · exact check_3 o A c X h w hl hls
    · exact check_4 o A c X h w hl hls
  · exact check_none o A c (Bool.eq_false_iff.2 hk) w

end Go.Proofs.YtobphijbhghgmaaGreat.Pg

/-
  Layer 6 (op): the document's own fields and Check, kind by kind.
-/
namespace Go.Proofs.YtobphijbhghgmaaGreat.Ph
set_option linter.unusedSimpArgs false
open Go Go.RowKit Ck Kw Pm Pa Pe Pf Pg
set_option linter.unusedVariables false

/-- The operation stands there, beside what was there. -/
structure RK (w0 : World) (g1 : Nat) (o : O) (A : Option Addr) (c : Nat) (W : World) : Prop where
  below : Below w0.heap.size w0 W
  op : OB W g1 o A c
theorem RK.later {w0 W W' : World} {g1 : Nat} {o : O} {A : Option Addr} {c : Nat} (h : RK w0 g1 o A c W) (b : Below W.heap.size W W') : RK w0 g1 o A c W' :=
  ⟨h.below.trans (b.mono h.below.size), Blk.below h.op b (Blk.lt h.op)⟩
theorem rk_start (w : World) (o : O) (A : Option Addr) (c : Nat) : RK w w.heap.size o A c (w.alloc (.cells (OC o A c) 98)) :=
  ⟨(Below.refl _ w).alloc (Nat.le_refl _) _, Blk.new w _ _⟩
theorem all_take {l : List Tx} {k : Nat} (h : k < l.length) : (l.take (k + 1)).all (fun x => decide (x.length ≤ 64)) = ((l.take k).all (fun x => decide (x.length ≤ 64)) && decide (l[k].length ≤ 64)) := by
  rw [List.take_succ_eq_append_getElem h, List.all_append]
  simp
end Go.Proofs.YtobphijbhghgmaaGreat.Ph

/-
  Contracts of layer 1's functions that put: bytes.Equal, digits, NumLen, roomy, addNum, addBytes and their kin.
-/
namespace Go.Proofs.YtobphijbhghgmaaGreat.Ca
set_option linter.unusedSimpArgs false
set_option linter.unusedVariables false
open Go Go.RowKit Ck

/-- An array of ten bytes, so many of them written. -/
def Ar (pre : List UInt8) : Array Value := (BVs pre ++ List.replicate (10 - pre.length) (Value.int .u8 0)).toArray
theorem Ar_at {pre : List UInt8} {k : Nat} (hk : k = pre.length) (h9 : k ≤ 9) : (Ar pre)[k]? = some (Value.int .u8 0) := by
  simp only [Ar, List.getElem?_toArray]
  rw [List.getElem?_append_right (by rw [BVs_len]; omega), BVs_len, List.getElem?_replicate, if_pos (by omega)]
theorem Ar_set {pre : List UInt8} {k v : Nat} (hk : k = pre.length) (h9 : k ≤ 9) (hv : v < 256) : (Ar pre).setIfInBounds k (Value.int .u8 (v : Int)) = Ar (pre ++ [UInt8.ofNat v]) := by
  subst hk
  have hr : 10 - pre.length = (9 - pre.length) + 1 := by omega
  have hr2 : 10 - (pre ++ [UInt8.ofNat v]).length = 9 - pre.length := by simp only [List.length_append, List.length_singleton]; omega
  simp only [Ar, List.setIfInBounds_toArray]
  rw [hr, hr2, List.replicate_succ, BVs_app, List.append_assoc]
  congr 1
  rw [List.set_append_right _ _ (by rw [BVs_len]; omega), BVs_len]
  simp only [Nat.sub_self, List.set_cons_zero, BVs, List.map_cons, List.map_nil, List.cons_append, List.nil_append]
  rw [BV_of hv]
theorem byte_or (m : Nat) (h : m < 18446744073709551616) : bits .or .u8 (bits .and .u64 (m : Int) 127 % 256) 128 = ((m % 128 + 128 : Nat) : Int) := by
  have h1 : bits .and .u64 (m : Int) 127 = ((m % 128 : Nat) : Int) := by
    rw [show (127 : Int) = ((127 : Nat) : Int) from rfl, u64_and_nat m 127 h (by omega), nat_mask7]
  rw [h1, show ((m % 128 : Nat) : Int) % 256 = ((m % 128 : Nat) : Int) from by omega, show (128 : Int) = ((128 : Nat) : Int) from rfl, u8_or_nat _ _ (by omega) (by omega),
    Nat.or_comm, nat_join 7 128 (m % 128) (by omega) (by omega)]
  omega
theorem Ar_size {pre : List UInt8} (h : pre.length ≤ 10) : (Ar pre).size = 10 := by
  simp only [Ar, List.size_toArray, List.length_append, BVs_len, List.length_replicate]; omega
theorem Ar_one (pre : List UInt8) : (Ar pre).all (·.oneCell') = true := by
  simp only [Ar, List.all_toArray, List.all_append, List.all_replicate, Bool.and_eq_true]
  refine ⟨List.all_eq_true.2 (BVs_one pre), ?_⟩
  split <;> rfl
theorem Blk.setRow {w : World} {g g' : Nat} {t : TypeId} {cs : Array Value} (h : Blk w g t cs) (hne : g ≠ g') (ds : Array Value) : Blk (w.setRow g' ds) g t cs := (setRow_other w g' g ds (by omega)).trans h
theorem below_setRow {B : Nat} {a w : World} (h : Below B a w) {g : Nat} (hg : B ≤ g) (ds : Array Value) : Below B a (w.setRow g ds) :=
  h.trans ⟨rfl, rfl, rfl, by simp, fun k hk => setRow_other w g k ds (by omega)⟩
theorem info_arr : (Tryz.prog.info? 137).map (·.size) = some 10 := by kernel_rfl
theorem digits_end {wr : World} {B m k n : Nat} {pre : List UInt8} {t : TypeId} (hb : Blk wr B t (Ar pre)) (hP : pre ++ Cm.enc m = Cm.enc n) (hk : k = pre.length) (hm : m < 128) :
    k + 1 = (Cm.enc n).length ∧ Blk (wr.setCell ⟨B, k, none⟩ (.int .u8 (m : Int))) B t (Ar (Cm.enc n)) := by
  have h10 := Cm.enc_len n
  rw [Cm.enc_small hm] at hP
  have hl : pre.length + 1 = (Cm.enc n).length := by rw [← hP]; simp
  refine ⟨by omega, ?_⟩
  have := hb.set_ k (.int .u8 (m : Int))
  rw [Ar_set hk (by omega) (by omega), hP] at this
  exact this
theorem digits_step {wr : World} {B m k n : Nat} {pre : List UInt8} {t : TypeId} (hb : Blk wr B t (Ar pre)) (hP : pre ++ Cm.enc m = Cm.enc n) (hk : k = pre.length) (h9 : k ≤ 8) (hm : m < 18446744073709551616) (hbig : 128 ≤ m) :
    Value.int .u64 ((m : Int) / 128) = .int .u64 ((m / 128 : Nat) : Int) ∧ k + 1 = (pre ++ [UInt8.ofNat (m % 128 + 128)]).length ∧ (pre ++ [UInt8.ofNat (m % 128 + 128)]) ++ Cm.enc (m / 128) = Cm.enc n ∧ m / 128 < 18446744073709551616 ∧
      Blk (wr.setCell ⟨B, k, none⟩ (.int .u8 (bits .or .u8 (bits .and .u64 (m : Int) 127 % 256) 128))) B t (Ar (pre ++ [UInt8.ofNat (m % 128 + 128)])) := by
  refine ⟨by simp, by simp [hk], ?_, by omega, ?_⟩
  · rw [← hP, Cm.enc_big hbig hm, List.append_assoc]
    rfl
  · have := hb.set_ k (.int .u8 (bits .or .u8 (bits .and .u64 (m : Int) 127 % 256) 128))
    rw [byte_or m hm, Ar_set hk (by omega) (by omega)] at this
    rw [byte_or m hm]
    exact this

set_option maxRecDepth 100000 in
set_option maxHeartbeats 400000 in
theorem digits_any (n : Nat) (h : n < 18446744073709551616) (w : World) :
    Calls Tryz.prog 71 #[.int .u64 n] w fun e w' => ∃ cs : Array Value, e = .returned (.tuple #[.agg cs, .int .i64 (Cm.enc n).length]) ∧ cs = Ar (Cm.enc n) ∧ Below w.heap.size w w' := by
  go_enter Tryz.func71, Tryz.ntmps71
  go_wp2
  go_loopw [0, 5] (fun a i wr => ∃ (m k : Nat) (pre : List UInt8), a = .int .u64 m ∧ i = .int .i64 k ∧ k = pre.length ∧ pre ++ Cm.enc m = Cm.enc n ∧ m < 18446744073709551616 ∧
      Blk wr (w.heap.size + 1) 137 (Ar pre) ∧ Blk wr w.heap.size 137 (Ar []) ∧ Below w.heap.size w wr)
    (fun a _ _ => (intOf a).toNat)
  case atStart => exact ⟨n, 0, [], rfl, rfl, rfl, rfl, h, Blk.new_at (by simp) rfl, (Blk.new_at rfl rfl).alloc _, ((Below.refl _ _).alloc (Nat.le_refl _) _).alloc (by simp) _⟩
  case round =>
    obtain ⟨m, k, pre, rfl, rfl, hk, hpre, hm, hb1, hb0, hbel⟩ := hrel
    have hlen := Cm.enc_len n
    have hlm := Cm.enc_len m
    have hl2 := congrArg List.length hpre
    rw [List.length_append] at hl2
    by_cases hbig : 128 ≤ m
    · have hlb := Cm.enc_len_big hbig
      have hk8 : k ≤ 8 := by omega
      have hcell := hb1.cell k
      have hfr := hb1.frozen k
      have hc2 := Ar_at hk (by omega)
      rw [hc2] at hcell
      have HP := Lib.hid hpre
      have HK := Lib.hid hk
      have HM := Lib.hid hm
      clear hpre hk hl2 hc2 h hm
      go_wp2
      go_roundw
      case rel =>
        have R := digits_step hb1 HP.out HK.out hk8 HM.out hbig
        exact ⟨m / 128, k + 1, _, R.1, by go_num, R.2.1, R.2.2.1, R.2.2.2.1, R.2.2.2.2, hb0.far (by simp) _, hbel.setCell (by simp) _⟩
      case measure => simp [intOf]; omega
    · have hk9 : k ≤ 9 := by omega
      have hcell := hb1.cell k
      have hfr := hb1.frozen k
      have hc2 := Ar_at hk (by omega)
      rw [hc2] at hcell
      have R := digits_end hb1 hpre hk (by omega)
      have HR := Lib.hid R
      clear R hpre hk hl2 hc2 h hm
      have hi := info_arr
      rw [← Ar_size hlen.1] at hi
      have HI := Lib.hid hi
      clear hi
      go_wp2_with (first
        | (refine wpList_load_row rfl 137 _ rfl (w.heap.size + 1) rfl 137 (Ar (Cm.enc n)) (0, 0) _ HR.out.2 Tryz.underlying137 rfl HI.out ?_)
        | (refine wpList_store_row rfl 137 _ _ rfl w.heap.size (Ar (Cm.enc n)) rfl rfl 137 (Ar []) ?c1 HI.out ?c2 (Ar_one _) ?_))
      case c1 => exact hb0.far (by simp) _
      case c2 => rw [Ar_size (by simp), Ar_size hlen.1]
      refine bodyPost_ret (results_row_tmp rfl _ _ w.heap.size 137 (Ar (Cm.enc n)) (0, 0) _ rfl (setRow_heap _ _ _ _ _ _ (hb0.far (by simp) _)) Tryz.underlying137 rfl HI.out) rfl ?_
      refine ⟨_, ?_, rfl, below_setRow (hbel.setCell (by simp) _) (Nat.le_refl _) _⟩
      rw [← HR.out.1]
      rfl

end Go.Proofs.YtobphijbhghgmaaGreat.Ca
