/-
  Layer 6 (op): the contracts of fieldsOf, holdMore, isLong and areRecords; an operation in memory.
-/
import Derived.Test.YtebjjkhiniccgaaGreatPa
import Derived.Outline
namespace Go.Proofs.YtebjjkhiniccgaaGreat.Pe
set_option linter.unusedSimpArgs false
open Go Go.RowKit Ck Kw Pm Pa
set_option linter.unusedVariables false

/-- The fields that a kind has, as a value. -/
def FV (k : Int) : Value := .agg #[.bool (hasT k), .bool (hasG k), .bool (hasO k), .bool (hasR k)]
theorem size_fields : (Tryz.prog.info? 135).map (·.size) = some 4 := by kernel_rfl
theorem blk4 {w : World} {g : Nat} {t : TypeId} {a b c d x0 x1 x2 x3 : Value} (h : Blk w g t #[a, b, c, d]) :
    Blk ((((w.setCell ⟨g, 0, none⟩ x0).setCell ⟨g, 1, none⟩ x1).setCell ⟨g, 2, none⟩ x2).setCell ⟨g, 3, none⟩ x3) g t #[x0, x1, x2, x3] := by
  have := (((h.set_ 0 x0).set_ 1 x1).set_ 2 x2).set_ 3 x3
  simpa using this
theorem below4 {w0 w : World} {g : Nat} {x0 x1 x2 x3 : Value} (h : Below w0.heap.size w0 w) (hg : w0.heap.size ≤ g) :
    Below w0.heap.size w0 ((((w.setCell ⟨g, 0, none⟩ x0).setCell ⟨g, 1, none⟩ x1).setCell ⟨g, 2, none⟩ x2).setCell ⟨g, 3, none⟩ x3) := (((h.setCell hg _).setCell hg _).setCell hg _).setCell hg _

set_option maxRecDepth 100000 in
set_option maxHeartbeats 2000000 in
theorem fields_any (k : Int) (w : World) :
    Calls Tryz.prog 90 #[.int .i64 k] w fun e w' => e = .returned (.tuple #[FV k, .bool (known k)]) ∧ Below w.heap.size w w' := by
  by_cases hk : known k = true
  · rcases kind_cases hk with rfl | rfl | rfl | rfl | rfl
    · clear hk
      go_enter Tryz.func90, Tryz.ntmps90
      go_wp2
      refine bodyPost_ret (results_row_tmp rfl _ _ w.heap.size 135 #[.bool false, .bool false, .bool false, .bool false] (0, 0) _ rfl ?_ Tryz.underlying135 rfl size_fields) rfl ?_
      · exact heap_alloc_new w _
      · exact ⟨rfl, (Below.refl _ w).alloc (Nat.le_refl _) _⟩
    · clear hk
      go_enter Tryz.func90, Tryz.ntmps90
      go_wp2
      refine bodyPost_ret (results_row_tmp rfl _ _ w.heap.size 135 #[.bool true, .bool false, .bool false, .bool false] (0, 0) _ rfl ?_ Tryz.underlying135 rfl size_fields) rfl ?_
      · exact heap_alloc_new w _
      · exact ⟨rfl, (Below.refl _ w).alloc (Nat.le_refl _) _⟩
    · clear hk
      go_enter Tryz.func90, Tryz.ntmps90
      go_wp2
      refine bodyPost_ret (results_row_tmp rfl _ _ w.heap.size 135 #[.bool true, .bool false, .bool false, .bool true] (0, 0) _ rfl ?_ Tryz.underlying135 rfl size_fields) rfl ?_
      · exact heap_alloc_new w _
      · exact ⟨rfl, (Below.refl _ w).alloc (Nat.le_refl _) _⟩
    · clear hk
      go_enter Tryz.func90, Tryz.ntmps90
      go_wp2
      refine bodyPost_ret (results_row_tmp rfl _ _ w.heap.size 135 #[.bool true, .bool true, .bool true, .bool false] (0, 0) _ rfl ?_ Tryz.underlying135 rfl size_fields) rfl ?_
      · exact heap_alloc_new w _
      · exact ⟨rfl, (Below.refl _ w).alloc (Nat.le_refl _) _⟩
    · clear hk
      go_enter Tryz.func90, Tryz.ntmps90
      go_wp2
      refine bodyPost_ret (results_row_tmp rfl _ _ w.heap.size 135 #[.bool true, .bool false, .bool true, .bool false] (0, 0) _ rfl ?_ Tryz.underlying135 rfl size_fields) rfl ?_
      · exact heap_alloc_new w _
      · exact ⟨rfl, (Below.refl _ w).alloc (Nat.le_refl _) _⟩
  · have hn := Bool.eq_false_iff.2 hk
    have hv := kind_none hn
    have e0 : (k == 0) = false := beq_eq_false_iff_ne.2 hv.1
    have e1 : (k == 1) = false := beq_eq_false_iff_ne.2 hv.2.1
    have e2 : (k == 2) = false := beq_eq_false_iff_ne.2 hv.2.2.1
    have e3 : (k == 3) = false := beq_eq_false_iff_ne.2 hv.2.2.2.1
    have e4 : (k == 4) = false := beq_eq_false_iff_ne.2 hv.2.2.2.2
    have hF : FV k = .agg #[.bool false, .bool false, .bool false, .bool false] := by simp [FV, hasT, hasG, hasO, hasR, e1, e2, e3, e4]
    rw [hn, hF]
    clear hk hn hv hF
    go_enter Tryz.func90, Tryz.ntmps90
    go_wp2
    refine bodyPost_ret (results_row_tmp rfl _ _ w.heap.size 135 #[.bool false, .bool false, .bool false, .bool false] (0, 0) _ rfl ?_ Tryz.underlying135 rfl size_fields) rfl ?_
    · exact heap_alloc_new w _
    · exact ⟨rfl, (Below.refl _ w).alloc (Nat.le_refl _) _⟩

/-- An operation as a value: its records lie at A. -/
def OV (o : O) (A : Option Addr) (c : Nat) : Value := .agg #[.int .i64 o.kind, .string ⟨o.topic.toArray⟩, .string ⟨o.group.toArray⟩, .int .i64 o.off, .slice A o.recs.length c]
/-- The value v is the operation o, its records in no block of X. -/
def OI (w : World) (X : Nat → Prop) (v : Value) (o : O) : Prop := ∃ A c, v = OV o A c ∧ Ls w X (.slice A o.recs.length c) o.recs
section
variable {w w' : World} {X Y : Nat → Prop} {v : Value} {o : O}
theorem OI.keep (h : OI w X v o) (hs : w.heap.size ≤ w'.heap.size) (hk : ∀ b, b < w.heap.size → ¬ X b → w'.heap[b]? = w.heap[b]?) : OI w' X v o := by
  obtain ⟨A, c, hv, hl⟩ := h
  exact ⟨A, c, hv, hl.keep hs hk⟩
theorem OI.weaken (h : OI w X v o) (hk : ∀ b, b < w.heap.size → Y b → X b) : OI w Y v o := by
  obtain ⟨A, c, hv, hl⟩ := h
  exact ⟨A, c, hv, hl.weaken hk⟩
theorem OI.after (h : OI w X v o) (hb : Below w.heap.size w w') : OI w' X v o := by
  obtain ⟨A, c, hv, hl⟩ := h
  exact ⟨A, c, hv, hl.after hb⟩
theorem OI.ch {S : Nat → Prop} (h : OI w X v o) (c : Ch S w w') (hd : ∀ k, k < w.heap.size → S k → X k) : OI w' X v o := by
  obtain ⟨A, c', hv, hl⟩ := h
  exact ⟨A, c', hv, hl.ch c hd⟩
end
theorem oi_zero (w : World) (X : Nat → Prop) : OI w X (.agg #[.int .i64 0, .string ⟨#[]⟩, .string ⟨#[]⟩, .int .i64 0, .slice none 0 0]) O.zero :=
  ⟨none, 0, rfl, [], Sl.nil _ _ _, fun i hi => absurd hi (by simp [O.zero])⟩

theorem long_any (A : Option Addr) (n c : Nat) (w : World) :
    Calls Tryz.prog 117 #[.slice A n c] w fun e w' => e = .returned (.bool (decide (64 < n))) ∧ w = w' := by
  go_enter Tryz.func117, Tryz.ntmps117
  go_wp2
  go_ret
  exact ⟨by simp; omega, rfl⟩

/-- Where the first long record stands. -/
def ixLong : List Tx → Nat → Int
  | [], _ => -1
  | x :: l, i => if 64 < x.length then (i : Int) else ixLong l (i + 1)
theorem ix_at {l : List Tx} {k : Nat} (h : k < l.length) : ixLong (l.drop k) k = if 64 < l[k].length then (k : Int) else ixLong (l.drop (k + 1)) (k + 1) := by
  rw [List.drop_eq_getElem_cons h]
  rfl
theorem ix_all : ∀ (l : List Tx) (i : Nat), decide (0 ≤ ixLong l i) = !(l.all fun x => decide (x.length ≤ 64))
  | [], i => rfl
  | x :: l, i => by
    rw [ixLong, List.all_cons]
    by_cases h : 64 < x.length
    · rw [if_pos h]
      have : decide (x.length ≤ 64) = false := decide_eq_false (by omega)
      simp [this]
    · rw [if_neg h, ix_all l]
      have : decide (x.length ≤ 64) = true := decide_eq_true (by omega)
      simp [this]

set_option maxHeartbeats 1000000 in
theorem index_any (w : World) (X : Nat → Prop) (A : Option Addr) (c : Nat) (ls : List Tx) (ha : Ls w X (.slice A ls.length c) ls) (hl : ls.length ≤ 140737488355328) :
    Calls Tryz.prog 129 #[.slice A ls.length c, .func (.func 117) #[] #[]] w fun e w' => e = .returned (.int .i64 (ixLong ls 0)) ∧ w = w' := by
  have HA := Lib.hid ha
  clear ha
  go_enter Tryz.func129, Tryz.ntmps129
  go_wp2
  go_loop [8] (fun i => ∃ k : Nat, k ≤ ls.length ∧ i = .int .i64 k ∧ ixLong (ls.drop k) k = ixLong ls 0) (fun i => ls.length - (intOf i).toNat)
  case atStart => exact ⟨0, Nat.zero_le _, rfl, rfl⟩
  case round =>
    obtain ⟨k, hk, rfl, hix⟩ := hrel
    by_cases hlt : k < ls.length
    · obtain ⟨ad, B, d, rfl, hcell, -⟩ := HA.out.at_ hlt
      rw [ix_at hlt] at hix
      by_cases h64 : 64 < ls[k].length
      · rw [if_pos h64] at hix
        have hd : decide (64 < ls[k].length) = true := decide_eq_true h64
        have HIX := Lib.hid hix
        clear hix h64
        go_wp2_with (go_at_call 117; refine (long_any _ _ _ _).mono ?_; rintro e w1 ⟨rfl, rfl⟩)
        go_ret
        exact ⟨by rw [← HIX.out]; rfl, rfl⟩
      · rw [if_neg h64] at hix
        have hd : decide (64 < ls[k].length) = false := decide_eq_false h64
        have HIX := Lib.hid hix
        clear hix h64
        go_wp2_with (go_at_call 117; refine (long_any _ _ _ _).mono ?_; rintro e w1 ⟨rfl, rfl⟩)
        go_round
        case rel => exact ⟨k + 1, by omega, by go_num, HIX.out⟩
        case measure => simp [intOf]; omega
    · have hz : ls.drop k = [] := List.drop_eq_nil_iff.2 (by omega)
      rw [hz] at hix
      have HIX := Lib.hid hix
      clear hix hz
      go_wp2
      go_ret
      exact ⟨by rw [← HIX.out]; rfl, rfl⟩

theorem contains_any (w : World) (X : Nat → Prop) (A : Option Addr) (c : Nat) (ls : List Tx) (ha : Ls w X (.slice A ls.length c) ls) (hl : ls.length ≤ 140737488355328) :
    Calls Tryz.prog 116 #[.slice A ls.length c, .func (.func 117) #[] #[]] w fun e w' => e = .returned (.bool (!(ls.all fun x => decide (x.length ≤ 64)))) ∧ w = w' := by
  have HC := Lib.hid (index_any w X A c ls ha hl)
  rw [← ix_all ls 0]
  clear ha
  go_enter Tryz.func116, Tryz.ntmps116
  go_wp2_with (go_at_call 129; refine HC.out.mono ?_; rintro e w1 ⟨rfl, rfl⟩)
  go_ret
  exact ⟨rfl, rfl⟩

theorem arerecs_any (w : World) (X : Nat → Prop) (A : Option Addr) (c : Nat) (ls : List Tx) (ha : Ls w X (.slice A ls.length c) ls) (hl : ls.length ≤ 140737488355328) :
    Calls Tryz.prog 95 #[.slice A ls.length c] w fun e w' => e = .returned (.bool (areRecs ls)) ∧ w = w' := by
  have HC := Lib.hid (contains_any w X A c ls ha hl)
  clear ha
  unfold areRecs
  generalize (ls.all fun x => decide (x.length ≤ 64)) = q at *
  by_cases h0 : 0 < ls.length
  · have d0 : decide (0 < (ls.length : Int)) = true := decide_eq_true (by omega)
    have d0' : decide (0 < ls.length) = true := decide_eq_true h0
    by_cases h4 : ls.length ≤ 4
    · have d4 : decide ((ls.length : Int) ≤ 4) = true := decide_eq_true (by omega)
      have d4' : decide (ls.length ≤ 4) = true := decide_eq_true h4
      rw [d0', d4']
      clear d0' d4' d0 d4
      go_enter Tryz.func95, Tryz.ntmps95
      go_wp2_with (go_at_call 116; refine HC.out.mono ?_; rintro e w1 ⟨rfl, rfl⟩)
      go_ret
      exact ⟨by simp, rfl⟩
    · have d4 : decide ((ls.length : Int) ≤ 4) = false := decide_eq_false (by omega)
      have h4' : 4 < ls.length := by omega
      have d4' : decide (ls.length ≤ 4) = false := decide_eq_false h4
      rw [d0', d4']
      clear d0' d4' d0 d4
      go_enter Tryz.func95, Tryz.ntmps95
      go_wp2
      go_ret
      exact ⟨rfl, rfl⟩
  · have d0 : decide (0 < (ls.length : Int)) = false := decide_eq_false (by omega)
    have d0' : decide (0 < ls.length) = false := decide_eq_false h0
    rw [d0']
    clear d0' d0
    go_enter Tryz.func95, Tryz.ntmps95
    go_wp2
    go_ret
    exact ⟨rfl, rfl⟩

end Go.Proofs.YtebjjkhiniccgaaGreat.Pe
