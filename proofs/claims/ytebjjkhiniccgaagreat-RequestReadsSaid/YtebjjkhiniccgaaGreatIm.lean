/-
  Plain mathematics of layer 2 (ideal): the number of a text in a list of texts; what Sum answers and leaves; lists without repeats.
-/
import Derived.Test.YtebjjkhiniccgaaGreatCm
namespace Go.Proofs.YtebjjkhiniccgaaGreat.Im
set_option linter.unusedSimpArgs false
set_option linter.unusedVariables false

abbrev Tx := List UInt8
/-- The number of a text among those, from 1 on; 0: it isn't there. -/
def num : List Tx → Tx → Nat
  | [], _ => 0
  | t :: L, s => if t = s then 1 else if num L s = 0 then 0 else num L s + 1

theorem num_cons (t : Tx) (L : List Tx) (s : Tx) : num (t :: L) s = if t = s then 1 else if num L s = 0 then 0 else num L s + 1 := rfl
theorem num_le : ∀ (L : List Tx) (s : Tx), num L s ≤ L.length
  | [], _ => Nat.le_refl _
  | t :: L, s => by
    have := num_le L s
    rw [num_cons]
    split
    · simp
    · split
      · simp
      · simp only [List.length_cons]; omega
theorem num_zero : ∀ (L : List Tx) (s : Tx), num L s = 0 ↔ s ∉ L
  | [], _ => by simp [num]
  | t :: L, s => by
    have := num_zero L s
    rw [num_cons]
    by_cases h : t = s
    · subst h; simp
    · rw [if_neg h]
      by_cases h0 : num L s = 0
      · rw [if_pos h0]
        simp only [List.mem_cons, not_or, true_iff]
        exact ⟨fun e => h e.symm, this.1 h0⟩
      · rw [if_neg h0]
        simp only [List.mem_cons, not_or]
        exact ⟨fun e => by omega, fun e => absurd (this.2 e.2) h0⟩
theorem num_get : ∀ (L : List Tx) (s : Tx), num L s ≠ 0 → L[num L s - 1]? = some s
  | [], s, h => absurd rfl h
  | t :: L, s, h => by
    have ih := num_get L s
    rw [num_cons] at h ⊢
    by_cases ht : t = s
    · subst ht; simp
    · rw [if_neg ht] at h ⊢
      by_cases h0 : num L s = 0
      · rw [if_pos h0] at h; exact absurd rfl h
      · rw [if_neg h0]
        obtain ⟨k, hk⟩ : ∃ k, num L s = k + 1 := ⟨num L s - 1, by omega⟩
        have := ih h0
        rw [hk] at this ⊢
        simpa using this
theorem num_left : ∀ (L K : List Tx) (s : Tx), num L s ≠ 0 → num (L ++ K) s = num L s
  | [], _, s, h => absurd rfl h
  | t :: L, K, s, h => by
    have ih := num_left L K s
    rw [List.cons_append]
    rw [num_cons] at h
    rw [num_cons, num_cons t L]
    by_cases ht : t = s
    · rw [if_pos ht, if_pos ht]
    · rw [if_neg ht] at h
      rw [if_neg ht, if_neg ht]
      by_cases h0 : num L s = 0
      · rw [if_pos h0] at h; exact absurd rfl h
      · rw [ih h0]
theorem num_right : ∀ (L K : List Tx) (s : Tx), num L s = 0 → num (L ++ K) s = if num K s = 0 then 0 else L.length + num K s
  | [], K, s, _ => by
    by_cases h : num K s = 0 <;> simp [h]
  | t :: L, K, s, h => by
    have ih := num_right L K s
    rw [List.cons_append]
    rw [num_cons] at h ⊢
    by_cases ht : t = s
    · rw [if_pos ht] at h; cases h
    · rw [if_neg ht] at h
      rw [if_neg ht]
      by_cases h0 : num L s = 0
      · rw [ih h0]
        by_cases hk : num K s = 0
        · simp [hk]
        · rw [if_neg hk, if_neg hk, if_neg (by omega)]
          simp only [List.length_cons]; omega
      · rw [if_neg h0] at h; cases h
theorem num_one (t s : Tx) : num [t] s = if t = s then 1 else 0 := by
  by_cases h : t = s <;> simp [num, h]
theorem num_snoc (L : List Tx) (t s : Tx) : num (L ++ [t]) s = if num L s ≠ 0 then num L s else if t = s then L.length + 1 else 0 := by
  by_cases h : num L s = 0
  · rw [num_right L [t] s h, num_one]
    by_cases ht : t = s <;> simp [h, ht]
  · rw [num_left L [t] s h, if_pos h]

/-- Is it there? (A word of its own: the walk leaves it whole.) -/
def isIn (L : List Tx) (s : Tx) : Bool := decide (num L s ≠ 0)
theorem isIn_true {L : List Tx} {s : Tx} (h : num L s ≠ 0) : isIn L s = true := by simp [isIn, h]
theorem isIn_false {L : List Tx} {s : Tx} (h : num L s = 0) : isIn L s = false := by simp [isIn, h]

/-- What Sum leaves, and what it answers. -/
def add (L : List Tx) (s : Tx) : List Tx := if num L s ≠ 0 then L else if 1048576 ≤ L.length then L else L ++ [s]
def sum (L : List Tx) (s : Tx) : Nat := if num L s ≠ 0 then num L s else if 1048576 ≤ L.length then 0 else L.length + 1
theorem add_known {L : List Tx} {s : Tx} (h : num L s ≠ 0) : add L s = L ∧ sum L s = num L s := by simp [add, sum, h]
theorem add_full {L : List Tx} {s : Tx} (h : num L s = 0) (hf : 1048576 ≤ L.length) : add L s = L ∧ sum L s = 0 := by simp [add, sum, h, hf]
theorem add_new {L : List Tx} {s : Tx} (h : num L s = 0) (hf : ¬ 1048576 ≤ L.length) : add L s = L ++ [s] ∧ sum L s = L.length + 1 := by
  constructor
  · unfold add; rw [if_neg (by omega), if_neg hf]
  · unfold sum; rw [if_neg (by omega), if_neg hf]
theorem add_len {L : List Tx} {s : Tx} (h : L.length ≤ 1048576) : (add L s).length ≤ 1048576 := by
  unfold add
  split
  · exact h
  · split
    · exact h
    · simp only [List.length_append, List.length_cons, List.length_nil]; omega
theorem add_all {L : List Tx} {s : Tx} {n : Nat} (h : ∀ l ∈ L, l.length ≤ n) (hs : s.length ≤ n) : ∀ l ∈ add L s, l.length ≤ n := by
  unfold add
  split
  · exact h
  · split
    · exact h
    · intro l hl
      rcases List.mem_append.1 hl with hl | hl
      · exact h l hl
      · simp only [List.mem_cons, List.not_mem_nil, or_false] at hl
        subst hl; exact hs
theorem sum_le {L : List Tx} {s : Tx} (h : L.length ≤ 1048576) : sum L s ≤ 1048576 := by
  have := num_le L s
  unfold sum
  split
  · omega
  · split <;> omega
/-- What those texts leave, one behind the other. -/
def adds (l : List Tx) : List Tx := l.foldl add []
theorem adds_snoc (l : List Tx) (s : Tx) : adds (l ++ [s]) = add (adds l) s := by simp [adds, List.foldl_append]
theorem adds_take {l : List Tx} {k : Nat} (h : k < l.length) : adds (l.take (k + 1)) = add (adds (l.take k)) l[k] := by
  rw [List.take_succ_eq_append_getElem h, adds_snoc]

theorem nodup_take {l : List Tx} {k : Nat} (h : k < l.length) (hn : (l.take k).Nodup) (h0 : num (l.take k) l[k] = 0) : (l.take (k + 1)).Nodup := by
  rw [List.take_succ_eq_append_getElem h, List.nodup_append]
  refine ⟨hn, by simp, ?_⟩
  intro a ha b hb
  simp only [List.mem_cons, List.not_mem_nil, or_false] at hb
  subst hb
  intro e
  subst e
  exact (num_zero _ _).1 h0 ha
theorem not_nodup {l : List Tx} {k : Nat} (h : k < l.length) (h0 : num (l.take k) l[k] ≠ 0) : ¬ l.Nodup := by
  intro hn
  have h1 : (l.take (k + 1)).Nodup := hn.sublist (List.take_sublist _ _)
  rw [List.take_succ_eq_append_getElem h, List.nodup_append] at h1
  have hm : l[k] ∈ l.take k := by
    by_cases hm : l[k] ∈ l.take k
    · exact hm
    · exact absurd ((num_zero _ _).2 hm) h0
  exact h1.2.2 _ hm _ (by simp) rfl

end Go.Proofs.YtebjjkhiniccgaaGreat.Im
