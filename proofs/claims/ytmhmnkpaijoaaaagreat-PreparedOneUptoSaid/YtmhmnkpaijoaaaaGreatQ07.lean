/-
  Plain mathematics of layer 15 (prepared): lists of certificates, what is put, let go, and told.
-/
import Derived.Test.YtmhmnkpaijoaaaaGreatQ06
import Derived.Test.YtmhmnkpaijoaaaaGreatQ01
import Derived.Test.YtmhmnkpaijoaaaaGreatRows
import Derived.Maps.OwnSet
import Derived.Maps.StringElems
import Derived.DeepKeys4
import Derived.Test.YtmhmnkpaijoaaaaGreatQ03
import Derived.Test.YtmhmnkpaijoaaaaGreatQ04
namespace Go.Proofs.YtmhmnkpaijoaaaaGreat.Pra
set_option linter.unusedSimpArgs false
set_option linter.unusedVariables false
open Go Jm

/-- A certificate. -/
structure Pd where
  view : Int
  seq : Int
  dig : Int
  first : Int × Int
  signs : List (Int × Int)
  batch : List Sd
deriving DecidableEq
def Pd.zero : Pd := ⟨0, 0, 0, (0, 0), [], []⟩
/-- May the number be one? -/
def okN (n : Int) : Bool := !(decide (n < 1) || decide (9007199254740992 < n))
/-- How many stand ahead of a number. -/
def kOf (l : List Pd) (n : Int) : Nat :=
  match l with
  | [] => 0
  | p :: l => if p.seq < n then kOf l n + 1 else 0
theorem kOf_le (l : List Pd) (n : Int) : kOf l n ≤ l.length := by
  induction l with
  | nil => exact Nat.le_refl _
  | cons p l ih =>
    simp only [kOf, List.length_cons]
    split <;> omega
theorem kOf_low (n : Int) : ∀ (l : List Pd) (i : Nat) (h : i < kOf l n) (hi : i < l.length), l[i].seq < n
  | p :: l, 0, h, _ => by
    simp only [kOf] at h
    split at h
    · assumption
    · omega
  | p :: l, i + 1, h, hi => by
    simp only [kOf] at h
    split at h
    · simpa using kOf_low n l i (by omega) (by simpa using hi)
    · omega
theorem kOf_at (n : Int) : ∀ (l : List Pd) (hi : kOf l n < l.length), ¬ l[kOf l n].seq < n
  | p :: l, hi => by
    simp only [kOf] at hi ⊢
    split
    · rename_i h
      rw [if_pos h] at hi
      simpa using kOf_at n l (by simpa using hi)
    · rename_i h
      simpa using h
/-- Is there one of that number where it would stand? -/
def hadP (l : List Pd) (n : Int) : Option Pd := match l[kOf l n]? with | some p => if p.seq = n then some p else none | none => none
/-- What is kept then, and whether it was put. -/
def putP (l : List Pd) (p : Pd) : List Pd × Bool :=
  if okN p.seq then
    match hadP l p.seq with
    | some q => if p.view ≤ q.view then (l, false) else (l.take (kOf l p.seq) ++ p :: l.drop (kOf l p.seq + 1), true)
    | none => (l.take (kOf l p.seq) ++ p :: l.drop (kOf l p.seq), true)
  else (l, false)
def getP (l : List Pd) (n : Int) : Option Pd := l.find? (fun p => p.seq == n)
def slideP (l : List Pd) (low : Int) : List Pd := l.filter (fun p => decide (low < p.seq))
/-- Rising, and each number one that may be. -/
def fromP : Int → List Pd → Bool
  | _, [] => true
  | last, p :: l => okN p.seq && decide (last < p.seq) && fromP p.seq l
def Rise (l : List Pd) : Prop := l.Pairwise (fun a b => a.seq < b.seq) ∧ ∀ p ∈ l, okN p.seq = true
theorem rise_nil : Rise [] := ⟨List.Pairwise.nil, fun _ h => by simp at h⟩
theorem okN_iff {n : Int} : okN n = true ↔ 1 ≤ n ∧ n ≤ 9007199254740992 := by
  simp only [okN, Bool.not_eq_true', Bool.or_eq_false_iff, decide_eq_false_iff_not]
  omega
theorem rise_at {l : List Pd} (h : Rise l) {i j : Nat} (hi : i < l.length) (hj : j < l.length) (hij : i < j) : l[i].seq < l[j].seq := List.pairwise_iff_getElem.1 h.1 i j hi hj hij
theorem rise_take {l : List Pd} (h : Rise l) (k : Nat) : Rise (l.take k) := ⟨h.1.sublist (List.take_sublist k l), fun p hp => h.2 p (List.mem_of_mem_take hp)⟩
theorem rise_drop {l : List Pd} (h : Rise l) (k : Nat) : Rise (l.drop k) := ⟨h.1.sublist (List.drop_sublist k l), fun p hp => h.2 p (List.mem_of_mem_drop hp)⟩
theorem rise_slide {l : List Pd} (h : Rise l) (n : Int) : Rise (slideP l n) := ⟨h.1.sublist (List.filter_sublist), fun p hp => h.2 p (List.mem_filter.1 hp).1⟩
theorem take_low {l : List Pd} {n : Int} : ∀ p ∈ l.take (kOf l n), p.seq < n := by
  intro p hp
  obtain ⟨i, hi, rfl⟩ := List.getElem_of_mem hp
  rw [List.length_take] at hi
  rw [List.getElem_take]
  exact kOf_low n l i (by omega) (by omega)
theorem drop_high {l : List Pd} (h : Rise l) {n : Int} : ∀ p ∈ l.drop (kOf l n), n ≤ p.seq := by
  intro p hp
  obtain ⟨i, hi, rfl⟩ := List.getElem_of_mem hp
  rw [List.length_drop] at hi
  rw [List.getElem_drop]
  have h0 := kOf_at n l (by omega)
  rcases Nat.eq_zero_or_pos i with rfl | hp
  · simp only [Nat.add_zero]
    omega
  · have := rise_at h (i := kOf l n) (j := kOf l n + i) (by omega) (by omega) (by omega)
    omega
theorem drop_above {l : List Pd} (h : Rise l) {n : Int} {q : Pd} (hq : l[kOf l n]? = some q) (hn : q.seq = n) : ∀ p ∈ l.drop (kOf l n + 1), n < p.seq := by
  intro p hp
  obtain ⟨i, hi, rfl⟩ := List.getElem_of_mem hp
  rw [List.length_drop] at hi
  rw [List.getElem_drop]
  obtain ⟨h1, h2⟩ := List.getElem?_eq_some_iff.1 hq
  have := rise_at h (i := kOf l n) (j := kOf l n + 1 + i) h1 (by omega) (by omega)
  rw [h2, hn] at this
  exact this
theorem drop_more {l : List Pd} (h : Rise l) {n : Int} (hn : ∀ q, l[kOf l n]? = some q → q.seq ≠ n) : ∀ p ∈ l.drop (kOf l n), n < p.seq := by
  intro p hp
  have h1 := drop_high h p hp
  rcases Int.lt_or_eq_of_le h1 with h2 | h2
  · exact h2
  · exfalso
    obtain ⟨i, hi, rfl⟩ := List.getElem_of_mem hp
    rw [List.length_drop] at hi
    rw [List.getElem_drop] at h2
    rcases Nat.eq_zero_or_pos i with rfl | hp
    · exact hn _ (List.getElem?_eq_getElem (by omega)) h2.symm
    · have h3 := rise_at h (i := kOf l n) (j := kOf l n + i) (by omega) (by omega) (by omega)
      have h4 := kOf_at n l (by omega)
      omega
theorem rise_mid {l r : List Pd} {p : Pd} (hl : Rise l) (hr : Rise r) (h1 : ∀ q ∈ l, q.seq < p.seq) (h2 : ∀ q ∈ r, p.seq < q.seq) (hp : okN p.seq = true) : Rise (l ++ p :: r) := by
  refine ⟨List.pairwise_append.2 ⟨hl.1, List.pairwise_cons.2 ⟨h2, hr.1⟩, fun a ha b hb => ?_⟩, fun q hq => ?_⟩
  · rcases List.mem_cons.1 hb with rfl | hb
    · exact h1 a ha
    · exact Int.lt_trans (h1 a ha) (h2 b hb)
  · rcases List.mem_append.1 hq with hq | hq
    · exact hl.2 q hq
    · rcases List.mem_cons.1 hq with rfl | hq
      · exact hp
      · exact hr.2 q hq
theorem had_some {l : List Pd} {n : Int} {q : Pd} (h : hadP l n = some q) : l[kOf l n]? = some q ∧ q.seq = n := by
  unfold hadP at h
  split at h
  · rename_i p hp
    split at h
    · rename_i e
      obtain rfl := Option.some.inj h
      exact ⟨hp, e⟩
    · cases h
  · cases h
theorem had_none {l : List Pd} {n : Int} (h : hadP l n = none) : ∀ q, l[kOf l n]? = some q → q.seq ≠ n := by
  intro q hq e
  unfold hadP at h
  rw [hq] at h
  simp [e] at h
theorem rise_put {l : List Pd} (h : Rise l) (p : Pd) : Rise (putP l p).1 := by
  unfold putP
  by_cases hp : okN p.seq = true
  · rw [if_pos hp]
    cases hh : hadP l p.seq with
    | some q =>
      simp only
      obtain ⟨h1, h2⟩ := had_some hh
      split
      · exact h
      · exact rise_mid (rise_take h _) (rise_drop h _) take_low (drop_above h h1 h2) hp
    | none => exact rise_mid (rise_take h _) (rise_drop h _) take_low (drop_more h (had_none hh)) hp
  · rw [if_neg hp]
    exact h
theorem from_rise : ∀ {l : List Pd} {last : Int}, fromP last l = true ↔ (∀ p ∈ l, last < p.seq) ∧ Rise l
  | [], last => ⟨fun _ => ⟨fun _ h => by simp at h, rise_nil⟩, fun _ => rfl⟩
  | p :: l, last => by
    simp only [fromP, Bool.and_eq_true, decide_eq_true_eq, from_rise (l := l) (last := p.seq)]
    constructor
    · rintro ⟨⟨h1, h2⟩, h3, h4⟩
      exact ⟨fun q hq => by
        rcases List.mem_cons.1 hq with rfl | hq
        · exact h2
        · exact Int.lt_trans h2 (h3 q hq), List.pairwise_cons.2 ⟨h3, h4.1⟩, fun q hq => by
        rcases List.mem_cons.1 hq with rfl | hq
        · exact h1
        · exact h4.2 q hq⟩
    · rintro ⟨h1, h2, h3⟩
      obtain ⟨h4, h5⟩ := List.pairwise_cons.1 h2
      exact ⟨⟨h3 p (by simp), h1 p (by simp)⟩, h4, h5, fun q hq => h3 q (by simp [hq])⟩
/-- What is told of a number behind a put. -/
theorem get_mid {l r : List Pd} {p : Pd} {n : Int} (h1 : ∀ q ∈ l, q.seq < p.seq) (h2 : ∀ q ∈ r, p.seq < q.seq) : getP (l ++ p :: r) n = if n = p.seq then some p else (getP l n).or (getP r n) := by
  unfold getP
  rw [List.find?_append, List.find?_cons]
  by_cases hn : n = p.seq
  · subst hn
    have : l.find? (fun q => q.seq == p.seq) = none := by
      rw [List.find?_eq_none]
      intro q hq
      have := h1 q hq
      simp
      omega
    rw [this, if_pos rfl]
    simp
  · rw [if_neg hn]
    have : (p.seq == n) = false := by rw [beq_eq_false_iff_ne]; omega
    rw [this]
theorem get_none {l : List Pd} {n : Int} (h : ∀ q ∈ l, q.seq ≠ n) : getP l n = none := by
  unfold getP
  rw [List.find?_eq_none]
  intro q hq
  simpa using h q hq
theorem get_app (l r : List Pd) (n : Int) : getP (l ++ r) n = (getP l n).or (getP r n) := by
  unfold getP
  exact List.find?_append
/-- In rising order one looks in one place alone. -/
theorem get_had {l : List Pd} (h : Rise l) (n : Int) : getP l n = hadP l n := by
  have e := List.take_append_drop (kOf l n) l
  have h1 : getP (l.take (kOf l n)) n = none := get_none (fun q hq => by have := take_low q hq; omega)
  have h2 : getP l n = getP (l.drop (kOf l n)) n := by
    conv => lhs; rw [← e]
    rw [get_app, h1, Option.none_or]
  rw [h2]
  cases hh : hadP l n with
  | some q =>
    obtain ⟨q1, q2⟩ := had_some hh
    obtain ⟨h3, h4⟩ := List.getElem?_eq_some_iff.1 q1
    rw [List.drop_eq_getElem_cons h3, h4]
    unfold getP
    rw [List.find?_cons_of_pos (by simp [q2])]
  | none => exact get_none (fun q hq => by have := drop_more h (had_none hh) q hq; omega)
theorem get_put {l : List Pd} (h : Rise l) (p : Pd) (n : Int) :
    getP (putP l p).1 n = if n = p.seq ∧ okN p.seq = true then (match getP l n with | some q => if p.view ≤ q.view then some q else some p | none => some p) else getP l n := by
  unfold putP
  by_cases hp : okN p.seq = true
  · rw [if_pos hp]
    cases hh : hadP l p.seq with
    | some q =>
      obtain ⟨q1, q2⟩ := had_some hh
      obtain ⟨h3, h4⟩ := List.getElem?_eq_some_iff.1 q1
      simp only
      by_cases hv : p.view ≤ q.view
      · rw [if_pos hv]
        by_cases hn : n = p.seq
        · subst hn
          rw [if_pos ⟨rfl, hp⟩, get_had h, hh]
          simp only
          rw [if_pos hv]
        · rw [if_neg (fun hx => hn hx.1)]
      · rw [if_neg hv]
        simp only
        rw [get_mid take_low (drop_above h q1 q2)]
        by_cases hn : n = p.seq
        · subst hn
          rw [if_pos rfl, if_pos ⟨rfl, hp⟩, get_had h, hh]
          simp only
          rw [if_neg hv]
        · rw [if_neg hn, if_neg (fun hx => hn hx.1)]
          have e : l = l.take (kOf l p.seq) ++ q :: l.drop (kOf l p.seq + 1) := by
            rw [← h4, ← List.drop_eq_getElem_cons h3, List.take_append_drop]
          conv => rhs; rw [e]
          rw [get_mid (p := q) (fun x hx => by have := take_low x hx; omega) (fun x hx => by have := drop_above h q1 q2 x hx; omega), if_neg (by omega)]
    | none =>
      simp only
      rw [get_mid take_low (drop_more h (had_none hh))]
      by_cases hn : n = p.seq
      · subst hn
        rw [if_pos rfl, if_pos ⟨rfl, hp⟩, get_had h, hh]
      · rw [if_neg hn, if_neg (fun hx => hn hx.1), ← get_app, List.take_append_drop]
  · rw [if_neg hp, if_neg (fun hx => hp hx.2)]
end Go.Proofs.YtmhmnkpaijoaaaaGreat.Pra

/-
  Plain mathematics of layer 2 (ideal): the number of a text in a list of texts; what Sum answers and leaves; lists without repeats.
-/
namespace Go.Proofs.YtmhmnkpaijoaaaaGreat.Im
set_option linter.unusedSimpArgs false
set_option linter.unusedVariables false

abbrev Tx := List UInt8
/-- The number of a text among those, from 1 on; 0: it isn't there. -/
def num : List Tx → Tx → Nat
  | [], _ => 0
  | t :: L, s => if t = s then 1 else if num L s = 0 then 0 else num L s + 1

theorem num_cons (t : Tx) (L : List Tx) (s : Tx) : num (t :: L) s = if t = s then 1 else if num L s = 0 then 0 else num L s + 1 := rfl
theorem num_le : ∀ (L : List Tx) (s : Tx), num L s ≤ L.length
  | [], _ => Nat.le_refl _
  | t :: L, s => by
    have := num_le L s
    rw [num_cons]
    split
    · simp
    · split
      · simp
      · simp only [List.length_cons]; omega
theorem num_zero : ∀ (L : List Tx) (s : Tx), num L s = 0 ↔ s ∉ L
  | [], _ => by simp [num]
  | t :: L, s => by
    have := num_zero L s
    rw [num_cons]
    by_cases h : t = s
    · subst h; simp
    · rw [if_neg h]
      by_cases h0 : num L s = 0
      · rw [if_pos h0]
        simp only [List.mem_cons, not_or, true_iff]
        exact ⟨fun e => h e.symm, this.1 h0⟩
      · rw [if_neg h0]
        simp only [List.mem_cons, not_or]
        exact ⟨fun e => by omega, fun e => absurd (this.2 e.2) h0⟩
theorem num_get : ∀ (L : List Tx) (s : Tx), num L s ≠ 0 → L[num L s - 1]? = some s
  | [], s, h => absurd rfl h
  | t :: L, s, h => by
    have ih := num_get L s
    rw [num_cons] at h ⊢
    by_cases ht : t = s
    · subst ht; simp
    · rw [if_neg ht] at h ⊢
      by_cases h0 : num L s = 0
      · rw [if_pos h0] at h; exact absurd rfl h
      · rw [if_neg h0]
        obtain ⟨k, hk⟩ : ∃ k, num L s = k + 1 := ⟨num L s - 1, by omega⟩
        have := ih h0
        rw [hk] at this ⊢
        simpa using this
theorem num_left : ∀ (L K : List Tx) (s : Tx), num L s ≠ 0 → num (L ++ K) s = num L s
  | [], _, s, h => absurd rfl h
  | t :: L, K, s, h => by
    have ih := num_left L K s
    rw [List.cons_append]
    rw [num_cons] at h
    rw [num_cons, num_cons t L]
    by_cases ht : t = s
    · rw [if_pos ht, if_pos ht]
    · rw [if_neg ht] at h
      rw [if_neg ht, if_neg ht]
      by_cases h0 : num L s = 0
      · rw [if_pos h0] at h; exact absurd rfl h
      · rw [ih h0]
theorem num_right : ∀ (L K : List Tx) (s : Tx), num L s = 0 → num (L ++ K) s = if num K s = 0 then 0 else L.length + num K s
  | [], K, s, _ => by
    by_cases h : num K s = 0 <;> simp [h]
  | t :: L, K, s, h => by
    have ih := num_right L K s
    rw [List.cons_append]
    rw [num_cons] at h ⊢
    by_cases ht : t = s
    · rw [if_pos ht] at h; cases h
    · rw [if_neg ht] at h
      rw [if_neg ht]
      by_cases h0 : num L s = 0
      · rw [ih h0]
        by_cases hk : num K s = 0
        · simp [hk]
        · rw [if_neg hk, if_neg hk, if_neg (by omega)]
          simp only [List.length_cons]; omega
      · rw [if_neg h0] at h; cases h
theorem num_one (t s : Tx) : num [t] s = if t = s then 1 else 0 := by
  by_cases h : t = s <;> simp [num, h]
theorem num_snoc (L : List Tx) (t s : Tx) : num (L ++ [t]) s = if num L s ≠ 0 then num L s else if t = s then L.length + 1 else 0 := by
  by_cases h : num L s = 0
  · rw [num_right L [t] s h, num_one]
    by_cases ht : t = s <;> simp [h, ht]
  · rw [num_left L [t] s h, if_pos h]

/-- Is it there? (A word of its own: the walk leaves it whole.) -/
def isIn (L : List Tx) (s : Tx) : Bool := decide (num L s ≠ 0)
theorem isIn_true {L : List Tx} {s : Tx} (h : num L s ≠ 0) : isIn L s = true := by simp [isIn, h]
theorem isIn_false {L : List Tx} {s : Tx} (h : num L s = 0) : isIn L s = false := by simp [isIn, h]

/-- What Sum leaves, and what it answers. -/
def add (L : List Tx) (s : Tx) : List Tx := if num L s ≠ 0 then L else if 1048576 ≤ L.length then L else L ++ [s]
def sum (L : List Tx) (s : Tx) : Nat := if num L s ≠ 0 then num L s else if 1048576 ≤ L.length then 0 else L.length + 1
theorem add_known {L : List Tx} {s : Tx} (h : num L s ≠ 0) : add L s = L ∧ sum L s = num L s := by simp [add, sum, h]
theorem add_full {L : List Tx} {s : Tx} (h : num L s = 0) (hf : 1048576 ≤ L.length) : add L s = L ∧ sum L s = 0 := by simp [add, sum, h, hf]
theorem add_new {L : List Tx} {s : Tx} (h : num L s = 0) (hf : ¬ 1048576 ≤ L.length) : add L s = L ++ [s] ∧ sum L s = L.length + 1 := by
  constructor
  · unfold add; rw [if_neg (by omega), if_neg hf]
  · unfold sum; rw [if_neg (by omega), if_neg hf]
theorem add_len {L : List Tx} {s : Tx} (h : L.length ≤ 1048576) : (add L s).length ≤ 1048576 := by
  unfold add
  split
  · exact h
  · split
    · exact h
    · simp only [List.length_append, List.length_cons, List.length_nil]; omega
theorem sum_le {L : List Tx} {s : Tx} (h : L.length ≤ 1048576) : sum L s ≤ 1048576 := by
  have := num_le L s
  unfold sum
  split
  · omega
  · split <;> omega
end Go.Proofs.YtmhmnkpaijoaaaaGreat.Im

/-
  Words for memory, for layer 2 (ideal) and any layer above: a change of some blocks and new ones; a slice of strings; the program's table and the document's; the program's ledger and the document's.
-/
namespace Go.Proofs.YtmhmnkpaijoaaaaGreat.Ik
set_option linter.unusedSimpArgs false
set_option linter.unusedVariables false
set_option maxRecDepth 100000
open Go Go.RowKit Ck Kw Im

/-- The map's datum tells each text's number. -/
def Nums (D : DataW Unit) (L : List Tx) : Prop :=
  ∀ s : Tx, Maps.has D (.string s) = isIn L s ∧ D.atKey (.string s) (.lit (.int .i64 0)) = .lit (.int .i64 (num L s : Int))
theorem Nums.empty : Nums (.map []) [] := fun _ => ⟨rfl, rfl⟩
theorem strKey (s : Tx) : WideAt.IsKeyLit (.string s) := trivial
theorem Nums.put {D : DataW Unit} {L : List Tx} {t : Tx} (h : Nums D L) (hD : Maps.IsMap D) (hk : WideAt.IsKeyLit (.string t)) (h0 : num L t = 0) : Nums (D.put (.string t) (.lit (.int .i64 ((L.length : Int) + 1)))) (L ++ [t]) := by
  intro s
  rw [num_snoc]
  by_cases hs : s = t
  · subst hs
    rw [Maps.has_put_same hD hk, Maps.atKey_put_same hD hk, isIn, num_snoc, h0]
    simp
  · have hne : (Lit.string s) ≠ Lit.string t := fun e => hs (by injection e)
    rw [Maps.has_put_other hne, Maps.atKey_put_other hne, (h s).1, (h s).2]
    have ht : ¬ t = s := fun e => hs e.symm
    rw [isIn, isIn, num_snoc]
    by_cases hn : num L s = 0 <;> simp [hn, ht]

section
/-- Block p is a table of these texts; all its blocks are in S. -/
def Tb (w : World) (S : Nat → Prop) (p : Nat) (L : List Tx) : Prop :=
  ∃ m tv D, Blk w p 136 #[.map (some m), tv] ∧ w.ownsMap Tryz.prog 9 (plainElem Tryz.prog 31) m L.length D ∧ Nums D L ∧ w.ownsRow 0 9 1 tv L.length (L.map SV) ∧
    S p ∧ S m ∧ (∀ g, tv.ownBlock = some g → S g) ∧ (∀ l ∈ L, l.length ≤ 140737488355328) ∧ L.length ≤ 1048576
/-- Block p is the document's table of these texts; all its blocks are in S. -/
def Rf (w : World) (S : Nat → Prop) (p : Nat) (L : List Tx) : Prop :=
  ∃ lv, Blk w p 58 #[lv] ∧ S p ∧ Ls w (fun k => ¬ S k ∨ k = p) lv L ∧ (∀ l ∈ L, l.length ≤ 140737488355328) ∧ L.length ≤ 1048576
theorem Tb.ch {S T : Nat → Prop} {w w' : World} {p : Nat} {L : List Tx} (h : Tb w S p L) (c : Ch T w w') (hd : ∀ k, S k → T k → False) : Tb w' S p L := by
  obtain ⟨m, tv, D, h1, h2, h3, h4, h5, h6, h7, h8⟩ := h
  exact ⟨m, tv, D, h1.ch c (fun ht => hd _ h5 ht), map_ch h2 c (fun ht => hd _ h6 ht), h3, own_ch h4 c (fun g hg ht => hd _ (h7 g hg) ht), h5, h6, h7, h8⟩
theorem Tb.weaken {S T : Nat → Prop} {w : World} {p : Nat} {L : List Tx} (h : Tb w S p L) (hd : ∀ k, S k → T k) : Tb w T p L := by
  obtain ⟨m, tv, D, h1, h2, h3, h4, h5, h6, h7, h8⟩ := h
  exact ⟨m, tv, D, h1, h2, h3, h4, hd _ h5, hd _ h6, fun g hg => hd _ (h7 g hg), h8⟩
theorem Tb.drewN {S : Nat → Prop} {w : World} {p : Nat} {L : List Tx} (h : Tb w S p L) (n : Nat) : Tb (w.drewN n) S p L := h
theorem Rf.ch {S T : Nat → Prop} {w w' : World} {p : Nat} {L : List Tx} (h : Rf w S p L) (c : Ch T w w') (hd : ∀ k, S k → T k → False) : Rf w' S p L := by
  obtain ⟨lv, h1, h2, h3, h4⟩ := h
  exact ⟨lv, h1.ch c (fun ht => hd _ h2 ht), h2, h3.ch c (fun k _ ht => .inl (fun hs => hd _ hs ht)), h4⟩
theorem Rf.drewN {S : Nat → Prop} {w : World} {p : Nat} {L : List Tx} (h : Rf w S p L) (n : Nat) : Rf (w.drewN n) S p L := h
end

end Go.Proofs.YtmhmnkpaijoaaaaGreat.Ik

/-
  Words for memory, for layer 2's ledgers: signatures, slices of them, the map of them, the program's ledger and the document's.
-/
namespace Go.Proofs.YtmhmnkpaijoaaaaGreat.Lk
set_option linter.unusedSimpArgs false
set_option linter.unusedVariables false
set_option maxRecDepth 100000
open Go Go.RowKit Ck Im Kw Ik

/-- A signature: its key, its digest. -/
abbrev Sg := Int × Int
def GV (s : Sg) : Value := .agg #[.int .i64 s.1, .int .i64 s.2]
def GVs (l : List Sg) : List Value := l.flatMap fun s => [.int .i64 s.1, .int .i64 s.2]
def wfS (s : Sg) : Prop := -9223372036854775808 ≤ s.1 ∧ s.1 ≤ 9223372036854775807 ∧ -9223372036854775808 ≤ s.2 ∧ s.2 ≤ 9223372036854775807
theorem GVs_app (l m : List Sg) : GVs (l ++ m) = GVs l ++ GVs m := by simp [GVs]
theorem GVs_one (l : List Sg) : ∀ u ∈ GVs l, u.oneCell' = true := by
  intro u hu
  simp only [GVs, List.mem_flatMap, List.mem_cons, List.not_mem_nil, or_false] at hu
  obtain ⟨s, _, rfl | rfl⟩ := hu <;> rfl
theorem GVs_get : ∀ (l : List Sg) (i : Nat) (h : i < l.length), (GVs l)[i * 2]? = some (.int .i64 l[i].1) ∧ (GVs l)[i * 2 + 1]? = some (.int .i64 l[i].2)
  | [], i, h => absurd h (by simp)
  | s :: l, 0, _ => by simp [GVs]
  | s :: l, i + 1, h => by
    have ih := GVs_get l i (by simpa using h)
    have e : GVs (s :: l) = Value.int .i64 s.1 :: Value.int .i64 s.2 :: GVs l := by simp [GVs]
    rw [e, show (i + 1) * 2 = i * 2 + 1 + 1 by omega, show i * 2 + 1 + 1 + 1 = (i * 2 + 1) + 1 + 1 by omega]
    simpa using ih

theorem keyLits_int {n : Nat} {t : TypeId} {a : Int} (ht : Tryz.prog.underlying t = some (.int .i64)) (h : (Lit.int .i64 a).wf = true) : Tryz.prog.keyLits (n + 1) t [.int .i64 a] = some [.int .i64 a] := by
  simp [Program.keyLits, ht, h]
theorem wf_of {a : Int} (h1 : -9223372036854775808 ≤ a) (h2 : a ≤ 9223372036854775807) : (Lit.int .i64 a).wf = true := WalkArith.wf_i64 (by omega)
theorem cells_sign : Tryz.prog.cellsOf 36 = 2 := by kernel_rfl
theorem cells_int : Tryz.prog.cellsOf 3 = 1 := by kernel_rfl
theorem cells_dig : Tryz.prog.cellsOf 31 = 1 := by kernel_rfl
theorem keytype_sign : Tryz.prog.keyType 36 = true := by kernel_rfl
def KL (s : Sg) : Lit := .string (keyBytes [.int .i64 s.1, .int .i64 s.2])
theorem key_sign (s : Sg) (h : wfS s) : keyOf Tryz.prog 36 (GV s) = some (KL s) := by
  obtain ⟨n, hn⟩ : ∃ n, Tryz.prog.types.size + 1 = n + 1 + 1 := ⟨Tryz.prog.types.size - 1, by have : 0 < Tryz.prog.types.size := of_decide_eq_true (by kernel_rfl); omega⟩
  have hf : (GV s).formed Tryz.prog 36 = true := by simp [GV, Value.formed, Tryz.underlying36, cells_sign]
  have hl : Tryz.prog.keyLits (n + 1 + 1) 36 [.int .i64 s.1, .int .i64 s.2] = some [.int .i64 s.1, .int .i64 s.2] := by
    have k1 := keyLits_int (n := n) (t := 3) Tryz.underlying3 (wf_of h.1 h.2.1)
    have k2 := keyLits_int (n := n) (t := 31) Tryz.underlying31 (wf_of h.2.2.1 h.2.2.2)
    unfold Program.keyLits
    simp [Tryz.underlying36, cells_sign, cells_int, cells_dig, k1, k2]
  unfold keyOf
  rw [Tryz.underlying36, keytype_sign, hf, hn]
  show (if (true && true) = true then (Tryz.prog.keyLits (n + 1 + 1) 36 [.int .i64 s.1, .int .i64 s.2]).map fun ls => Lit.string (keyBytes ls) else none) = _
  rw [hl]
  rfl
theorem law_sign : Maps.Keyed Tryz.prog 36 :=
  Maps.Keyed.of_law (deep_law_laid (by kernel_rfl) (m := 3) (by omega) (of_decide_eq_true (by kernel_rfl)) (by kernel_rfl) (by rw [Tryz.underlying36]))
theorem KL_inj {s t : Sg} (hs : wfS s) (ht : wfS t) (h : KL s = KL t) : s = t := by
  have := law_sign.inj (key_sign s hs) (h ▸ key_sign t ht)
  simp only [GV, Value.agg.injEq] at this
  have h1 := congrArg (fun a : Array Value => a[0]?) this
  have h2 := congrArg (fun a : Array Value => a[1]?) this
  simp only [List.getElem?_toArray, List.getElem?_cons_zero, List.getElem?_cons_succ, Option.some.injEq, Value.int.injEq, true_and] at h1 h2
  exact Prod.ext h1 h2

/-- Is it signed? (A word of its own.) -/
def isS (L : List Sg) (s : Sg) : Bool := decide (s ∈ L)
theorem isS_true {L : List Sg} {s : Sg} (h : s ∈ L) : isS L s = true := by simp [isS, h]
theorem isS_false {L : List Sg} {s : Sg} (h : ¬ s ∈ L) : isS L s = false := by simp [isS, h]
/-- What Sign answers and leaves. -/
def code (s : Sg) : Int := if s.1 < 0 ∨ 21 ≤ s.1 then 20 else if s.2 < 1 then 1 else 0
def pay (L : List Sg) (s : Sg) : List Sg := if code s = 0 then (if s ∈ L then L else L ++ [s]) else L
def ans (s : Sg) : Sg := if code s = 0 then s else (0, 0)
theorem pay_len (L : List Sg) (s : Sg) : (pay L s).length ≤ L.length + 1 := by
  unfold pay
  split
  · split <;> simp
  · omega
/-- The map's datum tells which are signed. -/
def Known (D : DataW Unit) (L : List Sg) : Prop := ∀ s, wfS s → Maps.has D (KL s) = isS L s
theorem Known.empty : Known (.map []) [] := fun _ _ => rfl
theorem Known.put {D : DataW Unit} {L : List Sg} {t : Sg} (h : Known D L) (hD : Maps.IsMap D) (ht : wfS t) (d : DataW Unit) : Known (D.put (KL t) d) (L ++ [t]) := by
  intro s hs
  by_cases he : s = t
  · subst he
    rw [Maps.has_put_same hD (law_sign.key (key_sign s hs))]
    simp [isS]
  · have hne : KL s ≠ KL t := fun e => he (KL_inj hs ht e)
    rw [Maps.has_put_other hne, h s hs]
    simp [isS, he]

/-- Block p is a ledger of these signatures; all its blocks are in S. -/
def Lg (w : World) (S : Nat → Prop) (p : Nat) (L : List Sg) : Prop :=
  ∃ m ov D, Blk w p 139 #[.map (some m), ov] ∧ w.ownsMap Tryz.prog 36 unitElem m L.length D ∧ Known D L ∧ w.ownsRow 0 36 2 ov L.length (GVs L) ∧
    S p ∧ S m ∧ (∀ g, ov.ownBlock = some g → S g)
/-- Block p is the document's ledger of these. -/
def Rl (w : World) (S : Nat → Prop) (p : Nat) (L : List Sg) : Prop :=
  ∃ lv, Blk w p 60 #[lv] ∧ S p ∧ Sl w (fun k => ¬ S k ∨ k = p) 2 lv L.length (GVs L)
theorem Lg.ch {S T : Nat → Prop} {w w' : World} {p : Nat} {L : List Sg} (h : Lg w S p L) (c : Ch T w w') (hd : ∀ k, S k → T k → False) : Lg w' S p L := by
  obtain ⟨m, tv, D, h1, h2, h3, h4, h5, h6, h7⟩ := h
  exact ⟨m, tv, D, h1.ch c (fun ht => hd _ h5 ht), map_ch h2 c (fun ht => hd _ h6 ht), h3, own_ch h4 c (fun g hg ht => hd _ (h7 g hg) ht), h5, h6, h7⟩
theorem Lg.weaken {S T : Nat → Prop} {w : World} {p : Nat} {L : List Sg} (h : Lg w S p L) (hd : ∀ k, S k → T k) : Lg w T p L := by
  obtain ⟨m, tv, D, h1, h2, h3, h4, h5, h6, h7⟩ := h
  exact ⟨m, tv, D, h1, h2, h3, h4, hd _ h5, hd _ h6, fun g hg => hd _ (h7 g hg)⟩
theorem Rl.ch {S T : Nat → Prop} {w w' : World} {p : Nat} {L : List Sg} (h : Rl w S p L) (c : Ch T w w') (hd : ∀ k, S k → T k → False) : Rl w' S p L := by
  obtain ⟨lv, h1, h2, h3⟩ := h
  exact ⟨lv, h1.ch c (fun ht => hd _ h2 ht), h2, h3.ch c (fun k _ ht => .inl (fun hs => hd _ hs ht))⟩
theorem Rl.up {w w' : World} {S : Nat → Prop} {p : Nat} {L : List Sg} (h : Rl w' S p L) : Rl w' (Up S w w') p L := by
  obtain ⟨lv, h1, h2, h3⟩ := h
  refine ⟨lv, h1, .inl h2, h3.weaken ?_⟩
  rintro k _ (hn | rfl)
  · exact .inl fun hs => hn (.inl hs)
  · exact .inr rfl

end Go.Proofs.YtmhmnkpaijoaaaaGreat.Lk

/-
  Layer 8 (request): requests and signed requests in memory; the contracts of isClient, Key, Check, CheckSign, both sides.
-/
namespace Go.Proofs.YtmhmnkpaijoaaaaGreat.Ja
set_option linter.unusedSimpArgs false
open Go Go.RowKit Ck Kw Ga Pm Pe Pg Ph Lk Jm
attribute [local go_sem ↓] Go.wp_at_zero Go.wp_at_succ
set_option linter.unusedVariables false

/-- A request as a value: its records lie at A. -/
def QC (q : Q) (A : Option Addr) (c : Nat) : Array Value := #[.int .i64 q.client, .int .i64 q.time, .int .i64 q.o.kind, .string ⟨q.o.topic.toArray⟩, .string ⟨q.o.group.toArray⟩, .int .i64 q.o.off, .slice A q.o.recs.length c]
def QV (q : Q) (A : Option Addr) (c : Nat) : Value := .agg (QC q A c)
def QB (W : World) (g : Nat) (q : Q) (A : Option Addr) (c : Nat) : Prop := Blk W g 111 (QC q A c)
theorem QB.cells {W : World} {g : Nat} {q : Q} {A : Option Addr} {c : Nat} (h : QB W g q A c) :
    W.cell? ⟨g, 0, none⟩ = some (.int .i64 q.client) ∧ W.cell? ⟨g, 1, none⟩ = some (.int .i64 q.time) ∧ W.cell? ⟨g, 2, none⟩ = some (.int .i64 q.o.kind) ∧ W.cell? ⟨g, 3, none⟩ = some (.string ⟨q.o.topic.toArray⟩) ∧ W.cell? ⟨g, 4, none⟩ = some (.string ⟨q.o.group.toArray⟩) ∧ W.cell? ⟨g, 5, none⟩ = some (.int .i64 q.o.off) ∧ W.cell? ⟨g, 6, none⟩ = some (.slice A q.o.recs.length c) :=
  ⟨Blk.cell h 0, Blk.cell h 1, Blk.cell h 2, Blk.cell h 3, Blk.cell h 4, Blk.cell h 5, Blk.cell h 6⟩
/-- The value v is the request q, its records in no block of X. -/
def QI (w : World) (X : Nat → Prop) (v : Value) (q : Q) : Prop := ∃ A c, v = QV q A c ∧ Ls w X (.slice A q.o.recs.length c) q.o.recs
/-- A signed request as a value. -/
def DC (d : Sd) (A : Option Addr) (c : Nat) : Array Value := #[.int .i64 d.q.client, .int .i64 d.q.time, .int .i64 d.q.o.kind, .string ⟨d.q.o.topic.toArray⟩, .string ⟨d.q.o.group.toArray⟩, .int .i64 d.q.o.off, .slice A d.q.o.recs.length c, .int .i64 d.s.1, .int .i64 d.s.2]
def DV (d : Sd) (A : Option Addr) (c : Nat) : Value := .agg (DC d A c)
def DK (W : World) (g : Nat) (d : Sd) (A : Option Addr) (c : Nat) : Prop := Blk W g 113 (DC d A c)
theorem DK.cells {W : World} {g : Nat} {d : Sd} {A : Option Addr} {c : Nat} (h : DK W g d A c) :
    W.cell? ⟨g, 0, none⟩ = some (.int .i64 d.q.client) ∧ W.cell? ⟨g, 1, none⟩ = some (.int .i64 d.q.time) ∧ W.cell? ⟨g, 2, none⟩ = some (.int .i64 d.q.o.kind) ∧ W.cell? ⟨g, 3, none⟩ = some (.string ⟨d.q.o.topic.toArray⟩) ∧ W.cell? ⟨g, 4, none⟩ = some (.string ⟨d.q.o.group.toArray⟩) ∧ W.cell? ⟨g, 5, none⟩ = some (.int .i64 d.q.o.off) ∧ W.cell? ⟨g, 6, none⟩ = some (.slice A d.q.o.recs.length c) ∧ W.cell? ⟨g, 7, none⟩ = some (.int .i64 d.s.1) ∧ W.cell? ⟨g, 8, none⟩ = some (.int .i64 d.s.2) :=
  ⟨Blk.cell h 0, Blk.cell h 1, Blk.cell h 2, Blk.cell h 3, Blk.cell h 4, Blk.cell h 5, Blk.cell h 6, Blk.cell h 7, Blk.cell h 8⟩
def DI (w : World) (X : Nat → Prop) (v : Value) (d : Sd) : Prop := ∃ A c, v = DV d A c ∧ Ls w X (.slice A d.q.o.recs.length c) d.q.o.recs
section
variable {w w' : World} {X Y S : Nat → Prop} {v : Value} {q : Q} {d : Sd}
theorem QI.after (h : QI w X v q) (hb : Below w.heap.size w w') : QI w' X v q := by
  obtain ⟨A, c, hv, hl⟩ := h
  exact ⟨A, c, hv, hl.after hb⟩
theorem QI.weaken (h : QI w X v q) (hk : ∀ b, b < w.heap.size → Y b → X b) : QI w Y v q := by
  obtain ⟨A, c, hv, hl⟩ := h
  exact ⟨A, c, hv, hl.weaken hk⟩
theorem QI.ch (h : QI w X v q) (c : Ch S w w') (hd : ∀ k, k < w.heap.size → S k → X k) : QI w' X v q := by
  obtain ⟨A, c', hv, hl⟩ := h
  exact ⟨A, c', hv, hl.ch c hd⟩
theorem DI.after (h : DI w X v d) (hb : Below w.heap.size w w') : DI w' X v d := by
  obtain ⟨A, c, hv, hl⟩ := h
  exact ⟨A, c, hv, hl.after hb⟩
theorem DI.weaken (h : DI w X v d) (hk : ∀ b, b < w.heap.size → Y b → X b) : DI w Y v d := by
  obtain ⟨A, c, hv, hl⟩ := h
  exact ⟨A, c, hv, hl.weaken hk⟩
theorem DI.ch (h : DI w X v d) (c : Ch S w w') (hd : ∀ k, k < w.heap.size → S k → X k) : DI w' X v d := by
  obtain ⟨A, c', hv, hl⟩ := h
  exact ⟨A, c', hv, hl.ch c hd⟩
end
theorem op_below (w : World) (o : Obj) : Below w.heap.size w (w.alloc o) := (Below.refl _ w).alloc (Nat.le_refl _) o

theorem isclient_any (w : World) (c : Int) : Calls Tryz.prog 142 #[.int .i64 c] w fun e w' => e = .returned (.bool (isC c)) ∧ w = w' := by
  unfold isC
  by_cases h0 : 0 ≤ c
  · have h1 : decide (0 ≤ c) = true := decide_eq_true h0
    go_enter Tryz.func142, Tryz.ntmps142
    go_wp2
    go_ret
    exact ⟨by simp [h0], rfl⟩
  · have h1 : decide (0 ≤ c) = false := decide_eq_false h0
    have h2 : c < 0 := by omega
    go_enter Tryz.func142, Tryz.ntmps142
    go_wp2
    go_ret
    exact ⟨by simp [h0], rfl⟩
theorem key_any (w : World) (c : Int) : Calls Tryz.prog 125 #[.int .i64 c] w fun e w' => e = .returned (.int .i64 (key c)) ∧ w = w' := by
  have HC := Lib.hid (isclient_any w c)
  by_cases hc : isC c = true
  · have h0 := (isC_iff c).1 hc
    have HK := Lib.hid (show key c = 13 + c by rw [key, if_pos hc])
    rw [hc] at HC
    have hw : IntKind.i64.wrap (13 + c) = 13 + c := wrap64 (by omega) (by omega)
    clear hc
    go_enter Tryz.func125, Tryz.ntmps125
    go_wp2_with fail
    refine HC.out.mono ?_
    rintro e w1 ⟨rfl, rfl⟩
    go_wp2_with fail
    go_ret
    exact ⟨by rw [HK.out]; rfl, rfl⟩
  · have HK := Lib.hid (show key c = -1 by rw [key, if_neg hc])
    have hc := Bool.eq_false_iff.2 hc
    rw [hc] at HC
    clear hc
    go_enter Tryz.func125, Tryz.ntmps125
    go_wp2_with fail
    refine HC.out.mono ?_
    rintro e w1 ⟨rfl, rfl⟩
    go_wp2_with fail
    go_ret
    exact ⟨by rw [HK.out]; rfl, rfl⟩
theorem rkey_any (w : World) (c : Int) : Calls Tryz.prog 70 #[.int .i64 c] w fun e w' => e = .returned (.int .i64 (key c)) ∧ w = w' := by
  by_cases h0 : c < 0
  · have HK := Lib.hid (show key c = -1 by rw [key, if_neg]; rw [isC_iff]; omega)
    have h1 : decide (c < 0) = true := decide_eq_true h0
    go_enter Tryz.func70, Tryz.ntmps70
    go_wp2_with fail
    go_ret
    exact ⟨by rw [HK.out]; rfl, rfl⟩
  · have h1 : decide (c < 0) = false := decide_eq_false h0
    by_cases h8 : 8 ≤ c
    · have HK := Lib.hid (show key c = -1 by rw [key, if_neg]; rw [isC_iff]; omega)
      have h2 : decide (8 ≤ c) = true := decide_eq_true h8
      clear h0
      go_enter Tryz.func70, Tryz.ntmps70
      go_wp2_with fail
      go_ret
      exact ⟨by rw [HK.out]; rfl, rfl⟩
    · have HK := Lib.hid (show key c = 13 + c by rw [key, if_pos]; rw [isC_iff]; omega)
      have h2 : decide (8 ≤ c) = false := decide_eq_false h8
      have hw : IntKind.i64.wrap (13 + c) = 13 + c := wrap64 (by omega) (by omega)
      have h3 : 0 ≤ c := by omega
      have h4 : c < 8 := by omega
      clear h0 h8
      go_enter Tryz.func70, Tryz.ntmps70
      go_wp2_with fail
      go_ret
      exact ⟨by rw [HK.out]; rfl, rfl⟩
theorem key_neg {c : Int} (h : isC c = false) : key c = -1 := by rw [key, h]; rfl
theorem key_pos {c : Int} (h : isC c = true) : key c = 13 + c := by rw [key, h]; rfl

set_option maxHeartbeats 1000000 in
theorem check_any (x : Q) (v : Value) (X : Nat → Prop) (w : World) (h : QI w X v x) (hl : x.o.recs.length ≤ 140737488355328) :
    Calls Tryz.prog 139 #[v] w fun e w' => e = .returned (.int .i64 (qcheck x)) ∧ Below w.heap.size w w' := by
  obtain ⟨A, c, rfl, hls⟩ := h
  have hb0 := op_below w (.cells (QC x A c) 111)
  have hq0 : QB (w.alloc (.cells (QC x A c) 111)) w.heap.size x A c := Blk.new w _ _
  have HC := Lib.hid (Pg.check_any x.o (OV x.o A c) X _ ⟨A, c, rfl, hls.after hb0⟩ hl)
  obtain ⟨a0, a1, a2, a3, a4, a5, a6⟩ := hq0.cells
  have HB := Lib.hid hb0
  have HQ : Hid (qcheck x = if (!isC x.client || decide (x.time < 1) || decide (9007199254740992 < x.time)) = true then 80 else check x.o) := Lib.hid rfl
  clear hb0 hq0 hls
  unfold QV
  unfold OV QC at HC
  unfold QC at a0 a1 a2 a3 a4 a5 a6 HB ⊢
  have HI := fun W : World => Lib.hid (isclient_any W x.client)
  by_cases hc : isC x.client = true
  · rw [hc] at HQ; simp only [hc] at HI
    by_cases h1 : x.time < 1
    · have d1 : decide (x.time < 1) = true := decide_eq_true h1
      rw [d1] at HQ
      skip
      clear hc
      go_enter Tryz.func139, Tryz.ntmps139
      go_wp2_with fail
      refine (HI _).out.mono ?_; rintro e w1 ⟨rfl, rfl⟩
      go_wp2_with fail
      go_ret
      exact ⟨by rw [HQ.out]; rfl, HB.out⟩
    · have d1 : decide (x.time < 1) = false := decide_eq_false h1
      rw [d1] at HQ
      by_cases h2 : 9007199254740992 < x.time
      · have d2 : decide (9007199254740992 < x.time) = true := decide_eq_true h2
        rw [d2] at HQ
        skip
        clear hc h1 h2
        go_enter Tryz.func139, Tryz.ntmps139
        go_wp2_with fail
        refine (HI _).out.mono ?_; rintro e w1 ⟨rfl, rfl⟩
        go_wp2_with fail
        go_ret
        exact ⟨by rw [HQ.out]; rfl, HB.out⟩
      · have d2 : decide (9007199254740992 < x.time) = false := decide_eq_false h2
        rw [d2] at HQ
        skip
        clear hc h1 h2
        go_enter Tryz.func139, Tryz.ntmps139
        go_wp2_with fail
        refine (HI _).out.mono ?_; rintro e w1 ⟨rfl, rfl⟩
        go_wp2_with fail
        refine HC.out.mono ?_
        rintro e w1 ⟨rfl, hb1⟩
        have HB1 := Lib.hid (HB.out.trans (hb1.mono HB.out.size))
        clear hb1
        go_wp2_with fail
        go_ret
        exact ⟨by rw [HQ.out]; rfl, HB1.out⟩
  · have hc := Bool.eq_false_iff.2 hc
    rw [hc] at HQ; simp only [hc] at HI
    skip
    clear hc
    go_enter Tryz.func139, Tryz.ntmps139
    go_wp2_with fail
    refine (HI _).out.mono ?_; rintro e w1 ⟨rfl, rfl⟩
    go_wp2_with fail
    go_ret
    exact ⟨by rw [HQ.out]; rfl, HB.out⟩

set_option maxHeartbeats 1000000 in
theorem rcheck_any (x : Q) (v : Value) (X : Nat → Prop) (w : World) (h : QI w X v x) (hl : x.o.recs.length ≤ 140737488355328) :
    Calls Tryz.prog 99 #[v] w fun e w' => e = .returned (.int .i64 (qcheck x)) ∧ Below w.heap.size w w' := by
  obtain ⟨A, c, rfl, hls⟩ := h
  have hb0 := op_below w (.cells (QC x A c) 111)
  have hq0 : QB (w.alloc (.cells (QC x A c) 111)) w.heap.size x A c := Blk.new w _ _
  have HC := Lib.hid (Ph.rcheck_any x.o (OV x.o A c) X _ ⟨A, c, rfl, hls.after hb0⟩ hl)
  obtain ⟨a0, a1, a2, a3, a4, a5, a6⟩ := hq0.cells
  have HB := Lib.hid hb0
  have HQ : Hid (qcheck x = if (!isC x.client || decide (x.time < 1) || decide (9007199254740992 < x.time)) = true then 80 else check x.o) := Lib.hid rfl
  clear hb0 hq0 hls
  unfold QV
  unfold OV QC at HC
  unfold QC at a0 a1 a2 a3 a4 a5 a6 HB ⊢
  have HI := fun W : World => Lib.hid (rkey_any W x.client)
  by_cases hc : isC x.client = true
  · rw [hc] at HQ
    by_cases h1 : x.time < 1
    · have d1 : decide (x.time < 1) = true := decide_eq_true h1
      rw [d1] at HQ
      have hkp := key_pos hc; have hc1 := (isC_iff _).1 hc; have hd : decide (key x.client < 0) = false := decide_eq_false (by omega); clear hkp hc1
      clear hc
      go_enter Tryz.func99, Tryz.ntmps99
      go_wp2_with fail
      refine (HI _).out.mono ?_; rintro e w1 ⟨rfl, rfl⟩
      go_wp2_with fail
      go_ret
      exact ⟨by rw [HQ.out]; rfl, HB.out⟩
    · have d1 : decide (x.time < 1) = false := decide_eq_false h1
      rw [d1] at HQ
      by_cases h2 : 9007199254740992 < x.time
      · have d2 : decide (9007199254740992 < x.time) = true := decide_eq_true h2
        rw [d2] at HQ
        have hkp := key_pos hc; have hc1 := (isC_iff _).1 hc; have hd : decide (key x.client < 0) = false := decide_eq_false (by omega); clear hkp hc1
        clear hc h1 h2
        go_enter Tryz.func99, Tryz.ntmps99
        go_wp2_with fail
        refine (HI _).out.mono ?_; rintro e w1 ⟨rfl, rfl⟩
        go_wp2_with fail
        go_ret
        exact ⟨by rw [HQ.out]; rfl, HB.out⟩
      · have d2 : decide (9007199254740992 < x.time) = false := decide_eq_false h2
        rw [d2] at HQ
        have hkp := key_pos hc; have hc1 := (isC_iff _).1 hc; have hd : decide (key x.client < 0) = false := decide_eq_false (by omega); clear hkp hc1
        clear hc h1 h2
        go_enter Tryz.func99, Tryz.ntmps99
        go_wp2_with fail
        refine (HI _).out.mono ?_; rintro e w1 ⟨rfl, rfl⟩
        go_wp2_with fail
        refine HC.out.mono ?_
        rintro e w1 ⟨rfl, hb1⟩
        have HB1 := Lib.hid (HB.out.trans (hb1.mono HB.out.size))
        clear hb1
        go_wp2_with fail
        go_ret
        exact ⟨by rw [HQ.out]; rfl, HB1.out⟩
  · have hc := Bool.eq_false_iff.2 hc
    rw [hc] at HQ
    have hkp := key_neg hc; have hd : decide (key x.client < 0) = true := decide_eq_true (by omega); clear hkp
    clear hc
    go_enter Tryz.func99, Tryz.ntmps99
    go_wp2_with fail
    refine (HI _).out.mono ?_; rintro e w1 ⟨rfl, rfl⟩
    go_wp2_with fail
    go_ret
    exact ⟨by rw [HQ.out]; rfl, HB.out⟩

set_option maxHeartbeats 1000000 in
theorem csign_any (s : Int × Int) (w : World) :
    Calls Tryz.prog 140 #[GV s] w fun e w' => e = .returned (.int .i64 (scheck s)) ∧ Below w.heap.size w w' := by
  obtain ⟨k, d⟩ := s
  have hb0 := op_below w (.cells #[.int .i64 k, .int .i64 d] 36)
  have hq0 : Blk (w.alloc (.cells #[.int .i64 k, .int .i64 d] 36)) w.heap.size 36 #[.int .i64 k, .int .i64 d] := Blk.new w _ _
  have a0 : (w.alloc (.cells #[.int .i64 k, .int .i64 d] 36)).cell? ⟨w.heap.size, 0, none⟩ = some (.int .i64 k) := hq0.cell 0
  have a1 : (w.alloc (.cells #[.int .i64 k, .int .i64 d] 36)).cell? ⟨w.heap.size, 1, none⟩ = some (.int .i64 d) := hq0.cell 1
  have HB := Lib.hid hb0
  have HQ : Hid (scheck (k, d) = if (decide (k < 0) || decide (21 ≤ k) || decide (d < 1) || decide (9007199254740992 < d)) = true then 81 else 0) := Lib.hid rfl
  clear hb0 hq0
  unfold GV
  simp only
  by_cases h1 : k < 0
  · have d1 : decide (k < 0) = true := decide_eq_true h1
    rw [d1] at HQ
    go_enter Tryz.func140, Tryz.ntmps140
    go_wp2_with fail
    go_ret
    exact ⟨by rw [HQ.out]; rfl, HB.out⟩
  · have d1 : decide (k < 0) = false := decide_eq_false h1
    rw [d1] at HQ
    by_cases h2 : 21 ≤ k
    · have d2 : decide (21 ≤ k) = true := decide_eq_true h2
      rw [d2] at HQ
      clear h1
      go_enter Tryz.func140, Tryz.ntmps140
      go_wp2_with fail
      go_ret
      exact ⟨by rw [HQ.out]; rfl, HB.out⟩
    · have d2 : decide (21 ≤ k) = false := decide_eq_false h2
      rw [d2] at HQ
      by_cases h3 : d < 1
      · have d3 : decide (d < 1) = true := decide_eq_true h3
        rw [d3] at HQ
        clear h1 h2
        go_enter Tryz.func140, Tryz.ntmps140
        go_wp2_with fail
        go_ret
        exact ⟨by rw [HQ.out]; rfl, HB.out⟩
      · have d3 : decide (d < 1) = false := decide_eq_false h3
        rw [d3] at HQ
        by_cases h4 : 9007199254740992 < d
        · have d4 : decide (9007199254740992 < d) = true := decide_eq_true h4
          rw [d4] at HQ
          clear h1 h2 h3
          go_enter Tryz.func140, Tryz.ntmps140
          go_wp2_with fail
          go_ret
          exact ⟨by rw [HQ.out]; rfl, HB.out⟩
        · have d4 : decide (9007199254740992 < d) = false := decide_eq_false h4
          rw [d4] at HQ
          clear h1 h2 h3 h4
          go_enter Tryz.func140, Tryz.ntmps140
          go_wp2_with fail
          go_ret
          exact ⟨by rw [HQ.out]; rfl, HB.out⟩

set_option maxHeartbeats 1000000 in
theorem rcsign_any (s : Int × Int) (w : World) :
    Calls Tryz.prog 102 #[GV s] w fun e w' => e = .returned (.int .i64 (scheck s)) ∧ Below w.heap.size w w' := by
  obtain ⟨k, d⟩ := s
  have hb0 := op_below w (.cells #[.int .i64 k, .int .i64 d] 36)
  have hq0 : Blk (w.alloc (.cells #[.int .i64 k, .int .i64 d] 36)) w.heap.size 36 #[.int .i64 k, .int .i64 d] := Blk.new w _ _
  have a0 : (w.alloc (.cells #[.int .i64 k, .int .i64 d] 36)).cell? ⟨w.heap.size, 0, none⟩ = some (.int .i64 k) := hq0.cell 0
  have a1 : (w.alloc (.cells #[.int .i64 k, .int .i64 d] 36)).cell? ⟨w.heap.size, 1, none⟩ = some (.int .i64 d) := hq0.cell 1
  have HB := Lib.hid hb0
  have HQ : Hid (scheck (k, d) = if (decide (k < 0) || decide (21 ≤ k) || decide (d < 1) || decide (9007199254740992 < d)) = true then 81 else 0) := Lib.hid rfl
  clear hb0 hq0
  unfold GV
  simp only
  by_cases h1 : k < 0
  · have d1 : decide (k < 0) = true := decide_eq_true h1
    rw [d1] at HQ
    go_enter Tryz.func102, Tryz.ntmps102
    go_wp2_with fail
    go_ret
    exact ⟨by rw [HQ.out]; rfl, HB.out⟩
  · have d1 : decide (k < 0) = false := decide_eq_false h1
    rw [d1] at HQ
    by_cases h2 : 21 ≤ k
    · have d2 : decide (21 ≤ k) = true := decide_eq_true h2
      rw [d2] at HQ
      clear h1
      go_enter Tryz.func102, Tryz.ntmps102
      go_wp2_with fail
      go_ret
      exact ⟨by rw [HQ.out]; rfl, HB.out⟩
    · have d2 : decide (21 ≤ k) = false := decide_eq_false h2
      rw [d2] at HQ
      by_cases h3 : d < 1
      · have d3 : decide (d < 1) = true := decide_eq_true h3
        rw [d3] at HQ
        clear h1 h2
        go_enter Tryz.func102, Tryz.ntmps102
        go_wp2_with fail
        go_ret
        exact ⟨by rw [HQ.out]; rfl, HB.out⟩
      · have d3 : decide (d < 1) = false := decide_eq_false h3
        rw [d3] at HQ
        by_cases h4 : 9007199254740992 < d
        · have d4 : decide (9007199254740992 < d) = true := decide_eq_true h4
          rw [d4] at HQ
          clear h1 h2 h3
          go_enter Tryz.func102, Tryz.ntmps102
          go_wp2_with fail
          go_ret
          exact ⟨by rw [HQ.out]; rfl, HB.out⟩
        · have d4 : decide (9007199254740992 < d) = false := decide_eq_false h4
          rw [d4] at HQ
          clear h1 h2 h3 h4
          go_enter Tryz.func102, Tryz.ntmps102
          go_wp2_with fail
          go_ret
          exact ⟨by rw [HQ.out]; rfl, HB.out⟩

end Go.Proofs.YtmhmnkpaijoaaaaGreat.Ja

/-
  Generic: rows of elements of several cells, laid out flat.
-/
namespace Go.Proofs.YtmhmnkpaijoaaaaGreat.Kf
set_option linter.unusedSimpArgs false
open Go Go.RowKit Ck Kw
set_option linter.unusedVariables false

section
variable {α : Type} {m : Nat} {F : α → List Value} (hF : ∀ x, (F x).length = m)
include hF
theorem flat_len (l : List α) : (l.flatMap F).length = l.length * m := by
  induction l with
  | nil => simp
  | cons x l ih => rw [List.flatMap_cons, List.length_append, ih, List.length_cons, hF, Nat.succ_mul]; omega
theorem flat_get (l : List α) (i : Nat) (hi : i < l.length) (j : Nat) (hj : j < m) : (l.flatMap F)[i * m + j]? = (F l[i])[j]? := by
  induction l generalizing i with
  | nil => exact absurd hi (by simp)
  | cons x l ih =>
    have hx := hF x
    rw [List.flatMap_cons]
    cases i with
    | zero => rw [List.getElem?_append_left (by omega)]; simp
    | succ i =>
      rw [List.getElem?_append_right (by rw [hx, Nat.succ_mul]; omega), hx, show (i + 1) * m + j - m = i * m + j from by rw [Nat.succ_mul]; omega]
      exact ih i (by simpa using hi)
theorem flat_take (l : List α) (i : Nat) : (l.take i).flatMap F = (l.flatMap F).take (i * m) := by
  induction l generalizing i with
  | nil => simp
  | cons x l ih =>
    have hx := hF x
    cases i with
    | zero => simp
    | succ i => rw [List.take_succ_cons, List.flatMap_cons, List.flatMap_cons, ih, List.take_append, hx, List.take_of_length_le (l := F x) (by rw [Nat.succ_mul]; omega), show (i + 1) * m - m = i * m from by rw [Nat.succ_mul]; omega]
theorem flat_drop (l : List α) (i : Nat) : (l.drop i).flatMap F = (l.flatMap F).drop (i * m) := by
  induction l generalizing i with
  | nil => simp
  | cons x l ih =>
    have hx := hF x
    cases i with
    | zero => simp
    | succ i => rw [List.drop_succ_cons, List.flatMap_cons, ih, List.drop_append, hx, List.drop_of_length_le (l := F x) (by rw [Nat.succ_mul]; omega), show (i + 1) * m - m = i * m from by rw [Nat.succ_mul]; omega, List.nil_append]
/-- One cell of one element is turned. -/
theorem flat_set (l : List α) (i : Nat) (hi : i < l.length) (x : α) (j : Nat) (hj : j < m) (u : Value) (hx : F x = (F l[i]).set j u) : (l.flatMap F).set (i * m + j) u = (l.set i x).flatMap F := by
  induction l generalizing i with
  | nil => exact absurd hi (by simp)
  | cons y l ih =>
    have hy := hF y
    cases i with
    | zero =>
      simp only [List.flatMap_cons, List.set_cons_zero, Nat.zero_mul, Nat.zero_add]
      rw [List.set_append_left _ _ (by omega), hx]
      rfl
    | succ i =>
      simp only [List.flatMap_cons, List.set_cons_succ]
      rw [List.set_append_right _ _ (by rw [Nat.succ_mul]; omega), hy, show (i + 1) * m + j - m = i * m + j from by rw [Nat.succ_mul]; omega]
      rw [ih i (by simpa using hi) hx]
end

end Go.Proofs.YtmhmnkpaijoaaaaGreat.Kf

/-
  Layer 6 (op): the contract of read, kind by kind.
-/
namespace Go.Proofs.YtmhmnkpaijoaaaaGreat.Qb
set_option linter.unusedSimpArgs false
open Go Go.RowKit Ck Kw Ca Cb Cf Ci Pm Pa Pe Pf Pg Ph Ppi Pk Pp
set_option linter.unusedVariables false

theorem results_row1 {P : Program} {fn : Func} {p : Tmp} {ty : TypeId} (h : fn.results = #[.cell p ty]) (tmps : Array Value) (w : World) (g : Nat) (t : TypeId) (cs : Array Value) (fr : Nat × Nat) (d : TypeDesc)
    (hp : tmps.getD p undef = .pointer (some ⟨g, 0, none⟩)) (hg : w.heap[g]? = some (.cells cs t fr))
    (hu : P.underlying ty = some d) (hd : (match d with | .struct _ | .array _ _ => true | _ => false) = true) (hi : (P.info? ty).map (·.size) = some cs.size) :
    (results fn tmps).run P w = .ok (.agg cs) w := by
  have hp' : tmps[p]?.getD undef = .pointer (some ⟨g, 0, none⟩) := by simpa using hp
  simp [results, h, hp', asAddr, run_loadVar_row w g t ty cs fr d hg hu hd hi]
theorem size_op : (Tryz.prog.info? 109).map (·.size) = some 5 := by kernel_rfl
theorem blk5 {w : World} {g : Nat} {t : TypeId} {a b c d e x0 x1 x2 x3 x4 : Value} (h : Blk w g t #[a, b, c, d, e]) :
    Blk (((((w.setCell ⟨g, 0, none⟩ x0).setCell ⟨g, 1, none⟩ x1).setCell ⟨g, 2, none⟩ x2).setCell ⟨g, 3, none⟩ x3).setCell ⟨g, 4, none⟩ x4) g t #[x0, x1, x2, x3, x4] := by
  have := ((((h.set_ 0 x0).set_ 1 x1).set_ 2 x2).set_ 3 x3).set_ 4 x4
  simpa using this
theorem Blk.cells5 {W : World} {g : Nat} {t : TypeId} {a b c d e : Value} (h : Blk W g t #[a, b, c, d, e]) :
    (W.cell? ⟨g, 0, none⟩ = some a ∧ W.cell? ⟨g, 1, none⟩ = some b ∧ W.cell? ⟨g, 2, none⟩ = some c ∧ W.cell? ⟨g, 3, none⟩ = some d ∧ W.cell? ⟨g, 4, none⟩ = some e) ∧
    (W.frozen? ⟨g, 0, none⟩ = false ∧ W.frozen? ⟨g, 1, none⟩ = false ∧ W.frozen? ⟨g, 2, none⟩ = false ∧ W.frozen? ⟨g, 3, none⟩ = false ∧ W.frozen? ⟨g, 4, none⟩ = false) :=
  ⟨⟨h.cell 0, h.cell 1, h.cell 2, h.cell 3, h.cell 4⟩, ⟨h.frozen 0, h.frozen 1, h.frozen 2, h.frozen 3, h.frozen 4⟩⟩

/-- The cells of no operation. -/
def Z5 : Array Value := #[.int .i64 0, .string ⟨#[]⟩, .string ⟨#[]⟩, .int .i64 0, .slice none 0 0]
section
variable {w0 W W' : World} {X : Nat → Prop} {g g1 g2 g3 : Nat} {k : Int} {cs cs' : Array Value} {s s' : Cm.RS}
end
theorem res_blk {W : World} {g1 : Nat} (h : Blk W g1 109 Z5) (x0 x1 x2 x3 x4 : Value) :
    (((((W.setCell ⟨g1, 0, none⟩ x0).setCell ⟨g1, 1, none⟩ x1).setCell ⟨g1, 2, none⟩ x2).setCell ⟨g1, 3, none⟩ x3).setCell ⟨g1, 4, none⟩ x4).heap[g1]? = some (.cells #[x0, x1, x2, x3, x4] 109 (0, 0)) := blk5 h
theorem ls_nil (W : World) (X : Nat → Prop) : Ls W X (.slice none 0 0) [] := ⟨[], Sl.nil _ _ _, fun i hi => absurd hi (by simp)⟩

end Go.Proofs.YtmhmnkpaijoaaaaGreat.Qb
