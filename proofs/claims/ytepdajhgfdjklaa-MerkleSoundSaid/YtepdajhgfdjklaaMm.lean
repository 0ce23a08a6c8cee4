/-
  Plain mathematics of layer 5 (merkle): splits, digests over leaves in a table of texts, proofs and what they come to; complete; sound; unlike lists, unlike digests. No program is named here.
-/
import Derived.Test.YtepdajhgfdjklaaIm
namespace Go.Proofs.Ytepdajhgfdjklaa.Mm
open Im

/-- How many of n leaves stand in the first part. -/
def split (n : Nat) : Nat := if n < 2 then 0 else 2 ^ Nat.log2 (n - 1)
theorem split_spec {n : Nat} (h : 2 ≤ n) : 1 ≤ split n ∧ split n < n ∧ n ≤ 2 * split n := by
  unfold split
  rw [if_neg (by omega)]
  have h1 := Nat.log2_self_le (n := n - 1) (by omega)
  have h2 := Nat.lt_log2_self (n := n - 1)
  have h3 : 2 ^ ((n - 1).log2 + 1) = 2 ^ (n - 1).log2 * 2 := Nat.pow_succ 2 _
  have h4 : 1 ≤ 2 ^ (n - 1).log2 := Nat.one_le_two_pow
  omega

def leafB (b : Tx) : Tx := 0 :: b
def nodeB (a b : Int) : Tx := 1 :: (Cm.enc a.toNat ++ Cm.enc b.toNat)
def noneB : Tx := [2]

/-- The digest over leaves, and the table behind it. -/
def rootF : Nat → List Tx → List Tx → Nat × List Tx
  | 0, L, _ => (0, L)
  | f + 1, L, l =>
    if l.length = 0 then (sum L noneB, add L noneB)
    else if l.length = 1 then (sum L (leafB (l.headD [])), add L (leafB (l.headD [])))
    else
      (sum (rootF f (rootF f L (l.take (split l.length))).2 (l.drop (split l.length))).2
          (nodeB (rootF f L (l.take (split l.length))).1 (rootF f (rootF f L (l.take (split l.length))).2 (l.drop (split l.length))).1),
        add (rootF f (rootF f L (l.take (split l.length))).2 (l.drop (split l.length))).2
          (nodeB (rootF f L (l.take (split l.length))).1 (rootF f (rootF f L (l.take (split l.length))).2 (l.drop (split l.length))).1))
def root (L l : List Tx) : Nat × List Tx := rootF (l.length + 1) L l

theorem rootF_eq : ∀ (f g : Nat) (L l : List Tx), l.length < f → l.length < g → rootF f L l = rootF g L l
  | 0, _, _, _, h, _ => by omega
  | _ + 1, 0, _, _, _, h => by omega
  | f + 1, g + 1, L, l, hf, hg => by
    by_cases h0 : l.length = 0
    · simp only [rootF, if_pos h0]
    · by_cases h1 : l.length = 1
      · simp only [rootF, if_neg h0, if_pos h1]
      · obtain ⟨s1, s2, s3⟩ := split_spec (n := l.length) (by omega)
        have e1 : ∀ K, rootF f K (l.take (split l.length)) = rootF g K (l.take (split l.length)) := fun K =>
          rootF_eq f g K _ (by rw [List.length_take]; omega) (by rw [List.length_take]; omega)
        have e2 : ∀ K, rootF f K (l.drop (split l.length)) = rootF g K (l.drop (split l.length)) := fun K =>
          rootF_eq f g K _ (by rw [List.length_drop]; omega) (by rw [List.length_drop]; omega)
        simp only [rootF, if_neg h0, if_neg h1, e1, e2]
theorem rootF_root {f : Nat} {L l : List Tx} (h : l.length < f) : rootF f L l = root L l := rootF_eq f _ L l h (by omega)
theorem root_nil (L : List Tx) : root L [] = (sum L noneB, add L noneB) := rfl
theorem root_one (L : List Tx) {l : List Tx} (h : l.length = 1) : root L l = (sum L (leafB (l.headD [])), add L (leafB (l.headD []))) := by
  unfold root rootF
  rw [if_neg (by omega), if_pos h]
/-- Of more: of the first part, of the other one, and of both. -/
theorem root_more (L : List Tx) {l : List Tx} (h : 2 ≤ l.length) : root L l =
    (sum (root (root L (l.take (split l.length))).2 (l.drop (split l.length))).2
        (nodeB (root L (l.take (split l.length))).1 (root (root L (l.take (split l.length))).2 (l.drop (split l.length))).1),
      add (root (root L (l.take (split l.length))).2 (l.drop (split l.length))).2
        (nodeB (root L (l.take (split l.length))).1 (root (root L (l.take (split l.length))).2 (l.drop (split l.length))).1)) := by
  obtain ⟨s1, s2, s3⟩ := split_spec h
  have e1 : ∀ K, rootF l.length K (l.take (split l.length)) = root K (l.take (split l.length)) := fun K => rootF_root (by rw [List.length_take]; omega)
  have e2 : ∀ K, rootF l.length K (l.drop (split l.length)) = root K (l.drop (split l.length)) := fun K => rootF_root (by rw [List.length_drop]; omega)
  conv => lhs; unfold root rootF
  rw [if_neg (by omega), if_neg (by omega)]
  simp only [e1, e2]

/-- A leaf's proof, and the table behind it. -/
def proveF : Nat → List Tx → Nat → List Tx → List Nat × List Tx
  | 0, L, _, _ => ([], L)
  | f + 1, L, i, l =>
    if l.length ≤ 1 then ([], L)
    else if i < split l.length then
      ((proveF f L i (l.take (split l.length))).1 ++ [(root (proveF f L i (l.take (split l.length))).2 (l.drop (split l.length))).1],
        (root (proveF f L i (l.take (split l.length))).2 (l.drop (split l.length))).2)
    else
      ((proveF f L (i - split l.length) (l.drop (split l.length))).1 ++ [(root (proveF f L (i - split l.length) (l.drop (split l.length))).2 (l.take (split l.length))).1],
        (root (proveF f L (i - split l.length) (l.drop (split l.length))).2 (l.take (split l.length))).2)
def prove (L : List Tx) (i : Nat) (l : List Tx) : List Nat × List Tx := proveF (l.length + 1) L i l
theorem proveF_eq : ∀ (f g : Nat) (L : List Tx) (i : Nat) (l : List Tx), l.length < f → l.length < g → proveF f L i l = proveF g L i l
  | 0, _, _, _, _, h, _ => by omega
  | _ + 1, 0, _, _, _, _, h => by omega
  | f + 1, g + 1, L, i, l, hf, hg => by
    by_cases h0 : l.length ≤ 1
    · simp only [proveF, if_pos h0]
    · obtain ⟨s1, s2, s3⟩ := split_spec (n := l.length) (by omega)
      have e1 : ∀ K j, proveF f K j (l.take (split l.length)) = proveF g K j (l.take (split l.length)) := fun K j =>
        proveF_eq f g K j _ (by rw [List.length_take]; omega) (by rw [List.length_take]; omega)
      have e2 : ∀ K j, proveF f K j (l.drop (split l.length)) = proveF g K j (l.drop (split l.length)) := fun K j =>
        proveF_eq f g K j _ (by rw [List.length_drop]; omega) (by rw [List.length_drop]; omega)
      simp only [proveF, if_neg h0, e1, e2]
theorem proveF_prove {f : Nat} {L : List Tx} {i : Nat} {l : List Tx} (h : l.length < f) : proveF f L i l = prove L i l := proveF_eq f _ L i l h (by omega)
theorem prove_one (L : List Tx) (i : Nat) {l : List Tx} (h : l.length ≤ 1) : prove L i l = ([], L) := by
  unfold prove proveF
  rw [if_pos h]
theorem prove_left (L : List Tx) {i : Nat} {l : List Tx} (h : 2 ≤ l.length) (hi : i < split l.length) : prove L i l =
    ((prove L i (l.take (split l.length))).1 ++ [(root (prove L i (l.take (split l.length))).2 (l.drop (split l.length))).1],
      (root (prove L i (l.take (split l.length))).2 (l.drop (split l.length))).2) := by
  obtain ⟨s1, s2, s3⟩ := split_spec h
  have e1 : ∀ K j, proveF l.length K j (l.take (split l.length)) = prove K j (l.take (split l.length)) := fun K j => proveF_prove (by rw [List.length_take]; omega)
  conv => lhs; unfold prove proveF
  rw [if_neg (by omega), if_pos hi]
  simp only [e1]
theorem prove_right (L : List Tx) {i : Nat} {l : List Tx} (h : 2 ≤ l.length) (hi : ¬ i < split l.length) : prove L i l =
    ((prove L (i - split l.length) (l.drop (split l.length))).1 ++ [(root (prove L (i - split l.length) (l.drop (split l.length))).2 (l.take (split l.length))).1],
      (root (prove L (i - split l.length) (l.drop (split l.length))).2 (l.take (split l.length))).2) := by
  obtain ⟨s1, s2, s3⟩ := split_spec h
  have e2 : ∀ K j, proveF l.length K j (l.drop (split l.length)) = prove K j (l.drop (split l.length)) := fun K j => proveF_prove (by rw [List.length_drop]; omega)
  conv => lhs; unfold prove proveF
  rw [if_neg (by omega), if_neg hi]
  simp only [e2]

/-- How many digests a proof has. -/
def lenF : Nat → Nat → Nat → Nat
  | 0, _, _ => 0
  | f + 1, i, n => if n ≤ 1 then 0 else if i < split n then lenF f i (split n) + 1 else lenF f (i - split n) (n - split n) + 1
def len (i n : Nat) : Nat := lenF (n + 1) i n
theorem lenF_eq : ∀ (f g i n : Nat), n < f → n < g → lenF f i n = lenF g i n
  | 0, _, _, _, h, _ => by omega
  | _ + 1, 0, _, _, _, h => by omega
  | f + 1, g + 1, i, n, hf, hg => by
    by_cases h0 : n ≤ 1
    · simp only [lenF, if_pos h0]
    · obtain ⟨s1, s2, s3⟩ := split_spec (n := n) (by omega)
      simp only [lenF, if_neg h0, lenF_eq f g i (split n) (by omega) (by omega), lenF_eq f g (i - split n) (n - split n) (by omega) (by omega)]
theorem len_one {i n : Nat} (h : n ≤ 1) : len i n = 0 := by
  unfold len lenF
  rw [if_pos h]
theorem len_left {i n : Nat} (h : 2 ≤ n) (hi : i < split n) : len i n = len i (split n) + 1 := by
  obtain ⟨s1, s2, s3⟩ := split_spec h
  conv => lhs; unfold len lenF
  rw [if_neg (by omega), if_pos hi, lenF_eq n (split n + 1) i (split n) (by omega) (by omega)]
  rfl
theorem len_right {i n : Nat} (h : 2 ≤ n) (hi : ¬ i < split n) : len i n = len (i - split n) (n - split n) + 1 := by
  obtain ⟨s1, s2, s3⟩ := split_spec h
  conv => lhs; unfold len lenF
  rw [if_neg (by omega), if_neg hi, lenF_eq n (n - split n + 1) (i - split n) (n - split n) (by omega) (by omega)]
  rfl
theorem len_lt : ∀ (n i : Nat), 1 ≤ n → len i n < n
  | n, i, h => by
    by_cases h1 : n ≤ 1
    · rw [len_one h1]; omega
    · obtain ⟨s1, s2, s3⟩ := split_spec (n := n) (by omega)
      by_cases hi : i < split n
      · rw [len_left (by omega) hi]
        have := len_lt (split n) i s1
        omega
      · rw [len_right (by omega) hi]
        have := len_lt (n - split n) (i - split n) (by omega)
        omega
  termination_by n => n

/-- The number that a text has already. -/
def look (L : List Tx) (s : Tx) : Option Nat := if num L s = 0 then none else some (num L s)
theorem look_some {L : List Tx} {s : Tx} {d : Nat} : look L s = some d ↔ num L s = d ∧ d ≠ 0 := by
  unfold look
  split
  · rename_i h
    constructor
    · intro e; cases e
    · rintro ⟨rfl, h2⟩; exact absurd h h2
  · rename_i h
    constructor
    · intro e; injection e with e; subst e; exact ⟨rfl, h⟩
    · rintro ⟨rfl, h2⟩; rfl
/-- The digest to which a proof comes; none: the table does not know one. -/
def comesF : Nat → List Tx → Tx → Nat → Nat → List Int → Option Nat
  | 0, _, _, _, _, _ => none
  | f + 1, L, b, i, n, p =>
    if n ≤ 1 then look L (leafB b)
    else if i < split n then (comesF f L b i (split n) (p.take (p.length - 1))).bind fun d => look L (nodeB d (p.getD (p.length - 1) 0))
    else (comesF f L b (i - split n) (n - split n) (p.take (p.length - 1))).bind fun d => look L (nodeB (p.getD (p.length - 1) 0) d)
def comes (L : List Tx) (b : Tx) (i n : Nat) (p : List Int) : Option Nat := comesF (n + 1) L b i n p
theorem comesF_eq : ∀ (f g : Nat) (L : List Tx) (b : Tx) (i n : Nat) (p : List Int), n < f → n < g → comesF f L b i n p = comesF g L b i n p
  | 0, _, _, _, _, _, _, h, _ => by omega
  | _ + 1, 0, _, _, _, _, _, _, h => by omega
  | f + 1, g + 1, L, b, i, n, p, hf, hg => by
    by_cases h0 : n ≤ 1
    · simp only [comesF, if_pos h0]
    · obtain ⟨s1, s2, s3⟩ := split_spec (n := n) (by omega)
      simp only [comesF, if_neg h0, comesF_eq f g L b i (split n) _ (by omega) (by omega), comesF_eq f g L b (i - split n) (n - split n) _ (by omega) (by omega)]
theorem comes_one (L : List Tx) (b : Tx) {i n : Nat} (p : List Int) (h : n ≤ 1) : comes L b i n p = look L (leafB b) := by
  unfold comes comesF
  rw [if_pos h]
theorem comes_left (L : List Tx) (b : Tx) {i n : Nat} (p : List Int) (h : 2 ≤ n) (hi : i < split n) :
    comes L b i n p = (comes L b i (split n) (p.take (p.length - 1))).bind fun d => look L (nodeB d (p.getD (p.length - 1) 0)) := by
  obtain ⟨s1, s2, s3⟩ := split_spec h
  conv => lhs; unfold comes comesF
  rw [if_neg (by omega), if_pos hi, comesF_eq n (split n + 1) L b i (split n) _ (by omega) (by omega)]
  rfl
theorem comes_right (L : List Tx) (b : Tx) {i n : Nat} (p : List Int) (h : 2 ≤ n) (hi : ¬ i < split n) :
    comes L b i n p = (comes L b (i - split n) (n - split n) (p.take (p.length - 1))).bind fun d => look L (nodeB (p.getD (p.length - 1) 0) d) := by
  obtain ⟨s1, s2, s3⟩ := split_spec h
  conv => lhs; unfold comes comesF
  rw [if_neg (by omega), if_neg hi, comesF_eq n (n - split n + 1) L b (i - split n) (n - split n) _ (by omega) (by omega)]
  rfl
/-- Does a proof show that a leaf stands at a place? -/
def verify (L : List Tx) (r : Int) (b : Tx) (i n : Int) (p : List Int) : Bool :=
  decide (0 ≤ i ∧ i < n ∧ p.length = len i.toNat n.toNat ∧ ∃ d, comes L b i.toNat n.toNat p = some d ∧ (d : Int) = r)

/-- The table knows the digest over these leaves, and over all parts of them. -/
def hasF : Nat → List Tx → List Tx → Nat → Prop
  | 0, _, _, _ => False
  | f + 1, L, l, d =>
    if l.length = 0 then look L noneB = some d
    else if l.length = 1 then look L (leafB (l.headD [])) = some d
    else ∃ a b, hasF f L (l.take (split l.length)) a ∧ hasF f L (l.drop (split l.length)) b ∧ look L (nodeB (a : Nat) (b : Nat)) = some d
def Has (L l : List Tx) (d : Nat) : Prop := hasF (l.length + 1) L l d
theorem hasF_eq : ∀ (f g : Nat) (L l : List Tx) (d : Nat), l.length < f → l.length < g → (hasF f L l d ↔ hasF g L l d)
  | 0, _, _, _, _, h, _ => by omega
  | _ + 1, 0, _, _, _, _, h => by omega
  | f + 1, g + 1, L, l, d, hf, hg => by
    by_cases h0 : l.length = 0
    · simp only [hasF, if_pos h0]
    · by_cases h1 : l.length = 1
      · simp only [hasF, if_neg h0, if_pos h1]
      · obtain ⟨s1, s2, s3⟩ := split_spec (n := l.length) (by omega)
        have e1 : ∀ a, hasF f L (l.take (split l.length)) a ↔ hasF g L (l.take (split l.length)) a := fun a =>
          hasF_eq f g L _ a (by rw [List.length_take]; omega) (by rw [List.length_take]; omega)
        have e2 : ∀ a, hasF f L (l.drop (split l.length)) a ↔ hasF g L (l.drop (split l.length)) a := fun a =>
          hasF_eq f g L _ a (by rw [List.length_drop]; omega) (by rw [List.length_drop]; omega)
        simp only [hasF, if_neg h0, if_neg h1, e1, e2]
theorem has_nil {L : List Tx} {d : Nat} : Has L [] d ↔ look L noneB = some d := by simp [Has, hasF]
theorem has_one {L l : List Tx} {d : Nat} (h : l.length = 1) : Has L l d ↔ look L (leafB (l.headD [])) = some d := by
  unfold Has hasF
  rw [if_neg (by omega), if_pos h]
theorem has_more {L l : List Tx} {d : Nat} (h : 2 ≤ l.length) :
    Has L l d ↔ ∃ a b, Has L (l.take (split l.length)) a ∧ Has L (l.drop (split l.length)) b ∧ look L (nodeB (a : Nat) (b : Nat)) = some d := by
  obtain ⟨s1, s2, s3⟩ := split_spec h
  have e1 : ∀ a, hasF l.length L (l.take (split l.length)) a ↔ Has L (l.take (split l.length)) a := fun a => hasF_eq _ _ L _ a (by rw [List.length_take]; omega) (by omega)
  have e2 : ∀ a, hasF l.length L (l.drop (split l.length)) a ↔ Has L (l.drop (split l.length)) a := fun a => hasF_eq _ _ L _ a (by rw [List.length_drop]; omega) (by omega)
  conv => lhs; unfold Has hasF
  rw [if_neg (by omega), if_neg (by omega)]
  simp only [e1, e2]

theorem look_grown {L : List Tx} (K : List Tx) {s : Tx} {d : Nat} (h : look L s = some d) : look (L ++ K) s = some d := by
  rw [look_some] at h ⊢
  obtain ⟨rfl, h2⟩ := h
  exact ⟨num_left L K s h2, h2⟩
/-- What is known stays so. -/
theorem Has.grown {L : List Tx} (K : List Tx) : ∀ {l : List Tx} {d : Nat}, Has L l d → Has (L ++ K) l d
  | l, d, h => by
    by_cases h0 : l.length = 0
    · have : l = [] := List.eq_nil_of_length_eq_zero h0
      subst this
      rw [has_nil] at h ⊢
      exact look_grown K h
    · by_cases h1 : l.length = 1
      · rw [has_one h1] at h ⊢
        exact look_grown K h
      · obtain ⟨s1, s2, s3⟩ := split_spec (n := l.length) (by omega)
        rw [has_more (by omega)] at h ⊢
        obtain ⟨a, b, ha, hb, hd⟩ := h
        exact ⟨a, b, ha.grown K, hb.grown K, look_grown K hd⟩
  termination_by l => l.length
  decreasing_by all_goals simp only [List.length_take, List.length_drop]; omega

/-- One text more: it is known, at its number. -/
theorem sum_known {L : List Tx} {s : Tx} (h : L.length < 1048576) : look (add L s) s = some (sum L s) ∧ ∃ K, add L s = L ++ K ∧ K.length ≤ 1 := by
  by_cases hk : num L s = 0
  · obtain ⟨h1, h2⟩ := add_new hk (by omega)
    rw [h1, h2, look_some]
    refine ⟨⟨?_, by omega⟩, [s], rfl, by simp⟩
    rw [num_snoc, if_neg (by omega), if_pos rfl]
  · obtain ⟨h1, h2⟩ := add_known hk
    rw [h1, h2, look_some]
    exact ⟨⟨rfl, hk⟩, [], by simp, by simp⟩
theorem sum_look {L : List Tx} {s : Tx} {d : Nat} (h : look L s = some d) : sum L s = d ∧ add L s = L := by
  rw [look_some] at h
  obtain ⟨rfl, h2⟩ := h
  exact ⟨(add_known h2).2, (add_known h2).1⟩
/-- Behind Root all is known. -/
theorem root_has : ∀ (l L : List Tx), L.length + (2 * l.length + 1) ≤ 1048576 → Has (root L l).2 l (root L l).1 ∧ ∃ K, (root L l).2 = L ++ K ∧ K.length + 1 ≤ 2 * l.length + (if l.length = 0 then 2 else 0)
  | l, L, hL => by
    by_cases h0 : l.length = 0
    · have : l = [] := List.eq_nil_of_length_eq_zero h0
      subst this
      rw [root_nil, has_nil]
      obtain ⟨h1, K, h2, h3⟩ := sum_known (L := L) (s := noneB) (by omega)
      exact ⟨h1, K, h2, by simp; omega⟩
    · by_cases h1 : l.length = 1
      · rw [root_one L h1, has_one h1]
        obtain ⟨h1', K, h2, h3⟩ := sum_known (L := L) (s := leafB (l.headD [])) (by omega)
        exact ⟨h1', K, h2, by rw [if_neg h0]; omega⟩
      · obtain ⟨s1, s2, s3⟩ := split_spec (n := l.length) (by omega)
        have lt : (l.take (split l.length)).length = split l.length := by rw [List.length_take]; omega
        have ld : (l.drop (split l.length)).length = l.length - split l.length := List.length_drop
        obtain ⟨a1, K1, a2, a3⟩ := root_has (l.take (split l.length)) L (by omega)
        rw [lt, if_neg (by omega)] at a3
        have a4 : (root L (l.take (split l.length))).2.length = L.length + K1.length := by rw [a2, List.length_append]
        obtain ⟨b1, K2, b2, b3⟩ := root_has (l.drop (split l.length)) (root L (l.take (split l.length))).2 (by omega)
        rw [ld, if_neg (by omega)] at b3
        have b4 : (root (root L (l.take (split l.length))).2 (l.drop (split l.length))).2.length = L.length + K1.length + K2.length := by rw [b2, List.length_append, a4]
        rw [root_more L (by omega), has_more (by omega)]
        obtain ⟨c1, K3, c2, c3⟩ := sum_known (L := (root (root L (l.take (split l.length))).2 (l.drop (split l.length))).2)
          (s := nodeB (root L (l.take (split l.length))).1 (root (root L (l.take (split l.length))).2 (l.drop (split l.length))).1) (by omega)
        refine ⟨⟨_, _, ?_, ?_, c1⟩, K1 ++ (K2 ++ K3), ?_, ?_⟩
        · simp only
          rw [c2, b2, List.append_assoc]
          exact a1.grown _
        · simp only
          rw [c2]
          exact b1.grown _
        · simp only
          rw [c2, b2, a2, List.append_assoc, List.append_assoc]
        · rw [if_neg h0, List.length_append, List.length_append]
          omega
  termination_by l => l.length
  decreasing_by all_goals simp only [List.length_take, List.length_drop]; omega
/-- What is known is asked for with nothing learnt. -/
theorem has_root : ∀ {l L : List Tx} {d : Nat}, Has L l d → root L l = (d, L)
  | l, L, d, h => by
    by_cases h0 : l.length = 0
    · have : l = [] := List.eq_nil_of_length_eq_zero h0
      subst this
      rw [has_nil] at h
      rw [root_nil, (sum_look h).1, (sum_look h).2]
    · by_cases h1 : l.length = 1
      · rw [has_one h1] at h
        rw [root_one L h1, (sum_look h).1, (sum_look h).2]
      · obtain ⟨s1, s2, s3⟩ := split_spec (n := l.length) (by omega)
        rw [has_more (by omega)] at h
        obtain ⟨a, b, ha, hb, hd⟩ := h
        rw [root_more L (by omega), has_root ha]
        simp only
        rw [has_root hb]
        simp only
        rw [(sum_look hd).1, (sum_look hd).2]
  termination_by l => l.length
  decreasing_by all_goals simp only [List.length_take, List.length_drop]; omega

theorem look_inj {L : List Tx} {s t : Tx} {d : Nat} (h : look L s = some d) (k : look L t = some d) : s = t := by
  rw [look_some] at h k
  have h1 := num_get L s (by omega)
  have h2 := num_get L t (by omega)
  rw [h.1] at h1
  rw [k.1] at h2
  rw [h1] at h2
  injection h2
theorem enc_inj {a b : Nat} {r t : List UInt8} (ha : a < 18446744073709551616) (hb : b < 18446744073709551616) (h : Cm.enc a ++ r = Cm.enc b ++ t) : a = b ∧ r = t := by
  have h1 := Cm.pn_of_enc ha r
  rw [h, Cm.pn_of_enc hb t] at h1
  simp only [Prod.mk.injEq, and_true] at h1
  obtain ⟨h1, _⟩ := h1
  subst h1
  exact ⟨rfl, List.append_cancel_left h⟩
theorem node_inj {a b c d : Int} (ha : a.toNat < 18446744073709551616) (hb : b.toNat < 18446744073709551616) (hc : c.toNat < 18446744073709551616) (hd : d.toNat < 18446744073709551616) (h : nodeB a b = nodeB c d) : a.toNat = c.toNat ∧ b.toNat = d.toNat := by
  unfold nodeB at h
  injection h with _ h
  obtain ⟨h1, h2⟩ := enc_inj ha hc h
  refine ⟨h1, (enc_inj (r := []) (t := []) hb hd ?_).1⟩
  rw [List.append_nil, List.append_nil]
  exact h2
theorem leaf_node (x : Tx) (a b : Int) : leafB x ≠ nodeB a b := by
  intro h
  injection h with h _
  exact absurd h (by decide)
theorem none_node (a b : Int) : noneB ≠ nodeB a b := by
  intro h
  injection h with h _
  exact absurd h (by decide)
theorem none_leaf (x : Tx) : noneB ≠ leafB x := by
  intro h
  injection h with h _
  exact absurd h (by decide)
theorem has_le {L l : List Tx} {d : Nat} (h : Has L l d) : d ≤ L.length := by
  have key : ∀ s, look L s = some d → d ≤ L.length := fun s hs => by
    rw [look_some] at hs
    have := num_le L s
    omega
  by_cases h0 : l.length = 0
  · have : l = [] := List.eq_nil_of_length_eq_zero h0
    subst this
    rw [has_nil] at h
    exact key _ h
  · by_cases h1 : l.length = 1
    · rw [has_one h1] at h
      exact key _ h
    · rw [has_more (by omega)] at h
      obtain ⟨a, b, _, _, h⟩ := h
      exact key _ h
theorem one_of {l : List Tx} (h : l.length = 1) : l = [l.headD []] := by
  match l, h with
  | [x], _ => rfl

/-- Unlike lists, unlike digests. -/
theorem apart : ∀ {l m L : List Tx} {d : Nat}, L.length ≤ 1048576 → Has L l d → Has L m d → l = m
  | l, m, L, d, hL, h, k => by
    by_cases h0 : l.length = 0
    · have e : l = [] := List.eq_nil_of_length_eq_zero h0
      subst e
      rw [has_nil] at h
      by_cases k0 : m.length = 0
      · exact (List.eq_nil_of_length_eq_zero k0).symm
      · by_cases k1 : m.length = 1
        · rw [has_one k1] at k
          exact absurd (look_inj h k) (none_leaf _)
        · rw [has_more (by omega)] at k
          obtain ⟨a, b, _, _, k⟩ := k
          exact absurd (look_inj h k) (none_node _ _)
    · by_cases h1 : l.length = 1
      · rw [has_one h1] at h
        by_cases k0 : m.length = 0
        · have e : m = [] := List.eq_nil_of_length_eq_zero k0
          subst e
          rw [has_nil] at k
          exact absurd (look_inj k h) (none_leaf _)
        · by_cases k1 : m.length = 1
          · rw [has_one k1] at k
            have e := look_inj h k
            injection e with _ e
            rw [one_of h1, one_of k1, e]
          · rw [has_more (by omega)] at k
            obtain ⟨a, b, _, _, k⟩ := k
            exact absurd (look_inj h k) (leaf_node _ _ _)
      · obtain ⟨s1, s2, s3⟩ := split_spec (n := l.length) (by omega)
        rw [has_more (by omega)] at h
        obtain ⟨a, b, ha, hb, h⟩ := h
        by_cases k0 : m.length = 0
        · have e : m = [] := List.eq_nil_of_length_eq_zero k0
          subst e
          rw [has_nil] at k
          exact absurd (look_inj k h) (none_node _ _)
        · by_cases k1 : m.length = 1
          · rw [has_one k1] at k
            exact absurd (look_inj k h) (leaf_node _ _ _)
          · rw [has_more (by omega)] at k
            obtain ⟨a', b', ka, kb, k⟩ := k
            have la := has_le ha
            have lb := has_le hb
            have la' := has_le ka
            have lb' := has_le kb
            obtain ⟨e1, e2⟩ := node_inj (by omega) (by omega) (by omega) (by omega) (look_inj h k)
            have e1 : a = a' := by omega
            have e2 : b = b' := by omega
            subst e1; subst e2
            have f1 := apart hL ha ka
            have f2 := apart hL hb kb
            rw [← List.take_append_drop (split l.length) l, f1, f2, List.take_append_drop]
  termination_by l => l.length
  decreasing_by all_goals simp only [List.length_take, List.length_drop]; omega
theorem has_same {l L : List Tx} {d e : Nat} (h : Has L l d) (k : Has L l e) : d = e := by
  have h1 := has_root h
  rw [has_root k] at h1
  injection h1 with h1
  exact h1.symm

theorem getD_small {p : List Int} (hp : ∀ x ∈ p, x < 9223372036854775808) (j : Nat) : (p.getD j 0).toNat < 18446744073709551616 := by
  by_cases h : j < p.length
  · have := hp _ (List.getElem_mem h)
    rw [List.getD_eq_getElem?_getD, List.getElem?_eq_getElem h]
    simp only [Option.getD_some]
    omega
  · rw [List.getD_eq_getElem?_getD, List.getElem?_eq_none (by omega)]
    simp
theorem look_le {L : List Tx} {s : Tx} {d : Nat} (h : look L s = some d) : d ≤ L.length := by
  rw [look_some] at h
  have := num_le L s
  omega
theorem comes_le {L : List Tx} {b : Tx} {i n : Nat} {p : List Int} {d : Nat} (h : comes L b i n p = some d) : d ≤ L.length := by
  by_cases h1 : n ≤ 1
  · rw [comes_one L b p h1] at h
    exact look_le h
  · by_cases hs : i < split n
    · rw [comes_left L b p (by omega) hs, Option.bind_eq_some_iff] at h
      obtain ⟨d', _, k⟩ := h
      exact look_le k
    · rw [comes_right L b p (by omega) hs, Option.bind_eq_some_iff] at h
      obtain ⟨d', _, k⟩ := h
      exact look_le k
/-- Sound: under the digest of leaves the one that is taken at a place is the one that stands there, whatever the proof. -/
theorem sound : ∀ {l L : List Tx} {d : Nat} {b : Tx} {i : Nat} {p : List Int}, L.length ≤ 1048576 → (∀ x ∈ p, x < 9223372036854775808) → i < l.length → Has L l d → comes L b i l.length p = some d → b = l.getD i []
  | l, L, d, b, i, p, hL, hp, hi, h, k => by
    by_cases h1 : l.length ≤ 1
    · have h1 : l.length = 1 := by omega
      rw [has_one h1] at h
      rw [comes_one L b p (by omega)] at k
      have e := look_inj k h
      injection e with _ e
      rw [e]
      have : i = 0 := by omega
      subst this
      match l, h1 with
      | [x], _ => rfl
    · obtain ⟨s1, s2, s3⟩ := split_spec (n := l.length) (by omega)
      have lt : (l.take (split l.length)).length = split l.length := by rw [List.length_take]; omega
      have ld : (l.drop (split l.length)).length = l.length - split l.length := List.length_drop
      have hp' : ∀ x ∈ p.take (p.length - 1), x < 9223372036854775808 := fun x hx => hp x (List.mem_of_mem_take hx)
      have hg := getD_small hp (p.length - 1)
      rw [has_more (by omega)] at h
      obtain ⟨a, b', ha, hb, h⟩ := h
      have la := has_le ha
      have lb := has_le hb
      by_cases hs : i < split l.length
      · rw [comes_left L b p (by omega) hs, Option.bind_eq_some_iff] at k
        obtain ⟨d', k1, k2⟩ := k
        have ld' : d' ≤ L.length := comes_le k1
        obtain ⟨e1, e2⟩ := node_inj (by omega) hg (by omega) (by omega) (look_inj k2 h)
        have e1 : d' = a := by omega
        subst e1
        have hh := sound (l := l.take (split l.length)) (i := i) (d := d') hL hp' (by rw [lt]; omega) ha (by rw [lt]; exact k1)
        rw [hh, List.getD_eq_getElem?_getD, List.getD_eq_getElem?_getD, List.getElem?_take, if_pos hs]
      · rw [comes_right L b p (by omega) hs, Option.bind_eq_some_iff] at k
        obtain ⟨d', k1, k2⟩ := k
        have ld' : d' ≤ L.length := comes_le k1
        obtain ⟨e1, e2⟩ := node_inj hg (by omega) (by omega) (by omega) (look_inj k2 h)
        have e2 : d' = b' := by omega
        subst e2
        have hh := sound (l := l.drop (split l.length)) (i := i - split l.length) (d := d') hL hp' (by rw [ld]; omega) hb (by rw [ld]; exact k1)
        rw [hh, List.getD_eq_getElem?_getD, List.getD_eq_getElem?_getD, List.getElem?_drop, show split l.length + (i - split l.length) = i from by omega]
  termination_by l => l.length
  decreasing_by all_goals simp only [List.length_take, List.length_drop]; omega

/-- Complete: what Prove answers leads to the digest; the table learns nothing. -/
theorem complete : ∀ {l L : List Tx} {d : Nat} {i : Nat}, i < l.length → Has L l d →
    (prove L i l).2 = L ∧ (prove L i l).1.length = len i l.length ∧ comes L (l.getD i []) i l.length ((prove L i l).1.map fun x : Nat => (x : Int)) = some d
  | l, L, d, i, hi, h => by
    by_cases h1 : l.length ≤ 1
    · have h1' : l.length = 1 := by omega
      rw [has_one h1'] at h
      rw [prove_one L i h1, len_one h1, comes_one _ _ _ h1]
      refine ⟨rfl, rfl, ?_⟩
      have : i = 0 := by omega
      subst this
      match l, h1' with
      | [x], _ => exact h
    · obtain ⟨s1, s2, s3⟩ := split_spec (n := l.length) (by omega)
      have lt : (l.take (split l.length)).length = split l.length := by rw [List.length_take]; omega
      have ld : (l.drop (split l.length)).length = l.length - split l.length := List.length_drop
      rw [has_more (by omega)] at h
      obtain ⟨a, b, ha, hb, h⟩ := h
      by_cases hs : i < split l.length
      · obtain ⟨e1, e2, e3⟩ := complete (l := l.take (split l.length)) (i := i) (by omega) ha
        rw [prove_left L (by omega) hs, e1, has_root hb, len_left (by omega) hs, comes_left _ _ _ (by omega) hs]
        rw [lt] at e2 e3
        refine ⟨rfl, by simp [e2], ?_⟩
        have eg : l.getD i [] = (l.take (split l.length)).getD i [] := by
          rw [List.getD_eq_getElem?_getD, List.getD_eq_getElem?_getD, List.getElem?_take, if_pos hs]
        simp only [List.map_append, List.map_cons, List.map_nil, List.length_append, List.length_map, List.length_cons, List.length_nil, Nat.zero_add, Nat.add_sub_cancel]
        rw [List.take_left' (by simp), eg, e3]
        simp only [Option.bind_some]
        rw [List.getD_eq_getElem?_getD, List.getElem?_append_right (by simp)]
        simpa using h
      · obtain ⟨e1, e2, e3⟩ := complete (l := l.drop (split l.length)) (i := i - split l.length) (by omega) hb
        rw [prove_right L (by omega) hs, e1, has_root ha, len_right (by omega) hs, comes_right _ _ _ (by omega) hs]
        rw [ld] at e2 e3
        refine ⟨rfl, by simp [e2], ?_⟩
        have eg : l.getD i [] = (l.drop (split l.length)).getD (i - split l.length) [] := by
          rw [List.getD_eq_getElem?_getD, List.getD_eq_getElem?_getD, List.getElem?_drop, show split l.length + (i - split l.length) = i from by omega]
        simp only [List.map_append, List.map_cons, List.map_nil, List.length_append, List.length_map, List.length_cons, List.length_nil, Nat.zero_add, Nat.add_sub_cancel]
        rw [List.take_left' (by simp), eg, e3]
        simp only [Option.bind_some]
        rw [List.getD_eq_getElem?_getD, List.getElem?_append_right (by simp)]
        simpa using h
  termination_by l => l.length
  decreasing_by all_goals simp only [List.length_take, List.length_drop]; omega

end Go.Proofs.Ytepdajhgfdjklaa.Mm
