/-
  Generic: rows of elements of several cells, laid out flat.
-/
import Derived.Test.YtebjjkhiniccgaaGreatKw
namespace Go.Proofs.YtebjjkhiniccgaaGreat.Kf
set_option linter.unusedSimpArgs false
open Go Go.RowKit Ck Kw
set_option linter.unusedVariables false

section
variable {α : Type} {m : Nat} {F : α → List Value} (hF : ∀ x, (F x).length = m)
include hF
theorem flat_len (l : List α) : (l.flatMap F).length = l.length * m := by
  induction l with
  | nil => simp
  | cons x l ih => rw [List.flatMap_cons, List.length_append, ih, List.length_cons, hF, Nat.succ_mul]; omega
theorem flat_get (l : List α) (i : Nat) (hi : i < l.length) (j : Nat) (hj : j < m) : (l.flatMap F)[i * m + j]? = (F l[i])[j]? := by
  induction l generalizing i with
  | nil => exact absurd hi (by simp)
  | cons x l ih =>
    have hx := hF x
    rw [List.flatMap_cons]
    cases i with
    | zero => rw [List.getElem?_append_left (by omega)]; simp
    | succ i =>
      rw [List.getElem?_append_right (by rw [hx, Nat.succ_mul]; omega), hx, show (i + 1) * m + j - m = i * m + j from by rw [Nat.succ_mul]; omega]
      exact ih i (by simpa using hi)
theorem flat_take (l : List α) (i : Nat) : (l.take i).flatMap F = (l.flatMap F).take (i * m) := by
  induction l generalizing i with
  | nil => simp
  | cons x l ih =>
    have hx := hF x
    cases i with
    | zero => simp
    | succ i => rw [List.take_succ_cons, List.flatMap_cons, List.flatMap_cons, ih, List.take_append, hx, List.take_of_length_le (l := F x) (by rw [Nat.succ_mul]; omega), show (i + 1) * m - m = i * m from by rw [Nat.succ_mul]; omega]
theorem flat_drop (l : List α) (i : Nat) : (l.drop i).flatMap F = (l.flatMap F).drop (i * m) := by
  induction l generalizing i with
  | nil => simp
  | cons x l ih =>
    have hx := hF x
    cases i with
    | zero => simp
    | succ i => rw [List.drop_succ_cons, List.flatMap_cons, ih, List.drop_append, hx, List.drop_of_length_le (l := F x) (by rw [Nat.succ_mul]; omega), show (i + 1) * m - m = i * m from by rw [Nat.succ_mul]; omega, List.nil_append]
/-- One cell of one element is turned. -/
theorem flat_set (l : List α) (i : Nat) (hi : i < l.length) (x : α) (j : Nat) (hj : j < m) (u : Value) (hx : F x = (F l[i]).set j u) : (l.flatMap F).set (i * m + j) u = (l.set i x).flatMap F := by
  induction l generalizing i with
  | nil => exact absurd hi (by simp)
  | cons y l ih =>
    have hy := hF y
    cases i with
    | zero =>
      simp only [List.flatMap_cons, List.set_cons_zero, Nat.zero_mul, Nat.zero_add]
      rw [List.set_append_left _ _ (by omega), hx]
      rfl
    | succ i =>
      simp only [List.flatMap_cons, List.set_cons_succ]
      rw [List.set_append_right _ _ (by rw [Nat.succ_mul]; omega), hy, show (i + 1) * m + j - m = i * m + j from by rw [Nat.succ_mul]; omega]
      rw [ih i (by simpa using hi) hx]
end

theorem add_zero' {ad : Addr} (h : ad = ⟨ad.block, 0, none⟩) (i : Nat) : ad.add i = ⟨ad.block, i, none⟩ := by
  obtain ⟨g, o, s⟩ := ad
  injection h with _ h1 h2
  subst h1; subst h2
  unfold Addr.add
  split <;> simp_all
end Go.Proofs.YtebjjkhiniccgaaGreat.Kf
