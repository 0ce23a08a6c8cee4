/-
  Layer 6 (op), plain mathematics of what an operation that may be holds (as in Pk, for the layers that stand on op).
-/
import Derived.Test.YtcmknopgoiabbaaPm
namespace Go.Proofs.Ytcmknopgoiabbaa.Pz
set_option linter.unusedSimpArgs false
open Pm
set_option linter.unusedVariables false

theorem dec_width4 (l : Tx) : (dec l).2 ≤ 4 := by
  unfold dec Go.Lib.decodeN
  repeat' split
  all_goals simp
theorem rn_len : ∀ (j : Nat) (l : Tx), rn j l ≠ 0 → l.length ≤ 4 * j
  | 0, l, h => by
    unfold rn at h
    split at h
    · rename_i hl; subst hl; simp
    · exact absurd rfl h
  | j + 1, l, h => by
    unfold rn at h
    split at h
    · rename_i hl; subst hl; simp
    · split at h
      · exact absurd rfl h
      · have h1 := rn_len j _ h
        have h2 := dec_width4 l
        rw [List.length_drop] at h1
        omega
theorem name_len {l : Tx} (h : name l = true) : l.length ≤ 64 ∧ l ≠ [] := by
  have h1 : 0 < runes l := of_decide_eq_true h
  refine ⟨rn_len 16 l (by unfold runes at h1; omega), fun e => ?_⟩
  subst e
  exact absurd h1 (by decide)
theorem recs_len {l : List Tx} (h : areRecs l = true) : 1 ≤ l.length ∧ l.length ≤ 4 ∧ ∀ x ∈ l, x.length ≤ 64 := by
  simp only [areRecs, Bool.and_eq_true, decide_eq_true_eq, List.all_eq_true] at h
  exact ⟨h.1.1, h.1.2, h.2⟩
theorem encP_small : ∀ (l : List Tx), (∀ x ∈ l, x.length ≤ 64) → (Cm.encP l).length ≤ 74 * l.length
  | [], _ => by simp [Cm.encP]
  | x :: l, h => by
    have h1 := encP_small l (fun y hy => h y (List.mem_cons_of_mem _ hy))
    have h2 := h x List.mem_cons_self
    have h3 := Cm.enc_len x.length
    simp only [Cm.encP, List.length_append, Cm.encB_len, List.length_cons]
    omega
/-- What an operation that may be holds. -/
theorem check_lens {o : O} (h : check o = 0) : (hasT o.kind = true → o.topic.length ≤ 64) ∧ (hasG o.kind = true → o.group.length ≤ 64) ∧ (hasO o.kind = true → 0 ≤ o.off ∧ o.off ≤ 9007199254740992) ∧
    (hasR o.kind = true → 1 ≤ o.recs.length ∧ o.recs.length ≤ 4 ∧ (∀ x ∈ o.recs, x.length ≤ 64) ∧ (Cm.encP o.recs).length ≤ 296) := by
  obtain ⟨h1, h2, h3, h4, h5⟩ := check_ok h
  refine ⟨fun hT => ?_, fun hG => ?_, fun hO => ?_, fun hR => ?_⟩
  · refine (name_len (l := o.topic) ?_).1
    cases hn : name o.topic with
    | true => rfl
    | false => simp [badName, hT, hn] at h3
  · refine (name_len (l := o.group) ?_).1
    cases hn : name o.group with
    | true => rfl
    | false => simp [badName, hG, hn] at h3
  · simp only [badOff, hO, Bool.true_and, Bool.or_eq_false_iff, decide_eq_false_iff_not] at h5
    omega
  · have hr : areRecs o.recs = true := by
      cases hn : areRecs o.recs with
      | true => rfl
      | false => simp [badRecs, hR, hn] at h4
    obtain ⟨a, b, c⟩ := recs_len hr
    have := encP_small o.recs c
    exact ⟨a, b, c, by omega⟩

end Go.Proofs.Ytcmknopgoiabbaa.Pz
