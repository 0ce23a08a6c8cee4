/-
  Contract of layer 1's reader: List.
-/
import Derived.Test.YtfdhaodgnenhcaaR01
namespace Go.Proofs.Ytfdhaodgnenhcaa.Ci
set_option linter.unusedSimpArgs false
set_option linter.unusedVariables false
open Go Go.RowKit Ck Ca Cb

/-- The parts of a list that a call makes: none in an old block, none in the list's own row. -/
def Els (w : World) (B : Nat) (v : Value) (vals : List Value) (acc : List (List UInt8)) : Prop :=
  vals.length = acc.length ∧ ∀ i (h : i < acc.length), ∃ u, vals[i]? = some u ∧ Sl w (fun k => k < B ∨ v.ownBlock = some k) 1 u acc[i].length (BVs acc[i])
theorem Els.nil (w : World) (B : Nat) (v : Value) : Els w B v [] [] := ⟨rfl, fun i h => absurd h (by simp)⟩
theorem Els.keep {w w' : World} {B : Nat} {v : Value} {vals : List Value} {acc : List (List UInt8)} (h : Els w B v vals acc) (hs : w.heap.size ≤ w'.heap.size) (hk : ∀ b, b < w.heap.size → ¬ (b < B ∨ v.ownBlock = some b) → w'.heap[b]? = w.heap[b]?) : Els w' B v vals acc :=
  ⟨h.1, fun i hi => by obtain ⟨u, hu, h3⟩ := h.2 i hi; exact ⟨u, hu, h3.keep hs hk⟩⟩
theorem Els.grown {w w' : World} {B : Nat} {v : Value} {vals : List Value} {acc : List (List UInt8)} {row : Option Nat} (h : Els w B v vals acc) (hg : w.grownBy w' row) (hr : ∀ k, row = some k → k < B ∨ v.ownBlock = some k) : Els w' B v vals acc :=
  h.keep hg.size fun b hb hX => hg.block b hb fun e => hX (hr b e.symm)
end Go.Proofs.Ytfdhaodgnenhcaa.Ci
