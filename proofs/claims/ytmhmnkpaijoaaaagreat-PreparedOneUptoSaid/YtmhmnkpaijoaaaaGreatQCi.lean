/-
  Contract of layer 1's reader: List.
-/
import Derived.Test.YtmhmnkpaijoaaaaGreatQ01
import Derived.Test.YtmhmnkpaijoaaaaGreatQ04
import Derived.Test.YtmhmnkpaijoaaaaGreatQ05
namespace Go.Proofs.YtmhmnkpaijoaaaaGreat.Ci
set_option linter.unusedSimpArgs false
set_option linter.unusedVariables false
open Go Go.RowKit Ck Ca Cb Cf

theorem info_sl : (Tryz.prog.info? 32).map (fun i => (i.zero, i.size, i.bytes)) = some (some (.slice none 0 0), 1, 24) := by kernel_rfl

/-- The parts of a list that a call makes: none in an old block, none in the list's own row. -/
def Els (w : World) (B : Nat) (v : Value) (vals : List Value) (acc : List (List UInt8)) : Prop :=
  vals.length = acc.length ∧ ∀ i (h : i < acc.length), ∃ u, vals[i]? = some u ∧ Sl w (fun k => k < B ∨ v.ownBlock = some k) 1 u acc[i].length (BVs acc[i])
theorem Els.nil (w : World) (B : Nat) (v : Value) : Els w B v [] [] := ⟨rfl, fun i h => absurd h (by simp)⟩
theorem Els.keep {w w' : World} {B : Nat} {v : Value} {vals : List Value} {acc : List (List UInt8)} (h : Els w B v vals acc) (hs : w.heap.size ≤ w'.heap.size) (hk : ∀ b, b < w.heap.size → ¬ (b < B ∨ v.ownBlock = some b) → w'.heap[b]? = w.heap[b]?) : Els w' B v vals acc :=
  ⟨h.1, fun i hi => by obtain ⟨u, hu, h3⟩ := h.2 i hi; exact ⟨u, hu, h3.keep hs hk⟩⟩
theorem Els.grown {w w' : World} {B : Nat} {v : Value} {vals : List Value} {acc : List (List UInt8)} {row : Option Nat} (h : Els w B v vals acc) (hg : w.grownBy w' row) (hr : ∀ k, row = some k → k < B ∨ v.ownBlock = some k) : Els w' B v vals acc :=
  h.keep hg.size fun b hb hX => hg.block b hb fun e => hX (hr b e.symm)
theorem Els.push {w : World} {B : Nat} {v u : Value} {vals : List Value} {acc : List (List UInt8)} {x : List UInt8} (h : Els w B v vals acc) (hu : Sl w (fun k => k < B ∨ v.ownBlock = some k) 1 u x.length (BVs x)) : Els w B v (vals ++ [u]) (acc ++ [x]) := by
  refine ⟨by simp [h.1], fun i hi => ?_⟩
  rw [List.length_append, List.length_singleton] at hi
  by_cases hl : i < acc.length
  · obtain ⟨u0, hu0, h3⟩ := h.2 i hl
    refine ⟨u0, by rw [List.getElem?_append_left (by rw [h.1]; exact hl)]; exact hu0, ?_⟩
    rw [List.getElem_append_left hl]
    exact h3
  · have he : i = acc.length := by omega
    subst he
    refine ⟨u, by rw [List.getElem?_append_right (by rw [h.1]; omega), h.1]; simp, ?_⟩
    rw [List.getElem_append_right (by omega)]
    simpa using hu
theorem one_newv (w : World) (X : Nat → Prop) (t : TypeId) (u : Value) (hX : ¬ X w.heap.size) : Sl (w.alloc (.cells #[u] t)) X 1 (.slice (some ⟨w.heap.size, 0, none⟩) 1 1) 1 [u] :=
  ⟨_, _, rfl, rfl, Nat.le_refl _, by simp only [maxLen]; omega, fun _ => ⟨_, rfl, by simp, hX, fun j u' hu => cell_one_new w _ t j u' hu⟩⟩

end Go.Proofs.YtmhmnkpaijoaaaaGreat.Ci
