/-
  Contract of layer 1's reader: List.
-/
import Derived.Test.YtdkjimfehipeaaaGreatDoorCh
namespace Go.Proofs.YtdkjimfehipeaaaGreatDoor.Ci
open Go Go.RowKit Ck Ca Cb Ce Cf Cg Ch

theorem info_sl : (Tryz.prog.info? 22).map (fun i => (i.zero, i.size, i.bytes)) = some (some (.slice none 0 0), 1, 24) := by kernel_rfl

/-- The parts of a list that a call makes: none in an old block, none in the list's own row. -/
def Els (w : World) (B : Nat) (v : Value) (vals : List Value) (acc : List (List UInt8)) : Prop :=
  vals.length = acc.length ∧ ∀ i (h : i < acc.length), ∃ u, vals[i]? = some u ∧ Sl w (fun k => k < B ∨ v.ownBlock = some k) 1 u acc[i].length (BVs acc[i])
theorem Els.nil (w : World) (B : Nat) (v : Value) : Els w B v [] [] := ⟨rfl, fun i h => absurd h (by simp)⟩
theorem Els.keep {w w' : World} {B : Nat} {v : Value} {vals : List Value} {acc : List (List UInt8)} (h : Els w B v vals acc) (hs : w.heap.size ≤ w'.heap.size) (hk : ∀ b, b < w.heap.size → ¬ (b < B ∨ v.ownBlock = some b) → w'.heap[b]? = w.heap[b]?) : Els w' B v vals acc :=
  ⟨h.1, fun i hi => by obtain ⟨u, hu, h3⟩ := h.2 i hi; exact ⟨u, hu, h3.keep hs hk⟩⟩
theorem Els.grown {w w' : World} {B : Nat} {v : Value} {vals : List Value} {acc : List (List UInt8)} {row : Option Nat} (h : Els w B v vals acc) (hg : w.grownBy w' row) (hr : ∀ k, row = some k → k < B ∨ v.ownBlock = some k) : Els w' B v vals acc :=
  h.keep hg.size fun b hb hX => hg.block b hb fun e => hX (hr b e.symm)
/-- The list has moved, or not. -/
theorem Els.moved {w : World} {B : Nat} {v v' : Value} {vals : List Value} {acc : List (List UInt8)} (h : Els w B v vals acc) (hr : v'.ownBlock = v.ownBlock ∨ ∀ k, v'.ownBlock = some k → w.heap.size ≤ k) : Els w B v' vals acc :=
  ⟨h.1, fun i hi => by
    obtain ⟨u, hu, h3⟩ := h.2 i hi
    refine ⟨u, hu, h3.weaken fun b hb hy => ?_⟩
    rcases hy with hy | hy
    · exact .inl hy
    · rcases hr with hr | hr
      · rw [hr] at hy; exact .inr hy
      · have := hr b hy; omega⟩
theorem Els.push {w : World} {B : Nat} {v u : Value} {vals : List Value} {acc : List (List UInt8)} {x : List UInt8} (h : Els w B v vals acc) (hu : Sl w (fun k => k < B ∨ v.ownBlock = some k) 1 u x.length (BVs x)) : Els w B v (vals ++ [u]) (acc ++ [x]) := by
  refine ⟨by simp [h.1], fun i hi => ?_⟩
  rw [List.length_append, List.length_singleton] at hi
  by_cases hl : i < acc.length
  · obtain ⟨u0, hu0, h3⟩ := h.2 i hl
    refine ⟨u0, by rw [List.getElem?_append_left (by rw [h.1]; exact hl)]; exact hu0, ?_⟩
    rw [List.getElem_append_left hl]
    exact h3
  · have he : i = acc.length := by omega
    subst he
    refine ⟨u, by rw [List.getElem?_append_right (by rw [h.1]; omega), h.1]; simp, ?_⟩
    rw [List.getElem_append_right (by omega)]
    simpa using hu
theorem one_newv (w : World) (X : Nat → Prop) (t : TypeId) (u : Value) (hX : ¬ X w.heap.size) : Sl (w.alloc (.cells #[u] t)) X 1 (.slice (some ⟨w.heap.size, 0, none⟩) 1 1) 1 [u] :=
  ⟨_, _, rfl, rfl, Nat.le_refl _, by simp only [maxLen]; omega, fun _ => ⟨_, rfl, by simp, hX, fun j u' hu => cell_one_new w _ t j u' hu⟩⟩

/-- What a list's reading leaves. -/
def Listed (w : World) (X : Nat → Prop) (g : Nat) (r : List (List UInt8) × Cm.RS) (e : Ending) (w' : World) : Prop :=
  ∃ v, e = .returned v ∧ Ls w' (fun k => k < w.heap.size) v r.1 ∧ w.grownBy w' (some g) ∧ CR w' X g r.2

/-- One round: a part was read and put behind the others. -/
theorem list_round {W wr w1 w2 : World} {X : Nat → Prop} {g : Nat} {v u v2 : Value} {vals : List Value} {acc : List (List UInt8)} {x : List UInt8} {s1 : Cm.RS} {t e : TypeId}
    (hg : W.grownBy wr (some g)) (hgl : g < W.heap.size) (hown : wr.ownsRow W.heap.size e 1 v acc.length vals) (hels : Els wr W.heap.size v vals acc)
    (hu : w1.ownsRow wr.heap.size t 1 u x.length (BVs x)) (hg1 : wr.grownBy w1 (some g)) (hc1 : CR w1 (fun k => X k ∨ W.heap.size ≤ k) g s1)
    (happ : Appended (w1.alloc (.cells #[u] e)) W.heap.size e 1 v (acc.length + 1) (vals ++ [u]) v2 w2) :
    w2.ownsRow W.heap.size e 1 v2 (acc ++ [x]).length (vals ++ [u]) ∧ Els w2 W.heap.size v2 (vals ++ [u]) (acc ++ [x]) ∧ W.grownBy w2 (some g) ∧ CR w2 (fun k => X k ∨ W.heap.size ≤ k) g s1 := by
  have hlt := hown.lt
  have h1 : Els w1 W.heap.size v (vals ++ [u]) (acc ++ [x]) := by
    refine (hels.grown hg1 (fun k hk => .inl (by injection hk with hk; omega))).push (Sl.of_own hu fun k hk _ hy => ?_)
    rcases hy with hy | hy
    · have := hg.size; omega
    · have := (hlt k hy).2; omega
  have h2 := h1.keep (w' := w1.alloc (.cells #[u] e)) (by simp) (fun b hb _ => Below.heap_alloc _ _ _ hb)
  have h3 := h2.grown happ.2.1 (fun k hk => .inr hk)
  have hsz := happ.2.1.size
  refine ⟨by rw [List.length_append]; exact happ.1, ?_, ?_, ?_⟩
  · refine ⟨h3.1, fun i hi => ?_⟩
    obtain ⟨u0, hu0, h5⟩ := h2.2 i hi
    refine ⟨u0, hu0, ?_⟩
    have h6 : Sl w2 (fun k => (k < W.heap.size ∨ v.ownBlock = some k) ∨ (w1.alloc (.cells #[u] e)).heap.size ≤ k) 1 u0 (acc ++ [x])[i].length (BVs (acc ++ [x])[i]) :=
      (h5.old (Nat.le_refl _)).grown happ.2.1 (fun k hk _ => .inl (.inr hk))
    refine h6.weaken fun b _ hy => ?_
    rcases hy with hy | hy
    · exact .inl (.inl hy)
    · rcases happ.2.2 with hr | hr
      · rw [hr] at hy; exact .inl (.inr hy)
      · rw [hr] at hy; injection hy with hy; exact .inr (by omega)
  · have k1 := hg.trans hg1
    have k2 := grown_below k1 ((Below.refl w1.heap.size w1).alloc (Nat.le_refl _) (.cells #[u] e))
    exact grown_step k2 happ.2.1 (.inr fun k hk => (hlt k hk).1)
  · refine (hc1.after ((Below.refl w1.heap.size w1).alloc (Nat.le_refl _) (.cells #[u] e))).grown happ.2.1 ?_ (fun k hk _ => .inr (hlt k hk).1)
    intro he
    have := (hlt g he.symm).1
    omega

end Go.Proofs.YtdkjimfehipeaaaGreatDoor.Ci
