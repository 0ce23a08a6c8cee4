/-
  Two things side by side in memory, each in blocks of its own, none of them among the blocks K of others: what a call on one of them leaves of all. For any layer.
-/
import Derived.Test.YtepdajhgfdjklaaIk
namespace Go.Proofs.Ytepdajhgfdjklaa.Pr
open Go Go.RowKit Ck Ik

/-- The blocks of S are there, and none is in K. -/
def Own (K : Nat → Prop) (w : World) (S : Nat → Prop) : Prop := ∀ k, S k → ¬ K k ∧ k < w.heap.size
/-- What changes of other blocks leave alone. -/
def Stable (P : World → (Nat → Prop) → Prop) : Prop := ∀ (w w' : World) (S T : Nat → Prop), P w S → Ch T w w' → (∀ k, S k → T k → False) → P w' S
/-- Two things side by side. -/
def Two (K : Nat → Prop) (w : World) (P Q : World → (Nat → Prop) → Prop) : Prop :=
  (∀ k, K k → k < w.heap.size) ∧ ∃ S T, P w S ∧ Q w T ∧ Own K w S ∧ Own K w T ∧ ∀ k, S k → T k → False
/-- Three. -/
def Three (K : Nat → Prop) (w : World) (O P Q : World → (Nat → Prop) → Prop) : Prop :=
  (∀ k, K k → k < w.heap.size) ∧ ∃ R S T, O w R ∧ P w S ∧ Q w T ∧ Own K w R ∧ Own K w S ∧ Own K w T ∧ (∀ k, R k → S k → False) ∧ (∀ k, R k → T k → False) ∧ ∀ k, S k → T k → False
/-- Blocks of others, and one more. -/
def And1 (K : Nat → Prop) (g : Nat) (k : Nat) : Prop := K k ∨ k = g

section
variable {K K' : Nat → Prop} {w w' : World} {S T : Nat → Prop} {O P P' Q Q' : World → (Nat → Prop) → Prop}
theorem Own.later (h : Own K w S) (hs : w.heap.size ≤ w'.heap.size) : Own K w' S := fun k hk => ⟨(h k hk).1, Nat.lt_of_lt_of_le (h k hk).2 hs⟩
theorem Own.up (h : Own K w S) (hs : w.heap.size ≤ w'.heap.size) (hK : ∀ k, K k → k < w.heap.size) : Own K w' (Up S w w') := fun k hk => by
  rcases hk with hk | hk
  · exact h.later hs k hk
  · exact ⟨fun h => by have := hK k h; omega, hk.2⟩
theorem up_apart (h : ∀ k, S k → T k → False) (hT : Own K w T) : ∀ k, Up S w w' k → T k → False := fun k hk ht => by
  rcases hk with hk | hk
  · exact h k hk ht
  · have := (hT k ht).2
    omega
theorem new_apart (hT : Own K w T) : ∀ k, New w w' k → T k → False := fun k hk ht => by
  have := (hT k ht).2
  have := hk.1
  omega
theorem Own.new (hK : ∀ k, K k → k < w.heap.size) : Own K w' (New w w') := fun k hk => ⟨fun h => by have := hK k h; have := hk.1; omega, hk.2⟩
theorem ch_own (c : Ch S w w') (h : Own K w S) : Ch (fun k => ¬ K k) w w' := c.mono fun k _ hk => (h k hk).1
theorem below_of {B : Nat} (c : Ch (fun k => ¬ K k) w w') (hK : ∀ k, k < B → K k) (hB : B ≤ w.heap.size) : Below B w w' := c.below (fun k hk hn => hn (hK k hk)) hB

theorem Two.there (h : Two K w P Q) : ∀ k, K k → k < w.heap.size := h.1
theorem Two.later (h : Two K w P Q) (hP : Stable P) (hQ : Stable Q) (b : Below w.heap.size w w') : Two K w' P Q := by
  obtain ⟨hK, S, T, h1, h2, h3, h4, h5⟩ := h
  have c : Ch (fun _ => False) w w' := Ch.of_below b (Nat.le_refl _)
  exact ⟨fun k hk => Nat.lt_of_lt_of_le (hK k hk) b.size, S, T, hP _ _ _ _ h1 c (fun _ _ h => h), hQ _ _ _ _ h2 c (fun _ _ h => h), h3.later b.size, h4.later b.size, h5⟩
/-- A block that others have made since is theirs. -/
theorem Two.more (h : Two K w P Q) (hP : Stable P) (hQ : Stable Q) (b : Below w.heap.size w w') {g : Nat} (hg : w.heap.size ≤ g) (hg' : g < w'.heap.size) : Two (And1 K g) w' P Q := by
  obtain ⟨hK, S, T, h1, h2, h3, h4, h5⟩ := h
  have c : Ch (fun _ => False) w w' := Ch.of_below b (Nat.le_refl _)
  refine ⟨fun k hk => ?_, S, T, hP _ _ _ _ h1 c (fun _ _ h => h), hQ _ _ _ _ h2 c (fun _ _ h => h), fun k hk => ?_, fun k hk => ?_, h5⟩
  · rcases hk with hk | rfl
    · exact Nat.lt_of_lt_of_le (hK k hk) b.size
    · exact hg'
  · have := h3 k hk
    exact ⟨by rintro (hn | rfl); exact this.1 hn; omega, by have := b.size; omega⟩
  · have := h4 k hk
    exact ⟨by rintro (hn | rfl); exact this.1 hn; omega, by have := b.size; omega⟩
theorem Two.less (h : Two K w P Q) (hK : ∀ k, K' k → K k) : Two K' w P Q := by
  obtain ⟨h0, S, T, h1, h2, h3, h4, h5⟩ := h
  exact ⟨fun k hk => h0 k (hK k hk), S, T, h1, h2, fun k hk => ⟨fun hn => (h3 k hk).1 (hK k hn), (h3 k hk).2⟩, fun k hk => ⟨fun hn => (h4 k hk).1 (hK k hn), (h4 k hk).2⟩, h5⟩
theorem Two.swap (h : Two K w P Q) : Two K w Q P := by
  obtain ⟨hK, S, T, h1, h2, h3, h4, h5⟩ := h
  exact ⟨hK, T, S, h2, h1, h4, h3, fun k a b => h5 k b a⟩
theorem Two.left (h : Two K w P Q) : ∃ S, P w S ∧ Own K w S := by
  obtain ⟨hK, S, T, h1, h2, h3, h4, h5⟩ := h
  exact ⟨S, h1, h3⟩
theorem Two.right (h : Two K w P Q) : ∃ S, Q w S ∧ Own K w S := h.swap.left

variable {pg : Program} {f : FuncId} {args : Array Value} {R : Ending → Prop}
/-- A call that changes the left one. -/
theorem Two.call (h : Two K w P Q) (hQ : Stable Q) (hc : ∀ S, P w S → Calls pg f args w fun e w' => R e ∧ P' w' (Up S w w') ∧ Ch S w w') :
    Calls pg f args w fun e w' => R e ∧ Two K w' P' Q ∧ Ch (fun k => ¬ K k) w w' := by
  obtain ⟨hK, S, T, h1, h2, h3, h4, h5⟩ := h
  refine (hc S h1).mono fun e w' ⟨he, hP, c⟩ => ⟨he, ⟨fun k hk => Nat.lt_of_lt_of_le (hK k hk) c.size, Up S w w', T, hP, hQ _ _ _ _ h2 c (fun k a b => h5 k b a), h3.up c.size hK, h4.later c.size, up_apart h5 h4⟩, ch_own c h3⟩
theorem Two.callr (h : Two K w P Q) (hP : Stable P) (hc : ∀ S, Q w S → Calls pg f args w fun e w' => R e ∧ Q' w' (Up S w w') ∧ Ch S w w') :
    Calls pg f args w fun e w' => R e ∧ Two K w' P Q' ∧ Ch (fun k => ¬ K k) w w' :=
  (h.swap.call hP hc).mono fun _ _ ⟨a, b, c⟩ => ⟨a, b.swap, c⟩
/-- A call that makes one more of the left kind. -/
theorem Two.clone {P' : Nat → World → (Nat → Prop) → Prop} {R : Nat → Ending → Prop} (h : Two K w P Q) (hP : Stable P) (hQ : Stable Q)
    (hc : ∀ S, P w S → Calls pg f args w fun e w' => ∃ p, R p e ∧ P' p w' (New w w') ∧ Below w.heap.size w w') :
    Calls pg f args w fun e w' => ∃ p, R p e ∧ Three K w' P (P' p) Q ∧ Below w.heap.size w w' := by
  obtain ⟨hK, S, T, h1, h2, h3, h4, h5⟩ := h
  refine (hc S h1).mono fun e w' ⟨p, he, hP', b⟩ => ⟨p, he, ?_, b⟩
  have c : Ch (fun _ => False) w w' := Ch.of_below b (Nat.le_refl _)
  exact ⟨fun k hk => Nat.lt_of_lt_of_le (hK k hk) b.size, S, New w w', T, hP _ _ _ _ h1 c (fun _ _ h => h), hP', hQ _ _ _ _ h2 c (fun _ _ h => h), h3.later b.size, Own.new hK, h4.later b.size, fun k a b => new_apart h3 k b a, h5, new_apart h4⟩
theorem Three.later (h : Three K w O P Q) (hO : Stable O) (hP : Stable P) (hQ : Stable Q) (b : Below w.heap.size w w') : Three K w' O P Q := by
  obtain ⟨hK, R, S, T, h0, h1, h2, h3, h4, h5, h6, h7, h8⟩ := h
  have c : Ch (fun _ => False) w w' := Ch.of_below b (Nat.le_refl _)
  exact ⟨fun k hk => Nat.lt_of_lt_of_le (hK k hk) b.size, R, S, T, hO _ _ _ _ h0 c (fun _ _ h => h), hP _ _ _ _ h1 c (fun _ _ h => h), hQ _ _ _ _ h2 c (fun _ _ h => h), h3.later b.size, h4.later b.size, h5.later b.size, h6, h7, h8⟩
/-- A call that changes the first: the others stay, and it is let go. -/
theorem Three.call (h : Three K w O P Q) (hP : Stable P) (hQ : Stable Q) (hc : ∀ S, O w S → Calls pg f args w fun e w' => R e ∧ Ch S w w') :
    Calls pg f args w fun e w' => R e ∧ Two K w' P Q ∧ Ch (fun k => ¬ K k) w w' := by
  obtain ⟨hK, X, S, T, h0, h1, h2, h3, h4, h5, h6, h7, h8⟩ := h
  refine (hc X h0).mono fun e w' ⟨he, c⟩ => ⟨he, ⟨fun k hk => Nat.lt_of_lt_of_le (hK k hk) c.size, S, T, hP _ _ _ _ h1 c (fun k a b => h6 k b a), hQ _ _ _ _ h2 c (fun k a b => h7 k b a), h4.later c.size, h5.later c.size, h8⟩, ch_own c h3⟩
end

end Go.Proofs.Ytepdajhgfdjklaa.Pr
