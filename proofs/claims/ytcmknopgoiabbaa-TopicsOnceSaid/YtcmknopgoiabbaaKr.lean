/-
  A range over a function whose parts lie in memory: what the iterator hands on is known in the world in which it is handed on. For any layer; nothing of a program is in it.
-/
import Derived.Test.YtcmknopgoiabbaaKw
import Derived.RangeFuncNested
import Derived.RangeFuncBound
import Derived.RangeFuncCalls
import Derived.RangeFuncLeaves
import Derived.RangeFuncWrites
namespace Go.Proofs.Ytcmknopgoiabbaa.Kr
set_option linter.unusedSimpArgs false
set_option linter.unusedVariables false
open Go Go.RowKit Ck Kw

/-- The loop's own two blocks, the first one at D. -/
def Bk (D k : Nat) : Prop := k = D ∨ k = D + 1

/-- What an iterator owes that hands on the parts bs, one behind the other: R says what its values are, all made since it was called; a round writes to blocks of S alone. -/
def SeqR {β : Type} (F : Fence) (n : Nat) (P : Program) (g : Nat) (lb : Array Value) (R : Nat → β → Array Value → World → Prop) (S : Nat → Prop) (bs : List β) (w : World) : Prop :=
  ∀ (l : Nat) (J Jx : Nat → World → Prop) (W : World), Below w.heap.size w W → w.heap.size + 2 ≤ W.heap.size → (∀ k A B, J k A → Below A.heap.size A B → J k B) → (∀ k A B, Jx k A → Below A.heap.size A B → Jx k B) →
    (∀ (k : Nat) (h : k < bs.length) (args : Array Value) (W1 : World), J k W1 → Ch S W W1 → R W.heap.size bs[k] args W1 → YieldAt F (n - 1) P l args W1 fun e W' =>
      (e = .returned (.bool true) ∧ J (k + 1) W' ∧ Ch S W1 W') ∨ (e = .returned (.bool false) ∧ Jx (k + 1) W' ∧ Ch S W1 W')) →
    J 0 W →
    CallsIn F n P g (#[.func (.yield l) #[] #[]] ++ lb) W fun e W' => (∃ v, e = .returned v) ∧ Ch S W W' ∧ (J bs.length W' ∨ ∃ k, k ≤ bs.length ∧ Jx k W')

/-- What a round's body owes. -/
def PostR (D : Nat) (S : Nat → Prop) (I : Nat → World → Prop) (Ix : Code → Nat → World → Prop) (k : Nat) (W : World) : Exit → Act → World → Prop
  | .normal, _, W' => Ch (fun j => S j ∧ ¬ Bk D j) W W' ∧ I k W'
  | .ret, _, W' => Ch (fun j => S j ∧ ¬ Bk D j) W W' ∧ Ix .ret k W'
  | .exit id, _, W' => Ch (fun j => S j ∧ ¬ Bk D j) W W' ∧ Ix (.exit id) k W'
  | .goto t, _, W' => Ch (fun j => S j ∧ ¬ Bk D j) W W' ∧ Ix (.goto t) k W'
  | .panic _, _, _ => False
  | .outgrown, _, _ => False

theorem putObj_size (W : World) (l : Nat) (o : Obj) : (W.putObj l o).heap.size = W.heap.size := by simp [World.putObj]
theorem ch_putObj (W : World) (l : Nat) (o : Obj) : Ch (fun k => k = l) W (W.putObj l o) :=
  Ch.of_grown (grownBy_putObj' W l o) (fun g e _ => by injection e with e; exact e.symm)

section
variable {F : Fence} {n : Nat} {P : Program}
theorem wpIn_rangeR {β : Type} {g : Operand} {ps : Array Tmp} {assign body : Code} {Q : Exit → Act → World → Prop} {a : Act} {w : World}
    (hro : F.round = none) (h1 : 1 ≤ n) {gf : Nat} {lb : Array Value} (hg : a.eval g = .func (.func gf) #[] lb) (hFg : F.fn gf) (eg : ∀ args w, (callFunc gf args).run P w = .ok (.enter gf args) w)
    {R : Nat → β → Array Value → World → Prop} {S : Nat → Prop} {bs : List β} (hseq : SeqR F (n - 1) P gf lb R S bs w) (hS : ∀ k, w.heap.size ≤ k → S k)
    (hps : ∀ B b args W, R B b args W → args.size = ps.size) (hR : ∀ b args W W', R (w.heap.size + 2) b args W → Ch (Bk w.heap.size) W W' → R (w.heap.size + 2) b args W')
    (I : Nat → World → Prop) (Ix : Code → Nat → World → Prop)
    (hI : ∀ k W W', I k W → w.heap.size ≤ W.heap.size → Ch (Bk w.heap.size) W W' → I k W') (hIx : ∀ c k W W', Ix c k W → w.heap.size ≤ W.heap.size → Ch (Bk w.heap.size) W W' → Ix c k W') (h0 : I 0 w) (a₁ : Array Value → Act)
    (hassign : ∀ (l : Nat) (args : Array Value) (W : World) (K : Act → World → Prop), args.size = ps.size → K (a₁ args) W →
      assign.wpIn (F.inRound l) (n - 1 - 1) P (Exit.then K (fun _ _ _ => False)) { tmps := (ps.zip args).foldl (fun t (p, v) => t.setIfInBounds p v) a.tmps, defers := [] } W)
    (hbody : ∀ (l k : Nat) (h : k < bs.length) (args : Array Value) (W : World), w.heap.size + 2 ≤ W.heap.size → Ch S w W → I k W → R (w.heap.size + 2) bs[k] args W → body.wpIn (F.inRound l) (n - 1 - 1) P (PostR w.heap.size S I Ix (k + 1) W) (a₁ args) W)
    (hdone : ∀ (W : World), Ch S w W → I bs.length W → W.heap[w.heap.size]? = some (.deferred (some [])) → Q .normal { a with defers := { target := .collected w.heap.size, args := #[] } :: a.defers } W)
    (hstop : ∀ (c : Code) (k : Nat) (W : World), k ≤ bs.length → Ch S w W → Ix c k W → W.heap[w.heap.size]? = some (.deferred (some [])) → c.wpIn F n P Q { a with defers := { target := .collected w.heap.size, args := #[] } :: a.defers } W) :
    (Code.rangeFunc g ps assign body).wpIn F n P Q a w := by
  refine wpIn_rangeFunc ?_
  intro fn hfn
  rw [hro]
  obtain ⟨D, hD⟩ : ∃ D, D = w.heap.size := ⟨_, rfl⟩
  obtain ⟨rec, hrec⟩ : ∃ rec : LoopState → Option Code → Loop, rec = fun st pe => { state := st, pending := pe, fn, tmps := a.tmps, params := ps, assign, body, defers := w.heap.size } := ⟨_, rfl⟩
  obtain ⟨W1, hW1⟩ : ∃ W1, (w.alloc (.deferred (some []))).alloc (.loop (rec .ready none)) = W1 := ⟨_, rfl⟩
  have hsz1 : W1.heap.size = D + 2 := by rw [← hW1, hD]; simp
  have hb1 : Below w.heap.size w W1 := by rw [← hW1]; exact ((Below.refl _ w).alloc (Nat.le_refl _) _).alloc (by simp) _
  have hL1 : W1.heap[D + 1]? = some (.loop (rec .ready none)) := by
    have := World.alloc_heap_new (w.alloc (.deferred (some []))) (.loop (rec .ready none))
    rw [World.size_alloc, hW1, ← hD] at this
    exact this
  have hK1 : W1.heap[D]? = some (.deferred (some [])) := by
    rw [← hW1, hD]; exact (Below.heap_alloc _ _ _ (by simp)).trans (World.alloc_heap_new w _)
  have hI1 : I 0 W1 := hI 0 w W1 h0 (Nat.le_refl _) (Ch.of_below (S := Bk w.heap.size) hb1 (Nat.le_refl _))
  have hpo : ∀ (W : World) (o : Obj), Ch (Bk w.heap.size) W (W.putObj (D + 1) o) := fun W o => (ch_putObj W (D + 1) o).mono (fun k _ e => .inr (by rw [e, hD]))
  have hbk : ∀ k, Bk w.heap.size k → S k := fun k h => hS k (by rcases h with h | h <;> omega)
  refine ⟨D + 1, [{ target := .collected D, args := #[] }], W1, { target := .fn (.func gf) lb, args := #[.func (.yield (D + 1)) #[] #[]] }, W1, gf, #[.func (.yield (D + 1)) #[] #[]] ++ lb, W1, ?_, ?_, ?_, ?_, fun _ => h1, ?_⟩
  · rw [← hW1, hrec, hD]; exact run_enterLoop_outer _ _ _ _ _
  · simp only [resolve, hg]
    simp [go_sem]
  · intro f' hf'
    simp [Target.leads] at hf'
    subst hf'
    exact hFg
  · simp [invoke, go_sem, eg]
  · have keep : ∀ {A B : World} {j : Nat} {o : Obj}, A.heap[j]? = some o → Below A.heap.size A B → B.heap[j]? = some o := fun ho hb => (hb.block _ (Array.getElem?_eq_some_iff.1 ho).1).trans ho
    have bch : ∀ {A B : World}, Below A.heap.size A B → Ch (Bk w.heap.size) A B := fun hb => Ch.of_below hb (Nat.le_refl _)
    refine (hseq (D + 1)
      (fun k W => I k W ∧ Ch S w W ∧ W.heap[D + 1]? = some (.loop (rec .ready none)) ∧ W.heap[D]? = some (.deferred (some [])))
      (fun k W => ∃ c, Ix c k W ∧ Ch S w W ∧ W.heap[D + 1]? = some (.loop (rec .done (some c))) ∧ W.heap[D]? = some (.deferred (some [])))
      W1 hb1 (by omega)
      (fun k A B hs hb => ⟨hI k A B hs.1 hs.2.1.size (bch hb), hs.2.1.trans (bch hb) (fun j _ h => hbk j h), keep hs.2.2.1 hb, keep hs.2.2.2 hb⟩)
      (fun k A B hs hb => by
        obtain ⟨c, h1, h2, h3, h4⟩ := hs
        exact ⟨c, hIx c k A B h1 h2.size (bch hb), h2.trans (bch hb) (fun j _ h => hbk j h), keep h3 hb, keep h4 hb⟩)
      ?_ ⟨hI1, Ch.of_below hb1 (Nat.le_refl _), hL1, hK1⟩).mono ?_
    · -- a round
      rintro k hk args W ⟨hi, hc, hl, hd⟩ hc1 hr
      rw [hsz1, hD] at hr
      have hsz : D + 2 ≤ W.heap.size := by have := hc1.size; omega
      have hy := run_yield (P := P) (args := args) hl (by rw [hrec]; exact hps _ _ _ _ hr)
      rw [hrec] at hy
      refine ⟨fn, _, assign, body, hy, roundIn_of_wpIn hfn (hassign (D + 1) args W _ (hps _ _ _ _ hr) ?_)⟩
      refine ⟨_, run_beginRound hl (by rw [hrec]), ?_⟩
      have hpo1 := hpo W (.loop { rec .ready none with state := .busy })
      have hl2 : (W.putObj (D + 1) (.loop { rec .ready none with state := .busy })).heap[D + 1]? = some (.loop { rec .ready none with state := .busy }) := World.putObj_heap_same (by omega)
      have hd2 : (W.putObj (D + 1) (.loop { rec .ready none with state := .busy })).heap[D]? = some (.deferred (some [])) := (World.putObj_heap_other (by omega)).trans hd
      refine wpIn_mono (hbody (D + 1) k hk args _ (by rw [putObj_size]; omega) (hc.trans hpo1 (fun j _ h => hbk j h)) (hI k _ _ hi hc.size hpo1) (hR _ _ _ _ hr hpo1)) ?_
      -- behind the round
      have fin : ∀ (jump : Option Code) (W3 : World), Ch (fun j => S j ∧ ¬ Bk w.heap.size j) (W.putObj (D + 1) (.loop { rec .ready none with state := .busy })) W3 →
          (Instr.endRound (D + 1) jump).run P W3 = .ok (.bool jump.isNone) (W3.putObj (D + 1) (.loop (rec (if jump.isNone then .ready else .done) jump))) ∧
          (W3.putObj (D + 1) (.loop (rec (if jump.isNone then .ready else .done) jump))).heap[D + 1]? = some (.loop (rec (if jump.isNone then .ready else .done) jump)) ∧
          (W3.putObj (D + 1) (.loop (rec (if jump.isNone then .ready else .done) jump))).heap[D]? = some (.deferred (some [])) ∧
          Ch S W (W3.putObj (D + 1) (.loop (rec (if jump.isNone then .ready else .done) jump))) := fun jump W3 c3 => by
        have e1 := c3.block (D + 1) (by have := hpo1.size; omega) (fun h => h.2 (.inr (by rw [hD])))
        have e0 := c3.block D (by have := hpo1.size; omega) (fun h => h.2 (.inl hD))
        have hl3 := e1.trans hl2
        have hend := run_endRound (P := P) jump hl3
        have hlt := (Array.getElem?_eq_some_iff.1 hl3).1
        rw [hrec] at hend ⊢
        refine ⟨hend, World.putObj_heap_same hlt, (World.putObj_heap_other (by omega)).trans (e0.trans hd2), ?_⟩
        exact ((hpo1.mono (fun j _ h => hbk j h)).trans (c3.mono (fun j _ h => h.1)) (fun j _ h => h)).trans (hpo W3 _) (fun j _ h => hbk j h)
      rintro e a3 W3 hp
      cases e with
      | normal =>
        obtain ⟨c3, hi3⟩ := hp
        obtain ⟨hr3, hl4, hd4, c4⟩ := fin none W3 c3
        exact ⟨_, _, hr3, .inl ⟨rfl, ⟨hI _ _ _ hi3 (by have h1 := c3.size; rw [putObj_size] at h1; omega) (hpo W3 _), hc.trans c4 (fun _ _ h => h), hl4, hd4⟩, c4⟩⟩
      | ret =>
        obtain ⟨c3, hi3⟩ := hp
        obtain ⟨hr3, hl4, hd4, c4⟩ := fin (some .ret) W3 c3
        exact ⟨_, _, hr3, .inr ⟨rfl, ⟨.ret, hIx _ _ _ _ hi3 (by have h1 := c3.size; rw [putObj_size] at h1; omega) (hpo W3 _), hc.trans c4 (fun _ _ h => h), hl4, hd4⟩, c4⟩⟩
      | exit id =>
        obtain ⟨c3, hi3⟩ := hp
        obtain ⟨hr3, hl4, hd4, c4⟩ := fin (some (.exit id)) W3 c3
        exact ⟨_, _, hr3, .inr ⟨rfl, ⟨.exit id, hIx _ _ _ _ hi3 (by have h1 := c3.size; rw [putObj_size] at h1; omega) (hpo W3 _), hc.trans c4 (fun _ _ h => h), hl4, hd4⟩, c4⟩⟩
      | goto t =>
        obtain ⟨c3, hi3⟩ := hp
        obtain ⟨hr3, hl4, hd4, c4⟩ := fin (some (.goto t)) W3 c3
        exact ⟨_, _, hr3, .inr ⟨rfl, ⟨.goto t, hIx _ _ _ _ hi3 (by have h1 := c3.size; rw [putObj_size] at h1; omega) (hpo W3 _), hc.trans c4 (fun _ _ h => h), hl4, hd4⟩, c4⟩⟩
      | panic ch => exact hp.elim
      | outgrown => exact hp.elim
    · -- behind the iterator
      rintro e W2 ⟨⟨v, rfl⟩, -, (⟨hi, hc, hl, hd⟩ | ⟨k, hk, c, hi, hc, hl, hd⟩)⟩
      · refine ⟨none, _, by have := run_endLoop (P := P) hl (by rw [hrec]; simp); rw [hrec] at this; exact this, ?_⟩
        have hp := hpo W2 (.loop { rec .ready none with state := .exhausted })
        rw [hrec] at hp
        have := hdone _ (hc.trans hp (fun j _ h => hbk j h)) (hI _ _ _ hi hc.size hp) ((World.putObj_heap_other (by omega)).trans (by rw [← hD]; exact hd))
        subst hD
        exact this
      · refine ⟨some c, _, by have := run_endLoop (P := P) hl (by rw [hrec]; simp); rw [hrec] at this; exact this, ?_⟩
        have hp := hpo W2 (.loop { rec .done (some c) with state := .exhausted })
        rw [hrec] at hp
        have := hstop c k _ hk (hc.trans hp (fun j _ h => hbk j h)) (hIx _ _ _ _ hi hc.size hp) ((World.putObj_heap_other (by omega)).trans (by rw [← hD]; exact hd))
        subst hD
        exact this

end

end Go.Proofs.Ytcmknopgoiabbaa.Kr
