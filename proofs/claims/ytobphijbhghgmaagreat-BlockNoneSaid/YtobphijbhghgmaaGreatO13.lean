/-
  A range over a function whose parts lie in memory: what the iterator hands on is known in the world in which it is handed on. For any layer; nothing of a program is in it.
-/
import Derived.Test.YtobphijbhghgmaaGreatO01
import Derived.RangeFuncNested
import Derived.RangeFuncBound
import Derived.RangeFuncCalls
import Derived.RangeFuncLeaves
import Derived.RangeFuncWrites
import Derived.Test.YtobphijbhghgmaaGreatO07
import Derived.Test.YtobphijbhghgmaaGreatO03
import Derived.Shelf.Abstract
import Derived.Shelf.RegionOpen
import Derived.OwnWalkIn
import Derived.TacticsInMore
import Derived.LoopNIn
import Derived.LoopIn
import Derived.Outline
import Derived.Test.YtobphijbhghgmaaGreatO12
import Derived.Test.YtobphijbhghgmaaGreatO08
import Derived.Deep.RegionLaw
import Derived.Deep.RegionHeld3
namespace Go.Proofs.YtobphijbhghgmaaGreat.Kr
set_option linter.unusedSimpArgs false
set_option linter.unusedVariables false
open Go Go.RowKit Ck Kw

/-- The loop's own two blocks, the first one at D. -/
def Bk (D k : Nat) : Prop := k = D ∨ k = D + 1

/-- What an iterator owes that hands on the parts bs, one behind the other: R says what its values are, all made since it was called; a round writes to blocks of S alone. -/
def SeqR {β : Type} (F : Fence) (n : Nat) (P : Program) (g : Nat) (lb : Array Value) (R : Nat → β → Array Value → World → Prop) (S : Nat → Prop) (bs : List β) (w : World) : Prop :=
  ∀ (l : Nat) (J Jx : Nat → World → Prop) (W : World), Below w.heap.size w W → w.heap.size + 2 ≤ W.heap.size → (∀ k A B, J k A → Below A.heap.size A B → J k B) → (∀ k A B, Jx k A → Below A.heap.size A B → Jx k B) →
    (∀ (k : Nat) (h : k < bs.length) (args : Array Value) (W1 : World), J k W1 → Ch S W W1 → R W.heap.size bs[k] args W1 → YieldAt F (n - 1) P l args W1 fun e W' =>
      (e = .returned (.bool true) ∧ J (k + 1) W' ∧ Ch S W1 W') ∨ (e = .returned (.bool false) ∧ Jx (k + 1) W' ∧ Ch S W1 W')) →
    J 0 W →
    CallsIn F n P g (#[.func (.yield l) #[] #[]] ++ lb) W fun e W' => (∃ v, e = .returned v) ∧ Ch S W W' ∧ (J bs.length W' ∨ ∃ k, k ≤ bs.length ∧ Jx k W')

/-- What a round's body owes. -/
def PostR (D : Nat) (S : Nat → Prop) (I : Nat → World → Prop) (Ix : Code → Nat → World → Prop) (k : Nat) (W : World) : Exit → Act → World → Prop
  | .normal, _, W' => Ch (fun j => S j ∧ ¬ Bk D j) W W' ∧ I k W'
  | .ret, _, W' => Ch (fun j => S j ∧ ¬ Bk D j) W W' ∧ Ix .ret k W'
  | .exit id, _, W' => Ch (fun j => S j ∧ ¬ Bk D j) W W' ∧ Ix (.exit id) k W'
  | .goto t, _, W' => Ch (fun j => S j ∧ ¬ Bk D j) W W' ∧ Ix (.goto t) k W'
  | .panic _, _, _ => False
  | .outgrown, _, _ => False

theorem putObj_size (W : World) (l : Nat) (o : Obj) : (W.putObj l o).heap.size = W.heap.size := by simp [World.putObj]
theorem ch_putObj (W : World) (l : Nat) (o : Obj) : Ch (fun k => k = l) W (W.putObj l o) :=
  Ch.of_grown (grownBy_putObj' W l o) (fun g e _ => by injection e with e; exact e.symm)

section
variable {F : Fence} {n : Nat} {P : Program}
theorem wpIn_rangeR {β : Type} {g : Operand} {ps : Array Tmp} {assign body : Code} {Q : Exit → Act → World → Prop} {a : Act} {w : World}
    (hro : F.round = none) (h1 : 1 ≤ n) {gf : Nat} {lb : Array Value} (hg : a.eval g = .func (.func gf) #[] lb) (hFg : F.fn gf) (eg : ∀ args w, (callFunc gf args).run P w = .ok (.enter gf args) w)
    {R : Nat → β → Array Value → World → Prop} {S : Nat → Prop} {bs : List β} (hseq : SeqR F (n - 1) P gf lb R S bs w) (hS : ∀ k, w.heap.size ≤ k → S k)
    (hps : ∀ B b args W, R B b args W → args.size = ps.size) (hR : ∀ b args W W', R (w.heap.size + 2) b args W → Ch (Bk w.heap.size) W W' → R (w.heap.size + 2) b args W')
    (I : Nat → World → Prop) (Ix : Code → Nat → World → Prop)
    (hI : ∀ k W W', I k W → w.heap.size ≤ W.heap.size → Ch (Bk w.heap.size) W W' → I k W') (hIx : ∀ c k W W', Ix c k W → w.heap.size ≤ W.heap.size → Ch (Bk w.heap.size) W W' → Ix c k W') (h0 : I 0 w) (a₁ : Array Value → Act)
    (hassign : ∀ (l : Nat) (args : Array Value) (W : World) (K : Act → World → Prop), args.size = ps.size → K (a₁ args) W →
      assign.wpIn (F.inRound l) (n - 1 - 1) P (Exit.then K (fun _ _ _ => False)) { tmps := (ps.zip args).foldl (fun t (p, v) => t.setIfInBounds p v) a.tmps, defers := [] } W)
    (hbody : ∀ (l k : Nat) (h : k < bs.length) (args : Array Value) (W : World), w.heap.size + 2 ≤ W.heap.size → Ch S w W → I k W → R (w.heap.size + 2) bs[k] args W → body.wpIn (F.inRound l) (n - 1 - 1) P (PostR w.heap.size S I Ix (k + 1) W) (a₁ args) W)
    (hdone : ∀ (W : World), Ch S w W → I bs.length W → W.heap[w.heap.size]? = some (.deferred (some [])) → Q .normal { a with defers := { target := .collected w.heap.size, args := #[] } :: a.defers } W)
    (hstop : ∀ (c : Code) (k : Nat) (W : World), k ≤ bs.length → Ch S w W → Ix c k W → W.heap[w.heap.size]? = some (.deferred (some [])) → c.wpIn F n P Q { a with defers := { target := .collected w.heap.size, args := #[] } :: a.defers } W) :
    (Code.rangeFunc g ps assign body).wpIn F n P Q a w := by
  refine wpIn_rangeFunc ?_
  intro fn hfn
  rw [hro]
  obtain ⟨D, hD⟩ : ∃ D, D = w.heap.size := ⟨_, rfl⟩
  obtain ⟨rec, hrec⟩ : ∃ rec : LoopState → Option Code → Loop, rec = fun st pe => { state := st, pending := pe, fn, tmps := a.tmps, params := ps, assign, body, defers := w.heap.size } := ⟨_, rfl⟩
  obtain ⟨W1, hW1⟩ : ∃ W1, (w.alloc (.deferred (some []))).alloc (.loop (rec .ready none)) = W1 := ⟨_, rfl⟩
  have hsz1 : W1.heap.size = D + 2 := by rw [← hW1, hD]; simp
  have hb1 : Below w.heap.size w W1 := by rw [← hW1]; exact ((Below.refl _ w).alloc (Nat.le_refl _) _).alloc (by simp) _
  have hL1 : W1.heap[D + 1]? = some (.loop (rec .ready none)) := by
    have := World.alloc_heap_new (w.alloc (.deferred (some []))) (.loop (rec .ready none))
    rw [World.size_alloc, hW1, ← hD] at this
    exact this
  have hK1 : W1.heap[D]? = some (.deferred (some [])) := by
    rw [← hW1, hD]; exact (Below.heap_alloc _ _ _ (by simp)).trans (World.alloc_heap_new w _)
  have hI1 : I 0 W1 := hI 0 w W1 h0 (Nat.le_refl _) (Ch.of_below (S := Bk w.heap.size) hb1 (Nat.le_refl _))
  have hpo : ∀ (W : World) (o : Obj), Ch (Bk w.heap.size) W (W.putObj (D + 1) o) := fun W o => (ch_putObj W (D + 1) o).mono (fun k _ e => .inr (by rw [e, hD]))
  have hbk : ∀ k, Bk w.heap.size k → S k := fun k h => hS k (by rcases h with h | h <;> omega)
  refine ⟨D + 1, [{ target := .collected D, args := #[] }], W1, { target := .fn (.func gf) lb, args := #[.func (.yield (D + 1)) #[] #[]] }, W1, gf, #[.func (.yield (D + 1)) #[] #[]] ++ lb, W1, ?_, ?_, ?_, ?_, fun _ => h1, ?_⟩
  · rw [← hW1, hrec, hD]; exact run_enterLoop_outer _ _ _ _ _
  · simp only [resolve, hg]
    simp [go_sem]
  · intro f' hf'
    simp [Target.leads] at hf'
    subst hf'
    exact hFg
  · simp [invoke, go_sem, eg]
  · have keep : ∀ {A B : World} {j : Nat} {o : Obj}, A.heap[j]? = some o → Below A.heap.size A B → B.heap[j]? = some o := fun ho hb => (hb.block _ (Array.getElem?_eq_some_iff.1 ho).1).trans ho
    have bch : ∀ {A B : World}, Below A.heap.size A B → Ch (Bk w.heap.size) A B := fun hb => Ch.of_below hb (Nat.le_refl _)
    refine (hseq (D + 1)
      (fun k W => I k W ∧ Ch S w W ∧ W.heap[D + 1]? = some (.loop (rec .ready none)) ∧ W.heap[D]? = some (.deferred (some [])))
      (fun k W => ∃ c, Ix c k W ∧ Ch S w W ∧ W.heap[D + 1]? = some (.loop (rec .done (some c))) ∧ W.heap[D]? = some (.deferred (some [])))
      W1 hb1 (by omega)
      (fun k A B hs hb => ⟨hI k A B hs.1 hs.2.1.size (bch hb), hs.2.1.trans (bch hb) (fun j _ h => hbk j h), keep hs.2.2.1 hb, keep hs.2.2.2 hb⟩)
      (fun k A B hs hb => by
        obtain ⟨c, h1, h2, h3, h4⟩ := hs
        exact ⟨c, hIx c k A B h1 h2.size (bch hb), h2.trans (bch hb) (fun j _ h => hbk j h), keep h3 hb, keep h4 hb⟩)
      ?_ ⟨hI1, Ch.of_below hb1 (Nat.le_refl _), hL1, hK1⟩).mono ?_
    · -- a round
      rintro k hk args W ⟨hi, hc, hl, hd⟩ hc1 hr
      rw [hsz1, hD] at hr
      have hsz : D + 2 ≤ W.heap.size := by have := hc1.size; omega
      have hy := run_yield (P := P) (args := args) hl (by rw [hrec]; exact hps _ _ _ _ hr)
      rw [hrec] at hy
      refine ⟨fn, _, assign, body, hy, roundIn_of_wpIn hfn (hassign (D + 1) args W _ (hps _ _ _ _ hr) ?_)⟩
      refine ⟨_, run_beginRound hl (by rw [hrec]), ?_⟩
      have hpo1 := hpo W (.loop { rec .ready none with state := .busy })
      have hl2 : (W.putObj (D + 1) (.loop { rec .ready none with state := .busy })).heap[D + 1]? = some (.loop { rec .ready none with state := .busy }) := World.putObj_heap_same (by omega)
      have hd2 : (W.putObj (D + 1) (.loop { rec .ready none with state := .busy })).heap[D]? = some (.deferred (some [])) := (World.putObj_heap_other (by omega)).trans hd
      refine wpIn_mono (hbody (D + 1) k hk args _ (by rw [putObj_size]; omega) (hc.trans hpo1 (fun j _ h => hbk j h)) (hI k _ _ hi hc.size hpo1) (hR _ _ _ _ hr hpo1)) ?_
      -- behind the round
      have fin : ∀ (jump : Option Code) (W3 : World), Ch (fun j => S j ∧ ¬ Bk w.heap.size j) (W.putObj (D + 1) (.loop { rec .ready none with state := .busy })) W3 →
          (Instr.endRound (D + 1) jump).run P W3 = .ok (.bool jump.isNone) (W3.putObj (D + 1) (.loop (rec (if jump.isNone then .ready else .done) jump))) ∧
          (W3.putObj (D + 1) (.loop (rec (if jump.isNone then .ready else .done) jump))).heap[D + 1]? = some (.loop (rec (if jump.isNone then .ready else .done) jump)) ∧
          (W3.putObj (D + 1) (.loop (rec (if jump.isNone then .ready else .done) jump))).heap[D]? = some (.deferred (some [])) ∧
          Ch S W (W3.putObj (D + 1) (.loop (rec (if jump.isNone then .ready else .done) jump))) := fun jump W3 c3 => by
        have e1 := c3.block (D + 1) (by have := hpo1.size; omega) (fun h => h.2 (.inr (by rw [hD])))
        have e0 := c3.block D (by have := hpo1.size; omega) (fun h => h.2 (.inl hD))
        have hl3 := e1.trans hl2
        have hend := run_endRound (P := P) jump hl3
        have hlt := (Array.getElem?_eq_some_iff.1 hl3).1
        rw [hrec] at hend ⊢
        refine ⟨hend, World.putObj_heap_same hlt, (World.putObj_heap_other (by omega)).trans (e0.trans hd2), ?_⟩
        exact ((hpo1.mono (fun j _ h => hbk j h)).trans (c3.mono (fun j _ h => h.1)) (fun j _ h => h)).trans (hpo W3 _) (fun j _ h => hbk j h)
      rintro e a3 W3 hp
      cases e with
      | normal =>
        obtain ⟨c3, hi3⟩ := hp
        obtain ⟨hr3, hl4, hd4, c4⟩ := fin none W3 c3
        exact ⟨_, _, hr3, .inl ⟨rfl, ⟨hI _ _ _ hi3 (by have h1 := c3.size; rw [putObj_size] at h1; omega) (hpo W3 _), hc.trans c4 (fun _ _ h => h), hl4, hd4⟩, c4⟩⟩
      | ret =>
        obtain ⟨c3, hi3⟩ := hp
        obtain ⟨hr3, hl4, hd4, c4⟩ := fin (some .ret) W3 c3
        exact ⟨_, _, hr3, .inr ⟨rfl, ⟨.ret, hIx _ _ _ _ hi3 (by have h1 := c3.size; rw [putObj_size] at h1; omega) (hpo W3 _), hc.trans c4 (fun _ _ h => h), hl4, hd4⟩, c4⟩⟩
      | exit id =>
        obtain ⟨c3, hi3⟩ := hp
        obtain ⟨hr3, hl4, hd4, c4⟩ := fin (some (.exit id)) W3 c3
        exact ⟨_, _, hr3, .inr ⟨rfl, ⟨.exit id, hIx _ _ _ _ hi3 (by have h1 := c3.size; rw [putObj_size] at h1; omega) (hpo W3 _), hc.trans c4 (fun _ _ h => h), hl4, hd4⟩, c4⟩⟩
      | goto t =>
        obtain ⟨c3, hi3⟩ := hp
        obtain ⟨hr3, hl4, hd4, c4⟩ := fin (some (.goto t)) W3 c3
        exact ⟨_, _, hr3, .inr ⟨rfl, ⟨.goto t, hIx _ _ _ _ hi3 (by have h1 := c3.size; rw [putObj_size] at h1; omega) (hpo W3 _), hc.trans c4 (fun _ _ h => h), hl4, hd4⟩, c4⟩⟩
      | panic ch => exact hp.elim
      | outgrown => exact hp.elim
    · -- behind the iterator
      rintro e W2 ⟨⟨v, rfl⟩, -, (⟨hi, hc, hl, hd⟩ | ⟨k, hk, c, hi, hc, hl, hd⟩)⟩
      · refine ⟨none, _, by have := run_endLoop (P := P) hl (by rw [hrec]; simp); rw [hrec] at this; exact this, ?_⟩
        have hp := hpo W2 (.loop { rec .ready none with state := .exhausted })
        rw [hrec] at hp
        have := hdone _ (hc.trans hp (fun j _ h => hbk j h)) (hI _ _ _ hi hc.size hp) ((World.putObj_heap_other (by omega)).trans (by rw [← hD]; exact hd))
        subst hD
        exact this
      · refine ⟨some c, _, by have := run_endLoop (P := P) hl (by rw [hrec]; simp); rw [hrec] at this; exact this, ?_⟩
        have hp := hpo W2 (.loop { rec .done (some c) with state := .exhausted })
        rw [hrec] at hp
        have := hstop c k _ hk (hc.trans hp (fun j _ h => hbk j h)) (hIx _ _ _ _ hi hc.size hp) ((World.putObj_heap_other (by omega)).trans (by rw [← hD]; exact hd))
        subst hD
        exact this

end

end Go.Proofs.YtobphijbhghgmaaGreat.Kr

/-
  Contract of the program's topic: all, the iterator over its records.
-/
namespace Go.Proofs.YtobphijbhghgmaaGreat.Br
set_option linter.unusedSimpArgs false
open Go Go.RowKit Go.Shelf Ck Kw Ga Kf Km Pm Pz Tm Tn Tq Aa Kr
attribute [local go_sem ↓] Go.wp_at_zero Go.wp_at_succ
attribute [local go_sem] Oper.semAt_some
set_option linter.unusedVariables false

/-- Records with their offsets. -/
def offs : Int → List Tx → List (Int × Tx)
  | _, [] => []
  | o, x :: l => (o, x) :: offs (o + 1) l
theorem offs_len : ∀ (o : Int) (xs : List Tx), (offs o xs).length = xs.length
  | _, [] => rfl
  | o, x :: l => by simp [offs, offs_len]
theorem offs_get : ∀ (o : Int) (xs : List Tx) (k : Nat) (h : k < xs.length), (offs o xs)[k]'(by rw [offs_len]; exact h) = (o + (k : Int), xs[k])
  | o, x :: l, 0, h => by simp [offs]
  | o, x :: l, k + 1, h => by
    have := offs_get (o + 1) l k (by simpa using h)
    simp only [offs, List.getElem_cons_succ, this]
    congr 1
    omega
/-- An offset and its record, in memory: the record's bytes lie in R. -/
def Rt (R : Nat → Prop) (_ : Nat) (p : Int × Tx) (args : Array Value) (W : World) : Prop :=
  ∃ A c, args = #[.int .i64 p.1, .slice A p.2.length c] ∧ Sl W (fun k => ¬ R k) 1 (.slice A p.2.length c) p.2.length (BVs p.2)
theorem wide_some : Fence.wide.depth.isSome = true → False := fun h => by cases h

theorem all_ret (w : World) (g : Nat) : Calls Tryz.prog 123 #[.pointer (some ⟨g, 0, none⟩)] w fun e w' =>
    e = .returned (.func (.func 150) #[] #[.pointer (some ⟨w.heap.size, 0, none⟩)]) ∧ w' = w.alloc (.cells #[.pointer (some ⟨g, 0, none⟩)] 153) := by
  go_enter Tryz.func123, Tryz.ntmps123
  go_wp2
  go_ret
  exact ⟨rfl, rfl⟩

set_option maxRecDepth 100000 in
set_option maxHeartbeats 4000000 in
theorem recs_seq (n : Nat) (hn : 2 ≤ n) (S T R : Nat → Prop) (w : World) (Bc g mg : Nat) (t : Tp) (v : Value) (hB : Blk w Bc 153 #[.pointer (some ⟨g, 0, none⟩)]) (hBS : ¬ S Bc) (h : Tg w T R g t v mg)
    (hT : ∀ k, T k → ¬ S k) (hR : ∀ k, R k → ¬ S k) (hb0 : 0 ≤ t.base) (hb1 : t.next ≤ maxNum) (hfew : t.recs.length ≤ 64) :
    SeqR Fence.wide n Tryz.prog 150 #[.pointer (some ⟨Bc, 0, none⟩)] (Rt R) S (offs t.base t.recs) w := by
  intro l J Jx W hW hsz hJ hJx hY h0
  rw [offs_len]
  obtain ⟨vals, h1, h2⟩ := h.recs
  obtain ⟨A, c, rfl⟩ := own_shape h1
  have HBW : Hid (∀ wr, Ch S W wr → Blk wr Bc 153 #[.pointer (some ⟨g, 0, none⟩)] ∧ Blk wr g 158 #[.int .i64 t.base, .slice A t.recs.length c, .map (some mg)] ∧ wr.ownsRow 0 145 1 (.slice A t.recs.length c) t.recs.length vals ∧
      (∀ i (hi : i < t.recs.length), ∃ u, vals[i]? = some u ∧ Sl wr (fun k => ¬ R k) 1 u t.recs[i].length (BVs t.recs[i]))) := Lib.hid fun wr hc =>
    ⟨(hB.below hW hB.lt).ch hc hBS, (h.blk.below hW h.blk.lt).ch hc (hT _ h.tg), own_ch (own_below h1 hW) hc (fun k hk => hT k (h.tv k hk)), fun i hi => by
      obtain ⟨u, hu, hs⟩ := h2 i hi
      exact ⟨u, hu, (hs.after hW).ch hc (fun k _ hs hr => hR k hr hs)⟩⟩
  have HJ := Lib.hid hJ
  have HY := Lib.hid hY
  simp only [maxNum, Tp.next] at hb1
  clear hB h1 h2 hJ h hY
  obtain ⟨hbk, htk, -, -⟩ := HBW.out W (Ch.refl _ _)
  have cB : W.cell? ⟨Bc, 0, none⟩ = some (.pointer (some ⟨g, 0, none⟩)) := hbk.cell 0
  have c1 : W.cell? ⟨g, 1, none⟩ = some (.slice A t.recs.length c) := htk.cell 1
  clear hbk htk
  refine callsIn_of_wp Tryz.func150 rfl trivial ?_ rfl
  simp only [Tryz.ntmps150, List.size_toArray, List.length_cons, List.length_nil, Nat.reduceAdd, Nat.reduceSub, Array.replicate_succ, Array.replicate_zero, List.push_toArray, List.append_toArray, List.nil_append, List.cons_append]
  gi_wp2
  clear cB c1
  gi_loopw [10] (fun p wr => ∃ k : Nat, k ≤ t.recs.length ∧ p = .int .i64 (k : Int) ∧ J k wr ∧ Ch S W wr) (fun p _ => t.recs.length - (intOf p).toNat)
  case atStart => exact ⟨0, Nat.zero_le _, rfl, h0, Ch.refl _ _⟩
  case round =>
    obtain ⟨k, hk, rfl, hJs, hcs⟩ := hrel
    by_cases hlt : k < t.recs.length
    · obtain ⟨hbk, htk, ho, hel⟩ := HBW.out _ hcs
      have cB : wr.cell? ⟨Bc, 0, none⟩ = some (.pointer (some ⟨g, 0, none⟩)) := hbk.cell 0
      have c0 : wr.cell? ⟨g, 0, none⟩ = some (.int .i64 t.base) := htk.cell 0
      obtain ⟨u, hu, hs⟩ := hel k hlt
      obtain ⟨Au, cu, rfl, -⟩ := id hs
      obtain ⟨g', hA, hcell⟩ : ∃ g', A = some ⟨g', 0, none⟩ ∧ wr.cell? ⟨g', k, none⟩ = some (.slice Au t.recs[k].length cu) := by
        obtain ⟨g', c', hv, hb, hlt'⟩ := ho.form (by omega)
        obtain ⟨rfl, _, rfl⟩ := Value.slice.inj hv
        exact ⟨g', rfl, by rw [ho.cellAt k (by omega), hu]⟩
      subst hA
      have HR : Hid (Rt R W.heap.size ((offs t.base t.recs)[k]'(by rw [offs_len]; exact hlt)) #[.int .i64 (t.base + (k : Int)), .slice Au t.recs[k].length cu] wr) := Lib.hid (by
        rw [offs_get t.base t.recs k hlt]
        exact ⟨Au, cu, rfl, hs⟩)
      obtain ⟨fn, tmps, assign, body, hy, hRd⟩ := HY.out k (by rw [offs_len]; exact hlt) _ wr hJs hcs HR.out
      have HRD := Lib.hid hRd
      have HC := Lib.hid hcs
      have hw : IntKind.i64.wrap (t.base + (k : Int)) = t.base + (k : Int) := Ga.wrap64 (by omega) (by omega)
      have hw0 : IntKind.i64.wrap (k : Int) = (k : Int) := Ga.wrap64 (by omega) (by omega)
      have hltI : (k : Int) < (t.recs.length : Int) := by omega
      clear hbk htk ho hel hu hs hRd hcs hJs
      gi_wp2_with fail
      refine ⟨fun h => (wide_some h).elim, HRD.out.mono ?_⟩
      rintro e W3 (⟨rfl, hJ3, hc3⟩ | ⟨rfl, hJx3, hc3⟩)
      · have HC3 := Lib.hid (HC.out.trans hc3 (fun _ _ h => h))
        have HJ3 := Lib.hid hJ3
        clear hJ3 hc3 cB c0 hcell
        gi_wp2_with fail
        go_roundw
        case rel => exact ⟨k + 1, by omega, by go_num, HJ3.out, HC3.out⟩
        case measure => simp [intOf]; omega
      · have HC3 := Lib.hid (HC.out.trans hc3 (fun _ _ h => h))
        have HJ3 := Lib.hid hJx3
        clear hJx3 hc3 cB c0 hcell
        gi_wp2_with fail
        refine bodyPost_ret (results_none rfl _ _ _) rfl ?_
        exact ⟨⟨_, rfl⟩, HC3.out, .inr ⟨k + 1, by omega, HJ3.out⟩⟩
    · have hke : k = t.recs.length := by omega
      have HKE := Lib.hid hke
      have HC := Lib.hid hcs
      have HJ1 := Lib.hid hJs
      have hltI : ¬ (k : Int) < (t.recs.length : Int) := by omega
      have hltI2 : (t.recs.length : Int) ≤ (k : Int) := by omega
      clear hcs hJs hke
      gi_wp2_with fail
      refine bodyPost_end (results_none rfl _ _ _) rfl ?_
      have h1 := HJ1.out
      rw [HKE.out] at h1
      exact ⟨⟨_, rfl⟩, HC.out, .inl h1⟩
end Go.Proofs.YtobphijbhghgmaaGreat.Br

/-
  Contract of the program's topic: bytes.
-/
namespace Go.Proofs.YtobphijbhghgmaaGreat.Bt
set_option linter.unusedSimpArgs false
open Go Go.RowKit Go.Shelf Ck Kw Pk Cb Ga Kf Km Pm Pz Tm Tn Tq Kx Aa Ab Ac Ad Kr Bp Bq Br
attribute [local go_sem ↓] Go.wp_at_zero Go.wp_at_succ
attribute [local go_sem] Oper.semAt_some
set_option linter.unusedVariables false

/-- The cell gc holds a row of bytes from B on, in no block of X. -/
def Row (B gc : Nat) (X : Nat → Prop) (b : Tx) (W : World) : Prop :=
  ∃ A c, Blk W gc 25 #[.slice A b.length c] ∧ W.ownsRow B 5 1 (.slice A b.length c) b.length (BVs b) ∧ ∀ q, (Value.slice A b.length c).ownBlock = some q → ¬ X q
theorem Row.put {B gc : Nat} {X : Nat → Prop} {b b' : Tx} {A : Option Addr} {c : Nat} {v' : Value} {W W' : World} (hg : B ≤ gc) (hgX : ¬ X gc) (hX : ∀ q, X q → q < W.heap.size) (hk : Blk W gc 25 #[.slice A b.length c]) (h0 : W.ownsRow B 5 1 (.slice A b.length c) b.length (BVs b))
    (hv : ∀ q, (Value.slice A b.length c).ownBlock = some q → ¬ X q) (h1 : W'.ownsRow B 5 1 v' b'.length (BVs b')) (h2 : W.grownBy W' (Value.slice A b.length c).ownBlock) (h3 : v'.ownBlock = (Value.slice A b.length c).ownBlock ∨ ∀ k, v'.ownBlock = some k → W.heap.size ≤ k) :
    Row B gc X b' (W'.setCell ⟨gc, 0, none⟩ v') ∧ Ch (fun k => B ≤ k ∧ ¬ X k) W (W'.setCell ⟨gc, 0, none⟩ v') := by
  have hf := own_far h0 hk (by decide)
  have hk' := hk.grown h2 (fun e => hf e.symm)
  have hne := own_far h1 hk' (by decide)
  obtain ⟨A', c', rfl⟩ := own_shape h1
  refine ⟨⟨A', c', hk'.set_ 0 _, own_ch h1 ((Ch.refl (fun k => k = gc) W').setCell (p := ⟨gc, 0, none⟩) (fun _ => rfl) _) (fun k hk e => hne (by rw [hk, e])), fun q hq hx => ?_⟩, ?_⟩
  · rcases h3 with h3 | h3
    · exact hv q (by rw [← h3, hq]) hx
    · have := h3 q hq
      have := hX q hx
      omega
  · exact (Ch.of_grown (S := fun k => B ≤ k ∧ ¬ X k) h2 (fun q hq _ => ⟨(h0.lt q hq).1, hv q hq⟩)).setCell (p := ⟨gc, 0, none⟩) (fun _ => ⟨hg, hgX⟩) _
theorem Row.ch {B gc : Nat} {X Z : Nat → Prop} {b : Tx} {W W' : World} (h : Row B gc X b W) (c : Ch Z W W') (hg : ¬ Z gc) (hz : ∀ q, Z q → X q) : Row B gc X b W' := by
  obtain ⟨A, c1, h1, h2, h3⟩ := h
  exact ⟨A, c1, h1.ch c hg, own_ch h2 c (fun q hq hZ => h3 q hq (hz q hZ)), h3⟩
theorem Row.new {B gc : Nat} {X X' : Nat → Prop} {b : Tx} {W W' : World} (h : Row B gc X b W) (c : Below W.heap.size W W') (hx : ∀ q, X' q → X q ∨ W.heap.size ≤ q) : Row B gc X' b W' := by
  obtain ⟨A, c1, h1, h2, h3⟩ := h
  refine ⟨A, c1, h1.below c h1.lt, own_below h2 c, fun q hq hX => ?_⟩
  rcases hx q hX with h | h
  · exact h3 q hq h
  · have := (h2.lt q hq).2
    omega
theorem calm2 {P : Program} {c : Code} {Q : Exit → Act → World → Prop} {a : Act} {w : World} (h : c.wp P (Exit.then (fun a w => Q .normal a w) (fun _ _ _ => False)) a w) : c.wp P Q a w :=
  wp_mono h (fun e a w h => by cases e <;> first | exact h | exact h.elim)
theorem pos_mem : ∀ {gs : List Gp}, RG gs → ∀ g ∈ gs, pos gs g.n = some g.pos
  | [], _, g, hg => absurd hg (by simp)
  | g0 :: gs, h, g, hg => by
    rw [pos_cons]
    rcases List.mem_cons.1 hg with rfl | hg'
    · rw [if_pos rfl]
    · have := (List.pairwise_cons.1 h).1 g hg'
      rw [if_neg (fun e => by rw [e] at this; exact List.lt_irrefl _ this)]
      exact pos_mem (List.pairwise_cons.1 h).2 g hg'
theorem flat_le {α : Type} (f : α → Tx) (c : Nat) : ∀ l : List α, (∀ x ∈ l, (f x).length ≤ c) → (l.flatMap f).length ≤ c * l.length
  | [], _ => by simp
  | x :: l, h => by
    have h1 := h x (List.mem_cons_self ..)
    have h2 := flat_le f c l (fun y hy => h y (List.mem_cons_of_mem _ hy))
    simp only [List.flatMap_cons, List.length_append, List.length_cons, Nat.mul_add, Nat.mul_one]
    omega
theorem glook1 {w : World} {m n : Nat} {D : DataW Unit} {gs : List Gp} (h : w.ownsMap Tryz.prog 9 inElem m n D) (hT : TellsG D gs) (x : Tx) (hx : x.length ≤ 140737488355328) :
    (Instr.lookup 156 (.map (some m)) (.string ⟨x.toArray⟩) false).run Tryz.prog w = .ok (.int .i64 ((pos gs x).getD 0)) w := by
  obtain ⟨v, ps, hrun, hv⟩ := h.lookup law_str Tryz.underlying156 (zero_i64 w) (zd := .lit (.int .i64 0)) (zp := []) (inElem_mk 0) (key_str x (by simp only [maxLen]; omega))
  rw [hrun]
  cases hf : pos gs x with
  | some k =>
    rw [hT.2 x k hf] at hv
    rw [inElem_at hv]
    rfl
  | none =>
    rw [has_atKey (by rw [hT.1, hf]; rfl)] at hv
    rw [inElem_at hv]
    rfl
/-- A topic's bytes behind its name. -/
def tB (t : Tp) : Tx := Cm.enc t.base.toNat ++ (Cm.encL t.recs ++ (Cm.enc t.gs.length ++ t.gs.flatMap gpB))

theorem Rt.ch {R : Nat → Prop} {D B : Nat} {p : Int × Tx} {args : Array Value} {W W' : World} (h : Rt R B p args W) (c : Ch (Bk D) W W') (hR : ∀ k, R k → k < D) : Rt R B p args W' := by
  obtain ⟨A, cc, h1, h2⟩ := h
  exact ⟨A, cc, h1, h2.ch c (fun k _ hk hR' => by have := hR k hR'; rcases hk with h | h <;> omega)⟩
theorem two_of {args : Array Value} (h : args.size = 2) : ∃ x y, args = #[x, y] := by
  obtain ⟨l⟩ := args
  match l, h with
  | [x, y], _ => exact ⟨x, y, rfl⟩
/-- The frame of bytes, with the loop's variables. -/
def actB (n0 : Nat) (A1 : Option Addr) (c1 : Nat) (Ar : Option Addr) (m cr g gc B1 : Nat) (u19 : Value) (args : Array Value) : Act :=
  match args with
  | ⟨[x, y]⟩ => { tmps := #[.pointer (some ⟨g, 0, none⟩), undef, .slice none 0 0, .pointer (some ⟨gc, 0, none⟩), undef, y, undef, undef, .pointer (some ⟨g, 0, none⟩), .pointer (some ⟨g, 0, none⟩), .pointer (some ⟨g, 0, none⟩), .int .i64 (n0 : Int), .slice A1 (Cm.enc n0).length c1, .slice A1 (Cm.enc n0).length c1, .pointer (some ⟨g, 0, none⟩), .pointer (some ⟨g, 0, none⟩), .pointer (some ⟨g, 1, none⟩), .slice Ar m cr, .int .i64 (m : Int), u19, .pointer (some ⟨g, 0, none⟩), .func (.func 150) #[] #[.pointer (some ⟨B1, 0, none⟩)], x, y, undef, undef, undef, undef, undef, undef, undef, undef, undef, undef, undef, undef, undef, undef, undef, undef, undef, undef, undef, undef, undef, undef, undef, undef, undef, undef, undef, undef, undef, undef, undef], defers := [] }
  | _ => { tmps := #[], defers := [] }

set_option maxRecDepth 100000 in
set_option maxHeartbeats 4000000 in
theorem bytes_on (w : World) (T R : Nat → Prop) (g : Nat) (t : Tp) (v : Value) (mg : Nat) (h : Tg w T R g t v mg) (hf : FitT t) (hr : (t.gs.map (·.n)).Pairwise (· < ·)) (hT : ∀ k, T k → k < w.heap.size) (hR : ∀ k, R k → k < w.heap.size) :
    Calls Tryz.prog 104 #[.pointer (some ⟨g, 0, none⟩)] w fun e w' => Made w 5 (tB t) e w' := by
  refine (callsIn_wide (n := 6)).1 ?_
  have HT := Lib.hid h
  have HF := Lib.hid hf
  have HR := Lib.hid hr
  have HTL := Lib.hid hT
  have HRL := Lib.hid hR
  have c0 : w.cell? ⟨g, 0, none⟩ = some (.int .i64 t.base) := h.blk.cell 0
  obtain ⟨n0, hn0⟩ : ∃ n : Nat, t.base = (n : Int) := ⟨t.base.toNat, by have := hf.base; omega⟩
  have hn1 : n0 ≤ 9007199254740992 := by have h1 := hf.next; simp only [Tp.next, maxNum] at h1; omega
  have HN0 := Lib.hid hn0
  rw [hn0] at c0
  have HP0 := Lib.hid (pnum_any w.heap.size (.slice none 0 0) n0 [] w (World.ownsRow_nil _ _ _ _) (Nat.le_refl _) (by simp) (by omega))
  clear h hf hr hT hR hn0
  obtain ⟨vals, hrs, -⟩ := id HT.out.recs
  obtain ⟨Ar, cr, rfl⟩ := own_shape hrs
  have hfew := HF.out.few
  clear hrs
  refine callsIn_of_wp_marks Tryz.func104 rfl trivial ?_ rfl
  simp only [Tryz.ntmps104, List.size_toArray, List.length_cons, List.length_nil, Nat.reduceAdd, Nat.reduceSub, Array.replicate_succ, Array.replicate_zero, List.push_toArray, List.append_toArray, List.nil_append, List.cons_append]
  refine wpIn_wide.2 ?_
  go_wp2_with fail
  refine HP0.out.mono ?_
  rintro e w1 ⟨v1, rfl, ho1, hg1, -⟩
  obtain ⟨A1, c1, rfl⟩ := own_shape ho1
  have hb1 : Below w.heap.size w w1 := (Ch.of_grown (S := fun _ => False) hg1 (fun q hq _ => by simp [Value.ownBlock] at hq)).below (fun _ _ h => h) (Nat.le_refl _)
  simp only [List.nil_append] at ho1
  have hb2 : Below w.heap.size w (w1.alloc (.cells #[.slice A1 (Cm.enc n0).length c1] 25)) := hb1.alloc hb1.size _
  have hk2 : Blk (w1.alloc (.cells #[.slice A1 (Cm.enc n0).length c1] 25)) w1.heap.size 25 #[.slice A1 (Cm.enc n0).length c1] := Blk.new _ _ _
  have ho2 : (w1.alloc (.cells #[.slice A1 (Cm.enc n0).length c1] 25)).ownsRow w.heap.size 5 1 (.slice A1 (Cm.enc n0).length c1) (Cm.enc n0).length (BVs (Cm.enc n0)) := ho1.alloc _
  have hgc : w.heap.size ≤ w1.heap.size := hb1.size
  clear ho1 hg1 c0 hb1
  simp only [List.nil_append]
  go_wp2_with fail
  generalize w1.alloc (.cells #[.slice A1 (Cm.enc n0).length c1] 25) = W2 at *
  generalize w1.heap.size = gc at *
  have HT2 := Lib.hid (HT.out.later hb2)
  have d3 : W2.cell? ⟨gc, 0, none⟩ = some (.slice A1 (Cm.enc n0).length c1) := hk2.cell 0
  have d1 : W2.cell? ⟨g, 1, none⟩ = some (.slice Ar t.recs.length cr) := HT2.out.blk.cell 1
  have f3 := hk2.frozen 0
  have hen := (Cm.enc_len n0).1
  have HP2 := Lib.hid (pnum_any w.heap.size _ t.recs.length (Cm.enc n0) W2.drew ho2.drew hb2.size (by omega) (by omega))
  have HO2 := Lib.hid ho2
  have HK2 := Lib.hid hk2
  have HB2 := Lib.hid hb2
  clear ho2 hk2 hb2
  refine wp_mono (Q := Exit.then (fun a W => ∃ u19, a = { tmps := #[.pointer (some ⟨g, 0, none⟩), undef, .slice none 0 0, .pointer (some ⟨gc, 0, none⟩), undef, undef, undef, undef, .pointer (some ⟨g, 0, none⟩), .pointer (some ⟨g, 0, none⟩), .pointer (some ⟨g, 0, none⟩), .int .i64 (n0 : Int), .slice A1 (Cm.enc n0).length c1, .slice A1 (Cm.enc n0).length c1, .pointer (some ⟨g, 0, none⟩), .pointer (some ⟨g, 0, none⟩), .pointer (some ⟨g, 1, none⟩), .slice Ar t.recs.length cr, .int .i64 (t.recs.length : Int), u19, undef, undef, undef, undef, undef, undef, undef, undef, undef, undef, undef, undef, undef, undef, undef, undef, undef, undef, undef, undef, undef, undef, undef, undef, undef, undef, undef, undef, undef, undef, undef, undef, undef, undef, undef], defers := [] } ∧ Row w.heap.size gc (fun _ => False) (Cm.enc n0 ++ Cm.enc t.recs.length) W ∧ Below w.heap.size w W) (fun _ _ _ => False)) ?_ ?_
  · go_region_law (first
      | (go_simp; go_at_call 102; refine HP2.out.mono ?_; rintro e w3 ⟨v3, rfl, ho3, hg3, hv3⟩; obtain ⟨A3, c3, rfl⟩ := own_shape ho3; have q4 : Blk w3 gc 25 #[.slice A1 (Cm.enc n0).length c1] := (show Blk W2.drew gc 25 #[.slice A1 (Cm.enc n0).length c1] from HK2.out).grown hg3 (fun e => own_far HO2.out HK2.out (by decide) e.symm); have f4 := q4.frozen 0; have j4 := q4.cell 0; simp only [List.getElem?_toArray, List.getElem?_cons_zero] at j4; have HRW := Lib.hid (Row.put (X := fun _ => False) hgc (fun h => h) (fun _ h => h.elim) (show Blk W2.drew gc 25 #[.slice A1 (Cm.enc n0).length c1] from HK2.out) HO2.out.drew (fun _ _ h => h) ho3 hg3 hv3); clear ho3 hg3 hv3 q4))
    all_goals
      refine ⟨_, rfl, ?_, ?_⟩
      · have h := HRW.out.1
        simpa only [List.length_append] using h
      · have h := HRW.out.2
        have h2 : Below w.heap.size W2.drew (w3.setCell ⟨gc, 0, none⟩ (.slice A3 ((Cm.enc n0).length + (Cm.enc t.recs.length).length) c3)) := by
          have h3 := h.below (B := w.heap.size) (fun k hk h => by omega) HB2.out.size
          simpa only [List.length_append] using h3
        exact HB2.out.trans ⟨h2.os, h2.tape, h2.output, h2.size, h2.block⟩
  rintro e a W4 hpost
  cases e <;> first | exact hpost.elim | skip
  obtain ⟨u19, rfl, hR4, hB4⟩ := hpost
  have HR4 := Lib.hid hR4
  have HB4 := Lib.hid hB4
  clear hR4 hB4 HP2 HO2 HK2 d3 d1 f3
  go_wp2_with fail
  refine (all_ret W4 g).mono ?_
  rintro e W5 ⟨rfl, rfl⟩
  have hk5 : Blk (W4.alloc (.cells #[.pointer (some ⟨g, 0, none⟩)] 153)) W4.heap.size 153 #[.pointer (some ⟨g, 0, none⟩)] := Blk.new _ _ _
  have hb5 : Below W4.heap.size W4 (W4.alloc (.cells #[.pointer (some ⟨g, 0, none⟩)] 153)) := (Below.refl _ _).alloc (Nat.le_refl _) _
  have hz5 : W4.heap.size < (W4.alloc (.cells #[.pointer (some ⟨g, 0, none⟩)] 153)).heap.size := by simp
  generalize W4.alloc (.cells #[.pointer (some ⟨g, 0, none⟩)] 153) = W5 at *
  have hgc4 : gc < W4.heap.size := by obtain ⟨_, _, h, _⟩ := HR4.out; exact h.lt
  have hw4 := HB4.out.size
  generalize hB1 : W4.heap.size = B1 at *
  have HT5 := Lib.hid (HT.out.later (HB4.out.trans (hb5.mono hw4)))
  have HSEQ := Lib.hid (recs_seq 5 (by omega) (fun k => w.heap.size ≤ k ∧ k ≠ B1) T R W5 B1 g mg t _ hk5 (fun h => h.2 rfl) HT5.out (fun k hk h => by have := HTL.out k hk; omega) (fun k hk h => by have := HRL.out k hk; omega) HF.out.base HF.out.next HF.out.few)
  have HR5 : Hid (Row w.heap.size gc (fun q => q = B1 ∨ q = W5.heap.size ∨ q = W5.heap.size + 1) (Cm.enc n0 ++ Cm.enc t.recs.length ++ Cm.encP (t.recs.take 0)) W5) := Lib.hid (by
    have h := HR4.out.new (X' := fun q => q = B1 ∨ q = W5.heap.size ∨ q = W5.heap.size + 1) (hB1 ▸ hb5) (fun q hq => .inr (by omega))
    simpa [Cm.encP] using h)
  clear hk5
  go_wp2_with fail
  refine (wpIn_wide (n := 6)).1 ?_
  refine wpIn_rangeR rfl (by omega) (gf := 150) (lb := #[.pointer (some ⟨B1, 0, none⟩)]) rfl trivial (enters_of Tryz.func150 (by kernel_rfl) rfl) HSEQ.out (fun k hk => ⟨by omega, by omega⟩)
    (fun B p args W ⟨_, _, hh, _⟩ => by rw [hh]; rfl) (fun p args W W' hh c => Rt.ch hh c (fun k hk => by have := HRL.out k hk; omega))
    (fun k W => Row w.heap.size gc (fun q => q = B1 ∨ q = W5.heap.size ∨ q = W5.heap.size + 1) (Cm.enc n0 ++ Cm.enc t.recs.length ++ Cm.encP (t.recs.take k)) W) (fun _ _ _ => False)
    (fun k W W' hh _ c => hh.ch c (fun h => by rcases h with h | h <;> omega) (fun q hq => .inr hq)) (fun cc k W W' hh _ c => hh) HR5.out (actB n0 A1 c1 Ar t.recs.length cr g gc B1 u19) ?assign ?body ?done ?stop
  case assign =>
    intro l args W K hsz hK
    obtain ⟨x, y, rfl⟩ := two_of hsz
    gi_wp2_with fail
    exact hK
  case stop => exact fun _ _ _ _ _ h _ => h.elim
  case body =>
    intro l k hk args W hlt hcw hi hr
    rw [offs_len] at hk
    rw [offs_get t.base t.recs k hk] at hr
    obtain ⟨Ay, cy, rfl, hy⟩ := hr
    obtain ⟨Ab, cb, hkb, hob, hvb⟩ := hi
    have HK := Lib.hid hkb
    have HO := Lib.hid hob
    have HV := Lib.hid hvb
    have hpl := Pz.encP_small t.recs HF.out.each
    have hple := Cm.encP_le t.recs k
    have hy64 := HF.out.each _ (List.getElem_mem hk)
    have hen1 := (Cm.enc_len t.recs.length).1
    have HBL : Hid ((Cm.enc n0 ++ Cm.enc t.recs.length ++ Cm.encP (t.recs.take k)).length ≤ 8000) := Lib.hid (by simp only [List.length_append]; omega)
    have HE : Hid (Cm.enc n0 ++ Cm.enc t.recs.length ++ Cm.encP (t.recs.take k) ++ Cm.encB t.recs[k] = Cm.enc n0 ++ Cm.enc t.recs.length ++ Cm.encP (t.recs.take (k + 1))) := Lib.hid (by rw [Cm.encP_take hk, List.append_assoc])
    generalize Cm.enc n0 ++ Cm.enc t.recs.length ++ Cm.encP (t.recs.take k) = bk at *
    have HP := Lib.hid (pbytes_any w.heap.size _ _ _ _ bk t.recs[k] W hob (by omega) hy (by have := HBL.out; omega) (by have := HBL.out; omega))
    have d3 : W.cell? ⟨gc, 0, none⟩ = some (.slice Ab bk.length cb) := hkb.cell 0
    clear hkb hob hvb hy hple hpl hen1
    dsimp only [actB]
    gi_wp2_with fail
    refine ⟨trivial, CallsIn.inRound l (callsIn_wide.2 (HP.out.mono ?_))⟩
    rintro e w3 ⟨v3, rfl, ho3, hg3, hv3⟩
    obtain ⟨A3, c3, rfl⟩ := own_shape ho3
    have q4 := HK.out.grown hg3 (fun e => own_far HO.out HK.out (by decide) e.symm)
    have f4 := q4.frozen 0
    have j4 : w3.cell? ⟨gc, 0, none⟩ = some (.slice Ab bk.length cb) := q4.cell 0
    have HRW := Lib.hid (Row.put (X := fun q => q = B1 ∨ q = W5.heap.size ∨ q = W5.heap.size + 1) hgc (fun h => by omega) (fun q h => by omega) HK.out HO.out HV.out ho3 hg3 hv3)
    clear ho3 hg3 hv3 q4 d3
    gi_wp2_with fail
    have h1 := HRW.out.1
    have h2 := HRW.out.2
    simp only [List.length_append] at h1 h2
    rw [HE.out] at h1
    exact ⟨h2.mono (fun q _ hq => ⟨⟨hq.1, fun e => hq.2 (.inl e)⟩, fun e => hq.2 (.inr e)⟩), h1⟩
  case done =>
    intro W hcw hi hd
    rw [offs_len, List.take_length] at hi
    replace hi := hi.new (X' := fun q => q = B1 ∨ q = W5.heap.size) (Below.refl _ _) (fun q hq => .inl (by rcases hq with hq | hq; exact .inl hq; exact .inr (.inl hq)))
    have hwz := hcw.size
    have HCW := Lib.hid hcw
    have hdl : W5.heap.size < W.heap.size := (Array.getElem?_eq_some_iff.1 hd).1
    have HT6 : Hid (Tg W T R g t (.slice Ar t.recs.length cr) mg) := Lib.hid (HT5.out.ch hcw (fun k hk h => by have := HTL.out k hk; omega) (fun k hk h => by have := HRL.out k hk; omega))
    obtain ⟨D, hD, hTG⟩ := HT6.out.gs
    have hgr : RG t.gs := List.pairwise_map.1 HR.out
    have hsz := gs_size hD hTG hgr
    have hle := (map_ch hD ((Ch.refl (fun _ => False) W).drew) (fun h => h)).len Tryz.underlying156 3
    rw [hsz] at hle
    obtain ⟨Ab, cb, hkb, hob, hvb⟩ := hi
    have hpl := Pz.encP_small t.recs HF.out.each
    have hen1 := (Cm.enc_len t.recs.length).1
    have hen2 := (Cm.enc_len t.gs.length).1
    have hg8 := HF.out.groups
    have HBL : Hid ((Cm.enc n0 ++ Cm.enc t.recs.length ++ Cm.encP t.recs).length ≤ 8000) := Lib.hid (by simp only [List.length_append]; omega)
    have HTB : Hid (Cm.enc n0 ++ Cm.enc t.recs.length ++ Cm.encP t.recs ++ Cm.enc t.gs.length ++ t.gs.flatMap gpB = tB t) := Lib.hid (by
      unfold tB Cm.encL
      rw [HN0.out, Int.toNat_natCast]
      simp only [List.append_assoc])
    generalize Cm.enc n0 ++ Cm.enc t.recs.length ++ Cm.encP t.recs = b6 at *
    have HP6 := Lib.hid (pnum_any w.heap.size _ t.gs.length b6 W.drew hob.drew (by show _ ≤ W.heap.size; omega) (by have := HBL.out; omega) (by omega))
    have d3 : W.cell? ⟨gc, 0, none⟩ = some (.slice Ab b6.length cb) := hkb.cell 0
    have d2 : W.cell? ⟨g, 2, none⟩ = some (.map (some mg)) := HT6.out.blk.cell 2
    have f3 := hkb.frozen 0
    have HK6 := Lib.hid hkb
    have HO6 := Lib.hid hob
    have HV6 := Lib.hid hvb
    have HDF := Lib.hid hd
    have HDM := Lib.hid (And.intro hD hTG)
    have HGR := Lib.hid hgr
    clear hkb hob hvb hd hpl hen1 hcw hD hTG hgr hsz
    dsimp only
    go_wp2_with fail
    refine wp_mono (Q := Exit.then (fun a W' => ∃ u27 u33, a = { tmps := #[.pointer (some ⟨g, 0, none⟩), undef, .slice none 0 0, .pointer (some ⟨gc, 0, none⟩), undef, undef, undef, undef, .pointer (some ⟨g, 0, none⟩), .pointer (some ⟨g, 0, none⟩), .pointer (some ⟨g, 0, none⟩), .int .i64 (n0 : Int), .slice A1 (Cm.enc n0).length c1, .slice A1 (Cm.enc n0).length c1, .pointer (some ⟨g, 0, none⟩), .pointer (some ⟨g, 0, none⟩), .pointer (some ⟨g, 1, none⟩), .slice Ar t.recs.length cr, .int .i64 (t.recs.length : Int), u19, .pointer (some ⟨g, 0, none⟩), .func (.func 150) #[] #[.pointer (some ⟨B1, 0, none⟩)], undef, undef, undef, undef, undef, u27, .pointer (some ⟨g, 0, none⟩), .pointer (some ⟨g, 0, none⟩), .pointer (some ⟨g, 2, none⟩), .map (some mg), .int .i64 (t.gs.length : Int), u33, undef, undef, undef, undef, undef, undef, undef, undef, undef, undef, undef, undef, undef, undef, undef, undef, undef, undef, undef, undef, undef], defers := [{ target := .collected W5.heap.size, args := #[] }] } ∧ Row w.heap.size gc (fun q => q = B1 ∨ q = W5.heap.size) (b6 ++ Cm.enc t.gs.length) W' ∧ Ch (fun k => w.heap.size ≤ k ∧ ¬ (k = B1 ∨ k = W5.heap.size)) W W') (fun _ _ _ => False)) ?_ ?_
    · go_region_law (first
        | (go_simp; go_at_call 102; refine HP6.out.mono ?_; rintro e w3 ⟨v3, rfl, ho3, hg3, hv3⟩; obtain ⟨A3, c3, rfl⟩ := own_shape ho3; have q4 : Blk w3 gc 25 #[.slice Ab b6.length cb] := (show Blk W.drew gc 25 #[.slice Ab b6.length cb] from HK6.out).grown hg3 (fun e => own_far HO6.out HK6.out (by decide) e.symm); have f4 := q4.frozen 0; have j4 := q4.cell 0; simp only [List.getElem?_toArray, List.getElem?_cons_zero] at j4; have HRW := Lib.hid (Row.put (X := fun q => q = B1 ∨ q = W5.heap.size) hgc (fun h => by omega) (fun q h => by show q < W.heap.size; omega) (show Blk W.drew gc 25 #[.slice Ab b6.length cb] from HK6.out) HO6.out.drew HV6.out ho3 hg3 hv3); clear ho3 hg3 hv3 q4))
      all_goals
        refine ⟨_, _, rfl, ?_, ?_⟩
        · have h := HRW.out.1
          simpa only [List.length_append] using h
        · have h := HRW.out.2
          simp only [List.length_append] at h
          exact ch_of_drew h
    rintro e a W6 hpost
    cases e <;> first | exact hpost.elim | skip
    obtain ⟨u27, u33, rfl, hR6, hC6⟩ := hpost
    have HR6 := Lib.hid hR6
    have HC6 := Lib.hid hC6
    have hw6 := hC6.size
    have HT7 : Hid (Tg W6 T R g t (.slice Ar t.recs.length cr) mg) := Lib.hid (HT6.out.ch hC6 (fun k hk h => by have := HTL.out k hk; omega) (fun k hk h => by have := HRL.out k hk; omega))
    have HD7 : Hid (W6.heap[W5.heap.size]? = some (.deferred (some []))) := Lib.hid ((hC6.block _ hdl (fun h => h.2 (.inr rfl))).trans HDF.out)
    clear hR6 hC6 HP6 HO6 HK6 HV6 d3 d2 f3 hle
    go_wp2_with fail
    refine (gnames_on W6 T R g t _ mg HT7.out HR.out hg8).mono ?_
    rintro e W7 ⟨An, cn, rfl, hon, hb7⟩
    simp only [List.length_map] at hon ⊢
    have hD9 : W7.heap[W5.heap.size]? = some (.deferred (some [])) := (hb7.block _ (Nat.lt_of_lt_of_le hdl hw6)).trans HD7.out
    have HD9 := Lib.hid hD9
    have hT8 := HT7.out.later hb7
    have HT8 := Lib.hid hT8
    have HR8 : Hid (Row w.heap.size gc (fun q => q = W5.heap.size ∨ (Value.slice An t.gs.length cn).ownBlock = some q) (b6 ++ Cm.enc t.gs.length ++ (t.gs.take 0).flatMap gpB) W7) := Lib.hid (by
      have h := HR6.out.new (X' := fun q => q = W5.heap.size ∨ (Value.slice An t.gs.length cn).ownBlock = some q) hb7 (fun q hq => by
        rcases hq with hq | hq
        · exact .inl (.inr hq)
        · exact .inr (hon.lt q hq).1)
      simpa using h)
    have HON := Lib.hid hon
    have hw7 := hb7.size
    have HDB : Hid (Below w.heap.size w W7) := Lib.hid (by
      have h1 := HB4.out.trans (hb5.mono hw4)
      have h2 := HCW.out.below (B := w.heap.size) (fun k hk h => by omega) (by omega)
      have h3 := HC6.out.below (B := w.heap.size) (fun k hk h => by omega) (by omega)
      exact (h1.trans h2).trans (h3.trans (hb7.mono (by omega))))
    have HXL : Hid (∀ q, (q = W5.heap.size ∨ (Value.slice An t.gs.length cn).ownBlock = some q) → q < W7.heap.size) := Lib.hid (fun q hq => by
      rcases hq with hq | hq
      · omega
      · exact (HON.out.lt q hq).2)
    have HXG : Hid (¬ (gc = W5.heap.size ∨ (Value.slice An t.gs.length cn).ownBlock = some gc)) := Lib.hid (fun h => by
      rcases h with h | h
      · omega
      · have := (HON.out.lt gc h).1
        omega)
    clear hon hD9 hT8 hb7 hb5
    go_wp2_with fail
    go_loopw [37] (fun i wr => ∃ k : Nat, k ≤ t.gs.length ∧ i = .int .i64 (k : Int) ∧ Row w.heap.size gc (fun q => q = W5.heap.size ∨ (Value.slice An t.gs.length cn).ownBlock = some q) (b6 ++ Cm.enc t.gs.length ++ (t.gs.take k).flatMap gpB) wr ∧ Ch (fun q => w.heap.size ≤ q ∧ ¬ (q = W5.heap.size ∨ (Value.slice An t.gs.length cn).ownBlock = some q)) W7 wr) (fun i _ => t.gs.length - (intOf i).toNat)
    case atStart => exact ⟨0, Nat.zero_le _, rfl, HR8.out, Ch.refl _ _⟩
    case round =>
      obtain ⟨k, hk, rfl, hrw, hcr⟩ := hrel
      have HCR := Lib.hid hcr
      have hwr := hcr.size
      by_cases hlt : k < t.gs.length
      · have hltI : (k : Int) < (t.gs.length : Int) := by omega
        have honr := own_ch HON.out hcr (fun q hq h => h.2 (.inr hq))
        have HTR := Lib.hid (HT8.out.ch hcr (fun k hk h => by have := HTL.out k hk; omega) (fun k hk h => by have := HRL.out k hk; omega))
        obtain ⟨gn, hA, hcell⟩ : ∃ gn, An = some ⟨gn, 0, none⟩ ∧ wr.cell? ⟨gn, k, none⟩ = some (.string ⟨t.gs[k].n.toArray⟩) := by
          obtain ⟨g', c', hv, hb, hlt'⟩ := honr.form (by omega)
          obtain ⟨rfl, _, rfl⟩ := Value.slice.inj hv
          exact ⟨g', rfl, by rw [honr.cellAt k (by omega)]; simp [hlt]⟩
        subst hA
        obtain ⟨Ab, cb, hkb, hob, hvb⟩ := hrw
        have hgk := HF.out.g _ (List.getElem_mem hlt)
        obtain ⟨pk, hpk⟩ : ∃ n : Nat, t.gs[k].pos = (n : Int) := ⟨t.gs[k].pos.toNat, by have := hgk.pos; omega⟩
        have hpk2 : pk < 9223372036854775808 := by have := hgk.pos; simp only [maxNum] at this; omega
        have hnl := hgk.n
        have HPOS : Hid (pos t.gs t.gs[k].n = some (pk : Int)) := Lib.hid (by rw [pos_mem HGR.out _ (List.getElem_mem hlt), hpk])
        have HGP : Hid ((t.gs.take (k + 1)).flatMap gpB = (t.gs.take k).flatMap gpB ++ (Cm.encB t.gs[k].n ++ Cm.enc pk)) := Lib.hid (by
          rw [List.take_succ_eq_append_getElem hlt, List.flatMap_append]
          simp [gpB, hpk])
        have HBK : Hid ((b6 ++ Cm.enc t.gs.length ++ (t.gs.take k).flatMap gpB).length ≤ 9000) := Lib.hid (by
          have h1 := flat_le gpB 84 (t.gs.take k) (fun x hx => by
            have hx' := HF.out.g x (List.mem_of_mem_take hx)
            have h2 := (Cm.enc_len x.n.length).1
            have h3 := (Cm.enc_len x.pos.toNat).1
            have h4 := hx'.n
            simp only [gpB, List.length_append, Cm.encB_len]
            omega)
          have h5 : (t.gs.take k).length ≤ t.gs.length := by rw [List.length_take]; omega
          have h6 := HBL.out
          simp only [List.length_append]
          omega)
        generalize hbk : b6 ++ Cm.enc t.gs.length ++ (t.gs.take k).flatMap gpB = bk at *
        have HBKE := Lib.hid hbk
        have d3 : wr.cell? ⟨gc, 0, none⟩ = some (.slice Ab bk.length cb) := hkb.cell 0
        have hcv := conv_bytes t.gs[k].n
        have HO5 := Lib.hid (bytesWorld_out wr t.gs[k].n (by omega))
        have HB5 := Lib.hid (bytesWorld_below wr 5 ⟨t.gs[k].n.toArray⟩)
        have HK := Lib.hid hkb
        have HO := Lib.hid hob
        have HV := Lib.hid hvb
        clear hkb hob hvb hbk hgk hcr honr hpk
        go_wp2_with fail
        have HP := Lib.hid (pbytes_any w.heap.size _ (.slice Ab bk.length cb) _ _ bk t.gs[k].n (Lib.bytesWorld wr 5 ⟨t.gs[k].n.toArray⟩) (own_below HO.out HB5.out) (Nat.le_trans (by omega) HB5.out.size) (HO5.out.sl (X := fun _ => False) (fun _ _ _ h => h)) (by have := HBK.out; omega) (by have := HBK.out; omega))
        refine HP.out.mono ?_
        rintro e w3 ⟨v3, rfl, ho3, hg3, hv3⟩
        obtain ⟨A3, c3, rfl⟩ := own_shape ho3
        have q3 := HK.out.below HB5.out HK.out.lt
        have o3 := own_below HO.out HB5.out
        have q4 := q3.grown hg3 (fun e => own_far o3 q3 (by decide) e.symm)
        have f4 := q4.frozen 0
        have j4 : w3.cell? ⟨gc, 0, none⟩ = some (.slice Ab bk.length cb) := q4.cell 0
        have hrow := Row.put hgc HXG.out (fun q hq => Nat.lt_of_lt_of_le (HXL.out q hq) (Nat.le_trans hwr HB5.out.size)) q3 o3 HV.out ho3 hg3 hv3
        simp only [List.length_append] at hrow
        have HRW := Lib.hid hrow
        clear q3 o3 q4 ho3 hg3 hv3 hrow d3 hcv
        go_wp2_with fail
        have hr8 := HRW.out.1
        have hc8 : Ch (fun q => w.heap.size ≤ q ∧ ¬ (q = W5.heap.size ∨ (Value.slice (some ⟨gn, 0, none⟩) t.gs.length cn).ownBlock = some q)) wr _ := (Ch.of_below HB5.out (Nat.le_refl _)).trans HRW.out.2 (fun _ _ h => h)
        clear HRW j4 f4
        generalize hW8 : w3.setCell ⟨gc, 0, none⟩ (.slice A3 (bk.length + (Cm.encB t.gs[k].n).length) c3) = W8 at hr8 hc8 ⊢
        clear hW8
        obtain ⟨A8, c8, hk8, ho8, hv8⟩ := hr8
        have hw8 := hc8.size
        have HT9 := Lib.hid (HTR.out.ch hc8 (fun k hk h => by have := HTL.out k hk; omega) (fun k hk h => by have := HRL.out k hk; omega))
        obtain ⟨D9, hD9, hTG9⟩ := HT9.out.gs
        have hlk := glook1 (map_ch hD9 ((Ch.refl (fun _ => False) W8).drew) (fun h => h)) hTG9 t.gs[k].n (by omega)
        rw [HPOS.out, Option.getD_some] at hlk
        have HB8 : Hid ((bk ++ Cm.encB t.gs[k].n).length ≤ 9100) := Lib.hid (by have := HBK.out; have := (Cm.enc_len t.gs[k].n.length).1; simp only [List.length_append, Cm.encB_len]; omega)
        have HGP2 : Hid (bk ++ Cm.encB t.gs[k].n ++ Cm.enc pk = b6 ++ Cm.enc t.gs.length ++ (t.gs.take (k + 1)).flatMap gpB) := Lib.hid (by rw [HGP.out, ← HBKE.out]; simp only [List.append_assoc])
        generalize bk ++ Cm.encB t.gs[k].n = b8 at *
        have HP9 := Lib.hid (pnum_any w.heap.size _ pk b8 W8.drew ho8.drew (by show _ ≤ W8.heap.size; omega) (by have := HB8.out; omega) hpk2)
        have d3 : W8.cell? ⟨gc, 0, none⟩ = some (.slice A8 b8.length c8) := hk8.cell 0
        have d2 : W8.cell? ⟨g, 2, none⟩ = some (.map (some mg)) := HT9.out.blk.cell 2
        have f3 := hk8.frozen 0
        have HK8 := Lib.hid hk8
        have HO8 := Lib.hid ho8
        have HV8 := Lib.hid hv8
        have HC8 := Lib.hid hc8
        clear hk8 ho8 hv8 hc8 hD9 hTG9
        refine calm2 ?_
        go_region_law (first
          | (go_simp; go_at_call 102; refine HP9.out.mono ?_; rintro e w5 ⟨v5, rfl, ho5, hg5, hv5⟩; obtain ⟨A5, c5, rfl⟩ := own_shape ho5; have q5 : Blk w5 gc 25 #[.slice A8 b8.length c8] := (show Blk W8.drew gc 25 #[.slice A8 b8.length c8] from HK8.out).grown hg5 (fun e => own_far HO8.out HK8.out (by decide) e.symm); have f5 := q5.frozen 0; have j5 := q5.cell 0; simp only [List.getElem?_toArray, List.getElem?_cons_zero] at j5; have HRW := Lib.hid (Row.put (W := W8.drew) hgc HXG.out (fun q hq => show q < W8.heap.size from Nat.lt_of_lt_of_le (HXL.out q hq) (Nat.le_trans hwr hw8)) (show Blk W8.drew gc 25 #[.slice A8 b8.length c8] from HK8.out) HO8.out.drew HV8.out ho5 hg5 hv5); clear ho5 hg5 hv5 q5))
        all_goals
          have hr1 := HRW.out.1
          have hr2 := ch_of_drew HRW.out.2
          simp only [List.length_append] at hr1 hr2
          rw [HGP2.out] at hr1
          have HR1 := Lib.hid hr1
          have HR2 := Lib.hid ((HCR.out.trans HC8.out (fun _ _ h => h)).trans hr2 (fun _ _ h => h))
          clear hr1 hr2 HRW
          go_wp2_with fail
          go_roundw
          case rel => exact ⟨k + 1, by omega, by go_num, HR1.out, HR2.out⟩
          case measure => simp [intOf]; omega
      · have hke : k = t.gs.length := by omega
        subst hke
        rw [List.take_length, HTB.out] at hrw
        obtain ⟨Ab, cb, hkb, hob, hvb⟩ := hrw
        have d3 : wr.cell? ⟨gc, 0, none⟩ = some (.slice Ab (tB t).length cb) := hkb.cell 0
        have HO := Lib.hid hob
        have hdd : wr.heap[W5.heap.size]? = some (.deferred (some [])) := (hcr.block _ (by omega) (fun h => h.2 (.inl rfl))).trans HD9.out
        have HDD := Lib.hid hdd
        have hvb2 := hvb
        clear hkb hob hvb hdd hcr
        have HCR2 := Lib.hid (HCR.out.below (B := w.heap.size) (fun k hk h => by omega) (by omega))
        have HVB := Lib.hid (fun q hq h => hvb2 q hq h)
        go_wp2_with fail
        refine ⟨by simp, .inl ⟨_, _, rfl, run_takeDeferred HDD.out, ?_⟩⟩
        refine ⟨_, results_tmp rfl _ _ _, _, rfl, ?_, ?_⟩
        · exact own_ch HO.out (ch_putObj wr W5.heap.size (.deferred none)) (fun q hq e => HVB.out q hq (.inl e))
        · have h1 := (ch_putObj wr W5.heap.size (.deferred none)).below (B := w.heap.size) (fun k hk h => by omega) (by omega)
          exact HDB.out.trans (HCR2.out.trans h1)
end Go.Proofs.YtobphijbhghgmaaGreat.Bt
