/-
  Opening a list of requests under the form's own reach.
-/
import Derived.Test.YtmefagflnhkbdaaGreatVD03
import Derived.Test.YtmefagflnhkbdaaGreatVD15
import Derived.Test.YtmefagflnhkbdaaGreatVD02
import Derived.ChangeMaps5
import Derived.Test.YtmefagflnhkbdaaGreatVD01
import Derived.RangeFuncNested
import Derived.RangeFuncBound
import Derived.RangeFuncCalls
import Derived.RangeFuncLeaves
import Derived.RangeFuncWrites
namespace Go.Proofs.YtmefagflnhkbdaaGreat.Aq
set_option linter.unusedSimpArgs false
open Go Go.RowKit Go.ChangeShapes Go.WideShapes Go.ChangeAt Go.Deep Ck Kp Pm Pe Py Ao
set_option linter.unusedVariables false

section
variable {H : Type} {enc : TypeId × Value → H}
theorem cells_req : Tryz.prog.cellsOf 40 = 7 := by kernel_rfl
set_option maxRecDepth 100000 in
theorem open_req {w : World} {base : Nat} {fuel : Nat} {cs : List Value} {x : DataW H × List MemPlace} (h : DataW.trod enc Tryz.prog w base (fun _ => true) true fuel 40 cs = some x) :
    ∃ (r : Rq) (A : Option Addr) (c : Nat), cs = [.int .i64 r.client, .int .i64 r.time, .int .i64 r.o.kind, .string ⟨r.o.topic.toArray⟩, .string ⟨r.o.group.toArray⟩, .int .i64 r.o.off, .slice A r.o.recs.length c] ∧ Ls w (fun k => w.heap.size ≤ k) (.slice A r.o.recs.length c) r.o.recs
      ∧ ∀ R, (∀ n ∈ x.1.weights Tryz.prog 40, n ≤ R) → far r.o R := by
  obtain ⟨xs, n', _, hx, hl, hxl, hf⟩ := DataW.trod_struct Tryz.underlying40 h
  rw [cells_req] at hl
  have hxl' : xs.length = 3 := hxl
  match cs, hl with
  | [v0, v1, v2, v3, v4, v5, v6], _ =>
    have f0 : DataW.trod enc Tryz.prog w base (fun _ => true) true n' 3 (([v0, v1, v2, v3, v4, v5, v6].drop 0).take (Tryz.prog.cellsOf 3)) = xs[0]? := hf 0 _ rfl
    have f1 : DataW.trod enc Tryz.prog w base (fun _ => true) true n' 2 (([v0, v1, v2, v3, v4, v5, v6].drop 1).take (Tryz.prog.cellsOf 2)) = xs[1]? := hf 1 _ rfl
    have f2 : DataW.trod enc Tryz.prog w base (fun _ => true) true n' 38 (([v0, v1, v2, v3, v4, v5, v6].drop 2).take (Tryz.prog.cellsOf 38)) = xs[2]? := hf 2 _ rfl
    rw [cells_int] at f0
    rw [cells_i64] at f1
    rw [cells_op] at f2
    simp only [List.drop_zero, List.drop_succ_cons, List.take_succ_cons, List.take_zero] at f0 f1 f2
    obtain ⟨z0, e0, w0⟩ := one_int Tryz.underlying3 (by omega) f0
    obtain ⟨z1, e1, w1⟩ := one_int Tryz.underlying2 (by omega) f1
    rw [List.getElem?_eq_getElem (by omega)] at f2
    obtain ⟨o, A, c, e2, hls, _, hfar⟩ := open_op f2
    simp only [List.cons.injEq, and_true] at e0 e1 e2
    obtain ⟨rfl, rfl, rfl, rfl, rfl⟩ := e2
    refine ⟨⟨z0, z1, o⟩, A, c, by rw [e0, e1], hls, fun R hR => hfar R fun n hn => ?_⟩
    refine hR n ?_
    rw [hx]
    simp only [DataW.weights, Tryz.underlying40]
    exact DataW.weights_mem_each (ts := [3, 2, 38]) (j := 2) (t := 38) rfl (by simp [List.getElem?_eq_getElem (show 2 < xs.length by omega)]) n hn
end
end Go.Proofs.YtmefagflnhkbdaaGreat.Aq

/-
  Generic: a statement of the second form is lifted with the form's own reach at hand.
-/
namespace Go.Proofs.YtmefagflnhkbdaaGreat.Ku
set_option linter.unusedSimpArgs false
set_option linter.unusedVariables false
open Go Go.RowKit Go.ChangeShapes Go.WideShapes Go.ChangeAt
theorem lift_sized {H : Type} {enc : TypeId × Value → H} {a : Assume} {C : Checked} {os : Os} {f : FuncId} {fn : Func} {s : OpenSpec} {k : (H : Type) → List (DataW H) → Bool} (hk : s.cond = some k) {F : Stop.Interp} {conds : List PathCond} {apart fresh handsOn again : Bool}
    (own : ownKnob C.prog.godebug = none) (started : os.Started) (noInit : C.prog.inits.idxOf? f = none) (hfn : C.prog.funcs[f]? = some fn)
    (witness : ∃ (w : World) (tape : Tape) (i : Input), w.os = os ∧ (w.forCall tape i).Shaped C.prog ∧ i.vars = [] ∧ Input.okWide C.prog (w.forCall tape i) .any w.heap.size f i ∧
      s.pre6 enc C.prog fn conds apart (w.forCall tape i).memory i.args ∧ a.holds C.prog (lone (Frame.enter C.prog f i.args .normal) [] (w.forCall tape i)))
    (contract : ∀ (W : World) (base : Nat) (args : Array Value) (ds gs : List (DataW H)) (before : List MemPlace),
      (∀ (j : Nat) t v, fn.params[j]? = some t → args[j]? = some v → Value.okWide C.prog W .any base t v) →
      DataW.Whole enc C.prog fn.params.toList s.vars apart W args.toList ds gs before → k H (ds ++ gs) = true →
      (DataW.weightsEach C.prog (fn.params.toList ++ s.bare.plain.varTypes C.prog) (ds ++ gs)).all (· ≤ reachBytes) = true →
      Calls C.prog f args W fun e W' => ∃ v, e = .returned v ∧ (s.at F).post enc C.prog fn apart fresh handsOn again W args v W') :
    ReturnsInHanded a C os f .any (s.pre6 enc C.prog fn conds apart) ((s.at F).post enc C.prog fn apart fresh handsOn again) := by
  refine returnsInHanded_of_calls own started noInit witness ?_
  intro w tape i _ _ _ hok hpre hholds
  obtain ⟨_, _, _, fn', hfn', _, _, _, _, hval⟩ := hok
  have e : fn' = fn := Option.some.inj (hfn'.symm.trans hfn)
  subst e
  have hz := hpre.2
  obtain ⟨ds, gs, before, hw, hc, hkk⟩ := (OpenSpec.pre_some hk conds apart _ _).1 hpre.1
  have hw' := DataW.Whole.of_heap (w' := w.forCall tape i) (by rfl) hw
  refine (contract (w.forCall tape i) w.heap.size i.args ds gs before hval hw' hkk (hz.weights hw)).mono fun e W' ⟨v, he, hp⟩ => ?_
  subst he
  exact ChangeSpec.post_blind hp
end Go.Proofs.YtmefagflnhkbdaaGreat.Ku

/-
  A range over a function whose parts lie in memory: what the iterator hands on is known in the world in which it is handed on. For any layer; nothing of a program is in it.
-/
namespace Go.Proofs.YtmefagflnhkbdaaGreat.Kr
set_option linter.unusedSimpArgs false
set_option linter.unusedVariables false
open Go Go.RowKit Ck Kw

/-- The loop's own two blocks, the first one at D. -/
def Bk (D k : Nat) : Prop := k = D ∨ k = D + 1

/-- What an iterator owes that hands on the parts bs, one behind the other: R says what its values are, all made since it was called; a round writes to blocks of S alone. -/
def SeqR {β : Type} (F : Fence) (n : Nat) (P : Program) (g : Nat) (lb : Array Value) (R : Nat → β → Array Value → World → Prop) (S : Nat → Prop) (bs : List β) (w : World) : Prop :=
  ∀ (l : Nat) (J Jx : Nat → World → Prop) (W : World), Below w.heap.size w W → w.heap.size + 2 ≤ W.heap.size → (∀ k A B, J k A → Below A.heap.size A B → J k B) → (∀ k A B, Jx k A → Below A.heap.size A B → Jx k B) →
    (∀ (k : Nat) (h : k < bs.length) (args : Array Value) (W1 : World), J k W1 → Ch S W W1 → R W.heap.size bs[k] args W1 → YieldAt F (n - 1) P l args W1 fun e W' =>
      (e = .returned (.bool true) ∧ J (k + 1) W' ∧ Ch S W1 W') ∨ (e = .returned (.bool false) ∧ Jx (k + 1) W' ∧ Ch S W1 W')) →
    J 0 W →
    CallsIn F n P g (#[.func (.yield l) #[] #[]] ++ lb) W fun e W' => (∃ v, e = .returned v) ∧ Ch S W W' ∧ (J bs.length W' ∨ ∃ k, k ≤ bs.length ∧ Jx k W')

/-- What a round's body owes. -/
def PostR (D : Nat) (S : Nat → Prop) (I : Nat → World → Prop) (Ix : Code → Nat → World → Prop) (k : Nat) (W : World) : Exit → Act → World → Prop
  | .normal, _, W' => Ch (fun j => S j ∧ ¬ Bk D j) W W' ∧ I k W'
  | .ret, _, W' => Ch (fun j => S j ∧ ¬ Bk D j) W W' ∧ Ix .ret k W'
  | .exit id, _, W' => Ch (fun j => S j ∧ ¬ Bk D j) W W' ∧ Ix (.exit id) k W'
  | .goto t, _, W' => Ch (fun j => S j ∧ ¬ Bk D j) W W' ∧ Ix (.goto t) k W'
  | .panic _, _, _ => False
  | .outgrown, _, _ => False

theorem putObj_size (W : World) (l : Nat) (o : Obj) : (W.putObj l o).heap.size = W.heap.size := by simp [World.putObj]
theorem ch_putObj (W : World) (l : Nat) (o : Obj) : Ch (fun k => k = l) W (W.putObj l o) :=
  Ch.of_grown (grownBy_putObj' W l o) (fun g e _ => by injection e with e; exact e.symm)

section
variable {F : Fence} {n : Nat} {P : Program}
theorem wpIn_rangeR {β : Type} {g : Operand} {ps : Array Tmp} {assign body : Code} {Q : Exit → Act → World → Prop} {a : Act} {w : World}
    (hro : F.round = none) (h1 : 1 ≤ n) {gf : Nat} {lb : Array Value} (hg : a.eval g = .func (.func gf) #[] lb) (hFg : F.fn gf) (eg : ∀ args w, (callFunc gf args).run P w = .ok (.enter gf args) w)
    {R : Nat → β → Array Value → World → Prop} {S : Nat → Prop} {bs : List β} (hseq : SeqR F (n - 1) P gf lb R S bs w) (hS : ∀ k, w.heap.size ≤ k → S k)
    (hps : ∀ B b args W, R B b args W → args.size = ps.size) (hR : ∀ b args W W', R (w.heap.size + 2) b args W → Ch (Bk w.heap.size) W W' → R (w.heap.size + 2) b args W')
    (I : Nat → World → Prop) (Ix : Code → Nat → World → Prop)
    (hI : ∀ k W W', I k W → w.heap.size ≤ W.heap.size → Ch (Bk w.heap.size) W W' → I k W') (hIx : ∀ c k W W', Ix c k W → w.heap.size ≤ W.heap.size → Ch (Bk w.heap.size) W W' → Ix c k W') (h0 : I 0 w) (a₁ : Array Value → Act)
    (hassign : ∀ (l : Nat) (args : Array Value) (W : World) (K : Act → World → Prop), args.size = ps.size → K (a₁ args) W →
      assign.wpIn (F.inRound l) (n - 1 - 1) P (Exit.then K (fun _ _ _ => False)) { tmps := (ps.zip args).foldl (fun t (p, v) => t.setIfInBounds p v) a.tmps, defers := [] } W)
    (hbody : ∀ (l k : Nat) (h : k < bs.length) (args : Array Value) (W : World), w.heap.size + 2 ≤ W.heap.size → Ch S w W → I k W → R (w.heap.size + 2) bs[k] args W → body.wpIn (F.inRound l) (n - 1 - 1) P (PostR w.heap.size S I Ix (k + 1) W) (a₁ args) W)
    (hdone : ∀ (W : World), Ch S w W → I bs.length W → W.heap[w.heap.size]? = some (.deferred (some [])) → Q .normal { a with defers := { target := .collected w.heap.size, args := #[] } :: a.defers } W)
    (hstop : ∀ (c : Code) (k : Nat) (W : World), k ≤ bs.length → Ch S w W → Ix c k W → W.heap[w.heap.size]? = some (.deferred (some [])) → c.wpIn F n P Q { a with defers := { target := .collected w.heap.size, args := #[] } :: a.defers } W) :
    (Code.rangeFunc g ps assign body).wpIn F n P Q a w := by
  refine wpIn_rangeFunc ?_
  intro fn hfn
  rw [hro]
  obtain ⟨D, hD⟩ : ∃ D, D = w.heap.size := ⟨_, rfl⟩
  obtain ⟨rec, hrec⟩ : ∃ rec : LoopState → Option Code → Loop, rec = fun st pe => { state := st, pending := pe, fn, tmps := a.tmps, params := ps, assign, body, defers := w.heap.size } := ⟨_, rfl⟩
  obtain ⟨W1, hW1⟩ : ∃ W1, (w.alloc (.deferred (some []))).alloc (.loop (rec .ready none)) = W1 := ⟨_, rfl⟩
  have hsz1 : W1.heap.size = D + 2 := by rw [← hW1, hD]; simp
  have hb1 : Below w.heap.size w W1 := by rw [← hW1]; exact ((Below.refl _ w).alloc (Nat.le_refl _) _).alloc (by simp) _
  have hL1 : W1.heap[D + 1]? = some (.loop (rec .ready none)) := by
    have := World.alloc_heap_new (w.alloc (.deferred (some []))) (.loop (rec .ready none))
    rw [World.size_alloc, hW1, ← hD] at this
    exact this
  have hK1 : W1.heap[D]? = some (.deferred (some [])) := by
    rw [← hW1, hD]; exact (Below.heap_alloc _ _ _ (by simp)).trans (World.alloc_heap_new w _)
  have hI1 : I 0 W1 := hI 0 w W1 h0 (Nat.le_refl _) (Ch.of_below (S := Bk w.heap.size) hb1 (Nat.le_refl _))
  have hpo : ∀ (W : World) (o : Obj), Ch (Bk w.heap.size) W (W.putObj (D + 1) o) := fun W o => (ch_putObj W (D + 1) o).mono (fun k _ e => .inr (by rw [e, hD]))
  have hbk : ∀ k, Bk w.heap.size k → S k := fun k h => hS k (by rcases h with h | h <;> omega)
  refine ⟨D + 1, [{ target := .collected D, args := #[] }], W1, { target := .fn (.func gf) lb, args := #[.func (.yield (D + 1)) #[] #[]] }, W1, gf, #[.func (.yield (D + 1)) #[] #[]] ++ lb, W1, ?_, ?_, ?_, ?_, fun _ => h1, ?_⟩
  · rw [← hW1, hrec, hD]; exact run_enterLoop_outer _ _ _ _ _
  · simp only [resolve, hg]
    simp [go_sem]
  · intro f' hf'
    simp [Target.leads] at hf'
    subst hf'
    exact hFg
  · simp [invoke, go_sem, eg]
  · have keep : ∀ {A B : World} {j : Nat} {o : Obj}, A.heap[j]? = some o → Below A.heap.size A B → B.heap[j]? = some o := fun ho hb => (hb.block _ (Array.getElem?_eq_some_iff.1 ho).1).trans ho
    have bch : ∀ {A B : World}, Below A.heap.size A B → Ch (Bk w.heap.size) A B := fun hb => Ch.of_below hb (Nat.le_refl _)
    refine (hseq (D + 1)
      (fun k W => I k W ∧ Ch S w W ∧ W.heap[D + 1]? = some (.loop (rec .ready none)) ∧ W.heap[D]? = some (.deferred (some [])))
      (fun k W => ∃ c, Ix c k W ∧ Ch S w W ∧ W.heap[D + 1]? = some (.loop (rec .done (some c))) ∧ W.heap[D]? = some (.deferred (some [])))
      W1 hb1 (by omega)
      (fun k A B hs hb => ⟨hI k A B hs.1 hs.2.1.size (bch hb), hs.2.1.trans (bch hb) (fun j _ h => hbk j h), keep hs.2.2.1 hb, keep hs.2.2.2 hb⟩)
      (fun k A B hs hb => by
        obtain ⟨c, h1, h2, h3, h4⟩ := hs
        exact ⟨c, hIx c k A B h1 h2.size (bch hb), h2.trans (bch hb) (fun j _ h => hbk j h), keep h3 hb, keep h4 hb⟩)
      ?_ ⟨hI1, Ch.of_below hb1 (Nat.le_refl _), hL1, hK1⟩).mono ?_
    · -- a round
      rintro k hk args W ⟨hi, hc, hl, hd⟩ hc1 hr
      rw [hsz1, hD] at hr
      have hsz : D + 2 ≤ W.heap.size := by have := hc1.size; omega
      have hy := run_yield (P := P) (args := args) hl (by rw [hrec]; exact hps _ _ _ _ hr)
      rw [hrec] at hy
      refine ⟨fn, _, assign, body, hy, roundIn_of_wpIn hfn (hassign (D + 1) args W _ (hps _ _ _ _ hr) ?_)⟩
      refine ⟨_, run_beginRound hl (by rw [hrec]), ?_⟩
      have hpo1 := hpo W (.loop { rec .ready none with state := .busy })
      have hl2 : (W.putObj (D + 1) (.loop { rec .ready none with state := .busy })).heap[D + 1]? = some (.loop { rec .ready none with state := .busy }) := World.putObj_heap_same (by omega)
      have hd2 : (W.putObj (D + 1) (.loop { rec .ready none with state := .busy })).heap[D]? = some (.deferred (some [])) := (World.putObj_heap_other (by omega)).trans hd
      refine wpIn_mono (hbody (D + 1) k hk args _ (by rw [putObj_size]; omega) (hc.trans hpo1 (fun j _ h => hbk j h)) (hI k _ _ hi hc.size hpo1) (hR _ _ _ _ hr hpo1)) ?_
      -- behind the round
      have fin : ∀ (jump : Option Code) (W3 : World), Ch (fun j => S j ∧ ¬ Bk w.heap.size j) (W.putObj (D + 1) (.loop { rec .ready none with state := .busy })) W3 →
          (Instr.endRound (D + 1) jump).run P W3 = .ok (.bool jump.isNone) (W3.putObj (D + 1) (.loop (rec (if jump.isNone then .ready else .done) jump))) ∧
          (W3.putObj (D + 1) (.loop (rec (if jump.isNone then .ready else .done) jump))).heap[D + 1]? = some (.loop (rec (if jump.isNone then .ready else .done) jump)) ∧
          (W3.putObj (D + 1) (.loop (rec (if jump.isNone then .ready else .done) jump))).heap[D]? = some (.deferred (some [])) ∧
          Ch S W (W3.putObj (D + 1) (.loop (rec (if jump.isNone then .ready else .done) jump))) := fun jump W3 c3 => by
        have e1 := c3.block (D + 1) (by have := hpo1.size; omega) (fun h => h.2 (.inr (by rw [hD])))
        have e0 := c3.block D (by have := hpo1.size; omega) (fun h => h.2 (.inl hD))
        have hl3 := e1.trans hl2
        have hend := run_endRound (P := P) jump hl3
        have hlt := (Array.getElem?_eq_some_iff.1 hl3).1
        rw [hrec] at hend ⊢
        refine ⟨hend, World.putObj_heap_same hlt, (World.putObj_heap_other (by omega)).trans (e0.trans hd2), ?_⟩
        exact ((hpo1.mono (fun j _ h => hbk j h)).trans (c3.mono (fun j _ h => h.1)) (fun j _ h => h)).trans (hpo W3 _) (fun j _ h => hbk j h)
      rintro e a3 W3 hp
      cases e with
      | normal =>
        obtain ⟨c3, hi3⟩ := hp
        obtain ⟨hr3, hl4, hd4, c4⟩ := fin none W3 c3
        exact ⟨_, _, hr3, .inl ⟨rfl, ⟨hI _ _ _ hi3 (by have h1 := c3.size; rw [putObj_size] at h1; omega) (hpo W3 _), hc.trans c4 (fun _ _ h => h), hl4, hd4⟩, c4⟩⟩
      | ret =>
        obtain ⟨c3, hi3⟩ := hp
        obtain ⟨hr3, hl4, hd4, c4⟩ := fin (some .ret) W3 c3
        exact ⟨_, _, hr3, .inr ⟨rfl, ⟨.ret, hIx _ _ _ _ hi3 (by have h1 := c3.size; rw [putObj_size] at h1; omega) (hpo W3 _), hc.trans c4 (fun _ _ h => h), hl4, hd4⟩, c4⟩⟩
      | exit id =>
        obtain ⟨c3, hi3⟩ := hp
        obtain ⟨hr3, hl4, hd4, c4⟩ := fin (some (.exit id)) W3 c3
        exact ⟨_, _, hr3, .inr ⟨rfl, ⟨.exit id, hIx _ _ _ _ hi3 (by have h1 := c3.size; rw [putObj_size] at h1; omega) (hpo W3 _), hc.trans c4 (fun _ _ h => h), hl4, hd4⟩, c4⟩⟩
      | goto t =>
        obtain ⟨c3, hi3⟩ := hp
        obtain ⟨hr3, hl4, hd4, c4⟩ := fin (some (.goto t)) W3 c3
        exact ⟨_, _, hr3, .inr ⟨rfl, ⟨.goto t, hIx _ _ _ _ hi3 (by have h1 := c3.size; rw [putObj_size] at h1; omega) (hpo W3 _), hc.trans c4 (fun _ _ h => h), hl4, hd4⟩, c4⟩⟩
      | panic ch => exact hp.elim
      | outgrown => exact hp.elim
    · -- behind the iterator
      rintro e W2 ⟨⟨v, rfl⟩, -, (⟨hi, hc, hl, hd⟩ | ⟨k, hk, c, hi, hc, hl, hd⟩)⟩
      · refine ⟨none, _, by have := run_endLoop (P := P) hl (by rw [hrec]; simp); rw [hrec] at this; exact this, ?_⟩
        have hp := hpo W2 (.loop { rec .ready none with state := .exhausted })
        rw [hrec] at hp
        have := hdone _ (hc.trans hp (fun j _ h => hbk j h)) (hI _ _ _ hi hc.size hp) ((World.putObj_heap_other (by omega)).trans (by rw [← hD]; exact hd))
        subst hD
        exact this
      · refine ⟨some c, _, by have := run_endLoop (P := P) hl (by rw [hrec]; simp); rw [hrec] at this; exact this, ?_⟩
        have hp := hpo W2 (.loop { rec .done (some c) with state := .exhausted })
        rw [hrec] at hp
        have := hstop c k _ hk (hc.trans hp (fun j _ h => hbk j h)) (hIx _ _ _ _ hi hc.size hp) ((World.putObj_heap_other (by omega)).trans (by rw [← hD]; exact hd))
        subst hD
        exact this

end

end Go.Proofs.YtmefagflnhkbdaaGreat.Kr

/-
  A range over a function that has blocks of its own, made as it begins: as Kr's, but what a round keeps must bear a change of those blocks. For any layer; nothing of a program is in it.
-/
namespace Go.Proofs.YtmefagflnhkbdaaGreat.Ks
set_option linter.unusedSimpArgs false
set_option linter.unusedVariables false
open Go Go.RowKit Ck Kw Kr

/-- The loop's own two blocks, the first one at D, and the m blocks of the iterator behind them. -/
def Bm (D m k : Nat) : Prop := D ≤ k ∧ k < D + 2 + m
/-- What an iterator owes that hands on the parts bs, one behind the other, and makes m blocks of its own first, which no round may write. -/
def SeqM {β : Type} (F : Fence) (n : Nat) (P : Program) (g : Nat) (lb : Array Value) (m : Nat) (R : Nat → β → Array Value → World → Prop) (S : Nat → Prop) (bs : List β) (w : World) : Prop :=
  ∀ (l : Nat) (J Jx : Nat → World → Prop) (W : World), Below w.heap.size w W → w.heap.size + 2 ≤ W.heap.size → (∀ q, W.heap.size ≤ q → q < W.heap.size + m → ¬ S q) →
    (∀ k A B, J k A → Ch (fun q => W.heap.size ≤ q ∧ q < W.heap.size + m) A B → J k B) → (∀ k A B, Jx k A → Ch (fun q => W.heap.size ≤ q ∧ q < W.heap.size + m) A B → Jx k B) →
    (∀ (k : Nat) (h : k < bs.length) (args : Array Value) (W1 : World), J k W1 → Ch S W W1 → W.heap.size + m ≤ W1.heap.size → R (W.heap.size + m) bs[k] args W1 → YieldAt F (n - 1) P l args W1 fun e W' =>
      (e = .returned (.bool true) ∧ J (k + 1) W' ∧ Ch S W1 W') ∨ (e = .returned (.bool false) ∧ Jx (k + 1) W' ∧ Ch S W1 W')) →
    J 0 W →
    CallsIn F n P g (#[.func (.yield l) #[] #[]] ++ lb) W fun e W' => (∃ v, e = .returned v) ∧ Ch S W W' ∧ (J bs.length W' ∨ ∃ k, k ≤ bs.length ∧ Jx k W')

section
variable {F : Fence} {n : Nat} {P : Program}
theorem wpIn_rangeM {β : Type} {g : Operand} {ps : Array Tmp} {assign body : Code} {Q : Exit → Act → World → Prop} {a : Act} {w : World}
    (hro : F.round = none) (h1 : 1 ≤ n) {gf : Nat} {lb : Array Value} (hg : a.eval g = .func (.func gf) #[] lb) (hFg : F.fn gf) (eg : ∀ args w, (callFunc gf args).run P w = .ok (.enter gf args) w)
    {R : Nat → β → Array Value → World → Prop} {S : Nat → Prop} {bs : List β} {m : Nat} (hseq : SeqM F (n - 1) P gf lb m R S bs w) (hS : ∀ k, w.heap.size ≤ k → (k < w.heap.size + 2 ∨ w.heap.size + 2 + m ≤ k) → S k) (hno : ∀ k, w.heap.size + 2 ≤ k → k < w.heap.size + 2 + m → ¬ S k)
    (hps : ∀ B b args W, R B b args W → args.size = ps.size) (hR : ∀ b args W W', R (w.heap.size + 2 + m) b args W → Ch (Bk w.heap.size) W W' → R (w.heap.size + 2 + m) b args W')
    (I : Nat → World → Prop) (Ix : Code → Nat → World → Prop)
    (hI : ∀ k W W', I k W → w.heap.size ≤ W.heap.size → Ch (Bm w.heap.size m) W W' → I k W') (hIx : ∀ c k W W', Ix c k W → w.heap.size ≤ W.heap.size → Ch (Bm w.heap.size m) W W' → Ix c k W') (h0 : I 0 w) (a₁ : Array Value → Act)
    (hassign : ∀ (l : Nat) (args : Array Value) (W : World) (K : Act → World → Prop), args.size = ps.size → K (a₁ args) W →
      assign.wpIn (F.inRound l) (n - 1 - 1) P (Exit.then K (fun _ _ _ => False)) { tmps := (ps.zip args).foldl (fun t (p, v) => t.setIfInBounds p v) a.tmps, defers := [] } W)
    (hbody : ∀ (l k : Nat) (h : k < bs.length) (args : Array Value) (W : World), w.heap.size + 2 + m ≤ W.heap.size → Ch S w W → I k W → R (w.heap.size + 2 + m) bs[k] args W → body.wpIn (F.inRound l) (n - 1 - 1) P (PostR w.heap.size S I Ix (k + 1) W) (a₁ args) W)
    (hdone : ∀ (W : World), Ch S w W → I bs.length W → W.heap[w.heap.size]? = some (.deferred (some [])) → Q .normal { a with defers := { target := .collected w.heap.size, args := #[] } :: a.defers } W)
    (hstop : ∀ (c : Code) (k : Nat) (W : World), k ≤ bs.length → Ch S w W → Ix c k W → W.heap[w.heap.size]? = some (.deferred (some [])) → c.wpIn F n P Q { a with defers := { target := .collected w.heap.size, args := #[] } :: a.defers } W) :
    (Code.rangeFunc g ps assign body).wpIn F n P Q a w := by
  refine wpIn_rangeFunc ?_
  intro fn hfn
  rw [hro]
  obtain ⟨D, hD⟩ : ∃ D, D = w.heap.size := ⟨_, rfl⟩
  obtain ⟨rec, hrec⟩ : ∃ rec : LoopState → Option Code → Loop, rec = fun st pe => { state := st, pending := pe, fn, tmps := a.tmps, params := ps, assign, body, defers := w.heap.size } := ⟨_, rfl⟩
  obtain ⟨W1, hW1⟩ : ∃ W1, (w.alloc (.deferred (some []))).alloc (.loop (rec .ready none)) = W1 := ⟨_, rfl⟩
  have hsz1 : W1.heap.size = D + 2 := by rw [← hW1, hD]; simp
  have hb1 : Below w.heap.size w W1 := by rw [← hW1]; exact ((Below.refl _ w).alloc (Nat.le_refl _) _).alloc (by simp) _
  have hL1 : W1.heap[D + 1]? = some (.loop (rec .ready none)) := by
    have := World.alloc_heap_new (w.alloc (.deferred (some []))) (.loop (rec .ready none))
    rw [World.size_alloc, hW1, ← hD] at this
    exact this
  have hK1 : W1.heap[D]? = some (.deferred (some [])) := by
    rw [← hW1, hD]; exact (Below.heap_alloc _ _ _ (by simp)).trans (World.alloc_heap_new w _)
  have hI1 : I 0 W1 := hI 0 w W1 h0 (Nat.le_refl _) (Ch.of_below (S := Bm w.heap.size m) hb1 (Nat.le_refl _))
  have hpo : ∀ (W : World) (o : Obj), Ch (Bk w.heap.size) W (W.putObj (D + 1) o) := fun W o => (ch_putObj W (D + 1) o).mono (fun k _ e => .inr (by rw [e, hD]))
  have hbk : ∀ k, Bk w.heap.size k → S k := fun k h => hS k (by rcases h with h | h <;> omega) (by rcases h with h | h <;> omega)
  have hbm : ∀ {A B : World}, Ch (Bk w.heap.size) A B → Ch (Bm w.heap.size m) A B := fun c => c.mono (fun k _ h => by rcases h with h | h <;> (show w.heap.size ≤ k ∧ k < w.heap.size + 2 + m; omega))
  refine ⟨D + 1, [{ target := .collected D, args := #[] }], W1, { target := .fn (.func gf) lb, args := #[.func (.yield (D + 1)) #[] #[]] }, W1, gf, #[.func (.yield (D + 1)) #[] #[]] ++ lb, W1, ?_, ?_, ?_, ?_, fun _ => h1, ?_⟩
  · rw [← hW1, hrec, hD]; exact run_enterLoop_outer _ _ _ _ _
  · simp only [resolve, hg]
    simp [go_sem]
  · intro f' hf'
    simp [Target.leads] at hf'
    subst hf'
    exact hFg
  · simp [invoke, go_sem, eg]
  · have keep : ∀ {A B : World} {j : Nat} {o : Obj}, A.heap[j]? = some o → Ch (fun q => W1.heap.size ≤ q ∧ q < W1.heap.size + m) A B → j < D + 2 → B.heap[j]? = some o := fun ho hb hj => (hb.block _ (Array.getElem?_eq_some_iff.1 ho).1 (fun h => by omega)).trans ho
    have bch : ∀ {A B : World}, Ch (fun q => W1.heap.size ≤ q ∧ q < W1.heap.size + m) A B → Ch (Bm w.heap.size m) A B := fun hb => hb.mono (fun k _ h => by show w.heap.size ≤ k ∧ k < w.heap.size + 2 + m; omega)
    refine (hseq (D + 1)
      (fun k W => I k W ∧ Ch S w W ∧ W.heap[D + 1]? = some (.loop (rec .ready none)) ∧ W.heap[D]? = some (.deferred (some [])))
      (fun k W => ∃ c, Ix c k W ∧ Ch S w W ∧ W.heap[D + 1]? = some (.loop (rec .done (some c))) ∧ W.heap[D]? = some (.deferred (some [])))
      W1 hb1 (by omega) (fun q h1 h2 => hno q (by omega) (by omega))
      (fun k A B hs hb => ⟨hI k A B hs.1 hs.2.1.size (bch hb), hs.2.1.trans hb (fun j hj h => by omega), keep hs.2.2.1 hb (by omega), keep hs.2.2.2 hb (by omega)⟩)
      (fun k A B hs hb => by
        obtain ⟨c, h1, h2, h3, h4⟩ := hs
        exact ⟨c, hIx c k A B h1 h2.size (bch hb), h2.trans hb (fun j hj h => by omega), keep h3 hb (by omega), keep h4 hb (by omega)⟩)
      ?_ ⟨hI1, Ch.of_below hb1 (Nat.le_refl _), hL1, hK1⟩).mono ?_
    · -- a round
      rintro k hk args W ⟨hi, hc, hl, hd⟩ hc1 hsm hr
      rw [hsz1, hD] at hr
      have hsz : D + 2 ≤ W.heap.size := by have := hc1.size; omega
      have hy := run_yield (P := P) (args := args) hl (by rw [hrec]; exact hps _ _ _ _ hr)
      rw [hrec] at hy
      refine ⟨fn, _, assign, body, hy, roundIn_of_wpIn hfn (hassign (D + 1) args W _ (hps _ _ _ _ hr) ?_)⟩
      refine ⟨_, run_beginRound hl (by rw [hrec]), ?_⟩
      have hpo1 := hpo W (.loop { rec .ready none with state := .busy })
      have hl2 : (W.putObj (D + 1) (.loop { rec .ready none with state := .busy })).heap[D + 1]? = some (.loop { rec .ready none with state := .busy }) := World.putObj_heap_same (by omega)
      have hd2 : (W.putObj (D + 1) (.loop { rec .ready none with state := .busy })).heap[D]? = some (.deferred (some [])) := (World.putObj_heap_other (by omega)).trans hd
      refine wpIn_mono (hbody (D + 1) k hk args _ (by rw [putObj_size]; omega) (hc.trans hpo1 (fun j _ h => hbk j h)) (hI k _ _ hi hc.size (hbm hpo1)) (hR _ _ _ _ hr hpo1)) ?_
      -- behind the round
      have fin : ∀ (jump : Option Code) (W3 : World), Ch (fun j => S j ∧ ¬ Bk w.heap.size j) (W.putObj (D + 1) (.loop { rec .ready none with state := .busy })) W3 →
          (Instr.endRound (D + 1) jump).run P W3 = .ok (.bool jump.isNone) (W3.putObj (D + 1) (.loop (rec (if jump.isNone then .ready else .done) jump))) ∧
          (W3.putObj (D + 1) (.loop (rec (if jump.isNone then .ready else .done) jump))).heap[D + 1]? = some (.loop (rec (if jump.isNone then .ready else .done) jump)) ∧
          (W3.putObj (D + 1) (.loop (rec (if jump.isNone then .ready else .done) jump))).heap[D]? = some (.deferred (some [])) ∧
          Ch S W (W3.putObj (D + 1) (.loop (rec (if jump.isNone then .ready else .done) jump))) := fun jump W3 c3 => by
        have e1 := c3.block (D + 1) (by have := hpo1.size; omega) (fun h => h.2 (.inr (by rw [hD])))
        have e0 := c3.block D (by have := hpo1.size; omega) (fun h => h.2 (.inl hD))
        have hl3 := e1.trans hl2
        have hend := run_endRound (P := P) jump hl3
        have hlt := (Array.getElem?_eq_some_iff.1 hl3).1
        rw [hrec] at hend ⊢
        refine ⟨hend, World.putObj_heap_same hlt, (World.putObj_heap_other (by omega)).trans (e0.trans hd2), ?_⟩
        exact ((hpo1.mono (fun j _ h => hbk j h)).trans (c3.mono (fun j _ h => h.1)) (fun j _ h => h)).trans (hpo W3 _) (fun j _ h => hbk j h)
      rintro e a3 W3 hp
      cases e with
      | normal =>
        obtain ⟨c3, hi3⟩ := hp
        obtain ⟨hr3, hl4, hd4, c4⟩ := fin none W3 c3
        exact ⟨_, _, hr3, .inl ⟨rfl, ⟨hI _ _ _ hi3 (by have h1 := c3.size; rw [putObj_size] at h1; omega) (hbm (hpo W3 _)), hc.trans c4 (fun _ _ h => h), hl4, hd4⟩, c4⟩⟩
      | ret =>
        obtain ⟨c3, hi3⟩ := hp
        obtain ⟨hr3, hl4, hd4, c4⟩ := fin (some .ret) W3 c3
        exact ⟨_, _, hr3, .inr ⟨rfl, ⟨.ret, hIx _ _ _ _ hi3 (by have h1 := c3.size; rw [putObj_size] at h1; omega) (hbm (hpo W3 _)), hc.trans c4 (fun _ _ h => h), hl4, hd4⟩, c4⟩⟩
      | exit id =>
        obtain ⟨c3, hi3⟩ := hp
        obtain ⟨hr3, hl4, hd4, c4⟩ := fin (some (.exit id)) W3 c3
        exact ⟨_, _, hr3, .inr ⟨rfl, ⟨.exit id, hIx _ _ _ _ hi3 (by have h1 := c3.size; rw [putObj_size] at h1; omega) (hbm (hpo W3 _)), hc.trans c4 (fun _ _ h => h), hl4, hd4⟩, c4⟩⟩
      | goto t =>
        obtain ⟨c3, hi3⟩ := hp
        obtain ⟨hr3, hl4, hd4, c4⟩ := fin (some (.goto t)) W3 c3
        exact ⟨_, _, hr3, .inr ⟨rfl, ⟨.goto t, hIx _ _ _ _ hi3 (by have h1 := c3.size; rw [putObj_size] at h1; omega) (hbm (hpo W3 _)), hc.trans c4 (fun _ _ h => h), hl4, hd4⟩, c4⟩⟩
      | panic ch => exact hp.elim
      | outgrown => exact hp.elim
    · -- behind the iterator
      rintro e W2 ⟨⟨v, rfl⟩, -, (⟨hi, hc, hl, hd⟩ | ⟨k, hk, c, hi, hc, hl, hd⟩)⟩
      · refine ⟨none, _, by have := run_endLoop (P := P) hl (by rw [hrec]; simp); rw [hrec] at this; exact this, ?_⟩
        have hp := hpo W2 (.loop { rec .ready none with state := .exhausted })
        rw [hrec] at hp
        have := hdone _ (hc.trans hp (fun j _ h => hbk j h)) (hI _ _ _ hi hc.size (hbm hp)) ((World.putObj_heap_other (by omega)).trans (by rw [← hD]; exact hd))
        subst hD
        exact this
      · refine ⟨some c, _, by have := run_endLoop (P := P) hl (by rw [hrec]; simp); rw [hrec] at this; exact this, ?_⟩
        have hp := hpo W2 (.loop { rec .done (some c) with state := .exhausted })
        rw [hrec] at hp
        have := hstop c k _ hk (hc.trans hp (fun j _ h => hbk j h)) (hIx _ _ _ _ hi hc.size (hbm hp)) ((World.putObj_heap_other (by omega)).trans (by rw [← hD]; exact hd))
        subst hD
        exact this

end

end Go.Proofs.YtmefagflnhkbdaaGreat.Ks
