import Derived.RangeFuncNested
import Derived.RangeFuncBound
import Derived.RangeFuncCalls
import Derived.RangeFuncLeaves
import Derived.RangeFuncWrites
import Derived.Sort.MapsRangeIn
import Derived.WalkKit
import Derived.OwnWalkIn
import Derived.TacticsInMore
import Derived.RegionIn
import Derived.LoopNIn
import Derived.LoopIn
import Derived.Maps.RangeWalk
import Derived.Deep.RegionHeld3
import Derived.Test.YtmhmnkpaijoaaaaGreatS08
namespace Go.Proofs.YtmhmnkpaijoaaaaGreat.Kv
set_option linter.unusedSimpArgs false
set_option linter.unusedVariables false
open Go Go.RowKit Ck Kw Kr
def Bm (D m k : Nat) : Prop := D <= k /\ k < D + 2 + m
def SeqL {β : Type} (F : Fence) (n : Nat) (P : Program) (g : Nat) (lb : Array Value) (m N : Nat) (R : Nat -> β -> Array Value -> World -> Prop) (E : List β -> Prop) (S : Nat -> Prop) (w : World) : Prop :=
  ∀ (l : Nat) (J Jx : List β -> World -> Prop) (W : World), Below w.heap.size w W -> w.heap.size + 2 <= W.heap.size -> (∀ q, W.heap.size <= q -> q < W.heap.size + m -> ¬ S q) ->
    (∀ k A B, J k A -> Ch (fun q => W.heap.size <= q /\ q < W.heap.size + m) A B -> J k B) -> (∀ k A B, Jx k A -> Ch (fun q => W.heap.size <= q /\ q < W.heap.size + m) A B -> Jx k B) ->
    (∀ (k : List β) (x : β) (args : Array Value) (W0 W1 : World), J k W0 -> k.length < N -> Ch S W W0 -> W.heap.size + m <= W0.heap.size -> Ch (fun q => W.heap.size <= q /\ q < W.heap.size + m) W0 W1 -> R W0.heap.size x args W1 -> YieldAt F (n - 1) P l args W1 fun e W' =>
      (e = .returned (.bool true) /\ J (k ++ [x]) W' /\ Ch S W1 W') \/ (e = .returned (.bool false) /\ Jx (k ++ [x]) W' /\ Ch S W1 W')) ->
    J [] W ->
    CallsIn F n P g (#[.func (.yield l) #[] #[]] ++ lb) W fun e W' => (∃ v, e = .returned v) /\ Ch S W W' /\ ((∃ k, E k /\ J k W') \/ ∃ k, Jx k W')
def PostL {ι : Type} (D : Nat) (S : Nat -> Prop) (I : ι -> World -> Prop) (Ix : Code -> ι -> World -> Prop) (k : ι) (W : World) : Exit -> Act -> World -> Prop
  | .normal, _, W' => Ch (fun j => S j /\ ¬ Bk D j) W W' /\ I k W'
  | .ret, _, W' => Ch (fun j => S j /\ ¬ Bk D j) W W' /\ Ix .ret k W'
  | .exit id, _, W' => Ch (fun j => S j /\ ¬ Bk D j) W W' /\ Ix (.exit id) k W'
  | .goto t, _, W' => Ch (fun j => S j /\ ¬ Bk D j) W W' /\ Ix (.goto t) k W'
  | .panic _, _, _ => False
  | .outgrown, _, _ => False
theorem wide_some : Fence.wide.depth.isSome = true -> False := fun h => by cases h
section
variable {F : Fence} {n : Nat} {P : Program}
theorem wpIn_rangeL {β : Type} {g : Operand} {ps : Array Tmp} {assign body : Code} {Q : Exit -> Act -> World -> Prop} {a : Act} {w : World}
    (hro : F.round = none) (h1 : 1 <= n) {gf : Nat} {lb : Array Value} (hg : a.eval g = .func (.func gf) #[] lb) (hFg : F.fn gf) (eg : ∀ args w, (callFunc gf args).run P w = .ok (.enter gf args) w)
    {R : Nat -> β -> Array Value -> World -> Prop} {E : List β -> Prop} {S : Nat -> Prop} {m N : Nat} (hseq : SeqL F (n - 1) P gf lb m N R E S w) (hS : ∀ k, w.heap.size <= k -> (k < w.heap.size + 2 \/ w.heap.size + 2 + m <= k) -> S k) (hno : ∀ k, w.heap.size + 2 <= k -> k < w.heap.size + 2 + m -> ¬ S k)
    (hps : ∀ B b args W, R B b args W -> args.size = ps.size) (hR : ∀ B b args W W', R B b args W -> w.heap.size + 2 + m <= B -> Ch (Bk w.heap.size) W W' -> R B b args W')
    (I : List β -> World -> Prop) (Ix : Code -> List β -> World -> Prop)
    (hI : ∀ k W W', I k W -> w.heap.size <= W.heap.size -> Ch (Bm w.heap.size m) W W' -> I k W') (hIx : ∀ c k W W', Ix c k W -> w.heap.size <= W.heap.size -> Ch (Bm w.heap.size m) W W' -> Ix c k W') (h0 : I [] w) (a₁ : Array Value -> Nat -> Act) (ob : Array Value -> Obj)
    (hassign : ∀ (l B : Nat) (x : β) (args : Array Value) (W : World) (K : Act -> World -> Prop), R B x args W -> K (a₁ args W.heap.size) (W.alloc (ob args)) ->
      assign.wpIn (F.inRound l) (n - 1 - 1) P (Exit.then K (fun _ _ _ => False)) { tmps := (ps.zip args).foldl (fun t (p, v) => t.setIfInBounds p v) a.tmps, defers := [] } W)
    (hbody : ∀ (l : Nat) (k : List β) (x : β) (args : Array Value) (W0 W : World) (g : Nat), w.heap.size + 2 + m <= W0.heap.size -> k.length < N -> Ch S w W -> I k W0 -> Ch (Bm w.heap.size m) W0 W -> R W0.heap.size x args W -> W.heap[g]? = some (ob args) -> W0.heap.size <= g -> body.wpIn (F.inRound l) (n - 1 - 1) P (PostL w.heap.size S I Ix (k ++ [x]) W) (a₁ args g) W)
    (hdone : ∀ (k : List β) (W : World), E k -> Ch S w W -> I k W -> W.heap[w.heap.size]? = some (.deferred (some [])) -> Q .normal { a with defers := { target := .collected w.heap.size, args := #[] } :: a.defers } W)
    (hstop : ∀ (c : Code) (k : List β) (W : World), Ch S w W -> Ix c k W -> W.heap[w.heap.size]? = some (.deferred (some [])) -> c.wpIn F n P Q { a with defers := { target := .collected w.heap.size, args := #[] } :: a.defers } W) :
    (Code.rangeFunc g ps assign body).wpIn F n P Q a w := by
  refine wpIn_rangeFunc ?_
  intro fn hfn
  rw [hro]
  obtain ⟨D, hD⟩ : ∃ D, D = w.heap.size := ⟨_, rfl⟩
  obtain ⟨rec, hrec⟩ : ∃ rec : LoopState -> Option Code -> Loop, rec = fun st pe => { state := st, pending := pe, fn, tmps := a.tmps, params := ps, assign, body, defers := w.heap.size } := ⟨_, rfl⟩
  obtain ⟨W1, hW1⟩ : ∃ W1, (w.alloc (.deferred (some []))).alloc (.loop (rec .ready none)) = W1 := ⟨_, rfl⟩
  have hsz1 : W1.heap.size = D + 2 := by rw [<- hW1, hD]; simp
  have hb1 : Below w.heap.size w W1 := by rw [<- hW1]; exact ((Below.refl _ w).alloc (Nat.le_refl _) _).alloc (by simp) _
  have hL1 : W1.heap[D + 1]? = some (.loop (rec .ready none)) := by
    have := World.alloc_heap_new (w.alloc (.deferred (some []))) (.loop (rec .ready none))
    rw [World.size_alloc, hW1, <- hD] at this
    exact this
  have hK1 : W1.heap[D]? = some (.deferred (some [])) := by
    rw [<- hW1, hD]; exact (Below.heap_alloc _ _ _ (by simp)).trans (World.alloc_heap_new w _)
  have hI1 : I [] W1 := hI [] w W1 h0 (Nat.le_refl _) (Ch.of_below (S := Bm w.heap.size m) hb1 (Nat.le_refl _))
  have hpo : ∀ (W : World) (o : Obj), Ch (Bk w.heap.size) W (W.putObj (D + 1) o) := fun W o => (ch_putObj W (D + 1) o).mono (fun k _ e => .inr (by rw [e, hD]))
  have hbk : ∀ k, Bk w.heap.size k -> S k := fun k h => hS k (by rcases h with h | h <;> omega) (by rcases h with h | h <;> omega)
  have hbm : ∀ {A B : World}, Ch (Bk w.heap.size) A B -> Ch (Bm w.heap.size m) A B := fun c => c.mono (fun k _ h => by rcases h with h | h <;> (show w.heap.size <= k /\ k < w.heap.size + 2 + m; omega))
  refine ⟨D + 1, [{ target := .collected D, args := #[] }], W1, { target := .fn (.func gf) lb, args := #[.func (.yield (D + 1)) #[] #[]] }, W1, gf, #[.func (.yield (D + 1)) #[] #[]] ++ lb, W1, ?_, ?_, ?_, ?_, fun _ => h1, ?_⟩
  . rw [<- hW1, hrec, hD]; exact run_enterLoop_outer _ _ _ _ _
  . simp only [resolve, hg]
    simp [go_sem]
  . intro f' hf'
    simp [Target.leads] at hf'
    subst hf'
    exact hFg
  . simp [invoke, go_sem, eg]
  . have keep : ∀ {A B : World} {j : Nat} {o : Obj}, A.heap[j]? = some o -> Ch (fun q => W1.heap.size <= q /\ q < W1.heap.size + m) A B -> j < D + 2 -> B.heap[j]? = some o := fun ho hb hj => (hb.block _ (Array.getElem?_eq_some_iff.1 ho).1 (fun h => by omega)).trans ho
    have bch : ∀ {A B : World}, Ch (fun q => W1.heap.size <= q /\ q < W1.heap.size + m) A B -> Ch (Bm w.heap.size m) A B := fun hb => hb.mono (fun k _ h => by show w.heap.size <= k /\ k < w.heap.size + 2 + m; omega)
    refine (hseq (D + 1)
      (fun k W => I k W /\ Ch S w W /\ W.heap[D + 1]? = some (.loop (rec .ready none)) /\ W.heap[D]? = some (.deferred (some [])))
      (fun k W => ∃ c, Ix c k W /\ Ch S w W /\ W.heap[D + 1]? = some (.loop (rec .done (some c))) /\ W.heap[D]? = some (.deferred (some [])))
      W1 hb1 (by omega) (fun q h1 h2 => hno q (by omega) (by omega))
      (fun k A B hs hb => ⟨hI k A B hs.1 hs.2.1.size (bch hb), hs.2.1.trans hb (fun j hj h => by omega), keep hs.2.2.1 hb (by omega), keep hs.2.2.2 hb (by omega)⟩)
      (fun k A B hs hb => by
        obtain ⟨c, h1, h2, h3, h4⟩ := hs
        exact ⟨c, hIx c k A B h1 h2.size (bch hb), h2.trans hb (fun j hj h => by omega), keep h3 hb (by omega), keep h4 hb (by omega)⟩)
      ?_ ⟨hI1, Ch.of_below hb1 (Nat.le_refl _), hL1, hK1⟩).mono ?_
    . -- a round
      rintro k x args Wz Wy ⟨hi0, hc0, hl0, hd0⟩ hN hc1 hsm hcm hr
      have hiy := hI k Wz Wy hi0 hc0.size (bch hcm)
      have hly := keep hl0 hcm (by omega)
      have hdy := keep hd0 hcm (by omega)
      have hcy := hc0.trans hcm (fun j hj h => by omega)
      have hszy : D + 2 <= Wy.heap.size := by have := hc1.size; have := hcm.size; omega
      have hy := run_yield (P := P) (args := args) hly (by rw [hrec]; exact hps _ _ _ _ hr)
      rw [hrec] at hy
      refine ⟨fn, _, assign, body, hy, roundIn_of_wpIn hfn (hassign (D + 1) _ x args Wy _ hr ?_)⟩
      have hba : Below Wy.heap.size Wy (Wy.alloc (ob args)) := (Below.refl _ Wy).alloc (Nat.le_refl _) _
      have hob : (Wy.alloc (ob args)).heap[Wy.heap.size]? = some (ob args) := World.alloc_heap_new Wy (ob args)
      have hl := (hba.block _ (by omega)).trans hly
      have hd := (hba.block _ (by omega)).trans hdy
      have hca : ∀ T : Nat -> Prop, Ch T Wy (Wy.alloc (ob args)) := fun T => Ch.of_below hba (Nat.le_refl _)
      have hsa : (Wy.alloc (ob args)).heap.size = Wy.heap.size + 1 := by simp
      obtain ⟨gy, hgy⟩ : ∃ gy, gy = Wy.heap.size := ⟨_, rfl⟩
      rw [<- hgy] at hob ⊢
      generalize Wy.alloc (ob args) = W at *
      have hc : Ch S w W := hcy.trans (hca _) (fun _ _ h => h)
      have hi : I k W := hI k Wy W hiy hcy.size (hca _)
      have hcz : Ch (fun q => W1.heap.size <= q /\ q < W1.heap.size + m) Wz W := hcm.trans (hca _) (fun _ _ h => h)
      have hcS : Ch S Wy W := hca _
      refine ⟨_, run_beginRound hl (by rw [hrec]), ?_⟩
      have hpo1 := hpo W (.loop { rec .ready none with state := .busy })
      have hl2 : (W.putObj (D + 1) (.loop { rec .ready none with state := .busy })).heap[D + 1]? = some (.loop { rec .ready none with state := .busy }) := World.putObj_heap_same (by omega)
      have hd2 : (W.putObj (D + 1) (.loop { rec .ready none with state := .busy })).heap[D]? = some (.deferred (some [])) := (World.putObj_heap_other (by omega)).trans hd
      have hob2 : (W.putObj (D + 1) (.loop { rec .ready none with state := .busy })).heap[gy]? = some (ob args) := (World.putObj_heap_other (by omega)).trans hob
      have hz2 := hcm.size
      refine wpIn_mono (hbody (D + 1) k x args Wz _ gy (by omega) hN (hc.trans hpo1 (fun j _ h => hbk j h)) hi0 ((bch hcz).trans (hbm hpo1) (fun _ _ h => h)) (hR _ _ _ _ _ (hR _ _ _ _ _ hr (by omega) (hca _)) (by omega) hpo1) hob2 (by omega)) ?_
      have fin : ∀ (jump : Option Code) (W3 : World), Ch (fun j => S j /\ ¬ Bk w.heap.size j) (W.putObj (D + 1) (.loop { rec .ready none with state := .busy })) W3 ->
          (Instr.endRound (D + 1) jump).run P W3 = .ok (.bool jump.isNone) (W3.putObj (D + 1) (.loop (rec (if jump.isNone then .ready else .done) jump))) /\
          (W3.putObj (D + 1) (.loop (rec (if jump.isNone then .ready else .done) jump))).heap[D + 1]? = some (.loop (rec (if jump.isNone then .ready else .done) jump)) /\
          (W3.putObj (D + 1) (.loop (rec (if jump.isNone then .ready else .done) jump))).heap[D]? = some (.deferred (some [])) /\
          Ch S W (W3.putObj (D + 1) (.loop (rec (if jump.isNone then .ready else .done) jump))) := fun jump W3 c3 => by
        have e1 := c3.block (D + 1) (by have := hpo1.size; omega) (fun h => h.2 (.inr (by rw [hD])))
        have e0 := c3.block D (by have := hpo1.size; omega) (fun h => h.2 (.inl hD))
        have hl3 := e1.trans hl2
        have hend := run_endRound (P := P) jump hl3
        have hlt := (Array.getElem?_eq_some_iff.1 hl3).1
        rw [hrec] at hend ⊢
        refine ⟨hend, World.putObj_heap_same hlt, (World.putObj_heap_other (by omega)).trans (e0.trans hd2), ?_⟩
        exact ((hpo1.mono (fun j _ h => hbk j h)).trans (c3.mono (fun j _ h => h.1)) (fun j _ h => h)).trans (hpo W3 _) (fun j _ h => hbk j h)
      rintro e a3 W3 hp
      cases e with
      | normal =>
        obtain ⟨c3, hi3⟩ := hp
        obtain ⟨hr3, hl4, hd4, c4⟩ := fin none W3 c3
        exact ⟨_, _, hr3, .inl ⟨rfl, ⟨hI _ _ _ hi3 (by have h1 := c3.size; rw [putObj_size] at h1; omega) (hbm (hpo W3 _)), hc.trans c4 (fun _ _ h => h), hl4, hd4⟩, hcS.trans c4 (fun _ _ h => h)⟩⟩
      | ret =>
        obtain ⟨c3, hi3⟩ := hp
        obtain ⟨hr3, hl4, hd4, c4⟩ := fin (some .ret) W3 c3
        exact ⟨_, _, hr3, .inr ⟨rfl, ⟨.ret, hIx _ _ _ _ hi3 (by have h1 := c3.size; rw [putObj_size] at h1; omega) (hbm (hpo W3 _)), hc.trans c4 (fun _ _ h => h), hl4, hd4⟩, hcS.trans c4 (fun _ _ h => h)⟩⟩
      | exit id =>
        obtain ⟨c3, hi3⟩ := hp
        obtain ⟨hr3, hl4, hd4, c4⟩ := fin (some (.exit id)) W3 c3
        exact ⟨_, _, hr3, .inr ⟨rfl, ⟨.exit id, hIx _ _ _ _ hi3 (by have h1 := c3.size; rw [putObj_size] at h1; omega) (hbm (hpo W3 _)), hc.trans c4 (fun _ _ h => h), hl4, hd4⟩, hcS.trans c4 (fun _ _ h => h)⟩⟩
      | goto t =>
        obtain ⟨c3, hi3⟩ := hp
        obtain ⟨hr3, hl4, hd4, c4⟩ := fin (some (.goto t)) W3 c3
        exact ⟨_, _, hr3, .inr ⟨rfl, ⟨.goto t, hIx _ _ _ _ hi3 (by have h1 := c3.size; rw [putObj_size] at h1; omega) (hbm (hpo W3 _)), hc.trans c4 (fun _ _ h => h), hl4, hd4⟩, hcS.trans c4 (fun _ _ h => h)⟩⟩
      | panic ch => exact hp.elim
      | outgrown => exact hp.elim
    . -- behind the iterator
      rintro e W2 ⟨⟨v, rfl⟩, -, (⟨k, hE, hi, hc, hl, hd⟩ | ⟨k, c, hi, hc, hl, hd⟩)⟩
      . refine ⟨none, _, by have := run_endLoop (P := P) hl (by rw [hrec]; simp); rw [hrec] at this; exact this, ?_⟩
        have hp := hpo W2 (.loop { rec .ready none with state := .exhausted })
        rw [hrec] at hp
        have := hdone k _ hE (hc.trans hp (fun j _ h => hbk j h)) (hI _ _ _ hi hc.size (hbm hp)) ((World.putObj_heap_other (by omega)).trans (by rw [<- hD]; exact hd))
        subst hD
        exact this
      . refine ⟨some c, _, by have := run_endLoop (P := P) hl (by rw [hrec]; simp); rw [hrec] at this; exact this, ?_⟩
        have hp := hpo W2 (.loop { rec .done (some c) with state := .exhausted })
        rw [hrec] at hp
        have := hstop c k _ (hc.trans hp (fun j _ h => hbk j h)) (hIx _ _ _ _ hi hc.size (hbm hp)) ((World.putObj_heap_other (by omega)).trans (by rw [<- hD]; exact hd))
        subst hD
        exact this
end
end Go.Proofs.YtmhmnkpaijoaaaaGreat.Kv
namespace Go.Proofs.YtmhmnkpaijoaaaaGreat.Pue
set_option linter.unusedSimpArgs false
open Go Go.RowKit Go.Shelf Ck Cf Kw Ga Kf Pm Pe Pg Ik Lk Jm Ja Jb Jf Jg Jl Jn Kc Kj Pra Prb Prc Prd Pre Prf Prn Prr Prx Psg Psh Psx Pta Ptd Pte Pth Pua Kr Kv
attribute [local go_sem ↓] Go.wp_at_zero Go.wp_at_succ
attribute [local go_sem] Oper.semAt_some
set_option linter.unusedVariables false
set_option maxRecDepth 100000
abbrev PR := Pd × Pl2
structure Come (D : DataW Value) (l : List Pd) (left : Lit -> Bool) (ps : List PR) : Prop where
  nod : (ps.map (·.1.seq)).Nodup
  mem : ∀ x ∈ ps, getP l x.1.seq = some x.1 /\ ∀ zd, D.atKey (.int .i64 x.1.seq) zd = .held (.agg (PC x.1 x.2))
  left : ∀ n : Int, left (.int .i64 n) = ((getP l n).isSome && !ps.any (fun x => x.1.seq == n))
structure All (D : DataW Value) (l : List Pd) (ps : List PR) : Prop where
  nod : (ps.map (·.1.seq)).Nodup
  mem : ∀ x ∈ ps, getP l x.1.seq = some x.1 /\ ∀ zd, D.atKey (.int .i64 x.1.seq) zd = .held (.agg (PC x.1 x.2))
  all : ∀ n : Int, (getP l n).isSome = true -> ∃ x ∈ ps, x.1.seq = n
section
variable {w : World} {X : Nat -> Prop} {D : DataW Value} {l : List Pd} {left : Lit -> Bool} {ps : List PR}
theorem same_int (n m : Int) : (Lit.int .i64 n).sameKey (.int .i64 m) = (n == m) := by
  by_cases h : n = m
  . subst h
    have : (Lit.int .i64 n).sameKey (.int .i64 n) = true := by simp [Lit.sameKey]
    rw [this]; simp
  . rw [Maps.sameKey_ne (fun e => h (by injection e))]
    exact (beq_eq_false_iff_ne.2 h).symm
theorem Come.start (h : DL w X D l) : Come D l (Maps.has D) [] := ⟨List.nodup_nil, fun x hx => by simp at hx, fun n => by rw [h.has]; simp⟩
theorem Come.step {n : Int} {p : Pd} {r : Pl2} (h : Come D l left ps) (hl : left (.int .i64 n) = true) (hp : getP l n = some p) (hs : p.seq = n) (hat : ∀ zd, D.atKey (.int .i64 n) zd = .held (.agg (PC p r))) :
    Come D l (fun z => left z && !z.sameKey (.int .i64 n)) (ps ++ [(p, r)]) := by
  subst hs
  have h0 := hl
  rw [h.left, Bool.and_eq_true, Bool.not_eq_true', List.any_eq_false] at h0
  refine ⟨?_, fun x hx => ?_, fun m => ?_⟩
  . rw [List.map_append, List.nodup_append]
    refine ⟨h.nod, by simp, fun a ha b hb e => ?_⟩
    simp only [List.map_cons, List.map_nil, List.mem_singleton] at hb
    obtain ⟨x, hx, rfl⟩ := List.mem_map.1 ha
    have := h0.2 x hx
    simp only [beq_iff_eq] at this
    exact this (e.trans hb)
  . rcases List.mem_append.1 hx with hx | hx
    . exact h.mem x hx
    . rw [List.mem_singleton.1 hx]
      exact ⟨hp, hat⟩
  . rw [h.left, same_int, List.any_append]
    simp only [List.any_cons, List.any_nil, Bool.or_false, Bool.not_or]
    rw [Bool.and_assoc]
    by_cases e : m = p.seq
    . subst e; simp
    . have e1 : (m == p.seq) = false := beq_eq_false_iff_ne.2 e
      have e2 : (p.seq == m) = false := beq_eq_false_iff_ne.2 (fun q => e q.symm)
      rw [e1, e2]
theorem Come.all (h : Come D l left ps) (h0 : ∀ z, left z = false) : All D l ps := ⟨h.nod, h.mem, fun n hn => by
  have h1 := h.left n
  rw [h0, hn, Bool.true_and] at h1
  have h2 : ps.any (fun x => x.1.seq == n) = true := by
    cases h3 : ps.any (fun x => x.1.seq == n) with
    | true => rfl
    | false => rw [h3] at h1; cases h1
  obtain ⟨x, hx, e⟩ := List.any_eq_true.1 h2
  exact ⟨x, hx, by simpa using e⟩⟩
theorem get_seq {n : Int} {p : Pd} (h : getP l n = some p) : p ∈ l /\ p.seq = n := ⟨List.mem_of_find?_eq_some h, by have := List.find?_some h; simpa using this⟩
theorem nodup_le : ∀ (l m : List Int), l.Nodup -> (∀ x ∈ l, x ∈ m) -> l.length <= m.length
  | [], m, _, _ => by simp
  | x :: l, m, h, hs => by
    obtain ⟨h1, h2⟩ := List.nodup_cons.1 h
    have hx := hs x (by simp)
    have hr := nodup_le l (m.erase x) h2 (fun y hy => by
      have hne : y ≠ x := fun e => h1 (e ▸ hy)
      exact (List.mem_erase_of_ne hne).2 (hs y (by simp [hy])))
    have hle := List.length_erase_of_mem hx
    have hpos : 0 < m.length := List.length_pos_of_mem hx
    simp only [List.length_cons]
    omega
theorem nodup_rise (h : Rise l) : (l.map (·.seq)).Nodup := by
  rw [List.nodup_iff_pairwise_ne, List.pairwise_map]
  exact h.1.imp (fun hab => by omega)
theorem rise_eq (h : Rise l) {p q : Pd} (hp : p ∈ l) (hq : q ∈ l) (e : p.seq = q.seq) : p = q := by
  obtain ⟨i, hi, rfl⟩ := List.getElem_of_mem hp
  obtain ⟨j, hj, rfl⟩ := List.getElem_of_mem hq
  rcases Nat.lt_trichotomy i j with hij | hij | hij
  . have := rise_at h hi hj hij; omega
  . subst hij; rfl
  . have := rise_at h hj hi hij; omega
theorem get_of (h : Rise l) {p : Pd} (hp : p ∈ l) : getP l p.seq = some p := by
  unfold getP
  cases hf : l.find? (fun q => q.seq == p.seq) with
  | none => have := List.find?_eq_none.1 hf p hp; simp at this
  | some q =>
    have h1 := List.mem_of_find?_eq_some hf
    have h2 := List.find?_some hf
    simp only [beq_iff_eq] at h2
    rw [rise_eq h h1 hp h2]
theorem len_le {ps : List PR} (hn : (ps.map (·.1.seq)).Nodup) (hm : ∀ x ∈ ps, getP l x.1.seq = some x.1) : ps.length <= l.length := by
  have h1 := nodup_le (ps.map (·.1.seq)) (l.map (·.seq)) hn (fun n hn' => by
    obtain ⟨x, hx, rfl⟩ := List.mem_map.1 hn'
    exact List.mem_map.2 ⟨x.1, (get_seq (hm x hx)).1, rfl⟩)
  simpa using h1
theorem All.len (h : All D l ps) : ps.length <= l.length := len_le h.nod (fun x hx => (h.mem x hx).1)
end
def ArgP (B : Nat) (x : PR) (args : Array Value) (W : World) : Prop := args = #[.agg (PC x.1 x.2)]
theorem ranges_ch {H : Type} {P : Program} {k : TypeId} {R : Value -> Option (DataW H × List MemPlace)} {w w' : World} {S : Nat -> Prop} {b r n cnt : Nat} {D : DataW H} {left : Lit -> Bool} (h : w.ranges P k R b r n D left cnt) (c : Ch S w w') (hb : ¬ S b) (hr : ¬ S r) : w'.ranges P k R b r n D left cnt := by
  have h1 := h.owns.lt
  have h2 := h.lt
  obtain ⟨es, clock, since, seen, c0, e1, e2, e3, e4, e5, rest⟩ := h
  exact ⟨es, clock, since, seen, c0, (c.block b h1 hb).trans e1, e2, e3, e4, (c.block r h2 hr).trans e5, rest⟩
theorem at_prep {w : World} {X : Nat -> Prop} {D : DataW Value} {l : List Pd} (hd : DL w X D l) {n : Int} {c : Value} (h : ∀ zd, D.atKey (.int .i64 n) zd = .held c) : ∃ p r, c = .agg (PC p r) /\ p.seq = n /\ getP l n = some p /\ PI w X p r := by
  have h1 := Maps.has_true_of_atKey h
  rw [hd.has] at h1
  obtain ⟨p, hp⟩ := Option.isSome_iff_exists.1 h1
  obtain ⟨r, h2, h3⟩ := hd.at_ n p hp
  have h4 := (h (.held c)).symm.trans (h2 (.held c))
  injection h4 with h4
  exact ⟨p, r, h4, (get_seq hp).2, hp, h3⟩
theorem wpList_next_preps (w : World) {ops : Array Oper} {rest : List Oper} {o : Oper} {a : Act} {Q : Exit -> Act -> World -> Prop} (hg : o.guard = none) (it : Operand) (hop : o.op = Op.next it false)
    (b r n : Nat) (D : DataW Value) (left : Lit -> Bool) (cnt : Nat) {w0 : World} {X : Nat -> Prop} {l : List Pd} (hd : DL w0 X D l)
    (hit : a.eval it = .pointer (some ⟨r, 0, none⟩)) (h : w.ranges Tryz.prog 2 RV b r n D left cnt)
    (hDone : (∀ z, left z = false) -> wpList Tryz.prog ops Q rest (a.put o.dst (.tuple #[.bool false])) w)
    (hMore : ∀ (p : Pd) (q : Pl2) (w' : World) (cnt' : Nat), getP l p.seq = some p -> left (.int .i64 p.seq) = true -> (∀ zd, D.atKey (.int .i64 p.seq) zd = .held (.agg (PC p q))) -> PI w0 X p q -> w'.ranges Tryz.prog 2 RV b r n D (fun z => left z && !z.sameKey (.int .i64 p.seq)) cnt' -> cnt' < cnt ->
      w.grownBy w' (some r) -> w'.heap.size = w.heap.size -> (Instr.entry (.pointer (some ⟨r, 0, none⟩))).run Tryz.prog w' = .ok (.tuple #[.int .i64 p.seq, .agg (PC p q)]) w' -> wpList Tryz.prog ops Q rest (a.put o.dst (.tuple #[.bool true, .int .i64 p.seq, .agg (PC p q)])) w') :
    wpList Tryz.prog ops Q (o :: rest) a w :=
  wpList_next_ranges w hg it hop 2 law_i64 RV (Value.int .i64) id (fun key kl hkey => by obtain ⟨x, rfl, _⟩ := Maps.keyOf_int_inv Tryz.underlying2 hkey; exact ⟨x, rfl⟩) (fun v _ _ => ⟨v, rfl⟩) b r n D left cnt hit h (fun _ h0 => hDone h0)
    (fun x c kl y w' cnt' hkey hlk hv hat hrg hlt hgr hsz hen => by
      obtain ⟨x', ex, rfl, hwx⟩ := Maps.keyOf_int_inv Tryz.underlying2 hkey
      cases ex
      simp only [RV, id, Option.some.injEq] at hv
      subst hv
      obtain ⟨p, q, rfl, rfl, hp, hpi⟩ := at_prep hd hat
      exact hMore p q w' cnt' hp hlk hat hpi hrg hlt hgr hsz hen)
theorem wpListIn_next_preps {F : Fence} {nF : Nat} (w : World) {ops : Array Oper} {rest : List Oper} {o : Oper} {a : Act} {Q : Exit -> Act -> World -> Prop} (hg : o.guard = none) (it : Operand) (hop : o.op = Op.next it false)
    (b r n : Nat) (D : DataW Value) (left : Lit -> Bool) (cnt : Nat) {w0 : World} {X : Nat -> Prop} {l : List Pd} (hd : DL w0 X D l)
    (hit : a.eval it = .pointer (some ⟨r, 0, none⟩)) (h : w.ranges Tryz.prog 2 RV b r n D left cnt)
    (hDone : (∀ z, left z = false) -> wpListIn F nF Tryz.prog ops Q rest (a.put o.dst (.tuple #[.bool false])) w)
    (hMore : ∀ (p : Pd) (q : Pl2) (w' : World) (cnt' : Nat), getP l p.seq = some p -> left (.int .i64 p.seq) = true -> (∀ zd, D.atKey (.int .i64 p.seq) zd = .held (.agg (PC p q))) -> PI w0 X p q -> w'.ranges Tryz.prog 2 RV b r n D (fun z => left z && !z.sameKey (.int .i64 p.seq)) cnt' -> cnt' < cnt ->
      w.grownBy w' (some r) -> w'.heap.size = w.heap.size -> (Instr.entry (.pointer (some ⟨r, 0, none⟩))).run Tryz.prog w' = .ok (.tuple #[.int .i64 p.seq, .agg (PC p q)]) w' -> wpListIn F nF Tryz.prog ops Q rest (a.put o.dst (.tuple #[.bool true, .int .i64 p.seq, .agg (PC p q)])) w') :
    wpListIn F nF Tryz.prog ops Q (o :: rest) a w :=
  wpListIn_next_ranges w hg it hop 2 law_i64 RV (Value.int .i64) id (fun key kl hkey => by obtain ⟨x, rfl, _⟩ := Maps.keyOf_int_inv Tryz.underlying2 hkey; exact ⟨x, rfl⟩) (fun v _ _ => ⟨v, rfl⟩) b r n D left cnt hit h (fun _ h0 => hDone h0)
    (fun x c kl y w' cnt' hkey hlk hv hat hrg hlt hgr hsz hen => by
      obtain ⟨x', ex, rfl, hwx⟩ := Maps.keyOf_int_inv Tryz.underlying2 hkey
      cases ex
      simp only [RV, id, Option.some.injEq] at hv
      subst hv
      obtain ⟨p, q, rfl, rfl, hp, hpi⟩ := at_prep hd hat
      exact hMore p q w' cnt' hp hlk hat hpi hrg hlt hgr hsz hen)
end Go.Proofs.YtmhmnkpaijoaaaaGreat.Pue
namespace Go.Proofs.YtmhmnkpaijoaaaaGreat.Puh
set_option linter.unusedSimpArgs false
open Go Go.RowKit Ck Cf Kw Ga Kf Pm Pe Pg Ik Lk Jm Ja Jb Jf Jg Jl Jn Kc Kj Pra Prb Prc Prd Pre Prf Prn Prr Prx Psg Psh Psx Pta Ptd Pte Pth Pua Pue
open Go.WideElems (rg)
open Go.Maps (Keyed Keys KeysOf)
set_option linter.unusedVariables false
set_option maxRecDepth 100000
theorem get_slide (l : List Pd) (low n : Int) : getP (slideP l low) n = if low < n then getP l n else none := by
  unfold getP slideP
  rw [List.find?_filter]
  by_cases h : low < n
  . rw [if_pos h]
    congr 1
    funext a
    by_cases e : a.seq = n
    . simp [e, h]
    . simp [e]
  . rw [if_neg h]
    rw [List.find?_eq_none]
    intro a ha
    by_cases e : a.seq = n
    . simp [e, h]
    . simp [e]
def intL : Lit -> Int
  | .int _ x => x
  | _ => 0
theorem size_tells {w : World} {m n : Nat} {D : DataW Value} {l : List Pd} (h : w.ownsMap Tryz.prog 2 RV m n D) (hr : Rise l) (hh : ∀ n : Int, Maps.has D (.int .i64 n) = (getP l n).isSome) : Maps.size D = l.length := by
  obtain ⟨es, clock, hb, F, hs, rfl⟩ := h
  have hp := WideShapes.sorted_perm (es.toList.map (rg Tryz.prog 2 RV))
  obtain ⟨E, hE⟩ : ∃ E, E = (es.toList.map (rg Tryz.prog 2 RV)).foldr DataW.insert [] := ⟨_, rfl⟩
  rw [<- hE] at hp hh ⊢
  have hk : ∀ p ∈ E, ∃ x, p.1 = .int .i64 x := fun p hp' => by
    obtain ⟨key, hkey⟩ := Maps.fit_keys F p (hp.mem_iff.1 hp')
    obtain ⟨x, -, e, -⟩ := Maps.keyOf_int_inv Tryz.underlying2 hkey
    exact ⟨x, e⟩
  have hap : E.Pairwise (fun p q => p.1 ≠ q.1) := (hp.pairwise_iff (fun h => Ne.symm h)).2 (Maps.fit_apart law_i64 F)
  have hnd : (E.map (fun p => intL p.1)).Nodup := by
    rw [List.nodup_iff_pairwise_ne, List.pairwise_map]
    refine List.Pairwise.imp_of_mem (fun {a b} ha hb hab e => hab ?_) hap
    obtain ⟨x, hx⟩ := hk a ha
    obtain ⟨y, hy⟩ := hk b hb
    rw [hx, hy] at e ⊢
    simp only [intL] at e
    rw [e]
  have hmem : ∀ x : Int, x ∈ E.map (fun p => intL p.1) ↔ x ∈ l.map (·.seq) := fun x => by
    have h1 := hh x
    rw [Maps.has_eq] at h1
    rw [List.mem_map, List.mem_map]
    constructor
    . rintro ⟨p, hp', rfl⟩
      obtain ⟨y, hy⟩ := hk p hp'
      have h2 : E.any (fun q => q.1.sameKey (.int .i64 (intL p.1))) = true := List.any_eq_true.2 ⟨p, hp', by rw [hy]; simp only [intL]; rw [same_int]; simp⟩
      rw [h1] at h2
      obtain ⟨q, hq⟩ := Option.isSome_iff_exists.1 h2
      exact ⟨q, (get_seq hq).1, (get_seq hq).2⟩
    . rintro ⟨p, hp', rfl⟩
      rw [get_of hr hp'] at h1
      obtain ⟨q, hq, e⟩ := List.any_eq_true.1 (h1.trans rfl)
      obtain ⟨y, hy⟩ := hk q hq
      rw [hy, same_int] at e
      refine ⟨q, hq, ?_⟩
      rw [hy]
      simpa [intL] using e
  rw [Maps.size_eq]
  have h1 := nodup_le _ _ hnd (fun x hx => (hmem x).1 hx)
  have h2 := nodup_le _ _ (nodup_rise hr) (fun x hx => (hmem x).2 hx)
  simp only [List.length_map] at h1 h2
  omega
structure Out (w : World) (X : Nat -> Prop) (D' : DataW Value) (l : List Pd) (left : Lit -> Bool) (K : Int -> Bool) : Prop where
  has : ∀ n : Int, Maps.has D' (.int .i64 n) = ((getP l n).isSome && !left (.int .i64 n) && K n)
  at_ : ∀ (n : Int) (p : Pd), getP l n = some p -> left (.int .i64 n) = false -> K n = true -> ∃ r, (∀ zd, D'.atKey (.int .i64 n) zd = .held (.agg (PC p r))) /\ PI w X p r
section
variable {w w' : World} {X Y S : Nat -> Prop} {D D' : DataW Value} {l : List Pd} {left : Lit -> Bool} {K : Int -> Bool}
theorem Out.start (hd : DL w Y D l) : Out w X (.map []) l (Maps.has D) K := ⟨fun n => by
    have : Maps.has (.map [] : DataW Value) (.int .i64 n) = false := rfl
    rw [this, hd.has]
    cases (getP l n).isSome <;> rfl, fun n p hp hl _ => by rw [hd.has, hp] at hl; cases hl⟩
theorem Out.ch (h : Out w X D' l left K) (c : Ch S w w') (hd : ∀ k, k < w.heap.size -> S k -> X k) : Out w' X D' l left K := ⟨h.has, fun n p hp hl hk => by obtain ⟨r, h1, h2⟩ := h.at_ n p hp hl hk; exact ⟨r, h1, h2.ch c hd⟩⟩
theorem Out.skip {n : Int} (h : Out w X D' l left K) (hk : K n = false) : Out w X D' l (fun z => left z && !z.sameKey (.int .i64 n)) K := by
  refine ⟨fun m => ?_, fun m p hp hl hkm => ?_⟩
  . rw [h.has, same_int]
    by_cases e : m = n
    . subst e; rw [hk]; simp
    . have : (m == n) = false := beq_eq_false_iff_ne.2 e
      rw [this]; simp
  . rw [same_int] at hl
    have e : m ≠ n := fun e => by subst e; rw [hk] at hkm; cases hkm
    have : (m == n) = false := beq_eq_false_iff_ne.2 e
    rw [this] at hl
    exact h.at_ m p hp (by simpa using hl) hkm
theorem Out.put {p : Pd} {r : Pl2} (h : Out w X D' l left K) (hp : getP l p.seq = some p) (hl : left (.int .i64 p.seq) = true) (hk : K p.seq = true) (ho : okN p.seq = true) (ht : Maps.Tidy D') (hi : PI w X p r) : Out w X (D'.put (.int .i64 p.seq) (.held (.agg (PC p r)))) l (fun z => left z && !z.sameKey (.int .i64 p.seq)) K := by
  have hkl := key_lit ho
  refine ⟨fun m => ?_, fun m q hq hlm hkm => ?_⟩
  . rw [same_int]
    by_cases e : m = p.seq
    . subst e
      rw [Maps.has_put_same ht.isMap hkl, hp, hk]
      simp
    . have hne : (Lit.int .i64 m) ≠ Lit.int .i64 p.seq := fun q => e (by injection q)
      have : (m == p.seq) = false := beq_eq_false_iff_ne.2 e
      rw [Maps.has_put_other hne, h.has, this]
      simp
  . by_cases e : m = p.seq
    . subst e
      rw [hp] at hq
      obtain rfl := Option.some.inj hq
      exact ⟨r, fun zd => Maps.atKey_put_same ht.isMap hkl _ _, hi⟩
    . have hne : (Lit.int .i64 m) ≠ Lit.int .i64 p.seq := fun q => e (by injection q)
      have hb : (m == p.seq) = false := beq_eq_false_iff_ne.2 e
      rw [same_int, hb] at hlm
      obtain ⟨r', h1, h2⟩ := h.at_ m q hq (by simpa using hlm) hkm
      exact ⟨r', fun zd => by rw [Maps.atKey_put_other hne]; exact h1 zd, h2⟩
theorem Out.done {m n : Nat} {l' : List Pd} (h : Out w X D' l left K) (h0 : ∀ z, left z = false) (hr : Rise l') (ho : w.ownsMap Tryz.prog 2 RV m n D') (hl : ∀ n, getP l' n = if K n = true then getP l n else none) : DL w X D' l' := by
  have hh : ∀ n : Int, Maps.has D' (.int .i64 n) = (getP l' n).isSome := fun n => by
    rw [h.has, h0, hl]
    cases hk : K n <;> simp
  refine ⟨hh, fun n p hp => ?_, size_tells ho hr hh⟩
  rw [hl] at hp
  cases hk : K n with
  | false => rw [hk] at hp; simp at hp
  | true =>
    rw [hk, if_pos rfl] at hp
    exact h.at_ n p hp (h0 _) hk
end
end Go.Proofs.YtmhmnkpaijoaaaaGreat.Puh
namespace Go.Proofs.YtmhmnkpaijoaaaaGreat.Pui
set_option linter.unusedSimpArgs false
open Go Go.RowKit Ck Cf Kw Ga Kf Pm Pe Pg Ik Lk Jm Ja Jb Jf Jg Jl Jn Kc Kj Pra Prb Prc Prd Pre Prf Prn Prr Prx Psg Psh Psx Pta Ptd Pte Pth Pua Jt Pub Puc Pue Puh
attribute [local go_sem ↓] Go.wp_at_zero Go.wp_at_succ
set_option linter.unusedVariables false
set_option maxRecDepth 100000
theorem slide_fin {w wr : World} {S : Nat -> Prop} {g m j : Nat} {D' : DataW Value} {l' : List Pd} (hgS : S g) (hg : g < w.heap.size) (hdl : DL wr (fun k => (¬ S k \/ k = g \/ k = m) \/ w.heap.size <= k) D' l') (hom : wr.ownsMap Tryz.prog 2 RV w.heap.size j D') (hbk : Blk wr g 101 #[.map (some m)]) (hbr : Below w.heap.size w wr) (hs : w.heap.size + 2 <= wr.heap.size) (hr' : Rise l') (hv' : ∀ p ∈ l', okV p) (hl' : l'.length <= 1599289640355) :
    Hd (wr.setCell ⟨g, 0, none⟩ (.map (some w.heap.size))) (Nw S w.heap.size (wr.setCell ⟨g, 0, none⟩ (.map (some w.heap.size))).heap.size) g l' /\ Ch S w (wr.setCell ⟨g, 0, none⟩ (.map (some w.heap.size))) := by
  have cc : Ch (fun k => k = g) wr (wr.setCell ⟨g, 0, none⟩ (.map (some w.heap.size))) := Ch.setCell (Ch.refl (fun k => k = g) wr) (p := ⟨g, 0, none⟩) (fun _ => rfl) _
  have s2 := cc.size
  refine ⟨⟨w.heap.size, D', by simpa using hbk.set_ 0 (.map (some w.heap.size)), .inl hgS, .inr ⟨Nat.le_refl _, by omega⟩, by omega, ?_, (hdl.weaken (fun k _ hk => ?_)).ch cc (fun k _ hk => .inr (.inl hk)), hr', hv', hl'⟩, ?_⟩
  . have := own_exact (map_ch hom cc (fun h => by omega))
    rw [hdl.size] at this
    exact this
  . rcases hk with hk | hk | hk
    . exact .inl (.inl (fun h => hk (.inl h)))
    . exact .inl (.inr (.inl hk))
    . exact .inr (by omega)
  . exact (Ch.of_below (S := S) hbr (Nat.le_refl _)).trans cc (fun k _ hk => by rw [hk]; exact hgS)
set_option maxHeartbeats 8000000 in
theorem pslide_any (w : World) (S : Nat -> Prop) (g : Nat) (l : List Pd) (low : Int) (h : Hd w S g l) :
    Calls Tryz.prog 19 #[.pointer (some ⟨g, 0, none⟩), .int .i64 low] w fun e w' => e = .returned (.tuple #[]) /\ Hd w' (Nw S w.heap.size w'.heap.size) g (slideP l low) /\ Ch S w w' := by
  obtain ⟨m, D, hb, hgS, hmS, hgm, ho, hd, hr, hvl, hll⟩ := h
  have hmm : ∀ W : World, (Instr.makeMap 99 none).run Tryz.prog W = .ok (.map (some W.heap.size)) (W.alloc (.map #[] 0)) := fun W => by
    simp [Instr.makeMap, run_underlying Tryz.underlying99]
  have hb1 : Below w.heap.size w (w.alloc (.map #[] 0)) := (Below.refl _ w).alloc (Nat.le_refl _) _
  have hs1 : (w.alloc (.map #[] 0)).heap.size = w.heap.size + 1 := by simp
  have ho1 := map_ch ho (Ch.of_below (S := fun _ => False) hb1 (Nat.le_refl _)) (fun h => h)
  have hbk1 := hb.below hb1 hb.lt
  have c0 : w.cell? ⟨g, 0, none⟩ = some (.map (some m)) := hb.cell 0
  have c1 : (w.alloc (.map #[] 0)).cell? ⟨g, 0, none⟩ = some (.map (some m)) := hbk1.cell 0
  have HM := Lib.hid (made_on w g m hb)
  have HGM := Lib.hid (And.intro hgS (And.intro hmS (And.intro hgm (And.intro hb.lt (And.intro ho.lt (And.intro hr (And.intro hvl hll)))))))
  have HD0 := Lib.hid hd
  have hmn : (w.alloc (.map #[] 0)).ownsMap Tryz.prog 2 RV w.heap.size 0 (.map []) := World.ownsMap_made w _ _ _
  have HSZ := Lib.hid hd.size
  go_enter Tryz.func19, Tryz.ntmps19
  go_wp2_with fail
  refine HM.out.mono ?_
  rintro e w1 ⟨rfl, rfl⟩
  go_wp2_with (at_range; refine wpList_range_own _ rfl _ 99 rfl 2 41 law_i64 Tryz.underlying99 _ m l.length D rfl ho1 ?_; intro w0 hrg0 hg0 hs0)
  have HW1 := Lib.hid (And.intro hb1 (And.intro hs1 (And.intro hbk1 hmn)))
  clear hb ho hd hb1 hs1 ho1 hbk1 c0 c1 hmn hmm HM hr hvl hll hgS hmS hgm
  generalize w.alloc (.map #[] 0) = wm at *
  have hb0 : Below wm.heap.size wm w0 := below_of_grown hg0 (fun k hk => by cases hk)
  have hbw : Below w.heap.size w w0 := HW1.out.1.trans (hb0.mono HW1.out.1.size)
  have hk0 := HW1.out.2.2.1.below hb0 HW1.out.2.2.1.lt
  have hm0 := map_ch HW1.out.2.2.2 (Ch.of_below (S := fun _ => False) hb0 (Nat.le_refl _)) (fun h => h)
  have hou : Out w0 (fun k => (¬ S k \/ k = g \/ k = m) \/ w.heap.size <= k) (.map []) l (Maps.has D) (fun n => decide (low < n)) := ⟨(Out.start (X := fun _ => False) (K := fun n => decide (low < n)) HD0.out).has, fun n p hp hl _ => by rw [HD0.out.has, hp] at hl; cases hl⟩
  have hw1 : wm.heap.size = w.heap.size + 1 := HW1.out.2.1
  rw [hw1] at hrg0 ⊢
  have HS0 : Hid (w0.heap.size = w.heap.size + 2) := Lib.hid (by rw [hs0, hw1])
  clear hb0 hg0 hs0 hw1
  go_frame
  go_loopw [5, 6] (fun _ _ wr => ∃ (left : Lit -> Bool) (cnt j : Nat) (D' : DataW Value), wr.ranges Tryz.prog 2 RV m (w.heap.size + 1) l.length D left cnt /\ wr.ownsMap Tryz.prog 2 RV w.heap.size j D' /\ j + cnt <= l.length /\ Out wr (fun k => (¬ S k \/ k = g \/ k = m) \/ w.heap.size <= k) D' l left (fun n => decide (low < n)) /\ Blk wr g 101 #[.map (some m)] /\ Below w.heap.size w wr /\ w.heap.size + 2 <= wr.heap.size)
    (fun _ _ wr => wr.rangeLeft m (w.heap.size + 1))
  case atStart => exact ⟨_, _, 0, _, hrg0, hm0, by rw [HSZ.out]; omega, hou, hk0, hbw, by have := HS0.out; omega⟩
  case round =>
    obtain ⟨left, cnt, j, D', hrg, hom, hjc, hou2, hbk, hbr, hsr⟩ := hrel
    clear hrg0 hm0 hou hk0 hbw
    go_wp2_with (at_next; refine wpList_next_preps _ rfl _ rfl m (w.heap.size + 1) l.length D left cnt HD0.out rfl hrg ?_ ?_)
    . intro h0
      have HFN := Lib.hid (slide_fin HGM.out.1 HGM.out.2.2.2.1 (hou2.done h0 (rise_slide HGM.out.2.2.2.2.2.1 low) hom (fun n => by rw [get_slide]; by_cases h : low < n <;> simp [h])) hom hbk hbr hsr (rise_slide HGM.out.2.2.2.2.2.1 low) (fun p hp => HGM.out.2.2.2.2.2.2.1 p (List.mem_filter.1 hp).1) (Nat.le_trans (List.length_filter_le _ _) HGM.out.2.2.2.2.2.2.2))
      have f0 := hbk.frozen 0
      have q0 : wr.cell? ⟨g, 0, none⟩ = some (.map (some m)) := hbk.cell 0
      clear hou2 hom hbk hbr hsr hjc hrg
      go_wp2_with fail
      refine bodyPost_end (results_none rfl _ _ _) rfl ?_
      exact ⟨rfl, HFN.out⟩
    . intro p qa qc qb qd w1 cnt1 hgp hl hat hpi hrg1 hlt hg1 hs1 hen
      have hc1 : Ch (fun k => k = w.heap.size + 1) wr w1 := Ch.of_grown hg1 (fun k hk _ => (Option.some.inj hk).symm)
      have hok := HGM.out.2.2.2.2.2.1.2 p (get_seq hgp).1
      have hb2 : Below w1.heap.size w1 (w1.alloc (.cells (PC p ((qa, qc), (qb, qd))) 41)) := (Below.refl _ w1).alloc (Nat.le_refl _) _
      have hk2 : Blk (w1.alloc (.cells (PC p ((qa, qc), (qb, qd))) 41)) w1.heap.size 41 (PC p ((qa, qc), (qb, qd))) := Blk.new _ _ _
      have c2 : Ch (fun k => k = w.heap.size + 1) wr (w1.alloc (.cells (PC p ((qa, qc), (qb, qd))) 41)) := hc1.trans (Ch.of_below (S := fun _ => False) hb2 (Nat.le_refl _)) (fun _ _ h => h.elim)
      have hrg2 := ranges_ch hrg1 (Ch.of_below (S := fun _ => False) hb2 (Nat.le_refl _)) (fun h => h) (fun h => h)
      have hom2 := map_ch hom c2 (fun h => by omega)
      have hou3 := hou2.ch c2 (fun k _ hk => .inr (by omega))
      have hbk2 := hbk.ch c2 (by have := HGM.out.2.2.2.1; omega)
      have hbr2 : Below w.heap.size w _ := hbr.trans (c2.below (fun k hk e => by omega) hbr.size)
      have hs2 := c2.size
      have hpi2 := (pi_old hpi (Nat.le_refl _)).after hbr2
      have HLT := Lib.hid (And.intro hlt (And.intro hrg hjc))
      have HEN : Hid (w.heap.size + 2 <= (w1.alloc (.cells (PC p ((qa, qc), (qb, qd))) 41)).heap.size) := Lib.hid (by omega)
      by_cases hlow : low < p.seq
      . obtain ⟨w3, hst, hmap3, hturn3⟩ := hom2.store law_i64 Tryz.underlying99 (by have := HGM.out.2.2.2.2.2.2.2; simp only [maxLen]; omega) (key_ok hok) (val := .agg (PC p ((qa, qc), (qb, qd)))) (rfl : RV _ = some (.held _, []))
        have c3 : Ch (fun k => k = w.heap.size) _ w3 := Ch.of_grown hturn3.grown (fun k hk _ => (Option.some.inj hk).symm)
        have hs3 := c3.size
        have HREL : Hid (w3.ranges Tryz.prog 2 RV m (w.heap.size + 1) l.length D (fun z => left z && !z.sameKey (.int .i64 p.seq)) cnt1 /\ w3.ownsMap Tryz.prog 2 RV w.heap.size (j + 1) (D'.put (.int .i64 p.seq) (.held (.agg (PC p ((qa, qc), (qb, qd)))))) /\ j + 1 + cnt1 <= l.length /\ Out w3 (fun k => (¬ S k \/ k = g \/ k = m) \/ w.heap.size <= k) (D'.put (.int .i64 p.seq) (.held (.agg (PC p ((qa, qc), (qb, qd)))))) l (fun z => left z && !z.sameKey (.int .i64 p.seq)) (fun n => decide (low < n)) /\ Blk w3 g 101 #[.map (some m)] /\ Below w.heap.size w w3 /\ w.heap.size + 2 <= w3.heap.size) := Lib.hid
          ⟨ranges_ch hrg2 c3 (by have := HGM.out.2.2.2.2.1; omega) (by omega), hmap3, by omega, (hou3.put hgp hl (decide_eq_true hlow) hok (hom2.tidy law_i64) hpi2).ch c3 (fun k _ hk => .inr (by omega)), hbk2.ch c3 (by have := HGM.out.2.2.2.1; omega), hbr2.trans (c3.below (fun k hk e => by omega) hbr2.size), by omega⟩
        unfold PC at hen hk2 hst
        have e0 := hk2.cell 0
        have e1 := hk2.cell 1
        have e2 := hk2.cell 2
        have e3 := hk2.cell 3
        have e4 := hk2.cell 4
        have e5 := hk2.cell 5
        have e6 := hk2.cell 6
        simp only [List.getElem?_toArray, List.getElem?_cons_zero, List.getElem?_cons_succ] at e0 e1 e2 e3 e4 e5 e6
        clear hmap3 hturn3 c3 hs3 hbr2 hpi2 hbk2 hou3 hom2 hrg2 c2 hk2 hb2 hok hc1 hg1 hpi hat hl hgp hrg1 hlt hou2 hom hbk hbr hsr hjc hrg hs1 hs2
        go_wp2_with fail
        go_roundw
        case rel => exact ⟨_, cnt1, j + 1, _, HREL.out⟩
        case measure => rw [HREL.out.1.left_eq, HLT.out.2.1.left_eq]; exact HLT.out.1
      . have HREL : Hid (_ /\ _ /\ _ /\ _ /\ _ /\ _ /\ _) := Lib.hid (And.intro hrg2 (And.intro hom2 (And.intro (show j + cnt1 <= l.length by omega) (And.intro (hou3.skip (n := p.seq) (decide_eq_false hlow)) (And.intro hbk2 (And.intro hbr2 HEN.out))))))
        unfold PC at hen HREL
        clear hbr2 hpi2 hbk2 hou3 hom2 hrg2 c2 hk2 hb2 hok hc1 hg1 hpi hat hl hgp hrg1 hlt hou2 hom hbk hbr hsr hjc hrg hs1 hs2
        go_wp2_with fail
        go_roundw
        case rel => exact ⟨_, cnt1, j, _, HREL.out⟩
        case measure => rw [HREL.out.1.left_eq, HLT.out.2.1.left_eq]; exact HLT.out.1
end Go.Proofs.YtmhmnkpaijoaaaaGreat.Pui
namespace Go.Proofs.YtmhmnkpaijoaaaaGreat.Puj
set_option linter.unusedSimpArgs false
open Go Go.RowKit Ck Cf Kw Ga Kf Pm Pe Pg Ik Lk Jm Ja Jb Jf Jg Jl Jn Kc Kj Pra Prb Prc Prd Pre Prf Prn Prr Prx Psg Psh Psx Pta Ptd Pte Pth Pua Jt Pub Puc Pue Puh Pui
attribute [local go_sem ↓] Go.wp_at_zero Go.wp_at_succ
set_option linter.unusedVariables false
set_option maxRecDepth 100000
theorem clone_fin {w wr : World} {g m j B : Nat} {D' : DataW Value} {l : List Pd} (hdl : DL wr (fun k => k < B) D' l) (hom : wr.ownsMap Tryz.prog 2 RV m j D') (hbk : Blk wr g 101 #[.map (some m)]) (hbr : Below w.heap.size w wr) (hB : B <= wr.heap.size) (hgm : g ≠ m) (h1 : w.heap.size <= g /\ g < B) (h2 : w.heap.size <= m /\ m < B) (hr' : Rise l) (hv' : ∀ p ∈ l, okV p) (hl' : l.length <= 1599289640355) :
    Hd wr (fun k => w.heap.size <= k /\ k < wr.heap.size) g l /\ Below w.heap.size w wr := by
  refine ⟨⟨m, D', hbk, ⟨h1.1, by omega⟩, ⟨h2.1, by omega⟩, hgm, ?_, hdl.weaken (fun k hk hn => ?_), hr', hv', hl'⟩, hbr⟩
  . have := own_exact hom
    rw [hdl.size] at this
    exact this
  . show k < B
    rcases hn with hn | hn | hn <;> omega
set_option maxHeartbeats 8000000 in
theorem phclone_any (w : World) (S : Nat -> Prop) (g : Nat) (l : List Pd) (h : Hd w S g l) :
    Calls Tryz.prog 29 #[.pointer (some ⟨g, 0, none⟩)] w fun e w' => ∃ g', e = .returned (.pointer (some ⟨g', 0, none⟩)) /\ Hd w' (fun k => w.heap.size <= k /\ k < w'.heap.size) g' l /\ Below w.heap.size w w' := by
  obtain ⟨m, D, hb, hgS, hmS, hgm, ho, hd, hr, hvl, hll⟩ := h
  have c0 : w.cell? ⟨g, 0, none⟩ = some (.map (some m)) := hb.cell 0
  have HM := Lib.hid (made_on w g m hb)
  have HGM := Lib.hid (And.intro hgS (And.intro hmS (And.intro hgm (And.intro hb.lt (And.intro ho.lt (And.intro hr (And.intro hvl hll)))))))
  have HD0 := Lib.hid hd
  have HHB := Lib.hid (And.intro hb ho)
  clear hb ho hd hr hvl hll hgS hmS hgm
  go_enter Tryz.func29, Tryz.ntmps29
  go_wp2_with fail
  refine HM.out.mono ?_
  rintro e w1 ⟨rfl, rfl⟩
  go_wp2_with fail
  refine (pnew_any _).mono ?_
  rintro e w1 ⟨g', rfl, hn, hb1⟩
  obtain ⟨m', Dn, nb, ngS, nmS, ngm, no, nd, -, -, -⟩ := hn
  have hbk1 := HHB.out.1.below hb1 HHB.out.1.lt
  have ho1 := map_ch HHB.out.2 (Ch.of_below (S := fun _ => False) hb1 (Nat.le_refl _)) (fun h => h)
  have c1 : w1.cell? ⟨g, 0, none⟩ = some (.map (some m)) := hbk1.cell 0
  have HNN := Lib.hid (And.intro nb (And.intro ngS (And.intro nmS (And.intro ngm (And.intro no (And.intro nd hb1))))))
  clear nb ngS nmS ngm no nd hbk1 HM
  go_wp2_with (at_range; refine wpList_range_own _ rfl _ 99 rfl 2 41 law_i64 Tryz.underlying99 _ m l.length D rfl ho1 ?_; intro w0 hrg0 hg0 hs0)
  have hb0 : Below w1.heap.size w1 w0 := below_of_grown hg0 (fun k hk => by cases hk)
  obtain ⟨nb, ngS, nmS, ngm, no, nd, hb1⟩ := HNN.out
  have hbw : Below w.heap.size w w0 := hb1.trans (hb0.mono hb1.size)
  have hk0 := nb.below hb0 nb.lt
  have hm0 := map_ch no (Ch.of_below (S := fun _ => False) hb0 (Nat.le_refl _)) (fun h => h)
  have hou : Out w0 (fun k => k < w0.heap.size) Dn l (Maps.has D) (fun _ => true) := ⟨fun n => by
    rw [nd.has, HD0.out.has]
    have : getP [] n = none := rfl
    rw [this]
    cases (getP l n).isSome <;> rfl, fun n p hp hl _ => by rw [HD0.out.has, hp] at hl; cases hl⟩
  have HSZ := Lib.hid HD0.out.size
  have hs1 := hb1.size
  obtain ⟨B, hB⟩ : ∃ B, B = w0.heap.size := ⟨_, rfl⟩
  obtain ⟨r, hre⟩ : ∃ r, r = w1.heap.size := ⟨_, rfl⟩
  have HBB : Hid (w.heap.size <= g' /\ g' < r /\ w.heap.size <= m' /\ m' < r /\ g' ≠ m' /\ r < B /\ w.heap.size <= r /\ g < w.heap.size /\ m < w.heap.size /\ m' ≠ m) := Lib.hid (by
    have h1 := HGM.out.2.2.2.1
    have h2 := HGM.out.2.2.2.2.1
    obtain ⟨h3, h4⟩ := ngS
    obtain ⟨h5, h6⟩ := nmS
    refine ⟨h3, by omega, h5, by omega, ngm, by omega, by omega, h1, h2, by omega⟩)
  rw [<- hB] at hou
  rw [<- hre] at hrg0 ⊢
  have hB' : B <= w0.heap.size := by omega
  clear hB hre hb0 hg0 hs0 c0 c1 ho1 nb ngS nmS ngm no nd hb1 HNN hs1
  go_frame
  go_loopw [4, 5] (fun _ _ wr => ∃ (left : Lit -> Bool) (cnt j : Nat) (D' : DataW Value), wr.ranges Tryz.prog 2 RV m r l.length D left cnt /\ wr.ownsMap Tryz.prog 2 RV m' j D' /\ j + cnt <= l.length /\ Out wr (fun k => k < B) D' l left (fun _ => true) /\ Blk wr g' 101 #[.map (some m')] /\ Below w.heap.size w wr /\ B <= wr.heap.size)
    (fun _ _ wr => wr.rangeLeft m r)
  case atStart => exact ⟨_, _, 0, _, hrg0, hm0, by rw [HSZ.out]; omega, hou, hk0, hbw, hB'⟩
  case round =>
    obtain ⟨left, cnt, j, D', hrg, hom, hjc, hou2, hbk, hbr, hsr⟩ := hrel
    clear hrg0 hm0 hou hk0 hbw
    go_wp2_with (at_next; refine wpList_next_preps _ rfl _ rfl m r l.length D left cnt HD0.out rfl hrg ?_ ?_)
    . intro h0
      have HFN := Lib.hid (clone_fin (hou2.done (l' := l) h0 HGM.out.2.2.2.2.2.1 hom (fun n => by simp)) hom hbk hbr hsr HBB.out.2.2.2.2.1 ⟨HBB.out.1, by have := HBB.out; omega⟩ ⟨HBB.out.2.2.1, by have := HBB.out; omega⟩ HGM.out.2.2.2.2.2.1 HGM.out.2.2.2.2.2.2.1 HGM.out.2.2.2.2.2.2.2)
      clear hou2 hom hbk hbr hsr hjc hrg
      go_wp2_with fail
      go_ret
      exact ⟨_, rfl, HFN.out⟩
    . intro p qa qc qb qd w1' cnt1 hgp hl hat hpi hrg1 hlt hg1 hs1 hen
      have hc1 : Ch (fun k => k = r) wr w1' := Ch.of_grown hg1 (fun k hk _ => (Option.some.inj hk).symm)
      have hok := HGM.out.2.2.2.2.2.1.2 p (get_seq hgp).1
      have hokv := HGM.out.2.2.2.2.2.2.1 p (get_seq hgp).1
      have hbb := HBB.out
      have hb2 : Below w1'.heap.size w1' (w1'.alloc (.cells (PC p ((qa, qc), (qb, qd))) 41)) := (Below.refl _ w1').alloc (Nat.le_refl _) _
      have hk2 : Blk (w1'.alloc (.cells (PC p ((qa, qc), (qb, qd))) 41)) w1'.heap.size 41 (PC p ((qa, qc), (qb, qd))) := Blk.new _ _ _
      have c2 : Ch (fun k => k = r) wr (w1'.alloc (.cells (PC p ((qa, qc), (qb, qd))) 41)) := hc1.trans (Ch.of_below (S := fun _ => False) hb2 (Nat.le_refl _)) (fun _ _ h => h.elim)
      have hrg2 := ranges_ch hrg1 (Ch.of_below (S := fun _ => False) hb2 (Nat.le_refl _)) (fun h => h) (fun h => h)
      have hom2 := map_ch hom c2 (fun h => by omega)
      have hou3 := hou2.ch c2 (fun k _ hk => (by omega : k < B))
      have hbk2 := hbk.ch c2 (by omega)
      have hbr2 : Below w.heap.size w _ := hbr.trans (c2.below (fun k hk e => by omega) hbr.size)
      have hs2 := c2.size
      have hpi2 := hpi.after hbr2
      have HLT := Lib.hid (And.intro hlt (And.intro hrg hjc))
      have HST := Lib.hid (And.intro hrg2 (And.intro hom2 (And.intro hou3 (And.intro hbk2 (And.intro hbr2 (And.intro (show B <= (w1'.alloc (.cells (PC p ((qa, qc), (qb, qd))) 41)).heap.size by omega) hpi2))))))
      have HK2 := Lib.hid hk2
      have HOK := Lib.hid (And.intro hok (And.intro hokv (And.intro hgp hl)))
      clear hbr2 hpi2 hbk2 hou3 hom2 hrg2 c2 hk2 hb2 hok hokv hc1 hg1 hpi hat hl hgp hrg1 hlt hou2 hom hbk hbr hsr hjc hrg hs1 hs2 hbb
      unfold PC at hen HST HK2
      go_wp2_with fail
      generalize w1'.heap.size = bo at *
      generalize (w1'.alloc _) = w2 at *
      have HX : Hid (∀ T W, Ch T w2 W -> ¬ T g' -> ¬ T bo -> W.cell? ⟨g', 0, none⟩ = some (.map (some m')) /\ W.cell? ⟨bo, 0, none⟩ = some (.int .i64 p.view) /\ W.cell? ⟨bo, 1, none⟩ = some (.int .i64 p.seq) /\ W.cell? ⟨bo, 2, none⟩ = some (.int .i64 p.dig) /\ W.cell? ⟨bo, 3, none⟩ = some (.int .i64 p.first.1) /\ W.cell? ⟨bo, 4, none⟩ = some (.int .i64 p.first.2) /\ W.cell? ⟨bo, 5, none⟩ = some (.slice qa p.signs.length qc) /\ W.cell? ⟨bo, 6, none⟩ = some (.slice qb p.batch.length qd)) := Lib.hid (fun T W c h1 h2 => by
        have k1 := HST.out.2.2.2.1.ch c h1
        have k2 := HK2.out.ch c h2
        exact ⟨k1.cell 0, k2.cell 0, k2.cell 1, k2.cell 2, k2.cell 3, k2.cell 4, k2.cell 5, k2.cell 6⟩)
      have hdr : Below w2.heap.size w2 w2.drew := below_drewN (Below.refl _ _) 1
      have q2 := HX.out (fun _ => False) w2.drew (Ch.of_below hdr (Nat.le_refl _)) (fun h => h) (fun h => h)
      have HPC : Hid (Calls Tryz.prog 59 #[.agg #[.int .i64 p.view, .int .i64 p.seq, .int .i64 p.dig, .int .i64 p.first.1, .int .i64 p.first.2, .slice qa p.signs.length qc, .slice qb p.batch.length qd]] w2.drew fun e w3 => ∃ q, e = .returned (.agg (PC p q)) /\ OwnP w2 p q w3) := Lib.hid ((pclone_any w2.drew _ p ((qa, qc), (qb, qd)) (HST.out.2.2.2.2.2.2.after hdr) HOK.out.2.1).mono (by
        rintro e w3 ⟨q, he, hw⟩
        exact ⟨q, he, hw.base hdr⟩))
      have HBG : Hid (bo < w2.heap.size) := Lib.hid HK2.out.lt
      have HBO : Hid (bo ≠ m') := Lib.hid (fun e => by
        have h1 := HK2.out
        rw [e] at h1
        obtain ⟨es, cl, h2, -⟩ := HST.out.2.1
        unfold Blk at h1
        rw [h1] at h2
        cases h2)
      have HKK : Hid (keyOf Tryz.prog 2 (.int .i64 p.seq) = some (.int .i64 p.seq)) := Lib.hid (key_ok HOK.out.1)
      have HJ : Hid (j < maxLen) := Lib.hid (by have := HLT.out; have := HGM.out.2.2.2.2.2.2.2; simp only [maxLen]; omega)
      clear hdr
      go_region_held3 (fun w' => w'.cell? ⟨g', 0, none⟩ = some (.map (some m')) /\ w'.cell? ⟨bo, 0, none⟩ = some (.int .i64 p.view) /\ w'.cell? ⟨bo, 1, none⟩ = some (.int .i64 p.seq) /\ w'.cell? ⟨bo, 2, none⟩ = some (.int .i64 p.dig) /\ w'.cell? ⟨bo, 3, none⟩ = some (.int .i64 p.first.1) /\ w'.cell? ⟨bo, 4, none⟩ = some (.int .i64 p.first.2) /\ w'.cell? ⟨bo, 5, none⟩ = some (.slice qa p.signs.length qc) /\ w'.cell? ⟨bo, 6, none⟩ = some (.slice qb p.batch.length qd)) (first | with_reducible exact q2 | with_reducible exact j3 | with_reducible exact j4 | (go_keep; done))
        (first | (go_at_call 59; refine HPC.out.mono ?_; rintro e w3 ⟨q, rfl, hown⟩; have hc3 : Ch (fun _ => False) w2 w3 := Ch.of_below hown.below (Nat.le_refl _); have j3 := HX.out _ w3 hc3 (fun h => h) (fun h => h); obtain ⟨w4, hst, hmap4, hturn4⟩ := (map_ch HST.out.2.1 hc3 (fun h => h)).store law_i64 Tryz.underlying99 HJ.out HKK.out (val := .agg (PC p q)) (rfl : RV _ = some (.held _, [])); have hc4 : Ch (fun k => k = m') w3 w4 := Ch.of_grown hturn4.grown (fun k hk _ => (Option.some.inj hk).symm); have hc24 : Ch (fun k => k = m') w2 w4 := hc3.mono (fun _ _ h => h.elim) |>.trans hc4 (fun _ _ h => h); have j4 := HX.out _ w4 hc24 HBB.out.2.2.2.2.1 HBO.out))
      have hs3 := hc3.size
      have hs4 := hc4.size
      have hbb := HBB.out
      have hb6 := HST.out.2.2.2.2.2.1
      have HREL : Hid (w4.ranges Tryz.prog 2 RV m r l.length D (fun z => left z && !z.sameKey (.int .i64 p.seq)) cnt1 /\ w4.ownsMap Tryz.prog 2 RV m' (j + 1) (D'.put (.int .i64 p.seq) (.held (.agg (PC p q)))) /\ j + 1 + cnt1 <= l.length /\ Out w4 (fun k => k < B) (D'.put (.int .i64 p.seq) (.held (.agg (PC p q)))) l (fun z => left z && !z.sameKey (.int .i64 p.seq)) (fun _ => true) /\ Blk w4 g' 101 #[.map (some m')] /\ Below w.heap.size w w4 /\ B <= w4.heap.size) := Lib.hid
        ⟨ranges_ch HST.out.1 hc24 (by omega) (by omega), hmap4, by have := HLT.out; omega, ((HST.out.2.2.1.ch hc3 (fun k _ h => h.elim)).put HOK.out.2.2.1 HOK.out.2.2.2 rfl HOK.out.1 ((map_ch HST.out.2.1 hc3 (fun h => h)).tidy law_i64) (hown.pi.weaken (fun k _ hk => by show k < w2.heap.size; have hk' : k < B := hk; omega))).ch hc4 (fun k _ hk => (by omega : k < B)), HST.out.2.2.2.1.ch hc24 (by omega), HST.out.2.2.2.2.1.trans (hc24.below (fun k hk e => by omega) HST.out.2.2.2.2.1.size), by omega⟩
      clear hs3 hs4 hbb hb6 hmap4 hturn4 hc4 hc24 hown hc3 q2 j3 j4 hst
      go_wp2_with fail
      go_roundw
      case rel => exact ⟨_, cnt1, j + 1, _, HREL.out⟩
      case measure => rw [HREL.out.1.left_eq, HLT.out.2.1.left_eq]; exact HLT.out.1
end Go.Proofs.YtmhmnkpaijoaaaaGreat.Puj
