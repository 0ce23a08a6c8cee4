/-
  A range over a function that makes blocks of its own whenever it likes: as Kr's and Ks's, but what a round keeps lies in blocks that were there before. For any layer; nothing of a program is in it.
-/
import Derived.Test.YtjjfhbbaabakmaaGreatDoorWS02
import Derived.RangeFuncNested
import Derived.RangeFuncBound
import Derived.RangeFuncCalls
import Derived.RangeFuncLeaves
import Derived.RangeFuncWrites
import Derived.Test.YtjjfhbbaabakmaaGreatDoorWS10
import Derived.OwnWalkIn
import Derived.TacticsInMore
import Derived.LoopNIn
import Derived.LoopIn
import Derived.Stop.RegionWithIn
namespace Go.Proofs.YtjjfhbbaabakmaaGreatDoor.Ue
set_option linter.unusedSimpArgs false
open Go Go.RowKit Ck Kw Kr
set_option linter.unusedVariables false

/-- What an iterator owes that hands on the parts bs, one behind the other: a round writes to blocks of S alone (and to new ones); what it keeps bears any change of blocks made since the iterator was called. -/
def SeqB {β : Type} (F : Fence) (n : Nat) (P : Program) (g : Nat) (lb : Array Value) (R : Nat → β → Array Value → World → Prop) (S : Nat → Prop) (bs : List β) (w : World) : Prop :=
  ∀ (l : Nat) (J Jx : Nat → World → Prop) (W : World), Below w.heap.size w W → w.heap.size + 2 ≤ W.heap.size →
    (∀ k A B, J k A → W.heap.size ≤ A.heap.size → Ch (fun q => W.heap.size ≤ q) A B → J k B) → (∀ k A B, Jx k A → W.heap.size ≤ A.heap.size → Ch (fun q => W.heap.size ≤ q) A B → Jx k B) →
    (∀ (k : Nat) (h : k < bs.length) (args : Array Value) (W1 : World), J k W1 → Ch (fun q => S q ∨ W.heap.size ≤ q) W W1 → R W.heap.size bs[k] args W1 → YieldAt F (n - 1) P l args W1 fun e W' =>
      (e = .returned (.bool true) ∧ J (k + 1) W' ∧ Ch S W1 W') ∨ (e = .returned (.bool false) ∧ Jx (k + 1) W' ∧ Ch S W1 W')) →
    J 0 W →
    CallsIn F n P g (#[.func (.yield l) #[] #[]] ++ lb) W fun e W' => (∃ v, e = .returned v) ∧ Ch (fun q => S q ∨ W.heap.size ≤ q) W W' ∧ (J bs.length W' ∨ ∃ k, k ≤ bs.length ∧ Jx k W')

section
variable {F : Fence} {n : Nat} {P : Program}
theorem wpIn_rangeB {β : Type} {g : Operand} {ps : Array Tmp} {assign body : Code} {Q : Exit → Act → World → Prop} {a : Act} {w : World}
    (hro : F.round = none) (h1 : 1 ≤ n) {gf : Nat} {lb : Array Value} (hg : a.eval g = .func (.func gf) #[] lb) (hFg : F.fn gf) (eg : ∀ args w, (callFunc gf args).run P w = .ok (.enter gf args) w)
    {R : Nat → β → Array Value → World → Prop} {X : Nat → Prop} {bs : List β} (hseq : SeqB F (n - 1) P gf lb R (fun q => X q ∨ Bk w.heap.size q) bs w) (hX : ∀ k, X k → k < w.heap.size)
    (hps : ∀ B b args W, R B b args W → args.size = ps.size) (hR : ∀ b args W W', R (w.heap.size + 2) b args W → Ch (Bk w.heap.size) W W' → R (w.heap.size + 2) b args W')
    (I : Nat → World → Prop) (Ix : Code → Nat → World → Prop)
    (hI : ∀ k W W', I k W → w.heap.size ≤ W.heap.size → Ch (fun q => w.heap.size ≤ q) W W' → I k W') (hIx : ∀ c k W W', Ix c k W → w.heap.size ≤ W.heap.size → Ch (fun q => w.heap.size ≤ q) W W' → Ix c k W') (h0 : I 0 w) (a₁ : Array Value → Act)
    (hassign : ∀ (l : Nat) (args : Array Value) (W : World) (K : Act → World → Prop), args.size = ps.size → K (a₁ args) W →
      assign.wpIn (F.inRound l) (n - 1 - 1) P (Exit.then K (fun _ _ _ => False)) { tmps := (ps.zip args).foldl (fun t (p, v) => t.setIfInBounds p v) a.tmps, defers := [] } W)
    (hbody : ∀ (l k : Nat) (h : k < bs.length) (args : Array Value) (W : World), w.heap.size + 2 ≤ W.heap.size → Ch (fun q => X q ∨ w.heap.size ≤ q) w W → I k W → R (w.heap.size + 2) bs[k] args W → body.wpIn (F.inRound l) (n - 1 - 1) P (PostR w.heap.size X I Ix (k + 1) W) (a₁ args) W)
    (hdone : ∀ (W : World), Ch (fun q => X q ∨ w.heap.size ≤ q) w W → I bs.length W → W.heap[w.heap.size]? = some (.deferred (some [])) → Q .normal { a with defers := { target := .collected w.heap.size, args := #[] } :: a.defers } W)
    (hstop : ∀ (c : Code) (k : Nat) (W : World), k ≤ bs.length → Ch (fun q => X q ∨ w.heap.size ≤ q) w W → Ix c k W → W.heap[w.heap.size]? = some (.deferred (some [])) → c.wpIn F n P Q { a with defers := { target := .collected w.heap.size, args := #[] } :: a.defers } W) :
    (Code.rangeFunc g ps assign body).wpIn F n P Q a w := by
  refine wpIn_rangeFunc ?_
  intro fn hfn
  rw [hro]
  obtain ⟨D, hD⟩ : ∃ D, D = w.heap.size := ⟨_, rfl⟩
  obtain ⟨rec, hrec⟩ : ∃ rec : LoopState → Option Code → Loop, rec = fun st pe => { state := st, pending := pe, fn, tmps := a.tmps, params := ps, assign, body, defers := w.heap.size } := ⟨_, rfl⟩
  obtain ⟨W1, hW1⟩ : ∃ W1, (w.alloc (.deferred (some []))).alloc (.loop (rec .ready none)) = W1 := ⟨_, rfl⟩
  have hsz1 : W1.heap.size = D + 2 := by rw [← hW1, hD]; simp
  have hb1 : Below w.heap.size w W1 := by rw [← hW1]; exact ((Below.refl _ w).alloc (Nat.le_refl _) _).alloc (by simp) _
  have hL1 : W1.heap[D + 1]? = some (.loop (rec .ready none)) := by
    have := World.alloc_heap_new (w.alloc (.deferred (some []))) (.loop (rec .ready none))
    rw [World.size_alloc, hW1, ← hD] at this
    exact this
  have hK1 : W1.heap[D]? = some (.deferred (some [])) := by
    rw [← hW1, hD]; exact (Below.heap_alloc _ _ _ (by simp)).trans (World.alloc_heap_new w _)
  have hI1 : I 0 W1 := hI 0 w W1 h0 (Nat.le_refl _) (Ch.of_below (S := fun q => w.heap.size ≤ q) hb1 (Nat.le_refl _))
  have hpo : ∀ (W : World) (o : Obj), Ch (Bk w.heap.size) W (W.putObj (D + 1) o) := fun W o => (ch_putObj W (D + 1) o).mono (fun k _ e => .inr (by rw [e, hD]))
  have hbk : ∀ k, Bk w.heap.size k → (X k ∨ Bk w.heap.size k) := fun k h => .inr h
  have hbt : ∀ k, Bk w.heap.size k → (X k ∨ w.heap.size ≤ k) := fun k h => .inr (by rcases h with h | h <;> omega)
  have hbm : ∀ {A B : World}, Ch (Bk w.heap.size) A B → Ch (fun q => w.heap.size ≤ q) A B := fun c => c.mono (fun k _ h => by rcases h with h | h <;> (show w.heap.size ≤ k; omega))
  have hup : ∀ {A B : World}, Ch (fun q => X q ∨ Bk w.heap.size q) A B → Ch (fun q => X q ∨ w.heap.size ≤ q) A B := fun c => c.mono (fun k _ h => h.elim .inl (fun h => hbt k h))
  refine ⟨D + 1, [{ target := .collected D, args := #[] }], W1, { target := .fn (.func gf) lb, args := #[.func (.yield (D + 1)) #[] #[]] }, W1, gf, #[.func (.yield (D + 1)) #[] #[]] ++ lb, W1, ?_, ?_, ?_, ?_, fun _ => h1, ?_⟩
  · rw [← hW1, hrec, hD]; exact run_enterLoop_outer _ _ _ _ _
  · simp only [resolve, hg]
    simp [go_sem]
  · intro f' hf'
    simp [Target.leads] at hf'
    subst hf'
    exact hFg
  · simp [invoke, go_sem, eg]
  · have keep : ∀ {A B : World} {j : Nat} {o : Obj}, A.heap[j]? = some o → Ch (fun q => W1.heap.size ≤ q) A B → j < D + 2 → B.heap[j]? = some o := fun ho hb hj => (hb.block _ (Array.getElem?_eq_some_iff.1 ho).1 (fun h => by omega)).trans ho
    have bch : ∀ {A B : World}, Ch (fun q => W1.heap.size ≤ q) A B → Ch (fun q => w.heap.size ≤ q) A B := fun hb => hb.mono (fun k _ h => by show w.heap.size ≤ k; have h' : W1.heap.size ≤ k := h; omega)
    have bch2 : ∀ {A B : World}, Ch (fun q => W1.heap.size ≤ q) A B → Ch (fun q => X q ∨ w.heap.size ≤ q) A B := fun hb => hb.mono (fun k _ h => .inr (by have h' : W1.heap.size ≤ k := h; omega))
    refine (hseq (D + 1)
      (fun k W => I k W ∧ Ch (fun q => X q ∨ w.heap.size ≤ q) w W ∧ W.heap[D + 1]? = some (.loop (rec .ready none)) ∧ W.heap[D]? = some (.deferred (some [])))
      (fun k W => ∃ c, Ix c k W ∧ Ch (fun q => X q ∨ w.heap.size ≤ q) w W ∧ W.heap[D + 1]? = some (.loop (rec .done (some c))) ∧ W.heap[D]? = some (.deferred (some [])))
      W1 hb1 (by omega)
      (fun k A B hs hsz hb => ⟨hI k A B hs.1 hs.2.1.size (bch hb), hs.2.1.trans (bch2 hb) (fun j hj h => h), keep hs.2.2.1 hb (by omega), keep hs.2.2.2 hb (by omega)⟩)
      (fun k A B hs hsz hb => by
        obtain ⟨c, h1, h2, h3, h4⟩ := hs
        exact ⟨c, hIx c k A B h1 h2.size (bch hb), h2.trans (bch2 hb) (fun j hj h => h), keep h3 hb (by omega), keep h4 hb (by omega)⟩)
      ?_ ⟨hI1, Ch.of_below hb1 (Nat.le_refl _), hL1, hK1⟩).mono ?_
    · -- a round
      rintro k hk args W ⟨hi, hc, hl, hd⟩ hc1 hr
      rw [hsz1, hD] at hr
      have hsz : D + 2 ≤ W.heap.size := by have := hc1.size; omega
      have hy := run_yield (P := P) (args := args) hl (by rw [hrec]; exact hps _ _ _ _ hr)
      rw [hrec] at hy
      refine ⟨fn, _, assign, body, hy, roundIn_of_wpIn hfn (hassign (D + 1) args W _ (hps _ _ _ _ hr) ?_)⟩
      refine ⟨_, run_beginRound hl (by rw [hrec]), ?_⟩
      have hpo1 := hpo W (.loop { rec .ready none with state := .busy })
      have hl2 : (W.putObj (D + 1) (.loop { rec .ready none with state := .busy })).heap[D + 1]? = some (.loop { rec .ready none with state := .busy }) := World.putObj_heap_same (by omega)
      have hd2 : (W.putObj (D + 1) (.loop { rec .ready none with state := .busy })).heap[D]? = some (.deferred (some [])) := (World.putObj_heap_other (by omega)).trans hd
      refine wpIn_mono (hbody (D + 1) k hk args _ (by rw [putObj_size]; omega) (hc.trans (hup (hpo1.mono (fun j _ h => hbk j h))) (fun j _ h => h)) (hI k _ _ hi hc.size (hbm hpo1)) (hR _ _ _ _ hr hpo1)) ?_
      -- behind the round
      have fin : ∀ (jump : Option Code) (W3 : World), Ch (fun j => X j ∧ ¬ Bk w.heap.size j) (W.putObj (D + 1) (.loop { rec .ready none with state := .busy })) W3 →
          (Instr.endRound (D + 1) jump).run P W3 = .ok (.bool jump.isNone) (W3.putObj (D + 1) (.loop (rec (if jump.isNone then .ready else .done) jump))) ∧
          (W3.putObj (D + 1) (.loop (rec (if jump.isNone then .ready else .done) jump))).heap[D + 1]? = some (.loop (rec (if jump.isNone then .ready else .done) jump)) ∧
          (W3.putObj (D + 1) (.loop (rec (if jump.isNone then .ready else .done) jump))).heap[D]? = some (.deferred (some [])) ∧
          Ch (fun q => X q ∨ Bk w.heap.size q) W (W3.putObj (D + 1) (.loop (rec (if jump.isNone then .ready else .done) jump))) := fun jump W3 c3 => by
        have e1 := c3.block (D + 1) (by have := hpo1.size; omega) (fun h => h.2 (.inr (by rw [hD])))
        have e0 := c3.block D (by have := hpo1.size; omega) (fun h => h.2 (.inl hD))
        have hl3 := e1.trans hl2
        have hend := run_endRound (P := P) jump hl3
        have hlt := (Array.getElem?_eq_some_iff.1 hl3).1
        rw [hrec] at hend ⊢
        refine ⟨hend, World.putObj_heap_same hlt, (World.putObj_heap_other (by omega)).trans (e0.trans hd2), ?_⟩
        exact ((hpo1.mono (fun j _ h => hbk j h)).trans (c3.mono (fun j _ h => .inl h.1)) (fun j _ h => h)).trans ((hpo W3 _).mono (fun j _ h => hbk j h)) (fun j _ h => h)
      rintro e a3 W3 hp
      cases e with
      | normal =>
        obtain ⟨c3, hi3⟩ := hp
        obtain ⟨hr3, hl4, hd4, c4⟩ := fin none W3 c3
        exact ⟨_, _, hr3, .inl ⟨rfl, ⟨hI _ _ _ hi3 (by have h1 := c3.size; rw [putObj_size] at h1; omega) (hbm (hpo W3 _)), hc.trans (hup c4) (fun _ _ h => h), hl4, hd4⟩, c4⟩⟩
      | ret =>
        obtain ⟨c3, hi3⟩ := hp
        obtain ⟨hr3, hl4, hd4, c4⟩ := fin (some .ret) W3 c3
        exact ⟨_, _, hr3, .inr ⟨rfl, ⟨.ret, hIx _ _ _ _ hi3 (by have h1 := c3.size; rw [putObj_size] at h1; omega) (hbm (hpo W3 _)), hc.trans (hup c4) (fun _ _ h => h), hl4, hd4⟩, c4⟩⟩
      | exit id =>
        obtain ⟨c3, hi3⟩ := hp
        obtain ⟨hr3, hl4, hd4, c4⟩ := fin (some (.exit id)) W3 c3
        exact ⟨_, _, hr3, .inr ⟨rfl, ⟨.exit id, hIx _ _ _ _ hi3 (by have h1 := c3.size; rw [putObj_size] at h1; omega) (hbm (hpo W3 _)), hc.trans (hup c4) (fun _ _ h => h), hl4, hd4⟩, c4⟩⟩
      | goto t =>
        obtain ⟨c3, hi3⟩ := hp
        obtain ⟨hr3, hl4, hd4, c4⟩ := fin (some (.goto t)) W3 c3
        exact ⟨_, _, hr3, .inr ⟨rfl, ⟨.goto t, hIx _ _ _ _ hi3 (by have h1 := c3.size; rw [putObj_size] at h1; omega) (hbm (hpo W3 _)), hc.trans (hup c4) (fun _ _ h => h), hl4, hd4⟩, c4⟩⟩
      | panic ch => exact hp.elim
      | outgrown => exact hp.elim
    · -- behind the iterator
      rintro e W2 ⟨⟨v, rfl⟩, -, (⟨hi, hc, hl, hd⟩ | ⟨k, hk, c, hi, hc, hl, hd⟩)⟩
      · refine ⟨none, _, by have := run_endLoop (P := P) hl (by rw [hrec]; simp); rw [hrec] at this; exact this, ?_⟩
        have hp := hpo W2 (.loop { rec .ready none with state := .exhausted })
        rw [hrec] at hp
        have := hdone _ (hc.trans (hup (hp.mono (fun j _ h => hbk j h))) (fun j _ h => h)) (hI _ _ _ hi hc.size (hbm hp)) ((World.putObj_heap_other (by omega)).trans (by rw [← hD]; exact hd))
        subst hD
        exact this
      · refine ⟨some c, _, by have := run_endLoop (P := P) hl (by rw [hrec]; simp); rw [hrec] at this; exact this, ?_⟩
        have hp := hpo W2 (.loop { rec .done (some c) with state := .exhausted })
        rw [hrec] at hp
        have := hstop c k _ hk (hc.trans (hup (hp.mono (fun j _ h => hbk j h))) (fun j _ h => h)) (hIx _ _ _ _ hi hc.size (hbm hp)) ((World.putObj_heap_other (by omega)).trans (by rw [← hD]; exact hd))
        subst hD
        exact this

/-- So many marks: the blocks that collected no call are shut, one behind the other. -/
theorem leaves_marks {fn : Func} {tmps : Array Value} {R : Ending → World → Prop} {u : FrameMode} (hu : u ≠ .run) : ∀ (Ds : List Nat) (w : World), Ds.Nodup → (∀ D ∈ Ds, w.heap[D]? = some (.deferred (some []))) →
    (∀ w', Ch (fun k => k ∈ Ds) w w' → LeavesIn F n P fn tmps R [] u w') → LeavesInM F n P fn tmps R (Ds.map fun D => { target := .collected D, args := #[] }) u w
  | [], w, _, _, h => h w (Ch.refl _ _)
  | D :: Ds, w, hn, hd, h => by
    rw [List.nodup_cons] at hn
    refine ⟨hu, .inl ⟨D, _, rfl, run_takeDeferred (hd D (List.mem_cons_self ..)), ?_⟩⟩
    have c1 := ch_putObj w D (.deferred none)
    refine leaves_marks hu Ds _ hn.2 (fun E hE => ?_) (fun w' c => h w' ((c1.mono (fun k _ e => by rw [e]; exact List.mem_cons_self ..)).trans c (fun k _ hk => List.mem_cons_of_mem _ hk)))
    rw [World.putObj_heap_other (fun e => hn.1 (by rw [← e]; exact hE))]
    exact hd E (List.mem_cons_of_mem _ hE)
end

end Go.Proofs.YtjjfhbbaabakmaaGreatDoor.Ue

/-
  Layer 4: the iterator that a segment hands on.
-/
namespace Go.Proofs.YtjjfhbbaabakmaaGreatDoor.Uf
set_option linter.unusedSimpArgs false
open Go Go.RowKit Go.Shelf Ck Kw Ga Dm Kr Ue Wl Wj
attribute [local go_sem ↓] Go.wp_at_zero Go.wp_at_succ
attribute [local go_sem] Oper.semAt_some
set_option linter.unusedVariables false
set_option maxRecDepth 100000

/-- Records with their numbers. -/
def offs : Nat → List Tx → List (Nat × Tx)
  | _, [] => []
  | o, x :: l => (o, x) :: offs (o + 1) l
theorem offs_len : ∀ (o : Nat) (xs : List Tx), (offs o xs).length = xs.length
  | _, [] => rfl
  | o, x :: l => by simp [offs, offs_len]
theorem offs_get : ∀ (o : Nat) (xs : List Tx) (k : Nat) (h : k < xs.length), (offs o xs)[k]'(by rw [offs_len]; exact h) = (o + k, xs[k])
  | o, x :: l, 0, h => by simp [offs]
  | o, x :: l, k + 1, h => by
    have := offs_get (o + 1) l k (by simpa using h)
    simp only [offs, List.getElem_cons_succ, this]
    congr 1
    omega
/-- A number, and a record of one's own. -/
def Rt2 (B : Nat) (p : Nat × Tx) (args : Array Value) (W : World) : Prop :=
  ∃ A c, args = #[.int .i64 (p.1 : Int), .slice A p.2.length c] ∧ W.ownsRow B 5 1 (.slice A p.2.length c) p.2.length (BVs p.2)
theorem wide_some : Fence.wide.depth.isSome = true → False := fun h => by cases h
theorem op_below (w : World) (x : Obj) : Below w.heap.size w (w.alloc x) := (Below.refl _ w).alloc (Nat.le_refl _) _
/-- At the wide fence a round may stand as deep as it likes. -/
theorem round_deep {m m' l : Nat} {P : Program} {f : FuncId} {tmps : Array Value} {assign body : Code} {w : World} {R : Ending → World → Prop} (h : RoundIn Fence.wide m P l f tmps assign body w R) : RoundIn Fence.wide m' P l f tmps assign body w R :=
  ⟨h.1, fun c cs _ => h.2 c cs (room_wide _)⟩
theorem round_in {m l l' : Nat} {P : Program} {f : FuncId} {tmps : Array Value} {assign body : Code} {w : World} {R : Ending → World → Prop} (h : RoundIn Fence.wide m P l f tmps assign body w R) : RoundIn (Fence.wide.inRound l') m P l f tmps assign body w R := h
theorem round_mono {F : Fence} {m l : Nat} {P : Program} {f : FuncId} {tmps : Array Value} {assign body : Code} {w : World} {R R' : Ending → World → Prop} (h : RoundIn F m P l f tmps assign body w R) (hr : ∀ e w, R e w → R' e w) : RoundIn F m P l f tmps assign body w R' :=
  ⟨h.1, fun c cs hc => by obtain ⟨e, w', h1, h2⟩ := h.2 c cs hc; exact ⟨e, w', hr _ _ h1, h2⟩⟩
theorem all_ret (w : World) (s : Sg) (v : Value) : Calls Tryz.prog 48 #[.agg (SgV s v)] w fun e w' =>
    e = .returned (.func (.func 66) #[] #[.pointer (some ⟨w.heap.size, 0, none⟩)]) ∧ w' = w.alloc (.cells (SgV s v) 76) := by
  unfold SgV
  go_enter Tryz.func48, Tryz.ntmps48
  go_wp2
  go_ret
  exact ⟨rfl, rfl⟩

set_option maxHeartbeats 4000000 in
theorem sall_seq (n : Nat) (hn : 2 ≤ n) (S T : Nat → Prop) (w : World) (Bc : Nat) (s : Sg) (A : Option Addr) (c : Nat) (hB : Blk w Bc 76 (SgV s (.slice A s.recs.length c))) (hBS : ¬ S Bc) (h : Rcs w T (.slice A s.recs.length c) s.recs)
    (hT : ∀ k, T k → ¬ S k) (hf : s.first ≤ 9007199254740992) (hfew : s.recs.length ≤ 4194304) (hxl : ∀ x ∈ s.recs, x.length ≤ 549755813888) :
    SeqB Fence.wide n Tryz.prog 66 #[.pointer (some ⟨Bc, 0, none⟩)] Rt2 S (offs s.first s.recs) w := by
  intro l J Jx W hW hsz hJ hJx hY h0
  rw [offs_len]
  obtain ⟨vals, h1, hv, h2⟩ := h
  have HBW : Hid (∀ wr, Ch (fun q => S q ∨ W.heap.size ≤ q) W wr → Blk wr Bc 76 (SgV s (.slice A s.recs.length c)) ∧ wr.ownsRow 0 32 1 (.slice A s.recs.length c) s.recs.length vals ∧
      (∀ i (hi : i < s.recs.length), ∃ A c, vals[i]? = some (.slice A s.recs[i].length c) ∧ wr.ownsRow 0 5 1 (.slice A s.recs[i].length c) s.recs[i].length (BVs s.recs[i]))) := Lib.hid fun wr hc =>
    ⟨(hB.below hW hB.lt).ch hc (fun h => by have := hB.lt; rcases h with h | h; exact hBS h; omega), own_ch (own_below h1 hW) hc (fun k hk h => by have := (h1.lt k hk).2; rcases h with h | h; exact hT k (hv k hk) h; omega), fun i hi => by
      obtain ⟨Ai, ci, hu, hs, ht⟩ := h2 i hi
      exact ⟨Ai, ci, hu, own_ch (own_below hs hW) hc (fun k hk h => by have := (hs.lt k hk).2; rcases h with h | h; exact hT k (ht k hk) h; omega)⟩⟩
  have HJ := Lib.hid hJ
  have HY := Lib.hid hY
  unfold SgV at HBW
  clear hB h1 h2 hJ hY hv
  obtain ⟨hbk, -, -⟩ := HBW.out W (Ch.refl _ _)
  have c3 : W.cell? ⟨Bc, 3, none⟩ = some (.slice A s.recs.length c) := hbk.cell 3
  clear hbk
  refine callsIn_of_wp Tryz.func66 rfl trivial ?_ rfl
  simp only [Tryz.ntmps66, List.size_toArray, List.length_cons, List.length_nil, Nat.reduceAdd, Nat.reduceSub, Array.replicate_succ, Array.replicate_zero, List.push_toArray, List.append_toArray, List.nil_append, List.cons_append]
  gi_wp2
  clear c3
  gi_loopw [8] (fun p wr => ∃ k : Nat, k ≤ s.recs.length ∧ p = .int .i64 (k : Int) ∧ J k wr ∧ Ch (fun q => S q ∨ W.heap.size ≤ q) W wr) (fun p _ => s.recs.length - (intOf p).toNat)
  case atStart => exact ⟨0, Nat.zero_le _, rfl, h0, Ch.refl _ _⟩
  case round =>
    obtain ⟨k, hk, rfl, hJs, hcs⟩ := hrel
    by_cases hlt : k < s.recs.length
    · obtain ⟨hbk, ho, hel⟩ := HBW.out _ hcs
      have c1 : wr.cell? ⟨Bc, 1, none⟩ = some (.int .i64 (s.first : Int)) := hbk.cell 1
      obtain ⟨Au, cu, hu, hs⟩ := hel k hlt
      obtain ⟨g', hA, hcell⟩ : ∃ g', A = some ⟨g', 0, none⟩ ∧ wr.cell? ⟨g', k, none⟩ = some (.slice Au s.recs[k].length cu) := by
        obtain ⟨g', c', hv, hb, hlt'⟩ := ho.form (by omega)
        obtain ⟨rfl, _, rfl⟩ := Value.slice.inj hv
        exact ⟨g', rfl, by rw [ho.cellAt k (by omega), hu]⟩
      subst hA
      have hxk := hxl _ (List.getElem_mem hlt)
      have hof := offs_get s.first s.recs k hlt
      have HYK := fun args W1 hj hc hr => Lib.hid (HY.out k (by rw [offs_len]; exact hlt) args W1 hj hc (by rw [hof]; exact hr))
      have HCL := Lib.hid (Ga.clone_sh (fun _ => False) (.slice Au s.recs[k].length cu) s.recs[k].length s.recs[k] wr.drew (show Sl wr.drew _ _ _ _ _ from Sl.of_own hs (fun _ _ _ h => h)) (by omega))
      generalize s.recs[k] = x at *
      have HC := Lib.hid (And.intro hcs hJs)
      have HBK := Lib.hid hbk
      have hszw := hcs.size
      have hw : IntKind.i64.wrap ((s.first : Int) + (k : Int)) = (s.first : Int) + (k : Int) := Ga.wrap64 (by omega) (by omega)
      have hw0 : IntKind.i64.wrap (k : Int) = (k : Int) := Ga.wrap64 (by omega) (by omega)
      have hltI : (k : Int) < (s.recs.length : Int) := by omega
      clear hbk ho hel hu hs hcs hJs hof
      gi_wp2_with fail
      gi_region_with (first
        | (refine ⟨trivial, fun h => (wide_some h).elim, callsIn_wide.2 (HCL.out.mono ?_)⟩; rintro e w3 ⟨A3, c3, rfl, ho3, hb3⟩; have hb3 : Below wr.heap.size wr w3 := below_of_drew hb3; have hbk3 := HBK.out.below hb3 HBK.out.lt; have c13 : w3.cell? ⟨Bc, 1, none⟩ = some (.int .i64 (s.first : Int)) := hbk3.cell 1; have HB3 := Lib.hid hb3; have hcw3 := HC.out.1.trans (Ch.of_below (S := fun q => S q ∨ W.heap.size ≤ q) hb3 (Nat.le_refl _)) (fun _ _ h => h); have hj3 := HJ.out k wr w3 HC.out.2 hszw (Ch.of_below hb3 (Nat.le_refl _)); obtain ⟨fn, tmps, assign, body, hy, hRd⟩ := (HYK #[.int .i64 ((s.first : Int) + (k : Int)), .slice A3 x.length c3] w3 hj3 hcw3 ⟨A3, c3, by rw [← Int.natCast_add], own_base (show w3.ownsRow wr.heap.size _ _ _ _ _ from ho3) (by omega)⟩).out; have HRD := Lib.hid (round_deep (m' := n - 1) (round_mono hRd (R' := fun e W' => ∃ b : Bool, e = .returned (.bool b) ∧ (b = true → J (k + 1) W') ∧ (b = false → Jx (k + 1) W') ∧ Ch S w3 W') (fun e W' h => by rcases h with ⟨h1, h2, h3⟩ | ⟨h1, h2, h3⟩; exact ⟨true, h1, fun _ => h2, (fun h => by cases h), h3⟩; exact ⟨false, h1, (fun h => by cases h), fun _ => h2, h3⟩))); have HCW3 := Lib.hid hcw3; clear hRd ho3 hb3 hbk3 hj3 hcw3)
        | (refine ⟨fun h => (wide_some h).elim, HRD.out.mono ?_⟩; rintro e W3 ⟨bb, rfl, hb1, hb2, hc3⟩))
      all_goals
        have HFIN := Lib.hid (HCW3.out.trans (hc3.mono (T := fun q => S q ∨ W.heap.size ≤ q) (fun _ _ h => .inl h)) (fun _ _ h => h))
        have HB1 := Lib.hid hb1
        have HB2 := Lib.hid hb2
        clear hc3 hb1 hb2 c1 c13 hcell hy
        cases bb with
        | true =>
          gi_wp2_with fail
          go_roundw
          case rel => exact ⟨k + 1, by omega, by go_num, (by first | exact HB1.out rfl | exact HB1.out trivial), HFIN.out⟩
          case measure => simp [intOf]; omega
        | false =>
          gi_wp2_with fail
          refine bodyPost_ret (results_none rfl _ _ _) rfl ?_
          exact ⟨⟨_, rfl⟩, HFIN.out, .inr ⟨k + 1, by omega, (by first | exact HB2.out rfl | exact HB2.out trivial)⟩⟩
    · have hke : k = s.recs.length := by omega
      have HKE := Lib.hid hke
      have HC := Lib.hid hcs
      have HJ1 := Lib.hid hJs
      have hltI : ¬ (k : Int) < (s.recs.length : Int) := by omega
      have hltI2 : (s.recs.length : Int) ≤ (k : Int) := by omega
      clear hcs hJs hke
      gi_wp2_with fail
      refine bodyPost_end (results_none rfl _ _ _) rfl ?_
      have h1 := HJ1.out
      rw [HKE.out] at h1
      exact ⟨⟨_, rfl⟩, HC.out, .inl h1⟩
end Go.Proofs.YtjjfhbbaabakmaaGreatDoor.Uf
