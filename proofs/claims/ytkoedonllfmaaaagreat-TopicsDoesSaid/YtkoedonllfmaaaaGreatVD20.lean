/-
  Layer 7: the iterator that All hands on.
-/
import Derived.Test.YtkoedonllfmaaaaGreatVD17
import Derived.OwnWalkIn
import Derived.TacticsInMore
import Derived.LoopNIn
import Derived.LoopIn
import Derived.Test.YtkoedonllfmaaaaGreatVD02
import Derived.OrdersIn
import Derived.OrdersHeld
import Derived.Deep.RegionHeld
import Derived.RangeFuncCalls
namespace Go.Proofs.YtkoedonllfmaaaaGreat.Xk
set_option linter.unusedSimpArgs false
open Go Go.RowKit Go.Shelf Ck Kw Ga Kf Km Pm Pz Tm Tn Tq Aa Ab Ac Kr Br Ks Xj
attribute [local go_sem ↓] Go.wp_at_zero Go.wp_at_succ
attribute [local go_sem] Oper.semAt_some
set_option linter.unusedVariables false
set_option maxRecDepth 100000

/-- At the wide fence a round may stand as deep as it likes. -/
theorem round_deep {m m' l : Nat} {P : Program} {f : FuncId} {tmps : Array Value} {assign body : Code} {w : World} {R : Ending → World → Prop} (h : RoundIn Fence.wide m P l f tmps assign body w R) : RoundIn Fence.wide m' P l f tmps assign body w R :=
  ⟨h.1, fun c cs _ => h.2 c cs (room_wide _)⟩
theorem round_in {m l l' : Nat} {P : Program} {f : FuncId} {tmps : Array Value} {assign body : Code} {w : World} {R : Ending → World → Prop} (h : RoundIn Fence.wide m P l f tmps assign body w R) : RoundIn (Fence.wide.inRound l') m P l f tmps assign body w R := h
theorem round_mono {F : Fence} {m l : Nat} {P : Program} {f : FuncId} {tmps : Array Value} {assign body : Code} {w : World} {R R' : Ending → World → Prop} (h : RoundIn F m P l f tmps assign body w R) (hr : ∀ e w, R e w → R' e w) : RoundIn F m P l f tmps assign body w R' :=
  ⟨h.1, fun c cs hc => by obtain ⟨e, w', h1, h2⟩ := h.2 c cs hc; exact ⟨e, w', hr _ _ h1, h2⟩⟩
/-- An offset, and a record of one's own. -/
def Rt2 (B : Nat) (p : Int × Tx) (args : Array Value) (W : World) : Prop :=
  ∃ A c, args = #[.int .i64 p.1, .slice A p.2.length c] ∧ W.ownsRow B 5 1 (.slice A p.2.length c) p.2.length (BVs p.2)
theorem two_of {args : Array Value} (h : args.size = 2) : ∃ x y, args = #[x, y] := by
  obtain ⟨l⟩ := args
  match l, h with
  | [x, y], _ => exact ⟨x, y, rfl⟩
/-- The frame of All's closure, with the loop's variables. -/
def actA (l Bn B0 g B1 : Nat) (args : Array Value) : Act :=
  match args with
  | ⟨[x, y]⟩ => { tmps := #[.func (.yield l) #[] #[], .pointer (some ⟨Bn, 0, none⟩), .pointer (some ⟨B0, 0, none⟩), x, y, .pointer (some ⟨g, 0, none⟩), .func (.func 120) #[] #[.pointer (some ⟨B1, 0, none⟩)], x, y, undef, undef, undef, undef, undef, undef], defers := [] }
  | _ => { tmps := #[], defers := [] }

set_option maxHeartbeats 8000000 in
theorem all_seq (n : Nat) (hn : 4 ≤ n) (S T R : Nat → Prop) (w : World) (Bn g mg : Nat) (t : Tp) (v : Value) (hB : Blk w Bn 83 #[.pointer (some ⟨g, 0, none⟩)]) (hBS : ¬ S Bn) (h : Tg w T R g t v mg)
    (hT : ∀ k, T k → ¬ S k ∧ k < w.heap.size) (hR : ∀ k, R k → ¬ S k ∧ k < w.heap.size) (hb0 : 0 ≤ t.base) (hb1 : t.next ≤ maxNum) (hfew : t.recs.length ≤ 64) (h64 : ∀ x ∈ t.recs, x.length ≤ 64) :
    SeqM Fence.wide n Tryz.prog 111 #[.pointer (some ⟨Bn, 0, none⟩)] 4 Rt2 S (offs t.base t.recs) w := by
  intro l J Jx W hW hsz hno hJ hJx hY h0
  rw [offs_len]
  have HJ := Lib.hid hJ
  have HJX := Lib.hid hJx
  have HY := Lib.hid hY
  have HNO := Lib.hid hno
  have hBl := hB.lt
  have hwW := hW.size
  have hal := (op_below W (.cells #[.func (.yield l) #[] #[]] 168))
  have hk0 : Blk (W.alloc (.cells #[.func (.yield l) #[] #[]] 168)) W.heap.size 168 #[.func (.yield l) #[] #[]] := Blk.new W _ _
  have hs1 : (W.alloc (.cells #[.func (.yield l) #[] #[]] 168)).heap.size ≤ W.heap.size + 1 ∧ W.heap.size + 1 ≤ (W.alloc (.cells #[.func (.yield l) #[] #[]] 168)).heap.size := by simp
  have hB1 := (hB.below hW hBl).below hal (by omega)
  have cB := hB1.cell 0
  simp only [List.getElem?_toArray, List.getElem?_cons_zero] at cB
  have HAL := Lib.hid hal
  have HK0 := Lib.hid hk0
  have HT1 := Lib.hid (((h.ch (Ch.of_below (S := fun _ => False) hW (Nat.le_refl _)) (fun _ _ h => h) (fun _ _ h => h))).ch (Ch.of_below (S := fun _ => False) hal (Nat.le_refl _)) (fun _ _ h => h) (fun _ _ h => h))
  clear hJ hJx hY hno hal hk0 hB1 h
  refine callsIn_of_wp_marks Tryz.func111 rfl trivial ?_ rfl
  simp only [Tryz.ntmps111, List.size_toArray, List.length_cons, List.length_nil, Nat.reduceAdd, Nat.reduceSub, Array.replicate_succ, Array.replicate_zero, List.push_toArray, List.append_toArray, List.nil_append, List.cons_append]
  refine wpIn_wide.2 ?_
  go_wp2_with fail
  generalize (W.alloc (.cells #[.func (.yield l) #[] #[]] 168)) = W1 at *
  refine (all_ret W1 g).mono ?_
  rintro e W5 ⟨rfl, rfl⟩
  have hk5 : Blk (W1.alloc (.cells #[.pointer (some ⟨g, 0, none⟩)] 83)) W1.heap.size 83 #[.pointer (some ⟨g, 0, none⟩)] := Blk.new _ _ _
  have hb5 : Below W1.heap.size W1 (W1.alloc (.cells #[.pointer (some ⟨g, 0, none⟩)] 83)) := op_below _ _
  have hz5 : (W1.alloc (.cells #[.pointer (some ⟨g, 0, none⟩)] 83)).heap.size ≤ W1.heap.size + 1 ∧ W1.heap.size + 1 ≤ (W1.alloc (.cells #[.pointer (some ⟨g, 0, none⟩)] 83)).heap.size := by simp
  generalize W1.alloc (.cells #[.pointer (some ⟨g, 0, none⟩)] 83) = W5 at *
  have HT5 := Lib.hid (HT1.out.later hb5)
  have HK5 := Lib.hid (HK0.out.below hb5 HK0.out.lt)
  have HB5 : Hid (Below W.heap.size W W5) := Lib.hid (HAL.out.trans (hb5.mono (by omega)))
  have hSin : ∀ k, W5.heap.size ≤ k → (S k ∨ W5.heap.size ≤ k) := fun k hk => .inr hk
  have HSEQ := Lib.hid (recs_seq (n - 1) (by omega) (fun k => S k ∨ W5.heap.size ≤ k) T R W5 W1.heap.size g mg t v hk5 (fun h => by
      rcases h with h | h
      · exact HNO.out W1.heap.size (by omega) (by omega) h
      · omega) HT5.out (fun k hk h => by
      have := hT k hk
      rcases h with h | h
      · exact this.1 h
      · omega) (fun k hk h => by
      have := hR k hk
      rcases h with h | h
      · exact this.1 h
      · omega) hb0 hb1 hfew)
  have hJ5 : J 0 W5 := HJ.out 0 W W5 h0 (Ch.of_below HB5.out (Nat.le_refl _))
  clear hk5 hb5 HT1 HK0 HAL cB
  go_wp2_with fail
  refine (wpIn_wide (n := n)).1 ?_
  refine wpIn_rangeR rfl (by omega) (gf := 120) (lb := #[.pointer (some ⟨W1.heap.size, 0, none⟩)]) rfl trivial (enters_of Tryz.func120 (by kernel_rfl) rfl) HSEQ.out hSin
    (fun B p args W ⟨_, _, hh, _⟩ => by rw [hh]; rfl) (fun p args Wa Wb hh c => by
      obtain ⟨A, cc, h1, h2⟩ := hh
      exact ⟨A, cc, h1, h2.ch c (fun k _ hk hR' => by have := hR k hR'; rcases hk with h | h <;> omega)⟩)
    (fun k Wk => J k Wk ∧ Blk Wk W.heap.size 168 #[.func (.yield l) #[] #[]] ∧ Ch S W Wk) (fun c k Wk => c = .ret ∧ Jx k Wk ∧ Ch S W Wk)
    (fun k Wa Wb hh hs c => ⟨HJ.out k Wa Wb hh.1 (c.mono (fun q _ hq => by rcases hq with h | h <;> (show W.heap.size ≤ q ∧ q < W.heap.size + 4; omega))), hh.2.1.ch c (fun h => by rcases h with h | h <;> omega), hh.2.2.trans c (fun q hq h => by rcases h with h | h <;> omega)⟩)
    (fun cc k Wa Wb hh hs c => ⟨hh.1, HJX.out k Wa Wb hh.2.1 (c.mono (fun q _ hq => by rcases hq with h | h <;> (show W.heap.size ≤ q ∧ q < W.heap.size + 4; omega))), hh.2.2.trans c (fun q hq h => by rcases h with h | h <;> omega)⟩)
    ⟨hJ5, HK5.out, Ch.of_below HB5.out (Nat.le_refl _)⟩ (actA l Bn W.heap.size g W1.heap.size) ?assign ?body ?done ?stop
  case assign =>
    intro l args W K hsz hK
    obtain ⟨x, y, rfl⟩ := two_of hsz
    gi_wp2_with fail
    exact hK
  case body =>
    intro l' k hk args Wk hlt hcw hi hr
    obtain ⟨hJk, hbk, hcS⟩ := hi
    have hk' : k < t.recs.length := by rw [offs_len] at hk; exact hk
    have hof := offs_get t.base t.recs k hk'
    obtain ⟨Ay, cy, rfl, hy⟩ := hr
    have hx64 : (offs t.base t.recs)[k].2.length ≤ 64 := by rw [hof]; exact h64 _ (List.getElem_mem hk')
    have HYK := fun args W1 hj hc hm hr => Lib.hid (HY.out k hk args W1 hj hc hm hr)
    generalize (offs t.base t.recs)[k] = x at *
    obtain ⟨x0, x1⟩ := x
    simp only at hy hx64 HYK ⊢
    have HJK := Lib.hid (And.intro hJk hcS)
    have cb := hbk.cell 0
    simp only [List.getElem?_toArray, List.getElem?_cons_zero] at cb
    have HBK := Lib.hid hbk
    have HCL := Lib.hid (Ga.clone_sh (fun k => ¬ R k) (.slice Ay x1.length cy) x1.length x1 Wk.drew hy.drew (by omega))
    clear hJk hcS hbk hy hof
    dsimp only [actA]
    gi_wp2_with fail
    --CUT1
    have hS' : ∀ k, Bk W5.heap.size k → ¬ S k := fun k hk hs => HNO.out k (by rcases hk with h | h <;> omega) (by rcases h1 : hk with h | h <;> omega) hs
    gi_region_with (first
      | (refine ⟨trivial, fun h => (wide_some h).elim, CallsIn.inRound l' (callsIn_wide.2 (HCL.out.mono ?_))⟩; rintro e w3 ⟨A3, c3, rfl, ho3, hb3⟩; have hb3 : Below Wk.heap.size Wk w3 := below_of_drew hb3; have hbk3 := HBK.out.below hb3 HBK.out.lt; have cb3 := hbk3.cell 0; simp only [List.getElem?_toArray, List.getElem?_cons_zero] at cb3; have HB3 := Lib.hid hb3; have hj3 := HJ.out k Wk w3 HJK.out.1 (Ch.of_below hb3 (Nat.le_refl _)); obtain ⟨fn, tmps, assign, body, hy, hRd⟩ := (HYK #[.int .i64 x0, .slice A3 x1.length c3] w3 hj3 (HJK.out.2.trans (Ch.of_below (S := fun _ => False) hb3 (Nat.le_refl _)) (fun _ _ h => h.elim)) (by have := hb3.size; omega) ⟨A3, c3, rfl, own_base (show w3.ownsRow Wk.heap.size _ _ _ _ _ from ho3) (by omega)⟩).out; have HRD := Lib.hid (round_in (l' := l') (round_deep (m' := n - 1 - 1 - 1) (round_mono hRd (R' := fun e W' => ∃ b : Bool, e = .returned (.bool b) ∧ (b = true → J (k + 1) W') ∧ (b = false → Jx (k + 1) W') ∧ Ch S w3 W') (fun e W' h => by rcases h with ⟨h1, h2, h3⟩ | ⟨h1, h2, h3⟩; exact ⟨true, h1, fun _ => h2, (fun h => by cases h), h3⟩; exact ⟨false, h1, (fun h => by cases h), fun _ => h2, h3⟩)))); have HBK3 := Lib.hid hbk3; clear hRd ho3 hb3 hbk3 hj3)
      | (refine ⟨fun h => (wide_some h).elim, HRD.out.mono ?_⟩; rintro e W3 ⟨bb, rfl, hb1, hb2, hc3⟩))
    all_goals
      have HC3 := Lib.hid hc3
      have HB1 := Lib.hid hb1
      have HB2 := Lib.hid hb2
      clear hc3 hb1 hb2 cb cb3 hy
      have fin : Ch (fun j => (S j ∨ W5.heap.size ≤ j) ∧ ¬ Bk W5.heap.size j) Wk W3 ∧ Blk W3 W.heap.size 168 #[.func (.yield l) #[] #[]] ∧ Ch S W W3 := ⟨(Ch.of_below (S := fun j => (S j ∨ W5.heap.size ≤ j) ∧ ¬ Bk W5.heap.size j) HB3.out (Nat.le_refl _)).trans (HC3.out.mono (T := fun j => (S j ∨ W5.heap.size ≤ j) ∧ ¬ Bk W5.heap.size j) (fun q _ hs => ⟨.inl hs, fun hb => hS' q hb hs⟩)) (fun _ _ h => h), HBK3.out.ch HC3.out (HNO.out W.heap.size (Nat.le_refl _) (by omega)), (HJK.out.2.trans (Ch.of_below (S := fun _ => False) HB3.out (Nat.le_refl _)) (fun _ _ h => h.elim)).trans HC3.out (fun _ _ h => h)⟩
      have HFIN := Lib.hid fin
      clear fin
      cases bb with
      | true =>
        gi_wp2_with fail
        exact ⟨HFIN.out.1, (by first | exact HB1.out rfl | exact HB1.out trivial), HFIN.out.2⟩
      | false =>
        gi_wp2_with fail
        exact ⟨HFIN.out.1, rfl, (by first | exact HB2.out rfl | exact HB2.out trivial), HFIN.out.2.2⟩
  case done =>
    intro Wd hcw hi hd
    rw [offs_len] at hi
    obtain ⟨hj, hbk, hcS⟩ := hi
    have HDD := Lib.hid hd
    have HE : Hid (Ch S W (Wd.putObj W5.heap.size (.deferred none)) ∧ J t.recs.length (Wd.putObj W5.heap.size (.deferred none))) := Lib.hid ⟨hcS.trans (ch_putObj Wd W5.heap.size (.deferred none)) (fun q hq h => by omega), HJ.out _ Wd _ hj ((ch_putObj Wd W5.heap.size (.deferred none)).mono (fun q _ h => by show W.heap.size ≤ q ∧ q < W.heap.size + 4; omega))⟩
    clear hj hbk hcS hd hcw
    dsimp only
    go_wp2_with fail
    refine ⟨by simp, .inl ⟨_, _, rfl, run_takeDeferred HDD.out, ?_⟩⟩
    exact ⟨_, results_none rfl _ _ _, ⟨_, rfl⟩, HE.out.1, .inl HE.out.2⟩
  case stop =>
    rintro cc k Wd hk hcw ⟨rfl, hj, hcS⟩ hd
    rw [offs_len] at hk
    have HDD := Lib.hid hd
    have HE : Hid (Ch S W (Wd.putObj W5.heap.size (.deferred none)) ∧ Jx k (Wd.putObj W5.heap.size (.deferred none))) := Lib.hid ⟨hcS.trans (ch_putObj Wd W5.heap.size (.deferred none)) (fun q hq h => by omega), HJX.out _ Wd _ hj ((ch_putObj Wd W5.heap.size (.deferred none)).mono (fun q _ h => by show W.heap.size ≤ q ∧ q < W.heap.size + 4; omega))⟩
    clear hj hcS hd hcw
    refine wpIn_wide.2 ?_
    dsimp only
    go_wp2_with fail
    refine ⟨by simp, .inl ⟨_, _, rfl, run_takeDeferred HDD.out, ?_⟩⟩
    exact ⟨_, results_none rfl _ _ _, ⟨_, rfl⟩, HE.out.1, .inr ⟨k, hk, HE.out.2⟩⟩
end Go.Proofs.YtkoedonllfmaaaaGreat.Xk

/-
  A region that draws its order, in a round of a range over a function (the wide fence): it goes as anywhere else, if it defers nothing. For any layer.
-/
namespace Go.Proofs.YtkoedonllfmaaaaGreat.Kt
set_option linter.unusedSimpArgs false
set_option linter.unusedVariables false
open Go Go.RowKit

section
variable {l n : Nat} {P : Program} {md : Region.Mode} {ops : Array Oper} {Q : Exit → Act → World → Prop}
/-- No operation of these defers anything. -/
def Plain (ops : Array Oper) : Prop := ∀ (i : Nat) (o : Oper), ops[i]? = some o → ∀ c, o.op ≠ .defer c
theorem rows_round {row : String} {args : Array Value} {w : World} {R : Value → World → Prop} (h : Rows P row args w R) : RowsIn (Fence.wide.inRound l) n P row args w R :=
  fun c cs _ => let ⟨v, w', r, s⟩ := h c cs; ⟨v, w', r, stepsIn_wide.2 s⟩
theorem oper_round {o : Oper} {a : Act} {w : World} {K K' : Act → World → Prop} (hd : ∀ c, o.op ≠ .defer c) (h : o.wp P a w K Q) (hK : ∀ a w, K a w → K' a w) : o.wpIn (Fence.wide.inRound l) n P a w K' Q := by
  refine ⟨fun _ _ => trivial, ?_⟩
  rw [Oper.semAt_eq _ _ _ hd]
  unfold Oper.wp at h
  generalize (execOp a.eval o).run P w = r at *
  cases r with
  | ok x w' =>
    cases x <;> simp only [Oper.upon, Oper.uponIn] at h ⊢
    case value => exact hK _ _ h
    case skip => exact hK _ _ h
    case defer => exact hK _ _ h
    case enter f args =>
      refine ⟨fun h => (by cases h), CallsIn.inRound l (callsIn_wide.2 (Calls.mono h fun e w'' he => ?_))⟩
      cases e with
      | returned v => exact hK _ _ he
      | panicked c => exact he
      | outgrown => exact he
    case row row args => exact ⟨fun h => (by cases h), rows_round (Rows.mono h fun v w'' he => hK _ _ he)⟩
  | halt x w' => cases x <;> simp only [Oper.upon, Oper.uponIn] at h ⊢ <;> exact h
theorem any_round (hd : Plain ops) (hl : ¬ LetsOut Q) : ∀ (fuel : Nat) (listed : Array Bool) (a : Act) (w : World), wpAny P md ops Q fuel listed a w → wpAnyIn (Fence.wide.inRound l) n P md ops Q fuel listed a w
  | 0, _, _, _, h => h
  | fuel + 1, listed, a, w, h => by
    refine ⟨h.1, fun i hi => ?_⟩
    have h2 := h.2 i hi
    unfold wpOp at h2
    unfold wpOpIn
    split
    · rename_i hn
      rw [hn] at h2
      exact any_round hd hl fuel _ _ _ h2
    · rename_i o ho
      rw [ho] at h2
      simp only at h2
      split
      · rename_i hw
        rw [if_pos hw] at h2
        rcases h2 with h2 | h2
        · exact oper_round (hd i o ho) h2 (fun a w h => any_round hd hl fuel _ a w h)
        · exact absurd h2.2 hl
      · rename_i hw
        rw [if_neg hw] at h2
        exact ⟨fun _ _ => trivial, any_round hd hl fuel _ _ _ h2⟩
/-- Whatever order is picked from here on; behind operation i the world meets S i. -/
def AnyE (P : Program) (md : Region.Mode) (ops : Array Oper) (Q : Exit → Act → World → Prop) (S : Nat → World → Prop) : Nat → Array Bool → Act → World → Prop
  | 0, listed, a, w => Region.ready md ops listed = [] ∧ Q .normal a w
  | f + 1, listed, a, w => (Region.ready md ops listed = [] → Q .normal a w) ∧ ∀ i, i ∈ Region.ready md ops listed → wpOp P ops Q i (fun b u => S i u ∧ AnyE P md ops Q S f (listed.setIfInBounds i true) b u) a w
theorem AnyE.any {S : Nat → World → Prop} : ∀ (f : Nat) (listed : Array Bool) (a : Act) (w : World), AnyE P md ops Q S f listed a w → wpAny P md ops Q f listed a w
  | 0, _, _, _, h => h
  | f + 1, _, _, _, h => ⟨h.1, fun i hi => wpOp_mono (fun _ _ h' => AnyE.any f _ _ _ h'.2) (h.2 i hi)⟩
/-- An operation that reads what S fixes may be taken first, if what may come ahead of it is among E. -/
theorem AnyE.first {S : Nat → World → Prop} {T : World → Prop} {i : Nat} {oi : Oper} {v : Value} (hi : ops[i]? = some oi) (hsel : Region.noSelect ops = true) (hQ : ∀ c a w, Q (.panic c) (a.put oi.dst v) w → Q (.panic c) a w)
    (hT : ∀ u, T u → S i u) : ∀ (f : Nat) (listed : Array Bool) (a : Act) (w : World),
      (∀ j oj, ops[j]? = some oj → j ≠ i → listed.getD j true = false → (∀ e ∈ oj.after, Region.binds md e = true → e.on ≠ i) → oi.apart ops oj = true) →
      (∀ j oj, ops[j]? = some oj → listed.getD j true = false → (∀ e ∈ oj.after, Region.binds md e = true → e.on ≠ i) → ∀ u, S j u → T u) →
      i ∈ Region.ready md ops listed → YieldsIf P ops T oi v a → T w → AnyE P md ops Q S f (listed.setIfInBounds i true) (a.put oi.dst v) w → AnyE P md ops Q S (f + 1) listed a w := by
  have sel := Region.noSelect_spec hsel
  intro f
  induction f with
  | zero =>
    intro listed a w _ _ hr hy hS H
    refine ⟨fun h0 => (by rw [h0] at hr; cases hr), fun j hj => ?_⟩
    by_cases e : j = i
    · rw [e]; exact hy.wpOp hi hS ⟨hT _ hS, H⟩
    · have hm := ready_mono hj e
      rw [H.1] at hm; cases hm
  | succ f ih =>
    intro listed a w hfree hE hr hy hS H
    refine ⟨fun h0 => (by rw [h0] at hr; cases hr), fun j hj => ?_⟩
    by_cases e : j = i
    · rw [e]; exact hy.wpOp hi hS ⟨hT _ hS, H⟩
    · obtain ⟨hjl, oj, hoj, hall⟩ := mem_ready.1 hj
      have hno : ∀ e ∈ oj.after, Region.binds md e = true → e.on ≠ i := fun x hx hb hxi => by
        have h1 := hall x hx hb
        have h0 := (mem_ready.1 hr).1
        rw [hxi] at h1
        rcases Nat.lt_or_ge i listed.size with h' | h'
        · simp [h'] at h0 h1; rw [h0] at h1; cases h1
        · simp [Array.getElem?_eq_none h'] at h1
      have h2 := wpOp_putIf hoj (hfree j oj hoj e hjl hno) (fun cs b => sel i oi cs b hi) (fun cs b => sel j oj cs b hoj) hQ hy (H.2 j (ready_mono hj e))
      refine wpOp_mono (fun b u h3 => ⟨h3.2.1, ih (listed.setIfInBounds j true) b u (fun k ok hk hki hun hn => ?_) (fun k ok hk hun hn => ?_) (ready_mono hr (Ne.symm e)) h3.1 (hE j oj hoj hjl hno u h3.2.1) ?_⟩) h2
      · refine hfree k ok hk hki ?_ hn
        by_cases hjk : j = k
        · subst hjk; exact hjl
        · rw [getD_set_ne true hjk] at hun; exact hun
      · refine hE k ok hk ?_ hn
        by_cases hjk : j = k
        · subst hjk; exact hjl
        · rw [getD_set_ne true hjk] at hun; exact hun
      · rw [Array.setIfInBounds_comm _ _ e]
        exact h3.2.2
theorem AnyE.take {S : Nat → World → Prop} (T : World → Prop) (ok : Nat → Bool) {i : Nat} {oi : Oper} {v : Value} {f : Nat} {listed : Array Bool} {a : Act} {w : World} (hi : ops[i]? = some oi) (hs : Region.noSelect ops = true) (hf : Region.free md ops listed i = true) (hr : (Region.ready md ops listed).contains i = true)
    (hQ : ∀ c a w, Q (.panic c) (a.put oi.dst v) w → Q (.panic c) a w) (hE : ((List.range ops.size).all fun j => listed.getD j true || ok j || match ops[j]? with | none => true | some oj => oj.after.any fun e => Region.binds md e && e.on == i) = true) (hok : ∀ j u, ok j = true → S j u → T u) (hT : ∀ u, T u → S i u) (hy : YieldsIf P ops T oi v a) (hS : T w) (h : AnyE P md ops Q S f (listed.setIfInBounds i true) (a.put oi.dst v) w) : AnyE P md ops Q S (f + 1) listed a w := by
  refine AnyE.first hi hs hQ hT f listed a w (Region.free_spec hi hf) (fun j oj hoj hjl hn u hu => ?_) (by simpa using hr) hy hS h
  have hjs : j < ops.size := (Array.getElem?_eq_some_iff.1 hoj).1
  have h1 := List.all_eq_true.1 hE j (List.mem_range.2 hjs)
  rw [hoj, hjl] at h1
  simp only [Bool.or_eq_true, Bool.false_eq_true, false_or] at h1
  rcases h1 with h1 | h1
  · exact hok j u h1 hu
  · obtain ⟨k, hk, h2⟩ := Array.any_eq_true.1 h1
    simp only [Bool.and_eq_true, beq_iff_eq] at h2
    exact absurd h2.2 (hn _ (Array.getElem_mem hk) h2.1)
theorem AnyE.done {S : Nat → World → Prop} {listed : Array Bool} {a : Act} {w : World} (hr : Region.ready md ops listed = []) (h : Q .normal a w) : ∀ f, AnyE P md ops Q S f listed a w
  | 0 => ⟨hr, h⟩
  | _ + 1 => ⟨fun _ => h, fun i hi => (by rw [hr] at hi; cases hi)⟩
/-- What an operation that comes up owes. -/
def Up (P : Program) (md : Region.Mode) (ops : Array Oper) (Q : Exit → Act → World → Prop) (S : Nat → World → Prop) (f : Nat) (listed : Array Bool) (a : Act) (w : World) (i : Nat) (o : Oper) : Prop :=
  ∀ K : Act → World → Prop, Shut (∀ b u, S i u → (S i u → AnyE P md ops Q S f (listed.setIfInBounds i true) b u) → K b u) → if Region.wanted o (yielded ops a.tmps) = true then Oper.wp P o a w K Q else K (a.put o.dst undef) w
theorem AnyE.one {S : Nat → World → Prop} {f : Nat} {listed : Array Bool} {a : Act} {w : World} {i : Nat} {o : Oper} (hr : Region.ready md ops listed = [i]) (ho : ops[i]? = some o) (h : Up P md ops Q S f listed a w i o) : AnyE P md ops Q S (f + 1) listed a w :=
  ⟨fun h0 => (by rw [hr] at h0; cases h0), fun j hj => by
    rw [hr, List.mem_singleton] at hj
    subst hj
    exact wpOp_step ho (fun K hK => h K (fun b u hS hW => hK b u ⟨hS, hW hS⟩))⟩
theorem AnyE.two {S : Nat → World → Prop} {f : Nat} {listed : Array Bool} {a : Act} {w : World} {i j : Nat} {o p : Oper} (hr : Region.ready md ops listed = [i, j]) (ho : ops[i]? = some o) (hp : ops[j]? = some p) (h : Up P md ops Q S f listed a w i o) (h' : Up P md ops Q S f listed a w j p) : AnyE P md ops Q S (f + 1) listed a w :=
  ⟨fun h0 => (by rw [hr] at h0; cases h0), fun k hk => by
    rw [hr] at hk
    rcases List.mem_cons.1 hk with rfl | hk
    · exact wpOp_step ho (fun K hK => h K (fun b u hS hW => hK b u ⟨hS, hW hS⟩))
    · rw [List.mem_singleton] at hk
      subst hk
      exact wpOp_step hp (fun K hK => h' K (fun b u hS hW => hK b u ⟨hS, hW hS⟩))⟩
/-- The region of a round. -/
theorem region_round {S : Nat → World → Prop} {id : Nat} {a : Act} {w : World} (hm : P.follows .mixedOrders = true) (hd : Plain ops) (hl : ¬ LetsOut Q) (h : AnyE P .any ops Q S ops.size (Array.replicate ops.size false) a w.drew) : (Code.region id ops true).wpIn (Fence.wide.inRound l) n P Q a w :=
  wpIn_region_any hm (any_round hd hl _ _ _ _ (AnyE.any _ _ _ _ h))
theorem plain_of {ops : Array Oper} (h : (ops.toList.all fun o => match o.op with | .defer _ => false | _ => true) = true) : Plain ops := fun i o ho c hc => by
  have hm : o ∈ ops.toList := List.mem_of_getElem? (l := ops.toList) (i := i) (by rw [Array.getElem?_toList]; exact ho)
  have h1 := List.all_eq_true.1 h o hm
  simp only [hc] at h1
  cases h1
end
end Go.Proofs.YtkoedonllfmaaaaGreat.Kt
