/-
  Contract of the program's topic: all, the iterator over its records.
-/
import Derived.Test.YtobphijbhghgmaaGreatU14
import Derived.Test.YtobphijbhghgmaaGreatU07
import Derived.Test.YtobphijbhghgmaaGreatU04
import Derived.Shelf.Abstract
import Derived.Shelf.RegionOpen
import Derived.OwnWalkIn
import Derived.TacticsInMore
import Derived.LoopNIn
import Derived.LoopIn
import Derived.Outline
import Derived.Test.YtobphijbhghgmaaGreatU08
import Derived.Deep.RegionLaw
import Derived.Deep.RegionHeld3
import Derived.Test.YtobphijbhghgmaaGreatU05
import Derived.Deep.MidRow
import Derived.Test.YtobphijbhghgmaaGreatU12
namespace Go.Proofs.YtobphijbhghgmaaGreat.Br
set_option linter.unusedSimpArgs false
open Go Go.RowKit Go.Shelf Ck Kw Ga Kf Km Pm Pz Tm Tn Tq Aa Kr
attribute [local go_sem ↓] Go.wp_at_zero Go.wp_at_succ
attribute [local go_sem] Oper.semAt_some
set_option linter.unusedVariables false

/-- Records with their offsets. -/
def offs : Int → List Tx → List (Int × Tx)
  | _, [] => []
  | o, x :: l => (o, x) :: offs (o + 1) l
theorem offs_len : ∀ (o : Int) (xs : List Tx), (offs o xs).length = xs.length
  | _, [] => rfl
  | o, x :: l => by simp [offs, offs_len]
theorem offs_get : ∀ (o : Int) (xs : List Tx) (k : Nat) (h : k < xs.length), (offs o xs)[k]'(by rw [offs_len]; exact h) = (o + (k : Int), xs[k])
  | o, x :: l, 0, h => by simp [offs]
  | o, x :: l, k + 1, h => by
    have := offs_get (o + 1) l k (by simpa using h)
    simp only [offs, List.getElem_cons_succ, this]
    congr 1
    omega
/-- An offset and its record, in memory: the record's bytes lie in R. -/
def Rt (R : Nat → Prop) (_ : Nat) (p : Int × Tx) (args : Array Value) (W : World) : Prop :=
  ∃ A c, args = #[.int .i64 p.1, .slice A p.2.length c] ∧ Sl W (fun k => ¬ R k) 1 (.slice A p.2.length c) p.2.length (BVs p.2)
theorem wide_some : Fence.wide.depth.isSome = true → False := fun h => by cases h

theorem all_ret (w : World) (g : Nat) : Calls Tryz.prog 123 #[.pointer (some ⟨g, 0, none⟩)] w fun e w' =>
    e = .returned (.func (.func 150) #[] #[.pointer (some ⟨w.heap.size, 0, none⟩)]) ∧ w' = w.alloc (.cells #[.pointer (some ⟨g, 0, none⟩)] 153) := by
  go_enter Tryz.func123, Tryz.ntmps123
  go_wp2
  go_ret
  exact ⟨rfl, rfl⟩

set_option maxRecDepth 100000 in
set_option maxHeartbeats 4000000 in
theorem recs_seq (n : Nat) (hn : 2 ≤ n) (S T R : Nat → Prop) (w : World) (Bc g mg : Nat) (t : Tp) (v : Value) (hB : Blk w Bc 153 #[.pointer (some ⟨g, 0, none⟩)]) (hBS : ¬ S Bc) (h : Tg w T R g t v mg)
    (hT : ∀ k, T k → ¬ S k) (hR : ∀ k, R k → ¬ S k) (hb0 : 0 ≤ t.base) (hb1 : t.next ≤ maxNum) (hfew : t.recs.length ≤ 64) :
    SeqR Fence.wide n Tryz.prog 150 #[.pointer (some ⟨Bc, 0, none⟩)] (Rt R) S (offs t.base t.recs) w := by
  intro l J Jx W hW hsz hJ hJx hY h0
  rw [offs_len]
  obtain ⟨vals, h1, h2⟩ := h.recs
  obtain ⟨A, c, rfl⟩ := own_shape h1
  have HBW : Hid (∀ wr, Ch S W wr → Blk wr Bc 153 #[.pointer (some ⟨g, 0, none⟩)] ∧ Blk wr g 158 #[.int .i64 t.base, .slice A t.recs.length c, .map (some mg)] ∧ wr.ownsRow 0 145 1 (.slice A t.recs.length c) t.recs.length vals ∧
      (∀ i (hi : i < t.recs.length), ∃ u, vals[i]? = some u ∧ Sl wr (fun k => ¬ R k) 1 u t.recs[i].length (BVs t.recs[i]))) := Lib.hid fun wr hc =>
    ⟨(hB.below hW hB.lt).ch hc hBS, (h.blk.below hW h.blk.lt).ch hc (hT _ h.tg), own_ch (own_below h1 hW) hc (fun k hk => hT k (h.tv k hk)), fun i hi => by
      obtain ⟨u, hu, hs⟩ := h2 i hi
      exact ⟨u, hu, (hs.after hW).ch hc (fun k _ hs hr => hR k hr hs)⟩⟩
  have HJ := Lib.hid hJ
  have HY := Lib.hid hY
  simp only [maxNum, Tp.next] at hb1
  clear hB h1 h2 hJ h hY
  obtain ⟨hbk, htk, -, -⟩ := HBW.out W (Ch.refl _ _)
  have cB : W.cell? ⟨Bc, 0, none⟩ = some (.pointer (some ⟨g, 0, none⟩)) := hbk.cell 0
  have c1 : W.cell? ⟨g, 1, none⟩ = some (.slice A t.recs.length c) := htk.cell 1
  clear hbk htk
  refine callsIn_of_wp Tryz.func150 rfl trivial ?_ rfl
  simp only [Tryz.ntmps150, List.size_toArray, List.length_cons, List.length_nil, Nat.reduceAdd, Nat.reduceSub, Array.replicate_succ, Array.replicate_zero, List.push_toArray, List.append_toArray, List.nil_append, List.cons_append]
  gi_wp2
  clear cB c1
  gi_loopw [10] (fun p wr => ∃ k : Nat, k ≤ t.recs.length ∧ p = .int .i64 (k : Int) ∧ J k wr ∧ Ch S W wr) (fun p _ => t.recs.length - (intOf p).toNat)
  case atStart => exact ⟨0, Nat.zero_le _, rfl, h0, Ch.refl _ _⟩
  case round =>
    obtain ⟨k, hk, rfl, hJs, hcs⟩ := hrel
    by_cases hlt : k < t.recs.length
    · obtain ⟨hbk, htk, ho, hel⟩ := HBW.out _ hcs
      have cB : wr.cell? ⟨Bc, 0, none⟩ = some (.pointer (some ⟨g, 0, none⟩)) := hbk.cell 0
      have c0 : wr.cell? ⟨g, 0, none⟩ = some (.int .i64 t.base) := htk.cell 0
      obtain ⟨u, hu, hs⟩ := hel k hlt
      obtain ⟨Au, cu, rfl, -⟩ := id hs
      obtain ⟨g', hA, hcell⟩ : ∃ g', A = some ⟨g', 0, none⟩ ∧ wr.cell? ⟨g', k, none⟩ = some (.slice Au t.recs[k].length cu) := by
        obtain ⟨g', c', hv, hb, hlt'⟩ := ho.form (by omega)
        obtain ⟨rfl, _, rfl⟩ := Value.slice.inj hv
        exact ⟨g', rfl, by rw [ho.cellAt k (by omega), hu]⟩
      subst hA
      have HR : Hid (Rt R W.heap.size ((offs t.base t.recs)[k]'(by rw [offs_len]; exact hlt)) #[.int .i64 (t.base + (k : Int)), .slice Au t.recs[k].length cu] wr) := Lib.hid (by
        rw [offs_get t.base t.recs k hlt]
        exact ⟨Au, cu, rfl, hs⟩)
      obtain ⟨fn, tmps, assign, body, hy, hRd⟩ := HY.out k (by rw [offs_len]; exact hlt) _ wr hJs hcs HR.out
      have HRD := Lib.hid hRd
      have HC := Lib.hid hcs
      have hw : IntKind.i64.wrap (t.base + (k : Int)) = t.base + (k : Int) := Ga.wrap64 (by omega) (by omega)
      have hw0 : IntKind.i64.wrap (k : Int) = (k : Int) := Ga.wrap64 (by omega) (by omega)
      have hltI : (k : Int) < (t.recs.length : Int) := by omega
      clear hbk htk ho hel hu hs hRd hcs hJs
      gi_wp2_with fail
      refine ⟨fun h => (wide_some h).elim, HRD.out.mono ?_⟩
      rintro e W3 (⟨rfl, hJ3, hc3⟩ | ⟨rfl, hJx3, hc3⟩)
      · have HC3 := Lib.hid (HC.out.trans hc3 (fun _ _ h => h))
        have HJ3 := Lib.hid hJ3
        clear hJ3 hc3 cB c0 hcell
        gi_wp2_with fail
        go_roundw
        case rel => exact ⟨k + 1, by omega, by go_num, HJ3.out, HC3.out⟩
        case measure => simp [intOf]; omega
      · have HC3 := Lib.hid (HC.out.trans hc3 (fun _ _ h => h))
        have HJ3 := Lib.hid hJx3
        clear hJx3 hc3 cB c0 hcell
        gi_wp2_with fail
        refine bodyPost_ret (results_none rfl _ _ _) rfl ?_
        exact ⟨⟨_, rfl⟩, HC3.out, .inr ⟨k + 1, by omega, HJ3.out⟩⟩
    · have hke : k = t.recs.length := by omega
      have HKE := Lib.hid hke
      have HC := Lib.hid hcs
      have HJ1 := Lib.hid hJs
      have hltI : ¬ (k : Int) < (t.recs.length : Int) := by omega
      have hltI2 : (t.recs.length : Int) ≤ (k : Int) := by omega
      clear hcs hJs hke
      gi_wp2_with fail
      refine bodyPost_end (results_none rfl _ _ _) rfl ?_
      have h1 := HJ1.out
      rw [HKE.out] at h1
      exact ⟨⟨_, rfl⟩, HC.out, .inl h1⟩
end Go.Proofs.YtobphijbhghgmaaGreat.Br

/-
  Contract of the program's topic: bytes.
-/
namespace Go.Proofs.YtobphijbhghgmaaGreat.Bt
set_option linter.unusedSimpArgs false
open Go Go.RowKit Go.Shelf Ck Kw Pk Cb Ga Kf Km Pm Pz Tm Tn Tq Kx Aa Ab Ac Ad Kr Bp Bq Br
attribute [local go_sem ↓] Go.wp_at_zero Go.wp_at_succ
attribute [local go_sem] Oper.semAt_some
set_option linter.unusedVariables false

/-- The cell gc holds a row of bytes from B on, in no block of X. -/
def Row (B gc : Nat) (X : Nat → Prop) (b : Tx) (W : World) : Prop :=
  ∃ A c, Blk W gc 25 #[.slice A b.length c] ∧ W.ownsRow B 5 1 (.slice A b.length c) b.length (BVs b) ∧ ∀ q, (Value.slice A b.length c).ownBlock = some q → ¬ X q
theorem Row.put {B gc : Nat} {X : Nat → Prop} {b b' : Tx} {A : Option Addr} {c : Nat} {v' : Value} {W W' : World} (hg : B ≤ gc) (hgX : ¬ X gc) (hX : ∀ q, X q → q < W.heap.size) (hk : Blk W gc 25 #[.slice A b.length c]) (h0 : W.ownsRow B 5 1 (.slice A b.length c) b.length (BVs b))
    (hv : ∀ q, (Value.slice A b.length c).ownBlock = some q → ¬ X q) (h1 : W'.ownsRow B 5 1 v' b'.length (BVs b')) (h2 : W.grownBy W' (Value.slice A b.length c).ownBlock) (h3 : v'.ownBlock = (Value.slice A b.length c).ownBlock ∨ ∀ k, v'.ownBlock = some k → W.heap.size ≤ k) :
    Row B gc X b' (W'.setCell ⟨gc, 0, none⟩ v') ∧ Ch (fun k => B ≤ k ∧ ¬ X k) W (W'.setCell ⟨gc, 0, none⟩ v') := by
  have hf := own_far h0 hk (by decide)
  have hk' := hk.grown h2 (fun e => hf e.symm)
  have hne := own_far h1 hk' (by decide)
  obtain ⟨A', c', rfl⟩ := own_shape h1
  refine ⟨⟨A', c', hk'.set_ 0 _, own_ch h1 ((Ch.refl (fun k => k = gc) W').setCell (p := ⟨gc, 0, none⟩) (fun _ => rfl) _) (fun k hk e => hne (by rw [hk, e])), fun q hq hx => ?_⟩, ?_⟩
  · rcases h3 with h3 | h3
    · exact hv q (by rw [← h3, hq]) hx
    · have := h3 q hq
      have := hX q hx
      omega
  · exact (Ch.of_grown (S := fun k => B ≤ k ∧ ¬ X k) h2 (fun q hq _ => ⟨(h0.lt q hq).1, hv q hq⟩)).setCell (p := ⟨gc, 0, none⟩) (fun _ => ⟨hg, hgX⟩) _
theorem Row.ch {B gc : Nat} {X Z : Nat → Prop} {b : Tx} {W W' : World} (h : Row B gc X b W) (c : Ch Z W W') (hg : ¬ Z gc) (hz : ∀ q, Z q → X q) : Row B gc X b W' := by
  obtain ⟨A, c1, h1, h2, h3⟩ := h
  exact ⟨A, c1, h1.ch c hg, own_ch h2 c (fun q hq hZ => h3 q hq (hz q hZ)), h3⟩
theorem Row.new {B gc : Nat} {X X' : Nat → Prop} {b : Tx} {W W' : World} (h : Row B gc X b W) (c : Below W.heap.size W W') (hx : ∀ q, X' q → X q ∨ W.heap.size ≤ q) : Row B gc X' b W' := by
  obtain ⟨A, c1, h1, h2, h3⟩ := h
  refine ⟨A, c1, h1.below c h1.lt, own_below h2 c, fun q hq hX => ?_⟩
  rcases hx q hX with h | h
  · exact h3 q hq h
  · have := (h2.lt q hq).2
    omega
theorem calm2 {P : Program} {c : Code} {Q : Exit → Act → World → Prop} {a : Act} {w : World} (h : c.wp P (Exit.then (fun a w => Q .normal a w) (fun _ _ _ => False)) a w) : c.wp P Q a w :=
  wp_mono h (fun e a w h => by cases e <;> first | exact h | exact h.elim)
theorem pos_mem : ∀ {gs : List Gp}, RG gs → ∀ g ∈ gs, pos gs g.n = some g.pos
  | [], _, g, hg => absurd hg (by simp)
  | g0 :: gs, h, g, hg => by
    rw [pos_cons]
    rcases List.mem_cons.1 hg with rfl | hg'
    · rw [if_pos rfl]
    · have := (List.pairwise_cons.1 h).1 g hg'
      rw [if_neg (fun e => by rw [e] at this; exact List.lt_irrefl _ this)]
      exact pos_mem (List.pairwise_cons.1 h).2 g hg'
theorem flat_le {α : Type} (f : α → Tx) (c : Nat) : ∀ l : List α, (∀ x ∈ l, (f x).length ≤ c) → (l.flatMap f).length ≤ c * l.length
  | [], _ => by simp
  | x :: l, h => by
    have h1 := h x (List.mem_cons_self ..)
    have h2 := flat_le f c l (fun y hy => h y (List.mem_cons_of_mem _ hy))
    simp only [List.flatMap_cons, List.length_append, List.length_cons, Nat.mul_add, Nat.mul_one]
    omega
theorem glook1 {w : World} {m n : Nat} {D : DataW Unit} {gs : List Gp} (h : w.ownsMap Tryz.prog 9 inElem m n D) (hT : TellsG D gs) (x : Tx) (hx : x.length ≤ 140737488355328) :
    (Instr.lookup 156 (.map (some m)) (.string ⟨x.toArray⟩) false).run Tryz.prog w = .ok (.int .i64 ((pos gs x).getD 0)) w := by
  obtain ⟨v, ps, hrun, hv⟩ := h.lookup law_str Tryz.underlying156 (zero_i64 w) (zd := .lit (.int .i64 0)) (zp := []) (inElem_mk 0) (key_str x (by simp only [maxLen]; omega))
  rw [hrun]
  cases hf : pos gs x with
  | some k =>
    rw [hT.2 x k hf] at hv
    rw [inElem_at hv]
    rfl
  | none =>
    rw [has_atKey (by rw [hT.1, hf]; rfl)] at hv
    rw [inElem_at hv]
    rfl
/-- A topic's bytes behind its name. -/
def tB (t : Tp) : Tx := Cm.enc t.base.toNat ++ (Cm.encL t.recs ++ (Cm.enc t.gs.length ++ t.gs.flatMap gpB))

theorem Rt.ch {R : Nat → Prop} {D B : Nat} {p : Int × Tx} {args : Array Value} {W W' : World} (h : Rt R B p args W) (c : Ch (Bk D) W W') (hR : ∀ k, R k → k < D) : Rt R B p args W' := by
  obtain ⟨A, cc, h1, h2⟩ := h
  exact ⟨A, cc, h1, h2.ch c (fun k _ hk hR' => by have := hR k hR'; rcases hk with h | h <;> omega)⟩
theorem two_of {args : Array Value} (h : args.size = 2) : ∃ x y, args = #[x, y] := by
  obtain ⟨l⟩ := args
  match l, h with
  | [x, y], _ => exact ⟨x, y, rfl⟩
/-- The frame of bytes, with the loop's variables. -/
def actB (n0 : Nat) (A1 : Option Addr) (c1 : Nat) (Ar : Option Addr) (m cr g gc B1 : Nat) (u19 : Value) (args : Array Value) : Act :=
  match args with
  | ⟨[x, y]⟩ => { tmps := #[.pointer (some ⟨g, 0, none⟩), undef, .slice none 0 0, .pointer (some ⟨gc, 0, none⟩), undef, y, undef, undef, .pointer (some ⟨g, 0, none⟩), .pointer (some ⟨g, 0, none⟩), .pointer (some ⟨g, 0, none⟩), .int .i64 (n0 : Int), .slice A1 (Cm.enc n0).length c1, .slice A1 (Cm.enc n0).length c1, .pointer (some ⟨g, 0, none⟩), .pointer (some ⟨g, 0, none⟩), .pointer (some ⟨g, 1, none⟩), .slice Ar m cr, .int .i64 (m : Int), u19, .pointer (some ⟨g, 0, none⟩), .func (.func 150) #[] #[.pointer (some ⟨B1, 0, none⟩)], x, y, undef, undef, undef, undef, undef, undef, undef, undef, undef, undef, undef, undef, undef, undef, undef, undef, undef, undef, undef, undef, undef, undef, undef, undef, undef, undef, undef, undef, undef, undef, undef], defers := [] }
  | _ => { tmps := #[], defers := [] }

set_option maxRecDepth 100000 in
set_option maxHeartbeats 4000000 in
theorem bytes_on (w : World) (T R : Nat → Prop) (g : Nat) (t : Tp) (v : Value) (mg : Nat) (h : Tg w T R g t v mg) (hf : FitT t) (hr : (t.gs.map (·.n)).Pairwise (· < ·)) (hT : ∀ k, T k → k < w.heap.size) (hR : ∀ k, R k → k < w.heap.size) :
    Calls Tryz.prog 104 #[.pointer (some ⟨g, 0, none⟩)] w fun e w' => Made w 5 (tB t) e w' := by
  refine (callsIn_wide (n := 6)).1 ?_
  have HT := Lib.hid h
  have HF := Lib.hid hf
  have HR := Lib.hid hr
  have HTL := Lib.hid hT
  have HRL := Lib.hid hR
  have c0 : w.cell? ⟨g, 0, none⟩ = some (.int .i64 t.base) := h.blk.cell 0
  obtain ⟨n0, hn0⟩ : ∃ n : Nat, t.base = (n : Int) := ⟨t.base.toNat, by have := hf.base; omega⟩
  have hn1 : n0 ≤ 9007199254740992 := by have h1 := hf.next; simp only [Tp.next, maxNum] at h1; omega
  have HN0 := Lib.hid hn0
  rw [hn0] at c0
  have HP0 := Lib.hid (pnum_any w.heap.size (.slice none 0 0) n0 [] w (World.ownsRow_nil _ _ _ _) (Nat.le_refl _) (by simp) (by omega))
  clear h hf hr hT hR hn0
  obtain ⟨vals, hrs, -⟩ := id HT.out.recs
  obtain ⟨Ar, cr, rfl⟩ := own_shape hrs
  have hfew := HF.out.few
  clear hrs
  refine callsIn_of_wp_marks Tryz.func104 rfl trivial ?_ rfl
  simp only [Tryz.ntmps104, List.size_toArray, List.length_cons, List.length_nil, Nat.reduceAdd, Nat.reduceSub, Array.replicate_succ, Array.replicate_zero, List.push_toArray, List.append_toArray, List.nil_append, List.cons_append]
  refine wpIn_wide.2 ?_
  go_wp2_with fail
  refine HP0.out.mono ?_
  rintro e w1 ⟨v1, rfl, ho1, hg1, -⟩
  obtain ⟨A1, c1, rfl⟩ := own_shape ho1
  have hb1 : Below w.heap.size w w1 := (Ch.of_grown (S := fun _ => False) hg1 (fun q hq _ => by simp [Value.ownBlock] at hq)).below (fun _ _ h => h) (Nat.le_refl _)
  simp only [List.nil_append] at ho1
  have hb2 : Below w.heap.size w (w1.alloc (.cells #[.slice A1 (Cm.enc n0).length c1] 25)) := hb1.alloc hb1.size _
  have hk2 : Blk (w1.alloc (.cells #[.slice A1 (Cm.enc n0).length c1] 25)) w1.heap.size 25 #[.slice A1 (Cm.enc n0).length c1] := Blk.new _ _ _
  have ho2 : (w1.alloc (.cells #[.slice A1 (Cm.enc n0).length c1] 25)).ownsRow w.heap.size 5 1 (.slice A1 (Cm.enc n0).length c1) (Cm.enc n0).length (BVs (Cm.enc n0)) := ho1.alloc _
  have hgc : w.heap.size ≤ w1.heap.size := hb1.size
  clear ho1 hg1 c0 hb1
  simp only [List.nil_append]
  go_wp2_with fail
  generalize w1.alloc (.cells #[.slice A1 (Cm.enc n0).length c1] 25) = W2 at *
  generalize w1.heap.size = gc at *
  have HT2 := Lib.hid (HT.out.later hb2)
  have d3 : W2.cell? ⟨gc, 0, none⟩ = some (.slice A1 (Cm.enc n0).length c1) := hk2.cell 0
  have d1 : W2.cell? ⟨g, 1, none⟩ = some (.slice Ar t.recs.length cr) := HT2.out.blk.cell 1
  have f3 := hk2.frozen 0
  have hen := (Cm.enc_len n0).1
  have HP2 := Lib.hid (pnum_any w.heap.size _ t.recs.length (Cm.enc n0) W2.drew ho2.drew hb2.size (by omega) (by omega))
  have HO2 := Lib.hid ho2
  have HK2 := Lib.hid hk2
  have HB2 := Lib.hid hb2
  clear ho2 hk2 hb2
  refine wp_mono (Q := Exit.then (fun a W => ∃ u19, a = { tmps := #[.pointer (some ⟨g, 0, none⟩), undef, .slice none 0 0, .pointer (some ⟨gc, 0, none⟩), undef, undef, undef, undef, .pointer (some ⟨g, 0, none⟩), .pointer (some ⟨g, 0, none⟩), .pointer (some ⟨g, 0, none⟩), .int .i64 (n0 : Int), .slice A1 (Cm.enc n0).length c1, .slice A1 (Cm.enc n0).length c1, .pointer (some ⟨g, 0, none⟩), .pointer (some ⟨g, 0, none⟩), .pointer (some ⟨g, 1, none⟩), .slice Ar t.recs.length cr, .int .i64 (t.recs.length : Int), u19, undef, undef, undef, undef, undef, undef, undef, undef, undef, undef, undef, undef, undef, undef, undef, undef, undef, undef, undef, undef, undef, undef, undef, undef, undef, undef, undef, undef, undef, undef, undef, undef, undef, undef, undef], defers := [] } ∧ Row w.heap.size gc (fun _ => False) (Cm.enc n0 ++ Cm.enc t.recs.length) W ∧ Below w.heap.size w W) (fun _ _ _ => False)) ?_ ?_
  · go_region_law (first
      | (go_simp; go_at_call 102; refine HP2.out.mono ?_; rintro e w3 ⟨v3, rfl, ho3, hg3, hv3⟩; obtain ⟨A3, c3, rfl⟩ := own_shape ho3; have q4 : Blk w3 gc 25 #[.slice A1 (Cm.enc n0).length c1] := (show Blk W2.drew gc 25 #[.slice A1 (Cm.enc n0).length c1] from HK2.out).grown hg3 (fun e => own_far HO2.out HK2.out (by decide) e.symm); have f4 := q4.frozen 0; have j4 := q4.cell 0; simp only [List.getElem?_toArray, List.getElem?_cons_zero] at j4; have HRW := Lib.hid (Row.put (X := fun _ => False) hgc (fun h => h) (fun _ h => h.elim) (show Blk W2.drew gc 25 #[.slice A1 (Cm.enc n0).length c1] from HK2.out) HO2.out.drew (fun _ _ h => h) ho3 hg3 hv3); clear ho3 hg3 hv3 q4))
    all_goals
      refine ⟨_, rfl, ?_, ?_⟩
      · have h := HRW.out.1
        simpa only [List.length_append] using h
      · have h := HRW.out.2
        have h2 : Below w.heap.size W2.drew (w3.setCell ⟨gc, 0, none⟩ (.slice A3 ((Cm.enc n0).length + (Cm.enc t.recs.length).length) c3)) := by
          have h3 := h.below (B := w.heap.size) (fun k hk h => by omega) HB2.out.size
          simpa only [List.length_append] using h3
        exact HB2.out.trans ⟨h2.os, h2.tape, h2.output, h2.size, h2.block⟩
  rintro e a W4 hpost
  cases e <;> first | exact hpost.elim | skip
  obtain ⟨u19, rfl, hR4, hB4⟩ := hpost
  have HR4 := Lib.hid hR4
  have HB4 := Lib.hid hB4
  clear hR4 hB4 HP2 HO2 HK2 d3 d1 f3
  go_wp2_with fail
  refine (all_ret W4 g).mono ?_
  rintro e W5 ⟨rfl, rfl⟩
  have hk5 : Blk (W4.alloc (.cells #[.pointer (some ⟨g, 0, none⟩)] 153)) W4.heap.size 153 #[.pointer (some ⟨g, 0, none⟩)] := Blk.new _ _ _
  have hb5 : Below W4.heap.size W4 (W4.alloc (.cells #[.pointer (some ⟨g, 0, none⟩)] 153)) := (Below.refl _ _).alloc (Nat.le_refl _) _
  have hz5 : W4.heap.size < (W4.alloc (.cells #[.pointer (some ⟨g, 0, none⟩)] 153)).heap.size := by simp
  generalize W4.alloc (.cells #[.pointer (some ⟨g, 0, none⟩)] 153) = W5 at *
  have hgc4 : gc < W4.heap.size := by obtain ⟨_, _, h, _⟩ := HR4.out; exact h.lt
  have hw4 := HB4.out.size
  generalize hB1 : W4.heap.size = B1 at *
  have HT5 := Lib.hid (HT.out.later (HB4.out.trans (hb5.mono hw4)))
  have HSEQ := Lib.hid (recs_seq 5 (by omega) (fun k => w.heap.size ≤ k ∧ k ≠ B1) T R W5 B1 g mg t _ hk5 (fun h => h.2 rfl) HT5.out (fun k hk h => by have := HTL.out k hk; omega) (fun k hk h => by have := HRL.out k hk; omega) HF.out.base HF.out.next HF.out.few)
  have HR5 : Hid (Row w.heap.size gc (fun q => q = B1 ∨ q = W5.heap.size ∨ q = W5.heap.size + 1) (Cm.enc n0 ++ Cm.enc t.recs.length ++ Cm.encP (t.recs.take 0)) W5) := Lib.hid (by
    have h := HR4.out.new (X' := fun q => q = B1 ∨ q = W5.heap.size ∨ q = W5.heap.size + 1) (hB1 ▸ hb5) (fun q hq => .inr (by omega))
    simpa [Cm.encP] using h)
  clear hk5
  go_wp2_with fail
  refine (wpIn_wide (n := 6)).1 ?_
  refine wpIn_rangeR rfl (by omega) (gf := 150) (lb := #[.pointer (some ⟨B1, 0, none⟩)]) rfl trivial (enters_of Tryz.func150 (by kernel_rfl) rfl) HSEQ.out (fun k hk => ⟨by omega, by omega⟩)
    (fun B p args W ⟨_, _, hh, _⟩ => by rw [hh]; rfl) (fun p args W W' hh c => Rt.ch hh c (fun k hk => by have := HRL.out k hk; omega))
    (fun k W => Row w.heap.size gc (fun q => q = B1 ∨ q = W5.heap.size ∨ q = W5.heap.size + 1) (Cm.enc n0 ++ Cm.enc t.recs.length ++ Cm.encP (t.recs.take k)) W) (fun _ _ _ => False)
    (fun k W W' hh _ c => hh.ch c (fun h => by rcases h with h | h <;> omega) (fun q hq => .inr hq)) (fun cc k W W' hh _ c => hh) HR5.out (actB n0 A1 c1 Ar t.recs.length cr g gc B1 u19) ?assign ?body ?done ?stop
  case assign =>
    intro l args W K hsz hK
    obtain ⟨x, y, rfl⟩ := two_of hsz
    gi_wp2_with fail
    exact hK
  case stop => exact fun _ _ _ _ _ h _ => h.elim
  case body =>
    intro l k hk args W hlt hcw hi hr
    rw [offs_len] at hk
    rw [offs_get t.base t.recs k hk] at hr
    obtain ⟨Ay, cy, rfl, hy⟩ := hr
    obtain ⟨Ab, cb, hkb, hob, hvb⟩ := hi
    have HK := Lib.hid hkb
    have HO := Lib.hid hob
    have HV := Lib.hid hvb
    have hpl := Pz.encP_small t.recs HF.out.each
    have hple := Cm.encP_le t.recs k
    have hy64 := HF.out.each _ (List.getElem_mem hk)
    have hen1 := (Cm.enc_len t.recs.length).1
    have HBL : Hid ((Cm.enc n0 ++ Cm.enc t.recs.length ++ Cm.encP (t.recs.take k)).length ≤ 8000) := Lib.hid (by simp only [List.length_append]; omega)
    have HE : Hid (Cm.enc n0 ++ Cm.enc t.recs.length ++ Cm.encP (t.recs.take k) ++ Cm.encB t.recs[k] = Cm.enc n0 ++ Cm.enc t.recs.length ++ Cm.encP (t.recs.take (k + 1))) := Lib.hid (by rw [Cm.encP_take hk, List.append_assoc])
    generalize Cm.enc n0 ++ Cm.enc t.recs.length ++ Cm.encP (t.recs.take k) = bk at *
    have HP := Lib.hid (pbytes_any w.heap.size _ _ _ _ bk t.recs[k] W hob (by omega) hy (by have := HBL.out; omega) (by have := HBL.out; omega))
    have d3 : W.cell? ⟨gc, 0, none⟩ = some (.slice Ab bk.length cb) := hkb.cell 0
    clear hkb hob hvb hy hple hpl hen1
    dsimp only [actB]
    gi_wp2_with fail
    refine ⟨trivial, CallsIn.inRound l (callsIn_wide.2 (HP.out.mono ?_))⟩
    rintro e w3 ⟨v3, rfl, ho3, hg3, hv3⟩
    obtain ⟨A3, c3, rfl⟩ := own_shape ho3
    have q4 := HK.out.grown hg3 (fun e => own_far HO.out HK.out (by decide) e.symm)
    have f4 := q4.frozen 0
    have j4 : w3.cell? ⟨gc, 0, none⟩ = some (.slice Ab bk.length cb) := q4.cell 0
    have HRW := Lib.hid (Row.put (X := fun q => q = B1 ∨ q = W5.heap.size ∨ q = W5.heap.size + 1) hgc (fun h => by omega) (fun q h => by omega) HK.out HO.out HV.out ho3 hg3 hv3)
    clear ho3 hg3 hv3 q4 d3
    gi_wp2_with fail
    have h1 := HRW.out.1
    have h2 := HRW.out.2
    simp only [List.length_append] at h1 h2
    rw [HE.out] at h1
    exact ⟨h2.mono (fun q _ hq => ⟨⟨hq.1, fun e => hq.2 (.inl e)⟩, fun e => hq.2 (.inr e)⟩), h1⟩
  case done =>
    intro W hcw hi hd
    rw [offs_len, List.take_length] at hi
    replace hi := hi.new (X' := fun q => q = B1 ∨ q = W5.heap.size) (Below.refl _ _) (fun q hq => .inl (by rcases hq with hq | hq; exact .inl hq; exact .inr (.inl hq)))
    have hwz := hcw.size
    have HCW := Lib.hid hcw
    have hdl : W5.heap.size < W.heap.size := (Array.getElem?_eq_some_iff.1 hd).1
    have HT6 : Hid (Tg W T R g t (.slice Ar t.recs.length cr) mg) := Lib.hid (HT5.out.ch hcw (fun k hk h => by have := HTL.out k hk; omega) (fun k hk h => by have := HRL.out k hk; omega))
    obtain ⟨D, hD, hTG⟩ := HT6.out.gs
    have hgr : RG t.gs := List.pairwise_map.1 HR.out
    have hsz := gs_size hD hTG hgr
    have hle := (map_ch hD ((Ch.refl (fun _ => False) W).drew) (fun h => h)).len Tryz.underlying156 3
    rw [hsz] at hle
    obtain ⟨Ab, cb, hkb, hob, hvb⟩ := hi
    have hpl := Pz.encP_small t.recs HF.out.each
    have hen1 := (Cm.enc_len t.recs.length).1
    have hen2 := (Cm.enc_len t.gs.length).1
    have hg8 := HF.out.groups
    have HBL : Hid ((Cm.enc n0 ++ Cm.enc t.recs.length ++ Cm.encP t.recs).length ≤ 8000) := Lib.hid (by simp only [List.length_append]; omega)
    have HTB : Hid (Cm.enc n0 ++ Cm.enc t.recs.length ++ Cm.encP t.recs ++ Cm.enc t.gs.length ++ t.gs.flatMap gpB = tB t) := Lib.hid (by
      unfold tB Cm.encL
      rw [HN0.out, Int.toNat_natCast]
      simp only [List.append_assoc])
    generalize Cm.enc n0 ++ Cm.enc t.recs.length ++ Cm.encP t.recs = b6 at *
    have HP6 := Lib.hid (pnum_any w.heap.size _ t.gs.length b6 W.drew hob.drew (by show _ ≤ W.heap.size; omega) (by have := HBL.out; omega) (by omega))
    have d3 : W.cell? ⟨gc, 0, none⟩ = some (.slice Ab b6.length cb) := hkb.cell 0
    have d2 : W.cell? ⟨g, 2, none⟩ = some (.map (some mg)) := HT6.out.blk.cell 2
    have f3 := hkb.frozen 0
    have HK6 := Lib.hid hkb
    have HO6 := Lib.hid hob
    have HV6 := Lib.hid hvb
    have HDF := Lib.hid hd
    have HDM := Lib.hid (And.intro hD hTG)
    have HGR := Lib.hid hgr
    clear hkb hob hvb hd hpl hen1 hcw hD hTG hgr hsz
    dsimp only
    go_wp2_with fail
    refine wp_mono (Q := Exit.then (fun a W' => ∃ u27 u33, a = { tmps := #[.pointer (some ⟨g, 0, none⟩), undef, .slice none 0 0, .pointer (some ⟨gc, 0, none⟩), undef, undef, undef, undef, .pointer (some ⟨g, 0, none⟩), .pointer (some ⟨g, 0, none⟩), .pointer (some ⟨g, 0, none⟩), .int .i64 (n0 : Int), .slice A1 (Cm.enc n0).length c1, .slice A1 (Cm.enc n0).length c1, .pointer (some ⟨g, 0, none⟩), .pointer (some ⟨g, 0, none⟩), .pointer (some ⟨g, 1, none⟩), .slice Ar t.recs.length cr, .int .i64 (t.recs.length : Int), u19, .pointer (some ⟨g, 0, none⟩), .func (.func 150) #[] #[.pointer (some ⟨B1, 0, none⟩)], undef, undef, undef, undef, undef, u27, .pointer (some ⟨g, 0, none⟩), .pointer (some ⟨g, 0, none⟩), .pointer (some ⟨g, 2, none⟩), .map (some mg), .int .i64 (t.gs.length : Int), u33, undef, undef, undef, undef, undef, undef, undef, undef, undef, undef, undef, undef, undef, undef, undef, undef, undef, undef, undef, undef, undef], defers := [{ target := .collected W5.heap.size, args := #[] }] } ∧ Row w.heap.size gc (fun q => q = B1 ∨ q = W5.heap.size) (b6 ++ Cm.enc t.gs.length) W' ∧ Ch (fun k => w.heap.size ≤ k ∧ ¬ (k = B1 ∨ k = W5.heap.size)) W W') (fun _ _ _ => False)) ?_ ?_
    · go_region_law (first
        | (go_simp; go_at_call 102; refine HP6.out.mono ?_; rintro e w3 ⟨v3, rfl, ho3, hg3, hv3⟩; obtain ⟨A3, c3, rfl⟩ := own_shape ho3; have q4 : Blk w3 gc 25 #[.slice Ab b6.length cb] := (show Blk W.drew gc 25 #[.slice Ab b6.length cb] from HK6.out).grown hg3 (fun e => own_far HO6.out HK6.out (by decide) e.symm); have f4 := q4.frozen 0; have j4 := q4.cell 0; simp only [List.getElem?_toArray, List.getElem?_cons_zero] at j4; have HRW := Lib.hid (Row.put (X := fun q => q = B1 ∨ q = W5.heap.size) hgc (fun h => by omega) (fun q h => by show q < W.heap.size; omega) (show Blk W.drew gc 25 #[.slice Ab b6.length cb] from HK6.out) HO6.out.drew HV6.out ho3 hg3 hv3); clear ho3 hg3 hv3 q4))
      all_goals
        refine ⟨_, _, rfl, ?_, ?_⟩
        · have h := HRW.out.1
          simpa only [List.length_append] using h
        · have h := HRW.out.2
          simp only [List.length_append] at h
          exact ch_of_drew h
    rintro e a W6 hpost
    cases e <;> first | exact hpost.elim | skip
    obtain ⟨u27, u33, rfl, hR6, hC6⟩ := hpost
    have HR6 := Lib.hid hR6
    have HC6 := Lib.hid hC6
    have hw6 := hC6.size
    have HT7 : Hid (Tg W6 T R g t (.slice Ar t.recs.length cr) mg) := Lib.hid (HT6.out.ch hC6 (fun k hk h => by have := HTL.out k hk; omega) (fun k hk h => by have := HRL.out k hk; omega))
    have HD7 : Hid (W6.heap[W5.heap.size]? = some (.deferred (some []))) := Lib.hid ((hC6.block _ hdl (fun h => h.2 (.inr rfl))).trans HDF.out)
    clear hR6 hC6 HP6 HO6 HK6 HV6 d3 d2 f3 hle
    go_wp2_with fail
    refine (gnames_on W6 T R g t _ mg HT7.out HR.out hg8).mono ?_
    rintro e W7 ⟨An, cn, rfl, hon, hb7⟩
    simp only [List.length_map] at hon ⊢
    have hD9 : W7.heap[W5.heap.size]? = some (.deferred (some [])) := (hb7.block _ (Nat.lt_of_lt_of_le hdl hw6)).trans HD7.out
    have HD9 := Lib.hid hD9
    have hT8 := HT7.out.later hb7
    have HT8 := Lib.hid hT8
    have HR8 : Hid (Row w.heap.size gc (fun q => q = W5.heap.size ∨ (Value.slice An t.gs.length cn).ownBlock = some q) (b6 ++ Cm.enc t.gs.length ++ (t.gs.take 0).flatMap gpB) W7) := Lib.hid (by
      have h := HR6.out.new (X' := fun q => q = W5.heap.size ∨ (Value.slice An t.gs.length cn).ownBlock = some q) hb7 (fun q hq => by
        rcases hq with hq | hq
        · exact .inl (.inr hq)
        · exact .inr (hon.lt q hq).1)
      simpa using h)
    have HON := Lib.hid hon
    have hw7 := hb7.size
    have HDB : Hid (Below w.heap.size w W7) := Lib.hid (by
      have h1 := HB4.out.trans (hb5.mono hw4)
      have h2 := HCW.out.below (B := w.heap.size) (fun k hk h => by omega) (by omega)
      have h3 := HC6.out.below (B := w.heap.size) (fun k hk h => by omega) (by omega)
      exact (h1.trans h2).trans (h3.trans (hb7.mono (by omega))))
    have HXL : Hid (∀ q, (q = W5.heap.size ∨ (Value.slice An t.gs.length cn).ownBlock = some q) → q < W7.heap.size) := Lib.hid (fun q hq => by
      rcases hq with hq | hq
      · omega
      · exact (HON.out.lt q hq).2)
    have HXG : Hid (¬ (gc = W5.heap.size ∨ (Value.slice An t.gs.length cn).ownBlock = some gc)) := Lib.hid (fun h => by
      rcases h with h | h
      · omega
      · have := (HON.out.lt gc h).1
        omega)
    clear hon hD9 hT8 hb7 hb5
    go_wp2_with fail
    go_loopw [37] (fun i wr => ∃ k : Nat, k ≤ t.gs.length ∧ i = .int .i64 (k : Int) ∧ Row w.heap.size gc (fun q => q = W5.heap.size ∨ (Value.slice An t.gs.length cn).ownBlock = some q) (b6 ++ Cm.enc t.gs.length ++ (t.gs.take k).flatMap gpB) wr ∧ Ch (fun q => w.heap.size ≤ q ∧ ¬ (q = W5.heap.size ∨ (Value.slice An t.gs.length cn).ownBlock = some q)) W7 wr) (fun i _ => t.gs.length - (intOf i).toNat)
    case atStart => exact ⟨0, Nat.zero_le _, rfl, HR8.out, Ch.refl _ _⟩
    case round =>
      obtain ⟨k, hk, rfl, hrw, hcr⟩ := hrel
      have HCR := Lib.hid hcr
      have hwr := hcr.size
      by_cases hlt : k < t.gs.length
      · have hltI : (k : Int) < (t.gs.length : Int) := by omega
        have honr := own_ch HON.out hcr (fun q hq h => h.2 (.inr hq))
        have HTR := Lib.hid (HT8.out.ch hcr (fun k hk h => by have := HTL.out k hk; omega) (fun k hk h => by have := HRL.out k hk; omega))
        obtain ⟨gn, hA, hcell⟩ : ∃ gn, An = some ⟨gn, 0, none⟩ ∧ wr.cell? ⟨gn, k, none⟩ = some (.string ⟨t.gs[k].n.toArray⟩) := by
          obtain ⟨g', c', hv, hb, hlt'⟩ := honr.form (by omega)
          obtain ⟨rfl, _, rfl⟩ := Value.slice.inj hv
          exact ⟨g', rfl, by rw [honr.cellAt k (by omega)]; simp [hlt]⟩
        subst hA
        obtain ⟨Ab, cb, hkb, hob, hvb⟩ := hrw
        have hgk := HF.out.g _ (List.getElem_mem hlt)
        obtain ⟨pk, hpk⟩ : ∃ n : Nat, t.gs[k].pos = (n : Int) := ⟨t.gs[k].pos.toNat, by have := hgk.pos; omega⟩
        have hpk2 : pk < 9223372036854775808 := by have := hgk.pos; simp only [maxNum] at this; omega
        have hnl := hgk.n
        have HPOS : Hid (pos t.gs t.gs[k].n = some (pk : Int)) := Lib.hid (by rw [pos_mem HGR.out _ (List.getElem_mem hlt), hpk])
        have HGP : Hid ((t.gs.take (k + 1)).flatMap gpB = (t.gs.take k).flatMap gpB ++ (Cm.encB t.gs[k].n ++ Cm.enc pk)) := Lib.hid (by
          rw [List.take_succ_eq_append_getElem hlt, List.flatMap_append]
          simp [gpB, hpk])
        have HBK : Hid ((b6 ++ Cm.enc t.gs.length ++ (t.gs.take k).flatMap gpB).length ≤ 9000) := Lib.hid (by
          have h1 := flat_le gpB 84 (t.gs.take k) (fun x hx => by
            have hx' := HF.out.g x (List.mem_of_mem_take hx)
            have h2 := (Cm.enc_len x.n.length).1
            have h3 := (Cm.enc_len x.pos.toNat).1
            have h4 := hx'.n
            simp only [gpB, List.length_append, Cm.encB_len]
            omega)
          have h5 : (t.gs.take k).length ≤ t.gs.length := by rw [List.length_take]; omega
          have h6 := HBL.out
          simp only [List.length_append]
          omega)
        generalize hbk : b6 ++ Cm.enc t.gs.length ++ (t.gs.take k).flatMap gpB = bk at *
        have HBKE := Lib.hid hbk
        have d3 : wr.cell? ⟨gc, 0, none⟩ = some (.slice Ab bk.length cb) := hkb.cell 0
        have hcv := conv_bytes t.gs[k].n
        have HO5 := Lib.hid (bytesWorld_out wr t.gs[k].n (by omega))
        have HB5 := Lib.hid (bytesWorld_below wr 5 ⟨t.gs[k].n.toArray⟩)
        have HK := Lib.hid hkb
        have HO := Lib.hid hob
        have HV := Lib.hid hvb
        clear hkb hob hvb hbk hgk hcr honr hpk
        go_wp2_with fail
        have HP := Lib.hid (pbytes_any w.heap.size _ (.slice Ab bk.length cb) _ _ bk t.gs[k].n (Lib.bytesWorld wr 5 ⟨t.gs[k].n.toArray⟩) (own_below HO.out HB5.out) (Nat.le_trans (by omega) HB5.out.size) (HO5.out.sl (X := fun _ => False) (fun _ _ _ h => h)) (by have := HBK.out; omega) (by have := HBK.out; omega))
        refine HP.out.mono ?_
        rintro e w3 ⟨v3, rfl, ho3, hg3, hv3⟩
        obtain ⟨A3, c3, rfl⟩ := own_shape ho3
        have q3 := HK.out.below HB5.out HK.out.lt
        have o3 := own_below HO.out HB5.out
        have q4 := q3.grown hg3 (fun e => own_far o3 q3 (by decide) e.symm)
        have f4 := q4.frozen 0
        have j4 : w3.cell? ⟨gc, 0, none⟩ = some (.slice Ab bk.length cb) := q4.cell 0
        have hrow := Row.put hgc HXG.out (fun q hq => Nat.lt_of_lt_of_le (HXL.out q hq) (Nat.le_trans hwr HB5.out.size)) q3 o3 HV.out ho3 hg3 hv3
        simp only [List.length_append] at hrow
        have HRW := Lib.hid hrow
        clear q3 o3 q4 ho3 hg3 hv3 hrow d3 hcv
        go_wp2_with fail
        have hr8 := HRW.out.1
        have hc8 : Ch (fun q => w.heap.size ≤ q ∧ ¬ (q = W5.heap.size ∨ (Value.slice (some ⟨gn, 0, none⟩) t.gs.length cn).ownBlock = some q)) wr _ := (Ch.of_below HB5.out (Nat.le_refl _)).trans HRW.out.2 (fun _ _ h => h)
        clear HRW j4 f4
        generalize hW8 : w3.setCell ⟨gc, 0, none⟩ (.slice A3 (bk.length + (Cm.encB t.gs[k].n).length) c3) = W8 at hr8 hc8 ⊢
        clear hW8
        obtain ⟨A8, c8, hk8, ho8, hv8⟩ := hr8
        have hw8 := hc8.size
        have HT9 := Lib.hid (HTR.out.ch hc8 (fun k hk h => by have := HTL.out k hk; omega) (fun k hk h => by have := HRL.out k hk; omega))
        obtain ⟨D9, hD9, hTG9⟩ := HT9.out.gs
        have hlk := glook1 (map_ch hD9 ((Ch.refl (fun _ => False) W8).drew) (fun h => h)) hTG9 t.gs[k].n (by omega)
        rw [HPOS.out, Option.getD_some] at hlk
        have HB8 : Hid ((bk ++ Cm.encB t.gs[k].n).length ≤ 9100) := Lib.hid (by have := HBK.out; have := (Cm.enc_len t.gs[k].n.length).1; simp only [List.length_append, Cm.encB_len]; omega)
        have HGP2 : Hid (bk ++ Cm.encB t.gs[k].n ++ Cm.enc pk = b6 ++ Cm.enc t.gs.length ++ (t.gs.take (k + 1)).flatMap gpB) := Lib.hid (by rw [HGP.out, ← HBKE.out]; simp only [List.append_assoc])
        generalize bk ++ Cm.encB t.gs[k].n = b8 at *
        have HP9 := Lib.hid (pnum_any w.heap.size _ pk b8 W8.drew ho8.drew (by show _ ≤ W8.heap.size; omega) (by have := HB8.out; omega) hpk2)
        have d3 : W8.cell? ⟨gc, 0, none⟩ = some (.slice A8 b8.length c8) := hk8.cell 0
        have d2 : W8.cell? ⟨g, 2, none⟩ = some (.map (some mg)) := HT9.out.blk.cell 2
        have f3 := hk8.frozen 0
        have HK8 := Lib.hid hk8
        have HO8 := Lib.hid ho8
        have HV8 := Lib.hid hv8
        have HC8 := Lib.hid hc8
        clear hk8 ho8 hv8 hc8 hD9 hTG9
        refine calm2 ?_
        go_region_law (first
          | (go_simp; go_at_call 102; refine HP9.out.mono ?_; rintro e w5 ⟨v5, rfl, ho5, hg5, hv5⟩; obtain ⟨A5, c5, rfl⟩ := own_shape ho5; have q5 : Blk w5 gc 25 #[.slice A8 b8.length c8] := (show Blk W8.drew gc 25 #[.slice A8 b8.length c8] from HK8.out).grown hg5 (fun e => own_far HO8.out HK8.out (by decide) e.symm); have f5 := q5.frozen 0; have j5 := q5.cell 0; simp only [List.getElem?_toArray, List.getElem?_cons_zero] at j5; have HRW := Lib.hid (Row.put (W := W8.drew) hgc HXG.out (fun q hq => show q < W8.heap.size from Nat.lt_of_lt_of_le (HXL.out q hq) (Nat.le_trans hwr hw8)) (show Blk W8.drew gc 25 #[.slice A8 b8.length c8] from HK8.out) HO8.out.drew HV8.out ho5 hg5 hv5); clear ho5 hg5 hv5 q5))
        all_goals
          have hr1 := HRW.out.1
          have hr2 := ch_of_drew HRW.out.2
          simp only [List.length_append] at hr1 hr2
          rw [HGP2.out] at hr1
          have HR1 := Lib.hid hr1
          have HR2 := Lib.hid ((HCR.out.trans HC8.out (fun _ _ h => h)).trans hr2 (fun _ _ h => h))
          clear hr1 hr2 HRW
          go_wp2_with fail
          go_roundw
          case rel => exact ⟨k + 1, by omega, by go_num, HR1.out, HR2.out⟩
          case measure => simp [intOf]; omega
      · have hke : k = t.gs.length := by omega
        subst hke
        rw [List.take_length, HTB.out] at hrw
        obtain ⟨Ab, cb, hkb, hob, hvb⟩ := hrw
        have d3 : wr.cell? ⟨gc, 0, none⟩ = some (.slice Ab (tB t).length cb) := hkb.cell 0
        have HO := Lib.hid hob
        have hdd : wr.heap[W5.heap.size]? = some (.deferred (some [])) := (hcr.block _ (by omega) (fun h => h.2 (.inl rfl))).trans HD9.out
        have HDD := Lib.hid hdd
        have hvb2 := hvb
        clear hkb hob hvb hdd hcr
        have HCR2 := Lib.hid (HCR.out.below (B := w.heap.size) (fun k hk h => by omega) (by omega))
        have HVB := Lib.hid (fun q hq h => hvb2 q hq h)
        go_wp2_with fail
        refine ⟨by simp, .inl ⟨_, _, rfl, run_takeDeferred HDD.out, ?_⟩⟩
        refine ⟨_, results_tmp rfl _ _ _, _, rfl, ?_, ?_⟩
        · exact own_ch HO.out (ch_putObj wr W5.heap.size (.deferred none)) (fun q hq e => HVB.out q hq (.inl e))
        · have h1 := (ch_putObj wr W5.heap.size (.deferred none)).below (B := w.heap.size) (fun k hk h => by omega) (by omega)
          exact HDB.out.trans (HCR2.out.trans h1)
end Go.Proofs.YtobphijbhghgmaaGreat.Bt

/-
  Contract of the program's topics: Bytes.
-/
namespace Go.Proofs.YtobphijbhghgmaaGreat.Bu
set_option linter.unusedSimpArgs false
open Go Go.RowKit Go.Shelf Ck Kw Pk Cb Ga Kf Km Pm Pz Po Tm Tn Tq Kx Aa Ab Ac Ad Kr Bp Bq Br Bt
attribute [local go_sem ↓] Go.wp_at_zero Go.wp_at_succ
set_option linter.unusedVariables false

/-- The map's look-up, one result. -/
theorem look1 {w : World} {S R : Nat → Prop} {p m : Nat} {s : St} {D : DataW Unit} {G : Tx → Nat} {V : Tx → Value} {M : Tx → Nat} {F : Tx → Nat → Prop} (h : TP w S R p m s D G V M F) (t : Tp) (ht : t ∈ s.L) (hx : t.n.length ≤ 140737488355328) :
    (Instr.lookup 67 (.map (some m)) (.string ⟨t.n.toArray⟩) false).run Tryz.prog w = .ok (.pointer (some ⟨G t.n, 0, none⟩)) w := by
  obtain ⟨v, ps, hrun, hv⟩ := h.own.lookup law_str Tryz.underlying67 (zero_ptr w) (zd := .nil) (zp := []) ptrElem_nil (key_str t.n (by simp only [maxLen]; omega))
  rw [h.tells.2 t ht] at hv
  rw [hrun, ptrElem_at hv]
/-- Rows of two kinds lie in two blocks. -/
theorem rows_far {w : World} {B1 B2 n1 n2 s1 s2 : Nat} {e1 e2 : TypeId} {v1 v2 : Value} {l1 l2 : List Value} (h1 : w.ownsRow B1 e1 s1 v1 n1 l1) (h2 : w.ownsRow B2 e2 s2 v2 n2 l2) (hne : e1 ≠ e2) : ∀ q, v1.ownBlock = some q → v2.ownBlock ≠ some q := by
  intro q hq
  rcases h1.2 with ⟨rfl, _⟩ | ⟨g1, _, _, rfl, _, r1, _⟩
  · simp [Value.ownBlock] at hq
  · simp only [Value.ownBlock, Option.some.injEq] at hq
    subst hq
    exact own_far h2 (show Blk w g1 e1 _ from r1) (fun e => hne e.symm)
theorem tB_len {t : Tp} (h : FitT t) : (tB t).length ≤ 5500 := by
  have h1 := (Cm.enc_len t.base.toNat).1
  have h2 := (Cm.enc_len t.recs.length).1
  have h3 := (Cm.enc_len t.gs.length).1
  have h4 := Pz.encP_small t.recs h.each
  have h5 := h.few
  have h6 := h.groups
  have h7 := flat_le gpB 84 t.gs (fun x hx => by
    have hx' := h.g x hx
    have h2 := (Cm.enc_len x.n.length).1
    have h3 := (Cm.enc_len x.pos.toNat).1
    have h4 := hx'.n
    simp only [gpB, List.length_append, Cm.encB_len]
    omega)
  unfold tB Cm.encL
  simp only [List.length_append]
  omega
theorem idx_last (l : List An) (h8 : l.length = 8) (k : Nat) (hk : k < l.length) (W : World) : (Instr.index 72 (.agg (ACs l).toArray) (.int .i64 (k : Int))).run Tryz.prog W = .ok (.agg #[.int .i64 l[k].time, .int .i64 l[k].err, .int .i64 l[k].off]) W := by
  match l, h8 with
  | [a0, a1, a2, a3, a4, a5, a6, a7], _ =>
    match k, hk with
    | 0, _ => (show _ = _; kernel_rfl)
    | 1, _ => (show _ = _; kernel_rfl)
    | 2, _ => (show _ = _; kernel_rfl)
    | 3, _ => (show _ = _; kernel_rfl)
    | 4, _ => (show _ = _; kernel_rfl)
    | 5, _ => (show _ = _; kernel_rfl)
    | 6, _ => (show _ = _; kernel_rfl)
    | 7, _ => (show _ = _; kernel_rfl)
theorem anB_len {a : An} (h : FitA a) : (anB a).length ≤ 30 := by
  have h1 := (Cm.enc_len a.time.toNat).1
  have h2 := (Cm.enc_len a.err.toNat).1
  have h3 := (Cm.enc_len a.off.toNat).1
  unfold anB
  simp only [List.length_append]
  omega
theorem res_eq {a : An} (h : FitA a) : Cm.enc a.time.toNat ++ resB a.err a.off = anB a := by
  unfold anB resB
  rw [show max a.err 0 = a.err by have := h.err; omega, show max a.off 0 = a.off by have := h.off; omega]
theorem tpB_eq (t : Tp) : tpB t = Cm.encB t.n ++ tB t := rfl

set_option maxRecDepth 100000 in
set_option maxHeartbeats 4000000 in
theorem bytes_all (w : World) (S R : Nat → Prop) (p : Nat) (s : St) (h : Tz w S R p s) (hS : ∀ k, S k → k < w.heap.size) :
    Calls Tryz.prog 85 #[.pointer (some ⟨p, 0, none⟩)] w fun e w' => Made w 5 (stB s) e w' := by
  have HM := Lib.hid (made_on w S R p s h)
  have HZ := Lib.hid h
  obtain ⟨m, D, G, V, M, F, hP⟩ := h
  have HSL := Lib.hid hS
  have hgood := hP.good
  have HG := Lib.hid hgood
  have c0 := hP.cell0
  have hle := hP.own.len Tryz.underlying67 3
  rw [hP.size] at hle
  have hfew := hgood.L.few
  have HP := Lib.hid hP
  have HP0 := Lib.hid (pnum_any w.heap.size (.slice none 0 0) s.L.length [] w (World.ownsRow_nil _ _ _ _) (Nat.le_refl _) (by simp) (by omega))
  clear hP hgood hS
  go_enter Tryz.func85, Tryz.ntmps85
  go_wp2_with fail
  refine HM.out.mono ?_
  rintro e w1 ⟨rfl, rfl⟩
  go_wp2_with fail
  refine HP0.out.mono ?_
  rintro e w1 ⟨v1, rfl, ho1, hg1, -⟩
  obtain ⟨A1, c1, rfl⟩ := own_shape ho1
  have hb1 : Below w.heap.size w w1 := (Ch.of_grown (S := fun _ => False) hg1 (fun q hq _ => by simp [Value.ownBlock] at hq)).below (fun _ _ h => h) (Nat.le_refl _)
  simp only [List.nil_append] at ho1 ⊢
  have HO1 := Lib.hid ho1
  have HB1 := Lib.hid hb1
  have hw1 := hb1.size
  clear ho1 hb1 hg1 c0 hle
  go_wp2_with fail
  refine (names_on w1 S R p s (HZ.out.later HB1.out)).mono ?_
  rintro e w2 ⟨An, cn, rfl, hon, hb2⟩
  simp only [List.length_map] at hon ⊢
  have hw2 := hb2.size
  have HB2 := Lib.hid (HB1.out.trans (hb2.mono hw1))
  have ho2 := own_below HO1.out hb2
  have hfar0 := fun q hq h => Nat.lt_irrefl q (Nat.lt_of_lt_of_le (HO1.out.lt q hq).2 (hon.lt q h).1)
  have HXW : Hid (∀ q, (Value.slice An s.L.length cn).ownBlock = some q → q < w2.heap.size ∧ w.heap.size ≤ q) := Lib.hid (fun q hq => ⟨(hon.lt q hq).2, Nat.le_trans hw1 (hon.lt q hq).1⟩)
  have HON := Lib.hid hon
  have HO2 := Lib.hid ho2
  have HF2 := Lib.hid hfar0
  clear hon hb2 ho2 hfar0
  go_wp2_with fail
  go_loopw [3, 20] (fun v i wr => ∃ k : Nat, k ≤ s.L.length ∧ i = .int .i64 (k : Int) ∧ wr.ownsRow w.heap.size 5 1 v (Cm.enc s.L.length ++ (s.L.take k).flatMap tpB).length (BVs (Cm.enc s.L.length ++ (s.L.take k).flatMap tpB)) ∧ Ch (fun q => w.heap.size ≤ q ∧ (Value.slice An s.L.length cn).ownBlock ≠ some q) w2 wr) (fun _ i _ => s.L.length - (intOf i).toNat)
  case atStart =>
    refine ⟨0, Nat.zero_le _, rfl, ?_, Ch.refl _ _⟩
    have := HO2.out
    simpa using this
  case round =>
    obtain ⟨k, hk, rfl, hrw, hcr⟩ := hrel
    obtain ⟨A3, c3, rfl⟩ := own_shape hrw
    have HCR := Lib.hid hcr
    have hwr := hcr.size
    have HBR := Lib.hid (HB2.out.trans (hcr.below (B := w.heap.size) (fun k hk h => by omega) (by omega)))
    by_cases hlt : k < s.L.length
    · have hltI : (k : Int) < (s.L.length : Int) := by omega
      have honr := own_ch HON.out hcr (fun q hq h => h.2 hq)
      obtain ⟨gn, hA, hcell⟩ : ∃ gn, An = some ⟨gn, 0, none⟩ ∧ wr.cell? ⟨gn, k, none⟩ = some (.string ⟨s.L[k].n.toArray⟩) := by
        obtain ⟨g', c', hv, hb, hlt'⟩ := honr.form (by omega)
        obtain ⟨rfl, _, rfl⟩ := Value.slice.inj hv
        exact ⟨g', rfl, by rw [honr.cellAt k (by omega)]; simp [hlt]⟩
      subst hA
      have hmem := List.getElem_mem hlt
      have HMEM := Lib.hid hmem
      have hft := HG.out.L.fit _ hmem
      have hnl := hft.n
      have htl := tB_len hft
      have HGP : Hid (Cm.enc s.L.length ++ (s.L.take k).flatMap tpB ++ Cm.encB s.L[k].n ++ tB s.L[k] = Cm.enc s.L.length ++ (s.L.take (k + 1)).flatMap tpB) := Lib.hid (by
        rw [List.take_succ_eq_append_getElem hlt, List.flatMap_append]
        simp [tpB_eq, List.append_assoc])
      have HBK : Hid ((Cm.enc s.L.length ++ (s.L.take k).flatMap tpB).length ≤ 50000) := Lib.hid (by
        have h1 := flat_le tpB 5600 (s.L.take k) (fun x hx => by
          have hx' := HG.out.L.fit x (List.mem_of_mem_take hx)
          have h2 := (Cm.enc_len x.n.length).1
          have h3 := tB_len hx'
          have h4 := hx'.n
          simp only [tpB_eq, List.length_append, Cm.encB_len]
          omega)
        have h5 : (s.L.take k).length ≤ s.L.length := by rw [List.length_take]; omega
        have h6 := (Cm.enc_len s.L.length).1
        simp only [List.length_append]
        omega)
      generalize Cm.enc s.L.length ++ (s.L.take k).flatMap tpB = bk at *
      have hcv := conv_bytes s.L[k].n
      have HO5 := Lib.hid (bytesWorld_out wr s.L[k].n (by omega))
      have HB5 := Lib.hid (bytesWorld_below wr 5 ⟨s.L[k].n.toArray⟩)
      have HRW := Lib.hid hrw
      have HONR := Lib.hid honr
      clear hrw honr hcr hmem hft
      go_wp2_with fail
      have HP3 := Lib.hid (pbytes_any w.heap.size _ (.slice A3 bk.length c3) _ _ bk s.L[k].n (Lib.bytesWorld wr 5 ⟨s.L[k].n.toArray⟩) (own_below HRW.out HB5.out) (Nat.le_trans (by omega) HB5.out.size) (HO5.out.sl (X := fun _ => False) (fun _ _ _ h => h)) (by have := HBK.out; omega) (by have := HBK.out; omega))
      refine HP3.out.mono ?_
      rintro e w3 ⟨v3, rfl, ho3, hg3, hv3⟩
      obtain ⟨A4, c4, rfl⟩ := own_shape ho3
      have hc3 : Ch (fun q => w.heap.size ≤ q ∧ (Value.slice (some ⟨gn, 0, none⟩) s.L.length cn).ownBlock ≠ some q) wr w3 := (Ch.of_below HB5.out (Nat.le_refl _)).trans (Ch.of_grown (S := fun q => w.heap.size ≤ q ∧ (Value.slice (some ⟨gn, 0, none⟩) s.L.length cn).ownBlock ≠ some q) hg3 (fun q hq _ => ⟨(HRW.out.lt q hq).1, fun e => rows_far HRW.out HONR.out (by decide) q hq e⟩)) (fun _ _ h => h)
      have hb3 : Below w.heap.size w w3 := HBR.out.trans (hc3.below (B := w.heap.size) (fun k hk h => by omega) (by omega))
      have hw3 := hc3.size
      have hP3 := HP.out.later hb3
      have c0 : w3.cell? ⟨p, 0, none⟩ = some (.map (some m)) := hP3.cell0
      have hlk := look1 hP3 s.L[k] HMEM.out (by omega)
      have HBY := Lib.hid (bytes_on w3 (F s.L[k].n) R (G s.L[k].n) s.L[k] (V s.L[k].n) (M s.L[k].n) (hP3.top _ HMEM.out) (HG.out.L.fit _ HMEM.out) (List.pairwise_map.2 ((okT_iff _).1 (HG.out.L.ok _ HMEM.out)).2.2.2) (fun q hq => (hP3.sub _ HMEM.out q hq).2.2.2) (fun q hq => (hP3.rs q hq).2))
      have HO3 := Lib.hid ho3
      have HC3 := Lib.hid hc3
      have HB8 : Hid ((bk ++ Cm.encB s.L[k].n).length ≤ 50100) := Lib.hid (by have := HBK.out; have := (Cm.enc_len s.L[k].n.length).1; simp only [List.length_append, Cm.encB_len]; omega)
      generalize hb8 : bk ++ Cm.encB s.L[k].n = b8 at *
      have HTL := Lib.hid htl
      clear ho3 hc3 hg3 hv3 hb3 hP3 hcell hcv hb8 htl
      go_wp2_with fail
      refine HBY.out.mono ?_
      rintro e w4 ⟨v4, rfl, ho4, hb4⟩
      obtain ⟨A5, c5, rfl⟩ := own_shape ho4
      have HO4 := Lib.hid ho4
      have HB4 := Lib.hid hb4
      have hw4 := hb4.size
      obtain ⟨i0, hi0, hz0, hz1, hz2⟩ := info_parts Cb.info_u8
      clear ho4 hb4 c0 hlk
      go_wp2_with (at_builtin; refine wpList_append_sl _ rfl (.tmp 28) (.tmp 35) _ rfl w.heap.size 5 i0 _ 1 1 Tryz.underlying25 hi0 hz0 hz1 hz2 rfl (by omega) _ b8.length (BVs b8) rfl (own_below HO3.out HB4.out) (fun _ => False) _ (tB s.L[k]).length (BVs (tB s.L[k])) rfl (Sl.of_own HO4.out (fun _ _ _ h => h)) (BVs_one _) (by have := HB8.out; have := HTL.out; simp only [maxLen]; omega) (by have := HB8.out; have := HTL.out; omega) (by omega) ?_; intro v5 w5 happ; have HAP := Lib.hid happ; clear happ)
      have h5 := HAP.out.1
      have h6 := HAP.out.2.1
      have hc5 : Ch (fun q => w.heap.size ≤ q ∧ (Value.slice (some ⟨gn, 0, none⟩) s.L.length cn).ownBlock ≠ some q) w3 w5 := (Ch.of_below HB4.out (Nat.le_refl _)).trans (Ch.of_grown (S := fun q => w.heap.size ≤ q ∧ (Value.slice (some ⟨gn, 0, none⟩) s.L.length cn).ownBlock ≠ some q) h6 (fun q hq _ => ⟨(HO3.out.lt q hq).1, fun e => rows_far HO3.out (own_ch (own_ch HON.out HCR.out (fun q hq h => h.2 hq)) HC3.out (fun q hq h => h.2 hq)) (by decide) q hq e⟩)) (fun _ _ h => h)
      rw [← BVs_app, ← List.length_append, HGP.out] at h5
      have HH5 := Lib.hid h5
      have HC5 := Lib.hid ((HCR.out.trans HC3.out (fun _ _ h => h)).trans hc5 (fun _ _ h => h))
      clear h5 h6 hc5 HAP
      go_roundw
      case rel => exact ⟨k + 1, by omega, by go_num, HH5.out, HC5.out⟩
      case measure => simp [intOf]; omega
    · have hke : k = s.L.length := by omega
      subst hke
      rw [List.take_length] at hrw ⊢
      have hP3 := HP.out.later HBR.out
      have HO3 := Lib.hid hrw
      have HRG : Hid (wr.rangeAt p 1 (ACs s.last)) := Lib.hid (fun j v hv => by
        rw [hP3.blk.cell (1 + j), List.getElem?_toArray, show 1 + j = j + 1 from by omega, List.getElem?_cons_succ]
        exact hv)
      have HSZ : Hid ((Tryz.prog.info? 72).map (·.size) = some (ACs s.last).length) := Lib.hid (by
        rw [show (ACs s.last).length = 24 by rw [ACs, flat_len AC_len, HG.out.eight]]
        kernel_rfl)
      have HBLS : Hid ((Cm.enc s.L.length ++ s.L.flatMap tpB).length ≤ 50000) := Lib.hid (by
        have h1 := flat_le tpB 5600 s.L (fun x hx => by
          have hx' := HG.out.L.fit x hx
          have h2 := (Cm.enc_len x.n.length).1
          have h3 := tB_len hx'
          have h4 := hx'.n
          simp only [tpB_eq, List.length_append, Cm.encB_len]
          omega)
        have h6 := (Cm.enc_len s.L.length).1
        simp only [List.length_append]
        omega)
      have HSTB : Hid (Cm.enc s.L.length ++ s.L.flatMap tpB ++ s.last.flatMap anB = stB s) := Lib.hid (by unfold stB; rw [List.append_assoc])
      clear hrw hcr hP3
      generalize Cm.enc s.L.length ++ s.L.flatMap tpB = bL at *
      have h8 := HG.out.eight
      go_wp2_with (refine wpList_load_mid rfl 72 (.tmp 40) rfl p 1 rfl (ACs s.last) _ HRG.out Tryz.underlying72 rfl HSZ.out ?_)
      go_loopw [3, 42] (fun v i W => ∃ k : Nat, k ≤ 8 ∧ i = .int .i64 (k : Int) ∧ W.ownsRow w.heap.size 5 1 v (bL ++ (s.last.take k).flatMap anB).length (BVs (bL ++ (s.last.take k).flatMap anB)) ∧ Below w.heap.size w W) (fun _ i _ => 8 - (intOf i).toNat)
      case atStart =>
        refine ⟨0, Nat.zero_le _, rfl, ?_, HBR.out⟩
        have := HO3.out
        simpa using this
      case round =>
        obtain ⟨k, hk, rfl, hrw, hbr⟩ := hrel
        obtain ⟨A6, c6, rfl⟩ := own_shape hrw
        have hsz6 := hbr.size
        by_cases hlt : k < 8
        · have hltI : (k : Int) < 8 := by omega
          have hkl : k < s.last.length := by omega
          have hix := idx_last s.last h8 k hkl
          have HFA := Lib.hid (HG.out.a _ (List.getElem_mem hkl)).1
          have hfa := HFA.out
          obtain ⟨tk, htk⟩ : ∃ n : Nat, s.last[k].time = (n : Int) := ⟨s.last[k].time.toNat, by have := hfa.time; omega⟩
          have htk2 : tk < 9223372036854775808 := by have := hfa.time; simp only [maxNum] at this; omega
          have HRS : Hid (bL ++ (s.last.take k).flatMap anB ++ Cm.enc tk ++ resB s.last[k].err s.last[k].off = bL ++ (s.last.take (k + 1)).flatMap anB) := Lib.hid (by
            have h := res_eq hfa
            rw [htk, Int.toNat_natCast] at h
            rw [List.take_succ_eq_append_getElem hkl, List.flatMap_append, List.flatMap_cons, List.flatMap_nil, List.append_nil, ← h]
            simp only [List.append_assoc])
          have HBK : Hid ((bL ++ (s.last.take k).flatMap anB).length ≤ 60000 ∧ (resB s.last[k].err s.last[k].off).length ≤ 30) := Lib.hid (by
            have h1 := flat_le anB 30 (s.last.take k) (fun x hx => anB_len (HG.out.a x (List.mem_of_mem_take hx)).1)
            have h5 : (s.last.take k).length ≤ 8 := by rw [List.length_take]; omega
            have h6 := HBLS.out
            have h7 := (Cm.enc_len (max s.last[k].err 0).toNat).1
            have h8 := (Cm.enc_len (max s.last[k].off 0).toNat).1
            simp only [List.length_append, resB]
            omega)
          generalize bL ++ (s.last.take k).flatMap anB = bk at *
          have HE63 : Hid (s.last[k].err ≤ 9223372036854775807 ∧ s.last[k].off ≤ 9223372036854775807) := Lib.hid (by have h1 := hfa.err; have h2 := hfa.off; simp only [maxNum] at h2; omega)
          generalize s.last[k].err = ek at *
          generalize s.last[k].off = ok at *
          generalize s.last[k].time = tz at *
          subst htk
          have HRW := Lib.hid hrw
          have HBR6 := Lib.hid hbr
          have hb6 : Below wr.heap.size wr (wr.alloc (.cells #[.int .i64 (tk : Int), .int .i64 ek, .int .i64 ok] 71)) := (Below.refl _ _).alloc (Nat.le_refl _) _
          have hk7 : Blk (wr.alloc (.cells #[.int .i64 (tk : Int), .int .i64 ek, .int .i64 ok] 71)) wr.heap.size 71 #[.int .i64 (tk : Int), .int .i64 ek, .int .i64 ok] := Blk.new _ _ _
          clear hrw hbr hfa HFA
          go_wp2_with fail
          clear hix
          generalize wr.alloc (.cells #[.int .i64 (tk : Int), .int .i64 ek, .int .i64 ok] 71) = W7 at hb6 hk7 ⊢
          have hsz7 := hb6.size
          have hrw7 := own_below HRW.out hb6
          have HB7 := Lib.hid (HBR6.out.trans (hb6.mono hsz6))
          refine (pnum_any w.heap.size _ tk bk W7 hrw7 (by omega) (by have := HBK.out; omega) htk2).mono ?_
          rintro e w8 ⟨v8, rfl, ho8, hg8, hv8⟩
          obtain ⟨A8, c8, rfl⟩ := own_shape ho8
          have q8 := hk7.grown hg8 (fun e => own_far hrw7 hk7 (by decide) e.symm)
          have l1 : w8.cell? ⟨wr.heap.size, 1, none⟩ = some (.int .i64 ek) := q8.cell 1
          have l2 : w8.cell? ⟨wr.heap.size, 2, none⟩ = some (.int .i64 ok) := q8.cell 2
          have hb8 : Below w.heap.size W7 w8 := (Ch.of_grown (S := fun q => w.heap.size ≤ q) hg8 (fun q hq _ => (hrw7.lt q hq).1)).below (fun k hk h => by omega) (by omega)
          have HB8 := Lib.hid (HB7.out.trans hb8)
          have hsz8 := hb8.size
          have HO8 := Lib.hid ho8
          have HE8 : Hid ((bk ++ Cm.enc tk).length ≤ 60010) := Lib.hid (by have := HBK.out; have := (Cm.enc_len tk).1; simp only [List.length_append]; omega)
          generalize bk ++ Cm.enc tk = b8 at *
          clear hk7 hrw7 hg8 hv8 q8 hb8 ho8 hb6
          go_wp2_with fail
          refine (putres_any (fun _ => False) (.slice none 0 0) 0 [] ek ok w8 (none_sl w8) (by simp) HE63.out.1 HE63.out.2).mono ?_
          rintro e w9 ⟨v9, rfl, ho9, hb9⟩
          simp only [List.nil_append] at ho9
          obtain ⟨A9, c9, rfl⟩ := own_shape ho9
          have HO9 := Lib.hid ho9
          have HB9 := Lib.hid hb9
          have hsz9 := hb9.size
          obtain ⟨i0, hi0, hz0, hz1, hz2⟩ := info_parts Cb.info_u8
          clear ho9 hb9 l1 l2
          go_wp2_with (at_builtin; refine wpList_append_sl _ rfl (.tmp 49) (.tmp 52) _ rfl w.heap.size 5 i0 _ 1 1 Tryz.underlying25 hi0 hz0 hz1 hz2 rfl (by omega) _ b8.length (BVs b8) rfl (own_below HO8.out HB9.out) (fun _ => False) _ (resB ek ok).length (BVs (resB ek ok)) rfl (Sl.of_own HO9.out (fun _ _ _ h => h)) (BVs_one _) (by have := HBK.out; have := HE8.out; simp only [maxLen]; omega) (by have := HBK.out; have := HE8.out; omega) (by omega) ?_; intro v5 w5 happ; have HAP := Lib.hid happ; clear happ)
          have h5 := HAP.out.1
          have h6 := HAP.out.2.1
          rw [← BVs_app, ← List.length_append, HRS.out] at h5
          have HH5 := Lib.hid h5
          have HB5 := Lib.hid ((HB8.out.trans (HB9.out.mono (by omega))).trans ((Ch.of_grown (S := fun q => w.heap.size ≤ q) h6 (fun q hq _ => (HO8.out.lt q hq).1)).below (B := w.heap.size) (fun k hk h => by omega) (by omega)))
          clear h5 h6 HAP
          go_roundw
          case rel => exact ⟨k + 1, by omega, by go_num, HH5.out, HB5.out⟩
          case measure => simp [intOf]; omega
        · have hltI : (8 : Int) ≤ (k : Int) := by omega
          have hke : k = s.last.length := by omega
          subst hke
          rw [List.take_length, HSTB.out] at hrw ⊢
          have HO6 := Lib.hid hrw
          have HB6 := Lib.hid hbr
          clear hrw hbr
          go_wp2_with fail
          go_ret
          exact ⟨_, rfl, HO6.out, HB6.out⟩
end Go.Proofs.YtobphijbhghgmaaGreat.Bu

/-
  Layer 8 (request): the contracts of Valid and of bullalaw08.begun.
-/
namespace Go.Proofs.YtobphijbhghgmaaGreat.Jh
set_option linter.unusedSimpArgs false
open Go Go.RowKit Ck Kw Ga Kf Pm Pe Pg Pk Py Qb Ik Lk Jm Ja Jb Jc Jd Jf Jg
open Im (num isIn add sum)
attribute [local go_sem ↓] Go.wp_at_zero Go.wp_at_succ
set_option linter.unusedVariables false
set_option maxRecDepth 100000

/-- The request that begun asks about. -/
def q0 : Q := ⟨2, 7, ⟨1, [116], [], 0, []⟩⟩
end Go.Proofs.YtobphijbhghgmaaGreat.Jh
