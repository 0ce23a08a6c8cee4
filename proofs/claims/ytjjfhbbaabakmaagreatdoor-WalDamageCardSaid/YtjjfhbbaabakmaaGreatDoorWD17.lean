/-
  Layer 4: the iterator that a segment hands on.
-/
import Derived.Test.YtjjfhbbaabakmaaGreatDoorWD16
import Derived.Test.YtjjfhbbaabakmaaGreatDoorWD10
import Derived.Test.YtjjfhbbaabakmaaGreatDoorWD02
import Derived.OwnWalkIn
import Derived.TacticsInMore
import Derived.LoopNIn
import Derived.LoopIn
import Derived.Stop.RegionWithIn
namespace Go.Proofs.YtjjfhbbaabakmaaGreatDoor.Uf
set_option linter.unusedSimpArgs false
open Go Go.RowKit Go.Shelf Ck Kw Ga Dm Kr Ue Wl Wj
attribute [local go_sem ↓] Go.wp_at_zero Go.wp_at_succ
attribute [local go_sem] Oper.semAt_some
set_option linter.unusedVariables false
set_option maxRecDepth 100000

/-- Records with their numbers. -/
def offs : Nat → List Tx → List (Nat × Tx)
  | _, [] => []
  | o, x :: l => (o, x) :: offs (o + 1) l
theorem offs_len : ∀ (o : Nat) (xs : List Tx), (offs o xs).length = xs.length
  | _, [] => rfl
  | o, x :: l => by simp [offs, offs_len]
theorem offs_get : ∀ (o : Nat) (xs : List Tx) (k : Nat) (h : k < xs.length), (offs o xs)[k]'(by rw [offs_len]; exact h) = (o + k, xs[k])
  | o, x :: l, 0, h => by simp [offs]
  | o, x :: l, k + 1, h => by
    have := offs_get (o + 1) l k (by simpa using h)
    simp only [offs, List.getElem_cons_succ, this]
    congr 1
    omega
/-- A number, and a record of one's own. -/
def Rt2 (B : Nat) (p : Nat × Tx) (args : Array Value) (W : World) : Prop :=
  ∃ A c, args = #[.int .i64 (p.1 : Int), .slice A p.2.length c] ∧ W.ownsRow B 5 1 (.slice A p.2.length c) p.2.length (BVs p.2)
theorem wide_some : Fence.wide.depth.isSome = true → False := fun h => by cases h
theorem op_below (w : World) (x : Obj) : Below w.heap.size w (w.alloc x) := (Below.refl _ w).alloc (Nat.le_refl _) _
/-- At the wide fence a round may stand as deep as it likes. -/
theorem round_deep {m m' l : Nat} {P : Program} {f : FuncId} {tmps : Array Value} {assign body : Code} {w : World} {R : Ending → World → Prop} (h : RoundIn Fence.wide m P l f tmps assign body w R) : RoundIn Fence.wide m' P l f tmps assign body w R :=
  ⟨h.1, fun c cs _ => h.2 c cs (room_wide _)⟩
theorem round_in {m l l' : Nat} {P : Program} {f : FuncId} {tmps : Array Value} {assign body : Code} {w : World} {R : Ending → World → Prop} (h : RoundIn Fence.wide m P l f tmps assign body w R) : RoundIn (Fence.wide.inRound l') m P l f tmps assign body w R := h
theorem round_mono {F : Fence} {m l : Nat} {P : Program} {f : FuncId} {tmps : Array Value} {assign body : Code} {w : World} {R R' : Ending → World → Prop} (h : RoundIn F m P l f tmps assign body w R) (hr : ∀ e w, R e w → R' e w) : RoundIn F m P l f tmps assign body w R' :=
  ⟨h.1, fun c cs hc => by obtain ⟨e, w', h1, h2⟩ := h.2 c cs hc; exact ⟨e, w', hr _ _ h1, h2⟩⟩
theorem all_ret (w : World) (s : Sg) (v : Value) : Calls Tryz.prog 48 #[.agg (SgV s v)] w fun e w' =>
    e = .returned (.func (.func 66) #[] #[.pointer (some ⟨w.heap.size, 0, none⟩)]) ∧ w' = w.alloc (.cells (SgV s v) 76) := by
  unfold SgV
  go_enter Tryz.func48, Tryz.ntmps48
  go_wp2
  go_ret
  exact ⟨rfl, rfl⟩

set_option maxHeartbeats 4000000 in
theorem sall_seq (n : Nat) (hn : 2 ≤ n) (S T : Nat → Prop) (w : World) (Bc : Nat) (s : Sg) (A : Option Addr) (c : Nat) (hB : Blk w Bc 76 (SgV s (.slice A s.recs.length c))) (hBS : ¬ S Bc) (h : Rcs w T (.slice A s.recs.length c) s.recs)
    (hT : ∀ k, T k → ¬ S k) (hf : s.first ≤ 9007199254740992) (hfew : s.recs.length ≤ 4194304) (hxl : ∀ x ∈ s.recs, x.length ≤ 549755813888) :
    SeqB Fence.wide n Tryz.prog 66 #[.pointer (some ⟨Bc, 0, none⟩)] Rt2 S (offs s.first s.recs) w := by
  intro l J Jx W hW hsz hJ hJx hY h0
  rw [offs_len]
  obtain ⟨vals, h1, hv, h2⟩ := h
  have HBW : Hid (∀ wr, Ch (fun q => S q ∨ W.heap.size ≤ q) W wr → Blk wr Bc 76 (SgV s (.slice A s.recs.length c)) ∧ wr.ownsRow 0 32 1 (.slice A s.recs.length c) s.recs.length vals ∧
      (∀ i (hi : i < s.recs.length), ∃ A c, vals[i]? = some (.slice A s.recs[i].length c) ∧ wr.ownsRow 0 5 1 (.slice A s.recs[i].length c) s.recs[i].length (BVs s.recs[i]))) := Lib.hid fun wr hc =>
    ⟨(hB.below hW hB.lt).ch hc (fun h => by have := hB.lt; rcases h with h | h; exact hBS h; omega), own_ch (own_below h1 hW) hc (fun k hk h => by have := (h1.lt k hk).2; rcases h with h | h; exact hT k (hv k hk) h; omega), fun i hi => by
      obtain ⟨Ai, ci, hu, hs, ht⟩ := h2 i hi
      exact ⟨Ai, ci, hu, own_ch (own_below hs hW) hc (fun k hk h => by have := (hs.lt k hk).2; rcases h with h | h; exact hT k (ht k hk) h; omega)⟩⟩
  have HJ := Lib.hid hJ
  have HY := Lib.hid hY
  unfold SgV at HBW
  clear hB h1 h2 hJ hY hv
  obtain ⟨hbk, -, -⟩ := HBW.out W (Ch.refl _ _)
  have c3 : W.cell? ⟨Bc, 3, none⟩ = some (.slice A s.recs.length c) := hbk.cell 3
  clear hbk
  refine callsIn_of_wp Tryz.func66 rfl trivial ?_ rfl
  simp only [Tryz.ntmps66, List.size_toArray, List.length_cons, List.length_nil, Nat.reduceAdd, Nat.reduceSub, Array.replicate_succ, Array.replicate_zero, List.push_toArray, List.append_toArray, List.nil_append, List.cons_append]
  gi_wp2
  clear c3
  gi_loopw [8] (fun p wr => ∃ k : Nat, k ≤ s.recs.length ∧ p = .int .i64 (k : Int) ∧ J k wr ∧ Ch (fun q => S q ∨ W.heap.size ≤ q) W wr) (fun p _ => s.recs.length - (intOf p).toNat)
  case atStart => exact ⟨0, Nat.zero_le _, rfl, h0, Ch.refl _ _⟩
  case round =>
    obtain ⟨k, hk, rfl, hJs, hcs⟩ := hrel
    by_cases hlt : k < s.recs.length
    · obtain ⟨hbk, ho, hel⟩ := HBW.out _ hcs
      have c1 : wr.cell? ⟨Bc, 1, none⟩ = some (.int .i64 (s.first : Int)) := hbk.cell 1
      obtain ⟨Au, cu, hu, hs⟩ := hel k hlt
      obtain ⟨g', hA, hcell⟩ : ∃ g', A = some ⟨g', 0, none⟩ ∧ wr.cell? ⟨g', k, none⟩ = some (.slice Au s.recs[k].length cu) := by
        obtain ⟨g', c', hv, hb, hlt'⟩ := ho.form (by omega)
        obtain ⟨rfl, _, rfl⟩ := Value.slice.inj hv
        exact ⟨g', rfl, by rw [ho.cellAt k (by omega), hu]⟩
      subst hA
      have hxk := hxl _ (List.getElem_mem hlt)
      have hof := offs_get s.first s.recs k hlt
      have HYK := fun args W1 hj hc hr => Lib.hid (HY.out k (by rw [offs_len]; exact hlt) args W1 hj hc (by rw [hof]; exact hr))
      have HCL := Lib.hid (Ga.clone_sh (fun _ => False) (.slice Au s.recs[k].length cu) s.recs[k].length s.recs[k] wr.drew (show Sl wr.drew _ _ _ _ _ from Sl.of_own hs (fun _ _ _ h => h)) (by omega))
      generalize s.recs[k] = x at *
      have HC := Lib.hid (And.intro hcs hJs)
      have HBK := Lib.hid hbk
      have hszw := hcs.size
      have hw : IntKind.i64.wrap ((s.first : Int) + (k : Int)) = (s.first : Int) + (k : Int) := Ga.wrap64 (by omega) (by omega)
      have hw0 : IntKind.i64.wrap (k : Int) = (k : Int) := Ga.wrap64 (by omega) (by omega)
      have hltI : (k : Int) < (s.recs.length : Int) := by omega
      clear hbk ho hel hu hs hcs hJs hof
      gi_wp2_with fail
      gi_region_with (first
        | (refine ⟨trivial, fun h => (wide_some h).elim, callsIn_wide.2 (HCL.out.mono ?_)⟩; rintro e w3 ⟨A3, c3, rfl, ho3, hb3⟩; have hb3 : Below wr.heap.size wr w3 := below_of_drew hb3; have hbk3 := HBK.out.below hb3 HBK.out.lt; have c13 : w3.cell? ⟨Bc, 1, none⟩ = some (.int .i64 (s.first : Int)) := hbk3.cell 1; have HB3 := Lib.hid hb3; have hcw3 := HC.out.1.trans (Ch.of_below (S := fun q => S q ∨ W.heap.size ≤ q) hb3 (Nat.le_refl _)) (fun _ _ h => h); have hj3 := HJ.out k wr w3 HC.out.2 hszw (Ch.of_below hb3 (Nat.le_refl _)); obtain ⟨fn, tmps, assign, body, hy, hRd⟩ := (HYK #[.int .i64 ((s.first : Int) + (k : Int)), .slice A3 x.length c3] w3 hj3 hcw3 ⟨A3, c3, by rw [← Int.natCast_add], own_base (show w3.ownsRow wr.heap.size _ _ _ _ _ from ho3) (by omega)⟩).out; have HRD := Lib.hid (round_deep (m' := n - 1) (round_mono hRd (R' := fun e W' => ∃ b : Bool, e = .returned (.bool b) ∧ (b = true → J (k + 1) W') ∧ (b = false → Jx (k + 1) W') ∧ Ch S w3 W') (fun e W' h => by rcases h with ⟨h1, h2, h3⟩ | ⟨h1, h2, h3⟩; exact ⟨true, h1, fun _ => h2, (fun h => by cases h), h3⟩; exact ⟨false, h1, (fun h => by cases h), fun _ => h2, h3⟩))); have HCW3 := Lib.hid hcw3; clear hRd ho3 hb3 hbk3 hj3 hcw3)
        | (refine ⟨fun h => (wide_some h).elim, HRD.out.mono ?_⟩; rintro e W3 ⟨bb, rfl, hb1, hb2, hc3⟩))
      all_goals
        have HFIN := Lib.hid (HCW3.out.trans (hc3.mono (T := fun q => S q ∨ W.heap.size ≤ q) (fun _ _ h => .inl h)) (fun _ _ h => h))
        have HB1 := Lib.hid hb1
        have HB2 := Lib.hid hb2
        clear hc3 hb1 hb2 c1 c13 hcell hy
        cases bb with
        | true =>
          gi_wp2_with fail
          go_roundw
          case rel => exact ⟨k + 1, by omega, by go_num, (by first | exact HB1.out rfl | exact HB1.out trivial), HFIN.out⟩
          case measure => simp [intOf]; omega
        | false =>
          gi_wp2_with fail
          refine bodyPost_ret (results_none rfl _ _ _) rfl ?_
          exact ⟨⟨_, rfl⟩, HFIN.out, .inr ⟨k + 1, by omega, (by first | exact HB2.out rfl | exact HB2.out trivial)⟩⟩
    · have hke : k = s.recs.length := by omega
      have HKE := Lib.hid hke
      have HC := Lib.hid hcs
      have HJ1 := Lib.hid hJs
      have hltI : ¬ (k : Int) < (s.recs.length : Int) := by omega
      have hltI2 : (s.recs.length : Int) ≤ (k : Int) := by omega
      clear hcs hJs hke
      gi_wp2_with fail
      refine bodyPost_end (results_none rfl _ _ _) rfl ?_
      have h1 := HJ1.out
      rw [HKE.out] at h1
      exact ⟨⟨_, rfl⟩, HC.out, .inl h1⟩
end Go.Proofs.YtjjfhbbaabakmaaGreatDoor.Uf

/-
  Layer 4: the iterator that a log's All hands on.
-/
namespace Go.Proofs.YtjjfhbbaabakmaaGreatDoor.Ug
set_option linter.unusedSimpArgs false
open Go Go.RowKit Go.Shelf Ck Kw Ga Dm Kr Ue Wl Wj Wk Uf
attribute [local go_sem ↓] Go.wp_at_zero Go.wp_at_succ
attribute [local go_sem] Oper.semAt_some
set_option linter.unusedVariables false
set_option maxRecDepth 100000

/-- The numbers and records of segments, one behind the other. -/
def allOf : List Sg → List (Nat × Tx)
  | [] => []
  | s :: l => offs s.first s.recs ++ allOf l
theorem allOf_app : ∀ (l m : List Sg), allOf (l ++ m) = allOf l ++ allOf m
  | [], m => rfl
  | s :: l, m => by rw [List.cons_append, allOf, allOf, allOf_app l m, List.append_assoc]
theorem take_split {l : List Sg} {i : Nat} (h : i < l.length) : l = l.take i ++ (l[i] :: l.drop (i + 1)) := by
  rw [← List.drop_eq_getElem_cons h, List.take_append_drop]
theorem allOf_at {l : List Sg} {i j : Nat} (h : i < l.length) (hj : j < l[i].recs.length) : (allOf l)[(allOf (l.take i)).length + j]? = some ((offs l[i].first l[i].recs)[j]'(by rw [offs_len]; exact hj)) := by
  have e := congrArg allOf (take_split h)
  rw [allOf_app, allOf] at e
  rw [e, List.getElem?_append_right (by omega), Nat.add_sub_cancel_left, List.getElem?_append_left (by rw [offs_len]; exact hj), List.getElem?_eq_getElem]
theorem allOf_step {l : List Sg} {i : Nat} (h : i < l.length) : (allOf (l.take (i + 1))).length = (allOf (l.take i)).length + l[i].recs.length := by
  rw [List.take_add_one, List.getElem?_eq_getElem h, Option.toList, allOf_app, allOf, allOf, List.append_nil, List.length_append, offs_len]
theorem allOf_le {l : List Sg} (i : Nat) : (allOf (l.take i)).length ≤ (allOf l).length := by
  have e := congrArg (fun m => (allOf m).length) (List.take_append_drop i l)
  simp only [allOf_app, List.length_append] at e
  omega
/-- Marks for blocks that collect calls. -/
def marks (Ds : List Nat) : List Deferred := Ds.map fun D => { target := .collected D, args := #[] }
/-- Blocks that have collected no call. -/
def Shutable (w : World) (B : Nat) (Ds : List Nat) : Prop := Ds.Nodup ∧ ∀ D ∈ Ds, B < D ∧ w.heap[D]? = some (.deferred (some []))
theorem Shutable.ch {w w' : World} {B : Nat} {Ds : List Nat} {X : Nat → Prop} (h : Shutable w B Ds) (c : Ch X w w') (hx : ∀ D ∈ Ds, ¬ X D) : Shutable w' B Ds :=
  ⟨h.1, fun D hD => ⟨(h.2 D hD).1, (c.block D (Array.getElem?_eq_some_iff.1 (h.2 D hD).2).1 (hx D hD)).trans (h.2 D hD).2⟩⟩
theorem Shutable.lt {w : World} {B : Nat} {Ds : List Nat} (h : Shutable w B Ds) : ∀ D ∈ Ds, D < w.heap.size := fun D hD => (Array.getElem?_eq_some_iff.1 (h.2 D hD).2).1
theorem Shutable.cons {w : World} {B : Nat} {Ds : List Nat} {D : Nat} (h : Shutable w B Ds) (hB : B < D) (hd : w.heap[D]? = some (.deferred (some []))) (hn : D ∉ Ds) : Shutable w B (D :: Ds) :=
  ⟨List.nodup_cons.2 ⟨hn, h.1⟩, fun E hE => by
    rcases List.mem_cons.1 hE with rfl | hE
    · exact ⟨hB, hd⟩
    · exact h.2 E hE⟩
theorem seg_at {w : World} {T : Nat → Prop} {A : Option Addr} {cap : Nat} {segs : List Sg} {rv : List Value} (h : Segs w T (.slice A segs.length cap) segs rv) {i : Nat} (hi : i < segs.length) : ∃ gb Ai ci, A = some ⟨gb, 0, none⟩ ∧ gb < w.heap.size ∧ T gb ∧
    w.cell? ⟨gb, i * 4, none⟩ = some (.int .i64 (segs[i].num : Int)) ∧ w.cell? ⟨gb, i * 4 + 1, none⟩ = some (.int .i64 (segs[i].first : Int)) ∧ w.cell? ⟨gb, i * 4 + 2, none⟩ = some (.int .i64 (segs[i].size : Int)) ∧ w.cell? ⟨gb, i * 4 + 3, none⟩ = some (.slice Ai segs[i].recs.length ci) ∧ Rcs w T (.slice Ai segs[i].recs.length ci) segs[i].recs := by
  obtain ⟨gb, c', hv, hT, hl, -, hat⟩ := h.at_ (by omega)
  obtain ⟨rfl, -, -⟩ := Value.slice.inj hv
  obtain ⟨u, hu, c0, c1, c2, c3, -, hr⟩ := hat i hi
  obtain ⟨Ai, ci, rfl⟩ := hr.shape
  exact ⟨gb, Ai, ci, rfl, hl, hT, c0, c1, c2, c3, hr⟩
/-- The frame of All's closure behind its first statements. -/
def actL (l Bn B0 : Nat) (A : Option Addr) (n cap : Nat) (k : Int) (Ds : List Nat) (u4 u10 u11 u12 u13 u14 u22 : Value) : Act :=
  { tmps := #[.func (.yield l) #[] #[], .pointer (some ⟨Bn, 0, none⟩), .pointer (some ⟨B0, 0, none⟩), undef, u4, undef, undef, .slice A n cap, .int .i64 (n : Int), .int .i64 k, u10, u11, u12, u13, u14, undef, undef, undef, undef, undef, undef, undef, u22], defers := marks Ds }
/-- The frame of a round of the range over a segment's records. -/
def actR (l Bn B0 : Nat) (A : Option Addr) (n cap : Nat) (k : Int) (u4 u10 u11 u12 u13 u14 u22 : Value) (args : Array Value) : Act :=
  match args with
  | ⟨[x, y]⟩ => { tmps := #[.func (.yield l) #[] #[], .pointer (some ⟨Bn, 0, none⟩), .pointer (some ⟨B0, 0, none⟩), undef, u4, x, y, .slice A n cap, .int .i64 (n : Int), .int .i64 k, u10, u11, u12, u13, u14, x, y, undef, undef, undef, undef, undef, u22], defers := [] }
  | _ => { tmps := #[], defers := [] }
theorem two_of {args : Array Value} (h : args.size = 2) : ∃ x y, args = #[x, y] := by
  obtain ⟨l⟩ := args
  match l, h with
  | [x, y], _ => exact ⟨x, y, rfl⟩

set_option maxHeartbeats 8000000 in
theorem lall_seq (n : Nat) (hn : 4 ≤ n) (S T : Nat → Prop) (w : World) (Bn : Nat) (A : Option Addr) (cap : Nat) (segs : List Sg) (rv : List Value) (hB : Blk w Bn 62 #[.slice A segs.length cap]) (hBS : ¬ S Bn) (h : Segs w T (.slice A segs.length cap) segs rv)
    (hT : ∀ k, T k → ¬ S k) (hSl : ∀ k, S k → k < w.heap.size + 2) (hlen : segs.length ≤ 549755813888) (hfew : ∀ s ∈ segs, s.recs.length ≤ 4194304) (hxl : ∀ s ∈ segs, ∀ x ∈ s.recs, x.length ≤ 549755813888) :
    SeqB Fence.wide n Tryz.prog 47 #[.pointer (some ⟨Bn, 0, none⟩)] Rt2 S (allOf segs) w := by
  intro l J Jx W hW hsz hJ hJx hY h0
  have HJ := Lib.hid hJ
  have HJX := Lib.hid hJx
  have HY : Hid (∀ (k : Nat) (p : Nat × Tx) (args : Array Value) (W1 : World), (allOf segs)[k]? = some p → J k W1 → Ch (fun q => S q ∨ W.heap.size ≤ q) W W1 → Rt2 W.heap.size p args W1 → YieldAt Fence.wide (n - 1) Tryz.prog l args W1 fun e W' =>
      (e = .returned (.bool true) ∧ J (k + 1) W' ∧ Ch S W1 W') ∨ (e = .returned (.bool false) ∧ Jx (k + 1) W' ∧ Ch S W1 W')) := Lib.hid fun k p args W1 hp hj hc hr => by
    obtain ⟨hk, rfl⟩ := List.getElem?_eq_some_iff.1 hp
    exact hY k hk args W1 hj hc hr
  have HB := Lib.hid (And.intro hB (And.intro hBS (And.intro h (And.intro hT (And.intro hSl hW)))))
  have hbl := hB.lt
  have HG := Lib.hid (And.intro hfew hxl)
  have HBW : Hid (∀ wr, Ch (fun q => S q ∨ W.heap.size ≤ q) W wr → Segs wr (fun k => T k ∧ k < w.heap.size) (.slice A segs.length cap) segs rv) := Lib.hid fun wr hc =>
    (h.bound.ch (Ch.of_below (S := fun _ => False) hW (Nat.le_refl _)) (fun _ _ h => h)).ch hc (fun k hk hX => by
      rcases hX with hX | hX
      · exact hT k hk.1 hX
      · have := hk.2; omega)
  have hb1 := op_below W (.cells #[.func (.yield l) #[] #[]] 85)
  have hk1 : Blk (W.alloc (.cells #[.func (.yield l) #[] #[]] 85)) W.heap.size 85 #[.func (.yield l) #[] #[]] := Blk.new W _ _
  have hB1 := (hB.below hW hbl).below hb1 (by omega)
  have cB := hB1.cell 0
  simp only [List.getElem?_toArray, List.getElem?_cons_zero] at cB
  have hj1 := hJ 0 W _ h0 (Nat.le_refl _) (Ch.of_below (S := fun q => W.heap.size ≤ q) hb1 (Nat.le_refl _))
  have HST := Lib.hid (And.intro hj1 (And.intro hk1 (Ch.of_below (S := fun q => S q ∨ W.heap.size ≤ q) hb1 (Nat.le_refl _))))
  clear hJ hJx hY hB hBS h hT hfew hxl hb1 hk1 hB1 hj1 h0
  refine callsIn_of_wp_marks Tryz.func47 rfl trivial ?_ rfl
  simp only [Tryz.ntmps47, List.size_toArray, List.length_cons, List.length_nil, Nat.reduceAdd, Nat.reduceSub, Array.replicate_succ, Array.replicate_zero, List.push_toArray, List.append_toArray, List.nil_append, List.cons_append]
  refine wpIn_wide.2 ?_
  go_wp2_with fail
  generalize W.alloc (.cells #[.func (.yield l) #[] #[]] 85) = W1 at *
  refine wp_loop (fun a wr => ∃ (k : Nat) (Ds : List Nat) (u4 u10 u11 u12 u13 u14 u22 : Value), k ≤ segs.length ∧ a = actL l Bn W.heap.size A segs.length cap (k : Int) Ds u4 u10 u11 u12 u13 u14 u22 ∧
      J (allOf (segs.take k)).length wr ∧ Blk wr W.heap.size 85 #[.func (.yield l) #[] #[]] ∧ Ch (fun q => S q ∨ W.heap.size ≤ q) W wr ∧ Shutable wr W.heap.size Ds)
    (fun a _ => segs.length - (intOf (a.tmps.getD 9 undef)).toNat) ?_ ?_
  · exact ⟨0, [], _, _, _, _, _, _, _, Nat.zero_le _, rfl, HST.out.1, HST.out.2.1, HST.out.2.2, by simp [Shutable]⟩
  · clear HST cB
    rintro a wr ⟨k, Ds, u4, u10, u11, u12, u13, u14, u22, hk, rfl, hj, hbk, hc, hsh⟩
    unfold actL
    have hszw := hc.size
    by_cases hlt : k < segs.length
    · obtain ⟨gb, Ai, ci, rfl, hgb, hTg, c0, c1, c2, c3, hrc⟩ := seg_at (HBW.out _ hc) hlt
      have hat := fun j hj => allOf_at (l := segs) (j := j) hlt hj
      have hks := allOf_step hlt
      have hfew := HG.out.1 _ (List.getElem_mem hlt)
      have hxl := HG.out.2 _ (List.getElem_mem hlt)
      have hfirst := ((HBW.out _ hc).good _ (List.getElem_mem hlt)).first
      have hkl := allOf_le (l := segs) (k + 1)
      rw [hks] at hkl
      generalize segs[k] = s at *
      generalize (allOf (segs.take k)).length = K at *
      have HAT := Lib.hid (And.intro hat hks)
      have HKL := Lib.hid hkl
      have HFX := Lib.hid (And.intro hfew hxl)
      have HFI := Lib.hid hfirst
      have hrl := hfew
      have h0k : (0 : Int) ≤ (k : Int) := by omega
      have hkn : (k : Int) < (segs.length : Int) := by omega
      have hb2 := op_below wr (.cells #[.int .i64 (s.num : Int), .int .i64 (s.first : Int), .int .i64 (s.size : Int), .slice Ai s.recs.length ci] 76)
      have hz2 : (wr.alloc (.cells #[.int .i64 (s.num : Int), .int .i64 (s.first : Int), .int .i64 (s.size : Int), .slice Ai s.recs.length ci] 76)).heap.size ≤ wr.heap.size + 1 ∧ wr.heap.size + 1 ≤ (wr.alloc (.cells #[.int .i64 (s.num : Int), .int .i64 (s.first : Int), .int .i64 (s.size : Int), .slice Ai s.recs.length ci] 76)).heap.size := by simp
      have HJ2 := Lib.hid (And.intro hj (And.intro hbk (And.intro hc (And.intro hsh hrc))))
      have HB2 := Lib.hid hb2
      clear hat hks hkl hfew hxl hj hbk hc hsh hrc hfirst hb2
      go_wp2_with fail
      generalize wr.alloc (.cells #[.int .i64 (s.num : Int), .int .i64 (s.first : Int), .int .i64 (s.size : Int), .slice Ai s.recs.length ci] 76) = w2 at *
      have HAR := Lib.hid (all_ret w2 s (.slice Ai s.recs.length ci))
      unfold SgV at HAR
      refine HAR.out.mono ?_
      rintro e w3 ⟨rfl, rfl⟩
      have hb3 := op_below w2 (.cells #[.int .i64 (s.num : Int), .int .i64 (s.first : Int), .int .i64 (s.size : Int), .slice Ai s.recs.length ci] 76)
      have hz3 : (w2.alloc (.cells #[.int .i64 (s.num : Int), .int .i64 (s.first : Int), .int .i64 (s.size : Int), .slice Ai s.recs.length ci] 76)).heap.size ≤ w2.heap.size + 1 ∧ w2.heap.size + 1 ≤ (w2.alloc (.cells #[.int .i64 (s.num : Int), .int .i64 (s.first : Int), .int .i64 (s.size : Int), .slice Ai s.recs.length ci] 76)).heap.size := by simp
      have hk3 : Blk (w2.alloc (.cells #[.int .i64 (s.num : Int), .int .i64 (s.first : Int), .int .i64 (s.size : Int), .slice Ai s.recs.length ci] 76)) w2.heap.size 76 (SgV s (.slice Ai s.recs.length ci)) := Blk.new w2 _ _
      generalize w2.alloc (.cells #[.int .i64 (s.num : Int), .int .i64 (s.first : Int), .int .i64 (s.size : Int), .slice Ai s.recs.length ci] 76) = w3 at *
      have hb23 : Below wr.heap.size wr w3 := HB2.out.trans (hb3.mono (by omega))
      have hWr := HJ2.out.2.2.1.size
      have hwW := HB.out.2.2.2.2.2.size
      have HSQ := Lib.hid (sall_seq (n - 1) (by omega) (fun q => S q ∨ Bk w3.heap.size q) (fun k => T k ∧ k < w.heap.size) w3 w2.heap.size s Ai ci hk3 (fun h => by
          rcases h with h | h
          · have := HB.out.2.2.2.2.1 _ h; omega
          · rcases h with h | h <;> omega) (HJ2.out.2.2.2.2.after hb23) (fun q hq h => by
          rcases h with h | h
          · exact HB.out.2.2.2.1 q hq.1 h
          · have := hq.2; rcases h with h | h <;> omega) HFI.out HFX.out.1 HFX.out.2)
      have hj3 : J (K + 0) w3 := HJ.out K wr w3 HJ2.out.1 (by omega) (Ch.of_below hb23 (by omega))
      have hbk3 := HJ2.out.2.1.below hb23 HJ2.out.2.1.lt
      have hc3 := HJ2.out.2.2.1.trans (Ch.of_below (S := fun q => S q ∨ W.heap.size ≤ q) hb23 (Nat.le_refl _)) (fun _ _ h => h)
      have hsh3 : Shutable w3 W.heap.size Ds := HJ2.out.2.2.2.1.ch (Ch.of_below (S := fun _ => False) hb23 (Nat.le_refl _)) (fun _ _ h => h)
      have hDl := HJ2.out.2.2.2.1.lt
      have HI3 := Lib.hid (And.intro hj3 (And.intro hbk3 (And.intro hc3 hsh3)))
      have HDL := Lib.hid hDl
      clear hb3 hk3 hb23 hj3 hbk3 hc3 hsh3 HAR HB2 hDl
      go_wp2_with fail
      refine (wpIn_wide (n := n)).1 ?_
      refine wpIn_rangeB rfl (by omega) (gf := 66) (lb := #[.pointer (some ⟨w2.heap.size, 0, none⟩)]) rfl trivial (enters_of Tryz.func66 (by kernel_rfl) rfl) (X := S) HSQ.out (fun q hq => by have := HB.out.2.2.2.2.1 q hq; omega)
        (fun B p args W ⟨_, _, hh, _⟩ => by rw [hh]; rfl) (fun p args Wa Wb hh c => by
          obtain ⟨A', cc, h1, h2⟩ := hh
          exact ⟨A', cc, h1, own_ch h2 c (fun q hq hb => by have := (h2.lt q hq).1; rcases hb with hb | hb <;> omega)⟩)
        (fun j Wk => J (K + j) Wk ∧ Blk Wk W.heap.size 85 #[.func (.yield l) #[] #[]] ∧ Ch (fun q => S q ∨ W.heap.size ≤ q) W Wk ∧ Shutable Wk W.heap.size Ds)
        (fun cc j Wk => cc = .ret ∧ Jx (K + j) Wk ∧ Ch (fun q => S q ∨ W.heap.size ≤ q) W Wk ∧ Shutable Wk W.heap.size Ds)
        (fun j Wa Wb hh hs c => ⟨HJ.out _ Wa Wb hh.1 (by omega) (c.mono (fun q _ hq => by show W.heap.size ≤ q; have h' : w3.heap.size ≤ q := hq; omega)), hh.2.1.ch c (fun hq => by have h' : w3.heap.size ≤ W.heap.size := hq; omega), hh.2.2.1.trans c (fun q _ hq => .inr (by have h' : w3.heap.size ≤ q := hq; omega)), hh.2.2.2.ch c (fun D hD hq => by have := HDL.out D hD; have h' : w3.heap.size ≤ D := hq; omega)⟩)
        (fun cc j Wa Wb hh hs c => ⟨hh.1, HJX.out _ Wa Wb hh.2.1 (by omega) (c.mono (fun q _ hq => by show W.heap.size ≤ q; have h' : w3.heap.size ≤ q := hq; omega)), hh.2.2.1.trans c (fun q _ hq => .inr (by have h' : w3.heap.size ≤ q := hq; omega)), hh.2.2.2.ch c (fun D hD hq => by have := HDL.out D hD; have h' : w3.heap.size ≤ D := hq; omega)⟩)
        ⟨HI3.out.1, HI3.out.2.1, HI3.out.2.2.1, HI3.out.2.2.2⟩ (actR l Bn W.heap.size (some ⟨gb, 0, none⟩) segs.length cap (k : Int) (.pointer (some ⟨wr.heap.size, 0, none⟩)) (.bool true) (.pointer (some ⟨gb, k * 4, none⟩)) (.agg #[.int .i64 (s.num : Int), .int .i64 (s.first : Int), .int .i64 (s.size : Int), .slice Ai s.recs.length ci]) (.agg #[.int .i64 (s.num : Int), .int .i64 (s.first : Int), .int .i64 (s.size : Int), .slice Ai s.recs.length ci]) (.func (.func 66) #[] #[.pointer (some ⟨w2.heap.size, 0, none⟩)]) u22) ?assign ?body ?done ?stop
      case assign =>
        intro l args W K hsz hK
        obtain ⟨x, y, rfl⟩ := two_of hsz
        gi_wp2_with fail
        exact hK
      case body =>
        intro l' j hj args Wk hlt' hcw hi hr
        obtain ⟨hJk, hbk, hcS, hsh⟩ := hi
        have hj' : j < s.recs.length := by rw [offs_len] at hj; exact hj
        have HYK := Lib.hid (HY.out (K + j) _ args Wk (HAT.out.1 j hj') hJk hcS (by
          obtain ⟨A', cc, h1, h2⟩ := hr
          exact ⟨A', cc, h1, own_base h2 (by omega)⟩))
        obtain ⟨Ay, cy, rfl, hy⟩ := hr
        have hyl := hy
        generalize (offs s.first s.recs)[j] = x at *
        obtain ⟨x0, x1⟩ := x
        simp only at HYK ⊢
        have cb := hbk.cell 0
        simp only [List.getElem?_toArray, List.getElem?_cons_zero] at cb
        obtain ⟨fn, tmps, assign, body, hyy, hRd⟩ := HYK.out
        have HRD := Lib.hid (round_in (l' := l') (round_deep (m' := n - 1 - 1 - 1) (round_mono hRd (R' := fun e W' => ∃ b : Bool, e = .returned (.bool b) ∧ (b = true → J (K + j + 1) W') ∧ (b = false → Jx (K + j + 1) W') ∧ Ch S Wk W') (fun e W' h => by rcases h with ⟨h1, h2, h3⟩ | ⟨h1, h2, h3⟩; exact ⟨true, h1, fun _ => h2, (fun h => by cases h), h3⟩; exact ⟨false, h1, (fun h => by cases h), fun _ => h2, h3⟩))))
        have HK := Lib.hid (And.intro hbk (And.intro hcS hsh))
        clear hJk hbk hcS hsh hy hyl hRd HYK hcw
        dsimp only [actR]
        gi_wp2_with fail
        refine ⟨fun h => (wide_some h).elim, HRD.out.mono ?_⟩
        rintro e W3 ⟨bb, rfl, hb1, hb2, hc3⟩
        have HC3 := Lib.hid (And.intro (hc3.mono (T := fun q => S q ∧ ¬ Bk w3.heap.size q) (fun q _ hs => ⟨hs, fun hb => by have := HB.out.2.2.2.2.1 q hs; rcases hb with hb | hb <;> omega⟩)) (And.intro (HK.out.1.ch hc3 (fun hs => by have := HB.out.2.2.2.2.1 _ hs; omega)) (And.intro (HK.out.2.1.trans (hc3.mono (T := fun q => S q ∨ W.heap.size ≤ q) (fun q _ hs => .inl hs)) (fun _ _ h => h)) (HK.out.2.2.ch hc3 (fun D hD hs => by have := HB.out.2.2.2.2.1 _ hs; have := (HK.out.2.2.2 D hD).1; omega)))))
        have HB1 := Lib.hid hb1
        have HB2 := Lib.hid hb2
        clear hc3 hb1 hb2 cb hyy
        cases bb with
        | true =>
          gi_wp2_with fail
          exact ⟨HC3.out.1, (by first | exact HB1.out rfl | exact HB1.out trivial), HC3.out.2⟩
        | false =>
          gi_wp2_with fail
          exact ⟨HC3.out.1, rfl, (by first | exact HB2.out rfl | exact HB2.out trivial), HC3.out.2.2⟩
      case done =>
        intro Wd hcw hi hd
        rw [offs_len] at hi
        obtain ⟨hj, hbk, hcS, hsh⟩ := hi
        have hn3 : w3.heap.size ∉ Ds := fun h => by have := HDL.out _ h; omega
        have HD := Lib.hid (And.intro hj (And.intro hbk (And.intro hcS (hsh.cons (by omega) hd hn3))))
        clear hj hbk hcS hsh hd hcw
        dsimp only
        go_wp2_with fail
        refine ⟨⟨k + 1, w3.heap.size :: Ds, _, _, _, _, _, _, _, by omega, by rw [Int.natCast_add]; rfl, by rw [HAT.out.2]; exact HD.out.1, HD.out.2.1, HD.out.2.2.1, HD.out.2.2.2⟩, ?_⟩
        simp [intOf]
        omega
      case stop =>
        rintro cc j Wd hj hcw ⟨rfl, hjx, hcS, hsh⟩ hd
        have hn3 : w3.heap.size ∉ Ds := fun h => by have := HDL.out _ h; omega
        rw [offs_len] at hj
        have HD := Lib.hid (And.intro hjx (And.intro hcS (hsh.cons (by omega) hd hn3)))
        clear hjx hcS hsh hd hcw
        refine wpIn_wide.2 ?_
        dsimp only
        go_wp2_with fail
        refine leaves_marks (by simp) (w3.heap.size :: Ds) Wd HD.out.2.2.1 (fun D hD => (HD.out.2.2.2 D hD).2) (fun w' c => ?_)
        have hup : ∀ q, q ∈ w3.heap.size :: Ds → W.heap.size ≤ q := fun q hq => by have := (HD.out.2.2.2 q hq).1; omega
        exact ⟨_, results_none rfl _ _ _, ⟨_, rfl⟩, HD.out.2.1.trans (c.mono (T := fun q => S q ∨ W.heap.size ≤ q) (fun q _ hq => .inr (hup q hq))) (fun _ _ h => h), .inr ⟨K + j, by have := HKL.out; omega, HJX.out _ Wd w' HD.out.1 HD.out.2.1.size (c.mono (fun q _ hq => hup q hq))⟩⟩
    · have hke : k = segs.length := by omega
      have HKE := Lib.hid hke
      have HC := Lib.hid (And.intro hj (And.intro hc hsh))
      have hltI : ¬ (k : Int) < (segs.length : Int) := by omega
      have hltI2 : (segs.length : Int) ≤ (k : Int) := by omega
      clear hc hj hbk hke hsh
      go_wp2_with fail
      refine leaves_marks (by simp) Ds wr HC.out.2.2.1 (fun D hD => (HC.out.2.2.2 D hD).2) (fun w' c => ?_)
      have hup : ∀ q, q ∈ Ds → W.heap.size ≤ q := fun q hq => by have := (HC.out.2.2.2 q hq).1; omega
      have hjl := HC.out.1
      rw [HKE.out, List.take_length] at hjl
      exact ⟨_, results_none rfl _ _ _, ⟨_, rfl⟩, HC.out.2.1.trans (c.mono (T := fun q => S q ∨ W.heap.size ≤ q) (fun q _ hq => .inr (hup q hq))) (fun _ _ h => h), .inl (HJ.out _ wr w' hjl HC.out.2.1.size (c.mono (fun q _ hq => hup q hq)))⟩
end Go.Proofs.YtjjfhbbaabakmaaGreatDoor.Ug
