/-
  Contract of the program's topics: places.
-/
import Derived.Test.YtobphijbhghgmaaGreatO08
import Derived.Test.YtobphijbhghgmaaGreatO03
import Derived.Test.YtobphijbhghgmaaGreatO05
import Derived.Deep.RegionLaw
import Derived.Deep.RegionHeld3
import Derived.Laws.StructEq
import Derived.Outline
import Derived.Test.YtobphijbhghgmaaGreatO06
namespace Go.Proofs.YtobphijbhghgmaaGreat.Ah
set_option linter.unusedSimpArgs false
open Go Go.RowKit Ck Kw Ga Kf Km Kd Pm Pz Pe Pg Py Tm Tn Tq Aa Ab Ac Ad Ae Af Ag
attribute [local go_sem ↓] Go.wp_at_zero Go.wp_at_succ
set_option linter.unusedVariables false

theorem info_placed : (Tryz.prog.info? 150).map (fun i => (i.zero, i.size, i.bytes)) = some (some (.agg #[.string ⟨#[]⟩, .int .i64 0, .slice none 0 0]), 3, 48) := by kernel_rfl
/-- A record at its place, and the slice that holds it. -/
abbrev Pq := (Tx × Int × Tx) × Value
def PC (x : Pq) : List Value := [.string ⟨x.1.1.toArray⟩, .int .i64 x.1.2.1, x.2]
def PCs (l : List Pq) : List Value := l.flatMap PC
/-- The slice v reads as records at their places; all of it lies from block B on. -/
def Ps (w : World) (B : Nat) (v : Value) (ps : List (Tx × Int × Tx)) : Prop :=
  ∃ l : List Pq, l.map (·.1) = ps ∧ w.ownsRow B 150 3 v ps.length (PCs l) ∧ ∀ x ∈ l, w.ownsRow B 5 1 x.2 x.1.2.2.length (BVs x.1.2.2)
theorem Ps.nil (w : World) (B : Nat) : Ps w B (.slice none 0 0) [] := ⟨[], rfl, World.ownsRow_nil _ _ _ _, fun x hx => by cases hx⟩
theorem Ps.ch {w w' : World} {B : Nat} {v : Value} {ps : List (Tx × Int × Tx)} {S : Nat → Prop} (h : Ps w B v ps) (c : Ch S w w') (hs : ∀ k, S k → k < B) : Ps w' B v ps := by
  obtain ⟨l, h1, h2, h3⟩ := h
  exact ⟨l, h1, own_ch h2 c (fun g hg hs' => by have := (h2.lt g hg).1; have := hs g hs'; omega), fun x hx => own_ch (h3 x hx) c (fun g hg hs' => by have := ((h3 x hx).lt g hg).1; have := hs g hs'; omega)⟩
theorem Ps.later {w w' : World} {B : Nat} {v : Value} {ps : List (Tx × Int × Tx)} (h : Ps w B v ps) (b : Below w.heap.size w w') : Ps w' B v ps :=
  h.ch (Ch.of_below (S := fun _ => False) b (Nat.le_refl _)) (fun _ h => h.elim)
theorem Ps.base {w : World} {B B' : Nat} {v : Value} {ps : List (Tx × Int × Tx)} (h : Ps w B v ps) (hb : B' ≤ B) : Ps w B' v ps := by
  obtain ⟨l, h1, h2, h3⟩ := h
  exact ⟨l, h1, own_base h2 hb, fun x hx => own_base (h3 x hx) hb⟩
theorem placed_len (n : Tx) : ∀ (k : Int) (rs : List Tx), (placed n k rs).length = rs.length
  | _, [] => rfl
  | k, r :: rs => by simp [placed, placed_len n (k + 1) rs]
theorem placed_take (n : Tx) : ∀ (rs : List Tx) (k : Int) (i : Nat) (hi : i < rs.length), (placed n k rs).take (i + 1) = (placed n k rs).take i ++ [(n, k + (i : Int), rs[i])]
  | [], k, i, hi => absurd hi (by simp)
  | r :: rs, k, 0, hi => by simp [placed]
  | r :: rs, k, i + 1, hi => by
    have := placed_take n rs (k + 1) i (by simpa using hi)
    simp only [placed, List.take_succ_cons, this, List.getElem_cons_succ, List.cons_append]
    rw [show k + 1 + (i : Int) = k + ((i + 1 : Nat) : Int) by omega]
theorem one_pq {w : World} {x : Pq} {cs : Array Value} (X : Nat → Prop) (hc : cs = (PCs [x]).toArray) (hX : ¬ X w.heap.size) : Sl (w.alloc (.cells cs 150)) X 3 (.slice (some ⟨w.heap.size, 0, none⟩) 1 1) 1 (PCs [x]) := by
  subst hc
  refine ⟨_, _, rfl, rfl, Nat.le_refl _, by simp [maxLen], fun _ => ⟨_, rfl, by simp, hX, fun j u hu => ?_⟩⟩
  have ha : (⟨w.heap.size, 0, none⟩ : Addr).add j = ⟨w.heap.size, j, none⟩ := by unfold Addr.add; split <;> simp_all
  rw [ha, Blk.cell (Blk.new w 150 _) j]
  simpa using hu
theorem pcs_app (l k : List Pq) : PCs (l ++ k) = PCs l ++ PCs k := by simp [PCs]
/-- One place more. -/
theorem ps_step {W0 wr w4 w5 : World} {v v5 : Value} {l : List Pq} {n : Nat} {x : Pq} {cs : Array Value} (hs : W0.heap.size ≤ wr.heap.size) (hr : wr.ownsRow W0.heap.size 150 3 v n (PCs l)) (he : ∀ y ∈ l, wr.ownsRow W0.heap.size 5 1 y.2 y.1.2.2.length (BVs y.1.2.2))
    (hb : Below wr.heap.size wr w4) (ho : w4.ownsRow wr.heap.size 5 1 x.2 x.1.2.2.length (BVs x.1.2.2)) (happ : Appended (w4.alloc (.cells cs 150)) W0.heap.size 150 3 v (n + 1) (PCs l ++ PCs [x]) v5 w5) (hB : Below W0.heap.size W0 wr) :
    w5.ownsRow W0.heap.size 150 3 v5 (n + 1) (PCs (l ++ [x])) ∧ (∀ y ∈ l ++ [x], w5.ownsRow W0.heap.size 5 1 y.2 y.1.2.2.length (BVs y.1.2.2)) ∧ Below W0.heap.size W0 w5 := by
  obtain ⟨h1, h2, h3⟩ := happ
  have hrow : (w4.alloc (.cells cs 150)).ownsRow W0.heap.size 150 3 v n (PCs l) := (own_below hr hb).alloc _
  have key : ∀ {u : Value} {b : Tx}, (w4.alloc (.cells cs 150)).ownsRow W0.heap.size 5 1 u b.length (BVs b) → w5.ownsRow W0.heap.size 5 1 u b.length (BVs b) := fun {u b} hu =>
    own_ch hu (Ch.of_grown h2 (fun g hg _ => hg) : Ch (fun k => v.ownBlock = some k) _ w5) (fun g hg hv => by
      rcases hrow.2 with ⟨rfl, _⟩ | ⟨g1, _, _, rfl, _, r1, _⟩
      · simp [Value.ownBlock] at hv
      · rcases hu.2 with ⟨rfl, _⟩ | ⟨g2, _, _, rfl, _, r2, _⟩
        · simp [Value.ownBlock] at hg
        · simp only [Value.ownBlock, Option.some.injEq] at hv hg
          subst hv; subst hg
          rw [r1] at r2
          simp only [Option.some.injEq, Obj.cells.injEq] at r2
          exact absurd r2.2.1 (by decide))
  refine ⟨by rw [pcs_app]; exact h1, fun y hy => ?_, ?_⟩
  · rcases List.mem_append.1 hy with hy | hy
    · exact key ((own_below (he y hy) hb).alloc _)
    · rw [List.mem_singleton] at hy
      subst hy
      exact key (own_base (ho.alloc _) hs)
  · have hb4 : Below W0.heap.size W0 (w4.alloc (.cells cs 150)) := (hB.trans (hb.mono hs)).alloc (by have := hb.size; omega) _
    exact hb4.grown h2 hb4.size (fun g hg => (hrow.lt g hg).1)
set_option maxRecDepth 100000 in
set_option maxHeartbeats 1000000 in
theorem places_any (w : World) (o : O) (X : Nat → Prop) (A : Option Addr) (c : Nat) (first : Int) (hls : Ls w X (.slice A o.recs.length c) o.recs) (h4 : o.recs.length ≤ 64) (h64 : ∀ x ∈ o.recs, x.length ≤ 64) (h0 : 0 ≤ first) (h1 : first ≤ 9007199254740992) :
    Calls Tryz.prog 113 #[OV o A c, .int .i64 first] w fun e w' => ∃ v, e = .returned v ∧ Ps w' w.heap.size v (placed o.topic first o.recs) ∧ Below w.heap.size w w' := by
  have hal := op_below w (.cells (OC o A c) 98)
  have HAL := Lib.hid hal
  have hob := op_new w o A c
  have HOB := Lib.hid hob
  have HLS := Lib.hid (hls.after hal)
  have HX := Lib.hid h64
  have HTL := Lib.hid (placed_take o.topic o.recs first)
  have hz0 : (w.alloc (.cells (OC o A c) 98)).heap.size = w.heap.size + 1 := by simp
  clear hal hob hls h64
  unfold OV
  unfold OC at HAL HLS HOB hz0
  obtain ⟨a0, a1, a2, a3, a4⟩ := OB.cells HOB.out
  obtain ⟨i0, hi0, hy0, hy1, hy2⟩ := info_parts info_placed
  go_enter Tryz.func113, Tryz.ntmps113
  go_wp2_with fail
  generalize w.alloc (.cells #[.int .i64 o.kind, .string ⟨o.topic.toArray⟩, .string ⟨o.group.toArray⟩, .int .i64 o.off, .slice A o.recs.length c] 98) = W0 at *
  generalize hg0 : w.heap.size = g0 at *
  have HG0 := Lib.hid hg0
  clear hg0
  have HZ0 := Lib.hid hz0
  clear a0 a1 a2 a3 a4 hz0
  go_loopw [5, 11] (fun v i wr => ∃ (k : Nat) (l : List Pq), k ≤ o.recs.length ∧ i = .int .i64 k ∧ l.map (·.1) = (placed o.topic first o.recs).take k ∧ wr.ownsRow W0.heap.size 150 3 v k (PCs l) ∧ (∀ y ∈ l, wr.ownsRow W0.heap.size 5 1 y.2 y.1.2.2.length (BVs y.1.2.2)) ∧ Below W0.heap.size W0 wr) (fun _ i _ => o.recs.length - (intOf i).toNat)
  case atStart => exact ⟨0, [], Nat.zero_le _, rfl, by simp, World.ownsRow_nil _ _ _ _, (fun x hx => by cases hx), Below.refl _ _⟩
  case round =>
    obtain ⟨k, l, hk, rfl, hmap, hrow, hel, hB⟩ := hrel
    have HM := Lib.hid hmap
    have HR := Lib.hid hrow
    have HE := Lib.hid hel
    have HB := Lib.hid hB
    obtain ⟨Av, cv, rfl⟩ := own_shape hrow
    by_cases hlt : k < o.recs.length
    · obtain ⟨ad, Ab, cb, rfl, hcell, hsl⟩ := (HLS.out.after hB).at_ hlt
      have HSL := Lib.hid hsl.drew
      have q1 := (OB.cells (Blk.below HOB.out hB (Blk.lt HOB.out))).2.1
      have hr64 := HX.out _ (List.getElem_mem hlt)
      have HCL := Lib.hid (clone_sh X _ _ o.recs[k] wr.drew HSL.out (by omega))
      have HTK := Lib.hid (HTL.out k hlt)
      have hw : IntKind.i64.wrap (first + (k : Int)) = first + (k : Int) := Ga.wrap64 (by omega) (by omega)
      clear hmap hrow hel hB hsl
      go_wp2_with fail
      have hkc : (k : Int) ≤ 64 := by omega
      go_region_law (first
        | (go_simp; go_at_call 138; refine HCL.out.mono ?_; rintro e w4 ⟨A4, c4, rfl, ho4, hb4⟩; have hb4 : Below wr.heap.size wr w4 := below_of_drew hb4; have HO4 : Hid (w4.ownsRow wr.heap.size 5 1 (.slice A4 o.recs[k].length c4) o.recs[k].length (BVs o.recs[k])) := Lib.hid ho4; have HB4 := Lib.hid hb4; have q4 : w4.cell? ⟨g0, 1, none⟩ = some (.string ⟨o.topic.toArray⟩) := (hb4.cell (World.block_lt_of_cell? _ _ q1)).trans q1; clear ho4 hb4)
        | (refine step_append_sh (by rfl) (.tmp 16) (.tmp 25) _ (by rfl) W0.heap.size 150 i0 _ 3 48 Tryz.underlying61 hi0 hy0 hy1 hy2 rfl (by omega) (.slice Av k cv) k (PCs l) (by rfl) (show (w4.alloc (.cells #[.string ⟨o.topic.toArray⟩, .int .i64 (first + (k : Int)), .slice A4 o.recs[k].length c4] 150)).ownsRow W0.heap.size 150 3 (.slice Av k cv) k (PCs l) from (own_below HR.out HB4.out).alloc _) (fun _ => False) _ 1 (PCs [((o.topic, first + (k : Int), o.recs[k]), .slice A4 o.recs[k].length c4)]) (by rfl) (show Sl (w4.alloc (.cells #[.string ⟨o.topic.toArray⟩, .int .i64 (first + (k : Int)), .slice A4 o.recs[k].length c4] 150)) (fun _ => False) _ _ _ _ from one_pq (fun _ => False) rfl (fun h => h)) (by intro u hu; simp only [PCs, PC, List.flatMap_cons, List.flatMap_nil, List.append_nil, List.mem_cons, List.not_mem_nil, or_false] at hu; rcases hu with rfl | rfl | rfl <;> rfl) (by simp only [maxLen]; omega) (by omega) (by have h1 := HB.out.size; have h2 := HB4.out.size; simp; omega) ?_; intro A5 c5 w5 happ; have HAP := Lib.hid happ; clear happ))
      all_goals
        go_wp2
        have hs := ps_step (x := ((o.topic, first + (k : Int), o.recs[k]), .slice A4 o.recs[k].length c4)) HB.out.size HR.out HE.out HB4.out HO4.out HAP.out HB.out
        have HS := Lib.hid hs
        have hm1 : (l ++ [((o.topic, first + (k : Int), o.recs[k]), Value.slice A4 o.recs[k].length c4)]).map (·.1) = (placed o.topic first o.recs).take (k + 1) := by
          rw [HTK.out, List.map_append, HM.out]
          rfl
        have HM1 := Lib.hid hm1
        clear hs hm1
        go_roundw
        case rel => exact ⟨k + 1, _, by omega, by go_num, HM1.out, HS.out.1, HS.out.2.1, HS.out.2.2⟩
        case measure => simp [intOf]; omega
    · have hke : k = o.recs.length := by omega
      subst hke
      clear hmap hrow hel hB
      go_wp2_with fail
      go_ret
      have hl := placed_len o.topic first o.recs
      rw [HG0.out]
      refine ⟨_, rfl, ⟨l, ?_, ?_, fun x hx => own_base (HE.out x hx) (by have := HZ0.out; omega)⟩, HAL.out.trans (HB.out.mono (by have := HZ0.out; omega))⟩
      · rw [HM.out, ← hl, List.take_length]
      · rw [hl]
        exact own_base HR.out (by have := HZ0.out; omega)
end Go.Proofs.YtobphijbhghgmaaGreat.Ah

/-
  Contracts of the document's own reader of layer 1: Read, Fail, Done, Num.
-/
namespace Go.Proofs.YtobphijbhghgmaaGreat.Cj
set_option linter.unusedSimpArgs false
set_option linter.unusedVariables false
open Go Go.RowKit Ck Ca Cb Ce Cf Ch

/-- The document's reader's block. -/
abbrev DB (w : World) (g : Nat) (v : Value) (err : Int) : Prop := Blk w g 119 #[v, .int .i64 err]
/-- The document's reader in memory. -/
def RR (w : World) (X : Nat → Prop) (g : Nat) (s : Cm.RS) : Prop :=
  ∃ A n c, DB w g (.slice A n c) s.2 ∧ Sl w (fun k => k = g ∨ X k) 1 (.slice A n c) n (BVs s.1) ∧ Cm.Good s
theorem RR.weaken {w : World} {X Y : Nat → Prop} {g : Nat} {s : Cm.RS} (h : RR w X g s) (hk : ∀ b, b < w.heap.size → Y b → X b) : RR w Y g s := by
  obtain ⟨A, n, c, hb, hsl, hgd⟩ := h
  exact ⟨A, n, c, hb, hsl.weaken fun b hb hy => by
    rcases hy with hy | hy
    · exact .inl hy
    · exact .inr (hk b hb hy), hgd⟩
theorem RR.grown {w w' : World} {X : Nat → Prop} {g : Nat} {s : Cm.RS} {row : Option Nat} (h : RR w X g s) (hg : w.grownBy w' row) (hne : some g ≠ row) (hr : ∀ k, row = some k → k < w.heap.size → X k) : RR w' X g s := by
  obtain ⟨A, n, c, hb, hsl, hgd⟩ := h
  exact ⟨A, n, c, Blk.grown hb hg hne, hsl.grown hg fun k hk hlt => .inr (hr k hk hlt), hgd⟩
theorem RR.after {w w' : World} {X : Nat → Prop} {g : Nat} {s : Cm.RS} (h : RR w X g s) (hb : Below w.heap.size w w') : RR w' X g s :=
  h.grown (grown_of_below hb none) (by simp) (by simp)
theorem RR.old {w : World} {X : Nat → Prop} {g : Nat} {s : Cm.RS} (h : RR w X g s) {B : Nat} (hB : w.heap.size ≤ B) : RR w (fun k => X k ∨ B ≤ k) g s := by
  obtain ⟨A, n, c, hb, hsl, hgd⟩ := h
  refine ⟨A, n, c, hb, (hsl.old hB).weaken fun b _ hy => ?_, hgd⟩
  rcases hy with hy | hy | hy
  · exact .inl (.inl hy)
  · exact .inl (.inr hy)
  · exact .inr hy
theorem RR.lt {w : World} {X : Nat → Prop} {g : Nat} {s : Cm.RS} (h : RR w X g s) : g < w.heap.size := by
  obtain ⟨A, n, c, hb, _⟩ := h
  exact hb.lt

end Go.Proofs.YtobphijbhghgmaaGreat.Cj

/-
  Contracts of the document's own reader of layer 1: Num, Take, Bytes, List.
-/
namespace Go.Proofs.YtobphijbhghgmaaGreat.Co
set_option linter.unusedSimpArgs false
set_option linter.unusedVariables false
open Go Go.RowKit Ck Ca Cb Ce Cf Ch Ci Cj

/-- What a reading of bytes leaves. -/
def RTaken (w : World) (X : Nat → Prop) (g : Nat) (r : List UInt8 × Cm.RS) (e : Ending) (w' : World) : Prop :=
  ∃ v, e = .returned v ∧ w'.ownsRow w.heap.size 5 1 v r.1.length (BVs r.1) ∧ w.grownBy w' (some g) ∧ RR w' X g r.2
theorem RTaken.nil {w w' : World} {X : Nat → Prop} {g : Nat} {s : Cm.RS} (hg : w.grownBy w' (some g)) (hc : RR w' X g s) : RTaken w X g ([], s) (.returned (.slice none 0 0)) w' :=
  ⟨_, rfl, World.ownsRow_nil _ _ _ _, hg, hc⟩

end Go.Proofs.YtobphijbhghgmaaGreat.Co

/-
  Layer 6 (op): the contract of the document's own Take, kind by kind.
-/
namespace Go.Proofs.YtobphijbhghgmaaGreat.Qc
set_option linter.unusedSimpArgs false
open Go Go.RowKit Ck Kw Ca Cb Ce Cf Ch Ci Cj Co Pm Pa Pe Pf Pg Ph Ppi Pk Qb
set_option linter.unusedVariables false

section
variable {P : Program}
end

/-- Within the call: the result's cells, the operation's, the reader. -/
structure RX (w0 : World) (X : Nat → Prop) (g g1 g2 : Nat) (cs : Array Value) (s : Cm.RS) (W : World) : Prop where
  grown : w0.grownBy W (some g)
  old : g < w0.heap.size
  new1 : w0.heap.size ≤ g1
  new2 : w0.heap.size ≤ g2
  far : g1 ≠ g2
  res : Blk W g1 98 Z5
  op : Blk W g2 98 cs
  rd : RR W (fun k => X k ∨ w0.heap.size ≤ k) g s
section
variable {w0 W W' : World} {X : Nat → Prop} {g g1 g2 : Nat} {cs cs' : Array Value} {s s' : Cm.RS}
theorem RX.next (h : RX w0 X g g1 g2 cs s W) (hg : W.grownBy W' (some g)) (hc : RR W' (fun k => X k ∨ w0.heap.size ≤ k) g s') : RX w0 X g g1 g2 cs s' W' := by
  have o := h.old; have n1 := h.new1; have n2 := h.new2
  exact ⟨h.grown.trans hg, h.old, h.new1, h.new2, h.far, h.res.grown hg (by simp; omega), h.op.grown hg (by simp; omega), hc⟩
theorem RX.later (h : RX w0 X g g1 g2 cs s W) (hb : Below W.heap.size W W') : RX w0 X g g1 g2 cs s W' := h.next (grown_of_below hb _) (h.rd.after hb)
theorem RX.row {row : Option Nat} (h : RX w0 X g g1 g2 cs s W) (hg : W.grownBy W' row) (hr : ∀ q, row = some q → g < q ∧ g1 < q ∧ g2 < q) : RX w0 X g g1 g2 cs s W' := by
  have n1 := h.new1
  refine ⟨grown_step h.grown hg (.inr fun q hq => by have := hr q hq; omega), h.old, h.new1, h.new2, h.far, h.res.grown hg (fun e => by have := hr g1 e.symm; omega), h.op.grown hg (fun e => by have := hr g2 e.symm; omega), h.rd.grown hg (fun e => by have := hr g e.symm; omega) (fun q hq _ => .inr (by have := hr q hq; omega))⟩
theorem RX.put (h : RX w0 X g g1 g2 cs s W) (i : Nat) (u : Value) (hcs : cs.setIfInBounds i u = cs') : RX w0 X g g1 g2 cs' s (W.setCell ⟨g2, i, none⟩ u) := by
  subst hcs
  have o := h.old; have n2 := h.new2; have f1 := h.far
  exact ⟨grown_setCell h.grown (.inr n2) u, h.old, h.new1, h.new2, h.far, h.res.far f1 u, h.op.set_ i u,
    h.rd.grown (row := some g2) (grown_setCell (World.grownBy.refl W (some g2)) (.inl rfl) u) (by simp; omega) (fun q hq _ => by injection hq with hq; exact .inr (by omega))⟩
/-- The reader's error. -/
theorem RX.err (h : RX w0 X g g1 g2 cs s W) : W.cell? ⟨g, 1, none⟩ = some (.int .i64 s.2) := by
  obtain ⟨A, n, c, hb, _⟩ := h.rd
  exact hb.cell 1
end
end Go.Proofs.YtobphijbhghgmaaGreat.Qc

/-
  Layer 6 (op): the contracts of Take, Parse and TakeResult.
-/
namespace Go.Proofs.YtobphijbhghgmaaGreat.Qt
set_option linter.unusedSimpArgs false
open Go Go.RowKit Ck Kw Ca Cb Ce Cf Ch Ci Pm Pa Pe Pf Pg Ph Ppi Pk Qb
set_option linter.unusedVariables false

/-- Within the call: the result's cells, a thing's cells, the reader. -/
structure RC (w0 : World) (X : Nat → Prop) (g g1 g2 : Nat) (t : TypeId) (zs cs : Array Value) (s : Cm.RS) (W : World) : Prop where
  grown : w0.grownBy W (some g)
  old : g < w0.heap.size
  new1 : w0.heap.size ≤ g1
  new2 : w0.heap.size ≤ g2
  far : g1 ≠ g2
  res : Blk W g1 t zs
  op : Blk W g2 t cs
  rd : CR W (fun k => X k ∨ w0.heap.size ≤ k) g s
section
variable {w0 W W' : World} {X : Nat → Prop} {g g1 g2 : Nat} {t : TypeId} {zs cs cs' : Array Value} {s s' : Cm.RS}
theorem RC.next (h : RC w0 X g g1 g2 t zs cs s W) (hg : W.grownBy W' (some g)) (hc : CR W' (fun k => X k ∨ w0.heap.size ≤ k) g s') : RC w0 X g g1 g2 t zs cs s' W' := by
  have o := h.old; have n1 := h.new1; have n2 := h.new2
  exact ⟨h.grown.trans hg, h.old, h.new1, h.new2, h.far, h.res.grown hg (by simp; omega), h.op.grown hg (by simp; omega), hc⟩
theorem RC.later (h : RC w0 X g g1 g2 t zs cs s W) (hb : Below W.heap.size W W') : RC w0 X g g1 g2 t zs cs s W' := h.next (grown_of_below hb _) (h.rd.after hb)
theorem RC.put (h : RC w0 X g g1 g2 t zs cs s W) (i : Nat) (u : Value) (hcs : cs.setIfInBounds i u = cs') : RC w0 X g g1 g2 t zs cs' s (W.setCell ⟨g2, i, none⟩ u) := by
  subst hcs
  have o := h.old; have n2 := h.new2; have f1 := h.far
  exact ⟨grown_setCell h.grown (.inr n2) u, h.old, h.new1, h.new2, h.far, h.res.far f1 u, h.op.set_ i u,
    h.rd.grown (row := some g2) (grown_setCell (World.grownBy.refl W (some g2)) (.inl rfl) u) (by simp; omega) (fun q hq _ => by injection hq with hq; exact .inr (by omega))⟩
end
theorem size_res : (Tryz.prog.info? 69).map (·.size) = some 2 := by kernel_rfl
theorem blk2 {w : World} {g : Nat} {t : TypeId} {x y u v : Value} (h : Blk w g t #[u, v]) : Blk ((w.setCell ⟨g, 0, none⟩ x).setCell ⟨g, 1, none⟩ y) g t #[x, y] := by
  have := (h.set_ 0 x).set_ 1 y
  simpa using this
end Go.Proofs.YtobphijbhghgmaaGreat.Qt

/-
  Layer 6 (op): the walk of the statement OpReads.
-/
namespace Go.Proofs.YtobphijbhghgmaaGreat.Qd
set_option linter.unusedSimpArgs false
open Go Go.RowKit Ck Kw Ca Cb Ce Cf Ch Ci Cj Co Pm Pa Pe Pf Pg Ph Ppi Pk Pl Qb Qc Qt Qs
attribute [local go_sem ↓] Go.wp_at_zero Go.wp_at_succ
set_option linter.unusedVariables false

/-- An operation's cells, kept in a block. -/
structure KO (W : World) (B g : Nat) (o : O) (A : Option Addr) (c : Nat) : Prop where
  op : OB W g o A c
  new : B ≤ g
  ls : Ls W (fun k => k < B) (.slice A o.recs.length c) o.recs
theorem KO.later {W W' : World} {B g : Nat} {o : O} {A : Option Addr} {c : Nat} (h : KO W B g o A c) (hb : Below W.heap.size W W') : KO W' B g o A c := ⟨Blk.below h.op hb (Blk.lt h.op), h.new, h.ls.after hb⟩
theorem al_below (W : World) (o : Obj) : Below W.heap.size W (W.alloc o) := (Below.refl _ W).alloc (Nat.le_refl _) _
theorem OB.cells' {W : World} {g : Nat} {o : O} {A : Option Addr} {c : Nat} (h : OB W g o A c) :
    W.cell? ⟨g, 0, none⟩ = some (.int .i64 o.kind) ∧ W.cell? ⟨g, 1, none⟩ = some (.string ⟨o.topic.toArray⟩) ∧ W.cell? ⟨g, 2, none⟩ = some (.string ⟨o.group.toArray⟩) ∧ W.cell? ⟨g, 3, none⟩ = some (.int .i64 o.off) ∧ W.cell? ⟨g, 4, none⟩ = some (.slice A o.recs.length c) := h.cells

/-- Both readers stand there, at the same place. -/
structure TW (w0 : World) (B gr gs : Nat) (s : Cm.RS) (W : World) : Prop where
  below : Below w0.heap.size w0 W
  r : CR W (fun k => B ≤ k) gr s
  s : RR W (fun k => w0.heap.size ≤ k) gs s
  hr : w0.heap.size ≤ gr ∧ gr < B
  hs : B ≤ gs
  hB : w0.heap.size ≤ B
theorem TW.later {w0 W W' : World} {B gr gs : Nat} {s : Cm.RS} (h : TW w0 B gr gs s W) (hb : Below W.heap.size W W') : TW w0 B gr gs s W' :=
  ⟨h.below.trans (hb.mono h.below.size), h.r.after hb, h.s.after hb, h.hr, h.hs, h.hB⟩
/-- Both operations that were taken, and both readers. -/
structure XS (w0 : World) (B gr gs g : Nat) (x : O) (A : Option Addr) (c : Nat) (A' : Option Addr) (c' : Nat) (s : Cm.RS) (W : World) : Prop where
  tw : TW w0 B gr gs s W
  kx : KO W w0.heap.size g x A c
  ky : KO W w0.heap.size (g + 1) x A' c'
theorem XS.later {w0 W W' : World} {B gr gs g : Nat} {x : O} {A : Option Addr} {c : Nat} {A' : Option Addr} {c' : Nat} {s : Cm.RS} (h : XS w0 B gr gs g x A c A' c' s W) (hb : Below W.heap.size W W') : XS w0 B gr gs g x A c A' c' s W' := ⟨h.tw.later hb, h.kx.later hb, h.ky.later hb⟩
theorem XS.drew {w0 W : World} {B gr gs g : Nat} {x : O} {A : Option Addr} {c : Nat} {A' : Option Addr} {c' : Nat} {s : Cm.RS} (h : XS w0 B gr gs g x A c A' c' s W) : XS w0 B gr gs g x A c A' c' s W.drew := h.later (below_drewN (Below.refl _ W) 1)
theorem TW.err {w0 W : World} {B gr gs : Nat} {s : Cm.RS} (h : TW w0 B gr gs s W) : W.cell? ⟨gs, 1, none⟩ = some (.int .i64 s.2) := by
  obtain ⟨A, n, c, hb, -⟩ := h.s
  have q := hb.cell 1
  simpa using q
theorem XS.cells {w0 W : World} {B gr gs g : Nat} {x : O} {A : Option Addr} {c : Nat} {A' : Option Addr} {c' : Nat} {s : Cm.RS} (h : XS w0 B gr gs g x A c A' c' s W) :
    W.cell? ⟨g, 0, none⟩ = some (.int .i64 x.kind) ∧ W.cell? ⟨g, 1, none⟩ = some (.string ⟨x.topic.toArray⟩) ∧ W.cell? ⟨g, 2, none⟩ = some (.string ⟨x.group.toArray⟩) ∧ W.cell? ⟨g, 3, none⟩ = some (.int .i64 x.off) ∧ W.cell? ⟨g, 4, none⟩ = some (.slice A x.recs.length c)
    ∧ W.cell? ⟨g + 1, 0, none⟩ = some (.int .i64 x.kind) ∧ W.cell? ⟨g + 1, 1, none⟩ = some (.string ⟨x.topic.toArray⟩) ∧ W.cell? ⟨g + 1, 2, none⟩ = some (.string ⟨x.group.toArray⟩) ∧ W.cell? ⟨g + 1, 3, none⟩ = some (.int .i64 x.off) ∧ W.cell? ⟨g + 1, 4, none⟩ = some (.slice A' x.recs.length c')
    ∧ W.cell? ⟨gs, 1, none⟩ = some (.int .i64 s.2) := by
  obtain ⟨a0, a1, a2, a3, a4⟩ := h.kx.op.cells
  obtain ⟨b0, b1, b2, b3, b4⟩ := h.ky.op.cells
  exact ⟨a0, a1, a2, a3, a4, b0, b1, b2, b3, b4, h.tw.err⟩

end Go.Proofs.YtobphijbhghgmaaGreat.Qd

/-
  Layer 6 (op): the walk of the statement OpBack.
-/
namespace Go.Proofs.YtobphijbhghgmaaGreat.Qe
set_option linter.unusedSimpArgs false
open Go Go.RowKit Ck Kw Ca Cb Ce Cf Ch Ci Cj Co Kx Pm Pa Pe Pf Pg Ph Ppi Pk Pl Py Qb Qc Qt Qs Qd
attribute [local go_sem ↓] Go.wp_at_zero Go.wp_at_succ
set_option linter.unusedVariables false

/-- What stands there: the operation and the bytes. -/
structure EB (w0 : World) (o : O) (A : Option Addr) (c : Nat) (vb : Value) (b : Tx) (W : World) : Prop where
  below : Below w0.heap.size w0 W
  op : OB W w0.heap.size o A c
  ls : Ls W (fun k => w0.heap.size ≤ k) (.slice A o.recs.length c) o.recs
  b : Sl W (fun k => w0.heap.size ≤ k) 1 vb b.length (BVs b)
variable {w0 W W' : World} {o : O} {A : Option Addr} {c : Nat} {vb : Value} {b : Tx}
theorem EB.later (h : EB w0 o A c vb b W) (hb : Below W.heap.size W W') : EB w0 o A c vb b W' :=
  ⟨h.below.trans (hb.mono h.below.size), Blk.below h.op hb (Blk.lt h.op), h.ls.after hb, h.b.after hb⟩
theorem EB.drew (h : EB w0 o A c vb b W) : EB w0 o A c vb b W.drew := h.later (below_drewN (Below.refl _ W) 1)
/-- The operation, what was read of its bytes, twice, and the reader. -/
structure BB (w0 : World) (M g3 g7 g : Nat) (o : O) (A : Option Addr) (c : Nat) (Ax : Option Addr) (cx : Nat) (Ay : Option Addr) (cy : Nat) (vb : Value) (b : Tx) (W : World) : Prop where
  eb : EB w0 o A c vb b W
  x : OB W g3 o Ax cx
  lx : Ls W (fun k => M ≤ k) (.slice Ax o.recs.length cx) o.recs
  y : OB W g7 o Ay cy
  ly : Ls W (fun k => k < M) (.slice Ay o.recs.length cy) o.recs
  rd : CR W (fun k => k < M) g (b, 0)
theorem BB.later {M g3 g7 g : Nat} {Ax : Option Addr} {cx : Nat} {Ay : Option Addr} {cy : Nat} (h : BB w0 M g3 g7 g o A c Ax cx Ay cy vb b W) (hb : Below W.heap.size W W') : BB w0 M g3 g7 g o A c Ax cx Ay cy vb b W' :=
  ⟨h.eb.later hb, Blk.below h.x hb (Blk.lt h.x), h.lx.after hb, Blk.below h.y hb (Blk.lt h.y), h.ly.after hb, h.rd.after hb⟩
theorem BB.cells {M g3 g7 g : Nat} {Ax : Option Addr} {cx : Nat} {Ay : Option Addr} {cy : Nat} (h : BB w0 M g3 g7 g o A c Ax cx Ay cy vb b W) :
    (W.cell? ⟨w0.heap.size, 0, none⟩ = some (.int .i64 o.kind) ∧ W.cell? ⟨w0.heap.size, 1, none⟩ = some (.string ⟨o.topic.toArray⟩) ∧ W.cell? ⟨w0.heap.size, 2, none⟩ = some (.string ⟨o.group.toArray⟩) ∧ W.cell? ⟨w0.heap.size, 3, none⟩ = some (.int .i64 o.off) ∧ W.cell? ⟨w0.heap.size, 4, none⟩ = some (.slice A o.recs.length c))
    ∧ (W.cell? ⟨g3, 0, none⟩ = some (.int .i64 o.kind) ∧ W.cell? ⟨g3, 1, none⟩ = some (.string ⟨o.topic.toArray⟩) ∧ W.cell? ⟨g3, 2, none⟩ = some (.string ⟨o.group.toArray⟩) ∧ W.cell? ⟨g3, 3, none⟩ = some (.int .i64 o.off) ∧ W.cell? ⟨g3, 4, none⟩ = some (.slice Ax o.recs.length cx))
    ∧ (W.cell? ⟨g7, 0, none⟩ = some (.int .i64 o.kind) ∧ W.cell? ⟨g7, 1, none⟩ = some (.string ⟨o.topic.toArray⟩) ∧ W.cell? ⟨g7, 2, none⟩ = some (.string ⟨o.group.toArray⟩) ∧ W.cell? ⟨g7, 3, none⟩ = some (.int .i64 o.off) ∧ W.cell? ⟨g7, 4, none⟩ = some (.slice Ay o.recs.length cy)) :=
  ⟨OB.cells h.eb.op, OB.cells h.x, OB.cells h.y⟩
end Go.Proofs.YtobphijbhghgmaaGreat.Qe

/-
  Layer 6 (op): the contract of Clone.
-/
namespace Go.Proofs.YtobphijbhghgmaaGreat.Qg
set_option linter.unusedSimpArgs false
open Go Go.RowKit Ck Kw Ca Cb Ce Cf Ch Ci Cj Co Kx Pm Pa Pe Pf Pg Ph Ppi Pj Pk Pl Py Qb Qs Qd
attribute [local go_sem ↓] Go.wp_at_zero Go.wp_at_succ
set_option linter.unusedVariables false

/-- A row of records of one's own: the first k of them clones, the others as they were. -/
structure CL (w0 : World) (v : Value) (recs : List Tx) (vals : List Value) (k : Nat) (W : World) : Prop where
  below : Below w0.heap.size w0 W
  row : W.ownsRow w0.heap.size 145 1 v recs.length vals
  mine : ∀ i (hi : i < recs.length), i < k → ∃ u, vals[i]? = some u ∧ W.ownsRow w0.heap.size 5 1 u recs[i].length (BVs recs[i])
  rest : ∀ i (hi : i < recs.length), k ≤ i → ∃ u, vals[i]? = some u ∧ Sl W (fun q => w0.heap.size ≤ q) 1 u recs[i].length (BVs recs[i])
variable {w0 W W' : World} {v : Value} {recs : List Tx} {vals : List Value} {k : Nat}
theorem CL.later (h : CL w0 v recs vals k W) (hb : Below W.heap.size W W') : CL w0 v recs vals k W' :=
  ⟨h.below.trans (hb.mono h.below.size), own_below h.row hb, fun i hi hk => by
    obtain ⟨u, hu, ho⟩ := h.mine i hi hk
    exact ⟨u, hu, own_below ho hb⟩, fun i hi hk => by
    obtain ⟨u, hu, ho⟩ := h.rest i hi hk
    exact ⟨u, hu, ho.after hb⟩⟩
/-- The row's value, and the record at k. -/
theorem CL.at_ (h : CL w0 v recs vals k W) (hk : k < recs.length) :
    ∃ g c u, v = .slice (some ⟨g, 0, none⟩) recs.length c ∧ vals[k]? = some u ∧ W.cell? ⟨g, k, none⟩ = some u ∧ W.frozen? ⟨g, k, none⟩ = false ∧ Sl W (fun q => w0.heap.size ≤ q) 1 u recs[k].length (BVs recs[k]) := by
  obtain ⟨g, c, rfl, hb, hlt⟩ := h.row.form (by omega)
  obtain ⟨u, hu, hs⟩ := h.rest k hk (Nat.le_refl _)
  exact ⟨g, c, u, rfl, hu, by rw [h.row.cellAt k (by omega), hu], h.row.frozenAt k, hs⟩
theorem own_types {g c n : Nat} {xs : List Value} {t : TypeId} {base m : Nat} {u : Value} {ys : List Value} {t' : TypeId} (h : W.ownsRow base t 1 (.slice (some ⟨g, 0, none⟩) n c) n xs) (h' : W.ownsRow base t' 1 u m ys) (ht : t ≠ t') : u.ownBlock ≠ some g := by
  rcases h'.2 with ⟨rfl, _⟩ | ⟨g', cap', cur', rfl, _, hg', _⟩
  · simp [Value.ownBlock]
  · rcases h.2 with ⟨hn, _⟩ | ⟨g2, cap2, cur2, hv, _, hg2, _⟩
    · simp at hn
    · simp only [Value.slice.injEq, Option.some.injEq, Addr.mk.injEq, and_true] at hv
      obtain ⟨rfl, _⟩ := hv
      simp only [Value.ownBlock, ne_eq, Option.some.injEq]
      rintro rfl
      rw [hg2] at hg'
      simp only [Option.some.injEq, Obj.cells.injEq] at hg'
      exact ht hg'.2.1
theorem CL.step {g c : Nat} {u : Value} (h : CL w0 (.slice (some ⟨g, 0, none⟩) recs.length c) recs vals k W) (hk : k < recs.length) (hu : W.ownsRow w0.heap.size 5 1 u recs[k].length (BVs recs[k])) :
    CL w0 (.slice (some ⟨g, 0, none⟩) recs.length c) recs (vals.set k u) (k + 1) (W.setCell ⟨g, k, none⟩ u) := by
  have hst := h.row.stored k u
  have hvl : vals.length = recs.length := by have := h.row.1; omega
  have hgb : w0.heap.size ≤ g := by
    obtain ⟨g', c', hv, hb, _⟩ := h.row.form (by omega)
    simp only [Value.slice.injEq, Option.some.injEq, Addr.mk.injEq, and_true] at hv
    omega
  refine ⟨h.below.grown hst.2 h.below.size (fun q hq => by injection hq with hq; omega), hst.1, fun i hi hik => ?_, fun i hi hik => ?_⟩
  · by_cases he : i = k
    · subst he
      exact ⟨u, by rw [List.getElem?_set_self (by omega)], hu.kept hst.2 (by
        have := own_types h.row hu (by decide)
        first | exact this | (intro h1; exact this h1) | (cases hq : u.ownBlock <;> simp_all))⟩
    · obtain ⟨u', hu', ho⟩ := h.mine i hi (by omega)
      exact ⟨u', by rw [List.getElem?_set_ne (fun q => he q.symm)]; exact hu', ho.kept hst.2 (by
        have := own_types h.row ho (by decide)
        first | exact this | (intro h1; exact this h1) | (cases hq : u'.ownBlock <;> simp_all))⟩
  · obtain ⟨u', hu', ho⟩ := h.rest i hi (by omega)
    exact ⟨u', by rw [List.getElem?_set_ne (by omega)]; exact hu', ho.grown hst.2 (fun q hq _ => by injection hq with hq; show w0.heap.size ≤ q; omega)⟩
/-- A clone, and what is one's own of it. -/
def Cloned (w : World) (o : O) (e : Ending) (w' : World) : Prop := ∃ A c vals, e = .returned (OV o A c) ∧ CL w (.slice A o.recs.length c) o.recs vals o.recs.length w'
theorem CL.ls {A : Option Addr} {c : Nat} (h : CL w0 (.slice A recs.length c) recs vals recs.length W) : Ls W (fun q => q < w0.heap.size) (.slice A recs.length c) recs :=
  ⟨vals, Sl.of_own h.row (fun q h1 _ h2 => by omega), fun i hi => by
    obtain ⟨u, hu, ho⟩ := h.mine i hi hi
    exact ⟨u, hu, Sl.of_own ho (fun q h1 _ h2 => by omega)⟩⟩

theorem own_blk {g g' c n : Nat} {xs : List Value} {t t' : TypeId} {base : Nat} {cs : Array Value} (h : W.ownsRow base t 1 (.slice (some ⟨g, 0, none⟩) n c) n xs) (h' : Blk W g' t' cs) (ht : t ≠ t') : g' ≠ g := by
  rcases h.2 with ⟨hn, _⟩ | ⟨g2, cap2, cur2, hv, _, hg2, _⟩
  · simp at hn
  · simp only [Value.slice.injEq, Option.some.injEq, Addr.mk.injEq, and_true] at hv
    obtain ⟨rfl, _⟩ := hv
    rintro rfl
    have hb : W.heap[g']? = some (.cells cs t' (0, 0)) := h'
    rw [hg2] at hb
    simp only [Option.some.injEq, Obj.cells.injEq] at hb
    exact ht hb.2.1
/-- The operation's own copy. -/
structure SK (w0 : World) (o : O) (A : Option Addr) (c : Nat) (W : World) : Prop where
  below : Below w0.heap.size w0 W
  op : OB W w0.heap.size o A c
  res : Blk W (w0.heap.size + 1) 98 Z5
  ls : Ls W (fun k => w0.heap.size ≤ k) (.slice A o.recs.length c) o.recs
variable {o : O} {A : Option Addr} {c : Nat}
theorem SK.later (h : SK w0 o A c W) (hb : Below W.heap.size W W') : SK w0 o A c W' := ⟨h.below.trans (hb.mono h.below.size), Blk.below h.op hb (Blk.lt h.op), Blk.below h.res hb (Blk.lt h.res), h.ls.after hb⟩
theorem sk_new {X : Nat → Prop} (hls : Ls w0 X (.slice A o.recs.length c) o.recs) : SK w0 o A c ((w0.alloc (.cells (OC o A c) 98)).alloc (.cells Z5 98)) := by
  have hz : (w0.alloc (.cells (OC o A c) 98)).heap.size = w0.heap.size + 1 := by simp
  refine ⟨(al_below _ _).trans ((al_below _ _).mono (by omega)), Blk.below (Blk.new _ _ _) (al_below _ _) (by omega), by rw [← hz]; exact Blk.new _ _ _, ((hls.old' (Nat.le_refl _)).after (al_below _ _)).after (al_below _ _)⟩
theorem SK.put (h : SK w0 o A c W) (i : Nat) (u : Value) (hcs : (OC o A c).setIfInBounds i u = OC o A c) : SK w0 o A c (W.setCell ⟨w0.heap.size, i, none⟩ u) := by
  have n0 := h.below.size
  have cg : W.grownBy (W.setCell ⟨w0.heap.size, i, none⟩ u) (some w0.heap.size) := grown_setCell (World.grownBy.refl W (some w0.heap.size)) (p := ⟨w0.heap.size, i, none⟩) (.inl rfl) u
  refine ⟨h.below.grown cg n0 (fun q hq => by injection hq with hq; omega), ?_, Blk.grown h.res cg (by simp), h.ls.grown cg (fun q hq _ => by injection hq with hq; show w0.heap.size ≤ q; omega)⟩
  have := Blk.set_ h.op i u
  rw [hcs] at this
  exact this
/-- The copy, and the row of its records. -/
structure LP (w0 : World) (o : O) (A : Option Addr) (c : Nat) (vals : List Value) (k : Nat) (W : World) : Prop where
  op : OB W w0.heap.size o A c
  res : Blk W (w0.heap.size + 1) 98 Z5
  cl : CL w0 (.slice A o.recs.length c) o.recs vals k W
theorem LP.later (h : LP w0 o A c vals k W) (hb : Below W.heap.size W W') : LP w0 o A c vals k W' := ⟨Blk.below h.op hb (Blk.lt h.op), Blk.below h.res hb (Blk.lt h.res), h.cl.later hb⟩
theorem lp_start {A' : Option Addr} {c' : Nat} (h : SK w0 o A c W) (hrow : W'.ownsRow W.heap.size 145 1 (.slice A' o.recs.length c') o.recs.length vals) (hv : ∀ i (hi : i < o.recs.length), ∃ u, vals[i]? = some u ∧ Sl W (fun k => w0.heap.size ≤ k) 1 u o.recs[i].length (BVs o.recs[i])) (hb : Below W.heap.size W W') :
    LP w0 o A' c' vals 0 (W'.setCell ⟨w0.heap.size, 4, none⟩ (.slice A' o.recs.length c')) := by
  have n0 := h.below.size
  have h' := h.later hb
  have n1 := Blk.lt h.op
  have cg : W'.grownBy (W'.setCell ⟨w0.heap.size, 4, none⟩ (.slice A' o.recs.length c')) (some w0.heap.size) := grown_setCell (World.grownBy.refl W' (some w0.heap.size)) (p := ⟨w0.heap.size, 4, none⟩) (.inl rfl) _
  refine ⟨Blk.set_ h'.op 4 _, Blk.grown h'.res cg (by simp), h'.below.grown cg h'.below.size (fun q hq => by injection hq with hq; omega), own_base (ownsRow_setCell_below hrow (a := ⟨w0.heap.size, 4, none⟩) n1 _) n0, fun i hi hk => absurd hk (by omega), fun i hi _ => ?_⟩
  obtain ⟨u, hu, hs⟩ := hv i hi
  exact ⟨u, hu, (hs.after hb).grown cg (fun q hq _ => by injection hq with hq; show w0.heap.size ≤ q; omega)⟩
theorem LP.slot {g : Nat} (h : LP w0 o (some ⟨g, 0, none⟩) c vals k W) (hk : k < o.recs.length) : (∃ u, W.cell? ⟨g, k, none⟩ = some u) ∧ W.frozen? ⟨g, k, none⟩ = false := by
  obtain ⟨g', cc, u, hv, hu, hc, hf, hs⟩ := h.cl.at_ hk
  simp only [Value.slice.injEq, Option.some.injEq, Addr.mk.injEq, and_true, true_and] at hv
  obtain ⟨rfl, rfl⟩ := hv
  exact ⟨⟨u, hc⟩, hf⟩
theorem LP.step {g : Nat} {u : Value} (h : LP w0 o (some ⟨g, 0, none⟩) c vals k W) (hk : k < o.recs.length) (hu : W.ownsRow w0.heap.size 5 1 u o.recs[k].length (BVs o.recs[k])) :
    LP w0 o (some ⟨g, 0, none⟩) c (vals.set k u) (k + 1) (W.setCell ⟨g, k, none⟩ u) := by
  have hne := own_blk h.cl.row h.op (by decide)
  have hne2 := own_blk h.cl.row h.res (by decide)
  have cg : W.grownBy (W.setCell ⟨g, k, none⟩ u) (some g) := grown_setCell (World.grownBy.refl W (some g)) (p := ⟨g, k, none⟩) (.inl rfl) _
  exact ⟨Blk.grown h.op cg (by simp; exact hne), Blk.grown h.res cg (by simp; exact hne2), h.cl.step hk hu⟩

theorem own_blk' {g' n : Nat} {u : Value} {xs : List Value} {t t' : TypeId} {base : Nat} {cs : Array Value} (h : W.ownsRow base t 1 u n xs) (h' : Blk W g' t' cs) (ht : t ≠ t') : u.ownBlock ≠ some g' := by
  rcases h.2 with ⟨rfl, _⟩ | ⟨g2, cap2, cur2, rfl, _, hg2, _⟩
  · simp [Value.ownBlock]
  · simp only [Value.ownBlock, ne_eq, Option.some.injEq]
    rintro rfl
    have hb : W.heap[g2]? = some (.cells cs t' (0, 0)) := h'
    rw [hg2] at hb
    simp only [Option.some.injEq, Obj.cells.injEq] at hb
    exact ht hb.2.1
theorem LP.fin (h : LP w0 o A c vals o.recs.length W) (x0 x1 x2 x3 x4 : Value) :
    Cloned w0 o (.returned (.agg #[.int .i64 o.kind, .string ⟨o.topic.toArray⟩, .string ⟨o.group.toArray⟩, .int .i64 o.off, .slice A o.recs.length c])) (((((W.setCell ⟨w0.heap.size + 1, 0, none⟩ x0).setCell ⟨w0.heap.size + 1, 1, none⟩ x1).setCell ⟨w0.heap.size + 1, 2, none⟩ x2).setCell ⟨w0.heap.size + 1, 3, none⟩ x3).setCell ⟨w0.heap.size + 1, 4, none⟩ x4) := by
  have cg : W.grownBy (((((W.setCell ⟨w0.heap.size + 1, 0, none⟩ x0).setCell ⟨w0.heap.size + 1, 1, none⟩ x1).setCell ⟨w0.heap.size + 1, 2, none⟩ x2).setCell ⟨w0.heap.size + 1, 3, none⟩ x3).setCell ⟨w0.heap.size + 1, 4, none⟩ x4) (some (w0.heap.size + 1)) :=
    grown_setCell (grown_setCell (grown_setCell (grown_setCell (grown_setCell (World.grownBy.refl W (some (w0.heap.size + 1))) (p := ⟨w0.heap.size + 1, 0, none⟩) (.inl rfl) x0) (p := ⟨w0.heap.size + 1, 1, none⟩) (.inl rfl) x1) (p := ⟨w0.heap.size + 1, 2, none⟩) (.inl rfl) x2) (p := ⟨w0.heap.size + 1, 3, none⟩) (.inl rfl) x3) (p := ⟨w0.heap.size + 1, 4, none⟩) (.inl rfl) x4
  refine ⟨A, c, vals, rfl, h.cl.below.grown cg h.cl.below.size (fun q hq => by injection hq with hq; omega), h.cl.row.kept cg (by
        have := own_blk' h.cl.row h.res (by decide)
        first | exact this | (intro h1; exact this h1) | (cases hq : (Value.slice A o.recs.length c).ownBlock <;> simp_all)), fun i hi hk => ?_, fun i hi hk => absurd hi (by omega)⟩
  obtain ⟨u, hu, ho⟩ := h.cl.mine i hi hk
  exact ⟨u, hu, ho.kept cg (by
        have := own_blk' ho h.res (by decide)
        first | exact this | (intro h1; exact this h1) | (cases hq : u.ownBlock <;> simp_all))⟩

set_option maxRecDepth 100000 in
set_option maxHeartbeats 8000000 in
theorem clone_any (w : World) (o : O) (X : Nat → Prop) (A : Option Addr) (c : Nat) (hls : Ls w X (.slice A o.recs.length c) o.recs) (hlo : far o 140737488351232) :
    Calls Tryz.prog 111 #[OV o A c] w (Cloned w o) := by
  have HK0 := Lib.hid (sk_new hls)
  have HLO := Lib.hid hlo
  have LT : Hid (o.topic.length ≤ 140737488355328) := Lib.hid (by have := hlo.1; omega)
  have LG : Hid (o.group.length ≤ 140737488355328) := Lib.hid (by have := hlo.2.1; omega)
  have LR : Hid (o.recs.length * 24 ≤ 140737488355328) := Lib.hid (by have := hlo.2.2.1; omega)
  have LE : Hid (∀ i (hi : i < o.recs.length), o.recs[i].length ≤ 140737488355328) := Lib.hid (fun i hi => by have := hlo.2.2.2 _ (List.getElem_mem hi); omega)
  clear hls hlo
  have HS1 : Hid (∀ W : World, Calls Tryz.prog 136 #[.string ⟨o.topic.toArray⟩] W fun e w' => e = .returned (.string ⟨o.topic.toArray⟩) ∧ Below W.heap.size W w') := Lib.hid fun W => sclone_any o.topic W LT.out
  have HS2 : Hid (∀ W : World, Calls Tryz.prog 136 #[.string ⟨o.group.toArray⟩] W fun e w' => e = .returned (.string ⟨o.group.toArray⟩) ∧ Below W.heap.size W w') := Lib.hid fun W => sclone_any o.group W LG.out
  unfold OV
  unfold OC Z5 at HK0
  go_enter Tryz.func111, Tryz.ntmps111
  obtain ⟨a0, a1, a2, a3, a4⟩ := OB.cells' HK0.out.op
  go_wp2_with fail
  refine (HS1.out _).mono ?_
  rintro e w1 ⟨rfl, hb1⟩
  have HK1 := Lib.hid (HK0.out.later hb1)
  have HK1' := Lib.hid (HK1.out.put 1 (.string ⟨o.topic.toArray⟩) rfl)
  clear hb1 a0 a1 a2 a3 a4
  obtain ⟨a0, a1, a2, a3, a4⟩ := OB.cells' HK1.out.op
  have f1 := Blk.frozen HK1.out.op 1
  obtain ⟨b0, b1, b2, b3, b4⟩ := OB.cells' HK1'.out.op
  go_wp2_with fail
  refine (HS2.out _).mono ?_
  rintro e w2 ⟨rfl, hb2⟩
  have HK2 := Lib.hid (HK1'.out.later hb2)
  have HK2' := Lib.hid (HK2.out.put 2 (.string ⟨o.group.toArray⟩) rfl)
  clear hb2 a0 a1 a2 a3 a4 b0 b1 b2 b3 b4 f1
  obtain ⟨a0, a1, a2, a3, a4⟩ := OB.cells' HK2.out.op
  have f2 := Blk.frozen HK2.out.op 2
  obtain ⟨b0, b1, b2, b3, b4⟩ := OB.cells' HK2'.out.op
  have HRC := Lib.hid (rclone_any _ _ A c o.recs HK2'.out.ls LR.out)
  go_wp2_with fail
  refine HRC.out.mono ?_
  rintro e w3 ⟨v3, vals, rfl, hown3, hvs3, hb3⟩
  obtain ⟨A3, c3, rfl⟩ := own_shape hown3
  have HK3 := Lib.hid (HK2'.out.later hb3)
  have HL3 := Lib.hid (lp_start HK2'.out hown3 hvs3 hb3)
  clear hown3 hvs3 hb3 a0 a1 a2 a3 a4 b0 b1 b2 b3 b4 f2
  obtain ⟨a0, a1, a2, a3, a4⟩ := OB.cells' HK3.out.op
  have f4 := Blk.frozen HK3.out.op 4
  obtain ⟨b0, b1, b2, b3, b4⟩ := OB.cells' HL3.out.op
  go_wp2_with fail
  clear a0 a1 a2 a3 a4 b0 b1 b2 b3 b4 f4 HK3 HRC HK2' HK2 HK1' HK1 HK0 HS1 HS2
  have hnl : o.recs.length ≤ 140737488355328 := by have := LR.out; omega
  (try go_frame)
  go_loopw [20] (fun i wr => ∃ (k : Nat) (vs : List Value), k ≤ o.recs.length ∧ i = .int .i64 k ∧ LP w o A3 c3 vs k wr) (fun i _ => o.recs.length - (intOf i).toNat)
  case atStart => exact ⟨0, vals, Nat.zero_le _, rfl, HL3.out⟩
  case round =>
    obtain ⟨k, vs, hk, rfl, hl⟩ := hrel
    clear HL3
    by_cases hlt : k < o.recs.length
    · have HLT := Lib.hid hlt
      obtain ⟨g, cc, u, hv, hu, hc, hf, hs⟩ := hl.cl.at_ hlt
      simp only [Value.slice.injEq, true_and] at hv
      obtain ⟨rfl, rfl⟩ := hv
      have HLd := Lib.hid (hl.later (below_drewN (Below.refl _ _) 1))
      have HSd := Lib.hid (hs.after (below_drewN (Below.refl _ _) 1))
      have hle := LE.out k hlt
      have HLE := Lib.hid hle
      have q4 := (OB.cells' HLd.out.op).2.2.2.2
      obtain ⟨A5, d5, rfl, -⟩ := id hs
      clear hl hs hle hu
      go_wp2_with fail
      go_region_held3 (fun w' => w'.cell? ⟨w.heap.size, 4, none⟩ = some (.slice (some ⟨g, 0, none⟩) o.recs.length c3)) (first | exact q4 | exact j4 | exact n4)
        (first
        | (go_at_call 138; refine (Cd.clone_any _ _ _ o.recs[k] _ HSd.out HLE.out).mono ?_; rintro e w4 ⟨v4, rfl, hown4, hb4⟩; obtain ⟨A4, c4, rfl⟩ := own_shape hown4; have HL4 := Lib.hid (HLd.out.later hb4); have HO4 := Lib.hid (own_base hown4 HLd.out.cl.below.size); have j4 := (OB.cells' HL4.out.op).2.2.2.2; obtain ⟨⟨u4, hc4⟩, hf4⟩ := HL4.out.slot HLT.out; have HN := Lib.hid (HL4.out.step HLT.out HO4.out); have n4 := (OB.cells' HN.out.op).2.2.2.2; clear hown4 hb4))
      all_goals
        go_wp2_with fail
        go_roundw
      all_goals first
        | exact ⟨k + 1, _, by have := HLT.out; omega, by go_num, HN.out⟩
        | (simp [intOf]; omega)
    · have hke : k = o.recs.length := by omega
      subst hke
      have HL := Lib.hid hl
      obtain ⟨b0, b1, b2, b3, b4⟩ := OB.cells' hl.op
      obtain ⟨⟨r0, r1, r2, r3, r4⟩, ⟨q0, q1, q2, q3, q4⟩⟩ := Blk.cells5 hl.res
      clear hl
      go_wp2_with fail
      refine bodyPost_ret (results_row1 rfl _ _ (w.heap.size + 1) 98 #[.int .i64 o.kind, .string ⟨o.topic.toArray⟩, .string ⟨o.group.toArray⟩, .int .i64 o.off, .slice A3 o.recs.length c3] (0, 0) _ rfl (res_blk HL.out.res _ _ _ _ _) Tryz.underlying98 rfl size_op) rfl ?_
      exact HL.out.fin _ _ _ _ _
end Go.Proofs.YtobphijbhghgmaaGreat.Qg

/-
  Contract of the program's topics: do.
-/
namespace Go.Proofs.YtobphijbhghgmaaGreat.Ai
set_option linter.unusedSimpArgs false
open Go Go.RowKit Ck Kw Ga Kf Km Kd Pm Pz Pe Pg Py Qb Qg Tm Tn Tq Aa Ab Ac Ad Ae Af Ag Ah
attribute [local go_sem ↓] Go.wp_at_zero Go.wp_at_succ
set_option linter.unusedVariables false

theorem small_of {o : O} (h : check o = 0) : o.topic.length ≤ 64 ∧ o.group.length ≤ 64 ∧ o.recs.length ≤ 4 ∧ (∀ x ∈ o.recs, x.length ≤ 64) ∧ (hasR o.kind = false → o.recs = []) := by
  obtain ⟨h1, h2, h3, h4⟩ := check_lens h
  obtain ⟨_, hm, _, _, _⟩ := check_ok h
  simp only [more, Bool.or_eq_false_iff, Bool.and_eq_false_iff, Bool.not_eq_false'] at hm
  obtain ⟨⟨⟨m1, m2⟩, _⟩, m4⟩ := hm
  refine ⟨?_, ?_, ?_, ?_, ?_⟩
  · rcases m1 with m | m
    · exact h1 (by simpa using m)
    · have e : o.topic = [] := List.isEmpty_iff.1 (by simpa using m)
      simp [e]
  · rcases m2 with m | m
    · exact h2 (by simpa using m)
    · have e : o.group = [] := List.isEmpty_iff.1 (by simpa using m)
      simp [e]
  · rcases m4 with m | m
    · exact (h4 (by simpa using m)).2.1
    · have e : o.recs = [] := List.isEmpty_iff.1 (by simpa using m)
      simp [e]
  · rcases m4 with m | m
    · exact (h4 (by simpa using m)).2.2.1
    · have e : o.recs = [] := List.isEmpty_iff.1 (by simpa using m)
      simp [e]
  · intro hR
    rcases m4 with m | m
    · rw [hR] at m; cases m
    · exact List.isEmpty_iff.1 (by simpa using m)
theorem far_of {o : O} (h : check o = 0) : far o 140737488351232 := by
  obtain ⟨h1, h2, h3, h4, _⟩ := small_of h
  exact ⟨by omega, by omega, by omega, fun l hl => by have := h4 l hl; omega⟩
/-- What an error leaves. -/
theorem does_err {L : List Tp} (hL : GoodL L) {o : O} (h : (doesS L o).1.1 ≠ 0) : (doesS L o).1.2 = 0 ∧ (doesS L o).2.1 = [] := by
  refine ⟨?_, ?_⟩
  · rcases (doesS_good hL o).2.2.2.2.2.2 with h' | h'
    · exact absurd h' h
    · exact h'
  · revert h
    unfold doesS
    repeat' split
    all_goals first
      | (intro h; rfl)
      | (intro h; exact absurd rfl h)
theorem does_placed {L : List Tp} {o : O} (hc : check o = 0) (h : (doesS L o).1.1 = 0) : (doesS L o).2.1 = placed o.topic (doesS L o).1.2 o.recs := by
  have hr := (small_of hc).2.2.2.2
  have e0 : o.kind ≠ 2 → o.recs = [] := fun hk => hr (by simp only [hasR, beq_eq_false_iff_ne]; exact hk)
  revert h
  unfold doesS
  split
  · rename_i h0; exact absurd hc h0
  · split
    · rename_i hk; intro _; rw [e0 (by omega)]; rfl
    · split
      · rename_i hk
        rw [e0 (by omega)]
        repeat' split
        all_goals (intro _; rfl)
      · split
        · intro h; exact absurd h (by simp)
        · split
          · split
            · intro h; exact absurd h (by simp)
            · intro _; rfl
          · rename_i hk2
            rw [e0 hk2]
            repeat' split
            all_goals (intro _; rfl)
/-- Topics s' behind a request. -/
def Applied (S R : Nat → Prop) (p : Nat) (s' : St) (B : Nat) (w w' : World) : Prop :=
  ∃ S' R', Tz w' S' R' p s' ∧ (∀ k, S' k → Up S w w' k ∧ k < B) ∧ (∀ k, R' k → Up R w w' k ∧ k < B) ∧ Ch S w w'
theorem Tz.bound {w : World} {S R : Nat → Prop} {p : Nat} {s : St} (h : Tz w S R p s) : Tz w (fun k => S k ∧ k < w.heap.size) R p s := by
  obtain ⟨m, D, G, V, M, F, h⟩ := h
  exact ⟨m, D, G, V, M, F, h.blk, ⟨h.sp, h.blk.lt⟩, h.own, h.tells, ⟨⟨h.sm.1, h.own.lt⟩, h.sm.2⟩, h.top, fun t ht k hk => ⟨⟨(h.sub t ht k hk).1, (h.sub t ht k hk).2.2.2⟩, (h.sub t ht k hk).2⟩, h.apart, fun k hk => ⟨fun hs => (h.rs k hk).1 hs.1, (h.rs k hk).2⟩, h.good⟩
theorem Tz.moreR {w : World} {S R R' : Nat → Prop} {p : Nat} {s : St} (h : Tz w S R p s) (hr : ∀ k, R k → R' k) (hs : ∀ k, R' k → ¬ S k ∧ k < w.heap.size) : Tz w S R' p s := by
  obtain ⟨m, D, G, V, M, F, h⟩ := h
  exact ⟨m, D, G, V, M, F, h.blk, h.sp, h.own, h.tells, h.sm, fun t ht => (h.top t ht).more hr (fun _ h => h), h.sub, h.apart, hs, h.good⟩
theorem applied_refl {w w' : World} {S R : Nat → Prop} {p : Nat} {s : St} (h : Tz w S R p s) (b : Below w.heap.size w w') : Applied S R p s w.heap.size w w' :=
  ⟨_, R, (Tz.bound h).later b, fun _ h => ⟨.inl h.1, h.2⟩, fun k hk => ⟨.inl hk, (Tz.rlt h k hk).2⟩, Ch.of_below b (Nat.le_refl _)⟩
/-- What do leaves. -/
def Done (S R : Nat → Prop) (p : Nat) (s : St) (o : O) (w : World) (e : Ending) (w' : World) : Prop :=
  ∃ v B, e = .returned (.tuple #[.agg #[.int .i64 (doesS s.L o).1.1, .int .i64 (doesS s.L o).1.2], v]) ∧ w.heap.size ≤ B ∧ Ps w' B v (doesS s.L o).2.1 ∧ Applied S R p ⟨(doesS s.L o).2.2, s.last⟩ B w w'
/-- do's own blocks: the operation, and the result. -/
structure DK (w : World) (o : O) (A : Option Addr) (c : Nat) (W : World) : Prop where
  below : Below w.heap.size w W
  op : OB W w.heap.size o A c
  res : Blk W (w.heap.size + 1) 69 #[.int .i64 0, .int .i64 0]
theorem DK.later {w W W' : World} {o : O} {A : Option Addr} {c : Nat} (h : DK w o A c W) (b : Below W.heap.size W W') : DK w o A c W' := ⟨h.below.trans (b.mono h.below.size), Blk.below h.op b (Blk.lt h.op), h.res.below b h.res.lt⟩
theorem DK.ch {w W W' : World} {o : O} {A : Option Addr} {c : Nat} {S : Nat → Prop} (h : DK w o A c W) (k : Ch S W W') (hs : ∀ k, S k → k < w.heap.size) : Blk W' w.heap.size 98 (OC o A c) ∧ Blk W' (w.heap.size + 1) 69 #[.int .i64 0, .int .i64 0] :=
  ⟨Blk.ch h.op k (fun e => by have := hs _ e; omega), h.res.ch k (fun e => by have := hs _ e; omega)⟩
theorem dk_new (w : World) (o : O) (A : Option Addr) (c : Nat) : DK w o A c ((w.alloc (.cells (OC o A c) 98)).alloc (.cells #[.int .i64 0, .int .i64 0] 69)) := by
  have hz : (w.alloc (.cells (OC o A c) 98)).heap.size = w.heap.size + 1 := by simp
  exact ⟨(op_below w _).trans ((op_below _ _).mono (by omega)), Blk.below (op_new w o A c) (op_below _ _) (by omega), by rw [← hz]; exact Blk.new _ _ _⟩
theorem size_res : (Tryz.prog.info? 69).map (·.size) = some 2 := by kernel_rfl
theorem blk2 {W : World} {g : Nat} {t : TypeId} {x y : Value} (h : Blk W g t #[x, y]) (u v : Value) : Blk ((W.setCell ⟨g, 0, none⟩ u).setCell ⟨g, 1, none⟩ v) g t #[u, v] := (h.set_ 0 u).set_ 1 v
theorem below2 {B : Nat} {w W : World} {g : Nat} (h : Below B w W) (hg : B ≤ g) (u v : Value) : Below B w ((W.setCell ⟨g, 0, none⟩ u).setCell ⟨g, 1, none⟩ v) := (h.setCell hg _).setCell hg _
set_option maxRecDepth 100000 in
set_option maxHeartbeats 1000000 in
theorem do_bad (w : World) (S R : Nat → Prop) (p : Nat) (s : St) (o : O) (X : Nat → Prop) (A : Option Addr) (c : Nat) (hc : check o ≠ 0) (h : Tz w S R p s) (hls : Ls w X (.slice A o.recs.length c) o.recs) (hl : o.recs.length ≤ 140737488355328) :
    Calls Tryz.prog 92 #[.pointer (some ⟨p, 0, none⟩), OV o A c] w (Done S R p s o w) := by
  have hdk := dk_new w o A c
  have HDK := Lib.hid hdk
  have HZ := Lib.hid h
  obtain ⟨a0, a1, a2, a3, a4⟩ := hdk.op.cells
  have HC := Lib.hid (check_any o _ X _ ⟨A, c, rfl, (hls.after (op_below w (.cells (OC o A c) 98))).after (op_below _ (.cells #[.int .i64 0, .int .i64 0] 69))⟩ hl)
  have HD : Hid (doesS s.L o = ((check o, 0), [], s.L)) := Lib.hid (by rw [doesS, if_pos hc])
  have hcb : (check o == 0) = false := beq_eq_false_iff_ne.2 hc
  clear hdk h hls hl hc
  unfold Done
  rw [HD.out]
  unfold OV at HC ⊢
  unfold OC at HDK HC a0 a1 a2 a3 a4
  generalize check o = k at *
  go_enter Tryz.func92, Tryz.ntmps92
  go_wp2_with fail
  refine HC.out.mono ?_
  rintro e w1 ⟨rfl, hb1⟩
  have HDK1 := Lib.hid (HDK.out.later hb1)
  have r0 := HDK1.out.res.cell 0
  have r1 := HDK1.out.res.cell 1
  have fr0 := HDK1.out.res.frozen 0
  have fr1 := HDK1.out.res.frozen 1
  simp only [List.getElem?_toArray, List.getElem?_cons_zero, List.getElem?_cons_succ] at r0 r1
  clear hb1
  go_wp2_with fail
  refine bodyPost_ret (results_row_tmp rfl _ _ (w.heap.size + 1) 69 #[.int .i64 k, .int .i64 0] (0, 0) _ rfl (blk2 HDK1.out.res _ _) Tryz.underlying69 rfl size_res) rfl ?_
  exact ⟨_, _, rfl, Nat.le_refl _, Ps.nil _ _, applied_refl HZ.out (below2 HDK1.out.below (by omega) _ _)⟩

theorem ins_ch {w0 W W' : World} {R S : Nat → Prop} {A : Option Addr} {c : Nat} {recs : List Tx} {vals : List Value} (h : CL w0 (.slice A recs.length c) recs vals recs.length W) (k : Ch S W W') (hs : ∀ k, S k → k < w0.heap.size) : Ins W' (fun k => R k ∨ (w0.heap.size ≤ k ∧ k < W.heap.size)) A c recs :=
  ⟨vals, Sl.of_own (own_ch h.row k (fun g hg e => by have := (h.row.lt g hg).1; have := hs _ e; omega)) (fun _ _ _ h => h), fun i hi => by
    obtain ⟨u, hu, ho⟩ := h.mine i hi hi
    exact ⟨u, hu, Sl.of_own' (own_ch ho k (fun g hg e => by have := (ho.lt g hg).1; have := hs _ e; omega)) (fun q h1 h2 => h2 (.inr (ho.lt q h1)))⟩⟩
theorem applied_fin {w w1 w2 w3 w4 w5 : World} {S R : Nat → Prop} {p : Nat} {s' : St} (s1 : w.heap.size ≤ w1.heap.size) (s2 : w1.heap.size ≤ w2.heap.size) (s3 : w2.heap.size ≤ w3.heap.size) (b : Below w.heap.size w w3)
    (hR : ∀ k, R k → k < w.heap.size) (hd : Did (fun k => S k ∧ k < w.heap.size) (fun k => R k ∨ (w1.heap.size ≤ k ∧ k < w2.heap.size)) p s' w3 w4) (c : Ch (fun k => w.heap.size ≤ k ∧ k < w1.heap.size) w4 w5) : Applied S R p s' w4.heap.size w w5 := by
  have s4 := hd.2.size
  have s5 := c.size
  refine ⟨_, _, hd.1.ch c (fun k hk h => ?_) (fun k hk h => ?_), fun k hk => ?_, fun k hk => ?_, ?_⟩
  · rcases hk with hk | ⟨h1, h2⟩
    · have := hk.2; omega
    · omega
  · rcases hk with hk | ⟨h1, h2⟩
    · have := hR k hk; omega
    · omega
  · rcases hk with hk | ⟨h1, h2⟩
    · exact ⟨.inl hk.1, by have := hk.2; have := b.size; omega⟩
    · exact ⟨.inr ⟨by omega, by omega⟩, h2⟩
  · rcases hk with hk | ⟨h1, h2⟩
    · exact ⟨.inl hk, by have := hR k hk; have := b.size; omega⟩
    · exact ⟨.inr ⟨by omega, by omega⟩, by omega⟩
  · have c3 : Ch S w w4 := (Ch.of_below (S := S) b (Nat.le_refl _)).trans (hd.2.mono (T := S) (fun k _ hk => hk.1)) (fun _ _ h => h)
    exact c3.trans c (fun k h1 h2 => by omega)
theorem done_of {w w' : World} {S R : Nat → Prop} {p : Nat} {s : St} {o : O} {k off : Int} {v : Value} {pl : List (Tx × Int × Tx)} (h1 : (doesS s.L o).1.1 = k) (h2 : (doesS s.L o).1.2 = off) (h3 : (doesS s.L o).2.1 = pl) {B : Nat} (hB : w.heap.size ≤ B) (h4 : Ps w' B v pl) (h5 : Applied S R p ⟨(doesS s.L o).2.2, s.last⟩ B w w') :
    Done S R p s o w (.returned (.tuple #[.agg #[.int .i64 k, .int .i64 off], v])) w' := by
  subst h1; subst h2; subst h3
  exact ⟨v, B, rfl, hB, h4, h5⟩
theorem own_cells {w w1 W W' : World} {g : Nat} (h : w.heap.size ≤ g) (h' : g < w1.heap.size) (c : Ch (fun k => w.heap.size ≤ k ∧ k < w1.heap.size) W W') (u v : Value) : Ch (fun k => w.heap.size ≤ k ∧ k < w1.heap.size) W ((W'.setCell ⟨g, 0, none⟩ u).setCell ⟨g, 1, none⟩ v) :=
  (c.setCell (p := ⟨g, 0, none⟩) (fun _ => ⟨h, h'⟩) _).setCell (p := ⟨g, 1, none⟩) (fun _ => ⟨h, h'⟩) _
theorem five {W : World} {g : Nat} {o : O} {A A2 : Option Addr} {c c2 : Nat} (h : OB W g o A c) :
    OB (((((W.setCell ⟨g, 0, none⟩ (.int .i64 o.kind)).setCell ⟨g, 1, none⟩ (.string ⟨o.topic.toArray⟩)).setCell ⟨g, 2, none⟩ (.string ⟨o.group.toArray⟩)).setCell ⟨g, 3, none⟩ (.int .i64 o.off)).setCell ⟨g, 4, none⟩ (.slice A2 o.recs.length c2)) g o A2 c2 :=
  ((((Blk.set_ h 0 _).set_ 1 _).set_ 2 _).set_ 3 _).set_ 4 _
theorem five_ch (W : World) (g : Nat) (x0 x1 x2 x3 x4 : Value) : Ch (fun k => k = g) W (((((W.setCell ⟨g, 0, none⟩ x0).setCell ⟨g, 1, none⟩ x1).setCell ⟨g, 2, none⟩ x2).setCell ⟨g, 3, none⟩ x3).setCell ⟨g, 4, none⟩ x4) :=
  (((((Ch.refl (fun k => k = g) W).setCell (p := ⟨g, 0, none⟩) (fun _ => rfl) _).setCell (p := ⟨g, 1, none⟩) (fun _ => rfl) _).setCell (p := ⟨g, 2, none⟩) (fun _ => rfl) _).setCell (p := ⟨g, 3, none⟩) (fun _ => rfl) _).setCell (p := ⟨g, 4, none⟩) (fun _ => rfl) _
set_option maxRecDepth 100000 in
set_option maxHeartbeats 2000000 in
theorem do_ok (w : World) (S R : Nat → Prop) (p : Nat) (s : St) (o : O) (X : Nat → Prop) (A : Option Addr) (c : Nat) (hc : check o = 0) (h : Tz w S R p s) (hls : Ls w X (.slice A o.recs.length c) o.recs) :
    Calls Tryz.prog 92 #[.pointer (some ⟨p, 0, none⟩), OV o A c] w (Done S R p s o w) := by
  have hdk := dk_new w o A c
  have HDK := Lib.hid hdk
  have HZ := Lib.hid h
  have hsm := small_of hc
  have hls2 := (hls.after (op_below w (.cells (OC o A c) 98))).after (op_below _ (.cells #[.int .i64 0, .int .i64 0] 69))
  obtain ⟨a0, a1, a2, a3, a4⟩ := hdk.op.cells
  have HC := Lib.hid (check_any o _ X _ ⟨A, c, rfl, hls2⟩ (by omega))
  have HLS := Lib.hid hls2
  have HCK := Lib.hid hc
  have HSM := Lib.hid hsm
  have HDE := Lib.hid (fun h => does_err h.good.L (L := s.L) (o := o) : Tz w S R p s → _)
  clear hdk h hls hls2 hsm hc
  unfold OV at HC ⊢
  unfold OC at HDK HC HLS a0 a1 a2 a3 a4
  rw [HCK.out] at HC
  go_enter Tryz.func92, Tryz.ntmps92
  go_wp2_with fail
  refine HC.out.mono ?_
  rintro e w1 ⟨rfl, hb1⟩
  have HDK1 := Lib.hid (HDK.out.later hb1)
  have HCL := Lib.hid (clone_any w1 o X A c (HLS.out.after hb1) (far_of HCK.out))
  clear hb1 a0 a1 a2 a3 a4
  obtain ⟨a0, a1, a2, a3, a4⟩ := HDK1.out.op.cells
  unfold OV at HCL
  go_wp2_with fail
  refine HCL.out.mono ?_
  rintro e w2 ⟨A2, c2, vals, rfl, hcl⟩
  have HDK2 := Lib.hid (HDK1.out.later hcl.below)
  have HCL2 := Lib.hid hcl
  clear hcl a0 a1 a2 a3 a4
  obtain ⟨a0, a1, a2, a3, a4⟩ := HDK2.out.op.cells
  have f0 := Blk.frozen HDK2.out.op 0
  have f1 := Blk.frozen HDK2.out.op 1
  have f2 := Blk.frozen HDK2.out.op 2
  have f3 := Blk.frozen HDK2.out.op 3
  have f4 := Blk.frozen HDK2.out.op 4
  unfold OV
  go_wp2_with fail
  have hop3 := five (A2 := A2) (c2 := c2) HDK2.out.op
  have hch3 := five_ch w2 w.heap.size (.int .i64 o.kind) (.string ⟨o.topic.toArray⟩) (.string ⟨o.group.toArray⟩) (.int .i64 o.off) (.slice A2 o.recs.length c2)
  generalize (((((w2.setCell ⟨w.heap.size, 0, none⟩ (.int .i64 o.kind)).setCell ⟨w.heap.size, 1, none⟩ (.string ⟨o.topic.toArray⟩)).setCell ⟨w.heap.size, 2, none⟩ (.string ⟨o.group.toArray⟩)).setCell ⟨w.heap.size, 3, none⟩ (.int .i64 o.off)).setCell ⟨w.heap.size, 4, none⟩ (.slice A2 o.recs.length c2)) = w3 at hop3 hch3 ⊢
  have z1 : w.heap.size + 2 ≤ w1.heap.size := by have := HDK1.out.res.lt; omega
  have z2 := HCL2.out.below.size
  have z3 := hch3.size
  have HZS := Lib.hid (And.intro z1 (And.intro z2 z3))
  have hres3 := HDK2.out.res.ch hch3 (by omega)
  have b3 : Below w.heap.size w w3 := ⟨hch3.os.trans HDK2.out.below.os, hch3.tape.trans HDK2.out.below.tape, hch3.output.trans HDK2.out.below.output, Nat.le_trans HDK2.out.below.size hch3.size, fun i hi => (hch3.block i (by omega) (by omega)).trans (HDK2.out.below.block i hi)⟩
  have HB3 := Lib.hid b3
  have hz3 : Tz w3 (fun k => S k ∧ k < w.heap.size) (fun k => R k ∨ (w1.heap.size ≤ k ∧ k < w2.heap.size)) p s := by
    refine Tz.moreR ((Tz.bound HZ.out).ch (Ch.of_below (S := fun k => w.heap.size ≤ k) b3 (Nat.le_refl _)) (fun k hk h => by have := hk.2; omega) (fun k hk h => by have := (Tz.rlt HZ.out k hk).2; omega)) (fun _ h => .inl h) (fun k hk => ?_)
    rcases hk with hk | ⟨h1, h2⟩
    · have := Tz.rlt HZ.out k hk
      exact ⟨fun h => this.1 h.1, by omega⟩
    · exact ⟨fun h => by have := h.2; omega, by omega⟩
  have HRN := Lib.hid (run_any w3 _ _ p s o A2 c2 HCK.out hz3 (ins_ch (R := R) HCL2.out hch3 (fun k hk => by omega)))
  have HL3 := Lib.hid ((CL.ls HCL2.out).ch hch3 (fun k _ hk => by show k < w1.heap.size; omega))
  have HO3 := Lib.hid (And.intro hop3 hres3)
  clear a0 a1 a2 a3 a4 f0 f1 f2 f3 f4 hch3 hres3 b3 hz3 z1 z2 z3 hop3
  unfold OV at HRN
  refine HRN.out.mono ?_
  rintro e w4 ⟨rfl, hd⟩
  have HD4 := Lib.hid hd
  have hop4 : OB w4 w.heap.size o A2 c2 := Blk.ch HO3.out.1 hd.2 (fun h => by have := h.2; omega)
  have hres4 := HO3.out.2.ch hd.2 (fun h => by have := h.2; omega)
  have HL4 := Lib.hid (HL3.out.ch hd.2 (fun k _ hk => by have := hk.2; have := HZS.out.1; show k < w1.heap.size; omega))
  have HO4 := Lib.hid (And.intro hop4 hres4)
  have hgr := (doesS_good HZ.out.good.L o).2
  obtain ⟨a0, a1, a2, a3, a4⟩ := hop4.cells
  have r0 := hres4.cell 0
  have r1 := hres4.cell 1
  have fr0 := hres4.frozen 0
  have fr1 := hres4.frozen 1
  simp only [List.getElem?_toArray, List.getElem?_cons_zero, List.getElem?_cons_succ] at r0 r1
  have HGR := Lib.hid hgr
  clear hd hop4 hres4 hgr
  by_cases he : (doesS s.L o).1.1 = 0
  · have HP := Lib.hid (does_placed HCK.out he)
    have HEE := Lib.hid he
    have q0 := HGR.out.2.2.2.1
    have q1 := HGR.out.2.2.2.2.1
    simp only [maxNum] at q1
    rw [he]
    clear he
    generalize hoff : (doesS s.L o).1.2 = off at q0 q1 HP ⊢
    have HOF := Lib.hid hoff
    have HPL := Lib.hid (places_any w4 o _ A2 c2 off HL4.out (by have := HSM.out.2.2.1; omega) HSM.out.2.2.2.1 q0 q1)
    unfold OV at HPL
    clear hoff
    go_wp2_with fail
    refine HPL.out.mono ?_
    rintro e w5 ⟨v5, rfl, hps, hb5⟩
    have HB5 := Lib.hid hb5
    have HPS := Lib.hid hps
    have hres5 := HO4.out.2.below hb5 HO4.out.2.lt
    have HR5 := Lib.hid hres5
    clear r0 r1 fr0 fr1
    have r0 := hres5.cell 0
    have r1 := hres5.cell 1
    have fr0 := hres5.frozen 0
    have fr1 := hres5.frozen 1
    simp only [List.getElem?_toArray, List.getElem?_cons_zero, List.getElem?_cons_succ] at r0 r1
    clear hb5 hps hres5
    go_wp2_with fail
    refine bodyPost_ret (results_row_tmp rfl _ _ (w.heap.size + 1) 69 #[.int .i64 0, .int .i64 off] (0, 0) _ rfl (blk2 HR5.out _ _) Tryz.underlying69 rfl size_res) rfl ?_
    have hz4 := HD4.out.2.size
    have hzs := HZS.out
    have c5 := own_cells (w := w) (w1 := w1) (g := w.heap.size + 1) (by omega) (by omega) (Ch.of_below HB5.out (Nat.le_refl _)) (.int .i64 0) (.int .i64 off)
    refine done_of HEE.out HOF.out HP.out (by omega) ?_ (applied_fin (by omega) hzs.2.1 hzs.2.2 HB3.out (fun k hk => (Tz.rlt HZ.out k hk).2) HD4.out c5)
    exact (HPS.out.ch (((Ch.refl (fun k => k = w.heap.size + 1) w5).setCell (p := ⟨w.heap.size + 1, 0, none⟩) (fun _ => rfl) _).setCell (p := ⟨w.heap.size + 1, 1, none⟩) (fun _ => rfl) _) (fun k hk => by omega))
  · obtain ⟨e2, e3⟩ := HDE.out HZ.out he
    have hcb : ((doesS s.L o).1.1 == 0) = false := beq_eq_false_iff_ne.2 he
    rw [e2]
    have HE2 := Lib.hid (And.intro e2 e3)
    generalize hk : (doesS s.L o).1.1 = k at hcb ⊢
    have HK := Lib.hid hk
    clear he e3 e2 hk
    go_wp2_with fail
    refine bodyPost_ret (results_row_tmp rfl _ _ (w.heap.size + 1) 69 #[.int .i64 k, .int .i64 0] (0, 0) _ rfl (blk2 HO4.out.2 _ _) Tryz.underlying69 rfl size_res) rfl ?_
    have hz4 := HD4.out.2.size
    have hzs := HZS.out
    have c5 := own_cells (w := w) (w1 := w1) (g := w.heap.size + 1) (by omega) (by omega) (Ch.refl _ w4) (.int .i64 k) (.int .i64 0)
    exact done_of HK.out HE2.out.1 HE2.out.2 (by omega) (Ps.nil _ _) (applied_fin (by omega) hzs.2.1 hzs.2.2 HB3.out (fun k hk => (Tz.rlt HZ.out k hk).2) HD4.out c5)
theorem do_any (w : World) (S R : Nat → Prop) (p : Nat) (s : St) (o : O) (X : Nat → Prop) (A : Option Addr) (c : Nat) (h : Tz w S R p s) (hls : Ls w X (.slice A o.recs.length c) o.recs) (hl : o.recs.length ≤ 140737488355328) :
    Calls Tryz.prog 92 #[.pointer (some ⟨p, 0, none⟩), OV o A c] w (Done S R p s o w) := by
  by_cases hc : check o = 0
  · exact do_ok w S R p s o X A c hc h hls
  · exact do_bad w S R p s o X A c hc h hls hl
end Go.Proofs.YtobphijbhghgmaaGreat.Ai
