/-
  Layer 6 (op): the contract of Clone.
-/
import Derived.Test.YtebjjkhiniccgaaGreatZ11
import Derived.Test.YtebjjkhiniccgaaGreatZ05
import Derived.Test.YtebjjkhiniccgaaGreatZ09
import Derived.Outline
import Derived.Test.YtebjjkhiniccgaaGreatZ06
import Derived.Deep.QuietTactic
import Derived.BigQuiet
import Derived.RegionTactic
import Derived.Lib.ConvBytes
import Derived.BigRegion
import Derived.Shelf.SlMaps.Clone
import Derived.Deep.RegionWith
import Derived.Deep.RegionHeld3
import Derived.Deep.DrawnRows
import Derived.Test.YtebjjkhiniccgaaGreatZ07
namespace Go.Proofs.YtebjjkhiniccgaaGreat.Qg
set_option linter.unusedSimpArgs false
open Go Go.RowKit Ck Kw Ca Cb Ce Cf Cg Ch Ci Cj Co Kx Pm Pa Pe Pf Pg Ph Ppi Pj Pk Pp Py Qb Qs Qd
attribute [local go_sem ↓] Go.wp_at_zero Go.wp_at_succ
set_option linter.unusedVariables false

/-- A row of records of one's own: the first k of them clones, the others as they were. -/
structure CL (w0 : World) (v : Value) (recs : List Tx) (vals : List Value) (k : Nat) (W : World) : Prop where
  below : Below w0.heap.size w0 W
  row : W.ownsRow w0.heap.size 112 1 v recs.length vals
  mine : ∀ i (hi : i < recs.length), i < k → ∃ u, vals[i]? = some u ∧ W.ownsRow w0.heap.size 5 1 u recs[i].length (BVs recs[i])
  rest : ∀ i (hi : i < recs.length), k ≤ i → ∃ u, vals[i]? = some u ∧ Sl W (fun q => w0.heap.size ≤ q) 1 u recs[i].length (BVs recs[i])
variable {w0 W W' : World} {v : Value} {recs : List Tx} {vals : List Value} {k : Nat}
theorem CL.later (h : CL w0 v recs vals k W) (hb : Below W.heap.size W W') : CL w0 v recs vals k W' :=
  ⟨h.below.trans (hb.mono h.below.size), own_below h.row hb, fun i hi hk => by
    obtain ⟨u, hu, ho⟩ := h.mine i hi hk
    exact ⟨u, hu, own_below ho hb⟩, fun i hi hk => by
    obtain ⟨u, hu, ho⟩ := h.rest i hi hk
    exact ⟨u, hu, ho.after hb⟩⟩
/-- The row's value, and the record at k. -/
theorem CL.at_ (h : CL w0 v recs vals k W) (hk : k < recs.length) :
    ∃ g c u, v = .slice (some ⟨g, 0, none⟩) recs.length c ∧ vals[k]? = some u ∧ W.cell? ⟨g, k, none⟩ = some u ∧ W.frozen? ⟨g, k, none⟩ = false ∧ Sl W (fun q => w0.heap.size ≤ q) 1 u recs[k].length (BVs recs[k]) := by
  obtain ⟨g, c, rfl, hb, hlt⟩ := h.row.form (by omega)
  obtain ⟨u, hu, hs⟩ := h.rest k hk (Nat.le_refl _)
  exact ⟨g, c, u, rfl, hu, by rw [h.row.cellAt k (by omega), hu], h.row.frozenAt k, hs⟩
theorem own_types {g c n : Nat} {xs : List Value} {t : TypeId} {base m : Nat} {u : Value} {ys : List Value} {t' : TypeId} (h : W.ownsRow base t 1 (.slice (some ⟨g, 0, none⟩) n c) n xs) (h' : W.ownsRow base t' 1 u m ys) (ht : t ≠ t') : u.ownBlock ≠ some g := by
  rcases h'.2 with ⟨rfl, _⟩ | ⟨g', cap', cur', rfl, _, hg', _⟩
  · simp [Value.ownBlock]
  · rcases h.2 with ⟨hn, _⟩ | ⟨g2, cap2, cur2, hv, _, hg2, _⟩
    · simp at hn
    · simp only [Value.slice.injEq, Option.some.injEq, Addr.mk.injEq, and_true] at hv
      obtain ⟨rfl, _⟩ := hv
      simp only [Value.ownBlock, ne_eq, Option.some.injEq]
      rintro rfl
      rw [hg2] at hg'
      simp only [Option.some.injEq, Obj.cells.injEq] at hg'
      exact ht hg'.2.1
theorem CL.step {g c : Nat} {u : Value} (h : CL w0 (.slice (some ⟨g, 0, none⟩) recs.length c) recs vals k W) (hk : k < recs.length) (hu : W.ownsRow w0.heap.size 5 1 u recs[k].length (BVs recs[k])) :
    CL w0 (.slice (some ⟨g, 0, none⟩) recs.length c) recs (vals.set k u) (k + 1) (W.setCell ⟨g, k, none⟩ u) := by
  have hst := h.row.stored k u
  have hvl : vals.length = recs.length := by have := h.row.1; omega
  have hgb : w0.heap.size ≤ g := by
    obtain ⟨g', c', hv, hb, _⟩ := h.row.form (by omega)
    simp only [Value.slice.injEq, Option.some.injEq, Addr.mk.injEq, and_true] at hv
    omega
  refine ⟨h.below.grown hst.2 h.below.size (fun q hq => by injection hq with hq; omega), hst.1, fun i hi hik => ?_, fun i hi hik => ?_⟩
  · by_cases he : i = k
    · subst he
      exact ⟨u, by rw [List.getElem?_set_self (by omega)], hu.kept hst.2 (by
        have := own_types h.row hu (by decide)
        first | exact this | (intro h1; exact this h1) | (cases hq : u.ownBlock <;> simp_all))⟩
    · obtain ⟨u', hu', ho⟩ := h.mine i hi (by omega)
      exact ⟨u', by rw [List.getElem?_set_ne (fun q => he q.symm)]; exact hu', ho.kept hst.2 (by
        have := own_types h.row ho (by decide)
        first | exact this | (intro h1; exact this h1) | (cases hq : u'.ownBlock <;> simp_all))⟩
  · obtain ⟨u', hu', ho⟩ := h.rest i hi (by omega)
    exact ⟨u', by rw [List.getElem?_set_ne (by omega)]; exact hu', ho.grown hst.2 (fun q hq _ => by injection hq with hq; show w0.heap.size ≤ q; omega)⟩
/-- A clone, and what is one's own of it. -/
def Cloned (w : World) (o : O) (e : Ending) (w' : World) : Prop := ∃ A c vals, e = .returned (OV o A c) ∧ CL w (.slice A o.recs.length c) o.recs vals o.recs.length w'
theorem CL.ls {A : Option Addr} {c : Nat} (h : CL w0 (.slice A recs.length c) recs vals recs.length W) : Ls W (fun q => q < w0.heap.size) (.slice A recs.length c) recs :=
  ⟨vals, Sl.of_own h.row (fun q h1 _ h2 => by omega), fun i hi => by
    obtain ⟨u, hu, ho⟩ := h.mine i hi hi
    exact ⟨u, hu, Sl.of_own ho (fun q h1 _ h2 => by omega)⟩⟩

theorem own_blk {g g' c n : Nat} {xs : List Value} {t t' : TypeId} {base : Nat} {cs : Array Value} (h : W.ownsRow base t 1 (.slice (some ⟨g, 0, none⟩) n c) n xs) (h' : Blk W g' t' cs) (ht : t ≠ t') : g' ≠ g := by
  rcases h.2 with ⟨hn, _⟩ | ⟨g2, cap2, cur2, hv, _, hg2, _⟩
  · simp at hn
  · simp only [Value.slice.injEq, Option.some.injEq, Addr.mk.injEq, and_true] at hv
    obtain ⟨rfl, _⟩ := hv
    rintro rfl
    have hb : W.heap[g']? = some (.cells cs t' (0, 0)) := h'
    rw [hg2] at hb
    simp only [Option.some.injEq, Obj.cells.injEq] at hb
    exact ht hb.2.1
/-- The operation's own copy. -/
structure SK (w0 : World) (o : O) (A : Option Addr) (c : Nat) (W : World) : Prop where
  below : Below w0.heap.size w0 W
  op : OB W w0.heap.size o A c
  res : Blk W (w0.heap.size + 1) 25 Z5
  ls : Ls W (fun k => w0.heap.size ≤ k) (.slice A o.recs.length c) o.recs
variable {o : O} {A : Option Addr} {c : Nat}
theorem SK.later (h : SK w0 o A c W) (hb : Below W.heap.size W W') : SK w0 o A c W' := ⟨h.below.trans (hb.mono h.below.size), Blk.below h.op hb (Blk.lt h.op), Blk.below h.res hb (Blk.lt h.res), h.ls.after hb⟩
theorem sk_new {X : Nat → Prop} (hls : Ls w0 X (.slice A o.recs.length c) o.recs) : SK w0 o A c ((w0.alloc (.cells (OC o A c) 25)).alloc (.cells Z5 25)) := by
  have hz : (w0.alloc (.cells (OC o A c) 25)).heap.size = w0.heap.size + 1 := by simp
  refine ⟨(al_below _ _).trans ((al_below _ _).mono (by omega)), Blk.below (Blk.new _ _ _) (al_below _ _) (by omega), by rw [← hz]; exact Blk.new _ _ _, ((hls.old' (Nat.le_refl _)).after (al_below _ _)).after (al_below _ _)⟩
theorem SK.put (h : SK w0 o A c W) (i : Nat) (u : Value) (hcs : (OC o A c).setIfInBounds i u = OC o A c) : SK w0 o A c (W.setCell ⟨w0.heap.size, i, none⟩ u) := by
  have n0 := h.below.size
  have cg : W.grownBy (W.setCell ⟨w0.heap.size, i, none⟩ u) (some w0.heap.size) := grown_setCell (World.grownBy.refl W (some w0.heap.size)) (p := ⟨w0.heap.size, i, none⟩) (.inl rfl) u
  refine ⟨h.below.grown cg n0 (fun q hq => by injection hq with hq; omega), ?_, Blk.grown h.res cg (by simp), h.ls.grown cg (fun q hq _ => by injection hq with hq; show w0.heap.size ≤ q; omega)⟩
  have := Blk.set_ h.op i u
  rw [hcs] at this
  exact this
/-- The copy, and the row of its records. -/
structure LP (w0 : World) (o : O) (A : Option Addr) (c : Nat) (vals : List Value) (k : Nat) (W : World) : Prop where
  op : OB W w0.heap.size o A c
  res : Blk W (w0.heap.size + 1) 25 Z5
  cl : CL w0 (.slice A o.recs.length c) o.recs vals k W
theorem LP.later (h : LP w0 o A c vals k W) (hb : Below W.heap.size W W') : LP w0 o A c vals k W' := ⟨Blk.below h.op hb (Blk.lt h.op), Blk.below h.res hb (Blk.lt h.res), h.cl.later hb⟩
theorem lp_start {A' : Option Addr} {c' : Nat} (h : SK w0 o A c W) (hrow : W'.ownsRow W.heap.size 112 1 (.slice A' o.recs.length c') o.recs.length vals) (hv : ∀ i (hi : i < o.recs.length), ∃ u, vals[i]? = some u ∧ Sl W (fun k => w0.heap.size ≤ k) 1 u o.recs[i].length (BVs o.recs[i])) (hb : Below W.heap.size W W') :
    LP w0 o A' c' vals 0 (W'.setCell ⟨w0.heap.size, 4, none⟩ (.slice A' o.recs.length c')) := by
  have n0 := h.below.size
  have h' := h.later hb
  have n1 := Blk.lt h.op
  have cg : W'.grownBy (W'.setCell ⟨w0.heap.size, 4, none⟩ (.slice A' o.recs.length c')) (some w0.heap.size) := grown_setCell (World.grownBy.refl W' (some w0.heap.size)) (p := ⟨w0.heap.size, 4, none⟩) (.inl rfl) _
  refine ⟨Blk.set_ h'.op 4 _, Blk.grown h'.res cg (by simp), h'.below.grown cg h'.below.size (fun q hq => by injection hq with hq; omega), own_base (ownsRow_setCell_below hrow (a := ⟨w0.heap.size, 4, none⟩) n1 _) n0, fun i hi hk => absurd hk (by omega), fun i hi _ => ?_⟩
  obtain ⟨u, hu, hs⟩ := hv i hi
  exact ⟨u, hu, (hs.after hb).grown cg (fun q hq _ => by injection hq with hq; show w0.heap.size ≤ q; omega)⟩
theorem LP.slot {g : Nat} (h : LP w0 o (some ⟨g, 0, none⟩) c vals k W) (hk : k < o.recs.length) : (∃ u, W.cell? ⟨g, k, none⟩ = some u) ∧ W.frozen? ⟨g, k, none⟩ = false := by
  obtain ⟨g', cc, u, hv, hu, hc, hf, hs⟩ := h.cl.at_ hk
  simp only [Value.slice.injEq, Option.some.injEq, Addr.mk.injEq, and_true, true_and] at hv
  obtain ⟨rfl, rfl⟩ := hv
  exact ⟨⟨u, hc⟩, hf⟩
theorem LP.step {g : Nat} {u : Value} (h : LP w0 o (some ⟨g, 0, none⟩) c vals k W) (hk : k < o.recs.length) (hu : W.ownsRow w0.heap.size 5 1 u o.recs[k].length (BVs o.recs[k])) :
    LP w0 o (some ⟨g, 0, none⟩) c (vals.set k u) (k + 1) (W.setCell ⟨g, k, none⟩ u) := by
  have hne := own_blk h.cl.row h.op (by decide)
  have hne2 := own_blk h.cl.row h.res (by decide)
  have cg : W.grownBy (W.setCell ⟨g, k, none⟩ u) (some g) := grown_setCell (World.grownBy.refl W (some g)) (p := ⟨g, k, none⟩) (.inl rfl) _
  exact ⟨Blk.grown h.op cg (by simp; exact hne), Blk.grown h.res cg (by simp; exact hne2), h.cl.step hk hu⟩

theorem own_blk' {g' n : Nat} {u : Value} {xs : List Value} {t t' : TypeId} {base : Nat} {cs : Array Value} (h : W.ownsRow base t 1 u n xs) (h' : Blk W g' t' cs) (ht : t ≠ t') : u.ownBlock ≠ some g' := by
  rcases h.2 with ⟨rfl, _⟩ | ⟨g2, cap2, cur2, rfl, _, hg2, _⟩
  · simp [Value.ownBlock]
  · simp only [Value.ownBlock, ne_eq, Option.some.injEq]
    rintro rfl
    have hb : W.heap[g2]? = some (.cells cs t' (0, 0)) := h'
    rw [hg2] at hb
    simp only [Option.some.injEq, Obj.cells.injEq] at hb
    exact ht hb.2.1
theorem LP.fin (h : LP w0 o A c vals o.recs.length W) (x0 x1 x2 x3 x4 : Value) :
    Cloned w0 o (.returned (.agg #[.int .i64 o.kind, .string ⟨o.topic.toArray⟩, .string ⟨o.group.toArray⟩, .int .i64 o.off, .slice A o.recs.length c])) (((((W.setCell ⟨w0.heap.size + 1, 0, none⟩ x0).setCell ⟨w0.heap.size + 1, 1, none⟩ x1).setCell ⟨w0.heap.size + 1, 2, none⟩ x2).setCell ⟨w0.heap.size + 1, 3, none⟩ x3).setCell ⟨w0.heap.size + 1, 4, none⟩ x4) := by
  have cg : W.grownBy (((((W.setCell ⟨w0.heap.size + 1, 0, none⟩ x0).setCell ⟨w0.heap.size + 1, 1, none⟩ x1).setCell ⟨w0.heap.size + 1, 2, none⟩ x2).setCell ⟨w0.heap.size + 1, 3, none⟩ x3).setCell ⟨w0.heap.size + 1, 4, none⟩ x4) (some (w0.heap.size + 1)) :=
    grown_setCell (grown_setCell (grown_setCell (grown_setCell (grown_setCell (World.grownBy.refl W (some (w0.heap.size + 1))) (p := ⟨w0.heap.size + 1, 0, none⟩) (.inl rfl) x0) (p := ⟨w0.heap.size + 1, 1, none⟩) (.inl rfl) x1) (p := ⟨w0.heap.size + 1, 2, none⟩) (.inl rfl) x2) (p := ⟨w0.heap.size + 1, 3, none⟩) (.inl rfl) x3) (p := ⟨w0.heap.size + 1, 4, none⟩) (.inl rfl) x4
  refine ⟨A, c, vals, rfl, h.cl.below.grown cg h.cl.below.size (fun q hq => by injection hq with hq; omega), h.cl.row.kept cg (by
        have := own_blk' h.cl.row h.res (by decide)
        first | exact this | (intro h1; exact this h1) | (cases hq : (Value.slice A o.recs.length c).ownBlock <;> simp_all)), fun i hi hk => ?_, fun i hi hk => absurd hi (by omega)⟩
  obtain ⟨u, hu, ho⟩ := h.cl.mine i hi hk
  exact ⟨u, hu, ho.kept cg (by
        have := own_blk' ho h.res (by decide)
        first | exact this | (intro h1; exact this h1) | (cases hq : u.ownBlock <;> simp_all))⟩

set_option maxRecDepth 100000 in
set_option maxHeartbeats 8000000 in
theorem clone_any (w : World) (o : O) (X : Nat → Prop) (A : Option Addr) (c : Nat) (hls : Ls w X (.slice A o.recs.length c) o.recs) (hlo : far o 140737488351232) :
    Calls Tryz.prog 82 #[OV o A c] w (Cloned w o) := by
  have HK0 := Lib.hid (sk_new hls)
  have HLO := Lib.hid hlo
  have LT : Hid (o.topic.length ≤ 140737488355328) := Lib.hid (by have := hlo.1; omega)
  have LG : Hid (o.group.length ≤ 140737488355328) := Lib.hid (by have := hlo.2.1; omega)
  have LR : Hid (o.recs.length * 24 ≤ 140737488355328) := Lib.hid (by have := hlo.2.2.1; omega)
  have LE : Hid (∀ i (hi : i < o.recs.length), o.recs[i].length ≤ 140737488355328) := Lib.hid (fun i hi => by have := hlo.2.2.2 _ (List.getElem_mem hi); omega)
  clear hls hlo
  have HS1 : Hid (∀ W : World, Calls Tryz.prog 109 #[.string ⟨o.topic.toArray⟩] W fun e w' => e = .returned (.string ⟨o.topic.toArray⟩) ∧ Below W.heap.size W w') := Lib.hid fun W => sclone_any o.topic W LT.out
  have HS2 : Hid (∀ W : World, Calls Tryz.prog 109 #[.string ⟨o.group.toArray⟩] W fun e w' => e = .returned (.string ⟨o.group.toArray⟩) ∧ Below W.heap.size W w') := Lib.hid fun W => sclone_any o.group W LG.out
  unfold OV
  unfold OC Z5 at HK0
  go_enter Tryz.func82, Tryz.ntmps82
  obtain ⟨a0, a1, a2, a3, a4⟩ := OB.cells' HK0.out.op
  go_wp2_with fail
  refine (HS1.out _).mono ?_
  rintro e w1 ⟨rfl, hb1⟩
  have HK1 := Lib.hid (HK0.out.later hb1)
  have HK1' := Lib.hid (HK1.out.put 1 (.string ⟨o.topic.toArray⟩) rfl)
  clear hb1 a0 a1 a2 a3 a4
  obtain ⟨a0, a1, a2, a3, a4⟩ := OB.cells' HK1.out.op
  have f1 := Blk.frozen HK1.out.op 1
  obtain ⟨b0, b1, b2, b3, b4⟩ := OB.cells' HK1'.out.op
  go_wp2_with fail
  refine (HS2.out _).mono ?_
  rintro e w2 ⟨rfl, hb2⟩
  have HK2 := Lib.hid (HK1'.out.later hb2)
  have HK2' := Lib.hid (HK2.out.put 2 (.string ⟨o.group.toArray⟩) rfl)
  clear hb2 a0 a1 a2 a3 a4 b0 b1 b2 b3 b4 f1
  obtain ⟨a0, a1, a2, a3, a4⟩ := OB.cells' HK2.out.op
  have f2 := Blk.frozen HK2.out.op 2
  obtain ⟨b0, b1, b2, b3, b4⟩ := OB.cells' HK2'.out.op
  have HRC := Lib.hid (rclone_any _ _ A c o.recs HK2'.out.ls LR.out)
  go_wp2_with fail
  refine HRC.out.mono ?_
  rintro e w3 ⟨v3, vals, rfl, hown3, hvs3, hb3⟩
  obtain ⟨A3, c3, rfl⟩ := own_shape hown3
  have HK3 := Lib.hid (HK2'.out.later hb3)
  have HL3 := Lib.hid (lp_start HK2'.out hown3 hvs3 hb3)
  clear hown3 hvs3 hb3 a0 a1 a2 a3 a4 b0 b1 b2 b3 b4 f2
  obtain ⟨a0, a1, a2, a3, a4⟩ := OB.cells' HK3.out.op
  have f4 := Blk.frozen HK3.out.op 4
  obtain ⟨b0, b1, b2, b3, b4⟩ := OB.cells' HL3.out.op
  go_wp2_with fail
  clear a0 a1 a2 a3 a4 b0 b1 b2 b3 b4 f4 HK3 HRC HK2' HK2 HK1' HK1 HK0 HS1 HS2
  have hnl : o.recs.length ≤ 140737488355328 := by have := LR.out; omega
  (try go_frame)
  go_loopw [20] (fun i wr => ∃ (k : Nat) (vs : List Value), k ≤ o.recs.length ∧ i = .int .i64 k ∧ LP w o A3 c3 vs k wr) (fun i _ => o.recs.length - (intOf i).toNat)
  case atStart => exact ⟨0, vals, Nat.zero_le _, rfl, HL3.out⟩
  case round =>
    obtain ⟨k, vs, hk, rfl, hl⟩ := hrel
    clear HL3
    by_cases hlt : k < o.recs.length
    · have HLT := Lib.hid hlt
      obtain ⟨g, cc, u, hv, hu, hc, hf, hs⟩ := hl.cl.at_ hlt
      simp only [Value.slice.injEq, true_and] at hv
      obtain ⟨rfl, rfl⟩ := hv
      have HLd := Lib.hid (hl.later (below_drewN (Below.refl _ _) 1))
      have HSd := Lib.hid (hs.after (below_drewN (Below.refl _ _) 1))
      have hle := LE.out k hlt
      have HLE := Lib.hid hle
      have q4 := (OB.cells' HLd.out.op).2.2.2.2
      obtain ⟨A5, d5, rfl, -⟩ := id hs
      clear hl hs hle hu
      go_wp2_with fail
      go_region_held3 (fun w' => w'.cell? ⟨w.heap.size, 4, none⟩ = some (.slice (some ⟨g, 0, none⟩) o.recs.length c3)) (first | exact q4 | exact j4 | exact n4)
        (first
        | (go_at_call 111; refine (Cd.clone_any _ _ _ o.recs[k] _ HSd.out HLE.out).mono ?_; rintro e w4 ⟨v4, rfl, hown4, hb4⟩; obtain ⟨A4, c4, rfl⟩ := own_shape hown4; have HL4 := Lib.hid (HLd.out.later hb4); have HO4 := Lib.hid (own_base hown4 HLd.out.cl.below.size); have j4 := (OB.cells' HL4.out.op).2.2.2.2; obtain ⟨⟨u4, hc4⟩, hf4⟩ := HL4.out.slot HLT.out; have HN := Lib.hid (HL4.out.step HLT.out HO4.out); have n4 := (OB.cells' HN.out.op).2.2.2.2; clear hown4 hb4))
      all_goals
        go_wp2_with fail
        go_roundw
      all_goals first
        | exact ⟨k + 1, _, by have := HLT.out; omega, by go_num, HN.out⟩
        | (simp [intOf]; omega)
    · have hke : k = o.recs.length := by omega
      subst hke
      have HL := Lib.hid hl
      obtain ⟨b0, b1, b2, b3, b4⟩ := OB.cells' hl.op
      obtain ⟨⟨r0, r1, r2, r3, r4⟩, ⟨q0, q1, q2, q3, q4⟩⟩ := Blk.cells5 hl.res
      clear hl
      go_wp2_with fail
      refine bodyPost_ret (results_row1 rfl _ _ (w.heap.size + 1) 25 #[.int .i64 o.kind, .string ⟨o.topic.toArray⟩, .string ⟨o.group.toArray⟩, .int .i64 o.off, .slice A3 o.recs.length c3] (0, 0) _ rfl (res_blk HL.out.res _ _ _ _ _) Tryz.underlying25 rfl size_op) rfl ?_
      exact HL.out.fin _ _ _ _ _
end Go.Proofs.YtebjjkhiniccgaaGreat.Qg

/-
  Contracts of the program's table that only read: made, Look, Len, Open.
-/
namespace Go.Proofs.YtebjjkhiniccgaaGreat.Ia
set_option linter.unusedSimpArgs false
set_option linter.unusedVariables false
set_option maxRecDepth 100000
open Go Go.RowKit Ck Im Kw Ik

theorem made_yes (w : World) (S : Nat → Prop) (p : Nat) (L : List Tx) (h : Tb w S p L) :
    Calls Tryz.prog 81 #[.pointer (some ⟨p, 0, none⟩)] w fun e w' => e = .returned (.bool true) ∧ w = w' := by
  obtain ⟨m, tv, D, h1, -⟩ := h
  have c0 : w.cell? ⟨p, 0, none⟩ = some (.map (some m)) := h1.cell 0
  have hq := fun W => run_neq_map_nil (P := Tryz.prog) W 117 9 45 (some m) Tryz.underlying117
  clear h1
  go_enter Tryz.func81, Tryz.ntmps81
  go_wp2
  go_ret
  exact ⟨rfl, rfl⟩
theorem len_yes (w : World) (S : Nat → Prop) (p : Nat) (L : List Tx) (h : Tb w S p L) :
    Calls Tryz.prog 75 #[.pointer (some ⟨p, 0, none⟩)] w fun e w' => e = .returned (.int .i64 L.length) ∧ w = w' := by
  have hm := made_yes w S p L h
  obtain ⟨m, tv, D, h1, -, -, hown, -⟩ := h
  obtain ⟨A, c, rfl⟩ := own_shape hown
  have c1 : w.cell? ⟨p, 1, none⟩ = some (.slice A L.length c) := h1.cell 1
  have HM := Lib.hid hm
  clear h1 hm hown
  go_enter Tryz.func75, Tryz.ntmps75
  go_wp2_with (go_at_call 81; refine HM.out.mono ?_; rintro e w' ⟨rfl, rfl⟩)
  go_ret
  exact ⟨rfl, rfl⟩
theorem law_str : Maps.Keyed Tryz.prog 9 := Maps.string_keyed Tryz.underlying9
theorem zero_digest (w : World) : (zeroValue 45).run Tryz.prog w = .ok (.int .i64 0) w := by kernel_rfl

/-- The map's look-up, in the document's words. -/
theorem run_look {w : World} {m n : Nat} {D : DataW Unit} {L : List Tx} (h : w.ownsMap Tryz.prog 9 (plainElem Tryz.prog 45) m n D) (hN : Nums D L) (s : Tx) (hs : s.length ≤ maxLen) :
    (Instr.lookup 117 (.map (some m)) (.string ⟨s.toArray⟩) true).run Tryz.prog w = .ok (.tuple #[.int .i64 (num L s : Int), .bool (isIn L s)]) w := by
  obtain ⟨v, ps, hrun, hv⟩ := h.look_ok law_str Tryz.underlying117 (zero_digest w) (zd := .lit (.int .i64 0)) (zp := []) (plainElem_int Tryz.underlying45 (by decide)) (key := .string ⟨s.toArray⟩) (kl := .string s)
    (by have := _root_.Go.WideMaps.keyOf_string_mk (P := Tryz.prog) Tryz.underlying9 (s := ⟨s.toArray⟩) (show s.toArray.size ≤ maxLen by simpa using hs); simpa using this)
  rw [(hN s).2] at hv
  obtain ⟨c, rfl, hc, _⟩ := plainElem_int_inv Tryz.underlying45 hv
  have hc : (DataW.lit (.int .i64 (num L s : Int)) : DataW Unit) = .lit (.int .i64 c) := congrArg Prod.fst hc
  injection hc with hc
  injection hc with _ hc
  rw [hrun, (hN s).1, hc]

set_option maxHeartbeats 400000 in
theorem look_yes (w : World) (S X : Nat → Prop) (p : Nat) (L : List Tx) (A : Option Addr) (c : Nat) (b : Tx) (h : Tb w S p L) (hb : Sl w X 1 (.slice A b.length c) b.length (BVs b)) (hl : b.length ≤ 140737488355328) :
    Calls Tryz.prog 54 #[.pointer (some ⟨p, 0, none⟩), .slice A b.length c] w fun e w' => e = .returned (.tuple #[.int .i64 (num L b : Int), .bool (isIn L b)]) ∧ ∃ n, w' = w.drewN n := by
  have hm := made_yes w S p L h
  obtain ⟨m, tv, D, h1, hown, hN, -⟩ := h
  have c0 : w.cell? ⟨p, 0, none⟩ = some (.map (some m)) := h1.cell 0
  have e1 := fun nq : Nat => run_convert_sl (P := Tryz.prog) (w.drewN nq) X 22 9 5 A c b Tryz.underlying22 Tryz.underlying5 Tryz.underlying9 (hb.drewN nq)
  have e2 := fun nq : Nat => run_look (w := w.drewN nq) (hown : (w.drewN nq).ownsMap _ _ _ _ _ _) hN b (by simp only [maxLen]; omega)
  have HM := Lib.hid hm
  clear h1 hm hown hN
  go_enter Tryz.func54, Tryz.ntmps54
  go_wp2_with (go_at_call 81; refine HM.out.mono ?_; rintro e w' ⟨rfl, rfl⟩)
  go_quiet (fail)
  go_wp2
  go_ret2
  exact ⟨rfl, _, rfl⟩
end Go.Proofs.YtebjjkhiniccgaaGreat.Ia

/-
  Contracts of the program's table that make memory: Open, roomyTable, NewTable, Sum.
-/
namespace Go.Proofs.YtebjjkhiniccgaaGreat.Ib
set_option linter.unusedSimpArgs false
set_option linter.unusedVariables false
set_option maxRecDepth 100000
open Go Go.RowKit Ck Im Kw Ik Ia

theorem info_u8 : (Tryz.prog.info? 5).map (fun i => (i.zero, i.size, i.bytes)) = some (some (.int .u8 0), 1, 1) := by kernel_rfl
theorem info_str : (Tryz.prog.info? 9).map (fun i => (i.zero, i.size, i.bytes)) = some (some (.string ⟨#[]⟩), 1, 16) := by kernel_rfl
theorem info_sl : (Tryz.prog.info? 22).map (fun i => (i.zero, i.size, i.bytes)) = some (some (.slice none 0 0), 1, 24) := by kernel_rfl

/-- v is new bytes, made out of a text. -/
def Out (w : World) (base : Nat) (v : Value) (l : Tx) : Prop :=
  ∃ (g cap : Nat) (cs : Array Value) (z : Nat), v = .slice (some ⟨g, 0, none⟩) l.length cap ∧ base ≤ g ∧ w.heap[g]? = some (.cells cs 5 (z, z + 1)) ∧ l.length ≤ z ∧ l.length ≤ cap ∧ cap ≤ maxLen ∧ ∀ (j : Nat) (u : Value), (BVs l)[j]? = some u → cs[j]? = some u
theorem Out.sl {w : World} {base : Nat} {v : Value} {l : Tx} {X : Nat → Prop} (h : Out w base v l) (hX : ∀ k, base ≤ k → k < w.heap.size → ¬ X k) : Sl w X 1 v l.length (BVs l) := by
  obtain ⟨g, cap, cs, z, rfl, hb, hg, hz, hc, hm, hx⟩ := h
  have hlt := (Array.getElem?_eq_some_iff.1 hg).1
  refine ⟨_, _, rfl, by simp [BVs_len], hc, hm, fun _ => ⟨_, rfl, hlt, hX g hb hlt, fun j u hu => ?_⟩⟩
  have ha : (⟨g, 0, none⟩ : Addr).add j = ⟨g, j, none⟩ := by unfold Addr.add; split <;> simp_all
  rw [ha]
  simp only [World.cell?, hg]
  exact hx j u hu
theorem Out.ch {w w' : World} {base : Nat} {v : Value} {l : Tx} {S : Nat → Prop} (h : Out w base v l) (c : Ch S w w') (hS : ∀ k, base ≤ k → k < w.heap.size → ¬ S k) : Out w' base v l := by
  obtain ⟨g, cap, cs, z, rfl, hb, hg, r⟩ := h
  exact ⟨g, cap, cs, z, rfl, hb, (c.block g (Array.getElem?_eq_some_iff.1 hg).1 (hS g hb (Array.getElem?_eq_some_iff.1 hg).1)).trans hg, r⟩
theorem Out.base {w : World} {base b' : Nat} {v : Value} {l : Tx} (h : Out w base v l) (hb : b' ≤ base) : Out w b' v l := by
  obtain ⟨g, cap, cs, z, hv, h1, r⟩ := h
  exact ⟨g, cap, cs, z, hv, Nat.le_trans hb h1, r⟩
theorem bytesWorld_below (w : World) (e : TypeId) (s : ByteArray) : Below w.heap.size w (Lib.bytesWorld w e s) := by
  refine ⟨?_, ?_, ?_, by rw [Lib.bytesWorld_size]; omega, fun k hk => Lib.bytesWorld_at_old w e s k hk⟩ <;>
    (unfold Lib.bytesWorld World.freeze; split <;> rfl)
theorem bytesWorld_out (w : World) (l : Tx) (hl : l.length ≤ 140737488355328) : Out (Lib.bytesWorld w 5 ⟨l.toArray⟩) w.heap.size (.slice (some ⟨w.heap.size, 0, none⟩) l.length (grownCap w l.length 0 5)) l := by
  have hge := grownCap_ge w l.length 0 5
  refine ⟨w.heap.size, _, _, _, rfl, Nat.le_refl _, Lib.bytesWorld_at_new w 5 ⟨l.toArray⟩, ?_, hge, grownCap_le_maxLen w _ _ _ (by simp only [maxLen]; omega), fun j u hu => ?_⟩
  · show l.length ≤ ((l.toArray.map fun b : UInt8 => Value.int .u8 b.toNat) ++ Array.replicate _ _).size
    simp
  · have hj : j < l.length := by have := (List.getElem?_eq_some_iff.1 hu).1; rwa [BVs_len] at this
    show ((l.toArray.map fun b : UInt8 => Value.int .u8 b.toNat) ++ Array.replicate _ _)[j]? = some u
    rw [Array.getElem?_append_left (by simpa using hj)]
    rw [BVs_get hj] at hu
    simpa [hj] using hu

theorem three (w : World) (a b c : Obj) : (((w.alloc a).alloc b).alloc c).heap[w.heap.size]? = some a ∧ (((w.alloc a).alloc b).alloc c).heap[w.heap.size + 1]? = some b ∧ (((w.alloc a).alloc b).alloc c).heap[w.heap.size + 1 + 1]? = some c := by
  refine ⟨?_, ?_, ?_⟩
  · rw [Below.heap_alloc _ _ _ (by simp; omega), Below.heap_alloc _ _ _ (by simp)]
    exact heap_alloc_new w a
  · rw [Below.heap_alloc _ _ _ (by simp)]
    have := heap_alloc_new (w.alloc a) b
    simpa using this
  · have := heap_alloc_new ((w.alloc a).alloc b) c
    simpa using this
theorem three_below (w : World) (a b c : Obj) : Below w.heap.size w (((w.alloc a).alloc b).alloc c) := (((Below.refl _ w).alloc (Nat.le_refl _) _).alloc (by simp) _).alloc (by simp; omega) _
theorem tb_new {w : World} {S : Nat → Prop} {p m g n : Nat} {cs : Array Value} (h1 : Blk w p 120 #[.map (some m), .slice (some ⟨g, 0, none⟩) 0 n]) (h2 : w.heap[m]? = some (.map #[] 0))
    (h3 : w.heap[g]? = some (.cells cs 9 (0, 0))) (hs : cs.size = n) (hn : n ≤ maxLen) (sp : S p) (sm : S m) (sg : S g) : Tb w S p [] := by
  refine ⟨m, _, .map [], h1, ⟨#[], 0, h2, ⟨by simp, MapKept.stamped_empty 0, by simp⟩, Nat.le_refl _, rfl⟩, Nums.empty, ⟨rfl, .inr ⟨g, n, cs, rfl, Nat.zero_le _, h3, Nat.zero_le _, hn, by omega, by simp⟩⟩, sp, sm, ?_, by simp, by simp⟩
  intro k hk
  have hk : g = k := by simpa [Value.ownBlock] using hk
  subst hk
  exact sg

set_option maxHeartbeats 400000 in
theorem roomy_any (w : World) (n : Nat) (hn : n ≤ 1048576) :
    Calls Tryz.prog 42 #[.int .i64 n] w fun e w' => ∃ p, e = .returned (.pointer (some ⟨p, 0, none⟩)) ∧ Tb w' (New w w') p [] ∧ Below w.heap.size w w' := by
  have hmm : ∀ W : World, (Instr.makeMap 117 (some (.int .i64 (n : Int)))).run Tryz.prog W = .ok (.map (some W.heap.size)) (W.alloc (.map #[] 0)) := fun W => by
    simp [Instr.makeMap, run_underlying Tryz.underlying117, asInt, asIntOf]
  obtain ⟨i0, hi0, hz0, hz1, hz2⟩ := info_parts info_str
  have hms : ∀ W : World, (Instr.makeSlice 118 (.int .i64 0) (.int .i64 (n : Int))).run Tryz.prog W = .ok (.slice (some ⟨W.heap.size, 0, none⟩) 0 n) (W.alloc (.cells (madeCells (Value.string ⟨#[]⟩).cells n) 9)) := fun W => by
    have := run_make (P := Tryz.prog) W 118 9 i0 _ Tryz.underlying118 hi0 hz0 .i64 .i64 0 n (by omega) (by omega) (by rw [hz2]; omega) (by omega)
    rw [hz1] at this
    simpa using this
  clear hi0 hz0 hz1 hz2
  go_enter Tryz.func42, Tryz.ntmps42
  go_wp2
  go_region
  all_goals
    go_wp2
    go_ret
    refine ⟨_, rfl, ?_, below_drewN (three_below w _ _ _) 1⟩
    first
    | exact tb_new (m := w.heap.size) (g := w.heap.size + 1) (three w _ _ _).2.2 (three w _ _ _).1 (three w _ _ _).2.1 (size_madeCells _ _) (by simp only [maxLen]; omega) ⟨by omega, by simp; try omega⟩ ⟨by omega, by simp; try omega⟩ ⟨by omega, by simp; try omega⟩
    | exact tb_new (m := w.heap.size + 1) (g := w.heap.size) (three w _ _ _).2.2 (three w _ _ _).2.1 (three w _ _ _).1 (size_madeCells _ _) (by simp only [maxLen]; omega) ⟨by omega, by simp; try omega⟩ ⟨by omega, by simp; try omega⟩ ⟨by omega, by simp; try omega⟩

theorem newtable_any (w : World) :
    Calls Tryz.prog 17 #[] w fun e w' => ∃ p, e = .returned (.pointer (some ⟨p, 0, none⟩)) ∧ Tb w' (New w w') p [] ∧ Below w.heap.size w w' := by
  go_enter Tryz.func17, Tryz.ntmps17
  go_wp2_with (go_at_call 42; refine (roomy_any _ 0 (by omega)).mono ?_; rintro e w' ⟨p, rfl, h1, h2⟩)
  go_ret
  exact ⟨_, rfl, h1, h2⟩

theorem one_sv (w : World) (X : Nat → Prop) (t : TypeId) (u : Value) (hX : ¬ X w.heap.size) : Sl (w.alloc (.cells #[u] t)) X 1 (.slice (some ⟨w.heap.size, 0, none⟩) 1 1) 1 [u] :=
  ⟨_, _, rfl, rfl, Nat.le_refl _, by simp only [maxLen]; omega, fun _ => ⟨_, rfl, by simp, hX, fun j x hx => by
    have ha : (⟨w.heap.size, 0, none⟩ : Addr).add j = ⟨w.heap.size, j, none⟩ := by unfold Addr.add; split <;> simp_all
    rw [ha, Blk.cell (Blk.new w t _) j]
    simpa using hx⟩⟩
theorem svs_one (l : List Tx) : ∀ u ∈ l.map SV, u.oneCell' = true := by
  intro u hu
  simp only [List.mem_map] at hu
  obtain ⟨c, _, rfl⟩ := hu
  rfl

/-- What Sum leaves of the program's table. -/
def Summed (S : Nat → Prop) (p : Nat) (L : List Tx) (b : Tx) (w : World) (e : Ending) (w' : World) : Prop :=
  e = .returned (.int .i64 (sum L b : Int)) ∧ Tb w' (Up S w w') p (add L b) ∧ Ch S w w'

/-- The table's parts, for the walk. -/
def Parts (w : World) (S : Nat → Prop) (p m : Nat) (tv : Value) (D : DataW Unit) (L : List Tx) : Prop :=
  Blk w p 120 #[.map (some m), tv] ∧ w.ownsMap Tryz.prog 9 (plainElem Tryz.prog 45) m L.length D ∧ Nums D L ∧ w.ownsRow 0 9 1 tv L.length (L.map SV) ∧
    S p ∧ S m ∧ (∀ g, tv.ownBlock = some g → S g) ∧ ∀ l ∈ L, l.length ≤ 140737488355328
theorem tb_snoc {w w1 w2 : World} {S : Nat → Prop} {n p m : Nat} {tv tv1 : Value} {D : DataW Unit} {L : List Tx} {b : Tx} {o : Obj} (h : Parts (w.drewN n) S p m tv D L) (hk : num L b = 0) (hl : (L.length : Int) < 1048576) (hb : b.length ≤ 140737488355328)
    (happ : Appended ((w.drewN n).alloc o) 0 9 1 tv (L.length + 1) (L.map SV ++ [SV b]) tv1 w1)
    (hmap2 : w2.ownsMap Tryz.prog 9 (plainElem Tryz.prog 45) m (L.length + 1) (D.put (.string b) (.lit (.int .i64 ((L.length : Int) + 1)))))
    (hg2 : (w1.setCell ⟨p, 1, none⟩ tv1).grownBy w2 (some m)) : Tb w2 (Up S w w2) p (L ++ [b]) := by
  obtain ⟨h1, hmap, hN, hown, hp, hm, hg, hall⟩ := h
  have k0 := (h1.alloc o).grown happ.2.1 (Ne.symm (own_far hown h1 (by decide)))
  have hpm : m ≠ p := map_far hmap h1
  have hm1 := (hmap.alloc o).kept happ.2.1 (Ne.symm (map_row hmap hown))
  have c2 : Ch (fun k => k = p ∨ k = m) w1 w2 := ((Ch.refl _ w1).setCell (p := ⟨p, 1, none⟩) (fun _ => .inl rfl) tv1).trans (Ch.of_grown hg2 (S := fun k => k = m) (fun g hg _ => by injection hg with hg; exact hg.symm)) (fun _ _ h => .inr h)
  refine ⟨m, tv1, _, ?_, ?_, hN.put hmap.isMap (strKey b) hk, ?_, .inl hp, .inl hm, ?_, ?_, ?_⟩
  · exact (k0.set_ 1 tv1).grown hg2 (by simp; exact fun e => hpm e.symm)
  · rw [List.length_append]; exact hmap2
  · rw [List.length_append, List.map_append]
    refine own_ch happ.1 c2 (fun g hg' => ?_)
    rintro (rfl | rfl)
    · exact own_far happ.1 k0 (by decide) hg'
    · exact map_row hm1 happ.1 hg'
  · intro g hg'
    rcases happ.2.2 with h2 | h2
    · exact .inl (hg g (by rw [← h2]; exact hg'))
    · refine .inr ⟨?_, Nat.lt_of_lt_of_le (happ.1.lt g hg').2 c2.size⟩
      rw [h2] at hg'
      injection hg' with hg'
      subst hg'
      simp
  · intro l hl2
    rcases List.mem_append.1 hl2 with h2 | h2
    · exact hall l h2
    · simp only [List.mem_cons, List.not_mem_nil, or_false] at h2
      subst h2; exact hb
  · simp only [List.length_append, List.length_cons, List.length_nil]; omega
theorem ch_snoc {w w1 w2 : World} {S : Nat → Prop} {n p m : Nat} {tv tv1 : Value} {D : DataW Unit} {L : List Tx} {xs : List Value} {o : Obj} {k : Nat} (h : Parts (w.drewN n) S p m tv D L)
    (happ : Appended ((w.drewN n).alloc o) 0 9 1 tv k xs tv1 w1) (hg2 : (w1.setCell ⟨p, 1, none⟩ tv1).grownBy w2 (some m)) : Ch S w w2 := by
  obtain ⟨h1, hmap, hN, hown, hp, hm, hg, hall⟩ := h
  refine ((((Ch.refl S w).drewN n).alloc o).trans (Ch.of_grown happ.2.1 (S := S) (fun g hg' _ => hg g hg')) (fun _ _ h => h)).setCell (p := ⟨p, 1, none⟩) (fun _ => hp) tv1 |>.trans (Ch.of_grown hg2 (S := S) (fun g hg' _ => ?_)) (fun _ _ h => h)
  injection hg' with hg'
  subst hg'
  exact hm
theorem key_str (b : Tx) (hb : b.length ≤ maxLen) : keyOf Tryz.prog 9 (.string ⟨b.toArray⟩) = some (.string b) := by
  have := _root_.Go.WideMaps.keyOf_string_mk (P := Tryz.prog) Tryz.underlying9 (s := ⟨b.toArray⟩) (show b.toArray.size ≤ maxLen by simpa using hb)
  simpa using this

set_option maxRecDepth 100000 in
set_option maxHeartbeats 1000000 in
theorem sum_yes (w : World) (S X : Nat → Prop) (p : Nat) (L : List Tx) (A : Option Addr) (c : Nat) (b : Tx) (h : Tb w S p L) (hb : Sl w X 1 (.slice A b.length c) b.length (BVs b)) (hl : b.length ≤ 140737488355328) :
    Calls Tryz.prog 48 #[.pointer (some ⟨p, 0, none⟩), .slice A b.length c] w (Summed S p L b w) := by
  have HL := Lib.hid (look_yes w S X p L A c b h hb hl)
  have HM := fun n => made_yes (w.drewN n) S p L (h.drewN n)
  have HM := Lib.hid HM
  by_cases hk : num L b = 0
  · have hin := isIn_false hk
    obtain ⟨m, tv, D, h1, hmap, hN, hown, hp, hm, hg, hall, hL⟩ := h
    obtain ⟨A', c', rfl⟩ := own_shape hown
    by_cases hf : 1048576 ≤ L.length
    · obtain ⟨ha, hs⟩ := add_full hk hf
      have c1 : ∀ n, (w.drewN n).cell? ⟨p, 1, none⟩ = some (.slice A' L.length c') := fun _ => h1.cell 1
      have hT : Tb w S p L := ⟨m, _, D, h1, hmap, hN, hown, hp, hm, hg, hall, hL⟩
      have HT := Lib.hid hT
      have HA := Lib.hid ha
      have HS := Lib.hid hs
      have hk0 : (num L b : Int) = 0 := by omega
      have hf' : decide ((1048576 : Int) ≤ (L.length : Int)) = true := by rw [decide_eq_true_eq]; omega
      clear h1 hmap hN hown hp hm hg hall ha hs hT hk hf hL hl hb
      go_enter Tryz.func48, Tryz.ntmps48
      go_wp2_with (first
        | (go_at_call 54; refine HL.out.mono ?_; rintro e w' ⟨rfl, n, rfl⟩)
        | (go_at_call 81; refine (HM.out _).mono ?_; rintro e w' ⟨rfl, rfl⟩))
      go_ret
      refine ⟨by rw [HS.out]; rfl, ?_, (Ch.refl S w).drewN _⟩
      rw [HA.out]
      exact (HT.out.drewN _).weaken (fun k hk => .inl hk)
    · obtain ⟨ha, hs⟩ := add_new hk hf
      have HA := Lib.hid ha
      have HS := Lib.hid hs
      have e1 := fun n : Nat => run_convert_sl (P := Tryz.prog) (w.drewN n) X 22 9 5 A c b Tryz.underlying22 Tryz.underlying5 Tryz.underlying9 (hb.drewN n)
      have HH : Hid (∀ n, Parts (w.drewN n) S p m (.slice A' L.length c') D L) := Lib.hid fun n => ⟨h1, hmap, hN, hown, hp, hm, hg, hall⟩
      have hf' : decide ((1048576 : Int) ≤ (L.length : Int)) = false := by rw [decide_eq_false_iff_not]; omega
      have hlt : L.length ≤ 2000000 := by omega
      have HK := Lib.hid hk
      have HB := Lib.hid hl
      have HK2 : Hid (keyOf Tryz.prog 9 (.string ⟨b.toArray⟩) = some (.string b)) := Lib.hid (key_str b (by simp only [maxLen]; omega))
      have c1 : ∀ n, (w.drewN n).cell? ⟨p, 1, none⟩ = some (.slice A' L.length c') := fun _ => h1.cell 1
      obtain ⟨i0, hi0, hz0, hz1, hz2⟩ := info_parts info_str
      have hk0 : (num L b : Int) = 0 := by omega
      clear ha hs hk hf h1 hmap hN hown hp hm hg hall hL hl hb
      go_enter Tryz.func48, Tryz.ntmps48
      go_wp2_with (first
        | (go_at_call 54; refine HL.out.mono ?_; rintro e w' ⟨rfl, n, rfl⟩)
        | (go_at_call 81; refine (HM.out _).mono ?_; rintro e w' ⟨rfl, rfl⟩)
        | (at_builtin; refine wpList_append_sh _ rfl (.tmp 41) (.tmp 43) _ rfl 0 9 i0 _ 1 16 Tryz.underlying118 hi0 hz0 hz1 hz2 rfl (by omega) (.slice A' L.length c') L.length (L.map SV) rfl ((HH.out n).2.2.2.1.alloc _) (fun _ => False) _ 1 [SV b] rfl (one_sv (w.drewN n) _ _ _ (fun h => h)) (svs_one [b]) (by simp only [maxLen]; omega) (by omega) (Nat.zero_le _) ?_; intro A1 d1 w1 happ; have k0 := ((HH.out n).1.alloc (.cells #[SV b] 9)).grown happ.2.1 (Ne.symm (own_far (HH.out n).2.2.2.1 (HH.out n).1 (by decide))); have k1 := k0.cell 1; have k2 := k0.frozen 1; have k3 := k0.cell 0; simp only [List.getElem?_toArray, List.getElem?_cons_zero, List.getElem?_cons_succ] at k1 k3)
        | (at_mapUpdate; refine wpList_mapUpdate_own (H := Unit) _ rfl _ _ _ 117 rfl 9 45 law_str Tryz.underlying117 (plainElem Tryz.prog 45) m L.length D rfl ((((HH.out n).2.1.alloc _).kept happ.2.1 (Ne.symm (map_row (HH.out n).2.1 (HH.out n).2.2.2.1))).setCell (map_far (HH.out n).2.1 (HH.out n).1) _) (by simp only [maxLen]; omega) _ _ (.string b) rfl rfl HK2.out (.lit (.int .i64 ((L.length : Int) + 1))) [] (plainElem_int Tryz.underlying45 (WalkArith.wf_i64 (by omega))) ?_; intro w2 hmap2 hgrow2))
      go_ret
      refine ⟨by rw [HS.out]; rfl, ?_, ?_⟩
      · rw [HA.out]
        exact tb_snoc (HH.out n) HK.out (by rw [decide_eq_false_iff_not] at hf'; omega) HB.out happ hmap2 hgrow2
      · exact ch_snoc (HH.out n) happ hgrow2
  · have hin := isIn_true hk
    obtain ⟨ha, hs⟩ := add_known hk
    have HT := Lib.hid h
    have HA := Lib.hid ha
    have HS := Lib.hid hs
    clear h ha hs
    go_enter Tryz.func48, Tryz.ntmps48
    go_wp2_with (go_at_call 54; refine HL.out.mono ?_; rintro e w' ⟨rfl, n, rfl⟩)
    go_ret
    refine ⟨by rw [HS.out]; rfl, ?_, (Ch.refl S w).drewN _⟩
    rw [HA.out]
    exact (HT.out.drewN _).weaken (fun k hk => .inl hk)

end Go.Proofs.YtebjjkhiniccgaaGreat.Ib

/-
  Contracts of slices.Clone at three types, of maps.Clone at two.
-/
namespace Go.Proofs.YtebjjkhiniccgaaGreat.Ic
set_option linter.unusedSimpArgs false
set_option linter.unusedVariables false
set_option maxRecDepth 100000
open Go Go.RowKit Ck Im Kw Ik Ia Ib

theorem info_sign : (Tryz.prog.info? 47).map (fun i => (i.zero, i.size, i.bytes)) = some (some (.agg #[.int .i64 0, .int .i64 0]), 2, 16) := by kernel_rfl

set_option maxHeartbeats 400000 in
theorem clone_strs (X : Nat → Prop) (v : Value) (n : Nat) (xs : List Value) (w : World) (hv : Sl w X 1 v n xs) (h1 : ∀ u ∈ xs, u.oneCell' = true) (hn : n * 16 ≤ 140737488355328) :
    Calls Tryz.prog 106 #[v] w fun e w' => ∃ A c, e = .returned (.slice A n c) ∧ w'.ownsRow w.heap.size 9 1 (.slice A n c) n xs ∧ Below w.heap.size w w' := by
  obtain ⟨i0, hi0, hz0, hz1, hz2⟩ := info_parts info_str
  have hv' := hv
  obtain ⟨A, c, rfl, hxl, -⟩ := hv'
  have heq := fun (W : World) => Lib.run_eql_slice_nil (P := Tryz.prog) W 118 9 A n c 0 0 Tryz.underlying118
  rcases A with _ | ad
  · obtain ⟨h0, rfl⟩ := hv.none_
    subst h0
    clear hv h1 hxl
    go_enter Tryz.func106, Tryz.ntmps106
    go_wp2
    go_ret
    exact ⟨_, _, rfl, World.ownsRow_nil _ _ _ _, Below.refl _ _⟩
  · have HX := Lib.hid hxl
    clear hxl
    go_enter Tryz.func106, Tryz.ntmps106
    go_wp2_with (at_builtin; refine wpList_append_sh _ rfl (.tmp 5) (.tmp 6) _ rfl w.heap.size 9 i0 _ 1 16 Tryz.underlying118 hi0 hz0 hz1 hz2 rfl (by omega) (.slice (some ⟨w.heap.size, 0, none⟩) 0 0) 0 [] rfl (World.ownsRow_made w #[] 0 (Nat.le_refl _) (by simp only [maxLen]; omega) rfl) X _ n xs rfl (hv.alloc _) h1 (by simp only [maxLen]; omega) (by omega) (by simp) ?_; intro A2 c2 w2 happ)
    go_ret
    obtain ⟨ho, hg, hr⟩ := happ
    rw [Nat.zero_add] at hr
    refine ⟨A2, c2, by simp, by simpa using ho, ?_⟩
    exact ((Below.refl _ _).alloc (Nat.le_refl _) _).grown hg (by simp) (by simp [Value.ownBlock])

set_option maxHeartbeats 400000 in
theorem clone_signs (X : Nat → Prop) (v : Value) (n : Nat) (xs : List Value) (w : World) (hv : Sl w X 2 v n xs) (h1 : ∀ u ∈ xs, u.oneCell' = true) (hn : n * 16 ≤ 140737488355328) :
    Calls Tryz.prog 108 #[v] w fun e w' => ∃ A c, e = .returned (.slice A n c) ∧ w'.ownsRow w.heap.size 47 2 (.slice A n c) n xs ∧ Below w.heap.size w w' := by
  obtain ⟨i0, hi0, hz0, hz1, hz2⟩ := info_parts info_sign
  have hv' := hv
  obtain ⟨A, c, rfl, hxl, -⟩ := hv'
  have heq := fun (W : World) => Lib.run_eql_slice_nil (P := Tryz.prog) W 63 47 A n c 0 0 Tryz.underlying63
  rcases A with _ | ad
  · obtain ⟨h0, rfl⟩ := hv.none_
    subst h0
    clear hv h1 hxl
    go_enter Tryz.func108, Tryz.ntmps108
    go_wp2
    go_ret
    exact ⟨_, _, rfl, World.ownsRow_nil _ _ _ _, Below.refl _ _⟩
  · have HX := Lib.hid hxl
    clear hxl
    go_enter Tryz.func108, Tryz.ntmps108
    go_wp2_with (at_builtin; refine wpList_append_sh _ rfl (.tmp 5) (.tmp 6) _ rfl w.heap.size 47 i0 _ 2 16 Tryz.underlying63 hi0 hz0 hz1 hz2 rfl (by omega) (.slice (some ⟨w.heap.size, 0, none⟩) 0 0) 0 [] rfl (World.ownsRow_made w #[] 0 (Nat.le_refl _) (by simp only [maxLen]; omega) rfl) X _ n xs rfl (hv.alloc _) h1 (by simp only [maxLen]; omega) (by omega) (by simp) ?_; intro A2 c2 w2 happ)
    go_ret
    obtain ⟨ho, hg, hr⟩ := happ
    rw [Nat.zero_add] at hr
    refine ⟨A2, c2, by simp, by simpa using ho, ?_⟩
    exact ((Below.refl _ _).alloc (Nat.le_refl _) _).grown hg (by simp) (by simp [Value.ownBlock])

set_option maxHeartbeats 400000 in
set_option maxRecDepth 100000 in
theorem mclone_strs (w : World) (b : Nat) (es : Array MapEntry) (clock : Nat) (hb : w.heap[b]? = some (.map es clock)) :
    Calls Tryz.prog 105 #[.map (some b)] w fun e w' => e = .returned (.map (some w.heap.size)) ∧ w.alloc (.map es clock) = w' := by
  have hq := fun W => run_eql_map_nil_sl (P := Tryz.prog) W 117 _ _ (some b) Tryz.underlying117
  have HB := Lib.hid hb
  clear hb
  go_enter Tryz.func105, Tryz.ntmps105
  go_wp2
  rw [run_callFunc_extern Tryz.func123 (by kernel_rfl) (by kernel_rfl) (by kernel_rfl) (e := Extern.MapsClone.clone) (by kernel_rfl), run_maps_clone_sl w 117 HB.out]
  simp only [Result.andThen]
  rw [Oper.upon_value]
  go_wp2
  rw [run_typeAssert_map_sl _ 117 20 _ _ _ Tryz.underlying117]
  simp only [Result.andThen]
  rw [Oper.upon_value]
  go_wp2
  go_ret
  exact ⟨rfl, rfl⟩

set_option maxHeartbeats 400000 in
theorem mclone_signs (w : World) (b : Nat) (es : Array MapEntry) (clock : Nat) (hb : w.heap[b]? = some (.map es clock)) :
    Calls Tryz.prog 107 #[.map (some b)] w fun e w' => e = .returned (.map (some w.heap.size)) ∧ w.alloc (.map es clock) = w' := by
  have hq := fun W => run_eql_map_nil_sl (P := Tryz.prog) W 91 _ _ (some b) Tryz.underlying91
  have HB := Lib.hid hb
  clear hb
  go_enter Tryz.func107, Tryz.ntmps107
  go_wp2
  rw [run_callFunc_extern Tryz.func123 (by kernel_rfl) (by kernel_rfl) (by kernel_rfl) (e := Extern.MapsClone.clone) (by kernel_rfl), run_maps_clone_sl w 91 HB.out]
  simp only [Result.andThen]
  rw [Oper.upon_value]
  go_wp2
  rw [run_typeAssert_map_sl _ 91 20 _ _ _ Tryz.underlying91]
  simp only [Result.andThen]
  rw [Oper.upon_value]
  go_wp2
  go_ret
  exact ⟨rfl, rfl⟩

end Go.Proofs.YtebjjkhiniccgaaGreat.Ic

/-
  Contracts of the program's table: Clone, Plain, From.
-/
namespace Go.Proofs.YtebjjkhiniccgaaGreat.Ig
set_option linter.unusedSimpArgs false
set_option linter.unusedVariables false
set_option maxRecDepth 100000
open Go Go.RowKit Ck Im Kw Ik Ia Ib Ic
attribute [local go_sem ↓] Go.wp_at_zero Go.wp_at_succ

theorem tclone_end {w w2 : World} {L : List Tx} {D : DataW Unit} {es : Array MapEntry} {clock : Nat} {tv : Value} (hN : Nums D L) (hF : WideElems.Fit Tryz.prog 9 (plainElem (H := Unit) Tryz.prog 45) es clock) (hsz : es.size ≤ L.length)
    (hD : D = .map ((es.toList.map (WideElems.rg Tryz.prog 9 (plainElem Tryz.prog 45))).foldr DataW.insert [])) (hall : ∀ l ∈ L, l.length ≤ 140737488355328) (hL : L.length ≤ 1048576)
    (ho : w2.ownsRow (w.alloc (.map es clock)).drew.heap.size 9 1 tv L.length (L.map SV)) (hb : Below (w.alloc (.map es clock)).drew.heap.size (w.alloc (.map es clock)).drew w2) :
    Tb (w2.alloc (.cells #[.map (some w.heap.size), tv] 120)) (New w (w2.alloc (.cells #[.map (some w.heap.size), tv] 120))) w2.heap.size L ∧ Below w.heap.size w (w2.alloc (.cells #[.map (some w.heap.size), tv] 120)) := by
  have b1 : Below w.heap.size w (w.alloc (.map es clock)).drew := below_drewN ((Below.refl _ w).alloc (Nat.le_refl _) _) 1
  have hs : (w.alloc (.map es clock)).drew.heap.size = w.heap.size + 1 := by simp
  rw [hs] at ho hb
  have hs2 := hb.size
  rw [hs] at hs2
  have b2 : Below w.heap.size w w2 := b1.trans (hb.mono (by omega))
  have hm : w2.heap[w.heap.size]? = some (.map es clock) := (hb.block w.heap.size (by omega)).trans (heap_alloc_new w _)
  refine ⟨⟨w.heap.size, tv, D, Blk.new _ _ _, ?_, hN, own_base (ho.alloc _) (Nat.zero_le _), ⟨by omega, by simp⟩, ⟨by omega, by simp; omega⟩, fun g hg => ?_, hall, hL⟩, b2.alloc b2.size _⟩
  · exact ⟨es, clock, (Below.heap_alloc w2 _ _ (by omega)).trans hm, hF, hsz, hD⟩
  · have := ho.lt g hg
    exact ⟨by omega, by simp; omega⟩

set_option maxHeartbeats 1000000 in
theorem tclone_any (w : World) (S : Nat → Prop) (p : Nat) (L : List Tx) (h : Tb w S p L) :
    Calls Tryz.prog 76 #[.pointer (some ⟨p, 0, none⟩)] w fun e w' => ∃ p', e = .returned (.pointer (some ⟨p', 0, none⟩)) ∧ Tb w' (New w w') p' L ∧ Below w.heap.size w w' := by
  have HM := Lib.hid (made_yes w S p L h)
  obtain ⟨m, tv, D, h1, hmap, hN, hown, hp, hm, hg, hall, hL⟩ := h
  obtain ⟨es, clock, hb, hF, hsz, hD⟩ := hmap
  obtain ⟨A', c', rfl⟩ := own_shape hown
  have c0 : w.cell? ⟨p, 0, none⟩ = some (.map (some m)) := h1.cell 0
  have c1 : w.cell? ⟨p, 1, none⟩ = some (.slice A' L.length c') := h1.cell 1
  have HB := Lib.hid hb
  have HO := Lib.hid hown
  have H1 := Lib.hid h1
  have HR := Lib.hid (And.intro hN (And.intro hF (And.intro hsz (And.intro hD hall))))
  have HL := Lib.hid hL
  clear h1 hb hF hsz hD hown hp hm hg hN hall hL
  go_enter Tryz.func76, Tryz.ntmps76
  go_wp2_with (go_at_call 81; refine HM.out.mono ?_; rintro e w' ⟨rfl, rfl⟩)
  have HS : Hid (Sl (w.drew.alloc (.map es clock)) (fun _ => False) 1 (.slice A' L.length c') L.length (L.map SV)) := Lib.hid ((show Sl w.drew _ _ _ _ _ from Sl.of_own HO.out (fun _ _ _ h => h)).alloc _)
  have k0 : (w.drew.alloc (.map es clock)).cell? ⟨p, 0, none⟩ = some (.map (some m)) := (show Blk w.drew _ _ _ from H1.out).alloc _ |>.cell 0
  have k1 : (w.drew.alloc (.map es clock)).cell? ⟨p, 1, none⟩ = some (.slice A' L.length c') := (show Blk w.drew _ _ _ from H1.out).alloc _ |>.cell 1
  go_region_held3 (fun w' => w'.cell? ⟨p, 0, none⟩ = some (.map (some m)) ∧ w'.cell? ⟨p, 1, none⟩ = some (.slice A' L.length c')) (first | exact ⟨c0, c1⟩ | exact ⟨k0, k1⟩ | exact ⟨j0, j1⟩ | go_keep)
   (first
    | (go_at_call 105; refine (mclone_strs _ m es clock (by exact HB.out)).mono ?_; rintro e w1 ⟨rfl, rfl⟩)
    | (go_at_call 106; refine (clone_strs (fun _ => False) _ L.length (L.map SV) _ (by exact HS.out) (svs_one L) (by have := HL.out; omega)).mono ?_; rintro e w2 ⟨A2, c2, rfl, ho2, hb2⟩; have j0 := (hb2.cell (World.block_lt_of_cell? _ _ k0)).trans k0; have j1 := (hb2.cell (World.block_lt_of_cell? _ _ k1)).trans k1))
  go_wp2
  go_ret
  exact ⟨_, rfl, tclone_end HR.out.1 HR.out.2.1 HR.out.2.2.1 HR.out.2.2.2.1 HR.out.2.2.2.2 HL.out ho2 hb2⟩

end Go.Proofs.YtebjjkhiniccgaaGreat.Ig

/-
  Contracts of the program's ledger: made, NewLedger, Len, Signs, Clone, Signed.
-/
namespace Go.Proofs.YtebjjkhiniccgaaGreat.La
set_option linter.unusedSimpArgs false
set_option linter.unusedVariables false
set_option maxRecDepth 100000
open Go Go.RowKit Ck Im Kw Ik Ia Ib Ic Lk
attribute [local go_sem ↓] Go.wp_at_zero Go.wp_at_succ

theorem made_yes (w : World) (S : Nat → Prop) (p : Nat) (L : List Sg) (h : Lg w S p L) :
    Calls Tryz.prog 79 #[.pointer (some ⟨p, 0, none⟩)] w fun e w' => e = .returned (.bool true) ∧ w = w' := by
  obtain ⟨m, tv, D, h1, -⟩ := h
  have c0 : w.cell? ⟨p, 0, none⟩ = some (.map (some m)) := h1.cell 0
  have hq := fun W => run_neq_map_nil (P := Tryz.prog) W 91 47 124 (some m) Tryz.underlying91
  clear h1
  go_enter Tryz.func79, Tryz.ntmps79
  go_wp2
  go_ret
  exact ⟨rfl, rfl⟩
theorem len_yes (w : World) (S : Nat → Prop) (p : Nat) (L : List Sg) (h : Lg w S p L) :
    Calls Tryz.prog 77 #[.pointer (some ⟨p, 0, none⟩)] w fun e w' => e = .returned (.int .i64 L.length) ∧ w = w' := by
  have hm := made_yes w S p L h
  obtain ⟨m, tv, D, h1, -, -, hown, -⟩ := h
  obtain ⟨A, c, rfl⟩ := own_shape hown
  have c1 : w.cell? ⟨p, 1, none⟩ = some (.slice A L.length c) := h1.cell 1
  have HM := Lib.hid hm
  clear h1 hm hown
  go_enter Tryz.func77, Tryz.ntmps77
  go_wp2_with (go_at_call 79; refine HM.out.mono ?_; rintro e w' ⟨rfl, rfl⟩)
  go_ret
  exact ⟨rfl, rfl⟩
theorem newledger_any (w : World) :
    Calls Tryz.prog 18 #[] w fun e w' => ∃ p, e = .returned (.pointer (some ⟨p, 0, none⟩)) ∧ Lg w' (New w w') p [] ∧ Below w.heap.size w w' := by
  have hmm := @run_makeMap Tryz.prog
  go_enter Tryz.func18, Tryz.ntmps18
  go_wp2
  go_ret
  refine ⟨_, rfl, ⟨w.heap.size, .slice none 0 0, .map [], ?_, ?_, Known.empty, World.ownsRow_nil _ _ _ _, ⟨by simp, by simp⟩, ⟨by simp, by simp; omega⟩, by simp [Value.ownBlock]⟩, ((Below.refl _ w).alloc (Nat.le_refl _) _).alloc (by simp) _⟩
  · exact Blk.new_at (by simp) rfl
  · exact (World.ownsMap_made _ _ _ _).alloc _

theorem lclone_end {w w2 : World} {L : List Sg} {D : DataW Unit} {es : Array MapEntry} {clock : Nat} {tv : Value} (hN : Known D L) (hF : WideElems.Fit Tryz.prog 47 (unitElem (H := Unit)) es clock) (hsz : es.size ≤ L.length)
    (hD : D = .map ((es.toList.map (WideElems.rg Tryz.prog 47 unitElem)).foldr DataW.insert []))
    (ho : w2.ownsRow (w.alloc (.map es clock)).drew.heap.size 47 2 tv L.length (GVs L)) (hb : Below (w.alloc (.map es clock)).drew.heap.size (w.alloc (.map es clock)).drew w2) :
    Lg (w2.alloc (.cells #[.map (some w.heap.size), tv] 93)) (New w (w2.alloc (.cells #[.map (some w.heap.size), tv] 93))) w2.heap.size L ∧ Below w.heap.size w (w2.alloc (.cells #[.map (some w.heap.size), tv] 93)) := by
  have b1 : Below w.heap.size w (w.alloc (.map es clock)).drew := below_drewN ((Below.refl _ w).alloc (Nat.le_refl _) _) 1
  have hs : (w.alloc (.map es clock)).drew.heap.size = w.heap.size + 1 := by simp
  rw [hs] at ho hb
  have hs2 := hb.size
  rw [hs] at hs2
  have b2 : Below w.heap.size w w2 := b1.trans (hb.mono (by omega))
  have hm : w2.heap[w.heap.size]? = some (.map es clock) := (hb.block w.heap.size (by omega)).trans (heap_alloc_new w _)
  refine ⟨⟨w.heap.size, tv, D, Blk.new _ _ _, ?_, hN, own_base (ho.alloc _) (Nat.zero_le _), ⟨by omega, by simp⟩, ⟨by omega, by simp; omega⟩, fun g hg => ?_⟩, b2.alloc b2.size _⟩
  · exact ⟨es, clock, (Below.heap_alloc w2 _ _ (by omega)).trans hm, hF, hsz, hD⟩
  · have := ho.lt g hg
    exact ⟨by omega, by simp; omega⟩

set_option maxHeartbeats 1000000 in
theorem lclone_any (w : World) (S : Nat → Prop) (p : Nat) (L : List Sg) (h : Lg w S p L) (hL : L.length * 16 ≤ 140737488355328) :
    Calls Tryz.prog 78 #[.pointer (some ⟨p, 0, none⟩)] w fun e w' => ∃ p', e = .returned (.pointer (some ⟨p', 0, none⟩)) ∧ Lg w' (New w w') p' L ∧ Below w.heap.size w w' := by
  have HM := Lib.hid (made_yes w S p L h)
  obtain ⟨m, tv, D, h1, hmap, hN, hown, hp, hm, hg⟩ := h
  obtain ⟨es, clock, hb, hF, hsz, hD⟩ := hmap
  obtain ⟨A', c', rfl⟩ := own_shape hown
  have c0 : w.cell? ⟨p, 0, none⟩ = some (.map (some m)) := h1.cell 0
  have c1 : w.cell? ⟨p, 1, none⟩ = some (.slice A' L.length c') := h1.cell 1
  have HB := Lib.hid hb
  have HO := Lib.hid hown
  have H1 := Lib.hid h1
  have HR := Lib.hid (And.intro hN (And.intro hF (And.intro hsz hD)))
  have HL := Lib.hid hL
  clear h1 hb hF hsz hD hown hp hm hg hN hL
  have HS : Hid (Sl (w.drew.alloc (.map es clock)) (fun _ => False) 2 (.slice A' L.length c') L.length (GVs L)) := Lib.hid ((show Sl w.drew _ _ _ _ _ from Sl.of_own HO.out (fun _ _ _ h => h)).alloc _)
  have k0 : (w.drew.alloc (.map es clock)).cell? ⟨p, 0, none⟩ = some (.map (some m)) := (show Blk w.drew _ _ _ from H1.out).alloc _ |>.cell 0
  have k1 : (w.drew.alloc (.map es clock)).cell? ⟨p, 1, none⟩ = some (.slice A' L.length c') := (show Blk w.drew _ _ _ from H1.out).alloc _ |>.cell 1
  go_enter Tryz.func78, Tryz.ntmps78
  go_wp2_with (go_at_call 79; refine HM.out.mono ?_; rintro e w' ⟨rfl, rfl⟩)
  go_region_held3 (fun w' => w'.cell? ⟨p, 0, none⟩ = some (.map (some m)) ∧ w'.cell? ⟨p, 1, none⟩ = some (.slice A' L.length c')) (first | exact ⟨c0, c1⟩ | exact ⟨k0, k1⟩ | exact ⟨j0, j1⟩ | go_keep)
   (first
    | (go_at_call 107; refine (mclone_signs _ m es clock (by exact HB.out)).mono ?_; rintro e w1 ⟨rfl, rfl⟩)
    | (go_at_call 108; refine (clone_signs (fun _ => False) _ L.length (GVs L) _ (by exact HS.out) (GVs_one L) HL.out).mono ?_; rintro e w2 ⟨A2, c2, rfl, ho2, hb2⟩; have j0 := (hb2.cell (World.block_lt_of_cell? _ _ k0)).trans k0; have j1 := (hb2.cell (World.block_lt_of_cell? _ _ k1)).trans k1))
  go_wp2
  go_ret
  exact ⟨_, rfl, lclone_end HR.out.1 HR.out.2.1 HR.out.2.2.1 HR.out.2.2.2 ho2 hb2⟩

end Go.Proofs.YtebjjkhiniccgaaGreat.La
