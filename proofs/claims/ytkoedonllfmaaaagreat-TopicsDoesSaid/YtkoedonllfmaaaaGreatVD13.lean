/-
  Layer 6 (op): slices.Clone at bytes; the walk of the statement OpBytes.
-/
import Derived.Test.YtkoedonllfmaaaaGreatVD12
import Derived.Test.YtkoedonllfmaaaaGreatVD03
import Derived.Outline
import Derived.Test.YtkoedonllfmaaaaGreatVD11
namespace Go.Proofs.YtkoedonllfmaaaaGreat.Qa
set_option linter.unusedSimpArgs false
open Go Go.RowKit Ck Kw Ca Cb Cd Ci Pm Pa Pe Pf Pg Ph Ppi Pj Kx Pk Pl Pn Po Pp Qs Qf
attribute [local go_sem ↓] Go.wp_at_zero Go.wp_at_succ
set_option linter.unusedVariables false

/-- What stands there: the operation, the result, the bytes. -/
structure ST (w0 : World) (o : O) (A : Option Addr) (c : Nat) (e f : Int) (vb : Value) (b : Tx) (W : World) : Prop where
  below : Below w0.heap.size w0 W
  op : OB W w0.heap.size o A c
  res : Blk W (w0.heap.size + 1) 30 #[.int .i64 e, .int .i64 f]
  ls : Ls W (fun k => w0.heap.size ≤ k) (.slice A o.recs.length c) o.recs
  b : Sl W (fun k => w0.heap.size ≤ k) 1 vb b.length (BVs b)
section
variable {w0 W W' : World} {o : O} {A : Option Addr} {c : Nat} {e f : Int} {vb : Value} {b : Tx}
theorem ST.later (h : ST w0 o A c e f vb b W) (hb : Below W.heap.size W W') : ST w0 o A c e f vb b W' :=
  ⟨h.below.trans (hb.mono h.below.size), Blk.below h.op hb (Blk.lt h.op), h.res.below hb h.res.lt, h.ls.after hb, h.b.after hb⟩
theorem ST.drew (h : ST w0 o A c e f vb b W) : ST w0 o A c e f vb b W.drew := ⟨below_drewN h.below 1, h.op, h.res, h.ls, h.b⟩
theorem ST.oi (h : ST w0 o A c e f vb b W) : OI W (fun k => w0.heap.size ≤ k) (OV o A c) o := ⟨A, c, rfl, h.ls⟩
theorem ST.cells (h : ST w0 o A c e f vb b W) : W.cell? ⟨w0.heap.size, 0, none⟩ = some (.int .i64 o.kind) ∧ W.cell? ⟨w0.heap.size, 1, none⟩ = some (.string ⟨o.topic.toArray⟩) ∧ W.cell? ⟨w0.heap.size, 2, none⟩ = some (.string ⟨o.group.toArray⟩) ∧ W.cell? ⟨w0.heap.size, 3, none⟩ = some (.int .i64 o.off) ∧ W.cell? ⟨w0.heap.size, 4, none⟩ = some (.slice A o.recs.length c) ∧
    W.cell? ⟨w0.heap.size + 1, 0, none⟩ = some (.int .i64 e) ∧ W.cell? ⟨w0.heap.size + 1, 1, none⟩ = some (.int .i64 f) :=
  ⟨h.op.cells.1, h.op.cells.2.1, h.op.cells.2.2.1, h.op.cells.2.2.2.1, h.op.cells.2.2.2.2, h.res.cell 0, h.res.cell 1⟩
end
end Go.Proofs.YtkoedonllfmaaaaGreat.Qa

/-
  Layer 6 (op): the walk of the statement OpBack.
-/
namespace Go.Proofs.YtkoedonllfmaaaaGreat.Qe
set_option linter.unusedSimpArgs false
open Go Go.RowKit Ck Kw Ca Cb Ce Ch Ci Cj Co Kx Pm Pa Pe Pf Pg Ph Ppi Pk Pl Pp Py Qb Qc Qt Qs Qd
attribute [local go_sem ↓] Go.wp_at_zero Go.wp_at_succ
set_option linter.unusedVariables false

/-- What stands there: the operation and the bytes. -/
structure EB (w0 : World) (o : O) (A : Option Addr) (c : Nat) (vb : Value) (b : Tx) (W : World) : Prop where
  below : Below w0.heap.size w0 W
  op : OB W w0.heap.size o A c
  ls : Ls W (fun k => w0.heap.size ≤ k) (.slice A o.recs.length c) o.recs
  b : Sl W (fun k => w0.heap.size ≤ k) 1 vb b.length (BVs b)
variable {w0 W W' : World} {o : O} {A : Option Addr} {c : Nat} {vb : Value} {b : Tx}
theorem EB.later (h : EB w0 o A c vb b W) (hb : Below W.heap.size W W') : EB w0 o A c vb b W' :=
  ⟨h.below.trans (hb.mono h.below.size), Blk.below h.op hb (Blk.lt h.op), h.ls.after hb, h.b.after hb⟩
theorem EB.drew (h : EB w0 o A c vb b W) : EB w0 o A c vb b W.drew := h.later (below_drewN (Below.refl _ W) 1)
theorem EB.oi (h : EB w0 o A c vb b W) : OI W (fun k => w0.heap.size ≤ k) (OV o A c) o := ⟨A, c, rfl, h.ls⟩
/-- The operation, what was read of its bytes, twice, and the reader. -/
structure BB (w0 : World) (M g3 g7 g : Nat) (o : O) (A : Option Addr) (c : Nat) (Ax : Option Addr) (cx : Nat) (Ay : Option Addr) (cy : Nat) (vb : Value) (b : Tx) (W : World) : Prop where
  eb : EB w0 o A c vb b W
  x : OB W g3 o Ax cx
  lx : Ls W (fun k => M ≤ k) (.slice Ax o.recs.length cx) o.recs
  y : OB W g7 o Ay cy
  ly : Ls W (fun k => k < M) (.slice Ay o.recs.length cy) o.recs
  rd : CR W (fun k => k < M) g (b, 0)
theorem BB.later {M g3 g7 g : Nat} {Ax : Option Addr} {cx : Nat} {Ay : Option Addr} {cy : Nat} (h : BB w0 M g3 g7 g o A c Ax cx Ay cy vb b W) (hb : Below W.heap.size W W') : BB w0 M g3 g7 g o A c Ax cx Ay cy vb b W' :=
  ⟨h.eb.later hb, Blk.below h.x hb (Blk.lt h.x), h.lx.after hb, Blk.below h.y hb (Blk.lt h.y), h.ly.after hb, h.rd.after hb⟩
theorem BB.cells {M g3 g7 g : Nat} {Ax : Option Addr} {cx : Nat} {Ay : Option Addr} {cy : Nat} (h : BB w0 M g3 g7 g o A c Ax cx Ay cy vb b W) :
    (W.cell? ⟨w0.heap.size, 0, none⟩ = some (.int .i64 o.kind) ∧ W.cell? ⟨w0.heap.size, 1, none⟩ = some (.string ⟨o.topic.toArray⟩) ∧ W.cell? ⟨w0.heap.size, 2, none⟩ = some (.string ⟨o.group.toArray⟩) ∧ W.cell? ⟨w0.heap.size, 3, none⟩ = some (.int .i64 o.off) ∧ W.cell? ⟨w0.heap.size, 4, none⟩ = some (.slice A o.recs.length c))
    ∧ (W.cell? ⟨g3, 0, none⟩ = some (.int .i64 o.kind) ∧ W.cell? ⟨g3, 1, none⟩ = some (.string ⟨o.topic.toArray⟩) ∧ W.cell? ⟨g3, 2, none⟩ = some (.string ⟨o.group.toArray⟩) ∧ W.cell? ⟨g3, 3, none⟩ = some (.int .i64 o.off) ∧ W.cell? ⟨g3, 4, none⟩ = some (.slice Ax o.recs.length cx))
    ∧ (W.cell? ⟨g7, 0, none⟩ = some (.int .i64 o.kind) ∧ W.cell? ⟨g7, 1, none⟩ = some (.string ⟨o.topic.toArray⟩) ∧ W.cell? ⟨g7, 2, none⟩ = some (.string ⟨o.group.toArray⟩) ∧ W.cell? ⟨g7, 3, none⟩ = some (.int .i64 o.off) ∧ W.cell? ⟨g7, 4, none⟩ = some (.slice Ay o.recs.length cy)) :=
  ⟨OB.cells h.eb.op, OB.cells h.x, OB.cells h.y⟩
end Go.Proofs.YtkoedonllfmaaaaGreat.Qe

/-
  Layer 6 (op): the contract of Clone.
-/
namespace Go.Proofs.YtkoedonllfmaaaaGreat.Qg
set_option linter.unusedSimpArgs false
open Go Go.RowKit Ck Kw Ca Cb Ce Ch Ci Cj Co Kx Pm Pa Pe Pf Pg Ph Ppi Pj Pk Pl Pp Py Qb Qs Qd
attribute [local go_sem ↓] Go.wp_at_zero Go.wp_at_succ
set_option linter.unusedVariables false

/-- A row of records of one's own: the first k of them clones, the others as they were. -/
structure CL (w0 : World) (v : Value) (recs : List Tx) (vals : List Value) (k : Nat) (W : World) : Prop where
  below : Below w0.heap.size w0 W
  row : W.ownsRow w0.heap.size 55 1 v recs.length vals
  mine : ∀ i (hi : i < recs.length), i < k → ∃ u, vals[i]? = some u ∧ W.ownsRow w0.heap.size 5 1 u recs[i].length (BVs recs[i])
  rest : ∀ i (hi : i < recs.length), k ≤ i → ∃ u, vals[i]? = some u ∧ Sl W (fun q => w0.heap.size ≤ q) 1 u recs[i].length (BVs recs[i])
variable {w0 W W' : World} {v : Value} {recs : List Tx} {vals : List Value} {k : Nat}
theorem CL.later (h : CL w0 v recs vals k W) (hb : Below W.heap.size W W') : CL w0 v recs vals k W' :=
  ⟨h.below.trans (hb.mono h.below.size), own_below h.row hb, fun i hi hk => by
    obtain ⟨u, hu, ho⟩ := h.mine i hi hk
    exact ⟨u, hu, own_below ho hb⟩, fun i hi hk => by
    obtain ⟨u, hu, ho⟩ := h.rest i hi hk
    exact ⟨u, hu, ho.after hb⟩⟩
/-- The row's value, and the record at k. -/
theorem CL.at_ (h : CL w0 v recs vals k W) (hk : k < recs.length) :
    ∃ g c u, v = .slice (some ⟨g, 0, none⟩) recs.length c ∧ vals[k]? = some u ∧ W.cell? ⟨g, k, none⟩ = some u ∧ W.frozen? ⟨g, k, none⟩ = false ∧ Sl W (fun q => w0.heap.size ≤ q) 1 u recs[k].length (BVs recs[k]) := by
  obtain ⟨g, c, rfl, hb, hlt⟩ := h.row.form (by omega)
  obtain ⟨u, hu, hs⟩ := h.rest k hk (Nat.le_refl _)
  exact ⟨g, c, u, rfl, hu, by rw [h.row.cellAt k (by omega), hu], h.row.frozenAt k, hs⟩
theorem own_types {g c n : Nat} {xs : List Value} {t : TypeId} {base m : Nat} {u : Value} {ys : List Value} {t' : TypeId} (h : W.ownsRow base t 1 (.slice (some ⟨g, 0, none⟩) n c) n xs) (h' : W.ownsRow base t' 1 u m ys) (ht : t ≠ t') : u.ownBlock ≠ some g := by
  rcases h'.2 with ⟨rfl, _⟩ | ⟨g', cap', cur', rfl, _, hg', _⟩
  · simp [Value.ownBlock]
  · rcases h.2 with ⟨hn, _⟩ | ⟨g2, cap2, cur2, hv, _, hg2, _⟩
    · simp at hn
    · simp only [Value.slice.injEq, Option.some.injEq, Addr.mk.injEq, and_true] at hv
      obtain ⟨rfl, _⟩ := hv
      simp only [Value.ownBlock, ne_eq, Option.some.injEq]
      rintro rfl
      rw [hg2] at hg'
      simp only [Option.some.injEq, Obj.cells.injEq] at hg'
      exact ht hg'.2.1
theorem CL.step {g c : Nat} {u : Value} (h : CL w0 (.slice (some ⟨g, 0, none⟩) recs.length c) recs vals k W) (hk : k < recs.length) (hu : W.ownsRow w0.heap.size 5 1 u recs[k].length (BVs recs[k])) :
    CL w0 (.slice (some ⟨g, 0, none⟩) recs.length c) recs (vals.set k u) (k + 1) (W.setCell ⟨g, k, none⟩ u) := by
  have hst := h.row.stored k u
  have hvl : vals.length = recs.length := by have := h.row.1; omega
  have hgb : w0.heap.size ≤ g := by
    obtain ⟨g', c', hv, hb, _⟩ := h.row.form (by omega)
    simp only [Value.slice.injEq, Option.some.injEq, Addr.mk.injEq, and_true] at hv
    omega
  refine ⟨h.below.grown hst.2 h.below.size (fun q hq => by injection hq with hq; omega), hst.1, fun i hi hik => ?_, fun i hi hik => ?_⟩
  · by_cases he : i = k
    · subst he
      exact ⟨u, by rw [List.getElem?_set_self (by omega)], hu.kept hst.2 (by
        have := own_types h.row hu (by decide)
        first | exact this | (intro h1; exact this h1) | (cases hq : u.ownBlock <;> simp_all))⟩
    · obtain ⟨u', hu', ho⟩ := h.mine i hi (by omega)
      exact ⟨u', by rw [List.getElem?_set_ne (fun q => he q.symm)]; exact hu', ho.kept hst.2 (by
        have := own_types h.row ho (by decide)
        first | exact this | (intro h1; exact this h1) | (cases hq : u'.ownBlock <;> simp_all))⟩
  · obtain ⟨u', hu', ho⟩ := h.rest i hi (by omega)
    exact ⟨u', by rw [List.getElem?_set_ne (by omega)]; exact hu', ho.grown hst.2 (fun q hq _ => by injection hq with hq; show w0.heap.size ≤ q; omega)⟩
/-- A clone, and what is one's own of it. -/
def Cloned (w : World) (o : O) (e : Ending) (w' : World) : Prop := ∃ A c vals, e = .returned (OV o A c) ∧ CL w (.slice A o.recs.length c) o.recs vals o.recs.length w'
theorem CL.ls {A : Option Addr} {c : Nat} (h : CL w0 (.slice A recs.length c) recs vals recs.length W) : Ls W (fun q => q < w0.heap.size) (.slice A recs.length c) recs :=
  ⟨vals, Sl.of_own h.row (fun q h1 _ h2 => by omega), fun i hi => by
    obtain ⟨u, hu, ho⟩ := h.mine i hi hi
    exact ⟨u, hu, Sl.of_own ho (fun q h1 _ h2 => by omega)⟩⟩

theorem own_blk {g g' c n : Nat} {xs : List Value} {t t' : TypeId} {base : Nat} {cs : Array Value} (h : W.ownsRow base t 1 (.slice (some ⟨g, 0, none⟩) n c) n xs) (h' : Blk W g' t' cs) (ht : t ≠ t') : g' ≠ g := by
  rcases h.2 with ⟨hn, _⟩ | ⟨g2, cap2, cur2, hv, _, hg2, _⟩
  · simp at hn
  · simp only [Value.slice.injEq, Option.some.injEq, Addr.mk.injEq, and_true] at hv
    obtain ⟨rfl, _⟩ := hv
    rintro rfl
    have hb : W.heap[g']? = some (.cells cs t' (0, 0)) := h'
    rw [hg2] at hb
    simp only [Option.some.injEq, Obj.cells.injEq] at hb
    exact ht hb.2.1
/-- The operation's own copy. -/
structure SK (w0 : World) (o : O) (A : Option Addr) (c : Nat) (W : World) : Prop where
  below : Below w0.heap.size w0 W
  op : OB W w0.heap.size o A c
  res : Blk W (w0.heap.size + 1) 38 Z5
  ls : Ls W (fun k => w0.heap.size ≤ k) (.slice A o.recs.length c) o.recs
variable {o : O} {A : Option Addr} {c : Nat}
theorem SK.later (h : SK w0 o A c W) (hb : Below W.heap.size W W') : SK w0 o A c W' := ⟨h.below.trans (hb.mono h.below.size), Blk.below h.op hb (Blk.lt h.op), Blk.below h.res hb (Blk.lt h.res), h.ls.after hb⟩
theorem sk_new {X : Nat → Prop} (hls : Ls w0 X (.slice A o.recs.length c) o.recs) : SK w0 o A c ((w0.alloc (.cells (OC o A c) 38)).alloc (.cells Z5 38)) := by
  have hz : (w0.alloc (.cells (OC o A c) 38)).heap.size = w0.heap.size + 1 := by simp
  refine ⟨(al_below _ _).trans ((al_below _ _).mono (by omega)), Blk.below (Blk.new _ _ _) (al_below _ _) (by omega), by rw [← hz]; exact Blk.new _ _ _, ((hls.old' (Nat.le_refl _)).after (al_below _ _)).after (al_below _ _)⟩
theorem SK.put (h : SK w0 o A c W) (i : Nat) (u : Value) (hcs : (OC o A c).setIfInBounds i u = OC o A c) : SK w0 o A c (W.setCell ⟨w0.heap.size, i, none⟩ u) := by
  have n0 := h.below.size
  have cg : W.grownBy (W.setCell ⟨w0.heap.size, i, none⟩ u) (some w0.heap.size) := grown_setCell (World.grownBy.refl W (some w0.heap.size)) (p := ⟨w0.heap.size, i, none⟩) (.inl rfl) u
  refine ⟨h.below.grown cg n0 (fun q hq => by injection hq with hq; omega), ?_, Blk.grown h.res cg (by simp), h.ls.grown cg (fun q hq _ => by injection hq with hq; show w0.heap.size ≤ q; omega)⟩
  have := Blk.set_ h.op i u
  rw [hcs] at this
  exact this
/-- The copy, and the row of its records. -/
structure LP (w0 : World) (o : O) (A : Option Addr) (c : Nat) (vals : List Value) (k : Nat) (W : World) : Prop where
  op : OB W w0.heap.size o A c
  res : Blk W (w0.heap.size + 1) 38 Z5
  cl : CL w0 (.slice A o.recs.length c) o.recs vals k W
theorem LP.later (h : LP w0 o A c vals k W) (hb : Below W.heap.size W W') : LP w0 o A c vals k W' := ⟨Blk.below h.op hb (Blk.lt h.op), Blk.below h.res hb (Blk.lt h.res), h.cl.later hb⟩
theorem lp_start {A' : Option Addr} {c' : Nat} (h : SK w0 o A c W) (hrow : W'.ownsRow W.heap.size 55 1 (.slice A' o.recs.length c') o.recs.length vals) (hv : ∀ i (hi : i < o.recs.length), ∃ u, vals[i]? = some u ∧ Sl W (fun k => w0.heap.size ≤ k) 1 u o.recs[i].length (BVs o.recs[i])) (hb : Below W.heap.size W W') :
    LP w0 o A' c' vals 0 (W'.setCell ⟨w0.heap.size, 4, none⟩ (.slice A' o.recs.length c')) := by
  have n0 := h.below.size
  have h' := h.later hb
  have n1 := Blk.lt h.op
  have cg : W'.grownBy (W'.setCell ⟨w0.heap.size, 4, none⟩ (.slice A' o.recs.length c')) (some w0.heap.size) := grown_setCell (World.grownBy.refl W' (some w0.heap.size)) (p := ⟨w0.heap.size, 4, none⟩) (.inl rfl) _
  refine ⟨Blk.set_ h'.op 4 _, Blk.grown h'.res cg (by simp), h'.below.grown cg h'.below.size (fun q hq => by injection hq with hq; omega), own_base (ownsRow_setCell_below hrow (a := ⟨w0.heap.size, 4, none⟩) n1 _) n0, fun i hi hk => absurd hk (by omega), fun i hi _ => ?_⟩
  obtain ⟨u, hu, hs⟩ := hv i hi
  exact ⟨u, hu, (hs.after hb).grown cg (fun q hq _ => by injection hq with hq; show w0.heap.size ≤ q; omega)⟩
theorem LP.slot {g : Nat} (h : LP w0 o (some ⟨g, 0, none⟩) c vals k W) (hk : k < o.recs.length) : (∃ u, W.cell? ⟨g, k, none⟩ = some u) ∧ W.frozen? ⟨g, k, none⟩ = false := by
  obtain ⟨g', cc, u, hv, hu, hc, hf, hs⟩ := h.cl.at_ hk
  simp only [Value.slice.injEq, Option.some.injEq, Addr.mk.injEq, and_true, true_and] at hv
  obtain ⟨rfl, rfl⟩ := hv
  exact ⟨⟨u, hc⟩, hf⟩
theorem LP.step {g : Nat} {u : Value} (h : LP w0 o (some ⟨g, 0, none⟩) c vals k W) (hk : k < o.recs.length) (hu : W.ownsRow w0.heap.size 5 1 u o.recs[k].length (BVs o.recs[k])) :
    LP w0 o (some ⟨g, 0, none⟩) c (vals.set k u) (k + 1) (W.setCell ⟨g, k, none⟩ u) := by
  have hne := own_blk h.cl.row h.op (by decide)
  have hne2 := own_blk h.cl.row h.res (by decide)
  have cg : W.grownBy (W.setCell ⟨g, k, none⟩ u) (some g) := grown_setCell (World.grownBy.refl W (some g)) (p := ⟨g, k, none⟩) (.inl rfl) _
  exact ⟨Blk.grown h.op cg (by simp; exact hne), Blk.grown h.res cg (by simp; exact hne2), h.cl.step hk hu⟩

theorem own_blk' {g' n : Nat} {u : Value} {xs : List Value} {t t' : TypeId} {base : Nat} {cs : Array Value} (h : W.ownsRow base t 1 u n xs) (h' : Blk W g' t' cs) (ht : t ≠ t') : u.ownBlock ≠ some g' := by
  rcases h.2 with ⟨rfl, _⟩ | ⟨g2, cap2, cur2, rfl, _, hg2, _⟩
  · simp [Value.ownBlock]
  · simp only [Value.ownBlock, ne_eq, Option.some.injEq]
    rintro rfl
    have hb : W.heap[g2]? = some (.cells cs t' (0, 0)) := h'
    rw [hg2] at hb
    simp only [Option.some.injEq, Obj.cells.injEq] at hb
    exact ht hb.2.1
theorem LP.fin (h : LP w0 o A c vals o.recs.length W) (x0 x1 x2 x3 x4 : Value) :
    Cloned w0 o (.returned (.agg #[.int .i64 o.kind, .string ⟨o.topic.toArray⟩, .string ⟨o.group.toArray⟩, .int .i64 o.off, .slice A o.recs.length c])) (((((W.setCell ⟨w0.heap.size + 1, 0, none⟩ x0).setCell ⟨w0.heap.size + 1, 1, none⟩ x1).setCell ⟨w0.heap.size + 1, 2, none⟩ x2).setCell ⟨w0.heap.size + 1, 3, none⟩ x3).setCell ⟨w0.heap.size + 1, 4, none⟩ x4) := by
  have cg : W.grownBy (((((W.setCell ⟨w0.heap.size + 1, 0, none⟩ x0).setCell ⟨w0.heap.size + 1, 1, none⟩ x1).setCell ⟨w0.heap.size + 1, 2, none⟩ x2).setCell ⟨w0.heap.size + 1, 3, none⟩ x3).setCell ⟨w0.heap.size + 1, 4, none⟩ x4) (some (w0.heap.size + 1)) :=
    grown_setCell (grown_setCell (grown_setCell (grown_setCell (grown_setCell (World.grownBy.refl W (some (w0.heap.size + 1))) (p := ⟨w0.heap.size + 1, 0, none⟩) (.inl rfl) x0) (p := ⟨w0.heap.size + 1, 1, none⟩) (.inl rfl) x1) (p := ⟨w0.heap.size + 1, 2, none⟩) (.inl rfl) x2) (p := ⟨w0.heap.size + 1, 3, none⟩) (.inl rfl) x3) (p := ⟨w0.heap.size + 1, 4, none⟩) (.inl rfl) x4
  refine ⟨A, c, vals, rfl, h.cl.below.grown cg h.cl.below.size (fun q hq => by injection hq with hq; omega), h.cl.row.kept cg (by
        have := own_blk' h.cl.row h.res (by decide)
        first | exact this | (intro h1; exact this h1) | (cases hq : (Value.slice A o.recs.length c).ownBlock <;> simp_all)), fun i hi hk => ?_, fun i hi hk => absurd hi (by omega)⟩
  obtain ⟨u, hu, ho⟩ := h.cl.mine i hi hk
  exact ⟨u, hu, ho.kept cg (by
        have := own_blk' ho h.res (by decide)
        first | exact this | (intro h1; exact this h1) | (cases hq : u.ownBlock <;> simp_all))⟩

set_option maxRecDepth 100000 in
set_option maxHeartbeats 8000000 in
theorem clone_any (w : World) (o : O) (X : Nat → Prop) (A : Option Addr) (c : Nat) (hls : Ls w X (.slice A o.recs.length c) o.recs) (hlo : far o 140737488351232) :
    Calls Tryz.prog 43 #[OV o A c] w (Cloned w o) := by
  have HK0 := Lib.hid (sk_new hls)
  have HLO := Lib.hid hlo
  have LT : Hid (o.topic.length ≤ 140737488355328) := Lib.hid (by have := hlo.1; omega)
  have LG : Hid (o.group.length ≤ 140737488355328) := Lib.hid (by have := hlo.2.1; omega)
  have LR : Hid (o.recs.length * 24 ≤ 140737488355328) := Lib.hid (by have := hlo.2.2.1; omega)
  have LE : Hid (∀ i (hi : i < o.recs.length), o.recs[i].length ≤ 140737488355328) := Lib.hid (fun i hi => by have := hlo.2.2.2 _ (List.getElem_mem hi); omega)
  clear hls hlo
  have HS1 : Hid (∀ W : World, Calls Tryz.prog 82 #[.string ⟨o.topic.toArray⟩] W fun e w' => e = .returned (.string ⟨o.topic.toArray⟩) ∧ Below W.heap.size W w') := Lib.hid fun W => sclone_any o.topic W LT.out
  have HS2 : Hid (∀ W : World, Calls Tryz.prog 82 #[.string ⟨o.group.toArray⟩] W fun e w' => e = .returned (.string ⟨o.group.toArray⟩) ∧ Below W.heap.size W w') := Lib.hid fun W => sclone_any o.group W LG.out
  unfold OV
  unfold OC Z5 at HK0
  go_enter Tryz.func43, Tryz.ntmps43
  obtain ⟨a0, a1, a2, a3, a4⟩ := OB.cells' HK0.out.op
  go_wp2_with fail
  refine (HS1.out _).mono ?_
  rintro e w1 ⟨rfl, hb1⟩
  have HK1 := Lib.hid (HK0.out.later hb1)
  have HK1' := Lib.hid (HK1.out.put 1 (.string ⟨o.topic.toArray⟩) rfl)
  clear hb1 a0 a1 a2 a3 a4
  obtain ⟨a0, a1, a2, a3, a4⟩ := OB.cells' HK1.out.op
  have f1 := Blk.frozen HK1.out.op 1
  obtain ⟨b0, b1, b2, b3, b4⟩ := OB.cells' HK1'.out.op
  go_wp2_with fail
  refine (HS2.out _).mono ?_
  rintro e w2 ⟨rfl, hb2⟩
  have HK2 := Lib.hid (HK1'.out.later hb2)
  have HK2' := Lib.hid (HK2.out.put 2 (.string ⟨o.group.toArray⟩) rfl)
  clear hb2 a0 a1 a2 a3 a4 b0 b1 b2 b3 b4 f1
  obtain ⟨a0, a1, a2, a3, a4⟩ := OB.cells' HK2.out.op
  have f2 := Blk.frozen HK2.out.op 2
  obtain ⟨b0, b1, b2, b3, b4⟩ := OB.cells' HK2'.out.op
  have HRC := Lib.hid (rclone_any _ _ A c o.recs HK2'.out.ls LR.out)
  go_wp2_with fail
  refine HRC.out.mono ?_
  rintro e w3 ⟨v3, vals, rfl, hown3, hvs3, hb3⟩
  obtain ⟨A3, c3, rfl⟩ := own_shape hown3
  have HK3 := Lib.hid (HK2'.out.later hb3)
  have HL3 := Lib.hid (lp_start HK2'.out hown3 hvs3 hb3)
  clear hown3 hvs3 hb3 a0 a1 a2 a3 a4 b0 b1 b2 b3 b4 f2
  obtain ⟨a0, a1, a2, a3, a4⟩ := OB.cells' HK3.out.op
  have f4 := Blk.frozen HK3.out.op 4
  obtain ⟨b0, b1, b2, b3, b4⟩ := OB.cells' HL3.out.op
  go_wp2_with fail
  clear a0 a1 a2 a3 a4 b0 b1 b2 b3 b4 f4 HK3 HRC HK2' HK2 HK1' HK1 HK0 HS1 HS2
  have hnl : o.recs.length ≤ 140737488355328 := by have := LR.out; omega
  (try go_frame)
  go_loopw [20] (fun i wr => ∃ (k : Nat) (vs : List Value), k ≤ o.recs.length ∧ i = .int .i64 k ∧ LP w o A3 c3 vs k wr) (fun i _ => o.recs.length - (intOf i).toNat)
  case atStart => exact ⟨0, vals, Nat.zero_le _, rfl, HL3.out⟩
  case round =>
    obtain ⟨k, vs, hk, rfl, hl⟩ := hrel
    clear HL3
    by_cases hlt : k < o.recs.length
    · have HLT := Lib.hid hlt
      obtain ⟨g, cc, u, hv, hu, hc, hf, hs⟩ := hl.cl.at_ hlt
      simp only [Value.slice.injEq, true_and] at hv
      obtain ⟨rfl, rfl⟩ := hv
      have HLd := Lib.hid (hl.later (below_drewN (Below.refl _ _) 1))
      have HSd := Lib.hid (hs.after (below_drewN (Below.refl _ _) 1))
      have hle := LE.out k hlt
      have HLE := Lib.hid hle
      have q4 := (OB.cells' HLd.out.op).2.2.2.2
      obtain ⟨A5, d5, rfl, -⟩ := id hs
      clear hl hs hle hu
      go_wp2_with fail
      go_region_held3 (fun w' => w'.cell? ⟨w.heap.size, 4, none⟩ = some (.slice (some ⟨g, 0, none⟩) o.recs.length c3)) (first | exact q4 | exact j4 | exact n4)
        (first
        | (go_at_call 41; refine (Cd.clone_any _ _ _ o.recs[k] _ HSd.out HLE.out).mono ?_; rintro e w4 ⟨v4, rfl, hown4, hb4⟩; obtain ⟨A4, c4, rfl⟩ := own_shape hown4; have HL4 := Lib.hid (HLd.out.later hb4); have HO4 := Lib.hid (own_base hown4 HLd.out.cl.below.size); have j4 := (OB.cells' HL4.out.op).2.2.2.2; obtain ⟨⟨u4, hc4⟩, hf4⟩ := HL4.out.slot HLT.out; have HN := Lib.hid (HL4.out.step HLT.out HO4.out); have n4 := (OB.cells' HN.out.op).2.2.2.2; clear hown4 hb4))
      all_goals
        go_wp2_with fail
        go_roundw
      all_goals first
        | exact ⟨k + 1, _, by have := HLT.out; omega, by go_num, HN.out⟩
        | (simp [intOf]; omega)
    · have hke : k = o.recs.length := by omega
      subst hke
      have HL := Lib.hid hl
      obtain ⟨b0, b1, b2, b3, b4⟩ := OB.cells' hl.op
      obtain ⟨⟨r0, r1, r2, r3, r4⟩, ⟨q0, q1, q2, q3, q4⟩⟩ := Blk.cells5 hl.res
      clear hl
      go_wp2_with fail
      refine bodyPost_ret (results_row1 rfl _ _ (w.heap.size + 1) 38 #[.int .i64 o.kind, .string ⟨o.topic.toArray⟩, .string ⟨o.group.toArray⟩, .int .i64 o.off, .slice A3 o.recs.length c3] (0, 0) _ rfl (res_blk HL.out.res _ _ _ _ _) Tryz.underlying38 rfl size_op) rfl ?_
      exact HL.out.fin _ _ _ _ _
end Go.Proofs.YtkoedonllfmaaaaGreat.Qg
