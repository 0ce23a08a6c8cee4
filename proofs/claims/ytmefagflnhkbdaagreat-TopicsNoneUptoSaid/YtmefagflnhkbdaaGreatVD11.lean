/-
  Layer 6 (op): the contract of read, kind by kind.
-/
import Derived.Test.YtmefagflnhkbdaaGreatVD10
import Derived.Deep.RegionLaw
import Derived.Deep.QuietTactic
import Derived.BigQuiet
import Derived.Deep.RegionHeld3
import Derived.Laws.StructEq
import Derived.Outline
import Derived.Test.YtmefagflnhkbdaaGreatVD02
import Derived.Lib.AppendZeros
import Derived.Lib.AppendZerosOnto
import Derived.Lib.BufferWrite
import Derived.Lib.UnsafeStr
import Derived.Lib.Strings
import Derived.Lib.Walk
import Derived.Laws.MakeOwn
import Derived.Test.YtmefagflnhkbdaaGreatVD04
import Derived.Test.YtmefagflnhkbdaaGreatVD03
namespace Go.Proofs.YtmefagflnhkbdaaGreat.Qb
set_option linter.unusedSimpArgs false
open Go Go.RowKit Ck Kw Ca Cb Ce Ch Ci Pm Pa Pe Pf Pg Ph Ppi Pk
set_option linter.unusedVariables false

theorem results_row1 {P : Program} {fn : Func} {p : Tmp} {ty : TypeId} (h : fn.results = #[.cell p ty]) (tmps : Array Value) (w : World) (g : Nat) (t : TypeId) (cs : Array Value) (fr : Nat × Nat) (d : TypeDesc)
    (hp : tmps.getD p undef = .pointer (some ⟨g, 0, none⟩)) (hg : w.heap[g]? = some (.cells cs t fr))
    (hu : P.underlying ty = some d) (hd : (match d with | .struct _ | .array _ _ => true | _ => false) = true) (hi : (P.info? ty).map (·.size) = some cs.size) :
    (results fn tmps).run P w = .ok (.agg cs) w := by
  have hp' : tmps[p]?.getD undef = .pointer (some ⟨g, 0, none⟩) := by simpa using hp
  simp [results, h, hp', asAddr, run_loadVar_row w g t ty cs fr d hg hu hd hi]
theorem size_op : (Tryz.prog.info? 38).map (·.size) = some 5 := by kernel_rfl
theorem blk5 {w : World} {g : Nat} {t : TypeId} {a b c d e x0 x1 x2 x3 x4 : Value} (h : Blk w g t #[a, b, c, d, e]) :
    Blk (((((w.setCell ⟨g, 0, none⟩ x0).setCell ⟨g, 1, none⟩ x1).setCell ⟨g, 2, none⟩ x2).setCell ⟨g, 3, none⟩ x3).setCell ⟨g, 4, none⟩ x4) g t #[x0, x1, x2, x3, x4] := by
  have := ((((h.set_ 0 x0).set_ 1 x1).set_ 2 x2).set_ 3 x3).set_ 4 x4
  simpa using this
theorem Blk.cells5 {W : World} {g : Nat} {t : TypeId} {a b c d e : Value} (h : Blk W g t #[a, b, c, d, e]) :
    (W.cell? ⟨g, 0, none⟩ = some a ∧ W.cell? ⟨g, 1, none⟩ = some b ∧ W.cell? ⟨g, 2, none⟩ = some c ∧ W.cell? ⟨g, 3, none⟩ = some d ∧ W.cell? ⟨g, 4, none⟩ = some e) ∧
    (W.frozen? ⟨g, 0, none⟩ = false ∧ W.frozen? ⟨g, 1, none⟩ = false ∧ W.frozen? ⟨g, 2, none⟩ = false ∧ W.frozen? ⟨g, 3, none⟩ = false ∧ W.frozen? ⟨g, 4, none⟩ = false) :=
  ⟨⟨h.cell 0, h.cell 1, h.cell 2, h.cell 3, h.cell 4⟩, ⟨h.frozen 0, h.frozen 1, h.frozen 2, h.frozen 3, h.frozen 4⟩⟩

/-- The cells of no operation. -/
def Z5 : Array Value := #[.int .i64 0, .string ⟨#[]⟩, .string ⟨#[]⟩, .int .i64 0, .slice none 0 0]
/-- Within the call: the result's cells, the operation's, its kind's fields, the reader. -/
structure RD (w0 : World) (X : Nat → Prop) (g g1 g2 g3 : Nat) (k : Int) (cs : Array Value) (s : Cm.RS) (W : World) : Prop where
  grown : w0.grownBy W (some g)
  old : g < w0.heap.size
  new1 : w0.heap.size ≤ g1
  new2 : w0.heap.size ≤ g2
  new3 : w0.heap.size ≤ g3
  far : g1 ≠ g2
  far3 : g3 ≠ g2
  far4 : g3 ≠ g1
  res : Blk W g1 38 Z5
  op : Blk W g2 38 cs
  fld : FB W g3 k
  rd : CR W (fun k => X k ∨ w0.heap.size ≤ k) g s
section
variable {w0 W W' : World} {X : Nat → Prop} {g g1 g2 g3 : Nat} {k : Int} {cs cs' : Array Value} {s s' : Cm.RS}
theorem RD.next (h : RD w0 X g g1 g2 g3 k cs s W) (hg : W.grownBy W' (some g)) (hc : CR W' (fun k => X k ∨ w0.heap.size ≤ k) g s') : RD w0 X g g1 g2 g3 k cs s' W' := by
  have o := h.old; have n1 := h.new1; have n2 := h.new2; have n3 := h.new3
  exact ⟨h.grown.trans hg, h.old, h.new1, h.new2, h.new3, h.far, h.far3, h.far4, h.res.grown hg (by simp; omega), h.op.grown hg (by simp; omega), Blk.grown h.fld hg (by simp; omega), hc⟩
theorem RD.later (h : RD w0 X g g1 g2 g3 k cs s W) (hb : Below W.heap.size W W') : RD w0 X g g1 g2 g3 k cs s W' :=
  h.next (grown_of_below hb _) (h.rd.after hb)
theorem RD.put (h : RD w0 X g g1 g2 g3 k cs s W) (i : Nat) (u : Value) (hcs : cs.setIfInBounds i u = cs') : RD w0 X g g1 g2 g3 k cs' s (W.setCell ⟨g2, i, none⟩ u) := by
  subst hcs
  have o := h.old; have n1 := h.new1; have n2 := h.new2; have n3 := h.new3; have f1 := h.far; have f3 := h.far3
  exact ⟨grown_setCell h.grown (.inr n2) u, h.old, h.new1, h.new2, h.new3, h.far, h.far3, h.far4, h.res.far f1 u, h.op.set_ i u, Blk.far h.fld f3 u,
    h.rd.grown (row := some g2) (grown_setCell (World.grownBy.refl W (some g2)) (.inl rfl) u) (by simp; omega) (fun q hq _ => by injection hq with hq; exact .inr (by omega))⟩
end
theorem res_blk {W : World} {g1 : Nat} (h : Blk W g1 38 Z5) (x0 x1 x2 x3 x4 : Value) :
    (((((W.setCell ⟨g1, 0, none⟩ x0).setCell ⟨g1, 1, none⟩ x1).setCell ⟨g1, 2, none⟩ x2).setCell ⟨g1, 3, none⟩ x3).setCell ⟨g1, 4, none⟩ x4).heap[g1]? = some (.cells #[x0, x1, x2, x3, x4] 38 (0, 0)) := blk5 h
theorem ls_nil (W : World) (X : Nat → Prop) : Ls W X (.slice none 0 0) [] := ⟨[], Sl.nil _ _ _, fun i hi => absurd hi (by simp)⟩

end Go.Proofs.YtmefagflnhkbdaaGreat.Qb

/-
  Contracts of the document's own reader of layer 1: Read, Fail, Done, Num.
-/
namespace Go.Proofs.YtmefagflnhkbdaaGreat.Cj
set_option linter.unusedSimpArgs false
set_option linter.unusedVariables false
open Go Go.RowKit Ck Ca Cb Ce Ch

/-- The document's reader's block. -/
abbrev DB (w : World) (g : Nat) (v : Value) (err : Int) : Prop := Blk w g 114 #[v, .int .i64 err]
/-- The document's reader in memory. -/
def RR (w : World) (X : Nat → Prop) (g : Nat) (s : Cm.RS) : Prop :=
  ∃ A n c, DB w g (.slice A n c) s.2 ∧ Sl w (fun k => k = g ∨ X k) 1 (.slice A n c) n (BVs s.1) ∧ Cm.Good s
theorem RR.weaken {w : World} {X Y : Nat → Prop} {g : Nat} {s : Cm.RS} (h : RR w X g s) (hk : ∀ b, b < w.heap.size → Y b → X b) : RR w Y g s := by
  obtain ⟨A, n, c, hb, hsl, hgd⟩ := h
  exact ⟨A, n, c, hb, hsl.weaken fun b hb hy => by
    rcases hy with hy | hy
    · exact .inl hy
    · exact .inr (hk b hb hy), hgd⟩
theorem RR.grown {w w' : World} {X : Nat → Prop} {g : Nat} {s : Cm.RS} {row : Option Nat} (h : RR w X g s) (hg : w.grownBy w' row) (hne : some g ≠ row) (hr : ∀ k, row = some k → k < w.heap.size → X k) : RR w' X g s := by
  obtain ⟨A, n, c, hb, hsl, hgd⟩ := h
  exact ⟨A, n, c, Blk.grown hb hg hne, hsl.grown hg fun k hk hlt => .inr (hr k hk hlt), hgd⟩
theorem RR.after {w w' : World} {X : Nat → Prop} {g : Nat} {s : Cm.RS} (h : RR w X g s) (hb : Below w.heap.size w w') : RR w' X g s :=
  h.grown (grown_of_below hb none) (by simp) (by simp)
theorem RR.old {w : World} {X : Nat → Prop} {g : Nat} {s : Cm.RS} (h : RR w X g s) {B : Nat} (hB : w.heap.size ≤ B) : RR w (fun k => X k ∨ B ≤ k) g s := by
  obtain ⟨A, n, c, hb, hsl, hgd⟩ := h
  refine ⟨A, n, c, hb, (hsl.old hB).weaken fun b _ hy => ?_, hgd⟩
  rcases hy with hy | hy | hy
  · exact .inl (.inl hy)
  · exact .inl (.inr hy)
  · exact .inr hy
theorem RR.lt {w : World} {X : Nat → Prop} {g : Nat} {s : Cm.RS} (h : RR w X g s) : g < w.heap.size := by
  obtain ⟨A, n, c, hb, _⟩ := h
  exact hb.lt

end Go.Proofs.YtmefagflnhkbdaaGreat.Cj

/-
  Contracts of the document's own reader of layer 1: Num, Take, Bytes, List.
-/
namespace Go.Proofs.YtmefagflnhkbdaaGreat.Co
set_option linter.unusedSimpArgs false
set_option linter.unusedVariables false
open Go Go.RowKit Ck Ca Cb Ce Ch Ci Cj

/-- What a reading of bytes leaves. -/
def RTaken (w : World) (X : Nat → Prop) (g : Nat) (r : List UInt8 × Cm.RS) (e : Ending) (w' : World) : Prop :=
  ∃ v, e = .returned v ∧ w'.ownsRow w.heap.size 5 1 v r.1.length (BVs r.1) ∧ w.grownBy w' (some g) ∧ RR w' X g r.2
theorem RTaken.nil {w w' : World} {X : Nat → Prop} {g : Nat} {s : Cm.RS} (hg : w.grownBy w' (some g)) (hc : RR w' X g s) : RTaken w X g ([], s) (.returned (.slice none 0 0)) w' :=
  ⟨_, rfl, World.ownsRow_nil _ _ _ _, hg, hc⟩

end Go.Proofs.YtmefagflnhkbdaaGreat.Co

/-
  Layer 6 (op): the contract of the document's own Take, kind by kind.
-/
namespace Go.Proofs.YtmefagflnhkbdaaGreat.Qc
set_option linter.unusedSimpArgs false
open Go Go.RowKit Ck Kw Ca Cb Ce Ch Ci Cj Co Pm Pa Pe Pf Pg Ph Ppi Pk Qb
set_option linter.unusedVariables false

section
variable {P : Program}
end

/-- Within the call: the result's cells, the operation's, the reader. -/
structure RX (w0 : World) (X : Nat → Prop) (g g1 g2 : Nat) (cs : Array Value) (s : Cm.RS) (W : World) : Prop where
  grown : w0.grownBy W (some g)
  old : g < w0.heap.size
  new1 : w0.heap.size ≤ g1
  new2 : w0.heap.size ≤ g2
  far : g1 ≠ g2
  res : Blk W g1 38 Z5
  op : Blk W g2 38 cs
  rd : RR W (fun k => X k ∨ w0.heap.size ≤ k) g s
section
variable {w0 W W' : World} {X : Nat → Prop} {g g1 g2 : Nat} {cs cs' : Array Value} {s s' : Cm.RS}
theorem RX.next (h : RX w0 X g g1 g2 cs s W) (hg : W.grownBy W' (some g)) (hc : RR W' (fun k => X k ∨ w0.heap.size ≤ k) g s') : RX w0 X g g1 g2 cs s' W' := by
  have o := h.old; have n1 := h.new1; have n2 := h.new2
  exact ⟨h.grown.trans hg, h.old, h.new1, h.new2, h.far, h.res.grown hg (by simp; omega), h.op.grown hg (by simp; omega), hc⟩
theorem RX.later (h : RX w0 X g g1 g2 cs s W) (hb : Below W.heap.size W W') : RX w0 X g g1 g2 cs s W' := h.next (grown_of_below hb _) (h.rd.after hb)
theorem RX.row {row : Option Nat} (h : RX w0 X g g1 g2 cs s W) (hg : W.grownBy W' row) (hr : ∀ q, row = some q → g < q ∧ g1 < q ∧ g2 < q) : RX w0 X g g1 g2 cs s W' := by
  have n1 := h.new1
  refine ⟨grown_step h.grown hg (.inr fun q hq => by have := hr q hq; omega), h.old, h.new1, h.new2, h.far, h.res.grown hg (fun e => by have := hr g1 e.symm; omega), h.op.grown hg (fun e => by have := hr g2 e.symm; omega), h.rd.grown hg (fun e => by have := hr g e.symm; omega) (fun q hq _ => .inr (by have := hr q hq; omega))⟩
theorem RX.put (h : RX w0 X g g1 g2 cs s W) (i : Nat) (u : Value) (hcs : cs.setIfInBounds i u = cs') : RX w0 X g g1 g2 cs' s (W.setCell ⟨g2, i, none⟩ u) := by
  subst hcs
  have o := h.old; have n2 := h.new2; have f1 := h.far
  exact ⟨grown_setCell h.grown (.inr n2) u, h.old, h.new1, h.new2, h.far, h.res.far f1 u, h.op.set_ i u,
    h.rd.grown (row := some g2) (grown_setCell (World.grownBy.refl W (some g2)) (.inl rfl) u) (by simp; omega) (fun q hq _ => by injection hq with hq; exact .inr (by omega))⟩
/-- The reader's error. -/
theorem RX.err (h : RX w0 X g g1 g2 cs s W) : W.cell? ⟨g, 1, none⟩ = some (.int .i64 s.2) := by
  obtain ⟨A, n, c, hb, _⟩ := h.rd
  exact hb.cell 1
end
end Go.Proofs.YtmefagflnhkbdaaGreat.Qc

/-
  Layer 6 (op): the contracts of Take, Parse and TakeResult.
-/
namespace Go.Proofs.YtmefagflnhkbdaaGreat.Qt
set_option linter.unusedSimpArgs false
open Go Go.RowKit Ck Kw Ca Cb Ce Ch Ci Pm Pa Pe Pf Pg Ph Ppi Pk Qb
set_option linter.unusedVariables false

/-- Within the call: the result's cells, a thing's cells, the reader. -/
structure RC (w0 : World) (X : Nat → Prop) (g g1 g2 : Nat) (t : TypeId) (zs cs : Array Value) (s : Cm.RS) (W : World) : Prop where
  grown : w0.grownBy W (some g)
  old : g < w0.heap.size
  new1 : w0.heap.size ≤ g1
  new2 : w0.heap.size ≤ g2
  far : g1 ≠ g2
  res : Blk W g1 t zs
  op : Blk W g2 t cs
  rd : CR W (fun k => X k ∨ w0.heap.size ≤ k) g s
section
variable {w0 W W' : World} {X : Nat → Prop} {g g1 g2 : Nat} {t : TypeId} {zs cs cs' : Array Value} {s s' : Cm.RS}
theorem RC.next (h : RC w0 X g g1 g2 t zs cs s W) (hg : W.grownBy W' (some g)) (hc : CR W' (fun k => X k ∨ w0.heap.size ≤ k) g s') : RC w0 X g g1 g2 t zs cs s' W' := by
  have o := h.old; have n1 := h.new1; have n2 := h.new2
  exact ⟨h.grown.trans hg, h.old, h.new1, h.new2, h.far, h.res.grown hg (by simp; omega), h.op.grown hg (by simp; omega), hc⟩
theorem RC.later (h : RC w0 X g g1 g2 t zs cs s W) (hb : Below W.heap.size W W') : RC w0 X g g1 g2 t zs cs s W' := h.next (grown_of_below hb _) (h.rd.after hb)
theorem RC.put (h : RC w0 X g g1 g2 t zs cs s W) (i : Nat) (u : Value) (hcs : cs.setIfInBounds i u = cs') : RC w0 X g g1 g2 t zs cs' s (W.setCell ⟨g2, i, none⟩ u) := by
  subst hcs
  have o := h.old; have n2 := h.new2; have f1 := h.far
  exact ⟨grown_setCell h.grown (.inr n2) u, h.old, h.new1, h.new2, h.far, h.res.far f1 u, h.op.set_ i u,
    h.rd.grown (row := some g2) (grown_setCell (World.grownBy.refl W (some g2)) (.inl rfl) u) (by simp; omega) (fun q hq _ => by injection hq with hq; exact .inr (by omega))⟩
end
theorem size_res : (Tryz.prog.info? 30).map (·.size) = some 2 := by kernel_rfl
theorem blk2 {w : World} {g : Nat} {t : TypeId} {x y u v : Value} (h : Blk w g t #[u, v]) : Blk ((w.setCell ⟨g, 0, none⟩ x).setCell ⟨g, 1, none⟩ y) g t #[x, y] := by
  have := (h.set_ 0 x).set_ 1 y
  simpa using this
end Go.Proofs.YtmefagflnhkbdaaGreat.Qt

/-
  Layer 6 (op): the contracts of Same, the document's and the program's.
-/
namespace Go.Proofs.YtmefagflnhkbdaaGreat.Qs
set_option linter.unusedSimpArgs false
open Go Go.RowKit Ck Kw Ca Cb Pm Pa Pe Pf Pg Ph Ppi Pk
set_option linter.unusedVariables false

/-- Two operations stand there. -/
structure SB (w0 : World) (g1 g2 : Nat) (a b : O) (A B : Option Addr) (c d : Nat) (X Y : Nat → Prop) (W : World) : Prop where
  below : Below w0.heap.size w0 W
  one : OB W g1 a A c
  two : OB W g2 b B d
  la : Ls W X (.slice A a.recs.length c) a.recs
  lb : Ls W Y (.slice B b.recs.length d) b.recs
theorem SB.drewN {w0 W : World} {g1 g2 : Nat} {a b : O} {A B : Option Addr} {c d : Nat} {X Y : Nat → Prop} (h : SB w0 g1 g2 a b A B c d X Y W) (n : Nat) : SB w0 g1 g2 a b A B c d X Y (W.drewN n) :=
  ⟨below_drewN h.below n, h.one, h.two, h.la, h.lb⟩

end Go.Proofs.YtmefagflnhkbdaaGreat.Qs

/-
  Layer 6 (op): the contract of bullalaw06.begun; the walk of the statement OpNames.
-/
namespace Go.Proofs.YtmefagflnhkbdaaGreat.Pl
set_option linter.unusedSimpArgs false
open Go Go.RowKit Ck Kw Ca Cb Ci Pm Pa Pe Pf Pg Ph Ppi Kx Pk
set_option linter.unusedVariables false

def W0 (w : World) : World := (w.alloc (.cells #[.int .u8 9] 5)).alloc (.cells #[.slice (some ⟨w.heap.size, 0, none⟩) 1 1] 67)
end Go.Proofs.YtmefagflnhkbdaaGreat.Pl

/-
  Layer 6 (op): the walk of the statement OpReads.
-/
namespace Go.Proofs.YtmefagflnhkbdaaGreat.Qd
set_option linter.unusedSimpArgs false
open Go Go.RowKit Ck Kw Ca Cb Ce Ch Ci Cj Co Pm Pa Pe Pf Pg Ph Ppi Pk Pl Qb Qc Qt Qs
attribute [local go_sem ↓] Go.wp_at_zero Go.wp_at_succ
set_option linter.unusedVariables false

/-- An operation's cells, kept in a block. -/
structure KO (W : World) (B g : Nat) (o : O) (A : Option Addr) (c : Nat) : Prop where
  op : OB W g o A c
  new : B ≤ g
  ls : Ls W (fun k => k < B) (.slice A o.recs.length c) o.recs
theorem KO.later {W W' : World} {B g : Nat} {o : O} {A : Option Addr} {c : Nat} (h : KO W B g o A c) (hb : Below W.heap.size W W') : KO W' B g o A c := ⟨Blk.below h.op hb (Blk.lt h.op), h.new, h.ls.after hb⟩
theorem KO.oi {W : World} {B g : Nat} {o : O} {A : Option Addr} {c : Nat} (h : KO W B g o A c) : OI W (fun k => k < B) (OV o A c) o := ⟨A, c, rfl, h.ls⟩
theorem al_below (W : World) (o : Obj) : Below W.heap.size W (W.alloc o) := (Below.refl _ W).alloc (Nat.le_refl _) _
theorem OB.cells' {W : World} {g : Nat} {o : O} {A : Option Addr} {c : Nat} (h : OB W g o A c) :
    W.cell? ⟨g, 0, none⟩ = some (.int .i64 o.kind) ∧ W.cell? ⟨g, 1, none⟩ = some (.string ⟨o.topic.toArray⟩) ∧ W.cell? ⟨g, 2, none⟩ = some (.string ⟨o.group.toArray⟩) ∧ W.cell? ⟨g, 3, none⟩ = some (.int .i64 o.off) ∧ W.cell? ⟨g, 4, none⟩ = some (.slice A o.recs.length c) := h.cells

/-- Both readers stand there, at the same place. -/
structure TW (w0 : World) (B gr gs : Nat) (s : Cm.RS) (W : World) : Prop where
  below : Below w0.heap.size w0 W
  r : CR W (fun k => B ≤ k) gr s
  s : RR W (fun k => w0.heap.size ≤ k) gs s
  hr : w0.heap.size ≤ gr ∧ gr < B
  hs : B ≤ gs
  hB : w0.heap.size ≤ B
theorem TW.later {w0 W W' : World} {B gr gs : Nat} {s : Cm.RS} (h : TW w0 B gr gs s W) (hb : Below W.heap.size W W') : TW w0 B gr gs s W' :=
  ⟨h.below.trans (hb.mono h.below.size), h.r.after hb, h.s.after hb, h.hr, h.hs, h.hB⟩
/-- Both operations that were taken, and both readers. -/
structure XS (w0 : World) (B gr gs g : Nat) (x : O) (A : Option Addr) (c : Nat) (A' : Option Addr) (c' : Nat) (s : Cm.RS) (W : World) : Prop where
  tw : TW w0 B gr gs s W
  kx : KO W w0.heap.size g x A c
  ky : KO W w0.heap.size (g + 1) x A' c'
theorem XS.later {w0 W W' : World} {B gr gs g : Nat} {x : O} {A : Option Addr} {c : Nat} {A' : Option Addr} {c' : Nat} {s : Cm.RS} (h : XS w0 B gr gs g x A c A' c' s W) (hb : Below W.heap.size W W') : XS w0 B gr gs g x A c A' c' s W' := ⟨h.tw.later hb, h.kx.later hb, h.ky.later hb⟩
theorem XS.drew {w0 W : World} {B gr gs g : Nat} {x : O} {A : Option Addr} {c : Nat} {A' : Option Addr} {c' : Nat} {s : Cm.RS} (h : XS w0 B gr gs g x A c A' c' s W) : XS w0 B gr gs g x A c A' c' s W.drew := h.later (below_drewN (Below.refl _ W) 1)
theorem TW.err {w0 W : World} {B gr gs : Nat} {s : Cm.RS} (h : TW w0 B gr gs s W) : W.cell? ⟨gs, 1, none⟩ = some (.int .i64 s.2) := by
  obtain ⟨A, n, c, hb, -⟩ := h.s
  have q := hb.cell 1
  simpa using q
theorem XS.cells {w0 W : World} {B gr gs g : Nat} {x : O} {A : Option Addr} {c : Nat} {A' : Option Addr} {c' : Nat} {s : Cm.RS} (h : XS w0 B gr gs g x A c A' c' s W) :
    W.cell? ⟨g, 0, none⟩ = some (.int .i64 x.kind) ∧ W.cell? ⟨g, 1, none⟩ = some (.string ⟨x.topic.toArray⟩) ∧ W.cell? ⟨g, 2, none⟩ = some (.string ⟨x.group.toArray⟩) ∧ W.cell? ⟨g, 3, none⟩ = some (.int .i64 x.off) ∧ W.cell? ⟨g, 4, none⟩ = some (.slice A x.recs.length c)
    ∧ W.cell? ⟨g + 1, 0, none⟩ = some (.int .i64 x.kind) ∧ W.cell? ⟨g + 1, 1, none⟩ = some (.string ⟨x.topic.toArray⟩) ∧ W.cell? ⟨g + 1, 2, none⟩ = some (.string ⟨x.group.toArray⟩) ∧ W.cell? ⟨g + 1, 3, none⟩ = some (.int .i64 x.off) ∧ W.cell? ⟨g + 1, 4, none⟩ = some (.slice A' x.recs.length c')
    ∧ W.cell? ⟨gs, 1, none⟩ = some (.int .i64 s.2) := by
  obtain ⟨a0, a1, a2, a3, a4⟩ := h.kx.op.cells
  obtain ⟨b0, b1, b2, b3, b4⟩ := h.ky.op.cells
  exact ⟨a0, a1, a2, a3, a4, b0, b1, b2, b3, b4, h.tw.err⟩

end Go.Proofs.YtmefagflnhkbdaaGreat.Qd

/-
  Layer 6 (op): the document's own Put, kind by kind, and its Bytes.
-/
namespace Go.Proofs.YtmefagflnhkbdaaGreat.Pn
set_option linter.unusedSimpArgs false
open Go Go.RowKit Ck Kw Ca Cb Cd Ci Pm Pa Pe Pf Pg Ph Ppi Kx Pk
set_option linter.unusedVariables false

/-- The operation stands there, and a row of the call's own. -/
structure RB (w0 : World) (g1 : Nat) (o : O) (A : Option Addr) (c : Nat) (v : Value) (l : Tx) (W : World) : Prop where
  rk : RK w0 g1 o A c W
  row : W.ownsRow w0.heap.size 5 1 v l.length (BVs l)
theorem RB.put {w0 W W1 W2 : World} {g1 : Nat} {o : O} {A : Option Addr} {c : Nat} {v' : Value} {l' : Tx} (h : RK w0 g1 o A c W) (b1 : Below W.heap.size W W1) (hown : W2.ownsRow W1.heap.size 5 1 v' l'.length (BVs l')) (b2 : Below W1.heap.size W1 W2) : RB w0 g1 o A c v' l' W2 := by
  have b : Below W.heap.size W W2 := b1.trans (b2.mono b1.size)
  exact ⟨h.later b, own_base hown (Nat.le_trans h.below.size b1.size)⟩
end Go.Proofs.YtmefagflnhkbdaaGreat.Pn

/-
  Layer 6 (op): the contracts of slices.Grow, slices.Concat, strings.Clone.
-/
namespace Go.Proofs.YtmefagflnhkbdaaGreat.Pj
set_option linter.unusedSimpArgs false
open Go Go.RowKit Ck Kw Ca Cb Pm Pa
set_option linter.unusedVariables false

set_option maxRecDepth 100000 in
set_option maxHeartbeats 2000000 in
theorem slclone_any (l : Tx) (w : World) (hlim : l.length ≤ 140737488355328) :
    Calls Tryz.prog 132 #[SV l] w fun e w' => e = .returned (SV l) ∧ Below w.heap.size w w' := by
  unfold SV
  have hsl := sv_size l
  generalize hs : ByteArray.mk l.toArray = s at *
  have hlim' : s.size ≤ 140737488355328 := by omega
  clear hs hsl hlim
  by_cases h0 : s.size = 0
  · have hs : s = ⟨#[]⟩ := by
      apply ByteArray.ext
      exact Array.eq_empty_of_size_eq_zero h0
    subst hs
    go_enter Tryz.func132, Tryz.ntmps132
    go_wp2
    go_ret
    exact ⟨rfl, Below.refl _ _⟩
  · obtain ⟨i0, hi, hz0, hz1, hz2⟩ := info_parts info_u8
    have hinfo : (Tryz.prog.info? 5).map (·.size) = some 1 := by rw [hi]; simp [hz1]
    have hco : Tryz.prog.cellsOf 5 = 1 := by simp [Program.cellsOf, hi, hz1]
    obtain ⟨M, hM⟩ : ∃ M, M = madeCells (Value.int .u8 0).cells (((s.size : Nat) : Int).toNat * i0.size) := ⟨_, rfl⟩
    have hMs : M.size = s.size := by rw [hM, size_madeCells, hz1]; simp
    have hmk : ∀ W : World, (Instr.makeSlice 49 (.int .i64 (s.size : Int)) (.int .i64 (s.size : Int))).run Tryz.prog W = .ok (.slice (some ⟨W.heap.size, 0, none⟩) s.size s.size) (W.alloc (.cells M 5)) := fun W => by
      have h := run_make (P := Tryz.prog) W 49 5 i0 (.int .u8 0) Tryz.underlying49 hi hz0 .i64 .i64 (s.size : Int) (s.size : Int) (by omega) (by omega) (by rw [hz2]; omega) (by omega)
      rw [← hM] at h
      simpa using h
    clear hM
    have hcp := Lib.run_copy_row_string (P := Tryz.prog) (w.alloc (.cells M 5)) 49 9 3 5 w.heap.size 0 s.size s.size s M 5 Tryz.underlying49 hinfo (heap_alloc_new w _) (Nat.le_refl _) (by omega)
    obtain ⟨Y, hY⟩ : ∃ Y, Y = (M.toList.take 0 ++ Lib.byteCells s.data.toList ++ M.toList.drop (0 + s.size)).toArray := ⟨_, rfl⟩
    rw [← hY] at hcp
    have hYl : Y.toList = Lib.byteCells s.data.toList := by
      rw [hY, List.toList_toArray, List.take_zero, List.nil_append, List.drop_of_length_le (by rw [Array.length_toList]; omega), List.append_nil]
    have hYs : Y.size = s.size := by rw [← Array.length_toList, hYl, Lib.byteCells_length, ← Lib.size_eq]
    have hgY : ((w.alloc (.cells M 5)).setRow w.heap.size Y).heap[w.heap.size]? = some (.cells Y 5 (0, 0)) := setRow_heap _ _ M _ 5 (0, 0) (heap_alloc_new w _)
    have hne : s.data.toList ≠ [] := fun e => h0 (by rw [Lib.size_eq, e]; rfl)
    have hUS := Lib.run_unsafeString_row (P := Tryz.prog) ((w.alloc (.cells M 5)).setRow w.heap.size Y) 213 3 9 5 Tryz.underlying213 hco w.heap.size Y.size (by unfold World.shape?; rw [hgY]) s.data.toList hne (by rw [← Lib.size_eq]; omega) (by rw [← Lib.size_eq]; omega)
      (fun j x hx => Lib.cells_of_row hgY Y.size j _ (by rw [List.take_of_length_le (by rw [Array.length_toList]; exact Nat.le_refl _), hYl]; simp [Lib.byteCells, hx]))
    rw [← Lib.size_eq] at hUS
    clear hY
    go_enter Tryz.func132, Tryz.ntmps132
    go_wp2
    go_ret
    have hb1 : Below w.heap.size w (w.alloc (.cells M 5)) := (Below.refl _ w).alloc (Nat.le_refl _) _
    have hb2 : Below w.heap.size (w.alloc (.cells M 5)) ((w.alloc (.cells M 5)).setRow w.heap.size Y) := ⟨rfl, rfl, rfl, by simp, fun k hk => setRow_other _ _ _ _ (by omega)⟩
    exact ⟨rfl, Lib.below_freeze (hb1.trans hb2) (p := ⟨w.heap.size, 0, none⟩) (Nat.le_refl _) _⟩

theorem sclone_any (l : Tx) (w : World) (hlim : l.length ≤ 140737488355328) :
    Calls Tryz.prog 106 #[SV l] w fun e w' => e = .returned (SV l) ∧ Below w.heap.size w w' := by
  have HC := Lib.hid (slclone_any l w hlim)
  unfold SV at HC ⊢
  go_enter Tryz.func106, Tryz.ntmps106
  go_wp2_with (go_at_call 132; refine HC.out.mono ?_; rintro e w1 ⟨rfl, hb⟩)
  go_ret
  exact ⟨rfl, hb⟩

end Go.Proofs.YtmefagflnhkbdaaGreat.Pj

/-
  Layer 6 (op): bytes.HasPrefix; the walk of the statement OpApart.
-/
namespace Go.Proofs.YtmefagflnhkbdaaGreat.Qf
set_option linter.unusedSimpArgs false
open Go Go.RowKit Ck Kw Ca Cb Ci Pm Pa Pe Pf Pg Ph Ppi Pk Pl Qs
set_option linter.unusedVariables false

def pre (k l : Tx) : Bool := decide (k <+: l)
/-- A row of new bytes, kept. -/
structure VB (w0 : World) (v : Value) (l : Tx) (W : World) : Prop where
  below : Below w0.heap.size w0 W
  row : Sl W (fun k => k < w0.heap.size) 1 v l.length (BVs l)
theorem VB.later {w0 W W' : World} {v : Value} {l : Tx} (h : VB w0 v l W) (b : Below W.heap.size W W') : VB w0 v l W' := ⟨h.below.trans (b.mono h.below.size), h.row.after b⟩

end Go.Proofs.YtmefagflnhkbdaaGreat.Qf

/-
  Layer 6 (op): slices.Clone at bytes; the walk of the statement OpBytes.
-/
namespace Go.Proofs.YtmefagflnhkbdaaGreat.Qa
set_option linter.unusedSimpArgs false
open Go Go.RowKit Ck Kw Ca Cb Cd Ci Pm Pa Pe Pf Pg Ph Ppi Pj Kx Pk Pl Pn Qs Qf
attribute [local go_sem ↓] Go.wp_at_zero Go.wp_at_succ
set_option linter.unusedVariables false

/-- What stands there: the operation, the result, the bytes. -/
structure ST (w0 : World) (o : O) (A : Option Addr) (c : Nat) (e f : Int) (vb : Value) (b : Tx) (W : World) : Prop where
  below : Below w0.heap.size w0 W
  op : OB W w0.heap.size o A c
  res : Blk W (w0.heap.size + 1) 30 #[.int .i64 e, .int .i64 f]
  ls : Ls W (fun k => w0.heap.size ≤ k) (.slice A o.recs.length c) o.recs
  b : Sl W (fun k => w0.heap.size ≤ k) 1 vb b.length (BVs b)
section
variable {w0 W W' : World} {o : O} {A : Option Addr} {c : Nat} {e f : Int} {vb : Value} {b : Tx}
theorem ST.later (h : ST w0 o A c e f vb b W) (hb : Below W.heap.size W W') : ST w0 o A c e f vb b W' :=
  ⟨h.below.trans (hb.mono h.below.size), Blk.below h.op hb (Blk.lt h.op), h.res.below hb h.res.lt, h.ls.after hb, h.b.after hb⟩
theorem ST.drew (h : ST w0 o A c e f vb b W) : ST w0 o A c e f vb b W.drew := ⟨below_drewN h.below 1, h.op, h.res, h.ls, h.b⟩
theorem ST.oi (h : ST w0 o A c e f vb b W) : OI W (fun k => w0.heap.size ≤ k) (OV o A c) o := ⟨A, c, rfl, h.ls⟩
theorem ST.cells (h : ST w0 o A c e f vb b W) : W.cell? ⟨w0.heap.size, 0, none⟩ = some (.int .i64 o.kind) ∧ W.cell? ⟨w0.heap.size, 1, none⟩ = some (.string ⟨o.topic.toArray⟩) ∧ W.cell? ⟨w0.heap.size, 2, none⟩ = some (.string ⟨o.group.toArray⟩) ∧ W.cell? ⟨w0.heap.size, 3, none⟩ = some (.int .i64 o.off) ∧ W.cell? ⟨w0.heap.size, 4, none⟩ = some (.slice A o.recs.length c) ∧
    W.cell? ⟨w0.heap.size + 1, 0, none⟩ = some (.int .i64 e) ∧ W.cell? ⟨w0.heap.size + 1, 1, none⟩ = some (.int .i64 f) :=
  ⟨h.op.cells.1, h.op.cells.2.1, h.op.cells.2.2.1, h.op.cells.2.2.2.1, h.op.cells.2.2.2.2, h.res.cell 0, h.res.cell 1⟩
end
end Go.Proofs.YtmefagflnhkbdaaGreat.Qa

/-
  Layer 6 (op): the walk of the statement OpBack.
-/
namespace Go.Proofs.YtmefagflnhkbdaaGreat.Qe
set_option linter.unusedSimpArgs false
open Go Go.RowKit Ck Kw Ca Cb Ce Ch Ci Cj Co Kx Pm Pa Pe Pf Pg Ph Ppi Pk Pl Py Qb Qc Qt Qs Qd
attribute [local go_sem ↓] Go.wp_at_zero Go.wp_at_succ
set_option linter.unusedVariables false

/-- What stands there: the operation and the bytes. -/
structure EB (w0 : World) (o : O) (A : Option Addr) (c : Nat) (vb : Value) (b : Tx) (W : World) : Prop where
  below : Below w0.heap.size w0 W
  op : OB W w0.heap.size o A c
  ls : Ls W (fun k => w0.heap.size ≤ k) (.slice A o.recs.length c) o.recs
  b : Sl W (fun k => w0.heap.size ≤ k) 1 vb b.length (BVs b)
variable {w0 W W' : World} {o : O} {A : Option Addr} {c : Nat} {vb : Value} {b : Tx}
theorem EB.later (h : EB w0 o A c vb b W) (hb : Below W.heap.size W W') : EB w0 o A c vb b W' :=
  ⟨h.below.trans (hb.mono h.below.size), Blk.below h.op hb (Blk.lt h.op), h.ls.after hb, h.b.after hb⟩
theorem EB.drew (h : EB w0 o A c vb b W) : EB w0 o A c vb b W.drew := h.later (below_drewN (Below.refl _ W) 1)
theorem EB.oi (h : EB w0 o A c vb b W) : OI W (fun k => w0.heap.size ≤ k) (OV o A c) o := ⟨A, c, rfl, h.ls⟩
/-- The operation, what was read of its bytes, twice, and the reader. -/
structure BB (w0 : World) (M g3 g7 g : Nat) (o : O) (A : Option Addr) (c : Nat) (Ax : Option Addr) (cx : Nat) (Ay : Option Addr) (cy : Nat) (vb : Value) (b : Tx) (W : World) : Prop where
  eb : EB w0 o A c vb b W
  x : OB W g3 o Ax cx
  lx : Ls W (fun k => M ≤ k) (.slice Ax o.recs.length cx) o.recs
  y : OB W g7 o Ay cy
  ly : Ls W (fun k => k < M) (.slice Ay o.recs.length cy) o.recs
  rd : CR W (fun k => k < M) g (b, 0)
theorem BB.later {M g3 g7 g : Nat} {Ax : Option Addr} {cx : Nat} {Ay : Option Addr} {cy : Nat} (h : BB w0 M g3 g7 g o A c Ax cx Ay cy vb b W) (hb : Below W.heap.size W W') : BB w0 M g3 g7 g o A c Ax cx Ay cy vb b W' :=
  ⟨h.eb.later hb, Blk.below h.x hb (Blk.lt h.x), h.lx.after hb, Blk.below h.y hb (Blk.lt h.y), h.ly.after hb, h.rd.after hb⟩
theorem BB.cells {M g3 g7 g : Nat} {Ax : Option Addr} {cx : Nat} {Ay : Option Addr} {cy : Nat} (h : BB w0 M g3 g7 g o A c Ax cx Ay cy vb b W) :
    (W.cell? ⟨w0.heap.size, 0, none⟩ = some (.int .i64 o.kind) ∧ W.cell? ⟨w0.heap.size, 1, none⟩ = some (.string ⟨o.topic.toArray⟩) ∧ W.cell? ⟨w0.heap.size, 2, none⟩ = some (.string ⟨o.group.toArray⟩) ∧ W.cell? ⟨w0.heap.size, 3, none⟩ = some (.int .i64 o.off) ∧ W.cell? ⟨w0.heap.size, 4, none⟩ = some (.slice A o.recs.length c))
    ∧ (W.cell? ⟨g3, 0, none⟩ = some (.int .i64 o.kind) ∧ W.cell? ⟨g3, 1, none⟩ = some (.string ⟨o.topic.toArray⟩) ∧ W.cell? ⟨g3, 2, none⟩ = some (.string ⟨o.group.toArray⟩) ∧ W.cell? ⟨g3, 3, none⟩ = some (.int .i64 o.off) ∧ W.cell? ⟨g3, 4, none⟩ = some (.slice Ax o.recs.length cx))
    ∧ (W.cell? ⟨g7, 0, none⟩ = some (.int .i64 o.kind) ∧ W.cell? ⟨g7, 1, none⟩ = some (.string ⟨o.topic.toArray⟩) ∧ W.cell? ⟨g7, 2, none⟩ = some (.string ⟨o.group.toArray⟩) ∧ W.cell? ⟨g7, 3, none⟩ = some (.int .i64 o.off) ∧ W.cell? ⟨g7, 4, none⟩ = some (.slice Ay o.recs.length cy)) :=
  ⟨OB.cells h.eb.op, OB.cells h.x, OB.cells h.y⟩
end Go.Proofs.YtmefagflnhkbdaaGreat.Qe
