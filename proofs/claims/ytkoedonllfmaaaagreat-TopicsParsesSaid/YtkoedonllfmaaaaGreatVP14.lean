/-
  Layer 6 (op): the contract of the document's own Take, kind by kind.
-/
import Derived.Test.YtkoedonllfmaaaaGreatVP13
import Derived.Test.YtkoedonllfmaaaaGreatVPCo
import Derived.Deep.RegionLaw
import Derived.Deep.QuietTactic
import Derived.BigQuiet
import Derived.Deep.RegionHeld3
import Derived.Laws.StructEq
import Derived.Outline
import Derived.Test.YtkoedonllfmaaaaGreatVP11
import Derived.Test.YtkoedonllfmaaaaGreatVP02
import Derived.Lib.AppendZeros
import Derived.Lib.AppendZerosOnto
import Derived.Lib.BufferWrite
import Derived.Lib.UnsafeStr
import Derived.Lib.Strings
import Derived.Lib.Walk
import Derived.Laws.MakeOwn
import Derived.Test.YtkoedonllfmaaaaGreatVP04
import Derived.Lib.MinMax
import Derived.Test.YtkoedonllfmaaaaGreatVP03
namespace Go.Proofs.YtkoedonllfmaaaaGreat.Qc
set_option linter.unusedSimpArgs false
open Go Go.RowKit Ck Kw Ca Cb Ce Cf Cg Ch Ci Cj Cn Co Pm Pa Pe Pf Pg Ph Ppi Pk Pp Qb
set_option linter.unusedVariables false

section
variable {P : Program}
end

/-- Within the call: the result's cells, the operation's, the reader. -/
structure RX (w0 : World) (X : Nat → Prop) (g g1 g2 : Nat) (cs : Array Value) (s : Cm.RS) (W : World) : Prop where
  grown : w0.grownBy W (some g)
  old : g < w0.heap.size
  new1 : w0.heap.size ≤ g1
  new2 : w0.heap.size ≤ g2
  far : g1 ≠ g2
  res : Blk W g1 38 Z5
  op : Blk W g2 38 cs
  rd : RR W (fun k => X k ∨ w0.heap.size ≤ k) g s
section
variable {w0 W W' : World} {X : Nat → Prop} {g g1 g2 : Nat} {cs cs' : Array Value} {s s' : Cm.RS}
theorem RX.next (h : RX w0 X g g1 g2 cs s W) (hg : W.grownBy W' (some g)) (hc : RR W' (fun k => X k ∨ w0.heap.size ≤ k) g s') : RX w0 X g g1 g2 cs s' W' := by
  have o := h.old; have n1 := h.new1; have n2 := h.new2
  exact ⟨h.grown.trans hg, h.old, h.new1, h.new2, h.far, h.res.grown hg (by simp; omega), h.op.grown hg (by simp; omega), hc⟩
theorem RX.later (h : RX w0 X g g1 g2 cs s W) (hb : Below W.heap.size W W') : RX w0 X g g1 g2 cs s W' := h.next (grown_of_below hb _) (h.rd.after hb)
theorem RX.row {row : Option Nat} (h : RX w0 X g g1 g2 cs s W) (hg : W.grownBy W' row) (hr : ∀ q, row = some q → g < q ∧ g1 < q ∧ g2 < q) : RX w0 X g g1 g2 cs s W' := by
  have n1 := h.new1
  refine ⟨grown_step h.grown hg (.inr fun q hq => by have := hr q hq; omega), h.old, h.new1, h.new2, h.far, h.res.grown hg (fun e => by have := hr g1 e.symm; omega), h.op.grown hg (fun e => by have := hr g2 e.symm; omega), h.rd.grown hg (fun e => by have := hr g e.symm; omega) (fun q hq _ => .inr (by have := hr q hq; omega))⟩
theorem RX.put (h : RX w0 X g g1 g2 cs s W) (i : Nat) (u : Value) (hcs : cs.setIfInBounds i u = cs') : RX w0 X g g1 g2 cs' s (W.setCell ⟨g2, i, none⟩ u) := by
  subst hcs
  have o := h.old; have n2 := h.new2; have f1 := h.far
  exact ⟨grown_setCell h.grown (.inr n2) u, h.old, h.new1, h.new2, h.far, h.res.far f1 u, h.op.set_ i u,
    h.rd.grown (row := some g2) (grown_setCell (World.grownBy.refl W (some g2)) (.inl rfl) u) (by simp; omega) (fun q hq _ => by injection hq with hq; exact .inr (by omega))⟩
/-- The reader's error. -/
theorem RX.err (h : RX w0 X g g1 g2 cs s W) : W.cell? ⟨g, 1, none⟩ = some (.int .i64 s.2) := by
  obtain ⟨A, n, c, hb, _⟩ := h.rd
  exact hb.cell 1
end
end Go.Proofs.YtkoedonllfmaaaaGreat.Qc

/-
  Layer 6 (op): the contracts of Take, Parse and TakeResult.
-/
namespace Go.Proofs.YtkoedonllfmaaaaGreat.Qt
set_option linter.unusedSimpArgs false
open Go Go.RowKit Ck Kw Ca Cb Ce Cf Cg Ch Ci Pm Pa Pe Pf Pg Ph Ppi Pk Pp Qb
set_option linter.unusedVariables false

/-- Within the call: the result's cells, a thing's cells, the reader. -/
structure RC (w0 : World) (X : Nat → Prop) (g g1 g2 : Nat) (t : TypeId) (zs cs : Array Value) (s : Cm.RS) (W : World) : Prop where
  grown : w0.grownBy W (some g)
  old : g < w0.heap.size
  new1 : w0.heap.size ≤ g1
  new2 : w0.heap.size ≤ g2
  far : g1 ≠ g2
  res : Blk W g1 t zs
  op : Blk W g2 t cs
  rd : CR W (fun k => X k ∨ w0.heap.size ≤ k) g s
section
variable {w0 W W' : World} {X : Nat → Prop} {g g1 g2 : Nat} {t : TypeId} {zs cs cs' : Array Value} {s s' : Cm.RS}
theorem RC.next (h : RC w0 X g g1 g2 t zs cs s W) (hg : W.grownBy W' (some g)) (hc : CR W' (fun k => X k ∨ w0.heap.size ≤ k) g s') : RC w0 X g g1 g2 t zs cs s' W' := by
  have o := h.old; have n1 := h.new1; have n2 := h.new2
  exact ⟨h.grown.trans hg, h.old, h.new1, h.new2, h.far, h.res.grown hg (by simp; omega), h.op.grown hg (by simp; omega), hc⟩
theorem RC.later (h : RC w0 X g g1 g2 t zs cs s W) (hb : Below W.heap.size W W') : RC w0 X g g1 g2 t zs cs s W' := h.next (grown_of_below hb _) (h.rd.after hb)
theorem RC.put (h : RC w0 X g g1 g2 t zs cs s W) (i : Nat) (u : Value) (hcs : cs.setIfInBounds i u = cs') : RC w0 X g g1 g2 t zs cs' s (W.setCell ⟨g2, i, none⟩ u) := by
  subst hcs
  have o := h.old; have n2 := h.new2; have f1 := h.far
  exact ⟨grown_setCell h.grown (.inr n2) u, h.old, h.new1, h.new2, h.far, h.res.far f1 u, h.op.set_ i u,
    h.rd.grown (row := some g2) (grown_setCell (World.grownBy.refl W (some g2)) (.inl rfl) u) (by simp; omega) (fun q hq _ => by injection hq with hq; exact .inr (by omega))⟩
end
theorem rc_first {w w1 : World} {X : Nat → Prop} {g : Nat} {t : TypeId} {s s' : Cm.RS} {zs cs : Array Value} (h : CR w X g s) (hg1 : (w.alloc (.cells zs t)).grownBy w1 (some g)) (hc1 : CR w1 (fun k => X k ∨ w.heap.size ≤ k) g s') :
    RC w X g w.heap.size w1.heap.size t zs cs s' (w1.alloc (.cells cs t)) := by
  have hlt := h.lt
  have b0 : Below w.heap.size w (w.alloc (.cells zs t)) := (Below.refl _ w).alloc (Nat.le_refl _) _
  have s0 : (w.alloc (.cells zs t)).heap.size = w.heap.size + 1 := by simp
  have s1 := hg1.size
  have r0 : Blk (w.alloc (.cells zs t)) w.heap.size t zs := Blk.new _ _ _
  have r1 : Blk w1 w.heap.size t zs := r0.grown hg1 (by simp; omega)
  have b2 : Below w1.heap.size w1 (w1.alloc (.cells cs t)) := (Below.refl _ w1).alloc (Nat.le_refl _) _
  have gr : w.grownBy w1 (some g) := (grown_of_below b0 (some g)).trans hg1
  exact ⟨grown_below gr b2, hlt, Nat.le_refl _, by omega, by omega, r1.alloc _, Blk.new _ _ _, hc1.after b2⟩
theorem size_res : (Tryz.prog.info? 30).map (·.size) = some 2 := by kernel_rfl
theorem blk2 {w : World} {g : Nat} {t : TypeId} {x y u v : Value} (h : Blk w g t #[u, v]) : Blk ((w.setCell ⟨g, 0, none⟩ x).setCell ⟨g, 1, none⟩ y) g t #[x, y] := by
  have := (h.set_ 0 x).set_ 1 y
  simpa using this
/-- What TakeResult leaves. -/
def TookR (w : World) (X : Nat → Prop) (g : Nat) (r : (Int × Int) × Cm.RS) (e : Ending) (w' : World) : Prop := e = .returned (.agg #[.int .i64 r.1.1, .int .i64 r.1.2]) ∧ w.grownBy w' (some g) ∧ CR w' X g r.2
theorem tookr_of {w W : World} {X : Nat → Prop} {g g1 g2 : Nat} {t : TypeId} {zs cs : Array Value} {s : Cm.RS} {r : (Int × Int) × Cm.RS} {x y : Int} (h : RC w X g g1 g2 t zs cs s W) (hr : r = ((x, y), s)) :
    TookR w X g r (.returned (.agg #[.int .i64 x, .int .i64 y])) ((W.setCell ⟨g1, 0, none⟩ (.int .i64 x)).setCell ⟨g1, 1, none⟩ (.int .i64 y)) := by
  subst hr
  have n1 := h.new1
  have o1 := h.old
  have cg : W.grownBy ((W.setCell ⟨g1, 0, none⟩ (.int .i64 x)).setCell ⟨g1, 1, none⟩ (.int .i64 y)) (some g1) :=
    grown_setCell (grown_setCell (World.grownBy.refl W (some g1)) (p := ⟨g1, 0, none⟩) (.inl rfl) _) (p := ⟨g1, 1, none⟩) (.inl rfl) _
  exact ⟨rfl, grown_step h.grown cg (.inr fun q hq => by injection hq with hq; omega), (h.rd.grown cg (by simp; omega) (fun q hq _ => by injection hq with hq; exact .inr (by omega))).weaken (fun k _ hk => .inl hk)⟩

set_option maxRecDepth 100000 in
set_option maxHeartbeats 4000000 in
theorem taker_any (w : World) (X : Nat → Prop) (g : Nat) (s : Cm.RS) (h : CR w X g s) :
    Calls Tryz.prog 102 #[P_ g] w (TookR w X g (takeR s)) := by
  have b0 : Below w.heap.size w (w.alloc (.cells #[.int .i64 0, .int .i64 0] 30)) := (Below.refl _ w).alloc (Nat.le_refl _) _
  have hc0 : CR (w.alloc (.cells #[.int .i64 0, .int .i64 0] 30)) (fun k => X k ∨ w.heap.size ≤ k) g s := (h.old (Nat.le_refl _)).after b0
  have HD := Lib.hid (rc_first (cs := #[.int .i64 0, .int .i64 0]) h (World.grownBy.refl (w.alloc (.cells #[.int .i64 0, .int .i64 0] 30)) (some g)) hc0)
  have HN := Lib.hid (num_any _ _ g s HD.out.rd 65536)
  have m1 := Cm.numS_le s 65536
  have HT : Hid (takeR s = if (Cm.numS (Cm.numS s 65536).2 9007199254740992).2.2 ≠ 0 then (((0 : Int), (0 : Int)), (Cm.numS (Cm.numS s 65536).2 9007199254740992).2) else ((((Cm.numS s 65536).1 : Nat), ((Cm.numS (Cm.numS s 65536).2 9007199254740992).1 : Nat)), (Cm.numS (Cm.numS s 65536).2 9007199254740992).2)) := Lib.hid rfl
  generalize takeR s = TK at *
  generalize Cm.numS s 65536 = x at *
  have m2 := Cm.numS_le x.2 9007199254740992
  have hw1 := wrap_i64n x.1 (by omega)
  have n12 : ¬ (w.heap.size = w.heap.size + 1) := by omega
  have n21 : ¬ (w.heap.size + 1 = w.heap.size) := by omega
  have hsz : (w.alloc (.cells #[.int .i64 0, .int .i64 0] 30)).heap.size = w.heap.size + 1 := by simp
  rw [hsz] at HD
  clear b0 hc0 h hsz
  go_enter Tryz.func102, Tryz.ntmps102
  go_wp2_with fail
  refine HN.out.mono ?_
  rintro e w1 ⟨rfl, hg1, hc1⟩
  have HD1 := Lib.hid (HD.out.next hg1 hc1)
  have HD1' := Lib.hid (HD1.out.put 0 (.int .i64 (x.1 : Nat)) (cs' := #[.int .i64 (x.1 : Nat), .int .i64 0]) rfl)
  have a0 := HD1.out.op.cell 0
  have a1 := HD1.out.op.cell 1
  have f0 := HD1.out.op.frozen 0
  have f1 := HD1.out.op.frozen 1
  simp only [List.getElem?_toArray, List.getElem?_cons_zero, List.getElem?_cons_succ] at a0 a1
  have HN2 := Lib.hid (num_any _ _ g x.2 HD1'.out.rd 9007199254740992)
  have M1 := Lib.hid m1
  clear hg1 hc1 m1
  generalize Cm.numS x.2 9007199254740992 = y at *
  have hw2 := wrap_i64n y.1 (by omega)
  have M2 := Lib.hid m2
  clear m2
  go_wp2_with fail
  refine HN2.out.mono ?_
  rintro e w2 ⟨rfl, hg2, hc2⟩
  have HD2 := Lib.hid (HD1'.out.next hg2 hc2)
  have HD2' := Lib.hid (HD2.out.put 1 (.int .i64 (y.1 : Nat)) (cs' := #[.int .i64 (x.1 : Nat), .int .i64 (y.1 : Nat)]) rfl)
  clear a0 a1 f0 f1 hg2 hc2
  have a0 := HD2.out.op.cell 0
  have a1 := HD2.out.op.cell 1
  have f0 := HD2.out.op.frozen 0
  have f1 := HD2.out.op.frozen 1
  have r0 := HD2.out.res.cell 0
  have r1 := HD2.out.res.cell 1
  have q0 := HD2.out.res.frozen 0
  have q1 := HD2.out.res.frozen 1
  simp only [List.getElem?_toArray, List.getElem?_cons_zero, List.getElem?_cons_succ] at a0 a1 r0 r1
  obtain ⟨A4, n4, c4, hb4, -⟩ := HD2'.out.rd
  have HB4 := Lib.hid hb4
  clear hb4
  by_cases hz : y.2.2 = 0
  · have HZ := Lib.hid hz
    have HER := Lib.hid (err_blk _ g _ _ HB4.out)
    rw [hz] at HER
    clear hz
    go_wp2_with fail
    refine HER.out.mono ?_
    rintro e w5 ⟨rfl, rfl⟩
    go_wp2_with fail
    refine bodyPost_ret (results_row1 rfl _ _ w.heap.size 30 #[.int .i64 (x.1 : Nat), .int .i64 (y.1 : Nat)] (0, 0) _ rfl (blk2 HD2'.out.res) Tryz.underlying30 rfl size_res) rfl ?_
    exact tookr_of HD2'.out (by rw [HT.out, if_neg (by rw [HZ.out]; decide)])
  · have HZ := Lib.hid hz
    have HER := Lib.hid (err_blk _ g _ _ HB4.out)
    have e1 : (y.2.2 == 0) = false := beq_eq_false_iff_ne.2 hz
    have e2 : (y.2.2 != 0) = true := by rw [bne, e1]; rfl
    clear hz
    go_wp2_with fail
    refine HER.out.mono ?_
    rintro e w5 ⟨rfl, rfl⟩
    go_wp2_with fail
    refine bodyPost_ret (results_row1 rfl _ _ w.heap.size 30 #[.int .i64 0, .int .i64 0] (0, 0) _ rfl (blk2 HD2'.out.res) Tryz.underlying30 rfl size_res) rfl ?_
    exact tookr_of HD2'.out (by rw [HT.out, if_pos HZ.out])

end Go.Proofs.YtkoedonllfmaaaaGreat.Qt

/-
  Layer 6 (op): the contracts of Same, the document's and the program's.
-/
namespace Go.Proofs.YtkoedonllfmaaaaGreat.Qs
set_option linter.unusedSimpArgs false
open Go Go.RowKit Ck Kw Ca Cb Pm Pa Pe Pf Pg Ph Ppi Pk Pp
set_option linter.unusedVariables false

/-- Two operations stand there. -/
structure SB (w0 : World) (g1 g2 : Nat) (a b : O) (A B : Option Addr) (c d : Nat) (X Y : Nat → Prop) (W : World) : Prop where
  below : Below w0.heap.size w0 W
  one : OB W g1 a A c
  two : OB W g2 b B d
  la : Ls W X (.slice A a.recs.length c) a.recs
  lb : Ls W Y (.slice B b.recs.length d) b.recs
theorem SB.drewN {w0 W : World} {g1 g2 : Nat} {a b : O} {A B : Option Addr} {c d : Nat} {X Y : Nat → Prop} (h : SB w0 g1 g2 a b A B c d X Y W) (n : Nat) : SB w0 g1 g2 a b A B c d X Y (W.drewN n) :=
  ⟨below_drewN h.below n, h.one, h.two, h.la, h.lb⟩

end Go.Proofs.YtkoedonllfmaaaaGreat.Qs

/-
  Layer 6 (op): the contract of bullalaw06.begun; the walk of the statement OpNames.
-/
namespace Go.Proofs.YtkoedonllfmaaaaGreat.Pl
set_option linter.unusedSimpArgs false
open Go Go.RowKit Ck Kw Ca Cb Ci Pm Pa Pb Pc Pd Pe Pf Pg Ph Ppi Kx Pk
set_option linter.unusedVariables false

/-- The operation that begun asks about. -/
def o0 : O := ⟨2, [116], [], 0, [[9]]⟩
def W0 (w : World) : World := (w.alloc (.cells #[.int .u8 9] 5)).alloc (.cells #[.slice (some ⟨w.heap.size, 0, none⟩) 1 1] 55)
end Go.Proofs.YtkoedonllfmaaaaGreat.Pl

/-
  Layer 6 (op): the walk of the statement OpReads.
-/
namespace Go.Proofs.YtkoedonllfmaaaaGreat.Qd
set_option linter.unusedSimpArgs false
open Go Go.RowKit Ck Kw Ca Cb Ce Cf Cg Ch Ci Cj Cn Co Pm Pa Pe Pf Pg Ph Ppi Pk Pl Pp Qb Qc Qt Qs
attribute [local go_sem ↓] Go.wp_at_zero Go.wp_at_succ
set_option linter.unusedVariables false

/-- An operation's cells, kept in a block. -/
structure KO (W : World) (B g : Nat) (o : O) (A : Option Addr) (c : Nat) : Prop where
  op : OB W g o A c
  new : B ≤ g
  ls : Ls W (fun k => k < B) (.slice A o.recs.length c) o.recs
theorem KO.later {W W' : World} {B g : Nat} {o : O} {A : Option Addr} {c : Nat} (h : KO W B g o A c) (hb : Below W.heap.size W W') : KO W' B g o A c := ⟨Blk.below h.op hb (Blk.lt h.op), h.new, h.ls.after hb⟩
theorem KO.oi {W : World} {B g : Nat} {o : O} {A : Option Addr} {c : Nat} (h : KO W B g o A c) : OI W (fun k => k < B) (OV o A c) o := ⟨A, c, rfl, h.ls⟩
theorem al_below (W : World) (o : Obj) : Below W.heap.size W (W.alloc o) := (Below.refl _ W).alloc (Nat.le_refl _) _
theorem OB.cells' {W : World} {g : Nat} {o : O} {A : Option Addr} {c : Nat} (h : OB W g o A c) :
    W.cell? ⟨g, 0, none⟩ = some (.int .i64 o.kind) ∧ W.cell? ⟨g, 1, none⟩ = some (.string ⟨o.topic.toArray⟩) ∧ W.cell? ⟨g, 2, none⟩ = some (.string ⟨o.group.toArray⟩) ∧ W.cell? ⟨g, 3, none⟩ = some (.int .i64 o.off) ∧ W.cell? ⟨g, 4, none⟩ = some (.slice A o.recs.length c) := h.cells

/-- Both readers stand there, at the same place. -/
structure TW (w0 : World) (B gr gs : Nat) (s : Cm.RS) (W : World) : Prop where
  below : Below w0.heap.size w0 W
  r : CR W (fun k => B ≤ k) gr s
  s : RR W (fun k => w0.heap.size ≤ k) gs s
  hr : w0.heap.size ≤ gr ∧ gr < B
  hs : B ≤ gs
  hB : w0.heap.size ≤ B
theorem TW.later {w0 W W' : World} {B gr gs : Nat} {s : Cm.RS} (h : TW w0 B gr gs s W) (hb : Below W.heap.size W W') : TW w0 B gr gs s W' :=
  ⟨h.below.trans (hb.mono h.below.size), h.r.after hb, h.s.after hb, h.hr, h.hs, h.hB⟩
theorem stood_res : Tryz.prog.stoodInHeld 30 = false := by kernel_rfl
theorem fields_res : Tryz.prog.underlying 30 = some (.struct (Tryz.prog.fieldsOf 30)) := by kernel_rfl
/-- Both operations that were taken, and both readers. -/
structure XS (w0 : World) (B gr gs g : Nat) (x : O) (A : Option Addr) (c : Nat) (A' : Option Addr) (c' : Nat) (s : Cm.RS) (W : World) : Prop where
  tw : TW w0 B gr gs s W
  kx : KO W w0.heap.size g x A c
  ky : KO W w0.heap.size (g + 1) x A' c'
theorem XS.later {w0 W W' : World} {B gr gs g : Nat} {x : O} {A : Option Addr} {c : Nat} {A' : Option Addr} {c' : Nat} {s : Cm.RS} (h : XS w0 B gr gs g x A c A' c' s W) (hb : Below W.heap.size W W') : XS w0 B gr gs g x A c A' c' s W' := ⟨h.tw.later hb, h.kx.later hb, h.ky.later hb⟩
theorem XS.drew {w0 W : World} {B gr gs g : Nat} {x : O} {A : Option Addr} {c : Nat} {A' : Option Addr} {c' : Nat} {s : Cm.RS} (h : XS w0 B gr gs g x A c A' c' s W) : XS w0 B gr gs g x A c A' c' s W.drew := h.later (below_drewN (Below.refl _ W) 1)
theorem TW.err {w0 W : World} {B gr gs : Nat} {s : Cm.RS} (h : TW w0 B gr gs s W) : W.cell? ⟨gs, 1, none⟩ = some (.int .i64 s.2) := by
  obtain ⟨A, n, c, hb, -⟩ := h.s
  have q := hb.cell 1
  simpa using q
theorem XS.cells {w0 W : World} {B gr gs g : Nat} {x : O} {A : Option Addr} {c : Nat} {A' : Option Addr} {c' : Nat} {s : Cm.RS} (h : XS w0 B gr gs g x A c A' c' s W) :
    W.cell? ⟨g, 0, none⟩ = some (.int .i64 x.kind) ∧ W.cell? ⟨g, 1, none⟩ = some (.string ⟨x.topic.toArray⟩) ∧ W.cell? ⟨g, 2, none⟩ = some (.string ⟨x.group.toArray⟩) ∧ W.cell? ⟨g, 3, none⟩ = some (.int .i64 x.off) ∧ W.cell? ⟨g, 4, none⟩ = some (.slice A x.recs.length c)
    ∧ W.cell? ⟨g + 1, 0, none⟩ = some (.int .i64 x.kind) ∧ W.cell? ⟨g + 1, 1, none⟩ = some (.string ⟨x.topic.toArray⟩) ∧ W.cell? ⟨g + 1, 2, none⟩ = some (.string ⟨x.group.toArray⟩) ∧ W.cell? ⟨g + 1, 3, none⟩ = some (.int .i64 x.off) ∧ W.cell? ⟨g + 1, 4, none⟩ = some (.slice A' x.recs.length c')
    ∧ W.cell? ⟨gs, 1, none⟩ = some (.int .i64 s.2) := by
  obtain ⟨a0, a1, a2, a3, a4⟩ := h.kx.op.cells
  obtain ⟨b0, b1, b2, b3, b4⟩ := h.ky.op.cells
  exact ⟨a0, a1, a2, a3, a4, b0, b1, b2, b3, b4, h.tw.err⟩

end Go.Proofs.YtkoedonllfmaaaaGreat.Qd

/-
  Layer 6 (op): the document's own Put, kind by kind, and its Bytes.
-/
namespace Go.Proofs.YtkoedonllfmaaaaGreat.Pn
set_option linter.unusedSimpArgs false
open Go Go.RowKit Ck Kw Ca Cb Cd Ci Pm Pa Pe Pf Pg Ph Ppi Kx Pk
set_option linter.unusedVariables false

/-- The operation stands there, and a row of the call's own. -/
structure RB (w0 : World) (g1 : Nat) (o : O) (A : Option Addr) (c : Nat) (v : Value) (l : Tx) (W : World) : Prop where
  rk : RK w0 g1 o A c W
  row : W.ownsRow w0.heap.size 5 1 v l.length (BVs l)
theorem RB.put {w0 W W1 W2 : World} {g1 : Nat} {o : O} {A : Option Addr} {c : Nat} {v' : Value} {l' : Tx} (h : RK w0 g1 o A c W) (b1 : Below W.heap.size W W1) (hown : W2.ownsRow W1.heap.size 5 1 v' l'.length (BVs l')) (b2 : Below W1.heap.size W1 W2) : RB w0 g1 o A c v' l' W2 := by
  have b : Below W.heap.size W W2 := b1.trans (b2.mono b1.size)
  exact ⟨h.later b, own_base hown (Nat.le_trans h.below.size b1.size)⟩
end Go.Proofs.YtkoedonllfmaaaaGreat.Pn

/-
  Layer 6 (op): the contracts of slices.Grow, slices.Concat, strings.Clone.
-/
namespace Go.Proofs.YtkoedonllfmaaaaGreat.Pj
set_option linter.unusedSimpArgs false
open Go Go.RowKit Ck Kw Ca Cb Pm Pa
set_option linter.unusedVariables false

theorem flat_le {ls : List Tx} (k : Nat) : (ls.take k).flatten.length ≤ ls.flatten.length := by
  have : ls.flatten = (ls.take k).flatten ++ (ls.drop k).flatten := by rw [← List.flatten_append, List.take_append_drop]
  rw [this, List.length_append]
  omega
set_option maxRecDepth 100000 in
set_option maxHeartbeats 2000000 in
theorem slclone_any (l : Tx) (w : World) (hlim : l.length ≤ 140737488355328) :
    Calls Tryz.prog 109 #[SV l] w fun e w' => e = .returned (SV l) ∧ Below w.heap.size w w' := by
  unfold SV
  have hsl := sv_size l
  generalize hs : ByteArray.mk l.toArray = s at *
  have hlim' : s.size ≤ 140737488355328 := by omega
  clear hs hsl hlim
  by_cases h0 : s.size = 0
  · have hs : s = ⟨#[]⟩ := by
      apply ByteArray.ext
      exact Array.eq_empty_of_size_eq_zero h0
    subst hs
    go_enter Tryz.func109, Tryz.ntmps109
    go_wp2
    go_ret
    exact ⟨rfl, Below.refl _ _⟩
  · obtain ⟨i0, hi, hz0, hz1, hz2⟩ := info_parts info_u8
    have hinfo : (Tryz.prog.info? 5).map (·.size) = some 1 := by rw [hi]; simp [hz1]
    have hco : Tryz.prog.cellsOf 5 = 1 := by simp [Program.cellsOf, hi, hz1]
    obtain ⟨M, hM⟩ : ∃ M, M = madeCells (Value.int .u8 0).cells (((s.size : Nat) : Int).toNat * i0.size) := ⟨_, rfl⟩
    have hMs : M.size = s.size := by rw [hM, size_madeCells, hz1]; simp
    have hmk : ∀ W : World, (Instr.makeSlice 49 (.int .i64 (s.size : Int)) (.int .i64 (s.size : Int))).run Tryz.prog W = .ok (.slice (some ⟨W.heap.size, 0, none⟩) s.size s.size) (W.alloc (.cells M 5)) := fun W => by
      have h := run_make (P := Tryz.prog) W 49 5 i0 (.int .u8 0) Tryz.underlying49 hi hz0 .i64 .i64 (s.size : Int) (s.size : Int) (by omega) (by omega) (by rw [hz2]; omega) (by omega)
      rw [← hM] at h
      simpa using h
    clear hM
    have hcp := Lib.run_copy_row_string (P := Tryz.prog) (w.alloc (.cells M 5)) 49 9 3 5 w.heap.size 0 s.size s.size s M 5 Tryz.underlying49 hinfo (heap_alloc_new w _) (Nat.le_refl _) (by omega)
    obtain ⟨Y, hY⟩ : ∃ Y, Y = (M.toList.take 0 ++ Lib.byteCells s.data.toList ++ M.toList.drop (0 + s.size)).toArray := ⟨_, rfl⟩
    rw [← hY] at hcp
    have hYl : Y.toList = Lib.byteCells s.data.toList := by
      rw [hY, List.toList_toArray, List.take_zero, List.nil_append, List.drop_of_length_le (by rw [Array.length_toList]; omega), List.append_nil]
    have hYs : Y.size = s.size := by rw [← Array.length_toList, hYl, Lib.byteCells_length, ← Lib.size_eq]
    have hgY : ((w.alloc (.cells M 5)).setRow w.heap.size Y).heap[w.heap.size]? = some (.cells Y 5 (0, 0)) := setRow_heap _ _ M _ 5 (0, 0) (heap_alloc_new w _)
    have hne : s.data.toList ≠ [] := fun e => h0 (by rw [Lib.size_eq, e]; rfl)
    have hUS := Lib.run_unsafeString_row (P := Tryz.prog) ((w.alloc (.cells M 5)).setRow w.heap.size Y) 180 3 9 5 Tryz.underlying180 hco w.heap.size Y.size (by unfold World.shape?; rw [hgY]) s.data.toList hne (by rw [← Lib.size_eq]; omega) (by rw [← Lib.size_eq]; omega)
      (fun j x hx => Lib.cells_of_row hgY Y.size j _ (by rw [List.take_of_length_le (by rw [Array.length_toList]; exact Nat.le_refl _), hYl]; simp [Lib.byteCells, hx]))
    rw [← Lib.size_eq] at hUS
    clear hY
    go_enter Tryz.func109, Tryz.ntmps109
    go_wp2
    go_ret
    have hb1 : Below w.heap.size w (w.alloc (.cells M 5)) := (Below.refl _ w).alloc (Nat.le_refl _) _
    have hb2 : Below w.heap.size (w.alloc (.cells M 5)) ((w.alloc (.cells M 5)).setRow w.heap.size Y) := ⟨rfl, rfl, rfl, by simp, fun k hk => setRow_other _ _ _ _ (by omega)⟩
    exact ⟨rfl, Lib.below_freeze (hb1.trans hb2) (p := ⟨w.heap.size, 0, none⟩) (Nat.le_refl _) _⟩

theorem sclone_any (l : Tx) (w : World) (hlim : l.length ≤ 140737488355328) :
    Calls Tryz.prog 82 #[SV l] w fun e w' => e = .returned (SV l) ∧ Below w.heap.size w w' := by
  have HC := Lib.hid (slclone_any l w hlim)
  unfold SV at HC ⊢
  go_enter Tryz.func82, Tryz.ntmps82
  go_wp2_with (go_at_call 109; refine HC.out.mono ?_; rintro e w1 ⟨rfl, hb⟩)
  go_ret
  exact ⟨rfl, hb⟩

end Go.Proofs.YtkoedonllfmaaaaGreat.Pj

/-
  Layer 6 (op): the contracts of Put and PutResult, the document's PutResult, and the walk of the statement OpBytes.
-/
namespace Go.Proofs.YtkoedonllfmaaaaGreat.Po
set_option linter.unusedSimpArgs false
open Go Go.RowKit Ck Kw Ca Cb Cd Ci Pm Pa Pe Pf Pg Ph Ppi Pj Kx Pk Pl Pn
attribute [local go_sem ↓] Go.wp_at_zero Go.wp_at_succ
set_option linter.unusedVariables false

theorem max_nat (e : Int) (he : e ≤ 9223372036854775807) : ∃ n : Nat, max e 0 = (n : Int) ∧ max 0 e = (n : Int) ∧ n ≤ 9223372036854775807 := by
  refine ⟨(max e 0).toNat, ?_, ?_, ?_⟩ <;> omega

set_option maxRecDepth 100000 in
set_option maxHeartbeats 1000000 in
theorem putres_any (Y : Nat → Prop) (vb : Value) (nb : Nat) (b : Tx) (e f : Int) (w : World) (hb : Sl w Y 1 vb nb (BVs b)) (hbl : b.length ≤ 140737488351232) (he : e ≤ 9223372036854775807) (hf : f ≤ 9223372036854775807) :
    Calls Tryz.prog 63 #[vb, .agg #[.int .i64 e, .int .i64 f]] w fun e' w' => Made w 5 (b ++ resB e f) e' w' := by
  have hnb : nb = b.length := by obtain ⟨_, _, _, h, _⟩ := hb; rw [BVs_len] at h; omega
  subst hnb
  obtain ⟨n, hn, -, hn63⟩ := max_nat e he
  obtain ⟨m, hm, -, hm63⟩ := max_nat f hf
  have HR : Hid (resB e f = Cm.enc n ++ Cm.enc m) := Lib.hid (by rw [resB, hn, hm, Int.toNat_natCast, Int.toNat_natCast])
  have hwn := wrap_u64' n (by omega)
  have hwm := wrap_u64' m (by omega)
  have ln := Cm.enc_len n
  have HN := Lib.hid hn63
  have HM := Lib.hid hm63
  have HSB := Lib.hid hb
  have HW0 : Hid (Below w.heap.size w (w.alloc (.cells #[.int .i64 e, .int .i64 f] 30))) := Lib.hid ((Below.refl _ w).alloc (Nat.le_refl _) _)
  have HK0 : Hid (Blk (w.alloc (.cells #[.int .i64 e, .int .i64 f] 30)) w.heap.size 30 #[.int .i64 e, .int .i64 f]) := Lib.hid (Blk.new _ _ _)
  clear hn63 hm63 he hf hb
  go_enter Tryz.func63, Tryz.ntmps63
  go_wp2_with fail
  refine (putnum_any Y vb b.length b n _ (HSB.out.after HW0.out) (by omega) (by have := HN.out; omega)).mono ?_
  rintro e1 w1 ⟨v1, rfl, hown1, hb1⟩
  have HO1 := Lib.hid hown1
  have HB1 := Lib.hid (HW0.out.trans (hb1.mono HW0.out.size))
  have hk1 := HK0.out.below hb1 HK0.out.lt
  have k0 := hk1.cell 0
  have k1 := hk1.cell 1
  simp only [List.getElem?_toArray, List.getElem?_cons_zero, List.getElem?_cons_succ] at k0 k1
  clear hown1 hb1 hk1
  go_wp2_with fail
  refine (putnum_any (fun _ => False) v1 _ (b ++ Cm.enc n) m _ (Sl.of_own HO1.out (fun _ _ _ h => h)) (by rw [List.length_append]; omega) (by have := HM.out; omega)).mono ?_
  rintro e2 w2 ⟨v2, rfl, hown2, hb2⟩
  have HO2 := Lib.hid hown2
  have HB2 := Lib.hid (HB1.out.trans (hb2.mono HB1.out.size))
  clear hown2 hb2
  go_wp2_with fail
  go_ret
  refine ⟨v2, rfl, ?_, HB2.out⟩
  rw [HR.out, ← List.append_assoc]
  exact own_base HO2.out HB1.out.size

end Go.Proofs.YtkoedonllfmaaaaGreat.Po

/-
  Layer 6 (op): bytes.HasPrefix; the walk of the statement OpApart.
-/
namespace Go.Proofs.YtkoedonllfmaaaaGreat.Qf
set_option linter.unusedSimpArgs false
open Go Go.RowKit Ck Kw Ca Cb Ci Pm Pa Pe Pf Pg Ph Ppi Pk Pl Pp Qs
set_option linter.unusedVariables false

def pre (k l : Tx) : Bool := decide (k <+: l)
/-- A row of new bytes, kept. -/
structure VB (w0 : World) (v : Value) (l : Tx) (W : World) : Prop where
  below : Below w0.heap.size w0 W
  row : Sl W (fun k => k < w0.heap.size) 1 v l.length (BVs l)
theorem VB.later {w0 W W' : World} {v : Value} {l : Tx} (h : VB w0 v l W) (b : Below W.heap.size W W') : VB w0 v l W' := ⟨h.below.trans (b.mono h.below.size), h.row.after b⟩

end Go.Proofs.YtkoedonllfmaaaaGreat.Qf

/-
  Layer 6 (op): slices.Clone at bytes; the walk of the statement OpBytes.
-/
namespace Go.Proofs.YtkoedonllfmaaaaGreat.Qa
set_option linter.unusedSimpArgs false
open Go Go.RowKit Ck Kw Ca Cb Cd Ci Pm Pa Pe Pf Pg Ph Ppi Pj Kx Pk Pl Pn Po Pp Qs Qf
attribute [local go_sem ↓] Go.wp_at_zero Go.wp_at_succ
set_option linter.unusedVariables false

/-- What stands there: the operation, the result, the bytes. -/
structure ST (w0 : World) (o : O) (A : Option Addr) (c : Nat) (e f : Int) (vb : Value) (b : Tx) (W : World) : Prop where
  below : Below w0.heap.size w0 W
  op : OB W w0.heap.size o A c
  res : Blk W (w0.heap.size + 1) 30 #[.int .i64 e, .int .i64 f]
  ls : Ls W (fun k => w0.heap.size ≤ k) (.slice A o.recs.length c) o.recs
  b : Sl W (fun k => w0.heap.size ≤ k) 1 vb b.length (BVs b)
section
variable {w0 W W' : World} {o : O} {A : Option Addr} {c : Nat} {e f : Int} {vb : Value} {b : Tx}
theorem ST.later (h : ST w0 o A c e f vb b W) (hb : Below W.heap.size W W') : ST w0 o A c e f vb b W' :=
  ⟨h.below.trans (hb.mono h.below.size), Blk.below h.op hb (Blk.lt h.op), h.res.below hb h.res.lt, h.ls.after hb, h.b.after hb⟩
theorem ST.drew (h : ST w0 o A c e f vb b W) : ST w0 o A c e f vb b W.drew := ⟨below_drewN h.below 1, h.op, h.res, h.ls, h.b⟩
theorem ST.oi (h : ST w0 o A c e f vb b W) : OI W (fun k => w0.heap.size ≤ k) (OV o A c) o := ⟨A, c, rfl, h.ls⟩
theorem ST.cells (h : ST w0 o A c e f vb b W) : W.cell? ⟨w0.heap.size, 0, none⟩ = some (.int .i64 o.kind) ∧ W.cell? ⟨w0.heap.size, 1, none⟩ = some (.string ⟨o.topic.toArray⟩) ∧ W.cell? ⟨w0.heap.size, 2, none⟩ = some (.string ⟨o.group.toArray⟩) ∧ W.cell? ⟨w0.heap.size, 3, none⟩ = some (.int .i64 o.off) ∧ W.cell? ⟨w0.heap.size, 4, none⟩ = some (.slice A o.recs.length c) ∧
    W.cell? ⟨w0.heap.size + 1, 0, none⟩ = some (.int .i64 e) ∧ W.cell? ⟨w0.heap.size + 1, 1, none⟩ = some (.int .i64 f) :=
  ⟨h.op.cells.1, h.op.cells.2.1, h.op.cells.2.2.1, h.op.cells.2.2.2.1, h.op.cells.2.2.2.2, h.res.cell 0, h.res.cell 1⟩
end
end Go.Proofs.YtkoedonllfmaaaaGreat.Qa

/-
  Layer 6 (op): the walk of the statement OpBack.
-/
namespace Go.Proofs.YtkoedonllfmaaaaGreat.Qe
set_option linter.unusedSimpArgs false
open Go Go.RowKit Ck Kw Ca Cb Ce Cf Cg Ch Ci Cj Cn Co Kx Pm Pa Pe Pf Pg Ph Ppi Pk Pl Pp Py Qb Qc Qt Qs Qd
attribute [local go_sem ↓] Go.wp_at_zero Go.wp_at_succ
set_option linter.unusedVariables false

/-- What stands there: the operation and the bytes. -/
structure EB (w0 : World) (o : O) (A : Option Addr) (c : Nat) (vb : Value) (b : Tx) (W : World) : Prop where
  below : Below w0.heap.size w0 W
  op : OB W w0.heap.size o A c
  ls : Ls W (fun k => w0.heap.size ≤ k) (.slice A o.recs.length c) o.recs
  b : Sl W (fun k => w0.heap.size ≤ k) 1 vb b.length (BVs b)
variable {w0 W W' : World} {o : O} {A : Option Addr} {c : Nat} {vb : Value} {b : Tx}
theorem EB.later (h : EB w0 o A c vb b W) (hb : Below W.heap.size W W') : EB w0 o A c vb b W' :=
  ⟨h.below.trans (hb.mono h.below.size), Blk.below h.op hb (Blk.lt h.op), h.ls.after hb, h.b.after hb⟩
theorem EB.drew (h : EB w0 o A c vb b W) : EB w0 o A c vb b W.drew := h.later (below_drewN (Below.refl _ W) 1)
theorem EB.oi (h : EB w0 o A c vb b W) : OI W (fun k => w0.heap.size ≤ k) (OV o A c) o := ⟨A, c, rfl, h.ls⟩
/-- The operation, what was read of its bytes, twice, and the reader. -/
structure BB (w0 : World) (M g3 g7 g : Nat) (o : O) (A : Option Addr) (c : Nat) (Ax : Option Addr) (cx : Nat) (Ay : Option Addr) (cy : Nat) (vb : Value) (b : Tx) (W : World) : Prop where
  eb : EB w0 o A c vb b W
  x : OB W g3 o Ax cx
  lx : Ls W (fun k => M ≤ k) (.slice Ax o.recs.length cx) o.recs
  y : OB W g7 o Ay cy
  ly : Ls W (fun k => k < M) (.slice Ay o.recs.length cy) o.recs
  rd : CR W (fun k => k < M) g (b, 0)
theorem BB.later {M g3 g7 g : Nat} {Ax : Option Addr} {cx : Nat} {Ay : Option Addr} {cy : Nat} (h : BB w0 M g3 g7 g o A c Ax cx Ay cy vb b W) (hb : Below W.heap.size W W') : BB w0 M g3 g7 g o A c Ax cx Ay cy vb b W' :=
  ⟨h.eb.later hb, Blk.below h.x hb (Blk.lt h.x), h.lx.after hb, Blk.below h.y hb (Blk.lt h.y), h.ly.after hb, h.rd.after hb⟩
theorem BB.cells {M g3 g7 g : Nat} {Ax : Option Addr} {cx : Nat} {Ay : Option Addr} {cy : Nat} (h : BB w0 M g3 g7 g o A c Ax cx Ay cy vb b W) :
    (W.cell? ⟨w0.heap.size, 0, none⟩ = some (.int .i64 o.kind) ∧ W.cell? ⟨w0.heap.size, 1, none⟩ = some (.string ⟨o.topic.toArray⟩) ∧ W.cell? ⟨w0.heap.size, 2, none⟩ = some (.string ⟨o.group.toArray⟩) ∧ W.cell? ⟨w0.heap.size, 3, none⟩ = some (.int .i64 o.off) ∧ W.cell? ⟨w0.heap.size, 4, none⟩ = some (.slice A o.recs.length c))
    ∧ (W.cell? ⟨g3, 0, none⟩ = some (.int .i64 o.kind) ∧ W.cell? ⟨g3, 1, none⟩ = some (.string ⟨o.topic.toArray⟩) ∧ W.cell? ⟨g3, 2, none⟩ = some (.string ⟨o.group.toArray⟩) ∧ W.cell? ⟨g3, 3, none⟩ = some (.int .i64 o.off) ∧ W.cell? ⟨g3, 4, none⟩ = some (.slice Ax o.recs.length cx))
    ∧ (W.cell? ⟨g7, 0, none⟩ = some (.int .i64 o.kind) ∧ W.cell? ⟨g7, 1, none⟩ = some (.string ⟨o.topic.toArray⟩) ∧ W.cell? ⟨g7, 2, none⟩ = some (.string ⟨o.group.toArray⟩) ∧ W.cell? ⟨g7, 3, none⟩ = some (.int .i64 o.off) ∧ W.cell? ⟨g7, 4, none⟩ = some (.slice Ay o.recs.length cy)) :=
  ⟨OB.cells h.eb.op, OB.cells h.x, OB.cells h.y⟩
end Go.Proofs.YtkoedonllfmaaaaGreat.Qe
