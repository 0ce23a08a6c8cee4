import Derived.Test.YtebjjkhiniccgaaGreatQu
import Derived.Test.YtebjjkhiniccgaaGreatQs
import Derived.Test.YtebjjkhiniccgaaGreatW5
import Derived.Deep.RegionHeld3
import Derived.Laws.StructEq
import Derived.Outline
import Derived.Test.YtebjjkhiniccgaaGreatPy
/-
  Layer 6 (op): the walk of the statement OpReads.
-/
namespace Go.Proofs.YtebjjkhiniccgaaGreat.Qd
set_option linter.unusedSimpArgs false
open Go Go.RowKit Ck Kw Ca Cb Ce Cf Cg Ch Ci Cj Cn Co Pm Pa Pe Pf Pg Ph Ppi Pk Pl Pp Qb Qc Qt Qu Qs
attribute [local go_sem ↓] Go.wp_at_zero Go.wp_at_succ
set_option linter.unusedVariables false

theorem sameO_refl (a : O) : sameO a a = true := by simp [sameO]
/-- An operation's cells, kept in a block. -/
structure KO (W : World) (B g : Nat) (o : O) (A : Option Addr) (c : Nat) : Prop where
  op : OB W g o A c
  new : B ≤ g
  ls : Ls W (fun k => k < B) (.slice A o.recs.length c) o.recs
theorem KO.later {W W' : World} {B g : Nat} {o : O} {A : Option Addr} {c : Nat} (h : KO W B g o A c) (hb : Below W.heap.size W W') : KO W' B g o A c := ⟨Blk.below h.op hb (Blk.lt h.op), h.new, h.ls.after hb⟩
theorem KO.oi {W : World} {B g : Nat} {o : O} {A : Option Addr} {c : Nat} (h : KO W B g o A c) : OI W (fun k => k < B) (OV o A c) o := ⟨A, c, rfl, h.ls⟩
theorem ko_new {W w0 : World} {o : O} {A : Option Addr} {c : Nat} (hB : w0.heap.size ≤ W.heap.size) (hls : Ls W (fun k => k < w0.heap.size) (.slice A o.recs.length c) o.recs) : KO (W.alloc (.cells (OC o A c) 25)) w0.heap.size W.heap.size o A c :=
  ⟨Blk.new _ _ _, hB, hls.after ((Below.refl _ W).alloc (Nat.le_refl _) _)⟩
theorem al_below (W : World) (o : Obj) : Below W.heap.size W (W.alloc o) := (Below.refl _ W).alloc (Nat.le_refl _) _
theorem OB.cells' {W : World} {g : Nat} {o : O} {A : Option Addr} {c : Nat} (h : OB W g o A c) :
    W.cell? ⟨g, 0, none⟩ = some (.int .i64 o.kind) ∧ W.cell? ⟨g, 1, none⟩ = some (.string ⟨o.topic.toArray⟩) ∧ W.cell? ⟨g, 2, none⟩ = some (.string ⟨o.group.toArray⟩) ∧ W.cell? ⟨g, 3, none⟩ = some (.int .i64 o.off) ∧ W.cell? ⟨g, 4, none⟩ = some (.slice A o.recs.length c) := h.cells

/-- Both readers stand there, at the same place. -/
structure TW (w0 : World) (B gr gs : Nat) (s : Cm.RS) (W : World) : Prop where
  below : Below w0.heap.size w0 W
  r : CR W (fun k => B ≤ k) gr s
  s : RR W (fun k => w0.heap.size ≤ k) gs s
  hr : w0.heap.size ≤ gr ∧ gr < B
  hs : B ≤ gs
  hB : w0.heap.size ≤ B
theorem TW.later {w0 W W' : World} {B gr gs : Nat} {s : Cm.RS} (h : TW w0 B gr gs s W) (hb : Below W.heap.size W W') : TW w0 B gr gs s W' :=
  ⟨h.below.trans (hb.mono h.below.size), h.r.after hb, h.s.after hb, h.hr, h.hs, h.hB⟩
/-- The first reader went on, and then the second. -/
theorem TW.both {w0 W W1 W2 : World} {B gr gs : Nat} {s s' : Cm.RS} (h : TW w0 B gr gs s W) (hg1 : W.grownBy W1 (some gr)) (hc1 : CR W1 (fun k => B ≤ k) gr s') (hg2 : W1.grownBy W2 (some gs)) (hc2 : RR W2 (fun k => w0.heap.size ≤ k) gs s') : TW w0 B gr gs s' W2 := by
  have h1 := h.hr
  have h2 := h.hs
  have h3 := h.hB
  have b1 : Below w0.heap.size w0 W1 := h.below.grown hg1 h.below.size (fun q hq => by injection hq with hq; omega)
  exact ⟨b1.grown hg2 b1.size (fun q hq => by injection hq with hq; omega), hc1.grown hg2 (by simp; omega) (fun q hq _ => by injection hq with hq; show B ≤ q; omega), hc2, h.hr, h.hs, h.hB⟩
theorem TW.mid {w0 W W1 : World} {B gr gs : Nat} {s : Cm.RS} (h : TW w0 B gr gs s W) (hg1 : W.grownBy W1 (some gr)) : RR W1 (fun k => w0.heap.size ≤ k) gs s := by
  have h1 := h.hr
  have h2 := h.hs
  exact h.s.grown hg1 (by simp; omega) (fun q hq _ => by injection hq with hq; show w0.heap.size ≤ q; omega)

theorem tw_start {w W W1 W2 : World} {gr : Nat} {b : Tx} (h0 : Below w.heap.size w W) (hc : CR W1 (fun k => k < W.heap.size) gr (b, 0)) (hg : W.heap.size ≤ gr) (hb1 : Below W.heap.size W W1) (hr : RR W2 (fun k => w.heap.size ≤ k) W1.heap.size (b, 0)) (hb2 : Below W1.heap.size W1 W2) :
    TW w W1.heap.size gr W1.heap.size (b, 0) W2 := by
  have l1 := hc.lt
  have s0 := h0.size
  have s1 := hb1.size
  refine ⟨(h0.trans (hb1.mono s0)).trans (hb2.mono (by omega)), ?_, hr, ⟨by omega, l1⟩, Nat.le_refl _, by omega⟩
  exact ((hc.old (Nat.le_refl _)).after hb2).weaken (fun k _ hk => .inr hk)


/-- Both operations that were taken, and both readers. -/
structure XS (w0 : World) (B gr gs g : Nat) (x : O) (A : Option Addr) (c : Nat) (A' : Option Addr) (c' : Nat) (s : Cm.RS) (W : World) : Prop where
  tw : TW w0 B gr gs s W
  kx : KO W w0.heap.size g x A c
  ky : KO W w0.heap.size (g + 1) x A' c'
theorem XS.later {w0 W W' : World} {B gr gs g : Nat} {x : O} {A : Option Addr} {c : Nat} {A' : Option Addr} {c' : Nat} {s : Cm.RS} (h : XS w0 B gr gs g x A c A' c' s W) (hb : Below W.heap.size W W') : XS w0 B gr gs g x A c A' c' s W' := ⟨h.tw.later hb, h.kx.later hb, h.ky.later hb⟩
theorem XS.drew {w0 W : World} {B gr gs g : Nat} {x : O} {A : Option Addr} {c : Nat} {A' : Option Addr} {c' : Nat} {s : Cm.RS} (h : XS w0 B gr gs g x A c A' c' s W) : XS w0 B gr gs g x A c A' c' s W.drew := h.later (below_drewN (Below.refl _ W) 1)
theorem TW.err {w0 W : World} {B gr gs : Nat} {s : Cm.RS} (h : TW w0 B gr gs s W) : W.cell? ⟨gs, 1, none⟩ = some (.int .i64 s.2) := by
  obtain ⟨A, n, c, hb, -⟩ := h.s
  have q := hb.cell 1
  simpa using q
theorem XS.cells {w0 W : World} {B gr gs g : Nat} {x : O} {A : Option Addr} {c : Nat} {A' : Option Addr} {c' : Nat} {s : Cm.RS} (h : XS w0 B gr gs g x A c A' c' s W) :
    W.cell? ⟨g, 0, none⟩ = some (.int .i64 x.kind) ∧ W.cell? ⟨g, 1, none⟩ = some (.string ⟨x.topic.toArray⟩) ∧ W.cell? ⟨g, 2, none⟩ = some (.string ⟨x.group.toArray⟩) ∧ W.cell? ⟨g, 3, none⟩ = some (.int .i64 x.off) ∧ W.cell? ⟨g, 4, none⟩ = some (.slice A x.recs.length c)
    ∧ W.cell? ⟨g + 1, 0, none⟩ = some (.int .i64 x.kind) ∧ W.cell? ⟨g + 1, 1, none⟩ = some (.string ⟨x.topic.toArray⟩) ∧ W.cell? ⟨g + 1, 2, none⟩ = some (.string ⟨x.group.toArray⟩) ∧ W.cell? ⟨g + 1, 3, none⟩ = some (.int .i64 x.off) ∧ W.cell? ⟨g + 1, 4, none⟩ = some (.slice A' x.recs.length c')
    ∧ W.cell? ⟨gs, 1, none⟩ = some (.int .i64 s.2) := by
  obtain ⟨a0, a1, a2, a3, a4⟩ := h.kx.op.cells
  obtain ⟨b0, b1, b2, b3, b4⟩ := h.ky.op.cells
  exact ⟨a0, a1, a2, a3, a4, b0, b1, b2, b3, b4, h.tw.err⟩

end Go.Proofs.YtebjjkhiniccgaaGreat.Qd

/-
  Layer 6 (op): the walk of the statement OpBack.
-/
namespace Go.Proofs.YtebjjkhiniccgaaGreat.Qe
set_option linter.unusedSimpArgs false
open Go Go.RowKit Ck Kw Ca Cb Ce Cf Cg Ch Ci Cj Cn Co Kx Pm Pa Pe Pf Pg Ph Ppi Pk Pl Pp Py Qb Qc Qt Qu Qs Qd
attribute [local go_sem ↓] Go.wp_at_zero Go.wp_at_succ
set_option linter.unusedVariables false

theorem bytes_ok (o : O) (v : Value) (X : Nat → Prop) (w : World) (h : OI w X v o) (hl : o.recs.length ≤ 140737488355328) (hc : check o = 0) : Calls Tryz.prog 103 #[v] w (Byted w o) := by
  have hf : form o = raw o := by rw [form, if_neg (by omega)]
  refine (bytes_any o v X w h hl).mono ?_
  rintro e w' ⟨v', he, ho, hb⟩
  rw [hc] at he
  rw [hf] at ho
  exact ⟨v', he, ho, hb⟩
theorem take_ok (w : World) (X : Nat → Prop) (g : Nat) (o : O) (r : Tx) (hc : check o = 0) (h : CR w X g (raw o ++ r, 0)) (hl : (raw o ++ r).length ≤ 140737488355328) :
    Calls Tryz.prog 28 #[P_ g] w (Readed w X g (o, (r, 0))) := by
  have := take_any w X g _ h hl
  rw [take_raw hc] at this
  exact this
/-- What stands there: the operation and the bytes. -/
structure EB (w0 : World) (o : O) (A : Option Addr) (c : Nat) (vb : Value) (b : Tx) (W : World) : Prop where
  below : Below w0.heap.size w0 W
  op : OB W w0.heap.size o A c
  ls : Ls W (fun k => w0.heap.size ≤ k) (.slice A o.recs.length c) o.recs
  b : Sl W (fun k => w0.heap.size ≤ k) 1 vb b.length (BVs b)
variable {w0 W W' : World} {o : O} {A : Option Addr} {c : Nat} {vb : Value} {b : Tx}
theorem EB.later (h : EB w0 o A c vb b W) (hb : Below W.heap.size W W') : EB w0 o A c vb b W' :=
  ⟨h.below.trans (hb.mono h.below.size), Blk.below h.op hb (Blk.lt h.op), h.ls.after hb, h.b.after hb⟩
theorem EB.drew (h : EB w0 o A c vb b W) : EB w0 o A c vb b W.drew := h.later (below_drewN (Below.refl _ W) 1)
theorem EB.oi (h : EB w0 o A c vb b W) : OI W (fun k => w0.heap.size ≤ k) (OV o A c) o := ⟨A, c, rfl, h.ls⟩
theorem eb_start {w : World} {o : O} {A : Option Addr} {c : Nat} {vb : Value} {b : Tx} (hls : Ls w (fun k => w.heap.size ≤ k) (.slice A o.recs.length c) o.recs) (hb : Sl w (fun k => w.heap.size ≤ k) 1 vb b.length (BVs b)) :
    EB w o A c vb b (w.alloc (.cells (OC o A c) 25)) :=
  ⟨(Below.refl _ w).alloc (Nat.le_refl _) _, Blk.new _ _ _, hls.after ((Below.refl _ w).alloc (Nat.le_refl _) _), hb.after ((Below.refl _ w).alloc (Nat.le_refl _) _)⟩

/-- The operation, what was read of its bytes, twice, and the reader. -/
structure BB (w0 : World) (M g3 g7 g : Nat) (o : O) (A : Option Addr) (c : Nat) (Ax : Option Addr) (cx : Nat) (Ay : Option Addr) (cy : Nat) (vb : Value) (b : Tx) (W : World) : Prop where
  eb : EB w0 o A c vb b W
  x : OB W g3 o Ax cx
  lx : Ls W (fun k => M ≤ k) (.slice Ax o.recs.length cx) o.recs
  y : OB W g7 o Ay cy
  ly : Ls W (fun k => k < M) (.slice Ay o.recs.length cy) o.recs
  rd : CR W (fun k => k < M) g (b, 0)
theorem BB.later {M g3 g7 g : Nat} {Ax : Option Addr} {cx : Nat} {Ay : Option Addr} {cy : Nat} (h : BB w0 M g3 g7 g o A c Ax cx Ay cy vb b W) (hb : Below W.heap.size W W') : BB w0 M g3 g7 g o A c Ax cx Ay cy vb b W' :=
  ⟨h.eb.later hb, Blk.below h.x hb (Blk.lt h.x), h.lx.after hb, Blk.below h.y hb (Blk.lt h.y), h.ly.after hb, h.rd.after hb⟩
theorem BB.oix {M g3 g7 g : Nat} {Ax : Option Addr} {cx : Nat} {Ay : Option Addr} {cy : Nat} (h : BB w0 M g3 g7 g o A c Ax cx Ay cy vb b W) : OI W (fun k => M ≤ k) (OV o Ax cx) o := ⟨Ax, cx, rfl, h.lx⟩
theorem BB.oiy {M g3 g7 g : Nat} {Ax : Option Addr} {cx : Nat} {Ay : Option Addr} {cy : Nat} (h : BB w0 M g3 g7 g o A c Ax cx Ay cy vb b W) : OI W (fun k => k < M) (OV o Ay cy) o := ⟨Ay, cy, rfl, h.ly⟩
theorem BB.cells {M g3 g7 g : Nat} {Ax : Option Addr} {cx : Nat} {Ay : Option Addr} {cy : Nat} (h : BB w0 M g3 g7 g o A c Ax cx Ay cy vb b W) :
    (W.cell? ⟨w0.heap.size, 0, none⟩ = some (.int .i64 o.kind) ∧ W.cell? ⟨w0.heap.size, 1, none⟩ = some (.string ⟨o.topic.toArray⟩) ∧ W.cell? ⟨w0.heap.size, 2, none⟩ = some (.string ⟨o.group.toArray⟩) ∧ W.cell? ⟨w0.heap.size, 3, none⟩ = some (.int .i64 o.off) ∧ W.cell? ⟨w0.heap.size, 4, none⟩ = some (.slice A o.recs.length c))
    ∧ (W.cell? ⟨g3, 0, none⟩ = some (.int .i64 o.kind) ∧ W.cell? ⟨g3, 1, none⟩ = some (.string ⟨o.topic.toArray⟩) ∧ W.cell? ⟨g3, 2, none⟩ = some (.string ⟨o.group.toArray⟩) ∧ W.cell? ⟨g3, 3, none⟩ = some (.int .i64 o.off) ∧ W.cell? ⟨g3, 4, none⟩ = some (.slice Ax o.recs.length cx))
    ∧ (W.cell? ⟨g7, 0, none⟩ = some (.int .i64 o.kind) ∧ W.cell? ⟨g7, 1, none⟩ = some (.string ⟨o.topic.toArray⟩) ∧ W.cell? ⟨g7, 2, none⟩ = some (.string ⟨o.group.toArray⟩) ∧ W.cell? ⟨g7, 3, none⟩ = some (.int .i64 o.off) ∧ W.cell? ⟨g7, 4, none⟩ = some (.slice Ay o.recs.length cy)) :=
  ⟨OB.cells h.eb.op, OB.cells h.x, OB.cells h.y⟩
theorem bb_made {w0 w5 w6 w7 : World} {g3 g : Nat} {o : O} {A : Option Addr} {c : Nat} {Ax : Option Addr} {cx : Nat} {Ay : Option Addr} {cy : Nat} {vb : Value} {b : Tx}
    (h : EB w0 o A c vb b w5) (hk : KO w5 w0.heap.size g3 o Ax cx) (hg : w5.heap.size ≤ g) (hb6 : Below w5.heap.size w5 w6) (hls : Ls w7 (fun k => k < w6.heap.size) (.slice Ay o.recs.length cy) o.recs) (hg7 : w6.grownBy w7 (some g)) (hc : CR w7 (fun k => k < w5.heap.size) g (b, 0)) :
    BB w0 w5.heap.size g3 w7.heap.size g o A c Ax cx Ay cy vb b (w7.alloc (.cells (OC o Ay cy) 25)) := by
  have n0 := h.below.size
  have n6 := hb6.size
  have nx := Blk.lt hk.op
  have no := Blk.lt h.op
  have h6 := h.later hb6
  have k6 := hk.later hb6
  have al := al_below w7 (.cells (OC o Ay cy) 25)
  refine ⟨EB.later ⟨h6.below.grown hg7 h6.below.size (fun q hq => by injection hq with hq; omega), Blk.grown h6.op hg7 (by simp; omega), h6.ls.grown hg7 (fun q hq _ => by injection hq with hq; show w0.heap.size ≤ q; omega), h6.b.grown hg7 (fun q hq _ => by injection hq with hq; show w0.heap.size ≤ q; omega)⟩ al, ?_, ?_, Blk.new _ _ _, ?_, hc.after al⟩
  · have q := Blk.grown k6.op hg7 (by simp; omega)
    exact Blk.below q al (Blk.lt q)
  · exact (((hk.ls.old' (Nat.le_refl _)).after hb6).grown hg7 (fun q hq _ => by injection hq with hq; show w5.heap.size ≤ q; omega)).after al
  · exact (hls.weaken (fun k _ hk => Nat.lt_of_lt_of_le hk n6)).after al

end Go.Proofs.YtebjjkhiniccgaaGreat.Qe
