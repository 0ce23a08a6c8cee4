import Derived.Test.YtjdmadfjfjenjaaW4
import Derived.Test.YtjdmadfjfjenjaaQb
import Derived.Deep.RegionLaw
import Derived.Test.YtjdmadfjfjenjaaQt
import Derived.Test.YtjdmadfjfjenjaaQs
import Derived.Test.YtjdmadfjfjenjaaW5
import Derived.Deep.RegionHeld3
import Derived.Laws.StructEq
import Derived.Outline
import Derived.Test.YtjdmadfjfjenjaaPy
/-
  Contract of the document's own reader of layer 1: Num.
-/
namespace Go.Proofs.Ytjdmadfjfjenjaa.Cn
set_option linter.unusedSimpArgs false
set_option linter.unusedVariables false
open Go Go.RowKit Ck Ca Cb Ce Cf Cg Ch

theorem wrap_u64 (n : Nat) (hn : n < 18446744073709551616) : IntKind.u64.wrap (n : Int) = (n : Int) := by
  simp [IntKind.wrap, IntKind.bits, IntKind.signed]
  omega
theorem wrap_step (k acc x q : Nat) (hq : q = 128 ^ k) (hacc : acc < 128 ^ k) (hk : k ≤ 9) (h9 : k = 9 → x % 128 ≤ 1) :
    IntKind.u64.wrap ((acc : Int) + IntKind.u64.wrap ((x : Int) % 128 * (q : Int))) = ((acc + x % 128 * 128 ^ k : Nat) : Int) := by
  subst hq
  have hp := Cm.pow_le k hk
  have hb : x % 128 * 128 ^ k ≤ 9223372036854775808 := by
    by_cases hk9 : k = 9
    · have := h9 hk9
      have : x % 128 * 128 ^ k ≤ 1 * 128 ^ k := Nat.mul_le_mul_right _ this
      omega
    · have h8 : 128 ^ k ≤ 72057594037927936 := by
        have : k = 0 ∨ k = 1 ∨ k = 2 ∨ k = 3 ∨ k = 4 ∨ k = 5 ∨ k = 6 ∨ k = 7 ∨ k = 8 := by omega
        rcases this with rfl | rfl | rfl | rfl | rfl | rfl | rfl | rfl | rfl <;> decide
      have : x % 128 * 128 ^ k ≤ 127 * 128 ^ k := Nat.mul_le_mul_right _ (by omega)
      omega
  have e1 : ((x : Int) % 128 * ((128 ^ k : Nat) : Int)) = ((x % 128 * 128 ^ k : Nat) : Int) := by
    rw [Int.natCast_mul]; rfl
  rw [e1, wrap_u64 _ (by omega), ← Int.natCast_add, wrap_u64 _ (by omega)]
theorem wrap_by (k q : Nat) (hq : q = 128 ^ k) (hk : k < 9) : IntKind.u64.wrap ((q : Int) * 128) = ((128 ^ (k + 1) : Nat) : Int) := by
  subst hq
  have hp := Cm.pow_le (k + 1) (by omega)
  have e : (((128 ^ k : Nat) : Int) * 128) = ((128 ^ (k + 1) : Nat) : Int) := by
    rw [Nat.pow_succ, Int.natCast_mul]; rfl
  rw [e, wrap_u64 _ (by omega)]

end Go.Proofs.Ytjdmadfjfjenjaa.Cn

/-
  Layer 6 (op): the contract of the document's own Take, kind by kind.
-/
namespace Go.Proofs.Ytjdmadfjfjenjaa.Qc
set_option linter.unusedSimpArgs false
open Go Go.RowKit Ck Kw Ca Cb Ce Cf Cg Ch Ci Cn Pm Pa Pe Pf Pg Ph Ppi Pk Pp Qb
set_option linter.unusedVariables false

section
variable {P : Program}
theorem append_types (w : World) (t t2 ty e e2 : TypeId) (b : Option Addr) (n c : Nat) (x : Value) (ht : P.underlying t = some (.slice e)) (ht2 : P.underlying t2 = some (.slice e2)) :
    (Builtin.append_ #[t, t2] ty #[.slice b n c, x]).run P w = (Builtin.append_ #[t, t] ty #[.slice b n c, x]).run P w := by
  simp [Builtin.append_, run_underlying ht, run_underlying ht2]
/-- append to nothing, of a slice of another type of the same cells, at a step of a region that draws. -/
theorem step_append_new2 {w : World} {ops : Array Oper} {o : Oper} {a : Act} {K : Act → World → Prop} {Q : Exit → Act → World → Prop} {E : Prop} (hgd : o.guard = none) (s x : Operand) (t t2 : TypeId)
    (ho : o.op = .call { callee := .builtin .append, args := #[s, x], argTypes := #[t, t2] })
    (e : TypeId) (i : TypeInfo) (z : Value) (size bytes : Nat) (ht : P.underlying t = some (.slice e)) (ht2 : P.underlying t2 = some (.slice e)) (hi : P.info? e = some i) (hz : i.zero = some z)
    (hsize : i.size = size) (hby : i.bytes = bytes) (hzs : z.cells.size = size) (hsz : 0 < size) (hs : a.eval s = .slice none 0 0)
    (X : Nat → Prop) (src : Value) (m : Nat) (news : List Value) (hx : a.eval x = src) (hr : Sl w X size src m news) (h1 : ∀ u ∈ news, u.oneCell' = true)
    (h63 : m ≤ maxLen) (hbytes : m * bytes ≤ 140737488355328)
    (h : ∀ A c w', w'.ownsRow w.heap.size e size (.slice A m c) m news → Below w.heap.size w w' → K (a.put o.dst (.slice A m c)) w') :
    if Region.wanted o (yielded ops a.tmps) = true then Oper.wp P o a w K Q else E := by
  have hw : Region.wanted o (yielded ops a.tmps) = true := by simp [Region.wanted, hgd]
  rw [if_pos hw]
  obtain ⟨v', w', hrun, h2⟩ := run_append_sl (P := P) w w.heap.size t o.type e i z size bytes ht hi hz hsize hby hzs hsz (.slice none 0 0) 0 [] (World.ownsRow_nil _ _ _ _) X src m news hr h1 (by omega) (by rw [Nat.zero_add]; exact hbytes) (Nat.le_refl _)
  rw [← append_types w t t2 o.type e e _ _ _ _ ht ht2] at hrun
  unfold Oper.wp execOp
  simp only [ho, resolve, invoke, builtin, Sem.run_bind, Sem.run_pure, Result.andThen_ok, List.map_toArray, List.map_cons, List.map_nil, hs, hx, hrun]
  obtain ⟨ho', hg, _⟩ := h2
  obtain ⟨A, c, rfl⟩ := own_shape ho'
  rw [Nat.zero_add] at ho' ⊢
  exact h A c w' (by simpa using ho') (below_of_grown hg (by simp [Value.ownBlock]))
end

section
variable {w0 W W' : World} {X : Nat → Prop} {g g1 g2 : Nat} {cs cs' : Array Value} {s s' : Cm.RS}
end
theorem take_no {s : Cm.RS} (h : (rd s).2.2 ≠ 0) : take s = (O.zero, (rd s).2) := by
  have : Cm.failS (rd s).2 (check (rd s).1) = (rd s).2 := by rw [Cm.failS, if_pos h]
  rw [take, this, if_pos h]
theorem take_bad {s : Cm.RS} (h : (rd s).2.2 = 0) (hc : check (rd s).1 ≠ 0) : take s = (O.zero, ([], check (rd s).1)) := by
  have : Cm.failS (rd s).2 (check (rd s).1) = ([], check (rd s).1) := by rw [Cm.failS, if_neg (by omega), if_pos hc]
  rw [take, this, if_pos hc]
theorem take_ok {s : Cm.RS} (h : (rd s).2.2 = 0) (hc : check (rd s).1 = 0) : take s = ((rd s).1, (rd s).2) := by
  have : Cm.failS (rd s).2 (check (rd s).1) = (rd s).2 := by rw [Cm.failS, if_neg (by omega), if_neg (by omega)]
  rw [take, this, if_neg (by omega)]
theorem good_zero {s : Cm.RS} (h : s.2 = 0) (hc : s.2 ≠ 0) : False := hc h

theorem bytesS_most (s : Cm.RS) (m : Int) : (Cm.bytesS s m).1.length ≤ m.toNat := by
  have h1 := Cm.numS_le s m.toNat
  unfold Cm.bytesS Cm.takeS
  split
  · simp
  · split
    · simp
    · split
      · simp
      · simp only [List.length_take, Int.toNat_natCast]; omega
theorem own_step {wr w5 w6 : World} {B g n : Nat} {e : TypeId} {v : Value} {vals : List Value} (hown : wr.ownsRow B e 1 v n vals) (hg : g < B) (hg5 : wr.grownBy w5 (some g)) (hb6 : Below w5.heap.size w5 w6) : w6.ownsRow B e 1 v n vals := by
  refine own_below (hown.kept hg5 ?_) hb6
  have := hown.lt
  cases hv : v.ownBlock <;> simp
  rename_i kk
  have := (this kk hv).1
  omega
theorem base_le {wr w5 w6 : World} {B g : Nat} {o : Obj} (hB : B ≤ wr.heap.size) (hg5 : wr.grownBy w5 (some g)) (hb6 : Below w5.heap.size w5 w6) : B ≤ (w6.alloc o).heap.size := by
  have := hg5.size
  have := hb6.size
  simp
  omega
/-- One round of the document's loop: a part was read and put behind the others. -/
theorem dl_round {wr w5 w6 w8 : World} {B g g2 : Nat} {v u v8 : Value} {vals : List Value} {acc : List Tx} {x : Tx} {t e : TypeId} (hB : B ≤ wr.heap.size) (hg : g < B) (hg2 : g2 < B)
    (hown : wr.ownsRow B e 1 v acc.length vals) (hels : Els wr B v vals acc) (hg5 : wr.grownBy w5 (some g)) (hb6 : Below w5.heap.size w5 w6) (hu : w6.ownsRow w5.heap.size t 1 u x.length (BVs x))
    (happ : Appended (w6.alloc (.cells #[u] e)) B e 1 v (acc.length + 1) (vals ++ [u]) v8 w8) :
    (w8.setCell ⟨g2, 4, none⟩ v8).ownsRow B e 1 v8 (acc ++ [x]).length (vals ++ [u]) ∧ Els (w8.setCell ⟨g2, 4, none⟩ v8) B v8 (vals ++ [u]) (acc ++ [x]) := by
  have hlt := hown.lt
  have z5 := hg5.size
  have z6 := hb6.size
  have hels6 : Els w6 B v vals acc := (hels.grown hg5 (fun k hk => .inl (by injection hk with hk; omega))).grown (grown_of_below hb6 none) (by simp)
  have h1 : Els w6 B v (vals ++ [u]) (acc ++ [x]) := by
    refine hels6.push (Sl.of_own hu fun k hk _ hy => ?_)
    rcases hy with hy | hy
    · omega
    · have := (hlt k hy).2; omega
  have h2 := h1.keep (w' := w6.alloc (.cells #[u] e)) (by simp) (fun b hb _ => Below.heap_alloc _ _ _ hb)
  have h3 := h2.grown happ.2.1 (fun k hk => .inr hk)
  have h4 : Els w8 B v8 (vals ++ [u]) (acc ++ [x]) := by
    refine ⟨h3.1, fun i hi => ?_⟩
    obtain ⟨u0, hu0, h5⟩ := h2.2 i hi
    refine ⟨u0, hu0, ?_⟩
    have h6 : Sl w8 (fun k => (k < B ∨ v.ownBlock = some k) ∨ (w6.alloc (.cells #[u] e)).heap.size ≤ k) 1 u0 (acc ++ [x])[i].length (BVs (acc ++ [x])[i]) :=
      (h5.old (Nat.le_refl _)).grown happ.2.1 (fun k hk _ => .inl (.inr hk))
    refine h6.weaken fun b _ hy => ?_
    rcases hy with hy | hy
    · exact .inl (.inl hy)
    · rcases happ.2.2 with hr | hr
      · rw [hr] at hy; exact .inl (.inr hy)
      · rw [hr] at hy; injection hy with hy; exact .inr (by omega)
  have cg : w8.grownBy (w8.setCell ⟨g2, 4, none⟩ v8) (some g2) := grown_setCell (World.grownBy.refl w8 (some g2)) (p := ⟨g2, 4, none⟩) (.inl rfl) v8
  refine ⟨?_, h4.grown cg (fun k hk => .inl (by injection hk with hk; omega))⟩
  rw [List.length_append, List.length_singleton]
  exact ownsRow_setCell_below happ.1 (a := ⟨g2, 4, none⟩) hg2 _
theorem els_ls {W : World} {B : Nat} {v : Value} {vals : List Value} {acc : List Tx} {t : TypeId} {X : Nat → Prop} (hown : W.ownsRow B t 1 v acc.length vals) (hels : Els W B v vals acc) (hX : ∀ k, X k → k < B) : Ls W X v acc := by
  refine ⟨vals, Sl.of_own hown (fun k hk _ hx => by have := hX k hx; omega), fun i hi => ?_⟩
  obtain ⟨u, hu, hs⟩ := hels.2 i hi
  exact ⟨u, hu, hs.weaken (fun k _ hk => .inl (hX k hk))⟩

end Go.Proofs.Ytjdmadfjfjenjaa.Qc

/-
  Layer 6 (op): the walk of the statement OpReads.
-/
namespace Go.Proofs.Ytjdmadfjfjenjaa.Qd
set_option linter.unusedSimpArgs false
open Go Go.RowKit Ck Kw Ca Cb Ce Cf Cg Ch Ci Cn Pm Pa Pe Pf Pg Ph Ppi Pk Pl Pp Qb Qc Qt Qs
attribute [local go_sem ↓] Go.wp_at_zero Go.wp_at_succ
set_option linter.unusedVariables false

theorem sameO_refl (a : O) : sameO a a = true := by simp [sameO]
/-- An operation's cells, kept in a block. -/
structure KO (W : World) (B g : Nat) (o : O) (A : Option Addr) (c : Nat) : Prop where
  op : OB W g o A c
  new : B ≤ g
  ls : Ls W (fun k => k < B) (.slice A o.recs.length c) o.recs
theorem KO.later {W W' : World} {B g : Nat} {o : O} {A : Option Addr} {c : Nat} (h : KO W B g o A c) (hb : Below W.heap.size W W') : KO W' B g o A c := ⟨Blk.below h.op hb (Blk.lt h.op), h.new, h.ls.after hb⟩
theorem KO.oi {W : World} {B g : Nat} {o : O} {A : Option Addr} {c : Nat} (h : KO W B g o A c) : OI W (fun k => k < B) (OV o A c) o := ⟨A, c, rfl, h.ls⟩
theorem ko_new {W w0 : World} {o : O} {A : Option Addr} {c : Nat} (hB : w0.heap.size ≤ W.heap.size) (hls : Ls W (fun k => k < w0.heap.size) (.slice A o.recs.length c) o.recs) : KO (W.alloc (.cells (OC o A c) 24)) w0.heap.size W.heap.size o A c :=
  ⟨Blk.new _ _ _, hB, hls.after ((Below.refl _ W).alloc (Nat.le_refl _) _)⟩
theorem al_below (W : World) (o : Obj) : Below W.heap.size W (W.alloc o) := (Below.refl _ W).alloc (Nat.le_refl _) _
theorem OB.cells' {W : World} {g : Nat} {o : O} {A : Option Addr} {c : Nat} (h : OB W g o A c) :
    W.cell? ⟨g, 0, none⟩ = some (.int .i64 o.kind) ∧ W.cell? ⟨g, 1, none⟩ = some (.string ⟨o.topic.toArray⟩) ∧ W.cell? ⟨g, 2, none⟩ = some (.string ⟨o.group.toArray⟩) ∧ W.cell? ⟨g, 3, none⟩ = some (.int .i64 o.off) ∧ W.cell? ⟨g, 4, none⟩ = some (.slice A o.recs.length c) := h.cells

end Go.Proofs.Ytjdmadfjfjenjaa.Qd

/-
  Layer 6 (op): the walk of the statement OpBack.
-/
namespace Go.Proofs.Ytjdmadfjfjenjaa.Qe
set_option linter.unusedSimpArgs false
open Go Go.RowKit Ck Kw Ca Cb Ce Cf Cg Ch Ci Cn Kx Pm Pa Pe Pf Pg Ph Ppi Pk Pl Pp Py Qb Qc Qt Qs Qd
attribute [local go_sem ↓] Go.wp_at_zero Go.wp_at_succ
set_option linter.unusedVariables false

theorem bytes_ok (o : O) (v : Value) (X : Nat → Prop) (w : World) (h : OI w X v o) (hl : o.recs.length ≤ 140737488355328) (hc : check o = 0) : Calls Try.prog 82 #[v] w (Byted w o) := by
  have hf : form o = raw o := by rw [form, if_neg (by omega)]
  refine (bytes_any o v X w h hl).mono ?_
  rintro e w' ⟨v', he, ho, hb⟩
  rw [hc] at he
  rw [hf] at ho
  exact ⟨v', he, ho, hb⟩
theorem take_ok (w : World) (X : Nat → Prop) (g : Nat) (o : O) (r : Tx) (hc : check o = 0) (h : CR w X g (raw o ++ r, 0)) (hl : (raw o ++ r).length ≤ 140737488355328) :
    Calls Try.prog 58 #[P_ g] w (Readed w X g (o, (r, 0))) := by
  have := take_any w X g _ h hl
  rw [take_raw hc] at this
  exact this
/-- What stands there: the operation and the bytes. -/
structure EB (w0 : World) (o : O) (A : Option Addr) (c : Nat) (vb : Value) (b : Tx) (W : World) : Prop where
  below : Below w0.heap.size w0 W
  op : OB W w0.heap.size o A c
  ls : Ls W (fun k => w0.heap.size ≤ k) (.slice A o.recs.length c) o.recs
  b : Sl W (fun k => w0.heap.size ≤ k) 1 vb b.length (BVs b)
variable {w0 W W' : World} {o : O} {A : Option Addr} {c : Nat} {vb : Value} {b : Tx}
theorem EB.later (h : EB w0 o A c vb b W) (hb : Below W.heap.size W W') : EB w0 o A c vb b W' :=
  ⟨h.below.trans (hb.mono h.below.size), Blk.below h.op hb (Blk.lt h.op), h.ls.after hb, h.b.after hb⟩
theorem EB.drew (h : EB w0 o A c vb b W) : EB w0 o A c vb b W.drew := h.later (below_drewN (Below.refl _ W) 1)
theorem EB.oi (h : EB w0 o A c vb b W) : OI W (fun k => w0.heap.size ≤ k) (OV o A c) o := ⟨A, c, rfl, h.ls⟩
theorem eb_start {w : World} {o : O} {A : Option Addr} {c : Nat} {vb : Value} {b : Tx} (hls : Ls w (fun k => w.heap.size ≤ k) (.slice A o.recs.length c) o.recs) (hb : Sl w (fun k => w.heap.size ≤ k) 1 vb b.length (BVs b)) :
    EB w o A c vb b (w.alloc (.cells (OC o A c) 24)) :=
  ⟨(Below.refl _ w).alloc (Nat.le_refl _) _, Blk.new _ _ _, hls.after ((Below.refl _ w).alloc (Nat.le_refl _) _), hb.after ((Below.refl _ w).alloc (Nat.le_refl _) _)⟩

/-- The operation, what was read of its bytes, twice, and the reader. -/
structure BB (w0 : World) (M g3 g7 g : Nat) (o : O) (A : Option Addr) (c : Nat) (Ax : Option Addr) (cx : Nat) (Ay : Option Addr) (cy : Nat) (vb : Value) (b : Tx) (W : World) : Prop where
  eb : EB w0 o A c vb b W
  x : OB W g3 o Ax cx
  lx : Ls W (fun k => M ≤ k) (.slice Ax o.recs.length cx) o.recs
  y : OB W g7 o Ay cy
  ly : Ls W (fun k => k < M) (.slice Ay o.recs.length cy) o.recs
  rd : CR W (fun k => k < M) g (b, 0)
theorem BB.later {M g3 g7 g : Nat} {Ax : Option Addr} {cx : Nat} {Ay : Option Addr} {cy : Nat} (h : BB w0 M g3 g7 g o A c Ax cx Ay cy vb b W) (hb : Below W.heap.size W W') : BB w0 M g3 g7 g o A c Ax cx Ay cy vb b W' :=
  ⟨h.eb.later hb, Blk.below h.x hb (Blk.lt h.x), h.lx.after hb, Blk.below h.y hb (Blk.lt h.y), h.ly.after hb, h.rd.after hb⟩
theorem BB.oix {M g3 g7 g : Nat} {Ax : Option Addr} {cx : Nat} {Ay : Option Addr} {cy : Nat} (h : BB w0 M g3 g7 g o A c Ax cx Ay cy vb b W) : OI W (fun k => M ≤ k) (OV o Ax cx) o := ⟨Ax, cx, rfl, h.lx⟩
theorem BB.oiy {M g3 g7 g : Nat} {Ax : Option Addr} {cx : Nat} {Ay : Option Addr} {cy : Nat} (h : BB w0 M g3 g7 g o A c Ax cx Ay cy vb b W) : OI W (fun k => k < M) (OV o Ay cy) o := ⟨Ay, cy, rfl, h.ly⟩
theorem BB.cells {M g3 g7 g : Nat} {Ax : Option Addr} {cx : Nat} {Ay : Option Addr} {cy : Nat} (h : BB w0 M g3 g7 g o A c Ax cx Ay cy vb b W) :
    (W.cell? ⟨w0.heap.size, 0, none⟩ = some (.int .i64 o.kind) ∧ W.cell? ⟨w0.heap.size, 1, none⟩ = some (.string ⟨o.topic.toArray⟩) ∧ W.cell? ⟨w0.heap.size, 2, none⟩ = some (.string ⟨o.group.toArray⟩) ∧ W.cell? ⟨w0.heap.size, 3, none⟩ = some (.int .i64 o.off) ∧ W.cell? ⟨w0.heap.size, 4, none⟩ = some (.slice A o.recs.length c))
    ∧ (W.cell? ⟨g3, 0, none⟩ = some (.int .i64 o.kind) ∧ W.cell? ⟨g3, 1, none⟩ = some (.string ⟨o.topic.toArray⟩) ∧ W.cell? ⟨g3, 2, none⟩ = some (.string ⟨o.group.toArray⟩) ∧ W.cell? ⟨g3, 3, none⟩ = some (.int .i64 o.off) ∧ W.cell? ⟨g3, 4, none⟩ = some (.slice Ax o.recs.length cx))
    ∧ (W.cell? ⟨g7, 0, none⟩ = some (.int .i64 o.kind) ∧ W.cell? ⟨g7, 1, none⟩ = some (.string ⟨o.topic.toArray⟩) ∧ W.cell? ⟨g7, 2, none⟩ = some (.string ⟨o.group.toArray⟩) ∧ W.cell? ⟨g7, 3, none⟩ = some (.int .i64 o.off) ∧ W.cell? ⟨g7, 4, none⟩ = some (.slice Ay o.recs.length cy)) :=
  ⟨OB.cells h.eb.op, OB.cells h.x, OB.cells h.y⟩
theorem bb_made {w0 w5 w6 w7 : World} {g3 g : Nat} {o : O} {A : Option Addr} {c : Nat} {Ax : Option Addr} {cx : Nat} {Ay : Option Addr} {cy : Nat} {vb : Value} {b : Tx}
    (h : EB w0 o A c vb b w5) (hk : KO w5 w0.heap.size g3 o Ax cx) (hg : w5.heap.size ≤ g) (hb6 : Below w5.heap.size w5 w6) (hls : Ls w7 (fun k => k < w6.heap.size) (.slice Ay o.recs.length cy) o.recs) (hg7 : w6.grownBy w7 (some g)) (hc : CR w7 (fun k => k < w5.heap.size) g (b, 0)) :
    BB w0 w5.heap.size g3 w7.heap.size g o A c Ax cx Ay cy vb b (w7.alloc (.cells (OC o Ay cy) 24)) := by
  have n0 := h.below.size
  have n6 := hb6.size
  have nx := Blk.lt hk.op
  have no := Blk.lt h.op
  have h6 := h.later hb6
  have k6 := hk.later hb6
  have al := al_below w7 (.cells (OC o Ay cy) 24)
  refine ⟨EB.later ⟨h6.below.grown hg7 h6.below.size (fun q hq => by injection hq with hq; omega), Blk.grown h6.op hg7 (by simp; omega), h6.ls.grown hg7 (fun q hq _ => by injection hq with hq; show w0.heap.size ≤ q; omega), h6.b.grown hg7 (fun q hq _ => by injection hq with hq; show w0.heap.size ≤ q; omega)⟩ al, ?_, ?_, Blk.new _ _ _, ?_, hc.after al⟩
  · have q := Blk.grown k6.op hg7 (by simp; omega)
    exact Blk.below q al (Blk.lt q)
  · exact (((hk.ls.old' (Nat.le_refl _)).after hb6).grown hg7 (fun q hq _ => by injection hq with hq; show w5.heap.size ≤ q; omega)).after al
  · exact (hls.weaken (fun k _ hk => Nat.lt_of_lt_of_le hk n6)).after al

end Go.Proofs.Ytjdmadfjfjenjaa.Qe
