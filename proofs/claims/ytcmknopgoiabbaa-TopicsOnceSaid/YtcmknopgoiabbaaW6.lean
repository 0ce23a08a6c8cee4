import Derived.Test.YtcmknopgoiabbaaPp
import Derived.Test.YtcmknopgoiabbaaPi
import Derived.Test.YtcmknopgoiabbaaW4
import Derived.Deep.RegionLaw
import Derived.Test.YtcmknopgoiabbaaPk
import Derived.Deep.QuietTactic
import Derived.BigQuiet
import Derived.Deep.RegionHeld3
import Derived.Laws.StructEq
import Derived.Outline
/-
  Layer 6 (op): the contract of read, kind by kind.
-/
namespace Go.Proofs.Ytcmknopgoiabbaa.Qb
set_option linter.unusedSimpArgs false
open Go Go.RowKit Ck Kw Ca Cb Ce Cf Cg Ci Pm Pa Pe Pf Pg Ph Ppi Pk Pp
set_option linter.unusedVariables false

theorem results_row1 {P : Program} {fn : Func} {p : Tmp} {ty : TypeId} (h : fn.results = #[.cell p ty]) (tmps : Array Value) (w : World) (g : Nat) (t : TypeId) (cs : Array Value) (fr : Nat × Nat) (d : TypeDesc)
    (hp : tmps.getD p undef = .pointer (some ⟨g, 0, none⟩)) (hg : w.heap[g]? = some (.cells cs t fr))
    (hu : P.underlying ty = some d) (hd : (match d with | .struct _ | .array _ _ => true | _ => false) = true) (hi : (P.info? ty).map (·.size) = some cs.size) :
    (results fn tmps).run P w = .ok (.agg cs) w := by
  have hp' : tmps[p]?.getD undef = .pointer (some ⟨g, 0, none⟩) := by simpa using hp
  simp [results, h, hp', asAddr, run_loadVar_row w g t ty cs fr d hg hu hd hi]
theorem size_op : (Try.prog.info? 29).map (·.size) = some 5 := by kernel_rfl
theorem blk5 {w : World} {g : Nat} {t : TypeId} {a b c d e x0 x1 x2 x3 x4 : Value} (h : Blk w g t #[a, b, c, d, e]) :
    Blk (((((w.setCell ⟨g, 0, none⟩ x0).setCell ⟨g, 1, none⟩ x1).setCell ⟨g, 2, none⟩ x2).setCell ⟨g, 3, none⟩ x3).setCell ⟨g, 4, none⟩ x4) g t #[x0, x1, x2, x3, x4] := by
  have := ((((h.set_ 0 x0).set_ 1 x1).set_ 2 x2).set_ 3 x3).set_ 4 x4
  simpa using this
theorem Blk.cells5 {W : World} {g : Nat} {t : TypeId} {a b c d e : Value} (h : Blk W g t #[a, b, c, d, e]) :
    (W.cell? ⟨g, 0, none⟩ = some a ∧ W.cell? ⟨g, 1, none⟩ = some b ∧ W.cell? ⟨g, 2, none⟩ = some c ∧ W.cell? ⟨g, 3, none⟩ = some d ∧ W.cell? ⟨g, 4, none⟩ = some e) ∧
    (W.frozen? ⟨g, 0, none⟩ = false ∧ W.frozen? ⟨g, 1, none⟩ = false ∧ W.frozen? ⟨g, 2, none⟩ = false ∧ W.frozen? ⟨g, 3, none⟩ = false ∧ W.frozen? ⟨g, 4, none⟩ = false) :=
  ⟨⟨h.cell 0, h.cell 1, h.cell 2, h.cell 3, h.cell 4⟩, ⟨h.frozen 0, h.frozen 1, h.frozen 2, h.frozen 3, h.frozen 4⟩⟩

/-- The cells of no operation. -/
def Z5 : Array Value := #[.int .i64 0, .string ⟨#[]⟩, .string ⟨#[]⟩, .int .i64 0, .slice none 0 0]
section
variable {w0 W W' : World} {X : Nat → Prop} {g g1 g2 g3 : Nat} {k : Int} {cs cs' : Array Value} {s s' : Cm.RS}
end
theorem res_blk {W : World} {g1 : Nat} (h : Blk W g1 29 Z5) (x0 x1 x2 x3 x4 : Value) :
    (((((W.setCell ⟨g1, 0, none⟩ x0).setCell ⟨g1, 1, none⟩ x1).setCell ⟨g1, 2, none⟩ x2).setCell ⟨g1, 3, none⟩ x3).setCell ⟨g1, 4, none⟩ x4).heap[g1]? = some (.cells #[x0, x1, x2, x3, x4] 29 (0, 0)) := blk5 h
theorem wrap_i64n (z : Nat) (h : z ≤ 9223372036854775807) : IntKind.i64.wrap (z : Int) = (z : Int) := by
  simp [IntKind.wrap, IntKind.bits, IntKind.signed]
  omega
theorem ls_nil (W : World) (X : Nat → Prop) : Ls W X (.slice none 0 0) [] := ⟨[], Sl.nil _ _ _, fun i hi => absurd hi (by simp)⟩

end Go.Proofs.Ytcmknopgoiabbaa.Qb

/-
  Contract of the document's own reader of layer 1: Num.
-/
namespace Go.Proofs.Ytcmknopgoiabbaa.Cn
set_option linter.unusedSimpArgs false
set_option linter.unusedVariables false
open Go Go.RowKit Ck Ca Cb Ce Cf Cg

theorem wrap_u64 (n : Nat) (hn : n < 18446744073709551616) : IntKind.u64.wrap (n : Int) = (n : Int) := by
  simp [IntKind.wrap, IntKind.bits, IntKind.signed]
  omega
theorem wrap_step (k acc x q : Nat) (hq : q = 128 ^ k) (hacc : acc < 128 ^ k) (hk : k ≤ 9) (h9 : k = 9 → x % 128 ≤ 1) :
    IntKind.u64.wrap ((acc : Int) + IntKind.u64.wrap ((x : Int) % 128 * (q : Int))) = ((acc + x % 128 * 128 ^ k : Nat) : Int) := by
  subst hq
  have hp := Cm.pow_le k hk
  have hb : x % 128 * 128 ^ k ≤ 9223372036854775808 := by
    by_cases hk9 : k = 9
    · have := h9 hk9
      have : x % 128 * 128 ^ k ≤ 1 * 128 ^ k := Nat.mul_le_mul_right _ this
      omega
    · have h8 : 128 ^ k ≤ 72057594037927936 := by
        have : k = 0 ∨ k = 1 ∨ k = 2 ∨ k = 3 ∨ k = 4 ∨ k = 5 ∨ k = 6 ∨ k = 7 ∨ k = 8 := by omega
        rcases this with rfl | rfl | rfl | rfl | rfl | rfl | rfl | rfl | rfl <;> decide
      have : x % 128 * 128 ^ k ≤ 127 * 128 ^ k := Nat.mul_le_mul_right _ (by omega)
      omega
  have e1 : ((x : Int) % 128 * ((128 ^ k : Nat) : Int)) = ((x % 128 * 128 ^ k : Nat) : Int) := by
    rw [Int.natCast_mul]; rfl
  rw [e1, wrap_u64 _ (by omega), ← Int.natCast_add, wrap_u64 _ (by omega)]
theorem wrap_by (k q : Nat) (hq : q = 128 ^ k) (hk : k < 9) : IntKind.u64.wrap ((q : Int) * 128) = ((128 ^ (k + 1) : Nat) : Int) := by
  subst hq
  have hp := Cm.pow_le (k + 1) (by omega)
  have e : (((128 ^ k : Nat) : Int) * 128) = ((128 ^ (k + 1) : Nat) : Int) := by
    rw [Nat.pow_succ, Int.natCast_mul]; rfl
  rw [e, wrap_u64 _ (by omega)]

end Go.Proofs.Ytcmknopgoiabbaa.Cn

/-
  Layer 6 (op): the contract of the document's own Take, kind by kind.
-/
namespace Go.Proofs.Ytcmknopgoiabbaa.Qc
set_option linter.unusedSimpArgs false
open Go Go.RowKit Ck Kw Ca Cb Ce Cf Cg Ci Cn Pm Pa Pe Pf Pg Ph Ppi Pk Pp Qb
set_option linter.unusedVariables false

section
variable {P : Program}
theorem append_types (w : World) (t t2 ty e e2 : TypeId) (b : Option Addr) (n c : Nat) (x : Value) (ht : P.underlying t = some (.slice e)) (ht2 : P.underlying t2 = some (.slice e2)) :
    (Builtin.append_ #[t, t2] ty #[.slice b n c, x]).run P w = (Builtin.append_ #[t, t] ty #[.slice b n c, x]).run P w := by
  simp [Builtin.append_, run_underlying ht, run_underlying ht2]
/-- append to nothing, of a slice of another type of the same cells, at a step of a region that draws. -/
theorem step_append_new2 {w : World} {ops : Array Oper} {o : Oper} {a : Act} {K : Act → World → Prop} {Q : Exit → Act → World → Prop} {E : Prop} (hgd : o.guard = none) (s x : Operand) (t t2 : TypeId)
    (ho : o.op = .call { callee := .builtin .append, args := #[s, x], argTypes := #[t, t2] })
    (e : TypeId) (i : TypeInfo) (z : Value) (size bytes : Nat) (ht : P.underlying t = some (.slice e)) (ht2 : P.underlying t2 = some (.slice e)) (hi : P.info? e = some i) (hz : i.zero = some z)
    (hsize : i.size = size) (hby : i.bytes = bytes) (hzs : z.cells.size = size) (hsz : 0 < size) (hs : a.eval s = .slice none 0 0)
    (X : Nat → Prop) (src : Value) (m : Nat) (news : List Value) (hx : a.eval x = src) (hr : Sl w X size src m news) (h1 : ∀ u ∈ news, u.oneCell' = true)
    (h63 : m ≤ maxLen) (hbytes : m * bytes ≤ 140737488355328)
    (h : ∀ A c w', w'.ownsRow w.heap.size e size (.slice A m c) m news → Below w.heap.size w w' → K (a.put o.dst (.slice A m c)) w') :
    if Region.wanted o (yielded ops a.tmps) = true then Oper.wp P o a w K Q else E := by
  have hw : Region.wanted o (yielded ops a.tmps) = true := by simp [Region.wanted, hgd]
  rw [if_pos hw]
  obtain ⟨v', w', hrun, h2⟩ := run_append_sl (P := P) w w.heap.size t o.type e i z size bytes ht hi hz hsize hby hzs hsz (.slice none 0 0) 0 [] (World.ownsRow_nil _ _ _ _) X src m news hr h1 (by omega) (by rw [Nat.zero_add]; exact hbytes) (Nat.le_refl _)
  rw [← append_types w t t2 o.type e e _ _ _ _ ht ht2] at hrun
  unfold Oper.wp execOp
  simp only [ho, resolve, invoke, builtin, Sem.run_bind, Sem.run_pure, Result.andThen_ok, List.map_toArray, List.map_cons, List.map_nil, hs, hx, hrun]
  obtain ⟨ho', hg, _⟩ := h2
  obtain ⟨A, c, rfl⟩ := own_shape ho'
  rw [Nat.zero_add] at ho' ⊢
  exact h A c w' (by simpa using ho') (below_of_grown hg (by simp [Value.ownBlock]))
end

section
variable {w0 W W' : World} {X : Nat → Prop} {g g1 g2 : Nat} {cs cs' : Array Value} {s s' : Cm.RS}
end
theorem take_no {s : Cm.RS} (h : (rd s).2.2 ≠ 0) : take s = (O.zero, (rd s).2) := by
  have : Cm.failS (rd s).2 (check (rd s).1) = (rd s).2 := by rw [Cm.failS, if_pos h]
  rw [take, this, if_pos h]
theorem take_bad {s : Cm.RS} (h : (rd s).2.2 = 0) (hc : check (rd s).1 ≠ 0) : take s = (O.zero, ([], check (rd s).1)) := by
  have : Cm.failS (rd s).2 (check (rd s).1) = ([], check (rd s).1) := by rw [Cm.failS, if_neg (by omega), if_pos hc]
  rw [take, this, if_pos hc]
theorem take_ok {s : Cm.RS} (h : (rd s).2.2 = 0) (hc : check (rd s).1 = 0) : take s = ((rd s).1, (rd s).2) := by
  have : Cm.failS (rd s).2 (check (rd s).1) = (rd s).2 := by rw [Cm.failS, if_neg (by omega), if_neg (by omega)]
  rw [take, this, if_neg (by omega)]
theorem good_zero {s : Cm.RS} (h : s.2 = 0) (hc : s.2 ≠ 0) : False := hc h

theorem bytesS_most (s : Cm.RS) (m : Int) : (Cm.bytesS s m).1.length ≤ m.toNat := by
  have h1 := Cm.numS_le s m.toNat
  unfold Cm.bytesS Cm.takeS
  split
  · simp
  · split
    · simp
    · split
      · simp
      · simp only [List.length_take, Int.toNat_natCast]; omega
theorem own_step {wr w5 w6 : World} {B g n : Nat} {e : TypeId} {v : Value} {vals : List Value} (hown : wr.ownsRow B e 1 v n vals) (hg : g < B) (hg5 : wr.grownBy w5 (some g)) (hb6 : Below w5.heap.size w5 w6) : w6.ownsRow B e 1 v n vals := by
  refine own_below (hown.kept hg5 ?_) hb6
  have := hown.lt
  cases hv : v.ownBlock <;> simp
  rename_i kk
  have := (this kk hv).1
  omega
theorem base_le {wr w5 w6 : World} {B g : Nat} {o : Obj} (hB : B ≤ wr.heap.size) (hg5 : wr.grownBy w5 (some g)) (hb6 : Below w5.heap.size w5 w6) : B ≤ (w6.alloc o).heap.size := by
  have := hg5.size
  have := hb6.size
  simp
  omega
/-- One round of the document's loop: a part was read and put behind the others. -/
theorem dl_round {wr w5 w6 w8 : World} {B g g2 : Nat} {v u v8 : Value} {vals : List Value} {acc : List Tx} {x : Tx} {t e : TypeId} (hB : B ≤ wr.heap.size) (hg : g < B) (hg2 : g2 < B)
    (hown : wr.ownsRow B e 1 v acc.length vals) (hels : Els wr B v vals acc) (hg5 : wr.grownBy w5 (some g)) (hb6 : Below w5.heap.size w5 w6) (hu : w6.ownsRow w5.heap.size t 1 u x.length (BVs x))
    (happ : Appended (w6.alloc (.cells #[u] e)) B e 1 v (acc.length + 1) (vals ++ [u]) v8 w8) :
    (w8.setCell ⟨g2, 4, none⟩ v8).ownsRow B e 1 v8 (acc ++ [x]).length (vals ++ [u]) ∧ Els (w8.setCell ⟨g2, 4, none⟩ v8) B v8 (vals ++ [u]) (acc ++ [x]) := by
  have hlt := hown.lt
  have z5 := hg5.size
  have z6 := hb6.size
  have hels6 : Els w6 B v vals acc := (hels.grown hg5 (fun k hk => .inl (by injection hk with hk; omega))).grown (grown_of_below hb6 none) (by simp)
  have h1 : Els w6 B v (vals ++ [u]) (acc ++ [x]) := by
    refine hels6.push (Sl.of_own hu fun k hk _ hy => ?_)
    rcases hy with hy | hy
    · omega
    · have := (hlt k hy).2; omega
  have h2 := h1.keep (w' := w6.alloc (.cells #[u] e)) (by simp) (fun b hb _ => Below.heap_alloc _ _ _ hb)
  have h3 := h2.grown happ.2.1 (fun k hk => .inr hk)
  have h4 : Els w8 B v8 (vals ++ [u]) (acc ++ [x]) := by
    refine ⟨h3.1, fun i hi => ?_⟩
    obtain ⟨u0, hu0, h5⟩ := h2.2 i hi
    refine ⟨u0, hu0, ?_⟩
    have h6 : Sl w8 (fun k => (k < B ∨ v.ownBlock = some k) ∨ (w6.alloc (.cells #[u] e)).heap.size ≤ k) 1 u0 (acc ++ [x])[i].length (BVs (acc ++ [x])[i]) :=
      (h5.old (Nat.le_refl _)).grown happ.2.1 (fun k hk _ => .inl (.inr hk))
    refine h6.weaken fun b _ hy => ?_
    rcases hy with hy | hy
    · exact .inl (.inl hy)
    · rcases happ.2.2 with hr | hr
      · rw [hr] at hy; exact .inl (.inr hy)
      · rw [hr] at hy; injection hy with hy; exact .inr (by omega)
  have cg : w8.grownBy (w8.setCell ⟨g2, 4, none⟩ v8) (some g2) := grown_setCell (World.grownBy.refl w8 (some g2)) (p := ⟨g2, 4, none⟩) (.inl rfl) v8
  refine ⟨?_, h4.grown cg (fun k hk => .inl (by injection hk with hk; omega))⟩
  rw [List.length_append, List.length_singleton]
  exact ownsRow_setCell_below happ.1 (a := ⟨g2, 4, none⟩) hg2 _
theorem els_ls {W : World} {B : Nat} {v : Value} {vals : List Value} {acc : List Tx} {t : TypeId} {X : Nat → Prop} (hown : W.ownsRow B t 1 v acc.length vals) (hels : Els W B v vals acc) (hX : ∀ k, X k → k < B) : Ls W X v acc := by
  refine ⟨vals, Sl.of_own hown (fun k hk _ hx => by have := hX k hx; omega), fun i hi => ?_⟩
  obtain ⟨u, hu, hs⟩ := hels.2 i hi
  exact ⟨u, hu, hs.weaken (fun k _ hk => .inl (hX k hk))⟩

end Go.Proofs.Ytcmknopgoiabbaa.Qc

/-
  Layer 6 (op): the contracts of Take, Parse and TakeResult.
-/
namespace Go.Proofs.Ytcmknopgoiabbaa.Qt
set_option linter.unusedSimpArgs false
open Go Go.RowKit Ck Kw Ca Cb Ce Cf Cg Ci Pm Pa Pe Pf Pg Ph Ppi Pk Pp Qb
set_option linter.unusedVariables false

section
variable {w0 W W' : World} {X : Nat → Prop} {g g1 g2 : Nat} {t : TypeId} {zs cs cs' : Array Value} {s s' : Cm.RS}
end
/-- What Parse leaves. -/
def Parsed (w : World) (r : O × Int) (e : Ending) (w' : World) : Prop := ∃ v, e = .returned (.tuple #[v, .int .i64 r.2]) ∧ OI w' (fun k => k < w.heap.size) v r.1 ∧ Below w.heap.size w w'
theorem parsed_of {w W : World} {o : O} {A : Option Addr} {c : Nat} {r : O × Int} {z : Int} (hB : Below w.heap.size w W) (x0 x1 x2 x3 x4 : Value) (hv : Value.agg #[x0, x1, x2, x3, x4] = OV o A c)
    (hls : Ls W (fun k => k < w.heap.size ∨ k = w.heap.size) (.slice A o.recs.length c) o.recs) (hr : r = (o, z)) :
    Parsed w r (.returned (.tuple #[.agg #[x0, x1, x2, x3, x4], .int .i64 z])) (((((W.setCell ⟨w.heap.size, 0, none⟩ x0).setCell ⟨w.heap.size, 1, none⟩ x1).setCell ⟨w.heap.size, 2, none⟩ x2).setCell ⟨w.heap.size, 3, none⟩ x3).setCell ⟨w.heap.size, 4, none⟩ x4) := by
  subst hr
  have cg : W.grownBy (((((W.setCell ⟨w.heap.size, 0, none⟩ x0).setCell ⟨w.heap.size, 1, none⟩ x1).setCell ⟨w.heap.size, 2, none⟩ x2).setCell ⟨w.heap.size, 3, none⟩ x3).setCell ⟨w.heap.size, 4, none⟩ x4) (some w.heap.size) :=
    grown_setCell (grown_setCell (grown_setCell (grown_setCell (grown_setCell (World.grownBy.refl W (some w.heap.size)) (p := ⟨w.heap.size, 0, none⟩) (.inl rfl) x0) (p := ⟨w.heap.size, 1, none⟩) (.inl rfl) x1) (p := ⟨w.heap.size, 2, none⟩) (.inl rfl) x2) (p := ⟨w.heap.size, 3, none⟩) (.inl rfl) x3) (p := ⟨w.heap.size, 4, none⟩) (.inl rfl) x4
  exact ⟨_, rfl, ⟨A, c, hv, (hls.grown cg (fun q hq _ => by injection hq with hq; exact .inr hq.symm)).weaken (fun k _ hk => .inl hk)⟩, hB.grown cg hB.size (fun q hq => by injection hq with hq; omega)⟩

theorem size_res : (Try.prog.info? 34).map (·.size) = some 2 := by kernel_rfl
theorem blk2 {w : World} {g : Nat} {t : TypeId} {x y u v : Value} (h : Blk w g t #[u, v]) : Blk ((w.setCell ⟨g, 0, none⟩ x).setCell ⟨g, 1, none⟩ y) g t #[x, y] := by
  have := (h.set_ 0 x).set_ 1 y
  simpa using this
end Go.Proofs.Ytcmknopgoiabbaa.Qt

/-
  Layer 6 (op): the contracts of Same, the document's and the program's.
-/
namespace Go.Proofs.Ytcmknopgoiabbaa.Qs
set_option linter.unusedSimpArgs false
open Go Go.RowKit Ck Kw Ca Cb Pm Pa Pe Pf Pg Ph Ppi Pk Pp
set_option linter.unusedVariables false

/-- Are two lists the same? (A word of its own.) -/
def sameL (a b : List Tx) : Bool := decide (a = b)
def sameO (a b : O) : Bool := decide (a = b)
/-- Two operations stand there. -/
structure SB (w0 : World) (g1 g2 : Nat) (a b : O) (A B : Option Addr) (c d : Nat) (X Y : Nat → Prop) (W : World) : Prop where
  below : Below w0.heap.size w0 W
  one : OB W g1 a A c
  two : OB W g2 b B d
  la : Ls W X (.slice A a.recs.length c) a.recs
  lb : Ls W Y (.slice B b.recs.length d) b.recs
theorem sb_start {w : World} {a b : O} {A B : Option Addr} {c d : Nat} {X Y : Nat → Prop} (ha : Ls w X (.slice A a.recs.length c) a.recs) (hb : Ls w Y (.slice B b.recs.length d) b.recs) :
    SB w w.heap.size (w.heap.size + 1) a b A B c d X Y ((w.alloc (.cells (OC a A c) 29)).alloc (.cells (OC b B d) 29)) := by
  have b1 : Below w.heap.size w (w.alloc (.cells (OC a A c) 29)) := (Below.refl _ w).alloc (Nat.le_refl _) _
  have b2 : Below w.heap.size w ((w.alloc (.cells (OC a A c) 29)).alloc (.cells (OC b B d) 29)) := b1.alloc b1.size _
  exact ⟨b2, Blk.alloc (Blk.new w _ _) _, Blk.new_at (by simp) rfl, ha.after b2, hb.after b2⟩
theorem SB.drewN {w0 W : World} {g1 g2 : Nat} {a b : O} {A B : Option Addr} {c d : Nat} {X Y : Nat → Prop} (h : SB w0 g1 g2 a b A B c d X Y W) (n : Nat) : SB w0 g1 g2 a b A B c d X Y (W.drewN n) :=
  ⟨below_drewN h.below n, h.one, h.two, h.la, h.lb⟩

end Go.Proofs.Ytcmknopgoiabbaa.Qs

/-
  Layer 6 (op): the contract of bullalaw06.begun; the walk of the statement OpNames.
-/
namespace Go.Proofs.Ytcmknopgoiabbaa.Pl
set_option linter.unusedSimpArgs false
open Go Go.RowKit Ck Kw Ca Cb Ci Pm Pa Pb Pd Pe Pf Pg Ph Ppi Kx Pk
set_option linter.unusedVariables false

/-- The operation that begun asks about. -/
def o0 : O := ⟨2, [116], [], 0, [[9]]⟩
theorem form0 : form o0 = [2, 1, 116, 1, 1, 9] := by decide +kernel
theorem check0 : check o0 = 0 := by decide +kernel
def W0 (w : World) : World := (w.alloc (.cells #[.int .u8 9] 5)).alloc (.cells #[.slice (some ⟨w.heap.size, 0, none⟩) 1 1] 44)
theorem w0_below (w : World) : Below w.heap.size w (W0 w) := ((Below.refl _ w).alloc (Nat.le_refl _) _).alloc (by simp) _
theorem oi0 (w : World) : OI (W0 w) (fun _ => False) (OV o0 (some ⟨w.heap.size + 1, 0, none⟩) 1) o0 := by
  refine ⟨_, _, rfl, [.slice (some ⟨w.heap.size, 0, none⟩) 1 1], ?_, fun i hi => ?_⟩
  · have h := one_newv (w.alloc (.cells #[.int .u8 9] 5)) (fun _ => False) 44 (.slice (some ⟨w.heap.size, 0, none⟩) 1 1) (fun h => h)
    have h2 : Sl (W0 w) (fun _ => False) 1 (.slice (some ⟨w.heap.size + 1, 0, none⟩) 1 1) 1 [.slice (some ⟨w.heap.size, 0, none⟩) 1 1] := by simpa [W0] using h
    exact h2
  · have hi0 : i = 0 := by simp [o0] at hi; omega
    subst hi0
    refine ⟨_, rfl, ?_⟩
    have h := Sl_lit w (fun _ => False) 5 [9] (cs := #[.int .u8 9]) (n := 1) rfl rfl (by omega) (fun h => h)
    exact h.alloc _
theorem six_new (w : World) : Sl (w.alloc (.cells #[.int .u8 2, .int .u8 1, .int .u8 116, .int .u8 1, .int .u8 1, .int .u8 9] 5)) (fun _ => False) 1 (.slice (some ⟨w.heap.size, 0, none⟩) 6 6) 6 (BVs [2, 1, 116, 1, 1, 9]) :=
  Sl_lit w (fun _ => False) 5 [2, 1, 116, 1, 1, 9] rfl rfl (by omega) (fun h => h)

end Go.Proofs.Ytcmknopgoiabbaa.Pl

/-
  Layer 6 (op): the walk of the statement OpReads.
-/
namespace Go.Proofs.Ytcmknopgoiabbaa.Qd
set_option linter.unusedSimpArgs false
open Go Go.RowKit Ck Kw Ca Cb Ce Cf Cg Ci Cn Pm Pa Pe Pf Pg Ph Ppi Pk Pl Pp Qb Qc Qt Qs
attribute [local go_sem ↓] Go.wp_at_zero Go.wp_at_succ
set_option linter.unusedVariables false

theorem sameO_refl (a : O) : sameO a a = true := by simp [sameO]
/-- An operation's cells, kept in a block. -/
structure KO (W : World) (B g : Nat) (o : O) (A : Option Addr) (c : Nat) : Prop where
  op : OB W g o A c
  new : B ≤ g
  ls : Ls W (fun k => k < B) (.slice A o.recs.length c) o.recs
theorem KO.later {W W' : World} {B g : Nat} {o : O} {A : Option Addr} {c : Nat} (h : KO W B g o A c) (hb : Below W.heap.size W W') : KO W' B g o A c := ⟨Blk.below h.op hb (Blk.lt h.op), h.new, h.ls.after hb⟩
theorem KO.oi {W : World} {B g : Nat} {o : O} {A : Option Addr} {c : Nat} (h : KO W B g o A c) : OI W (fun k => k < B) (OV o A c) o := ⟨A, c, rfl, h.ls⟩
theorem ko_new {W w0 : World} {o : O} {A : Option Addr} {c : Nat} (hB : w0.heap.size ≤ W.heap.size) (hls : Ls W (fun k => k < w0.heap.size) (.slice A o.recs.length c) o.recs) : KO (W.alloc (.cells (OC o A c) 29)) w0.heap.size W.heap.size o A c :=
  ⟨Blk.new _ _ _, hB, hls.after ((Below.refl _ W).alloc (Nat.le_refl _) _)⟩
theorem al_below (W : World) (o : Obj) : Below W.heap.size W (W.alloc o) := (Below.refl _ W).alloc (Nat.le_refl _) _
theorem OB.cells' {W : World} {g : Nat} {o : O} {A : Option Addr} {c : Nat} (h : OB W g o A c) :
    W.cell? ⟨g, 0, none⟩ = some (.int .i64 o.kind) ∧ W.cell? ⟨g, 1, none⟩ = some (.string ⟨o.topic.toArray⟩) ∧ W.cell? ⟨g, 2, none⟩ = some (.string ⟨o.group.toArray⟩) ∧ W.cell? ⟨g, 3, none⟩ = some (.int .i64 o.off) ∧ W.cell? ⟨g, 4, none⟩ = some (.slice A o.recs.length c) := h.cells

theorem guard_res : Try.prog.eqGuardType Try.prog.depth 34 = false := by kernel_rfl
theorem stood_res : Try.prog.stoodInHeld 34 = false := by kernel_rfl
theorem fields_res : Try.prog.underlying 34 = some (.struct (Try.prog.fieldsOf 34)) := by kernel_rfl
theorem run_eql_res (W : World) (a b : Int) : (binOp .eql 34 (.agg #[.int .i64 a, .int .i64 b]) (.agg #[.int .i64 a, .int .i64 b])).run Try.prog W = .ok (.bool true) W := by
  have key : ∀ d, (Op.equalIn (d + 1 + 1) 34 (.agg #[.int .i64 a, .int .i64 b]) (.agg #[.int .i64 a, .int .i64 b])).run Try.prog W = .ok true W := fun d => by
    rw [run_equalIn_struct W (d + 1) 34 _ _ fields_res stood_res]
    have hf : (Try.prog.fieldsOf 34).toList = [{ name := "Err", type := 32, offset := 0, embedded := false, tag := "", pkgPath := "", byteOffset := 0 }, { name := "Offset", type := 2, offset := 1, embedded := false, tag := "", pkgPath := "", byteOffset := 8 }] := by kernel_rfl
    rw [hf]
    have h1 := fun (x y : Int) (W : World) => run_equalIn_int (P := Try.prog) W d 32 .i64 .i64 x y Try.underlying32
    have h2 := fun (x y : Int) (W : World) => run_equalIn_int (P := Try.prog) W d 2 .i64 .i64 x y Try.underlying2
    have p1 : ∀ (u v : Value) (W : World), (part 32 #[u, v] 0).run Try.prog W = .ok u W := fun u v W => by simp [part, isAgg, run_underlying Try.underlying32]
    have p2 : ∀ (u v : Value) (W : World), (part 2 #[u, v] 1).run Try.prog W = .ok v W := fun u v W => by simp [part, isAgg, run_underlying Try.underlying2]
    simp [Op.eqFields, p1, p2, h1, h2, Result.andThen]
  rw [run_eql_struct, show (10000 : Nat) = 9998 + 1 + 1 from rfl, key]
  rfl

theorem run_eql_res' (a b : Int) : ∀ W, (binOp .eql 34 (.agg #[.int .i64 a, .int .i64 b]) (.agg #[.int .i64 a, .int .i64 b])).run Try.prog W = .ok (.bool true) W := fun W => run_eql_res W a b
theorem two_cells {W : World} {g g' B : Nat} {u v e : Int} (h1 : Blk W g 34 #[.int .i64 u, .int .i64 v]) (h2 : Blk W g' 34 #[.int .i64 u, .int .i64 v]) (h3 : W.cell? ⟨B, 1, none⟩ = some (.int .i64 e)) :
    W.cell? ⟨g, 0, none⟩ = some (.int .i64 u) ∧ W.cell? ⟨g, 1, none⟩ = some (.int .i64 v) ∧ W.cell? ⟨g', 0, none⟩ = some (.int .i64 u) ∧ W.cell? ⟨g', 1, none⟩ = some (.int .i64 v) ∧ W.cell? ⟨B, 1, none⟩ = some (.int .i64 e) := by
  have a := h1.cell 0
  have b := h1.cell 1
  have c := h2.cell 0
  have d := h2.cell 1
  simp only [List.getElem?_toArray, List.getElem?_cons_zero, List.getElem?_cons_succ] at a b c d
  exact ⟨a, b, c, d, h3⟩
end Go.Proofs.Ytcmknopgoiabbaa.Qd

/-
  Layer 6 (op): the document's own Put, kind by kind, and its Bytes.
-/
namespace Go.Proofs.Ytcmknopgoiabbaa.Pn
set_option linter.unusedSimpArgs false
open Go Go.RowKit Ck Kw Ca Cb Cd Ci Pm Pa Pe Pf Pg Ph Ppi Kx Pk
set_option linter.unusedVariables false

/-- The operation stands there, and a row of the call's own. -/
structure RB (w0 : World) (g1 : Nat) (o : O) (A : Option Addr) (c : Nat) (v : Value) (l : Tx) (W : World) : Prop where
  rk : RK w0 g1 o A c W
  row : W.ownsRow w0.heap.size 5 1 v l.length (BVs l)
theorem RB.put {w0 W W1 W2 : World} {g1 : Nat} {o : O} {A : Option Addr} {c : Nat} {v' : Value} {l' : Tx} (h : RK w0 g1 o A c W) (b1 : Below W.heap.size W W1) (hown : W2.ownsRow W1.heap.size 5 1 v' l'.length (BVs l')) (b2 : Below W1.heap.size W1 W2) : RB w0 g1 o A c v' l' W2 := by
  have b : Below W.heap.size W W2 := b1.trans (b2.mono b1.size)
  exact ⟨h.later b, own_base hown (Nat.le_trans h.below.size b1.size)⟩
/-- What Put leaves of an operation that may be. -/
def Putted (w : World) (b : Tx) (o : O) (e : Ending) (w' : World) : Prop := Made w 5 (b ++ raw o) e w'
theorem putted_of {w W : World} {g1 : Nat} {o : O} {A : Option Addr} {c : Nat} {v : Value} {b l : Tx} (h : RB w g1 o A c v l W) (hl : b ++ raw o = l) : Putted w b o (.returned v) W := by
  subst hl
  exact ⟨v, rfl, h.row, h.rk.below⟩

/-- What Put leaves. -/
def Behind (w : World) (X : Nat → Prop) (l : Tx) (e : Ending) (w' : World) : Prop := ∃ v, e = .returned v ∧ Sl w' (fun k => X k ∧ k < w.heap.size) 1 v l.length (BVs l) ∧ Below w.heap.size w w'
theorem behind_of {w w' : World} {X : Nat → Prop} {l : Tx} {e : Ending} (h : Made w 5 l e w') : Behind w X l e w' := by
  obtain ⟨v, rfl, hown, hb⟩ := h
  exact ⟨v, rfl, Sl.of_own hown (fun k hk _ hx => by omega), hb⟩
end Go.Proofs.Ytcmknopgoiabbaa.Pn
