/-
  Words for memory, for any layer: a change of some blocks and new ones; append, its result written out.
-/
import Derived.Test.YtkoedonllfmaaaaGreatVD01
import Derived.Test.YtkoedonllfmaaaaGreatRows
import Derived.Maps.OwnSet
import Derived.Maps.StringElems
import Derived.ProofKit
import Derived.OpenShut
import Derived.JoinedCond
import Derived.Deep.Slices
import Derived.SizedLaws
import Derived.JoinedOf
import Derived.Lib.DecodeN
import Derived.LoopTactic
import Derived.Outline
import Derived.Laws.RangeAny
import Derived.WalkMore
import Derived.Laws.RangeString
namespace Go.Proofs.YtkoedonllfmaaaaGreat.Kw
set_option linter.unusedSimpArgs false
set_option linter.unusedVariables false
open Go Go.RowKit Ck

/-- w' is w but for blocks of S, and new ones. -/
structure Ch (S : Nat → Prop) (w w' : World) : Prop where
  os : w'.os = w.os
  tape : w'.tape = w.tape
  output : w'.output = w.output
  size : w.heap.size ≤ w'.heap.size
  block : ∀ k, k < w.heap.size → ¬ S k → w'.heap[k]? = w.heap[k]?

section
variable {S T X : Nat → Prop} {a b c w w' : World}
theorem Ch.refl (S : Nat → Prop) (w : World) : Ch S w w := ⟨rfl, rfl, rfl, Nat.le_refl _, fun _ _ _ => rfl⟩
theorem Ch.trans (h : Ch S a b) (k : Ch T b c) (hT : ∀ k, k < a.heap.size → T k → S k) : Ch S a c :=
  ⟨k.os.trans h.os, k.tape.trans h.tape, k.output.trans h.output, Nat.le_trans h.size k.size, fun i hi hn =>
    (k.block i (Nat.lt_of_lt_of_le hi h.size) (fun ht => hn (hT i hi ht))).trans (h.block i hi hn)⟩
theorem Ch.mono (h : Ch S a b) (hT : ∀ k, k < a.heap.size → S k → T k) : Ch T a b :=
  ⟨h.os, h.tape, h.output, h.size, fun i hi hn => h.block i hi (fun hs => hn (hT i hi hs))⟩
theorem Ch.of_below {B : Nat} (h : Below B a b) (hB : a.heap.size ≤ B) : Ch S a b := ⟨h.os, h.tape, h.output, h.size, fun i hi _ => h.block i (by omega)⟩
theorem Ch.of_grown {row : Option Nat} (h : a.grownBy b row) (hr : ∀ g, row = some g → g < a.heap.size → S g) : Ch S a b :=
  ⟨h.os, h.tape, h.output, h.size, fun i hi hn => h.block i hi (fun e => hn (hr i e.symm hi))⟩
theorem Ch.below {B : Nat} (h : Ch S a b) (hB : ∀ k, k < B → ¬ S k) (hs : B ≤ a.heap.size) : Below B a b := ⟨h.os, h.tape, h.output, h.size, fun i hi => h.block i (by omega) (hB i hi)⟩
theorem Ch.alloc (h : Ch S a b) (o : Obj) : Ch S a (b.alloc o) := h.trans (Ch.of_below (S := fun _ => False) ((Below.refl b.heap.size b).alloc (Nat.le_refl _) o) (Nat.le_refl _)) (fun _ _ h => h.elim)
theorem Ch.drewN (h : Ch S a b) (n : Nat) : Ch S a (b.drewN n) := ⟨h.os, h.tape, h.output, h.size, h.block⟩
theorem Ch.drew (h : Ch S a b) : Ch S a b.drew := ⟨h.os, h.tape, h.output, h.size, h.block⟩
theorem Ch.setCell (h : Ch S a b) {p : Addr} (hp : p.block < a.heap.size → S p.block) (u : Value) : Ch S a (b.setCell p u) :=
  ⟨h.os, h.tape, h.output, by simpa [World.setCell] using h.size, fun i hi hn => (Below.heap_setCell b p u i (fun e => hn (by rw [e]; exact hp (by rw [← e]; exact hi)))).trans (h.block i hi hn)⟩
theorem Ch.cell (h : Ch S a b) {p : Addr} {v : Value} (hc : a.cell? p = some v) (hp : ¬ S p.block) : b.cell? p = some v :=
  (World.cell?_of_block (h.block _ (World.block_lt_of_cell? a p hc) hp)).trans hc
theorem _root_.Go.Proofs.YtkoedonllfmaaaaGreat.Ck.Sl.ch {size n : Nat} {v : Value} {xs : List Value} (h : Sl w X size v n xs) (c : Ch S w w') (hd : ∀ k, k < w.heap.size → S k → X k) : Sl w' X size v n xs :=
  h.keep c.size (fun b hb hX => c.block b hb (fun hs => hX (hd b hb hs)))
theorem _root_.Go.Proofs.YtkoedonllfmaaaaGreat.Ck.Ls.ch {v : Value} {ls : List (List UInt8)} (h : Ls w X v ls) (c : Ch S w w') (hd : ∀ k, k < w.heap.size → S k → X k) : Ls w' X v ls :=
  h.keep c.size (fun b hb hX => c.block b hb (fun hs => hX (hd b hb hs)))
theorem _root_.Go.Proofs.YtkoedonllfmaaaaGreat.Ck.Blk.ch {g : Nat} {t : TypeId} {cs : Array Value} (h : Blk w g t cs) (c : Ch S w w') (hg : ¬ S g) : Blk w' g t cs := (c.block g h.lt hg).trans h
theorem own_ch {base : Nat} {e : TypeId} {size n : Nat} {v : Value} {xs : List Value} (h : w.ownsRow base e size v n xs) (c : Ch S w w') (hg : ∀ g, v.ownBlock = some g → ¬ S g) : w'.ownsRow base e size v n xs := by
  refine ⟨h.1, ?_⟩
  rcases h.2 with hn | ⟨g, cap, cur, rfl, hb, hr, rest⟩
  · exact .inl hn
  · exact .inr ⟨g, cap, cur, rfl, hb, (c.block g (Array.getElem?_eq_some_iff.1 hr).1 (hg g rfl)).trans hr, rest⟩
theorem map_ch {H : Type} {P : Program} {k : TypeId} {R : Value → Option (DataW H × List MemPlace)} {m n : Nat} {D : DataW H} (h : w.ownsMap P k R m n D) (c : Ch S w w') (hm : ¬ S m) : w'.ownsMap P k R m n D := by
  have hlt := h.lt
  obtain ⟨es, clock, hb, r⟩ := h
  exact ⟨es, clock, (c.block m hlt hm).trans hb, r⟩
/-- A row's block is not a block of another type. -/
theorem own_far {base : Nat} {e t : TypeId} {size n g : Nat} {v : Value} {xs : List Value} {cs : Array Value} (h : w.ownsRow base e size v n xs) (hb : Blk w g t cs) (he : e ≠ t) : v.ownBlock ≠ some g := by
  rcases h.2 with ⟨rfl, _⟩ | ⟨g', cap, cur, rfl, _, hr, _⟩
  · simp [Value.ownBlock]
  · intro h2
    have h2 : g' = g := by simpa [Value.ownBlock] using h2
    subst h2
    unfold Blk at hb
    rw [hr] at hb
    injection hb with hb
    injection hb with _ h3
    exact he h3
theorem map_far {H : Type} {P : Program} {k t : TypeId} {R : Value → Option (DataW H × List MemPlace)} {m n g : Nat} {D : DataW H} {cs : Array Value} (h : w.ownsMap P k R m n D) (hb : Blk w g t cs) : m ≠ g := by
  rintro rfl
  obtain ⟨es, clock, hm, _⟩ := h
  unfold Blk at hb
  rw [hb] at hm
  cases hm
theorem map_row {H : Type} {P : Program} {k e : TypeId} {R : Value → Option (DataW H × List MemPlace)} {m n base size n' : Nat} {D : DataW H} {v : Value} {xs : List Value} (h : w.ownsMap P k R m n D) (hr : w.ownsRow base e size v n' xs) : v.ownBlock ≠ some m := by
  rcases hr.2 with ⟨rfl, _⟩ | ⟨g', cap, cur, rfl, _, hr, _⟩
  · simp [Value.ownBlock]
  · intro h2
    have h2 : g' = m := by simpa [Value.ownBlock] using h2
    subst h2
    obtain ⟨es, clock, hm, _⟩ := h
    rw [hm] at hr
    cases hr
/-- What is new. -/
def New (w w' : World) (k : Nat) : Prop := w.heap.size ≤ k ∧ k < w'.heap.size
/-- S, and what is new. -/
def Up (S : Nat → Prop) (w w' : World) (k : Nat) : Prop := S k ∨ (w.heap.size ≤ k ∧ k < w'.heap.size)
end

/-- append, its result written out. -/
theorem wpList_append_sh {P : Program} (w : World) {ops : Array Oper} {rest : List Oper} {o : Oper} {a : Act} {Q : Exit → Act → World → Prop} (hgd : o.guard = none) (s x : Operand) (t : TypeId)
    (ho : o.op = .call { callee := .builtin .append, args := #[s, x], argTypes := #[t, t] })
    (base : Nat) (e : TypeId) (i : TypeInfo) (z : Value) (size bytes : Nat) (ht : P.underlying t = some (.slice e)) (hi : P.info? e = some i) (hz : i.zero = some z)
    (hsize : i.size = size) (hby : i.bytes = bytes) (hzs : z.cells.size = size) (hsz : 0 < size)
    (v : Value) (n : Nat) (xs : List Value) (hs : a.eval s = v) (hown : w.ownsRow base e size v n xs)
    (X : Nat → Prop) (src : Value) (m : Nat) (news : List Value) (hx : a.eval x = src) (hr : Sl w X size src m news) (h1 : ∀ u ∈ news, u.oneCell' = true)
    (h63 : n + m ≤ maxLen) (hbytes : (n + m) * bytes ≤ 140737488355328) (hbase : base ≤ w.heap.size)
    (h : ∀ A c w', Appended w base e size v (n + m) (xs ++ news) (.slice A (n + m) c) w' → wpList P ops Q rest (a.put o.dst (.slice A (n + m) c)) w') : wpList P ops Q (o :: rest) a w :=
  wpList_append_sl w hgd s x t ho base e i z size bytes ht hi hz hsize hby hzs hsz v n xs hs hown X src m news hx hr h1 h63 hbytes hbase (fun v' w' happ => by
    obtain ⟨A, c, rfl⟩ := own_shape happ.1
    exact h A c w' happ)

/-- append at a step of a region that draws its order. -/
theorem step_append_sh {P : Program} {w : World} {ops : Array Oper} {o : Oper} {a : Act} {K : Act → World → Prop} {Q : Exit → Act → World → Prop} {E : Prop} (hgd : o.guard = none) (s x : Operand) (t : TypeId)
    (ho : o.op = .call { callee := .builtin .append, args := #[s, x], argTypes := #[t, t] })
    (base : Nat) (e : TypeId) (i : TypeInfo) (z : Value) (size bytes : Nat) (ht : P.underlying t = some (.slice e)) (hi : P.info? e = some i) (hz : i.zero = some z)
    (hsize : i.size = size) (hby : i.bytes = bytes) (hzs : z.cells.size = size) (hsz : 0 < size)
    (v : Value) (n : Nat) (xs : List Value) (hs : a.eval s = v) (hown : w.ownsRow base e size v n xs)
    (X : Nat → Prop) (src : Value) (m : Nat) (news : List Value) (hx : a.eval x = src) (hr : Sl w X size src m news) (h1 : ∀ u ∈ news, u.oneCell' = true)
    (h63 : n + m ≤ maxLen) (hbytes : (n + m) * bytes ≤ 140737488355328) (hbase : base ≤ w.heap.size)
    (h : ∀ A c w', Appended w base e size v (n + m) (xs ++ news) (.slice A (n + m) c) w' → K (a.put o.dst (.slice A (n + m) c)) w') :
    if Region.wanted o (yielded ops a.tmps) = true then Oper.wp P o a w K Q else E := by
  have hw : Region.wanted o (yielded ops a.tmps) = true := by simp [Region.wanted, hgd]
  rw [if_pos hw]
  obtain ⟨v', w', hrun, h2⟩ := run_append_sl (P := P) w base t o.type e i z size bytes ht hi hz hsize hby hzs hsz v n xs hown X src m news hr h1 h63 hbytes hbase
  unfold Oper.wp execOp
  simp only [ho, resolve, invoke, builtin, Sem.run_bind, Sem.run_pure, Result.andThen_ok, List.map_toArray, List.map_cons, List.map_nil, hs, hx, hrun]
  obtain ⟨A, c, rfl⟩ := own_shape h2.1
  exact h A c w' h2

theorem step_append_new {P : Program} {w : World} {ops : Array Oper} {o : Oper} {a : Act} {K : Act → World → Prop} {Q : Exit → Act → World → Prop} {E : Prop} (hgd : o.guard = none) (s x : Operand) (t : TypeId)
    (ho : o.op = .call { callee := .builtin .append, args := #[s, x], argTypes := #[t, t] })
    (e : TypeId) (i : TypeInfo) (z : Value) (size bytes : Nat) (ht : P.underlying t = some (.slice e)) (hi : P.info? e = some i) (hz : i.zero = some z)
    (hsize : i.size = size) (hby : i.bytes = bytes) (hzs : z.cells.size = size) (hsz : 0 < size) (hs : a.eval s = .slice none 0 0)
    (X : Nat → Prop) (src : Value) (m : Nat) (news : List Value) (hx : a.eval x = src) (hr : Sl w X size src m news) (h1 : ∀ u ∈ news, u.oneCell' = true)
    (h63 : m ≤ maxLen) (hbytes : m * bytes ≤ 140737488355328)
    (h : ∀ A c w', w'.ownsRow w.heap.size e size (.slice A m c) m news → Below w.heap.size w w' → K (a.put o.dst (.slice A m c)) w') :
    if Region.wanted o (yielded ops a.tmps) = true then Oper.wp P o a w K Q else E :=
  step_append_sh hgd s x t ho w.heap.size e i z size bytes ht hi hz hsize hby hzs hsz _ 0 [] hs (World.ownsRow_nil _ _ _ _) X src m news hx hr h1 (by omega) (by rw [Nat.zero_add]; exact hbytes) (Nat.le_refl _) (fun A c w' happ => by
    obtain ⟨ho, hg, _⟩ := happ
    rw [Nat.zero_add] at ho ⊢
    exact h A c w' (by simpa using ho) (below_of_grown hg (by simp [Value.ownBlock])))
theorem below_tr {a b c : World} (h : Below a.heap.size a b) (k : Below b.heap.size b c) : Below a.heap.size a c := h.trans (k.mono h.size)

/-- append to nothing, its result written out. -/
theorem wpList_append_new {P : Program} (w : World) {ops : Array Oper} {rest : List Oper} {o : Oper} {a : Act} {Q : Exit → Act → World → Prop} (hgd : o.guard = none) (s x : Operand) (t : TypeId)
    (ho : o.op = .call { callee := .builtin .append, args := #[s, x], argTypes := #[t, t] })
    (e : TypeId) (i : TypeInfo) (z : Value) (size bytes : Nat) (ht : P.underlying t = some (.slice e)) (hi : P.info? e = some i) (hz : i.zero = some z)
    (hsize : i.size = size) (hby : i.bytes = bytes) (hzs : z.cells.size = size) (hsz : 0 < size) (hs : a.eval s = .slice none 0 0)
    (X : Nat → Prop) (src : Value) (m : Nat) (news : List Value) (hx : a.eval x = src) (hr : Sl w X size src m news) (h1 : ∀ u ∈ news, u.oneCell' = true)
    (h63 : m ≤ maxLen) (hbytes : m * bytes ≤ 140737488355328)
    (h : ∀ A c w', w'.ownsRow w.heap.size e size (.slice A m c) m news → Below w.heap.size w w' → wpList P ops Q rest (a.put o.dst (.slice A m c)) w') : wpList P ops Q (o :: rest) a w :=
  wpList_append_sh w hgd s x t ho w.heap.size e i z size bytes ht hi hz hsize hby hzs hsz _ 0 [] hs (World.ownsRow_nil _ _ _ _) X src m news hx hr h1 (by omega) (by rw [Nat.zero_add]; exact hbytes) (Nat.le_refl _) (fun A c w' happ => by
    obtain ⟨ho, hg, _⟩ := happ
    rw [Nat.zero_add] at ho ⊢
    exact h A c w' (by simpa using ho) (below_of_grown hg (by simp [Value.ownBlock])))

/-- A string's value. -/
def SV (l : List UInt8) : Value := .string ⟨l.toArray⟩

end Go.Proofs.YtkoedonllfmaaaaGreat.Kw

/-
  Opening a law's arguments under the form's own reach (byte strings, strings, numbers), and closing its row: the result is true and the arguments read as they did. For any layer.
-/
namespace Go.Proofs.YtkoedonllfmaaaaGreat.Kp
set_option linter.unusedSimpArgs false
set_option linter.unusedVariables false
open Go Go.RowKit Go.ChangeShapes Go.WideShapes Go.ChangeAt Go.Deep Ck

section
variable {H : Type} {enc : TypeId × Value → H} {P : Program}

theorem trodAll_below (hl : laidOutB P = true) : ∀ (ts : List TypeId) (vs : List Value) (ds : List (DataW H)) (ps : List MemPlace) {W W' : World} {sp : Nat → Bool},
    (ts.all fun t => P.readableRec t && decide (t < P.types.size)) = true → DataW.TrodAll enc P W 0 (fun _ => true) true ts vs ds ps → Below W.heap.size W W' →
    (∀ x ∈ ps, x.block < W.heap.size) → (∀ x ∈ ps, sp x.block = true) → DataW.TrodAll enc P W' 0 sp true ts vs ds ps
  | [], [], [], ps, W, W', sp, _, h, _, _, _ => h
  | t :: ts, v :: vs, d :: ds, ps, W, W', sp, hr, h, hb, hlt, hs => by
    obtain ⟨p, q, h1, h2, rfl⟩ := h
    simp only [List.all_cons, Bool.and_eq_true, decide_eq_true_eq] at hr
    refine ⟨p, q, ?_, ?_, rfl⟩
    · exact WideElems.Trod_stays hl hr.1.1 hr.1.2 h1 (fun x hx => hb.same (hlt x (by simp [hx]))) (fun x hx => hs x (by simp [hx]))
    · exact trodAll_below hl ts vs ds q (by simpa using hr.2) h2 hb (fun x hx => hlt x (by simp [hx])) (fun x hx => hs x (by simp [hx]))
  | [], [], _ :: _, _, _, _, _, _, h, _, _, _ => h.elim
  | [], _ :: _, _, _, _, _, _, _, h, _, _, _ => h.elim
  | _ :: _, [], _, _, _, _, _, _, h, _, _, _ => h.elim
  | _ :: _, _ :: _, [], _, _, _, _, _, h, _, _, _ => h.elim

/-- THE ROW's LAST STEP, for a law that answers true and leaves what was there as it was. -/
theorem law_post {f : Func} {s : ChangeSpec} {W W' : World} {args : Array Value} {ds gs : List (DataW H)} {before : List MemPlace} {tb : TypeId} (hl : laidOutB P = true) (hr : (f.params.toList.all fun t => P.readableRec t && decide (t < P.types.size)) = true)
    (hv : s.vars = []) (ht : f.resultTypes = #[tb]) (htb : P.underlying tb = some .bool) (hW : DataW.Whole enc P f.params.toList s.vars false W args.toList ds gs before)
    (hsr : (s.fn H (ds ++ gs)).results = [.lit (.bool true)]) (hsa : (s.fn H (ds ++ gs)).args = ds) (hsv : (s.fn H (ds ++ gs)).vars = []) (hb : Below W.heap.size W W') : s.post enc P f false true false false W args (.bool true) W' := by
  have hlt : ∀ p ∈ before, p.block < W.heap.size := fun p hp => hW.lt p hp
  have hW2 := hW
  obtain ⟨p, q, hA, hV, rfl, _, _⟩ := hW2
  rw [hv] at hV
  obtain ⟨rfl, rfl⟩ := trodVars_none hV
  have hold : ∀ x ∈ p, (fun b => decide (b < W.heap.size)) x.block = true := fun x hx => by simpa using hlt x (by simp [hx])
  refine ⟨ds, [], p ++ [], [], p, [], hW, ?_, ?_, ?_, World.keptBut_mono (fun x hx => ⟨hx, ?_⟩) (hb.frame (· ∈ p ++ [])), fun h => by cases h⟩
  · rw [hsr, ht]
    exact trodAll_cons_mk (shut_bool htb true) trodAll_mk0
  · rw [hsa]
    exact trodAll_below hl _ _ _ _ hr hA hb (fun x hx => hlt x (by simp [hx])) hold
  · rw [hsv, hv]
    rfl
  · rw [List.append_nil] at hx
    exact .inr (.inl hx)
end

section
variable {H : Type} {enc : TypeId × Value → H}
theorem cells_u8 : Tryz.prog.cellsOf 5 = 1 := by kernel_rfl

theorem ofNat_int {z : Int} (h : (Lit.int .u8 z).wf = true) : ((UInt8.ofNat z.toNat).toNat : Int) = z := by
  have h2 : 0 ≤ z ∧ z ≤ 255 := by simpa [Lit.wf, IntKind.min, IntKind.max, IntKind.signed, IntKind.bits] using h
  rw [Cm.toNat_ofNat (by omega)]
  omega
theorem bytes_u8 : Tryz.prog.bytesOf 5 = 1 := by kernel_rfl
theorem all_mem {P : Program} {e : TypeId} {d : DataW H} {n : Nat} (hn : n ∈ d.weights P e) : ∀ {l : List (DataW H)}, d ∈ l → n ∈ DataW.weightsAll P e l
  | x :: r, h => by
    simp only [DataW.weightsAll, List.mem_append]
    rcases List.mem_cons.1 h with rfl | h
    · exact .inl hn
    · exact .inr (all_mem hn h)

theorem one_int {w : World} {base : Nat} {sp : Nat → Bool} {held : Bool} {n : Nat} {t : TypeId} {k : IntKind} {cs : List Value} {xs : List (DataW H × List MemPlace)} {j : Nat} (ht : Tryz.prog.underlying t = some (.int k)) (hj : j < xs.length)
    (h : DataW.trod enc Tryz.prog w base sp held n t cs = xs[j]?) : ∃ z, cs = [.int k z] ∧ (Lit.int k z).wf = true := by
  rw [List.getElem?_eq_getElem hj] at h
  obtain ⟨z, h1, _, h2⟩ := DataW.trod_int ht h
  exact ⟨z, h1, h2⟩
theorem reach_of {P : Program} {ts : List TypeId} {ds : List (DataW H)} (h : (DataW.weightsEach P ts ds).all (· ≤ reachBytes) = true) {j : Nat} {t : TypeId} {d : DataW H} (ht : ts[j]? = some t) (hd : ds[j]? = some d) : ∀ n ∈ d.weights P t, n ≤ 140737488351232 := fun n hn => by
  have := List.all_eq_true.1 h n (DataW.weights_mem_each ht hd n hn)
  exact (of_decide_eq_true this : n ≤ reachBytes)
end

end Go.Proofs.YtkoedonllfmaaaaGreat.Kp

/-
  The plain mathematics of layer 6 (op): runes of a text, names, which operations may be, their bytes and what is read of bytes. No program is named here.
-/
namespace Go.Proofs.YtkoedonllfmaaaaGreat.Pm
set_option linter.unusedSimpArgs false
set_option linter.unusedVariables false
open Cm

abbrev Tx := List UInt8
/-- A byte of a text; 0 beyond its end. -/
def byte (l : Tx) (i : Nat) : Nat := (l[i]?.getD 0).toNat
theorem byte_lt (l : Tx) (i : Nat) : byte l i < 256 := UInt8.toNat_lt _
theorem byte_get {l : Tx} {i : Nat} (h : i < l.length) : byte l i = l[i].toNat := by simp [byte, h]
theorem byte_drop (l : Tx) (i k : Nat) : byte (l.drop i) k = byte l (i + k) := by simp [byte, List.getElem?_drop]
/-- The rune with which a text begins, and its width. -/
def dec (l : Tx) : Nat × Nat := Go.Lib.decodeN l.length (byte l 0) (byte l 1) (byte l 2) (byte l 3)
theorem get_byte (l : Tx) (i : Nat) : ((ByteArray.mk l.toArray).get! i).toNat = byte l i := by
  show (l.toArray[i]!).toNat = _
  rw [byte, getElem!_def]
  cases h : l[i]? with
  | none => simp [h]; rfl
  | some x => simp [h]
theorem decode_dec (l : Tx) (i : Nat) : Go.Utf8.decode ⟨l.toArray⟩ i = dec (l.drop i) := by
  rw [Go.Lib.decode_at, dec]
  have hs : (ByteArray.mk l.toArray).size = l.length := by show l.toArray.size = _; simp
  rw [hs, get_byte, get_byte, get_byte, get_byte, List.length_drop, byte_drop, byte_drop, byte_drop, byte_drop]
  rfl
theorem dec_width (l : Tx) : 1 ≤ (dec l).2 := by
  unfold dec Go.Lib.decodeN
  repeat' split
  all_goals simp
theorem dec_width_le (l : Tx) (h : 1 ≤ l.length) : (dec l).2 ≤ l.length := by
  unfold dec Go.Lib.decodeN
  repeat' split
  all_goals (simp only; omega)
theorem dec_lt (l : Tx) : (dec l).1 ≤ 1114111 := by
  have h0 := byte_lt l 0; have h1 := byte_lt l 1; have h2 := byte_lt l 2; have h3 := byte_lt l 3
  unfold dec Go.Lib.decodeN
  repeat' split
  all_goals (simp only; omega)

/-- A rune that stands in no name. -/
def Bar (v : Nat) : Prop := v < 33 ∨ v = 47 ∨ (127 ≤ v ∧ v ≤ 159) ∨ v = 65533
instance (v : Nat) : Decidable (Bar v) := by unfold Bar; infer_instance
/-- How many runes: so many more may come. -/
def rn : Nat → Tx → Nat
  | 0, l => if l = [] then 16 else 0
  | j + 1, l => if l = [] then 15 - j else if Bar (dec l).1 then 0 else rn j (l.drop (dec l).2)
def runes (l : Tx) : Nat := rn 16 l
def name (l : Tx) : Bool := decide (0 < runes l)
theorem rn_nil : ∀ j, j ≤ 16 → rn j [] = 16 - j
  | 0, _ => rfl
  | j + 1, h => by rw [rn, if_pos rfl]; omega
theorem rn_zero {l : Tx} (h : l ≠ []) : rn 0 l = 0 := by rw [rn, if_neg h]
theorem rn_bar {l : Tx} {j : Nat} (h : l ≠ []) (hb : Bar (dec l).1) : rn j l = 0 := by
  cases j with
  | zero => exact rn_zero h
  | succ j => rw [rn, if_neg h, if_pos hb]
theorem rn_step {l : Tx} {j : Nat} (h : l ≠ []) (hb : ¬ Bar (dec l).1) : rn (j + 1) l = rn j (l.drop (dec l).2) := by rw [rn, if_neg h, if_neg hb]
/-- How many bytes a rune has that begins so. -/
def sz (b : Nat) : Nat := if b < 128 then 1 else if 194 ≤ b ∧ b < 224 then 2 else if 224 ≤ b ∧ b < 240 then 3 else if 240 ≤ b ∧ b < 245 then 4 else 0
theorem sz_cases (b : Nat) : (sz b = 0 ∧ (128 ≤ b ∧ b < 194 ∨ 245 ≤ b)) ∨ (sz b = 1 ∧ b < 128) ∨ (sz b = 2 ∧ 194 ≤ b ∧ b < 224) ∨ (sz b = 3 ∧ 224 ≤ b ∧ b < 240) ∨ (sz b = 4 ∧ 240 ≤ b ∧ b < 245) := by
  unfold sz
  repeat' split
  all_goals omega
/-- The document's rune: none of what is no rune's form. -/
def r1 (l : Tx) : Nat × Nat := if dec l = (65533, 1) then (0, 0) else dec l
theorem r1_bad {l : Tx} (h : dec l = (65533, 1)) : r1 l = (0, 0) := by rw [r1, if_pos h]
theorem r1_ok {l : Tx} {v n : Nat} (h : dec l = (v, n)) (hn : v ≠ 65533 ∨ n ≠ 1) : r1 l = (v, n) := by
  rw [r1, h, if_neg]
  intro e
  have := Prod.mk.inj e
  omega
theorem r1_none {l : Tx} (hl : 1 ≤ l.length) (h : sz (byte l 0) = 0 ∨ l.length < sz (byte l 0)) : r1 l = (0, 0) := by
  have h0 := byte_lt l 0; have h1 := byte_lt l 1; have h2 := byte_lt l 2; have h3 := byte_lt l 3
  have hc := sz_cases (byte l 0)
  refine r1_bad ?_
  unfold dec Go.Lib.decodeN
  generalize sz (byte l 0) = q at *
  repeat' split
  all_goals first | rfl | (exfalso; omega)
theorem r1_one {l : Tx} (h : sz (byte l 0) = 1) : r1 l = (byte l 0, 1) := by
  have hc := sz_cases (byte l 0)
  have hb : byte l 0 < 128 := by omega
  have hd : dec l = (byte l 0, 1) := by rw [dec, Go.Lib.decodeN, if_pos hb]
  exact r1_ok hd (.inl (by omega))
/-- A rune of so many bytes: what was gathered, byte by byte. -/
def gath (l : Tx) (m : Nat) : Nat → Nat
  | 0 => byte l 0 % m
  | k + 1 => gath l m k * 64 + byte l (k + 1) % 64
def cont (l : Tx) (i : Nat) : Prop := ¬ byte l i < 128 ∧ ¬ 192 ≤ byte l i
def good (v least : Nat) : Prop := ¬ v < least ∧ ¬ 1114111 < v ∧ ¬ (55296 ≤ v ∧ v < 57344)
theorem r1_two {l : Tx} (h : sz (byte l 0) = 2) (hl : 2 ≤ l.length) : (¬ (cont l 1) → r1 l = (0, 0)) ∧ ((cont l 1) → (good (gath l 32 1) 128 → r1 l = (gath l 32 1, 2)) ∧ (¬ good (gath l 32 1) 128 → r1 l = (0, 0))) := by
  have h0 := byte_lt l 0; have h1 := byte_lt l 1; have h2 := byte_lt l 2; have h3 := byte_lt l 3
  have hc := sz_cases (byte l 0)
  generalize sz (byte l 0) = q at *
  subst h
  refine ⟨fun hk => r1_bad ?_, fun hk => ⟨fun hg => r1_ok ?_ (.inr (by omega)), fun hg => r1_bad ?_⟩⟩
  all_goals (simp only [cont, good, gath, dec, Go.Lib.decodeN, Nat.zero_add, Nat.reduceAdd] at *)
  all_goals (repeat' split)
  all_goals first | rfl | (exfalso; omega) | (refine Prod.ext ?_ ?_ <;> simp only <;> omega)
theorem r1_three {l : Tx} (h : sz (byte l 0) = 3) (hl : 3 ≤ l.length) : (¬ (cont l 1 ∧ cont l 2) → r1 l = (0, 0)) ∧ ((cont l 1 ∧ cont l 2) → (good (gath l 16 2) 2048 → r1 l = (gath l 16 2, 3)) ∧ (¬ good (gath l 16 2) 2048 → r1 l = (0, 0))) := by
  have h0 := byte_lt l 0; have h1 := byte_lt l 1; have h2 := byte_lt l 2; have h3 := byte_lt l 3
  have hc := sz_cases (byte l 0)
  generalize sz (byte l 0) = q at *
  subst h
  refine ⟨fun hk => r1_bad ?_, fun hk => ⟨fun hg => r1_ok ?_ (.inr (by omega)), fun hg => r1_bad ?_⟩⟩
  all_goals (simp only [cont, good, gath, dec, Go.Lib.decodeN, Nat.zero_add, Nat.reduceAdd] at *)
  all_goals (repeat' split)
  all_goals first | rfl | (exfalso; omega) | (refine Prod.ext ?_ ?_ <;> simp only <;> omega)
theorem r1_four {l : Tx} (h : sz (byte l 0) = 4) (hl : 4 ≤ l.length) : (¬ (cont l 1 ∧ cont l 2 ∧ cont l 3) → r1 l = (0, 0)) ∧ ((cont l 1 ∧ cont l 2 ∧ cont l 3) → (good (gath l 8 3) 65536 → r1 l = (gath l 8 3, 4)) ∧ (¬ good (gath l 8 3) 65536 → r1 l = (0, 0))) := by
  have h0 := byte_lt l 0; have h1 := byte_lt l 1; have h2 := byte_lt l 2; have h3 := byte_lt l 3
  have hc := sz_cases (byte l 0)
  generalize sz (byte l 0) = q at *
  subst h
  refine ⟨fun hk => r1_bad ?_, fun hk => ⟨fun hg => r1_ok ?_ (.inr (by omega)), fun hg => r1_bad ?_⟩⟩
  all_goals (simp only [cont, good, gath, dec, Go.Lib.decodeN, Nat.zero_add, Nat.reduceAdd] at *)
  all_goals (repeat' split)
  all_goals first | rfl | (exfalso; omega) | (refine Prod.ext ?_ ?_ <;> simp only <;> omega)

/-- An operation. -/
structure O where
  kind : Int
  topic : Tx
  group : Tx
  off : Int
  recs : List Tx
deriving DecidableEq
def O.zero : O := ⟨0, [], [], 0, []⟩

/-- What a kind has: a topic, a group, an offset, records. -/
def hasT (k : Int) : Bool := k == 1 || k == 2 || k == 3 || k == 4
def hasG (k : Int) : Bool := k == 3
def hasO (k : Int) : Bool := k == 3 || k == 4
def hasR (k : Int) : Bool := k == 2
def known (k : Int) : Bool := decide (0 ≤ k) && decide (k ≤ 4)
theorem kind_cases {k : Int} (h : known k = true) : k = 0 ∨ k = 1 ∨ k = 2 ∨ k = 3 ∨ k = 4 := by
  simp only [known, Bool.and_eq_true, decide_eq_true_eq] at h
  omega
theorem kind_none {k : Int} (h : known k = false) : k ≠ 0 ∧ k ≠ 1 ∧ k ≠ 2 ∧ k ≠ 3 ∧ k ≠ 4 := by
  simp only [known, Bool.and_eq_false_iff, decide_eq_false_iff_not] at h
  omega
/-- Does it hold something beside its fields? -/
def more (o : O) : Bool := (!hasT o.kind && !o.topic.isEmpty) || (!hasG o.kind && !o.group.isEmpty) || (!hasO o.kind && (o.off != 0)) || (!hasR o.kind && !o.recs.isEmpty)
def badName (o : O) : Bool := (hasT o.kind && !name o.topic) || (hasG o.kind && !name o.group)
def areRecs (l : List Tx) : Bool := decide (0 < l.length) && decide (l.length ≤ 4) && l.all fun x => decide (x.length ≤ 64)
def badRecs (o : O) : Bool := hasR o.kind && !areRecs o.recs
def badOff (o : O) : Bool := hasO o.kind && (decide (o.off < 0) || decide (9007199254740992 < o.off))
/-- What keeps an operation from being one. -/
def check (o : O) : Int := if !known o.kind || more o then 60 else if badName o then 61 else if badRecs o then 62 else if badOff o then 60 else 0
theorem check_ok {o : O} (h : check o = 0) : known o.kind = true ∧ more o = false ∧ badName o = false ∧ badRecs o = false ∧ badOff o = false := by
  unfold check at h
  split at h
  · cases h
  · rename_i h1
    split at h
    · cases h
    · rename_i h2
      split at h
      · cases h
      · rename_i h3
        split at h
        · cases h
        · rename_i h4
          simp only [Bool.or_eq_true, Bool.not_eq_true', not_or, Bool.not_eq_false, Bool.not_eq_true] at h1 h2 h3 h4
          exact ⟨h1.1, h1.2, h2, h3, h4⟩

/-- An operation's bytes, if it may be one. -/
def raw (o : O) : Tx := enc o.kind.toNat ++ ((if hasT o.kind then encB o.topic else []) ++ ((if hasG o.kind then encB o.group else []) ++ ((if hasO o.kind then enc o.off.toNat else []) ++ (if hasR o.kind then encL o.recs else []))))
def form (o : O) : Tx := if check o ≠ 0 then [] else raw o
/-- What is read, as far as it goes. -/
def rdT (k : Int) (s : RS) : Tx × RS := if hasT k then bytesS s 64 else ([], s)
def rdG (k : Int) (s : RS) : Tx × RS := if hasG k then bytesS s 64 else ([], s)
def rdO (k : Int) (s : RS) : Nat × RS := if hasO k then numS s 9007199254740992 else (0, s)
def rdR (k : Int) (s : RS) : List Tx × RS := if hasR k then listS s 4 64 else ([], s)
def rd (s : RS) : O × RS :=
  let k := numS s 4
  let t := rdT k.1 k.2
  let g := rdG k.1 t.2
  let f := rdO k.1 g.2
  let r := rdR k.1 f.2
  (⟨k.1, t.1, g.1, f.1, r.1⟩, r.2)
def take (s : RS) : O × RS := if (failS (rd s).2 (check (rd s).1)).2 ≠ 0 then (O.zero, failS (rd s).2 (check (rd s).1)) else ((rd s).1, failS (rd s).2 (check (rd s).1))
/-- A result's bytes, and what is read of them. -/
def resB (e f : Int) : Tx := enc (max e 0).toNat ++ enc (max f 0).toNat
end Go.Proofs.YtkoedonllfmaaaaGreat.Pm

/-
  Layer 6 (op): the contracts of barred, Runes and Name.
-/
namespace Go.Proofs.YtkoedonllfmaaaaGreat.Pa
set_option linter.unusedSimpArgs false
open Go Go.RowKit Ck Kw Pm
set_option linter.unusedVariables false

theorem sv_size (l : Tx) : (ByteArray.mk l.toArray).size = l.length := by show l.toArray.size = _; simp

set_option maxHeartbeats 1000000 in
theorem barred_yes (v : Nat) (h : Bar v) (w : World) :
    Calls Tryz.prog 125 #[.int .i32 v] w fun e w' => e = .returned (.bool true) ∧ w = w' := by
  unfold Bar at h
  by_cases h1 : v < 33
  · clear h
    go_enter Tryz.func125, Tryz.ntmps125
    go_wp2
    go_ret
    exact ⟨rfl, rfl⟩
  · by_cases h2 : v = 47
    · subst h2
      clear h h1
      go_enter Tryz.func125, Tryz.ntmps125
      go_wp2
      go_ret
      exact ⟨rfl, rfl⟩
    · have e2 : ((v : Int) == 47) = false := by rw [beq_eq_false_iff_ne]; omega
      by_cases h3 : 127 ≤ v ∧ v ≤ 159
      · obtain ⟨h3, h4⟩ := h3
        clear h h2
        go_enter Tryz.func125, Tryz.ntmps125
        go_wp2
        go_ret
        exact ⟨rfl, rfl⟩
      · have h4 : v = 65533 := by omega
        subst h4
        clear h h1 h2 h3 e2
        go_enter Tryz.func125, Tryz.ntmps125
        go_wp2
        go_ret
        exact ⟨rfl, rfl⟩

set_option maxHeartbeats 1000000 in
theorem barred_no (v : Nat) (h : ¬ Bar v) (w : World) :
    Calls Tryz.prog 125 #[.int .i32 v] w fun e w' => e = .returned (.bool false) ∧ w = w' := by
  unfold Bar at h
  have h1 : decide ((v : Int) < 33) = false := decide_eq_false (by omega)
  have e2 : ((v : Int) == 47) = false := by rw [beq_eq_false_iff_ne]; omega
  have e3 : ((v : Int) == 65533) = false := by rw [beq_eq_false_iff_ne]; omega
  by_cases h3 : 127 ≤ v
  · have h4 : decide ((v : Int) ≤ 159) = false := decide_eq_false (by omega)
    clear h
    go_enter Tryz.func125, Tryz.ntmps125
    go_wp2
    go_ret
    exact ⟨rfl, rfl⟩
  · clear h
    go_enter Tryz.func125, Tryz.ntmps125
    go_wp2
    go_ret
    exact ⟨rfl, rfl⟩

theorem iter_below (w : World) (s : ByteArray) (p : Nat) : Below w.heap.size w (w.iter s p) := (Below.refl _ w).alloc (Nat.le_refl _) _
theorem drop_nil_iff {l : Tx} {p : Nat} : l.drop p = [] ↔ ¬ p < l.length := by rw [List.drop_eq_nil_iff]; omega

set_option maxRecDepth 100000 in
set_option maxHeartbeats 2000000 in
theorem runes_any (l : Tx) (w : World) :
    Calls Tryz.prog 106 #[SV l] w fun e w' => e = .returned (.int .i64 (runes l : Nat)) ∧ Below w.heap.size w w' := by
  unfold SV
  go_enter Tryz.func106, Tryz.ntmps106
  go_wp2
  go_step3
  go_wp2
  go_step3
  go_wp2
  go_loopw [3] (fun n wr => ∃ pos j : Nat, wr = w.iter ⟨l.toArray⟩ pos ∧ n = .int .i64 ((16 - j : Nat) : Int) ∧ j ≤ 16 ∧ rn j (l.drop pos) = runes l) (fun _ wr => l.length - wr.iterPos w.heap.size)
  case atStart => exact ⟨0, 16, rfl, rfl, Nat.le_refl _, rfl⟩
  case round =>
    obtain ⟨pos, j, rfl, rfl, hj, hr⟩ := hrel
    by_cases hp : pos < l.length
    · have hnx : ∀ ty, (Instr.next (.pointer (some ⟨w.heap.size, 0, none⟩)) true ty).run Tryz.prog (w.iter ⟨l.toArray⟩ pos) = _ := fun ty => run_next_any w ⟨l.toArray⟩ pos ty (by rw [sv_size]; exact hp)
      have hwd := dec_width (l.drop pos)
      have hlt := dec_lt (l.drop pos)
      have hne : l.drop pos ≠ [] := fun h => (drop_nil_iff.1 h) hp
      rw [decode_dec] at hnx
      have HJ := Lib.hid (l.drop_drop (i := (dec (l.drop pos)).2) (j := pos))
      generalize hd : dec (l.drop pos) = d at *
      obtain ⟨v, n⟩ := d
      simp only at hnx hwd hlt HJ
      have HR := Lib.hid hr
      have HD := Lib.hid hd
      have HNE := Lib.hid hne
      clear hr hd hne
      by_cases hb : Bar v
      · have HB := Lib.hid hb
        clear hb
        go_wp2_with (go_at_call 125; refine (barred_yes v HB.out _).mono ?_; rintro e w1 ⟨rfl, rfl⟩)
        rw [Exit.noGoto_ret]
        go_ret
        refine ⟨?_, iter_below _ _ _⟩
        rw [← HR.out, rn_bar HNE.out (by rw [HD.out]; exact HB.out)]
        rfl
      · have HB := Lib.hid hb
        clear hb
        by_cases hj0 : j = 0
        · subst hj0
          go_wp2_with (go_at_call 125; refine (barred_no v HB.out _).mono ?_; rintro e w1 ⟨rfl, rfl⟩)
          rw [Exit.noGoto_ret]
          go_ret
          refine ⟨?_, iter_below _ _ _⟩
          rw [← HR.out, rn_zero HNE.out]
          rfl
        · obtain ⟨m, rfl⟩ : ∃ m, j = m + 1 := ⟨j - 1, by omega⟩
          have h16 : (((16 - (m + 1) : Nat) : Int) == 16) = false := by rw [beq_eq_false_iff_ne]; omega
          go_wp2_with (go_at_call 125; refine (barred_no v HB.out _).mono ?_; rintro e w1 ⟨rfl, rfl⟩)
          go_roundw
          case rel =>
            refine ⟨pos + n, m, rfl, ?_, by omega, ?_⟩
            · go_num
            · rw [← HR.out, rn_step HNE.out (by rw [HD.out]; exact HB.out), HD.out, HJ.out]
          case measure =>
            simp
            omega
    · have hnx : ∀ ty, (Instr.next (.pointer (some ⟨w.heap.size, 0, none⟩)) true ty).run Tryz.prog (w.iter ⟨l.toArray⟩ pos) = _ := fun ty => run_next_end w ⟨l.toArray⟩ pos ty (by rw [sv_size]; exact hp)
      have hz := drop_nil_iff.2 hp
      rw [hz, rn_nil _ hj] at hr
      have HR := Lib.hid hr
      clear hr hz
      go_wp2
      rw [Exit.noGoto_ret]
      go_ret
      exact ⟨by rw [← HR.out]; rfl, iter_below _ _ _⟩

theorem name_any (l : Tx) (w : World) :
    Calls Tryz.prog 80 #[SV l] w fun e w' => e = .returned (.bool (name l)) ∧ Below w.heap.size w w' := by
  have HC := Lib.hid (runes_any l w)
  unfold name
  generalize runes l = r at *
  go_enter Tryz.func80, Tryz.ntmps80
  go_wp2_with (go_at_call 106; refine HC.out.mono ?_; rintro e w1 ⟨rfl, hb⟩)
  go_ret
  exact ⟨by simp, hb⟩

end Go.Proofs.YtkoedonllfmaaaaGreat.Pa
