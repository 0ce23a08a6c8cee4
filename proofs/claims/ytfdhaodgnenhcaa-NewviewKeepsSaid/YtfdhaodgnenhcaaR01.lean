/-
  The plain mathematics of layer 1 (codec): numbers to the base 128, byte strings, lists, and a reader over a list of bytes that keeps its first error. No program is named here.
-/
import Derived.Lib.DecodeN
import Derived.WalkKit
import Derived.WalkSpells
import Derived.WalkLawsBesides
import Derived.Lib.Hide
import Derived.Maps.AppendAt
import Derived.Deep.AppendLies
import Derived.Deep.Draws
import Derived.Laws.Rows
import Derived.Test.YtfdhaodgnenhcaaRows
import Derived.Maps.OwnSet
import Derived.Maps.StringElems
import Derived.LoopTactic
import Derived.Outline
import Derived.Laws.RangeAny
import Derived.WalkMore
import Derived.Laws.RangeString
import Derived.Deep.QuietTactic
import Derived.BigQuiet
namespace Go.Proofs.Ytfdhaodgnenhcaa.Cm
set_option linter.unusedSimpArgs false
set_option linter.unusedVariables false

/-- A number's digits to the base 128, the lowest first, all but the last with 128 added; so many more digits at the most. -/
def encF : Nat → Nat → List UInt8
  | 0, n => [UInt8.ofNat n]
  | k + 1, n => if n < 128 then [UInt8.ofNat n] else UInt8.ofNat (n % 128 + 128) :: encF k (n / 128)
/-- A number's form. -/
def enc (n : Nat) : List UInt8 := encF 9 n
/-- A byte string's form. -/
def encB (x : List UInt8) : List UInt8 := enc x.length ++ x
/-- A list's parts. -/
def encP : List (List UInt8) → List UInt8
  | [] => []
  | x :: l => encB x ++ encP l
/-- A list's form. -/
def encL (l : List (List UInt8)) : List UInt8 := enc l.length ++ encP l

/-- The number with which bytes begin (its place, what was gathered): the number, how many bytes, the error. -/
def pn : List UInt8 → Nat → Nat → Nat × Nat × Int
  | [], _, _ => (0, 0, 10)
  | c :: bs, i, acc =>
    if i = 9 ∧ 1 < c.toNat then (0, 0, 11)
    else if 128 ≤ c.toNat then pn bs (i + 1) (acc + c.toNat % 128 * 128 ^ i)
    else if c.toNat = 0 ∧ 0 < i then (0, 0, 11)
    else (acc + c.toNat * 128 ^ i, i + 1, 0)

/-- A reader: what is left, and its error. -/
abbrev RS := List UInt8 × Int
def failS (s : RS) (e : Int) : RS := if s.2 ≠ 0 then s else if e ≠ 0 then ([], e) else s
def numS (s : RS) (most : Nat) : Nat × RS :=
  if s.2 ≠ 0 then (0, s)
  else if (pn s.1 0 0).2.2 ≠ 0 then (0, ([], (pn s.1 0 0).2.2))
  else if most < (pn s.1 0 0).1 then (0, ([], 11))
  else ((pn s.1 0 0).1, (s.1.drop (pn s.1 0 0).2.1, 0))
def takeS (s : RS) (n : Int) : List UInt8 × RS :=
  if s.2 ≠ 0 then ([], s)
  else if n < 0 then ([], ([], 1))
  else if (s.1.length : Int) < n then ([], ([], 10))
  else (s.1.take n.toNat, (s.1.drop n.toNat, 0))
def bytesS (s : RS) (most : Int) : List UInt8 × RS := takeS (numS s most.toNat).2 ((numS s most.toNat).1 : Int)
def listA (each : Int) : Nat → RS → List (List UInt8) → List (List UInt8) × RS
  | 0, s, acc => (acc, s)
  | n + 1, s, acc => if (bytesS s each).2.2 ≠ 0 then ([], (bytesS s each).2) else listA each n (bytesS s each).2 (acc ++ [(bytesS s each).1])
def listS (s : RS) (most each : Int) : List (List UInt8) × RS := listA each (numS s most.toNat).1 (numS s most.toNat).2 []
theorem toNat_ofNat {n : Nat} (h : n < 256) : (UInt8.ofNat n).toNat = n := by
  simp [UInt8.toNat_ofNat']; omega

end Go.Proofs.Ytfdhaodgnenhcaa.Cm

/-
  The plain mathematics of layer 6 (op): runes of a text, names, which operations may be, their bytes and what is read of bytes. No program is named here.
-/
namespace Go.Proofs.Ytfdhaodgnenhcaa.Pm
set_option linter.unusedSimpArgs false
set_option linter.unusedVariables false
open Cm

abbrev Tx := List UInt8
/-- A byte of a text; 0 beyond its end. -/
def byte (l : Tx) (i : Nat) : Nat := (l[i]?.getD 0).toNat
/-- The rune with which a text begins, and its width. -/
def dec (l : Tx) : Nat × Nat := Go.Lib.decodeN l.length (byte l 0) (byte l 1) (byte l 2) (byte l 3)
/-- A rune that stands in no name. -/
def Bar (v : Nat) : Prop := v < 33 ∨ v = 47 ∨ (127 ≤ v ∧ v ≤ 159) ∨ v = 65533
instance (v : Nat) : Decidable (Bar v) := by unfold Bar; infer_instance
/-- How many runes: so many more may come. -/
def rn : Nat → Tx → Nat
  | 0, l => if l = [] then 16 else 0
  | j + 1, l => if l = [] then 15 - j else if Bar (dec l).1 then 0 else rn j (l.drop (dec l).2)
def runes (l : Tx) : Nat := rn 16 l
def name (l : Tx) : Bool := decide (0 < runes l)
/-- The document's rune: none of what is no rune's form. -/
def r1 (l : Tx) : Nat × Nat := if dec l = (65533, 1) then (0, 0) else dec l
def good (v least : Nat) : Prop := ¬ v < least ∧ ¬ 1114111 < v ∧ ¬ (55296 ≤ v ∧ v < 57344)
/-- An operation. -/
structure O where
  kind : Int
  topic : Tx
  group : Tx
  off : Int
  recs : List Tx
deriving DecidableEq
def O.zero : O := ⟨0, [], [], 0, []⟩

/-- What a kind has: a topic, a group, an offset, records. -/
def hasT (k : Int) : Bool := k == 1 || k == 2 || k == 3 || k == 4
def hasG (k : Int) : Bool := k == 3
def hasO (k : Int) : Bool := k == 3 || k == 4
def hasR (k : Int) : Bool := k == 2
def known (k : Int) : Bool := decide (0 ≤ k) && decide (k ≤ 4)
/-- Does it hold something beside its fields? -/
def more (o : O) : Bool := (!hasT o.kind && !o.topic.isEmpty) || (!hasG o.kind && !o.group.isEmpty) || (!hasO o.kind && (o.off != 0)) || (!hasR o.kind && !o.recs.isEmpty)
def badName (o : O) : Bool := (hasT o.kind && !name o.topic) || (hasG o.kind && !name o.group)
def areRecs (l : List Tx) : Bool := decide (0 < l.length) && decide (l.length ≤ 4) && l.all fun x => decide (x.length ≤ 64)
def badRecs (o : O) : Bool := hasR o.kind && !areRecs o.recs
def badOff (o : O) : Bool := hasO o.kind && (decide (o.off < 0) || decide (9007199254740992 < o.off))
/-- What keeps an operation from being one. -/
def check (o : O) : Int := if !known o.kind || more o then 60 else if badName o then 61 else if badRecs o then 62 else if badOff o then 60 else 0
/-- An operation's bytes, if it may be one. -/
def raw (o : O) : Tx := enc o.kind.toNat ++ ((if hasT o.kind then encB o.topic else []) ++ ((if hasG o.kind then encB o.group else []) ++ ((if hasO o.kind then enc o.off.toNat else []) ++ (if hasR o.kind then encL o.recs else []))))
def form (o : O) : Tx := if check o ≠ 0 then [] else raw o
/-- What is read, as far as it goes. -/
def rdT (k : Int) (s : RS) : Tx × RS := if hasT k then bytesS s 64 else ([], s)
def rdG (k : Int) (s : RS) : Tx × RS := if hasG k then bytesS s 64 else ([], s)
def rdO (k : Int) (s : RS) : Nat × RS := if hasO k then numS s 9007199254740992 else (0, s)
def rdR (k : Int) (s : RS) : List Tx × RS := if hasR k then listS s 4 64 else ([], s)
def rd (s : RS) : O × RS :=
  let k := numS s 4
  let t := rdT k.1 k.2
  let g := rdG k.1 t.2
  let f := rdO k.1 g.2
  let r := rdR k.1 f.2
  (⟨k.1, t.1, g.1, f.1, r.1⟩, r.2)
def take (s : RS) : O × RS := if (failS (rd s).2 (check (rd s).1)).2 ≠ 0 then (O.zero, failS (rd s).2 (check (rd s).1)) else ((rd s).1, failS (rd s).2 (check (rd s).1))
end Go.Proofs.Ytfdhaodgnenhcaa.Pm

/-
  Words for memory, for layer 1 (codec): a slice that reads as cells outside some blocks, a block known whole, and the law of append from any source onto a row of the call's own.
-/
namespace Go.Proofs.Ytfdhaodgnenhcaa.Ck
set_option linter.unusedSimpArgs false
set_option linter.unusedVariables false
open Go Go.RowKit

/-- A byte's cell, and a byte string's cells. -/
def BV (c : UInt8) : Value := .int .u8 (c.toNat : Int)
def BVs (l : List UInt8) : List Value := l.map BV
theorem BVs_len (l : List UInt8) : (BVs l).length = l.length := by simp [BVs]
theorem BVs_one (l : List UInt8) : ∀ u ∈ BVs l, u.oneCell' = true := by
  intro u hu
  simp only [BVs, List.mem_map] at hu
  obtain ⟨c, _, rfl⟩ := hu
  rfl
theorem BVs_get {l : List UInt8} {j : Nat} (h : j < l.length) : (BVs l)[j]? = some (.int .u8 (l[j].toNat : Int)) := by
  simp [BVs, BV, h]

theorem add_block (a : Addr) (n : Nat) : (a.add n).block = a.block := by unfold Addr.add; split <;> rfl
theorem add_add (a : Addr) (i j : Nat) : (a.add i).add j = a.add (i + j) := by
  unfold Addr.add
  by_cases hi : i = 0 <;> by_cases hj : j = 0 <;> simp [hi, hj, Nat.add_assoc]

/-- The slice value v has n elements of so many cells, which read as xs, in no block of X. -/
def Sl (w : World) (X : Nat → Prop) (size : Nat) (v : Value) (n : Nat) (xs : List Value) : Prop :=
  ∃ A c, v = .slice A n c ∧ xs.length = n * size ∧ n ≤ c ∧ c ≤ maxLen ∧ (0 < n → ∃ ad, A = some ad ∧ ad.block < w.heap.size ∧ ¬ X ad.block ∧ ∀ j u, xs[j]? = some u → w.cell? (ad.add j) = some u)

section
variable {w w' : World} {X Y : Nat → Prop} {size n : Nat} {v : Value} {xs : List Value}
theorem Sl.nil (w : World) (X : Nat → Prop) (size : Nat) : Sl w X size (.slice none 0 0) 0 [] := ⟨none, 0, rfl, by simp, Nat.le_refl _, Nat.zero_le _, fun h => absurd h (by omega)⟩
theorem Sl.keep (h : Sl w X size v n xs) (hs : w.heap.size ≤ w'.heap.size) (hk : ∀ b, b < w.heap.size → ¬ X b → w'.heap[b]? = w.heap[b]?) : Sl w' X size v n xs := by
  obtain ⟨A, c, hv, hl, hc, hm, hx⟩ := h
  refine ⟨A, c, hv, hl, hc, hm, fun hn => ?_⟩
  obtain ⟨ad, hA, hb, hX, hcell⟩ := hx hn
  refine ⟨ad, hA, by omega, hX, fun j u hu => ?_⟩
  have hbl : (ad.add j).block = ad.block := add_block ad j
  exact (World.cell?_of_block (w := w) (by rw [hbl]; exact hk _ hb hX)).trans (hcell j u hu)
theorem Sl.weaken (h : Sl w X size v n xs) (hk : ∀ b, b < w.heap.size → Y b → X b) : Sl w Y size v n xs := by
  obtain ⟨A, c, hv, hl, hc, hm, hx⟩ := h
  refine ⟨A, c, hv, hl, hc, hm, fun hn => ?_⟩
  obtain ⟨ad, hA, hb, hX, hcell⟩ := hx hn
  exact ⟨ad, hA, hb, fun hy => hX (hk _ hb hy), hcell⟩
theorem Sl.grown {row : Option Nat} (h : Sl w X size v n xs) (hg : w.grownBy w' row) (hr : ∀ k, row = some k → k < w.heap.size → X k) : Sl w' X size v n xs :=
  h.keep hg.size fun b hb hX => hg.block b hb fun e => hX (hr b e.symm hb)
theorem Sl.below {B : Nat} (h : Sl w X size v n xs) (hb : Below B w w') (hX : ∀ k, k < w.heap.size → B ≤ k → X k) : Sl w' X size v n xs :=
  h.keep hb.size fun b hlt hn => hb.block b (by rcases Nat.lt_or_ge b B with h1 | h1; exact h1; exact absurd (hX b hlt h1) hn)
theorem Sl.none_ {c : Nat} (h : Sl w X size (.slice none n c) n xs) : n = 0 ∧ xs = [] := by
  obtain ⟨A, c', hv, hl, hc, hm, hx⟩ := h
  injection hv with e1
  subst e1
  have hn : n = 0 := by
    rcases Nat.eq_zero_or_pos n with h0 | h0
    · exact h0
    · obtain ⟨ad, h, _⟩ := hx h0
      cases h
  subst hn
  exact ⟨rfl, List.eq_nil_of_length_eq_zero (by simpa using hl)⟩
/-- Behind a call that writes no old block. -/
theorem Sl.after (h : Sl w X size v n xs) (hb : Below w.heap.size w w') : Sl w' X size v n xs := h.below hb fun k h1 h2 => absurd h1 (by omega)
/-- It lies in an old block. -/
theorem Sl.old (h : Sl w X size v n xs) {B : Nat} (hB : w.heap.size ≤ B) : Sl w (fun k => X k ∨ B ≤ k) size v n xs := by
  obtain ⟨A, c, hv, hl, hc, hm, hx⟩ := h
  refine ⟨A, c, hv, hl, hc, hm, fun hn => ?_⟩
  obtain ⟨ad, hA, hb, hX, hcell⟩ := hx hn
  exact ⟨ad, hA, hb, fun hy => by rcases hy with hy | hy; exact hX hy; omega, hcell⟩
theorem Sl.old' (h : Sl w X size v n xs) {B : Nat} (hB : w.heap.size ≤ B) : Sl w (fun k => B ≤ k) size v n xs := (h.old hB).weaken fun _ _ h => .inr h
theorem Sl.drew (h : Sl w X size v n xs) : Sl w.drew X size v n xs := h
theorem Sl.drewN (h : Sl w X size v n xs) (k : Nat) : Sl (w.drewN k) X size v n xs := h
theorem Sl.alloc (h : Sl w X size v n xs) (o : Obj) : Sl (w.alloc o) X size v n xs :=
  h.keep (by simp) fun b hb _ => Below.heap_alloc w o b hb
theorem Sl.setCell (h : Sl w X size v n xs) {p : Addr} (hp : p.block < w.heap.size → X p.block) (u : Value) : Sl (w.setCell p u) X size v n xs :=
  h.keep (by simp [World.setCell]) fun b hb hX => Below.heap_setCell w p u b (fun e => by subst e; exact hX (hp hb))
theorem Sl.of_own {base : Nat} {e : TypeId} (h : w.ownsRow base e size v n xs) (hX : ∀ k, base ≤ k → k < w.heap.size → ¬ X k) : Sl w X size v n xs := by
  rcases h.2 with ⟨rfl, rfl⟩ | ⟨g, cap, cur, rfl, hb, hg, hnc, hcm, _, _⟩
  · exact ⟨none, 0, rfl, h.1, Nat.le_refl _, Nat.zero_le _, fun h => absurd h (by omega)⟩
  · have hlt : g < w.heap.size := (Array.getElem?_eq_some_iff.1 hg).1
    exact ⟨_, _, rfl, h.1, hnc, hcm, fun _ => ⟨_, rfl, hlt, hX g hb hlt, h.cells (g := g) rfl⟩⟩
theorem Sl.of_own' {base : Nat} {e : TypeId} (h : w.ownsRow base e size v n xs) (hX : ∀ k, v.ownBlock = some k → ¬ X k) : Sl w X size v n xs := by
  rcases h.2 with ⟨rfl, rfl⟩ | ⟨g, cap, cur, rfl, hb, hg, hnc, hcm, _, _⟩
  · exact ⟨none, 0, rfl, h.1, Nat.le_refl _, Nat.zero_le _, fun h => absurd h (by omega)⟩
  · have hlt : g < w.heap.size := (Array.getElem?_eq_some_iff.1 hg).1
    exact ⟨_, _, rfl, h.1, hnc, hcm, fun _ => ⟨_, rfl, hlt, hX g rfl, h.cells (g := g) rfl⟩⟩
end

/-- The slice value v reads as a list of byte strings, in no block of X. -/
def Ls (w : World) (X : Nat → Prop) (v : Value) (ls : List (List UInt8)) : Prop :=
  ∃ vals, Sl w X 1 v ls.length vals ∧ ∀ i (h : i < ls.length), ∃ u, vals[i]? = some u ∧ Sl w X 1 u ls[i].length (BVs ls[i])
section
variable {w w' : World} {X Y : Nat → Prop} {v : Value} {ls : List (List UInt8)}
theorem Ls.keep (h : Ls w X v ls) (hs : w.heap.size ≤ w'.heap.size) (hk : ∀ b, b < w.heap.size → ¬ X b → w'.heap[b]? = w.heap[b]?) : Ls w' X v ls := by
  obtain ⟨vals, h1, h2⟩ := h
  exact ⟨vals, h1.keep hs hk, fun i hi => by obtain ⟨u, hu, h3⟩ := h2 i hi; exact ⟨u, hu, h3.keep hs hk⟩⟩
theorem Ls.weaken (h : Ls w X v ls) (hk : ∀ b, b < w.heap.size → Y b → X b) : Ls w Y v ls := by
  obtain ⟨vals, h1, h2⟩ := h
  exact ⟨vals, h1.weaken hk, fun i hi => by obtain ⟨u, hu, h3⟩ := h2 i hi; exact ⟨u, hu, h3.weaken hk⟩⟩
theorem Ls.grown {row : Option Nat} (h : Ls w X v ls) (hg : w.grownBy w' row) (hr : ∀ k, row = some k → k < w.heap.size → X k) : Ls w' X v ls :=
  h.keep hg.size fun b hb hX => hg.block b hb fun e => hX (hr b e.symm hb)
theorem Ls.below {B : Nat} (h : Ls w X v ls) (hb : Below B w w') (hX : ∀ k, k < w.heap.size → B ≤ k → X k) : Ls w' X v ls :=
  h.keep hb.size fun b hlt hn => hb.block b (by rcases Nat.lt_or_ge b B with h1 | h1; exact h1; exact absurd (hX b hlt h1) hn)
theorem Ls.after (h : Ls w X v ls) (hb : Below w.heap.size w w') : Ls w' X v ls := h.below hb fun k h1 h2 => absurd h1 (by omega)
theorem Ls.old' (h : Ls w X v ls) {B : Nat} (hB : w.heap.size ≤ B) : Ls w (fun k => B ≤ k) v ls := by
  obtain ⟨vals, h1, h2⟩ := h
  exact ⟨vals, h1.old' hB, fun i hi => by obtain ⟨u, hu, h3⟩ := h2 i hi; exact ⟨u, hu, h3.old' hB⟩⟩
/-- The i-th part: where it lies, and what it reads as. -/
theorem Ls.at_ {A : Option Addr} {n c i : Nat} (h : Ls w X (.slice A n c) ls) (hi : i < ls.length) :
    ∃ ad B d, A = some ad ∧ w.cell? (ad.add i) = some (.slice B ls[i].length d) ∧ Sl w X 1 (.slice B ls[i].length d) ls[i].length (BVs ls[i]) := by
  obtain ⟨vals, h1, h2⟩ := h
  obtain ⟨A0, c0, hv, hl, hc, hm, hx⟩ := h1
  injection hv with e1 e2 e3
  obtain ⟨ad, hA, hb, hX, hcell⟩ := hx (by omega)
  obtain ⟨u, hu, h3⟩ := h2 i hi
  have h4 := h3
  obtain ⟨B, d, rfl, -⟩ := h4
  exact ⟨ad, B, d, e1.trans hA, hcell i _ hu, h3⟩
end

/-- A block that is known whole. -/
def Blk (w : World) (g : Nat) (t : TypeId) (cs : Array Value) : Prop := w.heap[g]? = some (.cells cs t (0, 0))
section
variable {w w' : World} {g : Nat} {t : TypeId} {cs : Array Value}
theorem Blk.lt (h : Blk w g t cs) : g < w.heap.size := (Array.getElem?_eq_some_iff.1 h).1
theorem Blk.cell (h : Blk w g t cs) (i : Nat) : w.cell? ⟨g, i, none⟩ = cs[i]? := cell_of_row w g i cs t (0, 0) h
theorem Blk.frozen (h : Blk w g t cs) (i : Nat) : w.frozen? ⟨g, i, none⟩ = false := by
  unfold Blk at h
  simp [World.frozen?, h]
theorem Blk.new (w : World) (t : TypeId) (cs : Array Value) : Blk (w.alloc (.cells cs t)) w.heap.size t cs := heap_alloc_new w _
theorem Blk.new_at {w : World} {B : Nat} {t : TypeId} {cs cs' : Array Value} (hB : B = w.heap.size) (hc : cs' = cs) : Blk (w.alloc (.cells cs' t)) B t cs := by
  subst hB; subst hc; exact Blk.new _ _ _
theorem Blk.alloc (h : Blk w g t cs) (o : Obj) : Blk (w.alloc o) g t cs := (Below.heap_alloc w o g h.lt).trans h
theorem Blk.set_ (h : Blk w g t cs) (i : Nat) (u : Value) : Blk (w.setCell ⟨g, i, none⟩ u) g t (cs.setIfInBounds i u) := by
  unfold Blk at h ⊢
  simp [World.setCell, Array.getElem?_modify, h]
theorem Blk.far (h : Blk w g t cs) {p : Addr} (hp : g ≠ p.block) (u : Value) : Blk (w.setCell p u) g t cs := (Below.heap_setCell w p u g hp).trans h
theorem Blk.below {B : Nat} (h : Blk w g t cs) (hb : Below B w w') (hg : g < B) : Blk w' g t cs := (hb.block g hg).trans h
theorem Blk.grown {row : Option Nat} (h : Blk w g t cs) (hb : w.grownBy w' row) (hg : some g ≠ row) : Blk w' g t cs := (hb.block g h.lt hg).trans h
end

theorem below_drewN {B : Nat} {a w : World} (h : Below B a w) (n : Nat) : Below B a (w.drewN n) := ⟨h.os, h.tape, h.output, h.size, h.block⟩
theorem grown_of_below {a w : World} (h : Below a.heap.size a w) (row : Option Nat) : a.grownBy w row := ⟨h.os, h.tape, h.output, h.size, fun i hi _ => h.block i hi⟩
theorem below_of_grown {a w : World} {row : Option Nat} (h : a.grownBy w row) (hr : ∀ k, row = some k → a.heap.size ≤ k) : Below a.heap.size a w := ⟨h.os, h.tape, h.output, h.size, fun i hi => h.block i hi fun e => by have := hr i e.symm; omega⟩
theorem own_below {w w' : World} {base : Nat} {e : TypeId} {size : Nat} {v : Value} {n : Nat} {xs : List Value} (h : w.ownsRow base e size v n xs) (hb : Below w.heap.size w w') : w'.ownsRow base e size v n xs :=
  h.kept (grown_of_below hb none) (by cases v.ownBlock <;> simp)
theorem grown_setCell {a w : World} {g : Nat} (h : a.grownBy w (some g)) {p : Addr} (hp : p.block = g ∨ a.heap.size ≤ p.block) (u : Value) : a.grownBy (w.setCell p u) (some g) :=
  ⟨h.os, h.tape, h.output, by simpa [World.setCell] using h.size, fun i hi hne => (Below.heap_setCell w p u i (by
    rintro rfl
    rcases hp with hp | hp
    · exact hne (by rw [hp])
    · omega)).trans (h.block i hi hne)⟩
section
variable {P : Program} (w : World)
theorem run_append_nilsrc (base : Nat) (t ty e : TypeId) (i : TypeInfo) (size : Nat) (ht : P.underlying t = some (.slice e)) (hi : P.info? e = some i)
    (v : Value) (n : Nat) (xs : List Value) (hown : w.ownsRow base e size v n xs) (c : Nat) : (Builtin.append_ #[t, t] ty #[v, .slice none 0 c]).run P w = .ok v w := by
  rcases hown.2 with ⟨rfl, rfl⟩ | ⟨g, cap, cur, rfl, _, _, hnc, _⟩
  · simp [Builtin.append_, run_underlying ht, sizeOf, typeInfo, hi, Builtin.lenOf, Builtin.firstCells]
  · simp [Builtin.append_, run_underlying ht, sizeOf, typeInfo, hi, Builtin.lenOf, Builtin.firstCells, hnc, storeCells]

/-- What an append leaves: a row of the call's own, in the old row or a new block. -/
def Appended (w : World) (base : Nat) (e : TypeId) (size : Nat) (v : Value) (n : Nat) (xs : List Value) (v' : Value) (w' : World) : Prop :=
  w'.ownsRow base e size v' n xs ∧ w.grownBy w' v.ownBlock ∧ (v'.ownBlock = v.ownBlock ∨ v'.ownBlock = some w.heap.size)

theorem run_append_sl (base : Nat) (t ty e : TypeId) (i : TypeInfo) (z : Value) (size bytes : Nat) (ht : P.underlying t = some (.slice e)) (hi : P.info? e = some i) (hz : i.zero = some z)
    (hsize : i.size = size) (hby : i.bytes = bytes) (hzs : z.cells.size = size) (hsz : 0 < size)
    (v : Value) (n : Nat) (xs : List Value) (hown : w.ownsRow base e size v n xs)
    (X : Nat → Prop) (src : Value) (m : Nat) (news : List Value) (hr : Sl w X size src m news) (h1 : ∀ u ∈ news, u.oneCell' = true)
    (h63 : n + m ≤ maxLen) (hbytes : (n + m) * bytes ≤ 140737488355328) (hbase : base ≤ w.heap.size) :
    ∃ v' w', (Builtin.append_ #[t, t] ty #[v, src]).run P w = .ok v' w' ∧ Appended w base e size v (n + m) (xs ++ news) v' w' := by
  obtain ⟨A, c, rfl, hl, hc, hcm, hx⟩ := hr
  rcases A with _ | ad
  · have hm : m = 0 := by
      rcases Nat.eq_zero_or_pos m with h0 | h0
      · exact h0
      · obtain ⟨ad, h, _⟩ := hx h0
        cases h
    subst hm
    have hn : news = [] := List.eq_nil_of_length_eq_zero (by simpa using hl)
    subst hn
    exact ⟨v, w, run_append_nilsrc w base t ty e i size ht hi v n xs hown c, by simpa using hown, World.grownBy.refl w _, .inl rfl⟩
  · have hcells : ∀ j u, news[j]? = some u → w.cell? (ad.add j) = some u := by
      intro j u hu
      rcases Nat.eq_zero_or_pos m with h0 | h0
      · subst h0
        have hn : news = [] := List.eq_nil_of_length_eq_zero (by simpa using hl)
        subst hn
        simp at hu
      · obtain ⟨ad', h, _, _, hc⟩ := hx h0
        injection h with h
        subst h
        exact hc j u hu
    obtain ⟨v', w', hrun, h2, h3, _, h5⟩ := run_append_own_at (P := P) w base t ty e i z size bytes ht hi hz hsize hby hzs hsz v n xs hown ad m c news hl hcells h1 h63 hbytes hbase
    exact ⟨v', w', hrun, h2, h3, h5⟩

/-- At the operation, for the walk. -/
theorem wpList_append_sl {ops : Array Oper} {rest : List Oper} {o : Oper} {a : Act} {Q : Exit → Act → World → Prop} (hgd : o.guard = none) (s x : Operand) (t : TypeId)
    (ho : o.op = .call { callee := .builtin .append, args := #[s, x], argTypes := #[t, t] })
    (base : Nat) (e : TypeId) (i : TypeInfo) (z : Value) (size bytes : Nat) (ht : P.underlying t = some (.slice e)) (hi : P.info? e = some i) (hz : i.zero = some z)
    (hsize : i.size = size) (hby : i.bytes = bytes) (hzs : z.cells.size = size) (hsz : 0 < size)
    (v : Value) (n : Nat) (xs : List Value) (hs : a.eval s = v) (hown : w.ownsRow base e size v n xs)
    (X : Nat → Prop) (src : Value) (m : Nat) (news : List Value) (hx : a.eval x = src) (hr : Sl w X size src m news) (h1 : ∀ u ∈ news, u.oneCell' = true)
    (h63 : n + m ≤ maxLen) (hbytes : (n + m) * bytes ≤ 140737488355328) (hbase : base ≤ w.heap.size)
    (h : ∀ v' w', Appended w base e size v (n + m) (xs ++ news) v' w' → wpList P ops Q rest (a.put o.dst v') w') : wpList P ops Q (o :: rest) a w := by
  refine wpList_plain hgd fun K hK => ?_
  obtain ⟨v', w', hrun, h2⟩ := run_append_sl (P := P) w base t o.type e i z size bytes ht hi hz hsize hby hzs hsz v n xs hown X src m news hr h1 h63 hbytes hbase
  unfold Oper.wp execOp
  simp only [ho, resolve, invoke, builtin, Sem.run_bind, Sem.run_pure, Result.andThen_ok, List.map_toArray, List.map_cons, List.map_nil, hs, hx, hrun]
  exact hK _ _ (h v' w' h2)

/-- A string out of bytes. -/
theorem run_convert_sl (X : Nat → Prop) (src dst e : TypeId) (A : Option Addr) (c : Nat) (l : List UInt8) (hs : P.underlying src = some (.slice e)) (he : P.underlying e = some (.int .u8)) (hd : P.underlying dst = some .string)
    (h : Sl w X 1 (.slice A l.length c) l.length (BVs l)) : (convert src dst (.slice A l.length c)).run P w = .ok (.string ⟨l.toArray⟩) w := by
  obtain ⟨A0, c0, hv, hl, hc, hcm, hx⟩ := h
  injection hv with e1 e2 e3
  subst e1; subst e3
  rcases A with _ | ad
  · have hl0 : l = [] := by
      rcases Nat.eq_zero_or_pos l.length with h0 | h0
      · exact List.eq_nil_of_length_eq_zero h0
      · obtain ⟨ad, h, _⟩ := hx h0
        cases h
    subst hl0
    rw [run_convert_bytes_string w src dst e none _ c hs he hd]
    rfl
  · refine run_convert_bytes_back w src dst e ad c l hs he hd fun j hj => ?_
    obtain ⟨ad', h, _, _, hc⟩ := hx (by omega)
    injection h with h
    subst h
    exact hc j _ (BVs_get hj)
end

/-- Two results, the first an array in a cell of its own. -/
theorem results_row_tmp {P : Program} {fn : Func} {p q : Tmp} {ty : TypeId} (h : fn.results = #[.cell p ty, .tmp q]) (tmps : Array Value) (w : World) (g : Nat) (t : TypeId) (cs : Array Value) (fr : Nat × Nat) (d : TypeDesc)
    (hp : tmps.getD p undef = .pointer (some ⟨g, 0, none⟩)) (hg : w.heap[g]? = some (.cells cs t fr))
    (hu : P.underlying ty = some d) (hd : (match d with | .struct _ | .array _ _ => true | _ => false) = true) (hi : (P.info? ty).map (·.size) = some cs.size) :
    (results fn tmps).run P w = .ok (.tuple #[.agg cs, tmps.getD q undef]) w := by
  have hp' : tmps[p]?.getD undef = .pointer (some ⟨g, 0, none⟩) := by simpa using hp
  simp [results, h, hp', asAddr, run_loadVar_row w g t ty cs fr d hg hu hd hi]

/-- What a call makes that hands back new bytes. -/
def Made (w : World) (e : TypeId) (l : List UInt8) (en : Ending) (w' : World) : Prop :=
  ∃ v, en = .returned v ∧ w'.ownsRow w.heap.size e 1 v l.length (BVs l) ∧ Below w.heap.size w w'
section
variable {w w1 w2 : World} {base : Nat} {e : TypeId} {v v1 v2 : Value} {l k : List UInt8} {en : Ending}
/-- What was made, seen from an earlier world. -/
theorem Made.later (hb : Below w.heap.size w w1) (h : Made w1 e l en w2) : ∃ v, en = .returned v ∧ w2.ownsRow w1.heap.size e 1 v l.length (BVs l) ∧ Below w.heap.size w w2 := by
  obtain ⟨v, rfl, hown, hb2⟩ := h
  exact ⟨v, rfl, hown, hb.trans (hb2.mono hb.size)⟩
theorem own_shape {size n : Nat} {xs : List Value} (h : w.ownsRow base e size v n xs) : ∃ A c, v = .slice A n c := by
  rcases h.2 with ⟨hv, rfl⟩ | ⟨g, cap, cur, hv, _⟩
  · exact ⟨_, _, hv⟩
  · exact ⟨_, _, hv⟩
theorem own_base {size n : Nat} {b' : Nat} {xs : List Value} (h : w.ownsRow base e size v n xs) (hb : b' ≤ base) : w.ownsRow b' e size v n xs := by
  refine ⟨h.1, ?_⟩
  rcases h.2 with hn | ⟨g, cap, cur, hv, hg, rest⟩
  · exact .inl hn
  · exact .inr ⟨g, cap, cur, hv, by omega, rest⟩
end

end Go.Proofs.Ytfdhaodgnenhcaa.Ck

/-
  Words for memory, for any layer: a change of some blocks and new ones; append, its result written out.
-/
namespace Go.Proofs.Ytfdhaodgnenhcaa.Kw
set_option linter.unusedSimpArgs false
set_option linter.unusedVariables false
open Go Go.RowKit Ck

/-- w' is w but for blocks of S, and new ones. -/
structure Ch (S : Nat → Prop) (w w' : World) : Prop where
  os : w'.os = w.os
  tape : w'.tape = w.tape
  output : w'.output = w.output
  size : w.heap.size ≤ w'.heap.size
  block : ∀ k, k < w.heap.size → ¬ S k → w'.heap[k]? = w.heap[k]?

section
variable {S T X : Nat → Prop} {a b c w w' : World}
theorem Ch.refl (S : Nat → Prop) (w : World) : Ch S w w := ⟨rfl, rfl, rfl, Nat.le_refl _, fun _ _ _ => rfl⟩
theorem Ch.trans (h : Ch S a b) (k : Ch T b c) (hT : ∀ k, k < a.heap.size → T k → S k) : Ch S a c :=
  ⟨k.os.trans h.os, k.tape.trans h.tape, k.output.trans h.output, Nat.le_trans h.size k.size, fun i hi hn =>
    (k.block i (Nat.lt_of_lt_of_le hi h.size) (fun ht => hn (hT i hi ht))).trans (h.block i hi hn)⟩
theorem Ch.mono (h : Ch S a b) (hT : ∀ k, k < a.heap.size → S k → T k) : Ch T a b :=
  ⟨h.os, h.tape, h.output, h.size, fun i hi hn => h.block i hi (fun hs => hn (hT i hi hs))⟩
theorem Ch.of_below {B : Nat} (h : Below B a b) (hB : a.heap.size ≤ B) : Ch S a b := ⟨h.os, h.tape, h.output, h.size, fun i hi _ => h.block i (by omega)⟩
theorem Ch.of_grown {row : Option Nat} (h : a.grownBy b row) (hr : ∀ g, row = some g → g < a.heap.size → S g) : Ch S a b :=
  ⟨h.os, h.tape, h.output, h.size, fun i hi hn => h.block i hi (fun e => hn (hr i e.symm hi))⟩
theorem Ch.below {B : Nat} (h : Ch S a b) (hB : ∀ k, k < B → ¬ S k) (hs : B ≤ a.heap.size) : Below B a b := ⟨h.os, h.tape, h.output, h.size, fun i hi => h.block i (by omega) (hB i hi)⟩
theorem Ch.alloc (h : Ch S a b) (o : Obj) : Ch S a (b.alloc o) := h.trans (Ch.of_below (S := fun _ => False) ((Below.refl b.heap.size b).alloc (Nat.le_refl _) o) (Nat.le_refl _)) (fun _ _ h => h.elim)
theorem Ch.drewN (h : Ch S a b) (n : Nat) : Ch S a (b.drewN n) := ⟨h.os, h.tape, h.output, h.size, h.block⟩
theorem Ch.drew (h : Ch S a b) : Ch S a b.drew := ⟨h.os, h.tape, h.output, h.size, h.block⟩
theorem Ch.setCell (h : Ch S a b) {p : Addr} (hp : p.block < a.heap.size → S p.block) (u : Value) : Ch S a (b.setCell p u) :=
  ⟨h.os, h.tape, h.output, by simpa [World.setCell] using h.size, fun i hi hn => (Below.heap_setCell b p u i (fun e => hn (by rw [e]; exact hp (by rw [← e]; exact hi)))).trans (h.block i hi hn)⟩
theorem Ch.cell (h : Ch S a b) {p : Addr} {v : Value} (hc : a.cell? p = some v) (hp : ¬ S p.block) : b.cell? p = some v :=
  (World.cell?_of_block (h.block _ (World.block_lt_of_cell? a p hc) hp)).trans hc
theorem _root_.Go.Proofs.Ytfdhaodgnenhcaa.Ck.Sl.ch {size n : Nat} {v : Value} {xs : List Value} (h : Sl w X size v n xs) (c : Ch S w w') (hd : ∀ k, k < w.heap.size → S k → X k) : Sl w' X size v n xs :=
  h.keep c.size (fun b hb hX => c.block b hb (fun hs => hX (hd b hb hs)))
theorem _root_.Go.Proofs.Ytfdhaodgnenhcaa.Ck.Ls.ch {v : Value} {ls : List (List UInt8)} (h : Ls w X v ls) (c : Ch S w w') (hd : ∀ k, k < w.heap.size → S k → X k) : Ls w' X v ls :=
  h.keep c.size (fun b hb hX => c.block b hb (fun hs => hX (hd b hb hs)))
theorem _root_.Go.Proofs.Ytfdhaodgnenhcaa.Ck.Blk.ch {g : Nat} {t : TypeId} {cs : Array Value} (h : Blk w g t cs) (c : Ch S w w') (hg : ¬ S g) : Blk w' g t cs := (c.block g h.lt hg).trans h
theorem own_ch {base : Nat} {e : TypeId} {size n : Nat} {v : Value} {xs : List Value} (h : w.ownsRow base e size v n xs) (c : Ch S w w') (hg : ∀ g, v.ownBlock = some g → ¬ S g) : w'.ownsRow base e size v n xs := by
  refine ⟨h.1, ?_⟩
  rcases h.2 with hn | ⟨g, cap, cur, rfl, hb, hr, rest⟩
  · exact .inl hn
  · exact .inr ⟨g, cap, cur, rfl, hb, (c.block g (Array.getElem?_eq_some_iff.1 hr).1 (hg g rfl)).trans hr, rest⟩
theorem map_ch {H : Type} {P : Program} {k : TypeId} {R : Value → Option (DataW H × List MemPlace)} {m n : Nat} {D : DataW H} (h : w.ownsMap P k R m n D) (c : Ch S w w') (hm : ¬ S m) : w'.ownsMap P k R m n D := by
  have hlt := h.lt
  obtain ⟨es, clock, hb, r⟩ := h
  exact ⟨es, clock, (c.block m hlt hm).trans hb, r⟩
/-- A row's block is not a block of another type. -/
theorem own_far {base : Nat} {e t : TypeId} {size n g : Nat} {v : Value} {xs : List Value} {cs : Array Value} (h : w.ownsRow base e size v n xs) (hb : Blk w g t cs) (he : e ≠ t) : v.ownBlock ≠ some g := by
  rcases h.2 with ⟨rfl, _⟩ | ⟨g', cap, cur, rfl, _, hr, _⟩
  · simp [Value.ownBlock]
  · intro h2
    have h2 : g' = g := by simpa [Value.ownBlock] using h2
    subst h2
    unfold Blk at hb
    rw [hr] at hb
    injection hb with hb
    injection hb with _ h3
    exact he h3
theorem map_row {H : Type} {P : Program} {k e : TypeId} {R : Value → Option (DataW H × List MemPlace)} {m n base size n' : Nat} {D : DataW H} {v : Value} {xs : List Value} (h : w.ownsMap P k R m n D) (hr : w.ownsRow base e size v n' xs) : v.ownBlock ≠ some m := by
  rcases hr.2 with ⟨rfl, _⟩ | ⟨g', cap, cur, rfl, _, hr, _⟩
  · simp [Value.ownBlock]
  · intro h2
    have h2 : g' = m := by simpa [Value.ownBlock] using h2
    subst h2
    obtain ⟨es, clock, hm, _⟩ := h
    rw [hm] at hr
    cases hr
end

/-- append, its result written out. -/
theorem wpList_append_sh {P : Program} (w : World) {ops : Array Oper} {rest : List Oper} {o : Oper} {a : Act} {Q : Exit → Act → World → Prop} (hgd : o.guard = none) (s x : Operand) (t : TypeId)
    (ho : o.op = .call { callee := .builtin .append, args := #[s, x], argTypes := #[t, t] })
    (base : Nat) (e : TypeId) (i : TypeInfo) (z : Value) (size bytes : Nat) (ht : P.underlying t = some (.slice e)) (hi : P.info? e = some i) (hz : i.zero = some z)
    (hsize : i.size = size) (hby : i.bytes = bytes) (hzs : z.cells.size = size) (hsz : 0 < size)
    (v : Value) (n : Nat) (xs : List Value) (hs : a.eval s = v) (hown : w.ownsRow base e size v n xs)
    (X : Nat → Prop) (src : Value) (m : Nat) (news : List Value) (hx : a.eval x = src) (hr : Sl w X size src m news) (h1 : ∀ u ∈ news, u.oneCell' = true)
    (h63 : n + m ≤ maxLen) (hbytes : (n + m) * bytes ≤ 140737488355328) (hbase : base ≤ w.heap.size)
    (h : ∀ A c w', Appended w base e size v (n + m) (xs ++ news) (.slice A (n + m) c) w' → wpList P ops Q rest (a.put o.dst (.slice A (n + m) c)) w') : wpList P ops Q (o :: rest) a w :=
  wpList_append_sl w hgd s x t ho base e i z size bytes ht hi hz hsize hby hzs hsz v n xs hs hown X src m news hx hr h1 h63 hbytes hbase (fun v' w' happ => by
    obtain ⟨A, c, rfl⟩ := own_shape happ.1
    exact h A c w' happ)

/-- A string's value. -/
def SV (l : List UInt8) : Value := .string ⟨l.toArray⟩

end Go.Proofs.Ytfdhaodgnenhcaa.Kw

/-
  Layer 6 (op): the contracts of barred, Runes and Name.
-/
namespace Go.Proofs.Ytfdhaodgnenhcaa.Pa
set_option linter.unusedSimpArgs false
open Go Go.RowKit Ck Kw Pm
set_option linter.unusedVariables false

theorem sv_size (l : Tx) : (ByteArray.mk l.toArray).size = l.length := by show l.toArray.size = _; simp

end Go.Proofs.Ytfdhaodgnenhcaa.Pa

/-
  Layer 6 (op): the contracts of fieldsOf, holdMore, isLong and areRecords; an operation in memory.
-/
namespace Go.Proofs.Ytfdhaodgnenhcaa.Pe
set_option linter.unusedSimpArgs false
open Go Go.RowKit Ck Kw Pm Pa
set_option linter.unusedVariables false

/-- An operation as a value: its records lie at A. -/
def OV (o : O) (A : Option Addr) (c : Nat) : Value := .agg #[.int .i64 o.kind, .string ⟨o.topic.toArray⟩, .string ⟨o.group.toArray⟩, .int .i64 o.off, .slice A o.recs.length c]
/-- The value v is the operation o, its records in no block of X. -/
def OI (w : World) (X : Nat → Prop) (v : Value) (o : O) : Prop := ∃ A c, v = OV o A c ∧ Ls w X (.slice A o.recs.length c) o.recs
section
variable {w w' : World} {X Y : Nat → Prop} {v : Value} {o : O}
theorem OI.keep (h : OI w X v o) (hs : w.heap.size ≤ w'.heap.size) (hk : ∀ b, b < w.heap.size → ¬ X b → w'.heap[b]? = w.heap[b]?) : OI w' X v o := by
  obtain ⟨A, c, hv, hl⟩ := h
  exact ⟨A, c, hv, hl.keep hs hk⟩
theorem OI.weaken (h : OI w X v o) (hk : ∀ b, b < w.heap.size → Y b → X b) : OI w Y v o := by
  obtain ⟨A, c, hv, hl⟩ := h
  exact ⟨A, c, hv, hl.weaken hk⟩
theorem OI.after (h : OI w X v o) (hb : Below w.heap.size w w') : OI w' X v o := by
  obtain ⟨A, c, hv, hl⟩ := h
  exact ⟨A, c, hv, hl.after hb⟩
theorem OI.ch {S : Nat → Prop} (h : OI w X v o) (c : Ch S w w') (hd : ∀ k, k < w.heap.size → S k → X k) : OI w' X v o := by
  obtain ⟨A, c', hv, hl⟩ := h
  exact ⟨A, c', hv, hl.ch c hd⟩
end
end Go.Proofs.Ytfdhaodgnenhcaa.Pe

/-
  Layer 6 (op): the contract of Check, kind by kind.
-/
namespace Go.Proofs.Ytfdhaodgnenhcaa.Pg
set_option linter.unusedSimpArgs false
open Go Go.RowKit Ck Kw Pm Pa Pe
set_option linter.unusedVariables false

/-- An operation's cells. -/
def OC (o : O) (A : Option Addr) (c : Nat) : Array Value := #[.int .i64 o.kind, .string ⟨o.topic.toArray⟩, .string ⟨o.group.toArray⟩, .int .i64 o.off, .slice A o.recs.length c]
/-- The operation in block g. -/
def OB (W : World) (g : Nat) (o : O) (A : Option Addr) (c : Nat) : Prop := Blk W g 67 (OC o A c)
theorem OB.cells {W : World} {g : Nat} {o : O} {A : Option Addr} {c : Nat} (h : OB W g o A c) :
    W.cell? ⟨g, 0, none⟩ = some (.int .i64 o.kind) ∧ W.cell? ⟨g, 1, none⟩ = some (.string ⟨o.topic.toArray⟩) ∧ W.cell? ⟨g, 2, none⟩ = some (.string ⟨o.group.toArray⟩) ∧ W.cell? ⟨g, 3, none⟩ = some (.int .i64 o.off) ∧ W.cell? ⟨g, 4, none⟩ = some (.slice A o.recs.length c) :=
  ⟨Blk.cell h 0, Blk.cell h 1, Blk.cell h 2, Blk.cell h 3, Blk.cell h 4⟩
end Go.Proofs.Ytfdhaodgnenhcaa.Pg

/-
  Layer 6 (op): the document's own fields and Check, kind by kind.
-/
namespace Go.Proofs.Ytfdhaodgnenhcaa.Ph
set_option linter.unusedSimpArgs false
open Go Go.RowKit Ck Kw Pm Pa Pe Pg
set_option linter.unusedVariables false

/-- The operation stands there, beside what was there. -/
structure RK (w0 : World) (g1 : Nat) (o : O) (A : Option Addr) (c : Nat) (W : World) : Prop where
  below : Below w0.heap.size w0 W
  op : OB W g1 o A c
theorem RK.later {w0 W W' : World} {g1 : Nat} {o : O} {A : Option Addr} {c : Nat} (h : RK w0 g1 o A c W) (b : Below W.heap.size W W') : RK w0 g1 o A c W' :=
  ⟨h.below.trans (b.mono h.below.size), Blk.below h.op b (Blk.lt h.op)⟩
end Go.Proofs.Ytfdhaodgnenhcaa.Ph

/-
  Contracts of layer 1's functions that put: bytes.Equal, digits, NumLen, roomy, addNum, addBytes and their kin.
-/
namespace Go.Proofs.Ytfdhaodgnenhcaa.Ca
set_option linter.unusedSimpArgs false
set_option linter.unusedVariables false
open Go Go.RowKit Ck

/-- An array of ten bytes, so many of them written. -/
def Ar (pre : List UInt8) : Array Value := (BVs pre ++ List.replicate (10 - pre.length) (Value.int .u8 0)).toArray
theorem Blk.setRow {w : World} {g g' : Nat} {t : TypeId} {cs : Array Value} (h : Blk w g t cs) (hne : g ≠ g') (ds : Array Value) : Blk (w.setRow g' ds) g t cs := (setRow_other w g' g ds (by omega)).trans h
end Go.Proofs.Ytfdhaodgnenhcaa.Ca

/-
  Contracts of layer 1's functions that put, and of the document's own.
-/
namespace Go.Proofs.Ytfdhaodgnenhcaa.Cb
set_option linter.unusedSimpArgs false
set_option linter.unusedVariables false
open Go Go.RowKit Ck Ca

theorem info_u8 : (Try.prog.info? 5).map (fun i => (i.zero, i.size, i.bytes)) = some (some (.int .u8 0), 1, 1) := by kernel_rfl

end Go.Proofs.Ytfdhaodgnenhcaa.Cb

/-
  Contracts of the document's own functions of layer 1 that put, of bytes.Clone, and of Same.
-/
namespace Go.Proofs.Ytfdhaodgnenhcaa.Cd
set_option linter.unusedSimpArgs false
set_option linter.unusedVariables false
open Go Go.RowKit Ck Ca Cb

set_option maxHeartbeats 400000 in
theorem clone_any (X : Nat → Prop) (v : Value) (n : Nat) (b : List UInt8) (w : World) (hv : Sl w X 1 v n (BVs b)) (hn : n ≤ 140737488355328) :
    Calls Try.prog 45 #[v] w fun e w' => Made w 5 b e w' := by
  have hnl : n = b.length := by obtain ⟨A, c, _, h, _⟩ := hv; rw [BVs_len] at h; omega
  subst hnl
  obtain ⟨i0, hi0, hz0, hz1, hz2⟩ := info_parts info_u8
  have hv' := hv
  obtain ⟨A, c, rfl, -⟩ := hv'
  have heq := fun (W : World) => Lib.run_eql_slice_nil (P := Try.prog) W 85 5 A b.length c 0 0 Try.underlying85
  rcases A with _ | ad
  · obtain ⟨h0, _⟩ := hv.none_
    have hb : b = [] := List.eq_nil_of_length_eq_zero h0
    subst hb
    simp only [List.length_nil] at heq
    clear hv h0
    go_enter Try.func45, Try.ntmps45
    go_wp2
    go_ret
    exact ⟨_, rfl, World.ownsRow_nil _ _ _ _, Below.refl _ _⟩
  · go_enter Try.func45, Try.ntmps45
    go_wp2_with (at_builtin; refine wpList_append_sl _ rfl (.tmp 5) (.tmp 6) _ rfl w.heap.size 5 i0 _ 1 1 Try.underlying85 hi0 hz0 hz1 hz2 rfl (by omega) (.slice (some ⟨w.heap.size, 0, none⟩) 0 0) 0 [] rfl (World.ownsRow_made w #[] 0 (Nat.le_refl _) (by simp only [maxLen]; omega) rfl) X _ b.length (BVs b) rfl (hv.alloc _) (BVs_one _) (by simp only [maxLen]; omega) (by omega) (by simp) ?_; intro v2 w2 happ)
    go_ret
    refine ⟨v2, rfl, by simpa using happ.1, ?_⟩
    exact ((Below.refl _ _).alloc (Nat.le_refl _) _).grown happ.2.1 (by simp) (by simp [Value.ownBlock])

end Go.Proofs.Ytfdhaodgnenhcaa.Cd
