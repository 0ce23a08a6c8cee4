/-
  Plain mathematics of layer 3 (disk): lists of files, what each call makes of them and answers.
-/
import Derived.Test.YtkoedonllfmaaaaGreatVD01
import Derived.Test.YtkoedonllfmaaaaGreatVD02
import Derived.Test.YtkoedonllfmaaaaGreatRows
import Derived.Maps.OwnSet
import Derived.Maps.RangeWalk
import Derived.Test.YtkoedonllfmaaaaGreatVD04
import Derived.Sort.KeysCollected
import Derived.Test.YtkoedonllfmaaaaGreatShelf
import Derived.Test.YtkoedonllfmaaaaGreatVD11
import Derived.Test.YtkoedonllfmaaaaGreatVD12
import Derived.Test.YtkoedonllfmaaaaGreatVD31
import Derived.Test.YtkoedonllfmaaaaGreatVD21
import Derived.Test.YtkoedonllfmaaaaGreatVD23
namespace Go.Proofs.YtkoedonllfmaaaaGreat.Dm
set_option linter.unusedSimpArgs false
set_option linter.unusedVariables false

abbrev Tx := List UInt8
/-- A file: its name, its bytes, how many of them are sure. -/
structure Fl where
  n : Tx
  b : Tx
  d : Nat

/-- The file of a name. -/
def find (L : List Fl) (s : Tx) : Option Fl := L.find? (fun f => f.n == s)
def isIn (L : List Fl) (s : Tx) : Bool := L.any (fun f => f.n == s)
/-- The file of that name, put otherwise. -/
def upd (L : List Fl) (s : Tx) (g : Fl → Fl) : List Fl := L.map (fun f => if f.n = s then g f else f)
def del (L : List Fl) (s : Tx) : List Fl := L.filter (fun f => !(f.n == s))
/-- A file more, where its name stands. -/
def ins (x : Fl) : List Fl → List Fl
  | [] => [x]
  | f :: L => if f.n < x.n then f :: ins x L else x :: f :: L
def used : List Fl → Nat
  | [] => 0
  | f :: L => f.b.length + used L
/-- What a crash leaves of a file. -/
def tear (k : Nat) (f : Fl) : Fl := { n := f.n, b := f.b.take (f.d + k % (f.b.length - f.d + 1)), d := f.d + k % (f.b.length - f.d + 1) }
def size (z : Int) : Nat := if z = -9223372036854775808 then 0 else z.natAbs

theorem isIn_iff {L : List Fl} {s : Tx} : isIn L s = true ↔ ∃ f ∈ L, f.n = s := by
  simp [isIn]
theorem used_mem {L : List Fl} {f : Fl} (h : f ∈ L) : f.b.length ≤ used L := by
  induction L with
  | nil => cases h
  | cons g L ih =>
    simp only [used]
    rcases List.mem_cons.1 h with rfl | h
    · omega
    · have := ih h
      omega
/-- No two files have one name, and each name is one that may be. -/
structure GoodL (L : List Fl) (room : Nat) : Prop where
  nodup : (L.map (·.n)).Nodup
  few : L.length ≤ 64
  fits : used L ≤ room
  room : room ≤ 4194304
  name : ∀ f ∈ L, f.n.length ≤ 140737488355328
  done : ∀ f ∈ L, f.d ≤ f.b.length
theorem GoodL.len {L : List Fl} {room : Nat} (h : GoodL L room) {f : Fl} (hf : f ∈ L) : f.b.length ≤ 4194304 := by
  have := used_mem hf
  have := h.fits
  have := h.room
  omega
end Go.Proofs.YtkoedonllfmaaaaGreat.Dm

/-
  Words for memory, for layer 3 (disk): a file, the program's disk.
-/
namespace Go.Proofs.YtkoedonllfmaaaaGreat.Dw
set_option linter.unusedSimpArgs false
set_option linter.unusedVariables false
open Go Go.RowKit Ck Kw Dm

/-- How a pointer to a block reads: that block's number. -/
def ptrElem (v : Value) : Option (DataW Unit × List MemPlace) :=
  match v with
  | .pointer none => some (.nil, [])
  | .pointer (some ⟨g, 0, none⟩) => some (.lit (.int .i64 (g : Int)), [])
  | _ => none
theorem ptrElem_mk (g : Nat) : ptrElem (.pointer (some ⟨g, 0, none⟩)) = some (.lit (.int .i64 (g : Int)), []) := rfl
theorem ptrElem_nil : ptrElem (.pointer none) = some (.nil, []) := rfl
/-- Any pointer that reads. -/
def PV (o : Option Nat) : Value := .pointer (o.map fun g => ⟨g, 0, none⟩)
theorem ptrElem_inv {v : Value} {z : DataW Unit × List MemPlace} (h : ptrElem v = some z) : ∃ o, v = PV o ∧ z = ((match o with | none => .nil | some g => .lit (.int .i64 ((g : Nat) : Int))), []) := by
  unfold ptrElem at h
  split at h
  · injection h with h
    exact ⟨none, rfl, h.symm⟩
  · rename_i g
    injection h with h
    exact ⟨some g, rfl, h.symm⟩
  · cases h
theorem ptrElem_at {v : Value} {g : Nat} {ps : List MemPlace} (h : ptrElem v = some (.lit (.int .i64 (g : Int)), ps)) : v = .pointer (some ⟨g, 0, none⟩) := by
  obtain ⟨o, rfl, hz⟩ := ptrElem_inv h
  have h1 := congrArg Prod.fst hz
  cases o with
  | none => simp at h1
  | some k =>
    simp at h1
    have : k = g := by omega
    subst this
    rfl

section
variable {w w' : World} {S T : Nat → Prop} {g d : Nat} {b : Tx}
end

/-- The map's datum tells where each file lies. -/
def TellsD (D : DataW Unit) (L : List Fl) (G : Tx → Nat) : Prop :=
  (∀ s : Tx, Maps.has D (.string s) = isIn L s) ∧ ∀ f ∈ L, ∀ zd, D.atKey (.string f.n) zd = .lit (.int .i64 (G f.n : Int))

section
variable {w w' : World} {S T : Nat → Prop} {p m room : Nat} {L : List Fl} {off : Bool}
end

theorem law_str : Maps.Keyed Tryz.prog 9 := Maps.string_keyed Tryz.underlying9
theorem key_str (s : Tx) (h : s.length ≤ maxLen) : keyOf Tryz.prog 9 (.string ⟨s.toArray⟩) = some (.string s) := by
  have := _root_.Go.WideMaps.keyOf_string_mk (P := Tryz.prog) Tryz.underlying9 (s := ⟨s.toArray⟩) (show s.toArray.size ≤ maxLen by simpa using h)
  simpa using this
theorem has_atKey {H : Type} {D : DataW H} {kl : Lit} (h : Maps.has D kl = false) (zd : DataW H) : D.atKey kl zd = zd := by
  cases D <;> first | rfl | skip
  rename_i es
  simp only [Maps.has] at h
  simp only [DataW.atKey]
  cases hf : es.find? (fun e => e.1.sameKey kl) with
  | none => simp
  | some x =>
    have h1 := List.find?_some hf
    have h2 := List.mem_of_find?_eq_some hf
    rw [List.any_eq_false] at h
    exact absurd h1 (h x h2)

end Go.Proofs.YtkoedonllfmaaaaGreat.Dw

/-
  Contract of the program's file: put.
-/
namespace Go.Proofs.YtkoedonllfmaaaaGreat.Db
set_option linter.unusedSimpArgs false
open Go Go.RowKit Ck Kw Ga Dm Dw
attribute [local go_sem ↓] Go.wp_at_zero Go.wp_at_succ
set_option linter.unusedVariables false

/-- Bytes written over others from k on. -/
def wr (b : Tx) (k : Nat) (x : Tx) : Tx := b.take k ++ x ++ b.drop (k + x.length)
end Go.Proofs.YtkoedonllfmaaaaGreat.Db

/-
  Contracts of the program's disk: Used, Room.
-/
namespace Go.Proofs.YtkoedonllfmaaaaGreat.Dd
set_option linter.unusedSimpArgs false
open Go Go.RowKit Go.Maps Ck Kw Ga Dm Dw Db
attribute [local go_sem ↓] Go.wp_at_zero Go.wp_at_succ
set_option linter.unusedVariables false

theorem sameKey_str (a b : Tx) : (Lit.string a).sameKey (.string b) = (a == b) := by simp [Lit.sameKey]
theorem pv_at {c : Option Nat} {y : DataW Unit × List MemPlace} {g : Nat} (h : ptrElem (PV c) = some y) (hy : y.1 = .lit (.int .i64 (g : Int))) : c = some g := by
  cases c with
  | none =>
    have h' : ptrElem (.pointer none) = some y := h
    rw [ptrElem_nil] at h'
    injection h' with h'
    rw [← h'] at hy
    cases hy
  | some k =>
    have h' : ptrElem (.pointer (some ⟨k, 0, none⟩)) = some y := h
    rw [ptrElem_mk] at h'
    injection h' with h'
    rw [← h'] at hy
    simp at hy
    have : k = g := by omega
    rw [this]

end Go.Proofs.YtkoedonllfmaaaaGreat.Dd

/-
  Contracts of the program's disk: put, Append, Write.
-/
namespace Go.Proofs.YtkoedonllfmaaaaGreat.De
set_option linter.unusedSimpArgs false
open Go Go.RowKit Go.Maps Ck Kw Ga Dm Dw Db Dd
attribute [local go_sem ↓] Go.wp_at_zero Go.wp_at_succ
set_option linter.unusedVariables false

theorem mem_upd {L : List Fl} {s : Tx} {g : Fl → Fl} {f : Fl} (h : f ∈ upd L s g) : ∃ f0 ∈ L, f = if f0.n = s then g f0 else f0 := by
  obtain ⟨f0, h0, e⟩ := List.mem_map.1 h
  exact ⟨f0, h0, e.symm⟩
/-- A file of other bytes. -/
def setf (b : Tx) (d : Nat) (f : Fl) : Fl := ⟨f.n, b, d⟩
/-- Bytes put into a file from k on, if there is room. -/
def putS (L : List Fl) (room : Nat) (f : Fl) (k : Nat) (x : Tx) : List Fl × Nat :=
  if room + f.b.length < x.length + used L + k then (L, 30) else (upd L f.n (setf (wr f.b k x) (min f.d k)), 0)
def appS (L : List Fl) (room : Nat) (off : Bool) (s : Tx) (x : Tx) : List Fl × Nat :=
  if off then (L, 32) else match find L s with | none => (L, 4) | some f => putS L room f f.b.length x
def writeS (L : List Fl) (room : Nat) (off : Bool) (s : Tx) (z : Int) (x : Tx) : List Fl × Nat :=
  if off then (L, 32) else match find L s with | none => (L, 4) | some f => if z < 0 ∨ (f.b.length : Int) < z then (L, 1) else putS L room f z.toNat x
end Go.Proofs.YtkoedonllfmaaaaGreat.De

/-
  Contracts of the program's disk: Append, Write, Sync, Truncate, Synced, Get.
-/
namespace Go.Proofs.YtkoedonllfmaaaaGreat.Df
set_option linter.unusedSimpArgs false
open Go Go.RowKit Go.Maps Ck Kw Ga Dm Dw Db Dd De
attribute [local go_sem ↓] Go.wp_at_zero Go.wp_at_succ
set_option linter.unusedVariables false

def truncS (L : List Fl) (off : Bool) (s : Tx) (z : Int) : List Fl × Nat :=
  if off then (L, 32) else match find L s with | none => (L, 4) | some f => if z < 0 ∨ (f.b.length : Int) < z then (L, 1) else (upd L f.n (setf (f.b.take z.toNat) (min f.d z.toNat)), 0)
def syncS (L : List Fl) (off : Bool) (s : Tx) : List Fl × Nat := if off then (L, 32) else match find L s with | none => (L, 4) | some f => (upd L f.n (setf f.b f.b.length), 0)
end Go.Proofs.YtkoedonllfmaaaaGreat.Df

/-
  Contracts of the program's disk: Synced, Get, Remove, Rename, Create.
-/
namespace Go.Proofs.YtkoedonllfmaaaaGreat.Dg
set_option linter.unusedSimpArgs false
open Go Go.RowKit Go.Maps Ck Kw Ga Dm Dw Db Dd De Df
attribute [local go_sem ↓] Go.wp_at_zero Go.wp_at_succ
set_option linter.unusedVariables false

/-- What Get hands back. -/
def Got (w : World) (r : Tx × Nat) (e : Ending) (w' : World) : Prop :=
  ∃ A c, e = .returned (.tuple #[.slice A r.1.length c, .int .i64 (r.2 : Int)]) ∧ w'.ownsRow w.heap.size 5 1 (.slice A r.1.length c) r.1.length (BVs r.1) ∧ Below w.heap.size w w'
theorem strKey_ne {s t : Tx} (h : s ≠ t) : (Lit.string s) ≠ Lit.string t := fun e => h (by injection e)
theorem strKey (s : Tx) : WideAt.IsKeyLit (.string s) := trivial
def remS (L : List Fl) (off : Bool) (s : Tx) : List Fl × Nat := if off then (L, 32) else match find L s with | none => (L, 4) | some f => (del L f.n, 0)
end Go.Proofs.YtkoedonllfmaaaaGreat.Dg

/-
  Contracts of the program's disk: Create, Rename.
-/
namespace Go.Proofs.YtkoedonllfmaaaaGreat.Dh
set_option linter.unusedSimpArgs false
open Go Go.RowKit Go.Maps Ck Kw Ga Dm Dw Db Dd De Df Dg
attribute [local go_sem ↓] Go.wp_at_zero Go.wp_at_succ
set_option linter.unusedVariables false

theorem names_perm {w : World} {m n : Nat} {D : DataW Unit} {L : List Fl} {G : Tx → Nat} (h : w.ownsMap Tryz.prog 9 ptrElem m n D) (hT : TellsD D L G) (hn : (L.map (·.n)).Nodup) : (L.map (·.n)).Perm (strKeys D) := by
  obtain ⟨es, hD, hpw, _⟩ := h.entries law_str
  obtain ⟨es', hD', hko⟩ := h.keysOf
  obtain rfl : es = es' := by rw [hD] at hD'; simpa using hD'
  subst hD
  refine perm_strKeys hpw (fun p hp => by obtain ⟨v, hv⟩ := hko p hp; obtain ⟨x, _, hx, _⟩ := Maps.keyOf_str Tryz.underlying9 hv; exact ⟨x, hx⟩) hn (fun x => ?_)
  rw [hT.1 x, isIn_iff, List.mem_map]
theorem size_names {w : World} {m n : Nat} {D : DataW Unit} {L : List Fl} {G : Tx → Nat} (h : w.ownsMap Tryz.prog 9 ptrElem m n D) (hT : TellsD D L G) (hn : (L.map (·.n)).Nodup) : Maps.size D = L.length := by
  have hp := (names_perm h hT hn).length_eq
  obtain ⟨es, rfl, _⟩ := h.entries law_str
  rw [List.length_map] at hp
  rw [hp]
  show es.length = (es.map _).length
  rw [List.length_map]
theorem own_tight {w : World} {m n : Nat} {D : DataW Unit} (h : w.ownsMap Tryz.prog 9 ptrElem m n D) : w.ownsMap Tryz.prog 9 ptrElem m (Maps.size D) D := by
  obtain ⟨es, clock, hb, F, hs, rfl⟩ := h
  exact ⟨es, clock, hb, F, by simp [Maps.size, length_sorted], rfl⟩

/-- A key more. -/
theorem has_put {D : DataW Unit} (hD : Maps.IsMap D) (t s : Tx) (d : DataW Unit) : Maps.has (D.put (.string t) d) (.string s) = (t == s || Maps.has D (.string s)) := by
  by_cases e : s = t
  · subst e
    rw [Maps.has_put_same hD (strKey s)]
    simp
  · rw [Maps.has_put_other (strKey_ne e)]
    have : (t == s) = false := by rw [beq_eq_false_iff_ne]; exact fun h => e h.symm
    rw [this, Bool.false_or]

def createS (L : List Fl) (off : Bool) (s : Tx) : List Fl × Nat :=
  if off then (L, 32) else if s = [] then (L, 1) else if isIn L s then (L, 31) else if 64 ≤ L.length then (L, 6) else (ins ⟨s, [], 0⟩ L, 0)

end Go.Proofs.YtkoedonllfmaaaaGreat.Dh

/-
  Contract of the program's disk: Rename.
-/
namespace Go.Proofs.YtkoedonllfmaaaaGreat.Di
set_option linter.unusedSimpArgs false
open Go Go.RowKit Go.Maps Ck Kw Ga Dm Dw Db Dd De Df Dg Dh
attribute [local go_sem ↓] Go.wp_at_zero Go.wp_at_succ
set_option linter.unusedVariables false

def renS (L : List Fl) (off : Bool) (s t : Tx) : List Fl × Nat :=
  if off then (L, 32) else match find L s with | none => (L, 4) | some f => if t = [] then (L, 1) else if t = s then (L, 0) else (ins ⟨t, f.b, f.d⟩ (del (del L s) t), 0)
end Go.Proofs.YtkoedonllfmaaaaGreat.Di

/-
  Contract of the program's disk: Crash.
-/
namespace Go.Proofs.YtkoedonllfmaaaaGreat.Dj
set_option linter.unusedSimpArgs false
open Go Go.RowKit Go.Maps Ck Kw Ga Dm Dw Db Dd De Df Dg Dh Di
attribute [local go_sem ↓] Go.wp_at_zero Go.wp_at_succ
set_option linter.unusedVariables false

theorem ranges_ch {H : Type} {P : Program} {k : TypeId} {R : Value → Option (DataW H × List MemPlace)} {w w' : World} {S : Nat → Prop} {b r n cnt : Nat} {D : DataW H} {left : Lit → Bool} (h : w.ranges P k R b r n D left cnt) (c : Ch S w w') (hb : ¬ S b) (hr : ¬ S r) : w'.ranges P k R b r n D left cnt := by
  have h1 := h.owns.lt
  have h2 := h.lt
  obtain ⟨es, clock, since, seen, c0, e1, e2, e3, e4, e5, rest⟩ := h
  exact ⟨es, clock, since, seen, c0, (c.block b h1 hb).trans e1, e2, e3, e4, (c.block r h2 hr).trans e5, rest⟩

def crashS (L : List Fl) (off : Bool) (z : Int) : List Fl × Nat := if off then (L, 32) else (L.map (tear (Dm.size z)), 0)

end Go.Proofs.YtkoedonllfmaaaaGreat.Dj

/-
  Contract of the program's disk: List.
-/
namespace Go.Proofs.YtkoedonllfmaaaaGreat.Dl
set_option linter.unusedSimpArgs false
open Go Go.RowKit Go.Maps Go.Sort Go.Shelf Ck Kw Ga Dm Dw Db Dd De Df Dg Dh
attribute [local go_sem ↓] Go.wp_at_zero Go.wp_at_succ
set_option linter.unusedVariables false

theorem sorts (m : Nat) : AnyZ.SortsIn Tryz.prog Tryz.sorted58_ren Fence.wide m :=
  ⟨fun blk off cap ss W hH hblk hsz => callsIn_wide.2 (AnyM.slices_Sort_string Tryz.sort91 blk off cap ss W hH hblk hsz),
   fun p cap W => callsIn_wide.2 (AnyM.slices_Sort_string_none Tryz.sort91 p cap W)⟩

end Go.Proofs.YtkoedonllfmaaaaGreat.Dl

/-
  Words for memory and contracts of the document's disk: at, may, Used, Synced, Get, Restart.
-/
namespace Go.Proofs.YtkoedonllfmaaaaGreat.Ra
set_option linter.unusedSimpArgs false
open Go Go.RowKit Go.Maps Ck Kw Ga Dm Dw Db Dd De Df Dg Dh Di
attribute [local go_sem ↓] Go.wp_at_zero Go.wp_at_succ
set_option linter.unusedVariables false

section
variable {w w' : World} {S T : Nat → Prop} {q most : Nat} {l : List (Fl × Value)} {L : List Fl} {down : Bool} {lv : Value}
theorem add_zero {ad : Addr} (h : ad = ⟨ad.block, 0, none⟩) (i : Nat) : ad.add i = ⟨ad.block, i, none⟩ := by
  obtain ⟨g, o, s⟩ := ad
  injection h with _ h1 h2
  subst h1; subst h2
  unfold Addr.add
  split <;> simp_all
end

theorem find_first {L : List Fl} {s : Tx} {k : Nat} (hk : k < L.length) (h0 : ∀ j, j < k → ∀ f, L[j]? = some f → f.n ≠ s) (h : L[k].n = s) : find L s = some L[k] := by
  unfold find
  rw [List.find?_eq_some_iff_getElem]
  refine ⟨by simpa using h, k, hk, rfl, fun j hj => ?_⟩
  have := h0 j hj L[j] (List.getElem?_eq_getElem (by omega))
  simpa using this
theorem find_never {L : List Fl} {s : Tx} (h0 : ∀ j, j < L.length → ∀ f, L[j]? = some f → f.n ≠ s) : find L s = none := by
  unfold find
  rw [List.find?_eq_none]
  intro f hf
  obtain ⟨j, hj, e⟩ := List.mem_iff_getElem.1 hf
  have := h0 j hj f (by rw [List.getElem?_eq_getElem hj, e])
  simpa using this

theorem rows_len {L : List Fl} {l : List (Fl × Value)} (h : l.map (·.1) = L) : L.length = l.length := by rw [← h, List.length_map]
theorem rows_at {L : List Fl} {l : List (Fl × Value)} (h : l.map (·.1) = L) {k : Nat} (hk : k < l.length) : L[k]? = some l[k].1 := by rw [← h]; simp [hk]
theorem find_at {L : List Fl} {s : Tx} {k : Nat} {f : Fl} (hk : L[k]? = some f) (h0 : ∀ j, j < k → ∀ f, L[j]? = some f → f.n ≠ s) (h : f.n = s) : find L s = some f := by
  obtain ⟨hl, e⟩ := List.getElem?_eq_some_iff.1 hk
  rw [← e]
  exact find_first hl h0 (by rw [e]; exact h)

end Go.Proofs.YtkoedonllfmaaaaGreat.Ra

/-
  Contract of the document's disk: Write.
-/
namespace Go.Proofs.YtkoedonllfmaaaaGreat.Rd
set_option linter.unusedSimpArgs false
open Go Go.RowKit Go.Maps Ck Kw Ga Dm Dw Db Dd De Df Dg Dh Di Ra
attribute [local go_sem ↓] Go.wp_at_zero Go.wp_at_succ
set_option linter.unusedVariables false

theorem below_of_app {W1 w5 w6 : World} {e : TypeId} {size n m : Nat} {v v' : Value} {xs ys : List Value} (hb : Below W1.heap.size W1 w5) (ho : w5.ownsRow W1.heap.size e size v n xs) (h : Appended w5 W1.heap.size e size v m ys v' w6) : Below W1.heap.size W1 w6 :=
  hb.grown h.2.1 hb.size (fun g hg => (ho.lt g hg).1)
end Go.Proofs.YtkoedonllfmaaaaGreat.Rd

/-
  Contracts of the document's disk: Remove, Create.
-/
namespace Go.Proofs.YtkoedonllfmaaaaGreat.Rf
set_option linter.unusedSimpArgs false
open Go Go.RowKit Go.Maps Ck Kw Ga Dm Dw Db Dd De Df Dg Dh Di Ra Rd
attribute [local go_sem ↓] Go.wp_at_zero Go.wp_at_succ
set_option linter.unusedVariables false

/-- Go's order of strings is that of lists of bytes. -/
theorem less_eq (x y : List UInt8) : Op.bytesLess x y = decide (x < y) := by
  induction x generalizing y with
  | nil => cases y <;> simp [Op.bytesLess]
  | cons a x ih =>
    cases y with
    | nil => simp [Op.bytesLess]
    | cons b y =>
      rw [Op.bytesLess, ih y]
      by_cases hl : a < b
      · simp [List.cons_lt_cons_iff, hl]
      · by_cases he : a = b
        · subst he
          simp
        · simp [List.cons_lt_cons_iff, hl, he]

end Go.Proofs.YtkoedonllfmaaaaGreat.Rf

/-
  Two things side by side in memory, each in blocks of its own, none of them among the blocks K of others: what a call on one of them leaves of all. For any layer.
-/
namespace Go.Proofs.YtkoedonllfmaaaaGreat.Pw
set_option linter.unusedSimpArgs false
set_option linter.unusedVariables false
open Go Go.RowKit Ck Kw

/-- The blocks of S are there, and none is in K. -/
def Own (K : Nat → Prop) (w : World) (S : Nat → Prop) : Prop := ∀ k, S k → ¬ K k ∧ k < w.heap.size
/-- What changes of other blocks leave alone. -/
def Stable (P : World → (Nat → Prop) → Prop) : Prop := ∀ (w w' : World) (S T : Nat → Prop), P w S → Ch T w w' → (∀ k, S k → T k → False) → P w' S
/-- Two things side by side. -/
def Two (K : Nat → Prop) (w : World) (P Q : World → (Nat → Prop) → Prop) : Prop :=
  (∀ k, K k → k < w.heap.size) ∧ ∃ S T, P w S ∧ Q w T ∧ Own K w S ∧ Own K w T ∧ ∀ k, S k → T k → False
/-- Three. -/
def Three (K : Nat → Prop) (w : World) (O P Q : World → (Nat → Prop) → Prop) : Prop :=
  (∀ k, K k → k < w.heap.size) ∧ ∃ R S T, O w R ∧ P w S ∧ Q w T ∧ Own K w R ∧ Own K w S ∧ Own K w T ∧ (∀ k, R k → S k → False) ∧ (∀ k, R k → T k → False) ∧ ∀ k, S k → T k → False
/-- Blocks of others, and one more. -/
def And1 (K : Nat → Prop) (g : Nat) (k : Nat) : Prop := K k ∨ k = g

section
variable {K K' : Nat → Prop} {w w' : World} {S T : Nat → Prop} {O P P' Q Q' : World → (Nat → Prop) → Prop}
theorem Own.later (h : Own K w S) (hs : w.heap.size ≤ w'.heap.size) : Own K w' S := fun k hk => ⟨(h k hk).1, Nat.lt_of_lt_of_le (h k hk).2 hs⟩
theorem Own.up (h : Own K w S) (hs : w.heap.size ≤ w'.heap.size) (hK : ∀ k, K k → k < w.heap.size) : Own K w' (Up S w w') := fun k hk => by
  rcases hk with hk | hk
  · exact h.later hs k hk
  · exact ⟨fun h => by have := hK k h; omega, hk.2⟩
theorem up_apart (h : ∀ k, S k → T k → False) (hT : Own K w T) : ∀ k, Up S w w' k → T k → False := fun k hk ht => by
  rcases hk with hk | hk
  · exact h k hk ht
  · have := (hT k ht).2
    omega
theorem new_apart (hT : Own K w T) : ∀ k, New w w' k → T k → False := fun k hk ht => by
  have := (hT k ht).2
  have := hk.1
  omega
theorem Own.new (hK : ∀ k, K k → k < w.heap.size) : Own K w' (New w w') := fun k hk => ⟨fun h => by have := hK k h; have := hk.1; omega, hk.2⟩
theorem ch_own (c : Ch S w w') (h : Own K w S) : Ch (fun k => ¬ K k) w w' := c.mono fun k _ hk => (h k hk).1
theorem Two.later (h : Two K w P Q) (hP : Stable P) (hQ : Stable Q) (b : Below w.heap.size w w') : Two K w' P Q := by
  obtain ⟨hK, S, T, h1, h2, h3, h4, h5⟩ := h
  have c : Ch (fun _ => False) w w' := Ch.of_below b (Nat.le_refl _)
  exact ⟨fun k hk => Nat.lt_of_lt_of_le (hK k hk) b.size, S, T, hP _ _ _ _ h1 c (fun _ _ h => h), hQ _ _ _ _ h2 c (fun _ _ h => h), h3.later b.size, h4.later b.size, h5⟩
/-- A block that others have made since is theirs. -/
theorem Two.more (h : Two K w P Q) (hP : Stable P) (hQ : Stable Q) (b : Below w.heap.size w w') {g : Nat} (hg : w.heap.size ≤ g) (hg' : g < w'.heap.size) : Two (And1 K g) w' P Q := by
  obtain ⟨hK, S, T, h1, h2, h3, h4, h5⟩ := h
  have c : Ch (fun _ => False) w w' := Ch.of_below b (Nat.le_refl _)
  refine ⟨fun k hk => ?_, S, T, hP _ _ _ _ h1 c (fun _ _ h => h), hQ _ _ _ _ h2 c (fun _ _ h => h), fun k hk => ?_, fun k hk => ?_, h5⟩
  · rcases hk with hk | rfl
    · exact Nat.lt_of_lt_of_le (hK k hk) b.size
    · exact hg'
  · have := h3 k hk
    exact ⟨by rintro (hn | rfl); exact this.1 hn; omega, by have := b.size; omega⟩
  · have := h4 k hk
    exact ⟨by rintro (hn | rfl); exact this.1 hn; omega, by have := b.size; omega⟩
theorem Two.left (h : Two K w P Q) : ∃ S, P w S ∧ Own K w S := by
  obtain ⟨hK, S, T, h1, h2, h3, h4, h5⟩ := h
  exact ⟨S, h1, h3⟩
variable {pg : Program} {f : FuncId} {args : Array Value} {R : Ending → Prop}
/-- A call that changes the left one. -/
theorem Two.call (h : Two K w P Q) (hQ : Stable Q) (hc : ∀ S, P w S → Calls pg f args w fun e w' => R e ∧ P' w' (Up S w w') ∧ Ch S w w') :
    Calls pg f args w fun e w' => R e ∧ Two K w' P' Q ∧ Ch (fun k => ¬ K k) w w' := by
  obtain ⟨hK, S, T, h1, h2, h3, h4, h5⟩ := h
  refine (hc S h1).mono fun e w' ⟨he, hP, c⟩ => ⟨he, ⟨fun k hk => Nat.lt_of_lt_of_le (hK k hk) c.size, Up S w w', T, hP, hQ _ _ _ _ h2 c (fun k a b => h5 k b a), h3.up c.size hK, h4.later c.size, up_apart h5 h4⟩, ch_own c h3⟩
/-- A call that makes one more of the left kind. -/
theorem Two.clone {P' : Nat → World → (Nat → Prop) → Prop} {R : Nat → Ending → Prop} (h : Two K w P Q) (hP : Stable P) (hQ : Stable Q)
    (hc : ∀ S, P w S → Calls pg f args w fun e w' => ∃ p, R p e ∧ P' p w' (New w w') ∧ Below w.heap.size w w') :
    Calls pg f args w fun e w' => ∃ p, R p e ∧ Three K w' P (P' p) Q ∧ Below w.heap.size w w' := by
  obtain ⟨hK, S, T, h1, h2, h3, h4, h5⟩ := h
  refine (hc S h1).mono fun e w' ⟨p, he, hP', b⟩ => ⟨p, he, ?_, b⟩
  have c : Ch (fun _ => False) w w' := Ch.of_below b (Nat.le_refl _)
  exact ⟨fun k hk => Nat.lt_of_lt_of_le (hK k hk) b.size, S, New w w', T, hP _ _ _ _ h1 c (fun _ _ h => h), hP', hQ _ _ _ _ h2 c (fun _ _ h => h), h3.later b.size, Own.new hK, h4.later b.size, fun k a b => new_apart h3 k b a, h5, new_apart h4⟩
theorem Three.later (h : Three K w O P Q) (hO : Stable O) (hP : Stable P) (hQ : Stable Q) (b : Below w.heap.size w w') : Three K w' O P Q := by
  obtain ⟨hK, R, S, T, h0, h1, h2, h3, h4, h5, h6, h7, h8⟩ := h
  have c : Ch (fun _ => False) w w' := Ch.of_below b (Nat.le_refl _)
  exact ⟨fun k hk => Nat.lt_of_lt_of_le (hK k hk) b.size, R, S, T, hO _ _ _ _ h0 c (fun _ _ h => h), hP _ _ _ _ h1 c (fun _ _ h => h), hQ _ _ _ _ h2 c (fun _ _ h => h), h3.later b.size, h4.later b.size, h5.later b.size, h6, h7, h8⟩
/-- A call that changes the first: the others stay, and it is let go. -/
theorem Three.call (h : Three K w O P Q) (hP : Stable P) (hQ : Stable Q) (hc : ∀ S, O w S → Calls pg f args w fun e w' => R e ∧ Ch S w w') :
    Calls pg f args w fun e w' => R e ∧ Two K w' P Q ∧ Ch (fun k => ¬ K k) w w' := by
  obtain ⟨hK, X, S, T, h0, h1, h2, h3, h4, h5, h6, h7, h8⟩ := h
  refine (hc X h0).mono fun e w' ⟨he, c⟩ => ⟨he, ⟨fun k hk => Nat.lt_of_lt_of_le (hK k hk) c.size, S, T, hP _ _ _ _ h1 c (fun k a b => h6 k b a), hQ _ _ _ _ h2 c (fun k a b => h7 k b a), h4.later c.size, h5.later c.size, h8⟩, ch_own c h3⟩
end

end Go.Proofs.YtkoedonllfmaaaaGreat.Pw

/-
  Contract of does: an operation is done with both disks, and both answer the same.
-/
namespace Go.Proofs.YtkoedonllfmaaaaGreat.Dq
set_option linter.unusedSimpArgs false
open Go Go.RowKit Go.Maps Ck Kw Ga Dm Dw Db Dd De Df Dg Dh Di Dj Ra Rd Rf Pw
attribute [local go_sem ↓] Go.wp_at_zero Go.wp_at_succ
set_option linter.unusedVariables false

/-- An operation, as it was handed in. -/
structure On where
  z : Int
  n : Tx
  t : Tx
  a : Int
  b : Tx
/-- What an operation makes of a disk's files, and whether it is off then. -/
def step (room : Nat) (o : On) (st : List Fl × Bool) : List Fl × Bool :=
  if o.z = 0 then ((createS st.1 st.2 o.n).1, st.2) else if o.z = 1 then ((appS st.1 room st.2 o.n o.b).1, st.2) else if o.z = 2 then ((writeS st.1 room st.2 o.n o.a o.b).1, st.2)
  else if o.z = 3 then ((syncS st.1 st.2 o.n).1, st.2) else if o.z = 4 then ((renS st.1 st.2 o.n o.t).1, st.2) else if o.z = 5 then ((truncS st.1 st.2 o.n o.a).1, st.2)
  else if o.z = 6 then ((remS st.1 st.2 o.n).1, st.2) else if o.z = 7 then ((crashS st.1 st.2 o.a).1, true) else if o.z = 8 then (st.1, false) else st
/-- It may be: its texts are such as can be read, its number is one. -/
def wfO (o : On) : Prop := o.n.length ≤ 140737488355328 ∧ o.t.length ≤ 140737488355328 ∧ o.b.length ≤ 140737488355328 ∧ -9223372036854775808 ≤ o.a ∧ o.a ≤ 9223372036854775807
end Go.Proofs.YtkoedonllfmaaaaGreat.Dq

/-
  Contracts of slices.Equal at strings and of the document's List.
-/
namespace Go.Proofs.YtkoedonllfmaaaaGreat.Ds
set_option linter.unusedSimpArgs false
open Go Go.RowKit Go.Maps Ck Kw Ga Dm Dw Db Dd De Df Dg Dh Di Dj Ra Rd Rf Dl Dq
attribute [local go_sem ↓] Go.wp_at_zero Go.wp_at_succ
set_option linter.unusedVariables false

theorem sv_at {w : World} {X : Nat → Prop} {A : Option Addr} {c k : Nat} {l : List Tx} (h : Sl w X 1 (.slice A l.length c) l.length (l.map SV)) (hk : k < l.length) : ∃ ad, A = some ad ∧ w.cell? (ad.add k) = some (.string ⟨l[k].toArray⟩) := by
  obtain ⟨A0, c0, hv, _, _, _, hx⟩ := h
  obtain ⟨ad, e, _, _, hc⟩ := hx (by omega)
  exact ⟨ad, by rw [(Value.slice.inj hv).1, e], hc k _ (by simp [hk, SV])⟩

set_option maxHeartbeats 1000000 in
/-- Two lists of strings that are the same. -/
theorem equal_strs (w : World) (X Y : Nat → Prop) (A B : Option Addr) (c d : Nat) (l : List Tx) (ha : Sl w X 1 (.slice A l.length c) l.length (l.map SV)) (hb : Sl w Y 1 (.slice B l.length d) l.length (l.map SV)) (hl : l.length ≤ 64) :
    Calls Tryz.prog 23 #[.slice A l.length c, .slice B l.length d] w fun e w' => e = .returned (.bool true) ∧ Below w.heap.size w w' := by
  have HA := Lib.hid ha
  have HB := Lib.hid hb
  clear ha hb
  go_enter Tryz.func23, Tryz.ntmps23
  go_wp2
  go_loopw [13] (fun i wr => ∃ k : Nat, k ≤ l.length ∧ i = .int .i64 (k : Int) ∧ Below w.heap.size w wr) (fun i _ => l.length - (intOf i).toNat)
  case atStart => exact ⟨0, Nat.zero_le _, rfl, Below.refl _ _⟩
  case round =>
    obtain ⟨k, hk, rfl, hbw⟩ := hrel
    by_cases hlt : k < l.length
    · obtain ⟨ad, rfl, h1⟩ := sv_at (HA.out.after hbw) hlt
      obtain ⟨bd, rfl, h2⟩ := sv_at (HB.out.after hbw) hlt
      have hk0 : (0 : Int) ≤ (k : Int) := by omega
      have hk1 : (k : Int) < (l.length : Int) := by omega
      go_wp2
      go_quiet (fail)
      go_wp2
      go_roundw
      case rel => exact ⟨k + 1, by omega, by go_num, below_drewN hbw nq⟩
      case measure => simp [intOf]; omega
    · have hke : k = l.length := by omega
      subst hke
      go_wp2
      go_ret
      exact ⟨rfl, hbw⟩

end Go.Proofs.YtkoedonllfmaaaaGreat.Ds

/-
  The walk of the statement CodecPuts: the form of any number, byte string and list is the document's.
-/
namespace Go.Proofs.YtkoedonllfmaaaaGreat.Cr
set_option linter.unusedSimpArgs false
set_option linter.unusedVariables false
open Go Go.RowKit Ck Ca Cb Cd Ce Ch Ci Cj Co

theorem equal_same (w : World) (X Y : Nat → Prop) (va vb : Value) (n m : Nat) (l : List UInt8) (ha : Sl w X 1 va n (BVs l)) (hb : Sl w Y 1 vb m (BVs l)) :
    Calls Tryz.prog 16 #[va, vb] w fun e w' => e = .returned (.bool true) ∧ w = w' :=
  (equal_any w X Y va vb n m l l ha hb).mono fun e w' h => ⟨by rw [h.1, beq_self_eq_true], h.2⟩

end Go.Proofs.YtkoedonllfmaaaaGreat.Cr

/-
  Layer 7's laws: sameTopic and same, on topics that are the same on both sides.
-/
namespace Go.Proofs.YtkoedonllfmaaaaGreat.Xaa
set_option linter.unusedSimpArgs false
open Go Go.RowKit Ck Cd Kw Ga Kf Kx Km Pm Pe Pz Py Tm Tn Tq To Aa Ag Ah Am Bq Br Ta Xa Xr Xo Bu Xj Xk Xl Xn Xt Xy Xz Ds
attribute [local go_sem ↓] Go.wp_at_zero Go.wp_at_succ
set_option linter.unusedVariables false
set_option maxRecDepth 100000

theorem tb_eq (L : List Tp) (x : Tx) : Tb.boundsT L x = To.boundsT L x := by unfold Tb.boundsT To.boundsT; cases findT L x <;> rfl
theorem tc_eq (L : List Tp) (x : Tx) (k : Int) : Tc.getT L x k = To.getT L x k := by unfold Tc.getT To.getT; cases findT L x <;> rfl
theorem td_eq (L : List Tp) (x y : Tx) : Td.commT L x y = To.commT L x y := by
  unfold Td.commT To.commT
  cases findT L x with
  | none => rfl
  | some t =>
    simp only
    cases pos t.gs y <;> rfl

theorem eql_any (w : World) (X Y : Nat → Prop) (va vb : Value) (n m : Nat) (l : Tx) (ha : Sl w X 1 va n (BVs l)) (hb : Sl w Y 1 vb m (BVs l)) :
    Calls Tryz.prog 27 #[va, vb] w fun e w' => e = .returned (.bool true) ∧ w = w' := by
  have HE := Lib.hid (Cr.equal_same w X Y va vb n m l ha hb)
  clear ha hb
  go_enter Tryz.func27, Tryz.ntmps27
  go_wp2_with fail
  refine HE.out.mono ?_
  rintro e w1 ⟨rfl, rfl⟩
  go_wp2_with fail
  go_ret
  exact ⟨rfl, rfl⟩
/-- What is known of the topic that is asked for, there or not. -/
theorem rec_facts {s : St} (hg : GoodS s) (x : Tx) : 0 ≤ (recT s.L x).base ∧ (recT s.L x).next ≤ maxNum ∧ (recT s.L x).recs.length ≤ 64 ∧ (∀ r ∈ (recT s.L x).recs, r.length ≤ 64) ∧ (boundsT s.L x).2.1 - (boundsT s.L x).1 = ((recT s.L x).recs.length : Int) ∧ (∀ k, k < (recT s.L x).recs.length → (boundsT s.L x).1 = (recT s.L x).base ∧ getT s.L x ((recT s.L x).base + (k : Int)) = ((recT s.L x).recs.getD k [], 0)) ∧ 0 ≤ (boundsT s.L x).1 ∧ (boundsT s.L x).2.1 ≤ maxNum := by
  cases hf : findT s.L x with
  | none =>
    have hr : recT s.L x = ⟨x, 0, [], []⟩ := by rw [recT, hf]; rfl
    have hb : boundsT s.L x = (0, 0, 4) := by rw [boundsT, hf]
    rw [hr, hb]
    refine ⟨by simp, by simp [Tp.next, maxNum], by simp, by simp, by simp, fun k h => absurd h (by simp), by simp, by simp [maxNum]⟩
  | some t =>
    have ht := hg.L.fit t (findT_some hf).1
    have hr : recT s.L x = t := by rw [recT, hf]; rfl
    have hb : boundsT s.L x = (t.base, t.next, 0) := by rw [boundsT, hf]
    rw [hr, hb]
    refine ⟨ht.base, ht.next, ht.few, ht.each, by simp only [Tp.next]; omega, fun k h => ⟨rfl, ?_⟩, ht.base, ht.next⟩
    rw [getT, hf]
    simp only
    rw [if_neg (by simp only [Tp.next]; omega), show t.base + (k : Int) - t.base = (k : Int) by omega, Int.toNat_natCast]
set_option maxHeartbeats 4000000 in
theorem sameTopic_any (w : World) (S R T : Nat → Prop) (p q : Nat) (s : St) (x y : Tx) (hx : x.length ≤ 140737488355328) (hy : y.length ≤ 140737488355328) (hz : Tz w S R p s) (hk : Tk w T q s) :
    Calls Tryz.prog 22 #[.pointer (some ⟨p, 0, none⟩), .pointer (some ⟨q, 0, none⟩), .string ⟨x.toArray⟩, .string ⟨y.toArray⟩] w fun e w' => e = .returned (.bool true) ∧ Below w.heap.size w w' := by
  have HG := Lib.hid hz.good
  have HZ := Lib.hid hz
  have HK := Lib.hid hk
  have HX := Lib.hid (And.intro hx hy)
  have HRF := Lib.hid (rec_facts HG.out x)
  have HB0 := Lib.hid (bounds_any w S R p s x hx hz)
  clear hz hk hx hy
  go_enter Tryz.func22, Tryz.ntmps22
  go_wp2_with fail
  refine HB0.out.mono ?_
  rintro e w1 ⟨rfl, hb1⟩
  have HW1 := Lib.hid hb1
  have HB1 := Lib.hid (Tb.rbounds_any w1 T q s x (HK.out.later hb1) HG.out.L)
  rw [tb_eq] at HB1
  clear hb1 HB0
  go_wp2_with fail
  refine HB1.out.mono ?_
  rintro e w2 ⟨rfl, hb2⟩
  have HW2 := Lib.hid (HW1.out.trans (hb2.mono HW1.out.size))
  have HB2 := Lib.hid (comm_on w2 S R p s x y HX.out.1 HX.out.2 (HZ.out.later HW2.out))
  clear hb2 HB1
  go_wp2_with fail
  refine HB2.out.mono ?_
  rintro e w3 ⟨rfl, rfl⟩
  have HB3 := Lib.hid (Td.rcomm_any w2 T q s x y (HK.out.later HW2.out) HG.out.L)
  rw [td_eq] at HB3
  clear HB2
  go_wp2_with fail
  refine HB3.out.mono ?_
  rintro e w3 ⟨rfl, rfl⟩
  clear HB3
  have HR : Hid (Calls Tryz.prog 56 #[.pointer (some ⟨p, 0, none⟩), .string ⟨x.toArray⟩] w2 (RecsGot w2 (offs (recT s.L x).base (recT s.L x).recs))) := Lib.hid (records_of w2 _ x R (recT s.L x) (fun W hW => by
    obtain ⟨m, D, G, V, M, F, hP⟩ := HZ.out.later (HW2.out.trans (hW.mono HW2.out.size))
    exact allof_any W S R p m s D G V M F x HX.out.1 hP) (fun k hk => by have := (Tz.rlt HZ.out k hk).2; have := HW2.out.size; omega) HRF.out.1 HRF.out.2.1 HRF.out.2.2.1 HRF.out.2.2.2.1)
  have HLN : Hid ((offs (recT s.L x).base (recT s.L x).recs).length = (recT s.L x).recs.length) := Lib.hid (offs_len _ _)
  have hf64 : (offs (recT s.L x).base (recT s.L x).recs).length ≤ 64 := by rw [offs_len]; exact HRF.out.2.2.1
  have HAT : Hid (∀ k (h : k < (offs (recT s.L x).base (recT s.L x).recs).length), (offs (recT s.L x).base (recT s.L x).recs)[k].1 = (boundsT s.L x).1 + (k : Int) ∧ getT s.L x ((boundsT s.L x).1 + (k : Int)) = ((offs (recT s.L x).base (recT s.L x).recs)[k].2, 0)) := Lib.hid (fun k h => by
    have h' : k < (recT s.L x).recs.length := by rw [offs_len] at h; exact h
    have hh := HRF.out.2.2.2.2.2.1 k h'
    have hgd : (recT s.L x).recs.getD k [] = (recT s.L x).recs[k] := by rw [List.getD_eq_getElem?_getD, List.getElem?_eq_getElem h']; rfl
    rw [hgd] at hh
    rw [offs_get (recT s.L x).base (recT s.L x).recs k h', hh.1]
    exact ⟨rfl, hh.2⟩)
  have HSUB : Hid ((boundsT s.L x).2.1 - (boundsT s.L x).1 = ((offs (recT s.L x).base (recT s.L x).recs).length : Int)) := Lib.hid (by rw [offs_len]; exact HRF.out.2.2.2.2.1)
  have hlo : 0 ≤ (boundsT s.L x).1 := HRF.out.2.2.2.2.2.2.1
  have hhi : (boundsT s.L x).2.1 ≤ 9007199254740992 := HRF.out.2.2.2.2.2.2.2
  have HGT := Lib.hid (fun (W : World) (k : Int) (h : Below w.heap.size w W) => (by have := Tc.rget_any W T q s x k (HK.out.later h) HG.out.L; rw [tc_eq] at this; exact this : Calls Tryz.prog 25 #[.pointer (some ⟨q, 0, none⟩), .string ⟨x.toArray⟩, .int .i64 k] W (Tc.Gotten W T (getT s.L x k))))
  clear HRF
  generalize offs (recT s.L x).base (recT s.L x).recs = bs at *
  generalize (boundsT s.L x).1 = lo at *
  generalize (boundsT s.L x).2.1 = hi at *
  generalize (boundsT s.L x).2.2 = be at *
  generalize commT s.L x y = cm at *
  have z1 : IntKind.i64.wrap (hi - lo) = (bs.length : Int) := by rw [HSUB.out]; exact Ga.wrap64 (by omega) (by omega)
  have hlo2 : lo ≤ 9007199254740992 := by have := HSUB.out; omega
  go_wp2_with fail
  refine HR.out.mono ?_
  rintro e w4 ⟨A1, c1, A2, c2, vals, rfl, ho1, ho2, hel, hb4⟩
  have HW4 := Lib.hid (HW2.out.trans (hb4.mono HW2.out.size))
  have HO := Lib.hid (And.intro ho1 (And.intro ho2 hel))
  clear ho1 ho2 hel hb4 HR
  go_wp2_with fail
  go_loopw [97] (fun i W => ∃ k : Nat, k ≤ bs.length ∧ i = .int .i64 k ∧ Below w4.heap.size w4 W) (fun i _ => bs.length - (intOf i).toNat)
  case atStart => exact ⟨0, Nat.zero_le _, rfl, Below.refl _ _⟩
  case round =>
    obtain ⟨k, hk, rfl, hB⟩ := hrel
    have HB := Lib.hid hB
    clear hB
    by_cases hlt : k < bs.length
    · have hkn : (k : Int) < (bs.length : Int) := by omega
      obtain ⟨ad1, e1, hc1⟩ : ∃ ad, A1 = some ad ∧ wr.cell? (ad.add k) = some (.int .i64 bs[k].1) := by
        obtain ⟨A0, c0, hv, _, _, _, hx⟩ := (Sl.of_own (X := fun _ => False) HO.out.1 (fun _ _ _ h => h)).after HB.out
        obtain ⟨ad, e, _, _, hc⟩ := hx (by omega)
        exact ⟨ad, by rw [(Value.slice.inj hv).1, e], hc k _ (by simp [hlt, Xl.OV])⟩
      obtain ⟨u, hu, hou⟩ := HO.out.2.2 k hlt
      obtain ⟨ad2, e2, hc2⟩ : ∃ ad, A2 = some ad ∧ wr.cell? (ad.add k) = some u := by
        obtain ⟨A0, c0, hv, _, _, _, hx⟩ := (Sl.of_own (X := fun _ => False) HO.out.2.1 (fun _ _ _ h => h)).after HB.out
        obtain ⟨ad, e, _, _, hc⟩ := hx (by omega)
        exact ⟨ad, by rw [(Value.slice.inj hv).1, e], hc k _ hu⟩
      subst e1 e2
      have hA := HAT.out k hlt
      rw [hA.1] at hc1
      have HGE := Lib.hid hA.2
      have z2 : IntKind.i64.wrap (lo + (k : Int)) = lo + (k : Int) := Ga.wrap64 (by omega) (by omega)
      have HOU := Lib.hid hou
      have HG2 := Lib.hid (HGT.out wr (lo + (k : Int)) (HW4.out.trans (HB.out.mono HW4.out.size)))
      rw [HGE.out] at HG2
      have HC2 := Lib.hid hc2
      clear hA hu hou
      go_wp2_with fail
      refine HG2.out.mono ?_
      rintro e w5 ⟨v5, rfl, hs5, hb5⟩
      have HB5 := Lib.hid (HB.out.trans (hb5.mono HB.out.size))
      have hc5 : w5.cell? (ad2.add k) = some u := by rw [hb5.cell (World.block_lt_of_cell? _ _ HC2.out)]; exact HC2.out
      have HEQ := Lib.hid (eql_any w5 (fun _ => False) _ u v5 _ _ _ ((Sl.of_own (X := fun _ => False) HOU.out (fun _ _ _ h => h)).after HB5.out) hs5)
      clear hs5 hb5 hc1 hc2
      go_wp2_with fail
      refine HEQ.out.mono ?_
      rintro e w6 ⟨rfl, rfl⟩
      go_wp2_with fail
      go_roundw
      case rel => exact ⟨k + 1, by omega, by go_num, HB5.out⟩
      case measure => simp [intOf]; omega
    · have hke : k = bs.length := by omega
      subst hke
      go_wp2_with fail
      go_ret
      exact ⟨rfl, HW4.out.trans (HB.out.mono HW4.out.size)⟩
end Go.Proofs.YtkoedonllfmaaaaGreat.Xaa
