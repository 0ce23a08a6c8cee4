/-
  Plain mathematics of layer 3 (disk): lists of files, what each call makes of them and answers.
-/
import Derived.Test.YtncppflmpfefkaaCm
namespace Go.Proofs.Ytncppflmpfefkaa.Dm

abbrev Tx := List UInt8
/-- A file: its name, its bytes, how many of them are sure. -/
structure Fl where
  n : Tx
  b : Tx
  d : Nat

/-- The file of a name. -/
def find (L : List Fl) (s : Tx) : Option Fl := L.find? (fun f => f.n == s)
def isIn (L : List Fl) (s : Tx) : Bool := L.any (fun f => f.n == s)
/-- The file of that name, put otherwise. -/
def upd (L : List Fl) (s : Tx) (g : Fl → Fl) : List Fl := L.map (fun f => if f.n = s then g f else f)
def del (L : List Fl) (s : Tx) : List Fl := L.filter (fun f => !(f.n == s))
/-- A file more, where its name stands. -/
def ins (x : Fl) : List Fl → List Fl
  | [] => [x]
  | f :: L => if f.n < x.n then f :: ins x L else x :: f :: L
def used : List Fl → Nat
  | [] => 0
  | f :: L => f.b.length + used L
/-- What a crash leaves of a file. -/
def tear (k : Nat) (f : Fl) : Fl := { n := f.n, b := f.b.take (f.d + k % (f.b.length - f.d + 1)), d := f.d + k % (f.b.length - f.d + 1) }
def size (z : Int) : Nat := if z = -9223372036854775808 then 0 else z.natAbs

theorem find_some {L : List Fl} {s : Tx} {f : Fl} (h : find L s = some f) : f ∈ L ∧ f.n = s := by
  unfold find at h
  exact ⟨List.mem_of_find?_eq_some h, by simpa using List.find?_some h⟩
theorem find_none {L : List Fl} {s : Tx} (h : find L s = none) : ∀ f ∈ L, f.n ≠ s := by
  intro f hf e
  unfold find at h
  rw [List.find?_eq_none] at h
  exact h f hf (by simpa using e)
theorem isIn_iff {L : List Fl} {s : Tx} : isIn L s = true ↔ ∃ f ∈ L, f.n = s := by
  simp [isIn]
theorem isIn_find {L : List Fl} {s : Tx} : isIn L s = (find L s).isSome := by
  cases h : find L s with
  | none =>
    simp only [Option.isSome_none]
    cases hi : isIn L s with
    | false => rfl
    | true =>
      obtain ⟨f, hf, e⟩ := isIn_iff.1 hi
      exact absurd e (find_none h f hf)
  | some f =>
    simp only [Option.isSome_some]
    exact isIn_iff.2 ⟨f, (find_some h).1, (find_some h).2⟩
theorem size_lt (z : Int) (h : -9223372036854775808 ≤ z) (h' : z ≤ 9223372036854775807) : size z ≤ 9223372036854775807 := by
  unfold size
  split <;> omega
theorem used_map {L : List Fl} {g : Fl → Fl} (h : ∀ f ∈ L, (g f).b.length ≤ f.b.length) : used (L.map g) ≤ used L := by
  induction L with
  | nil => exact Nat.le_refl _
  | cons f L ih =>
    simp only [List.map_cons, used]
    have := h f (by simp)
    have := ih (fun x hx => h x (by simp [hx]))
    omega
theorem used_mem {L : List Fl} {f : Fl} (h : f ∈ L) : f.b.length ≤ used L := by
  induction L with
  | nil => cases h
  | cons g L ih =>
    simp only [used]
    rcases List.mem_cons.1 h with rfl | h
    · omega
    · have := ih h
      omega
theorem tear_d {k : Nat} {f : Fl} (h : f.d ≤ f.b.length) : (tear k f).d = (tear k f).b.length ∧ (tear k f).b.length ≤ f.b.length := by
  have hm := Nat.mod_lt k (show 0 < f.b.length - f.d + 1 by omega)
  unfold tear
  simp only [List.length_take]
  omega

/-- No two files have one name, and each name is one that may be. -/
structure GoodL (L : List Fl) (room : Nat) : Prop where
  nodup : (L.map (·.n)).Nodup
  few : L.length ≤ 64
  fits : used L ≤ room
  room : room ≤ 4194304
  name : ∀ f ∈ L, f.n.length ≤ 140737488355328
  done : ∀ f ∈ L, f.d ≤ f.b.length
theorem GoodL.len {L : List Fl} {room : Nat} (h : GoodL L room) {f : Fl} (hf : f ∈ L) : f.b.length ≤ 4194304 := by
  have := used_mem hf
  have := h.fits
  have := h.room
  omega
theorem nodup_eq {L : List Fl} (h : (L.map (·.n)).Nodup) {f g : Fl} (hf : f ∈ L) (hg : g ∈ L) (e : f.n = g.n) : f = g := by
  induction L with
  | nil => cases hf
  | cons x L ih =>
    rw [List.map_cons, List.nodup_cons] at h
    rcases List.mem_cons.1 hf with h1 | h1
    · rcases List.mem_cons.1 hg with h2 | h2
      · rw [h1, h2]
      · exact absurd (List.mem_map.2 ⟨g, h2, by rw [← e, h1]⟩) h.1
    · rcases List.mem_cons.1 hg with h2 | h2
      · exact absurd (List.mem_map.2 ⟨f, h1, by rw [e, h2]⟩) h.1
      · exact ih h.2 h1 h2
theorem find_of {L : List Fl} {f : Fl} (h : (L.map (·.n)).Nodup) (hf : f ∈ L) : find L f.n = some f := by
  cases e : find L f.n with
  | none => exact absurd rfl (find_none e f hf)
  | some g => exact congrArg some (nodup_eq h (find_some e).1 hf (find_some e).2)
theorem map_names {L : List Fl} {g : Fl → Fl} (h : ∀ f, (g f).n = f.n) : (L.map g).map (·.n) = L.map (·.n) := by
  rw [List.map_map]
  exact List.map_congr_left (fun f _ => h f)
theorem upd_names {L : List Fl} {s : Tx} {g : Fl → Fl} (h : ∀ f, (g f).n = f.n) : (upd L s g).map (·.n) = L.map (·.n) := by
  unfold upd
  refine map_names (fun f => ?_)
  split
  · exact h f
  · rfl

end Go.Proofs.Ytncppflmpfefkaa.Dm
