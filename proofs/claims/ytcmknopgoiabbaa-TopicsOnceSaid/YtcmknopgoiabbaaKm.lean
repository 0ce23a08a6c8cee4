/-
  Generic: maps by strings: of pointers (each reads as its block's number), of numbers.
-/
import Derived.Test.YtcmknopgoiabbaaKw
import Derived.Maps.RangeWalk
import Derived.Sort.KeysCollected
namespace Go.Proofs.Ytcmknopgoiabbaa.Km
set_option linter.unusedSimpArgs false
open Go Go.RowKit Go.Maps Ck Kw
set_option linter.unusedVariables false

/-- How a slice reads: its place, its length and its capacity. -/
def slElem (v : Value) : Option (DataW Unit × List MemPlace) :=
  match v with
  | .slice none n c => some (.agg [.nil, .lit (.int .i64 (n : Int)), .lit (.int .i64 (c : Int))], [])
  | .slice (some ⟨g, 0, none⟩) n c => some (.agg [.lit (.int .i64 (g : Int)), .lit (.int .i64 (n : Int)), .lit (.int .i64 (c : Int))], [])
  | _ => none
theorem slElem_inj {v v' : Value} {z : DataW Unit} {ps ps' : List MemPlace} (h : slElem v = some (z, ps)) (h' : slElem v' = some (z, ps')) : v = v' := by
  unfold slElem at h h'
  split at h <;> split at h' <;> simp at h h'
  · obtain ⟨h1, -⟩ := h
    obtain ⟨h2, -⟩ := h'
    rw [← h1] at h2
    simp at h2
    simp only [Value.slice.injEq, true_and]
    omega
  · obtain ⟨h1, -⟩ := h
    obtain ⟨h2, -⟩ := h'
    rw [← h1] at h2
    simp at h2
  · obtain ⟨h1, -⟩ := h
    obtain ⟨h2, -⟩ := h'
    rw [← h1] at h2
    simp at h2
  · obtain ⟨h1, -⟩ := h
    obtain ⟨h2, -⟩ := h'
    rw [← h1] at h2
    simp at h2
    simp only [Value.slice.injEq, Option.some.injEq, Addr.mk.injEq, and_true]
    omega
theorem slElem_row {w : World} {base : Nat} {e : TypeId} {size n : Nat} {v : Value} {xs : List Value} (h : w.ownsRow base e size v n xs) : ∃ z, slElem v = some (z, []) := by
  rcases h.2 with ⟨rfl, _⟩ | ⟨g, cap, cur, rfl, _⟩
  · exact ⟨_, rfl⟩
  · exact ⟨_, rfl⟩


theorem strKey (x : List UInt8) : WideAt.IsKeyLit (.string x) := trivial
theorem strKey_ne {s t : List UInt8} (h : s ≠ t) : (Lit.string s) ≠ Lit.string t := fun e => h (by injection e)
/-- How a pointer to a block reads: that block's number. -/
def ptrElem (v : Value) : Option (DataW Unit × List MemPlace) :=
  match v with
  | .pointer none => some (.nil, [])
  | .pointer (some ⟨g, 0, none⟩) => some (.lit (.int .i64 (g : Int)), [])
  | _ => none
theorem ptrElem_mk (g : Nat) : ptrElem (.pointer (some ⟨g, 0, none⟩)) = some (.lit (.int .i64 (g : Int)), []) := rfl
theorem ptrElem_nil : ptrElem (.pointer none) = some (.nil, []) := rfl
/-- Any pointer that reads. -/
def PV (o : Option Nat) : Value := .pointer (o.map fun g => ⟨g, 0, none⟩)
theorem ptrElem_inv {v : Value} {z : DataW Unit × List MemPlace} (h : ptrElem v = some z) : ∃ o, v = PV o ∧ z = ((match o with | none => .nil | some g => .lit (.int .i64 ((g : Nat) : Int))), []) := by
  unfold ptrElem at h
  split at h
  · injection h with h
    exact ⟨none, rfl, h.symm⟩
  · rename_i g
    injection h with h
    exact ⟨some g, rfl, h.symm⟩
  · cases h
theorem ptrElem_at {v : Value} {g : Nat} {ps : List MemPlace} (h : ptrElem v = some (.lit (.int .i64 (g : Int)), ps)) : v = .pointer (some ⟨g, 0, none⟩) := by
  obtain ⟨o, rfl, hz⟩ := ptrElem_inv h
  have h1 := congrArg Prod.fst hz
  cases o with
  | none => simp at h1
  | some k =>
    simp at h1
    have : k = g := by omega
    subst this
    rfl
/-- How a number reads. -/
def inElem (v : Value) : Option (DataW Unit × List MemPlace) :=
  match v with
  | .int .i64 z => some (.lit (.int .i64 z), [])
  | _ => none
theorem inElem_mk (z : Int) : inElem (.int .i64 z) = some (.lit (.int .i64 z), []) := rfl
theorem inElem_at {v : Value} {z : Int} {ps : List MemPlace} (h : inElem v = some (.lit (.int .i64 z), ps)) : v = .int .i64 z := by
  unfold inElem at h
  split at h <;> simp at h
  rw [h.1]
theorem inElem_inv {v : Value} {z : DataW Unit × List MemPlace} (h : inElem v = some z) : ∃ k : Int, v = .int .i64 k ∧ z = (.lit (.int .i64 k), []) := by
  unfold inElem at h
  split at h
  · rename_i k
    injection h with h
    exact ⟨k, rfl, h.symm⟩
  · cases h

theorem law_str : Maps.Keyed Try.prog 9 := Maps.string_keyed Try.underlying9
theorem key_str (s : List UInt8) (h : s.length ≤ maxLen) : keyOf Try.prog 9 (.string ⟨s.toArray⟩) = some (.string s) := by
  have := _root_.Go.WideMaps.keyOf_string_mk (P := Try.prog) Try.underlying9 (s := ⟨s.toArray⟩) (show s.toArray.size ≤ maxLen by simpa using h)
  simpa using this
theorem has_atKey {H : Type} {D : DataW H} {kl : Lit} (h : Maps.has D kl = false) (zd : DataW H) : D.atKey kl zd = zd := by
  cases D <;> first | rfl | skip
  rename_i es
  simp only [Maps.has] at h
  simp only [DataW.atKey]
  cases hf : es.find? (fun e => e.1.sameKey kl) with
  | none => simp
  | some x =>
    have h1 := List.find?_some hf
    have h2 := List.mem_of_find?_eq_some hf
    rw [List.any_eq_false] at h
    exact absurd h1 (h x h2)
theorem sameKey_str (a b : List UInt8) : (Lit.string a).sameKey (.string b) = (a == b) := by simp [Lit.sameKey]
theorem pv_at {c : Option Nat} {y : DataW Unit × List MemPlace} {g : Nat} (h : ptrElem (PV c) = some y) (hy : y.1 = .lit (.int .i64 (g : Int))) : c = some g := by
  cases c with
  | none =>
    have h' : ptrElem (.pointer none) = some y := h
    rw [ptrElem_nil] at h'
    injection h' with h'
    rw [← h'] at hy
    cases hy
  | some k =>
    have h' : ptrElem (.pointer (some ⟨k, 0, none⟩)) = some y := h
    rw [ptrElem_mk] at h'
    injection h' with h'
    rw [← h'] at hy
    simp at hy
    have : k = g := by omega
    rw [this]

section
variable {w : World} {m n : Nat} {D : DataW Unit} {R : Value → Option (DataW Unit × List MemPlace)}
/-- The keys of a map of which the names are told. -/
theorem names_perm (h : w.ownsMap Try.prog 9 R m n D) {ns : List (List UInt8)} (hn : ns.Nodup) (hT : ∀ s, Maps.has D (.string s) = true ↔ s ∈ ns) : ns.Perm (strKeys D) := by
  obtain ⟨es, hD, hpw, _⟩ := h.entries law_str
  obtain ⟨es', hD', hko⟩ := h.keysOf
  obtain rfl : es = es' := by rw [hD] at hD'; simpa using hD'
  subst hD
  refine perm_strKeys hpw (fun p hp => by obtain ⟨v, hv⟩ := hko p hp; obtain ⟨x, _, hx, _⟩ := Maps.keyOf_str Try.underlying9 hv; exact ⟨x, hx⟩) hn (fun x => (hT x).symm)
theorem size_names (h : w.ownsMap Try.prog 9 R m n D) {ns : List (List UInt8)} (hn : ns.Nodup) (hT : ∀ s, Maps.has D (.string s) = true ↔ s ∈ ns) : Maps.size D = ns.length := by
  have hp := (names_perm h hn hT).length_eq
  obtain ⟨es, rfl, _⟩ := h.entries law_str
  rw [hp]
  show es.length = (es.map _).length
  rw [List.length_map]
theorem own_tight (h : w.ownsMap Try.prog 9 R m n D) : w.ownsMap Try.prog 9 R m (Maps.size D) D := by
  obtain ⟨es, clock, hb, F, hs, rfl⟩ := h
  exact ⟨es, clock, hb, F, by simp [Maps.size, length_sorted], rfl⟩
end
/-- A key more. -/
theorem has_put {D : DataW Unit} (hD : Maps.IsMap D) (t s : List UInt8) (d : DataW Unit) : Maps.has (D.put (.string t) d) (.string s) = (t == s || Maps.has D (.string s)) := by
  by_cases e : s = t
  · subst e
    rw [Maps.has_put_same hD (strKey s)]
    simp
  · rw [Maps.has_put_other (strKey_ne e)]
    have : (t == s) = false := by rw [beq_eq_false_iff_ne]; exact fun h => e h.symm
    rw [this, Bool.false_or]
theorem at_put_same {D : DataW Unit} (hD : Maps.IsMap D) (s : List UInt8) (d zd : DataW Unit) : (D.put (.string s) d).atKey (.string s) zd = d := Maps.atKey_put_same hD (strKey s) d zd
theorem at_put_other {D : DataW Unit} {s t : List UInt8} (h : s ≠ t) (d zd : DataW Unit) : (D.put (.string t) d).atKey (.string s) zd = D.atKey (.string s) zd := Maps.atKey_put_other (strKey_ne h) d zd
end Go.Proofs.Ytcmknopgoiabbaa.Km
