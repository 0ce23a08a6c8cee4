/-
  Words for memory, for layer 3 (disk): a file, the program's disk.
-/
import Derived.Test.YtncppflmpfefkaaKw
import Derived.Test.YtncppflmpfefkaaDm
import Derived.Test.YtncppflmpfefkaaRows
import Derived.Maps.OwnSet
import Derived.Maps.RangeWalk
namespace Go.Proofs.Ytncppflmpfefkaa.Dw
open Go Go.RowKit Ck Kw Dm

/-- How a pointer to a block reads: that block's number. -/
def ptrElem (v : Value) : Option (DataW Unit × List MemPlace) :=
  match v with
  | .pointer none => some (.nil, [])
  | .pointer (some ⟨g, 0, none⟩) => some (.lit (.int .i64 (g : Int)), [])
  | _ => none
theorem ptrElem_mk (g : Nat) : ptrElem (.pointer (some ⟨g, 0, none⟩)) = some (.lit (.int .i64 (g : Int)), []) := rfl
theorem ptrElem_nil : ptrElem (.pointer none) = some (.nil, []) := rfl
/-- Any pointer that reads. -/
def PV (o : Option Nat) : Value := .pointer (o.map fun g => ⟨g, 0, none⟩)
theorem ptrElem_inv {v : Value} {z : DataW Unit × List MemPlace} (h : ptrElem v = some z) : ∃ o, v = PV o ∧ z = ((match o with | none => .nil | some g => .lit (.int .i64 ((g : Nat) : Int))), []) := by
  unfold ptrElem at h
  split at h
  · injection h with h
    exact ⟨none, rfl, h.symm⟩
  · rename_i g
    injection h with h
    exact ⟨some g, rfl, h.symm⟩
  · cases h
theorem ptrElem_at {v : Value} {g : Nat} {ps : List MemPlace} (h : ptrElem v = some (.lit (.int .i64 (g : Int)), ps)) : v = .pointer (some ⟨g, 0, none⟩) := by
  obtain ⟨o, rfl, hz⟩ := ptrElem_inv h
  have h1 := congrArg Prod.fst hz
  cases o with
  | none => simp at h1
  | some k =>
    simp at h1
    have : k = g := by omega
    subst this
    rfl

/-- Block g is a file of these bytes, so many of them sure; all its blocks are in T. -/
def Fw (w : World) (T : Nat → Prop) (g : Nat) (b : Tx) (d : Nat) : Prop :=
  ∃ v, Blk w g 73 #[v, .int .i64 (d : Int)] ∧ w.ownsRow 0 5 1 v b.length (BVs b) ∧ T g ∧ (∀ k, v.ownBlock = some k → T k) ∧ b.length ≤ 4194304 ∧ d ≤ b.length
section
variable {w w' : World} {S T : Nat → Prop} {g d : Nat} {b : Tx}
theorem Fw.ch (h : Fw w T g b d) (c : Ch S w w') (hd : ∀ k, T k → S k → False) : Fw w' T g b d := by
  obtain ⟨v, h1, h2, h3, h4, h5, h6⟩ := h
  exact ⟨v, h1.ch c (fun hs => hd _ h3 hs), own_ch h2 c (fun k hk hs => hd _ (h4 k hk) hs), h3, h4, h5, h6⟩
theorem Fw.weaken (h : Fw w S g b d) (hd : ∀ k, S k → T k) : Fw w T g b d := by
  obtain ⟨v, h1, h2, h3, h4, h5, h6⟩ := h
  exact ⟨v, h1, h2, hd _ h3, fun k hk => hd _ (h4 k hk), h5, h6⟩
theorem Fw.drewN (h : Fw w T g b d) (n : Nat) : Fw (w.drewN n) T g b d := h
theorem Fw.lt (h : Fw w T g b d) : g < w.heap.size := by
  obtain ⟨v, h1, -⟩ := h
  exact h1.lt
end

/-- The map's datum tells where each file lies. -/
def TellsD (D : DataW Unit) (L : List Fl) (G : Tx → Nat) : Prop :=
  (∀ s : Tx, Maps.has D (.string s) = isIn L s) ∧ ∀ f ∈ L, ∀ zd, D.atKey (.string f.n) zd = .lit (.int .i64 (G f.n : Int))

/-- The files of L lie in blocks of S, each in blocks of its own; the map's block is m. -/
def Files (w : World) (S : Nat → Prop) (m : Nat) (L : List Fl) : Prop :=
  ∃ (D : DataW Unit) (G : Tx → Nat) (T : Tx → Nat → Prop), w.ownsMap Try.prog 9 ptrElem m 64 D ∧ TellsD D L G ∧ S m ∧ (∀ f ∈ L, Fw w (T f.n) (G f.n) f.b f.d) ∧ (∀ f ∈ L, ∀ k, T f.n k → S k ∧ k ≠ m ∧ k < w.heap.size) ∧ ∀ f ∈ L, ∀ h ∈ L, f.n ≠ h.n → ∀ k, T f.n k → T h.n k → False
/-- Block p is a disk of these files; all its blocks are in S. -/
def Dk (w : World) (S : Nat → Prop) (p : Nat) (L : List Fl) (room : Nat) (off : Bool) : Prop :=
  ∃ m, Blk w p 62 #[.map (some m), .int .i64 (room : Int), .bool off] ∧ S p ∧ Files w (fun k => S k ∧ k ≠ p) m L ∧ GoodL L room
section
variable {w w' : World} {S T : Nat → Prop} {p m room : Nat} {L : List Fl} {off : Bool}
theorem Files.ch (h : Files w S m L) (c : Ch T w w') (hd : ∀ k, S k → T k → False) : Files w' S m L := by
  obtain ⟨D, G, F, h1, h2, h3, h4, h5, h6⟩ := h
  exact ⟨D, G, F, map_ch h1 c (fun ht => hd _ h3 ht), h2, h3, fun f hf => (h4 f hf).ch c (fun k hk ht => hd _ (h5 f hf k hk).1 ht), fun f hf k hk => ⟨(h5 f hf k hk).1, (h5 f hf k hk).2.1, Nat.lt_of_lt_of_le (h5 f hf k hk).2.2 c.size⟩, h6⟩
theorem Files.weaken (h : Files w S m L) (hd : ∀ k, S k → T k) : Files w T m L := by
  obtain ⟨D, G, F, h1, h2, h3, h4, h5, h6⟩ := h
  exact ⟨D, G, F, h1, h2, hd _ h3, h4, fun f hf k hk => ⟨hd _ (h5 f hf k hk).1, (h5 f hf k hk).2⟩, h6⟩
theorem Dk.ch (h : Dk w S p L room off) (c : Ch T w w') (hd : ∀ k, S k → T k → False) : Dk w' S p L room off := by
  obtain ⟨m, h1, h2, h3, h4⟩ := h
  exact ⟨m, h1.ch c (fun ht => hd _ h2 ht), h2, h3.ch c (fun k hk ht => hd _ hk.1 ht), h4⟩
theorem Dk.weaken (h : Dk w S p L room off) (hd : ∀ k, S k → T k) : Dk w T p L room off := by
  obtain ⟨m, h1, h2, h3, h4⟩ := h
  exact ⟨m, h1, hd _ h2, h3.weaken (fun k hk => ⟨hd _ hk.1, hk.2⟩), h4⟩
theorem Dk.drewN (h : Dk w S p L room off) (n : Nat) : Dk (w.drewN n) S p L room off := h
theorem Dk.good (h : Dk w S p L room off) : GoodL L room := by
  obtain ⟨m, -, -, -, h4⟩ := h
  exact h4
theorem Dk.later (h : Dk w S p L room off) (b : Below w.heap.size w w') : Dk w' S p L room off :=
  h.ch (Ch.of_below (S := fun _ => False) b (Nat.le_refl _)) (fun _ _ h => h)
end

theorem law_str : Maps.Keyed Try.prog 9 := Maps.string_keyed Try.underlying9
theorem zero_ptr (w : World) : (zeroValue 69).run Try.prog w = .ok (.pointer none) w := by kernel_rfl
theorem key_str (s : Tx) (h : s.length ≤ maxLen) : keyOf Try.prog 9 (.string ⟨s.toArray⟩) = some (.string s) := by
  have := _root_.Go.WideMaps.keyOf_string_mk (P := Try.prog) Try.underlying9 (s := ⟨s.toArray⟩) (show s.toArray.size ≤ maxLen by simpa using h)
  simpa using this
theorem has_atKey {H : Type} {D : DataW H} {kl : Lit} (h : Maps.has D kl = false) (zd : DataW H) : D.atKey kl zd = zd := by
  cases D <;> first | rfl | skip
  rename_i es
  simp only [Maps.has] at h
  simp only [DataW.atKey]
  cases hf : es.find? (fun e => e.1.sameKey kl) with
  | none => simp
  | some x =>
    have h1 := List.find?_some hf
    have h2 := List.mem_of_find?_eq_some hf
    rw [List.any_eq_false] at h
    exact absurd h1 (h x h2)

end Go.Proofs.Ytncppflmpfefkaa.Dw
