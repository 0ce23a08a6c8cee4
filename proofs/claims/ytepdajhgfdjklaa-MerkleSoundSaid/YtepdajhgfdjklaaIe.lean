/-
  Contracts of the program's table: Plain, From.
-/
import Derived.Test.YtepdajhgfdjklaaIg
namespace Go.Proofs.Ytepdajhgfdjklaa.Ie
open Go Go.RowKit Ck Im Ik Ia Ib Ic Ig

theorem out_grown {w w' : World} {base b n size : Nat} {e : TypeId} {u v : Value} {l : Tx} {xs : List Value} (h : Out w base u l) (hr : w.ownsRow b e size v n xs) (he : e ≠ 5) (hg : w.grownBy w' v.ownBlock) : Out w' base u l := by
  obtain ⟨g, cap, cs, z, rfl, hb, hc, r⟩ := h
  refine ⟨g, cap, cs, z, rfl, hb, (hg.block g (Array.getElem?_eq_some_iff.1 hc).1 ?_).trans hc, r⟩
  rcases hr.2 with ⟨rfl, _⟩ | ⟨g', cap', cur, rfl, _, hr, _⟩
  · simp [Value.ownBlock]
  · intro h2
    have h2 : g = g' := by simpa [Value.ownBlock] using h2
    subst h2
    rw [hc] at hr
    injection hr with hr
    injection hr with _ h3
    exact he h3.symm

/-- v is a new list of new bytes. -/
def Pl (w : World) (base : Nat) (v : Value) (L : List Tx) : Prop :=
  ∃ vals, w.ownsRow base 41 1 v L.length vals ∧ ∀ i (h : i < L.length), ∃ u, vals[i]? = some u ∧ Out w base u L[i]
theorem Pl.ls {w : World} {base : Nat} {v : Value} {L : List Tx} {X : Nat → Prop} (h : Pl w base v L) (hX : ∀ k, base ≤ k → k < w.heap.size → ¬ X k) : Ls w X v L := by
  obtain ⟨vals, ho, hx⟩ := h
  exact ⟨vals, Sl.of_own ho hX, fun i hi => by obtain ⟨u, hu, hout⟩ := hx i hi; exact ⟨u, hu, hout.sl hX⟩⟩

/-- What was made of the first k texts. -/
def Pk (w : World) (base : Nat) (v : Value) (L : List Tx) (k : Nat) : Prop :=
  ∃ vals, w.ownsRow base 41 1 v k vals ∧ ∀ i (h : i < L.length), i < k → ∃ u, vals[i]? = some u ∧ Out w base u L[i]
theorem conv_law (l : Tx) (W : World) : (convert 9 41 (.string ⟨l.toArray⟩)).run Try.prog W = .ok (.slice (some ⟨W.heap.size, 0, none⟩) l.length (grownCap W l.length 0 5)) (Lib.bytesWorld W 5 ⟨l.toArray⟩) := by
  have := Lib.run_convert_string_bytes (P := Try.prog) W 9 41 5 ⟨l.toArray⟩ Try.underlying9 Try.underlying41 Try.underlying5
  have hs : (⟨l.toArray⟩ : ByteArray).size = l.length := by show l.toArray.size = _; simp
  rw [hs] at this
  exact this
theorem conv_below (wr : World) (e : TypeId) (s : ByteArray) (o : Obj) : Below wr.heap.size wr ((Lib.bytesWorld wr e s).alloc o) := (bytesWorld_below wr e s).alloc (bytesWorld_below wr e s).size o
theorem conv_size {w wr : World} (h : Below w.heap.size w wr) (e : TypeId) (s : ByteArray) (o : Obj) : w.heap.size ≤ ((Lib.bytesWorld wr e s).alloc o).heap.size := Nat.le_trans h.size (conv_below wr e s o).size
theorem one_slice (A : Option Addr) (n c : Nat) : ∀ u ∈ [Value.slice A n c], u.oneCell' = true := by
  intro u hu
  simp only [List.mem_cons, List.not_mem_nil, or_false] at hu
  subst hu; rfl
theorem pk_snoc {w wr w1 : World} {v v1 : Value} {L : List Tx} {k : Nat} {vals : List Value} (hk : k < L.length) (hl : L[k].length ≤ 140737488355328) (h : ∀ i (h : i < L.length), i < k → ∃ u, vals[i]? = some u ∧ Out wr w.heap.size u L[i]) (hb : Below w.heap.size w wr)
    (hown : wr.ownsRow w.heap.size 41 1 v k vals) (t : TypeId)
    (happ : Appended ((Lib.bytesWorld wr 5 ⟨L[k].toArray⟩).alloc (.cells #[.slice (some ⟨wr.heap.size, 0, none⟩) L[k].length (grownCap wr L[k].length 0 5)] t)) w.heap.size 41 1 v (k + 1) (vals ++ [.slice (some ⟨wr.heap.size, 0, none⟩) L[k].length (grownCap wr L[k].length 0 5)]) v1 w1) :
    Pk w1 w.heap.size v1 L (k + 1) ∧ Below w.heap.size w w1 := by
  have b1 := bytesWorld_below wr 5 ⟨L[k].toArray⟩
  have o1 := bytesWorld_out wr L[k] hl
  have hb1 : Below wr.heap.size wr ((Lib.bytesWorld wr 5 ⟨L[k].toArray⟩).alloc (.cells #[.slice (some ⟨wr.heap.size, 0, none⟩) L[k].length (grownCap wr L[k].length 0 5)] t)) := b1.alloc b1.size _
  have hown1 := own_below hown hb1
  refine ⟨⟨_, happ.1, fun i hi hik => ?_⟩, (hb.trans (hb1.mono hb.size)).grown happ.2.1 (Nat.le_trans hb.size hb1.size) (fun g hg => (hown.lt g hg).1)⟩
  have hvl : vals.length = k := by have := hown.1; omega
  by_cases he : i = k
  · subst he
    refine ⟨_, by rw [List.getElem?_append_right (by omega), hvl, Nat.sub_self]; rfl, ?_⟩
    exact out_grown ((o1.ch (Ch.of_below (S := fun _ => False) ((Below.refl _ _).alloc (Nat.le_refl _) _) (Nat.le_refl _)) (fun _ _ _ h => h)).base hb.size) hown1 (by decide) happ.2.1
  · obtain ⟨u, hu, hout⟩ := h i hi (by omega)
    refine ⟨u, by rw [List.getElem?_append_left (by omega)]; exact hu, ?_⟩
    exact out_grown (hout.ch (Ch.of_below (S := fun _ => False) hb1 (Nat.le_refl _)) (fun _ _ _ h => h)) hown1 (by decide) happ.2.1

end Go.Proofs.Ytepdajhgfdjklaa.Ie
