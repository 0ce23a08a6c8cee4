/-
  Bytes made out of a text, for any layer.
-/
import Derived.Test.YtebjjkhiniccgaaGreatGa
import Derived.RegionTactic
import Derived.Lib.ConvBytes
namespace Go.Proofs.YtebjjkhiniccgaaGreat.Kx
set_option linter.unusedSimpArgs false
set_option linter.unusedVariables false
open Go Go.RowKit Ck Kw Ga
/-- v is new bytes, made out of a text. -/
def Out (w : World) (base : Nat) (v : Value) (l : List UInt8) : Prop :=
  ∃ (g cap : Nat) (cs : Array Value) (z : Nat), v = .slice (some ⟨g, 0, none⟩) l.length cap ∧ base ≤ g ∧ w.heap[g]? = some (.cells cs 5 (z, z + 1)) ∧ l.length ≤ z ∧ l.length ≤ cap ∧ cap ≤ maxLen ∧ ∀ (j : Nat) (u : Value), (BVs l)[j]? = some u → cs[j]? = some u
theorem Out.sl {w : World} {base : Nat} {v : Value} {l : List UInt8} {X : Nat → Prop} (h : Out w base v l) (hX : ∀ k, base ≤ k → k < w.heap.size → ¬ X k) : Sl w X 1 v l.length (BVs l) := by
  obtain ⟨g, cap, cs, z, rfl, hb, hg, hz, hc, hm, hx⟩ := h
  have hlt := (Array.getElem?_eq_some_iff.1 hg).1
  refine ⟨_, _, rfl, by simp [BVs_len], hc, hm, fun _ => ⟨_, rfl, hlt, hX g hb hlt, fun j u hu => ?_⟩⟩
  have ha : (⟨g, 0, none⟩ : Addr).add j = ⟨g, j, none⟩ := by unfold Addr.add; split <;> simp_all
  rw [ha]
  simp only [World.cell?, hg]
  exact hx j u hu
theorem Out.ch {w w' : World} {base : Nat} {v : Value} {l : List UInt8} {S : Nat → Prop} (h : Out w base v l) (c : Ch S w w') (hS : ∀ k, base ≤ k → k < w.heap.size → ¬ S k) : Out w' base v l := by
  obtain ⟨g, cap, cs, z, rfl, hb, hg, r⟩ := h
  exact ⟨g, cap, cs, z, rfl, hb, (c.block g (Array.getElem?_eq_some_iff.1 hg).1 (hS g hb (Array.getElem?_eq_some_iff.1 hg).1)).trans hg, r⟩
theorem Out.base {w : World} {base b' : Nat} {v : Value} {l : List UInt8} (h : Out w base v l) (hb : b' ≤ base) : Out w b' v l := by
  obtain ⟨g, cap, cs, z, hv, h1, r⟩ := h
  exact ⟨g, cap, cs, z, hv, Nat.le_trans hb h1, r⟩
theorem bytesWorld_below (w : World) (e : TypeId) (s : ByteArray) : Below w.heap.size w (Lib.bytesWorld w e s) := by
  refine ⟨?_, ?_, ?_, by rw [Lib.bytesWorld_size]; omega, fun k hk => Lib.bytesWorld_at_old w e s k hk⟩ <;>
    (unfold Lib.bytesWorld World.freeze; split <;> rfl)
theorem bytesWorld_out (w : World) (l : List UInt8) (hl : l.length ≤ 140737488355328) : Out (Lib.bytesWorld w 5 ⟨l.toArray⟩) w.heap.size (.slice (some ⟨w.heap.size, 0, none⟩) l.length (grownCap w l.length 0 5)) l := by
  have hge := grownCap_ge w l.length 0 5
  refine ⟨w.heap.size, _, _, _, rfl, Nat.le_refl _, Lib.bytesWorld_at_new w 5 ⟨l.toArray⟩, ?_, hge, grownCap_le_maxLen w _ _ _ (by simp only [maxLen]; omega), fun j u hu => ?_⟩
  · show l.length ≤ ((l.toArray.map fun b : UInt8 => Value.int .u8 b.toNat) ++ Array.replicate _ _).size
    simp
  · have hj : j < l.length := by have := (List.getElem?_eq_some_iff.1 hu).1; rwa [BVs_len] at this
    show ((l.toArray.map fun b : UInt8 => Value.int .u8 b.toNat) ++ Array.replicate _ _)[j]? = some u
    rw [Array.getElem?_append_left (by simpa using hj)]
    rw [BVs_get hj] at hu
    simpa [hj] using hu
theorem conv_bytes (l : List UInt8) (W : World) : (convert 9 22 (.string ⟨l.toArray⟩)).run Tryz.prog W = .ok (.slice (some ⟨W.heap.size, 0, none⟩) l.length (grownCap W l.length 0 5)) (Lib.bytesWorld W 5 ⟨l.toArray⟩) := by
  have := Lib.run_convert_string_bytes (P := Tryz.prog) W 9 22 5 ⟨l.toArray⟩ Tryz.underlying9 Tryz.underlying22 Tryz.underlying5
  have hs : (⟨l.toArray⟩ : ByteArray).size = l.length := by show l.toArray.size = _; simp
  rw [hs] at this
  exact this

end Go.Proofs.YtebjjkhiniccgaaGreat.Kx
