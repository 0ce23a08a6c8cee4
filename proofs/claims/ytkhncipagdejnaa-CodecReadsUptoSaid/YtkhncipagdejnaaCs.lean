/-
  Opening a slice of questions.
-/
import Derived.Test.YtkhncipagdejnaaCt
import Derived.Test.YtkhncipagdejnaaCy
namespace Go.Proofs.Ytkhncipagdejnaa.Cs
open Go Go.RowKit Go.ChangeShapes Go.WideShapes Go.ChangeAt Go.Deep Ck Cy

section
variable {H : Type} {enc : TypeId × Value → H}
theorem cells_int : Try.prog.cellsOf 3 = 1 := by kernel_rfl
theorem cells_u64 : Try.prog.cellsOf 23 = 1 := by kernel_rfl
theorem cells_errno : Try.prog.cellsOf 38 = 1 := by kernel_rfl
theorem cells_ask : Try.prog.cellsOf 40 = 5 := by kernel_rfl

theorem one_int {w : World} {base : Nat} {sp : Nat → Bool} {held : Bool} {n : Nat} {t : TypeId} {k : IntKind} {cs : List Value} {xs : List (DataW H × List MemPlace)} {j : Nat} (ht : Try.prog.underlying t = some (.int k)) (hj : j < xs.length)
    (h : DataW.trod enc Try.prog w base sp held n t cs = xs[j]?) : ∃ z, cs = [.int k z] ∧ (Lit.int k z).wf = true := by
  rw [List.getElem?_eq_getElem hj] at h
  obtain ⟨z, h1, _, h2⟩ := DataW.trod_int ht h
  exact ⟨z, h1, h2⟩

theorem open_ask {w : World} {base : Nat} {sp : Nat → Bool} {held : Bool} {n : Nat} {cs : List Value} {x : DataW H × List MemPlace} (h : DataW.trod enc Try.prog w base sp held n 40 cs = some x) : ∃ q : Q, q.ok ∧ cs = q.vals := by
  obtain ⟨xs, n', _, _, hl, hxl, hf⟩ := DataW.trod_struct Try.underlying40 h
  rw [cells_ask] at hl
  have hxl' : xs.length = 5 := hxl
  match cs, hl with
  | [v0, v1, v2, v3, v4], _ =>
    have f0 : DataW.trod enc Try.prog w base sp held n' 3 (([v0, v1, v2, v3, v4].drop 0).take (Try.prog.cellsOf 3)) = xs[0]? := hf 0 _ rfl
    have f1 : DataW.trod enc Try.prog w base sp held n' 23 (([v0, v1, v2, v3, v4].drop 1).take (Try.prog.cellsOf 23)) = xs[1]? := hf 1 _ rfl
    have f2 : DataW.trod enc Try.prog w base sp held n' 3 (([v0, v1, v2, v3, v4].drop 2).take (Try.prog.cellsOf 3)) = xs[2]? := hf 2 _ rfl
    have f3 : DataW.trod enc Try.prog w base sp held n' 3 (([v0, v1, v2, v3, v4].drop 3).take (Try.prog.cellsOf 3)) = xs[3]? := hf 3 _ rfl
    have f4 : DataW.trod enc Try.prog w base sp held n' 38 (([v0, v1, v2, v3, v4].drop 4).take (Try.prog.cellsOf 38)) = xs[4]? := hf 4 _ rfl
    rw [cells_int] at f0 f2 f3
    rw [cells_u64] at f1
    rw [cells_errno] at f4
    simp only [List.drop_zero, List.drop_succ_cons, List.take_succ_cons, List.take_zero] at f0 f1 f2 f3 f4
    obtain ⟨z0, e0, _⟩ := one_int Try.underlying3 (by omega) f0
    obtain ⟨z1, e1, w1⟩ := one_int Try.underlying23 (by omega) f1
    obtain ⟨z2, e2, w2⟩ := one_int Try.underlying3 (by omega) f2
    obtain ⟨z3, e3, w3⟩ := one_int Try.underlying3 (by omega) f3
    obtain ⟨z4, e4, _⟩ := one_int Try.underlying38 (by omega) f4
    have b1 : 0 ≤ z1 ∧ z1 ≤ 18446744073709551615 := by simpa [Lit.wf, IntKind.min, IntKind.max, IntKind.signed, IntKind.bits] using w1
    have b2 : -9223372036854775808 ≤ z2 ∧ z2 ≤ 9223372036854775807 := by simpa [Lit.wf, IntKind.min, IntKind.max, IntKind.signed, IntKind.bits] using w2
    have b3 : -9223372036854775808 ≤ z3 ∧ z3 ≤ 9223372036854775807 := by simpa [Lit.wf, IntKind.min, IntKind.max, IntKind.signed, IntKind.bits] using w3
    simp only [List.cons.injEq, and_true] at e0 e1 e2 e3 e4
    obtain ⟨m, rfl⟩ := Int.eq_ofNat_of_zero_le b1.1
    refine ⟨⟨z0, m, z2, z3, z4⟩, ⟨?_, b2.1, b2.2, b3.1, b3.2⟩, ?_⟩
    · show m < 18446744073709551616
      omega
    · rw [e0, e1, e2, e3, e4]
      rfl

theorem open_asks {w : World} {fuel : Nat} {base : Nat} {v : Value} {x : DataW H × List MemPlace} (h : DataW.trod enc Try.prog w base (fun _ => true) true fuel 33 [v] = some x) :
    ∃ qs : List Q, Qs w v qs ∧ qs.length ≤ Rows.uptoBulk x.1 := by
  rcases open_slice Try.underlying33 h with ⟨hcs, rfl⟩ | ⟨a, len, cap, m, n, D, Pl, hcs, _, hl, hm, hmm, rfl, hx⟩
  · obtain rfl : v = .slice none 0 0 := by simpa using hcs
    exact ⟨[], ⟨none, 0, rfl, Nat.le_refl _, Nat.zero_le _, by simp, fun h => absurd h (by simp)⟩, Nat.zero_le _⟩
  · obtain rfl : v = .slice (some a) len cap := by simpa using hcs
    simp only [if_true] at hmm
    have each : ∀ i, ∃ q : Q, q.ok ∧ (i < len → ∀ j u, q.vals[j]? = some u → w.cell? (a.add (i * 5 + j)) = some u) := by
      intro i
      by_cases hi : i < len
      · obtain ⟨cs', hc, ht⟩ := hx i (by omega)
        obtain ⟨q, hq, rfl⟩ := open_ask ht
        refine ⟨q, hq, fun _ j u hu => ?_⟩
        rw [cells_ask] at hc
        obtain ⟨_, _, hcell⟩ := World.cells?_some hc
        have hj : j < 5 := by
          have := (List.getElem?_eq_some_iff.1 hu).1
          simpa [Q.vals] using this
        rw [← Ck.add_add, hcell j hj, hu]
      · exact ⟨⟨0, 0, 0, 0, 0⟩, ⟨by simp, by simp, by simp, by simp, by simp⟩, fun h => absurd h hi⟩
    obtain ⟨f, hf⟩ := Classical.axiomOfChoice each
    refine ⟨(List.range len).map f, ⟨some a, cap, by simp, by simpa using hl, hm, ?_, fun hn => ?_⟩, ?_⟩
    · intro q hq
      simp only [List.mem_map, List.mem_range] at hq
      obtain ⟨i, _, rfl⟩ := hq
      exact (hf i).1
    · have hn' : 0 < len := by simpa using hn
      have h0 := (hf 0).2 hn' 0 _ rfl
      refine ⟨a, rfl, by have := World.block_lt_of_cell? w _ h0; rw [add_block] at this; exact this, fun i hi j u hu => ?_⟩
      have hi' : i < len := by simpa using hi
      exact (hf i).2 hi' j u (by simpa using hu)
    · have h2 := Bulk.slice_len (H := H) ((List.range len).map D) ((List.range (m - len)).map fun j => D (len + j))
      simp only [List.length_map, List.length_range] at h2 ⊢
      exact Nat.le_of_succ_le h2
end

end Go.Proofs.Ytkhncipagdejnaa.Cs
