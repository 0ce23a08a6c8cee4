/-
  Opening a list of operations under the form's own reach.
-/
import Derived.Test.YtncppflmpfefkaaKp
import Derived.Test.YtncppflmpfefkaaEb
namespace Go.Proofs.Ytncppflmpfefkaa.Op
open Go Go.RowKit Go.ChangeShapes Go.WideShapes Go.ChangeAt Go.Deep Ck Kp Dm Dq Eb
set_option linter.unusedVariables false

section
variable {H : Type} {enc : TypeId × Value → H}
theorem cells_op : Try.prog.cellsOf 33 = 5 := by kernel_rfl
theorem cells_int : Try.prog.cellsOf 3 = 1 := by kernel_rfl
theorem cells_str : Try.prog.cellsOf 9 = 1 := by kernel_rfl
theorem cells_sl : Try.prog.cellsOf 31 = 1 := by kernel_rfl
theorem bytes_op : Try.prog.bytesOf 33 = 72 := by kernel_rfl

theorem one_str {w : World} {base : Nat} {sp : Nat → Bool} {held : Bool} {n : Nat} {cs : List Value} {xs : List (DataW H × List MemPlace)} {j : Nat} (hj : j < xs.length)
    (h : DataW.trod enc Try.prog w base sp held n 9 cs = xs[j]?) : ∃ s : Tx, cs = [.string ⟨s.toArray⟩] ∧ ∀ R, (∀ n ∈ xs[j].1.weights Try.prog 9, n ≤ R) → s.length ≤ R := by
  rw [List.getElem?_eq_getElem hj] at h
  obtain ⟨s, h1, h2, _⟩ := DataW.trod_string Try.underlying9 h
  refine ⟨s.data.toList, by rw [h1], fun R hR => ?_⟩
  rw [h2] at hR
  exact hR _ (by simp [DataW.weights])

set_option maxRecDepth 100000 in
theorem open_op {w : World} {base : Nat} {fuel : Nat} {cs : List Value} {x : DataW H × List MemPlace} (h : DataW.trod enc Try.prog w base (fun _ => true) true fuel 33 cs = some x) :
    ∃ (o : On) (B : Option Addr) (c : Nat), cs = [.int .i64 o.z, .string ⟨o.n.toArray⟩, .string ⟨o.t.toArray⟩, .int .i64 o.a, .slice B o.b.length c] ∧ Sl w (fun k => w.heap.size ≤ k) 1 (.slice B o.b.length c) o.b.length (BVs o.b)
      ∧ (-9223372036854775808 ≤ o.a ∧ o.a ≤ 9223372036854775807) ∧ ∀ R, (∀ n ∈ x.1.weights Try.prog 33, n ≤ R) → o.n.length ≤ R ∧ o.t.length ≤ R ∧ o.b.length ≤ R := by
  obtain ⟨xs, n', _, hx, hl, hxl, hf⟩ := DataW.trod_struct Try.underlying33 h
  rw [cells_op] at hl
  have hxl' : xs.length = 5 := hxl
  match cs, hl with
  | [v0, v1, v2, v3, v4], _ =>
    have f0 : DataW.trod enc Try.prog w base (fun _ => true) true n' 3 (([v0, v1, v2, v3, v4].drop 0).take (Try.prog.cellsOf 3)) = xs[0]? := hf 0 _ rfl
    have f1 : DataW.trod enc Try.prog w base (fun _ => true) true n' 9 (([v0, v1, v2, v3, v4].drop 1).take (Try.prog.cellsOf 9)) = xs[1]? := hf 1 _ rfl
    have f2 : DataW.trod enc Try.prog w base (fun _ => true) true n' 9 (([v0, v1, v2, v3, v4].drop 2).take (Try.prog.cellsOf 9)) = xs[2]? := hf 2 _ rfl
    have f3 : DataW.trod enc Try.prog w base (fun _ => true) true n' 3 (([v0, v1, v2, v3, v4].drop 3).take (Try.prog.cellsOf 3)) = xs[3]? := hf 3 _ rfl
    have f4 : DataW.trod enc Try.prog w base (fun _ => true) true n' 31 (([v0, v1, v2, v3, v4].drop 4).take (Try.prog.cellsOf 31)) = xs[4]? := hf 4 _ rfl
    rw [cells_int] at f0 f3
    rw [cells_str] at f1 f2
    rw [cells_sl] at f4
    simp only [List.drop_zero, List.drop_succ_cons, List.take_succ_cons, List.take_zero] at f0 f1 f2 f3 f4
    obtain ⟨z0, e0, w0⟩ := one_int Try.underlying3 (by omega) f0
    obtain ⟨s1, e1, r1⟩ := one_str (by omega) f1
    obtain ⟨s2, e2, r2⟩ := one_str (by omega) f2
    obtain ⟨z3, e3, w3⟩ := one_int Try.underlying3 (by omega) f3
    rw [List.getElem?_eq_getElem (by omega)] at f4
    obtain ⟨b, hb, r4⟩ := open_bytesW f4
    have b3 : -9223372036854775808 ≤ z3 ∧ z3 ≤ 9223372036854775807 := by simpa [Lit.wf, IntKind.min, IntKind.max, IntKind.signed, IntKind.bits] using w3
    simp only [List.cons.injEq, and_true] at e0 e1 e2 e3
    obtain ⟨B, c, hv, _⟩ := id hb
    refine ⟨⟨z0, s1, s2, z3, b⟩, B, c, by rw [e0, e1, e2, e3, hv], by rw [← hv]; exact hb, b3, fun R hR => ?_⟩
    have hm : ∀ (j : Nat) (t : TypeId) (hj : j < xs.length), [3, 9, 9, 3, 31][j]? = some t → ∀ n ∈ xs[j].1.weights Try.prog t, n ≤ R := fun j t hj ht n hn => by
      refine hR n ?_
      rw [hx]
      simp only [DataW.weights, Try.underlying33]
      exact DataW.weights_mem_each (ts := [3, 9, 9, 3, 31]) ht (by simp [List.getElem?_eq_getElem hj]) n hn
    exact ⟨r1 R (hm 1 _ (by omega) rfl), r2 R (hm 2 _ (by omega) rfl), r4 R (hm 4 _ (by omega) rfl)⟩

set_option maxRecDepth 100000 in
theorem open_ops {w : World} {fuel : Nat} {base : Nat} {v : Value} {x : DataW H × List MemPlace} (h : DataW.trod enc Try.prog w base (fun _ => true) true fuel 22 [v] = some x) (hR : ∀ n ∈ x.1.weights Try.prog 22, n ≤ 140737488351232) :
    ∃ (A : Option Addr) (c : Nat) (os : List On), v = .slice A os.length c ∧ Ops w A os ∧ os.length * 72 ≤ 140737488351232 := by
  rcases open_slice Try.underlying22 h with ⟨hcs, rfl⟩ | ⟨a, len, cap, m, n, D, Pl, hcs, _, hl, hm, hmm, rfl, hx⟩
  · obtain rfl : v = .slice none 0 0 := by simpa using hcs
    exact ⟨none, 0, [], rfl, fun i hi => absurd hi (by simp), by simp⟩
  · obtain rfl : v = .slice (some a) len cap := by simpa using hcs
    simp only [if_true] at hmm
    have each : ∀ i, ∃ o : On, i < len → ∃ (B : Option Addr) (c : Nat), (a.add (i * 5)).block < w.heap.size ∧ w.cell? (a.add (i * 5)) = some (.int .i64 o.z) ∧ w.cell? ⟨(a.add (i * 5)).block, (a.add (i * 5)).off + 1, none⟩ = some (.string ⟨o.n.toArray⟩)
        ∧ w.cell? ⟨(a.add (i * 5)).block, (a.add (i * 5)).off + 2, none⟩ = some (.string ⟨o.t.toArray⟩) ∧ w.cell? ⟨(a.add (i * 5)).block, (a.add (i * 5)).off + 3, none⟩ = some (.int .i64 o.a)
        ∧ w.cell? ⟨(a.add (i * 5)).block, (a.add (i * 5)).off + 4, none⟩ = some (.slice B o.b.length c) ∧ Sl w (fun k => w.heap.size ≤ k) 1 (.slice B o.b.length c) o.b.length (BVs o.b) ∧ wfO o := by
      intro i
      by_cases hi : i < len
      · obtain ⟨cs', hc, ht⟩ := hx i (by omega)
        obtain ⟨o, B, c, rfl, hb, ha, hr⟩ := open_op ht
        rw [cells_op] at hc
        obtain ⟨_, _, hcell⟩ := World.cells?_some hc
        have hw := hr 140737488351232 (fun n hn => hR n (by
          simp only [DataW.weights, Try.underlying22, List.mem_cons, List.mem_append]
          exact .inr (.inl (all_mem hn (List.mem_map.2 ⟨i, by simpa using hi, rfl⟩)))))
        have hg : ∀ j, 0 < j → (a.add (i * 5)).add j = ⟨(a.add (i * 5)).block, (a.add (i * 5)).off + j, none⟩ := fun j hj => by
          generalize a.add (i * 5) = ak
          unfold Addr.add
          rw [if_neg (by omega)]
        have h0 : w.cell? (a.add (i * 5)) = some (.int .i64 o.z) := by
          have := hcell 0 (by omega)
          rw [Ck.add_add] at this
          simpa using this
        have h1 := hcell 1 (by omega)
        have h2 := hcell 2 (by omega)
        have h3 := hcell 3 (by omega)
        have h4 := hcell 4 (by omega)
        rw [hg _ (by omega)] at h1 h2 h3 h4
        exact ⟨o, fun _ => ⟨B, c, World.block_lt_of_cell? w _ h0, h0, h1, h2, h3, h4, hb, by have := hw.1; omega, by have := hw.2.1; omega, by have := hw.2.2; omega, ha⟩⟩
      · exact ⟨⟨0, [], [], 0, []⟩, fun h => absurd h hi⟩
    obtain ⟨f, hf⟩ := Classical.axiomOfChoice each
    refine ⟨some a, cap, (List.range len).map f, by simp, fun i hi => ?_, ?_⟩
    · have hi' : i < len := by simpa using hi
      obtain ⟨B, c, h⟩ := hf i hi'
      have e : ((List.range len).map f)[i] = f i := by simp
      rw [e]
      exact ⟨a, B, c, rfl, h⟩
    · have := hR _ (by simp only [DataW.weights, Try.underlying22]; exact List.mem_cons_self)
      rw [bytes_op] at this
      simp only [List.length_map, List.length_range] at this ⊢
      omega
end

end Go.Proofs.Ytncppflmpfefkaa.Op
