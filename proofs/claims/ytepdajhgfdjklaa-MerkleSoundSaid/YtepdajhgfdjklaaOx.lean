/-
  Opening layer 5's structs under the form's own reach.
-/
import Derived.Test.YtepdajhgfdjklaaOw
import Derived.Test.YtepdajhgfdjklaaMe
namespace Go.Proofs.Ytepdajhgfdjklaa.Ox
open Go Go.RowKit Go.ChangeShapes Go.WideShapes Go.ChangeAt Go.Deep Ck Ct Ow Im Me
set_option linter.unusedVariables false

section
variable {H : Type} {enc : TypeId × Value → H}
theorem cells_dig : Try.prog.cellsOf 28 = 1 := by kernel_rfl
theorem bytes_dig : Try.prog.bytesOf 28 = 8 := by kernel_rfl
theorem cells_int : Try.prog.cellsOf 3 = 1 := by kernel_rfl
theorem cells_bool : Try.prog.cellsOf 4 = 1 := by kernel_rfl
theorem cells_sl : Try.prog.cellsOf 41 = 1 := by kernel_rfl
theorem cells_dl : Try.prog.cellsOf 31 = 1 := by kernel_rfl
theorem cells_parts : Try.prog.cellsOf 43 = 4 := by kernel_rfl
theorem cells_claim : Try.prog.cellsOf 52 = 6 := by kernel_rfl

theorem open_digs {w : World} {fuel : Nat} {base : Nat} {v : Value} {x : DataW H × List MemPlace} (h : DataW.trod enc Try.prog w base (fun _ => true) true fuel 31 [v] = some x) :
    ∃ ds : List Int, Sl w (fun k => w.heap.size ≤ k) 1 v ds.length (IVs ds) ∧ (∀ z ∈ ds, z ≤ 9223372036854775807) ∧ ∀ R, (∀ n ∈ x.1.weights Try.prog 31, n ≤ R) → ds.length * 8 ≤ R := by
  rcases open_ints Try.underlying31 Try.underlying28 cells_dig h with ⟨hcs, rfl⟩ | ⟨a, len, cap, zs, hcs, _, hl, hm, hz, rfl, hc, hw⟩
  · obtain rfl : v = .slice none 0 0 := by simpa using hcs
    exact ⟨[], Sl.nil _ _ _, by simp, fun R _ => Nat.zero_le _⟩
  · obtain rfl : v = .slice (some a) len cap := by simpa using hcs
    simp only [if_true] at hz
    have hbl : (zs.take len).length = len := by simp only [List.length_take]; omega
    refine ⟨zs.take len, ?_, fun z hzm => ?_, fun R hR => ?_⟩
    · refine ⟨some a, cap, by rw [hbl], by rw [IVs_len]; omega, by omega, hm, fun hn => ?_⟩
      rw [hbl] at hn
      have h0 := hc 0 (by omega)
      refine ⟨a, rfl, by have := World.block_lt_of_cell? w _ h0; rw [add_block] at this; exact this, by have := World.block_lt_of_cell? w _ h0; rw [add_block] at this; omega, fun j u hu => ?_⟩
      have hj : j < (IVs (zs.take len)).length := (List.getElem?_eq_some_iff.1 hu).1
      rw [IVs_len, hbl] at hj
      rw [hc j (by omega), ← hu]
      have hjz : j < zs.length := by omega
      simp [IVs, List.getElem?_map, List.getElem?_take, if_pos hj, List.getElem?_eq_getElem hjz, List.getD_eq_getElem?_getD]
    · have h2 := hw z (List.mem_of_mem_take hzm)
      have h3 : -9223372036854775808 ≤ z ∧ z ≤ 9223372036854775807 := by simpa [Lit.wf, IntKind.min, IntKind.max, IntKind.signed, IntKind.bits] using h2
      exact h3.2
    · have := hR _ (by simp only [DataW.weights, Try.underlying31]; exact List.mem_cons_self)
      rw [bytes_dig] at this
      rw [hbl]
      simp only [lits, List.length_map, List.length_take] at this
      omega

theorem one_bool {w : World} {base : Nat} {sp : Nat → Bool} {held : Bool} {n : Nat} {cs : List Value} {xs : List (DataW H × List MemPlace)} {j : Nat} (hj : j < xs.length)
    (h : DataW.trod enc Try.prog w base sp held n 4 cs = xs[j]?) : ∃ b : Bool, cs = [.bool b] := by
  rw [List.getElem?_eq_getElem hj] at h
  obtain ⟨b, h1, _⟩ := DataW.trod_bool Try.underlying4 h
  exact ⟨b, h1⟩

set_option maxRecDepth 100000 in
theorem open_parts {w : World} {base : Nat} {fuel : Nat} {cs : List Value} {x : DataW H × List MemPlace} (h : DataW.trod enc Try.prog w base (fun _ => true) true fuel 43 cs = some x) :
    ∃ (b : Tx) (B : Option Addr) (c : Nat) (l r n : Int), cs = [.slice B b.length c, .int .i64 l, .int .i64 r, .int .i64 n] ∧ Sl w (fun k => w.heap.size ≤ k) 1 (.slice B b.length c) b.length (BVs b)
      ∧ (-9223372036854775808 ≤ l ∧ l ≤ 9223372036854775807) ∧ (-9223372036854775808 ≤ r ∧ r ≤ 9223372036854775807) ∧ (-9223372036854775808 ≤ n ∧ n ≤ 9223372036854775807) ∧ ∀ R, (∀ n ∈ x.1.weights Try.prog 43, n ≤ R) → b.length ≤ R := by
  obtain ⟨xs, n', _, hx, hl, hxl, hf⟩ := DataW.trod_struct Try.underlying43 h
  rw [cells_parts] at hl
  have hxl' : xs.length = 4 := hxl
  match cs, hl with
  | [v0, v1, v2, v3], _ =>
    have f0 : DataW.trod enc Try.prog w base (fun _ => true) true n' 41 (([v0, v1, v2, v3].drop 0).take (Try.prog.cellsOf 41)) = xs[0]? := hf 0 _ rfl
    have f1 : DataW.trod enc Try.prog w base (fun _ => true) true n' 28 (([v0, v1, v2, v3].drop 1).take (Try.prog.cellsOf 28)) = xs[1]? := hf 1 _ rfl
    have f2 : DataW.trod enc Try.prog w base (fun _ => true) true n' 28 (([v0, v1, v2, v3].drop 2).take (Try.prog.cellsOf 28)) = xs[2]? := hf 2 _ rfl
    have f3 : DataW.trod enc Try.prog w base (fun _ => true) true n' 3 (([v0, v1, v2, v3].drop 3).take (Try.prog.cellsOf 3)) = xs[3]? := hf 3 _ rfl
    rw [cells_int] at f3
    rw [cells_dig] at f1 f2
    rw [cells_sl] at f0
    simp only [List.drop_zero, List.drop_succ_cons, List.take_succ_cons, List.take_zero] at f0 f1 f2 f3
    obtain ⟨z1, e1, w1⟩ := one_int Try.underlying28 (by omega) f1
    obtain ⟨z2, e2, w2⟩ := one_int Try.underlying28 (by omega) f2
    obtain ⟨z3, e3, w3⟩ := one_int Try.underlying3 (by omega) f3
    rw [List.getElem?_eq_getElem (by omega)] at f0
    obtain ⟨b, hb, r0⟩ := open_bytesW f0
    have b1 : -9223372036854775808 ≤ z1 ∧ z1 ≤ 9223372036854775807 := by simpa [Lit.wf, IntKind.min, IntKind.max, IntKind.signed, IntKind.bits] using w1
    have b2 : -9223372036854775808 ≤ z2 ∧ z2 ≤ 9223372036854775807 := by simpa [Lit.wf, IntKind.min, IntKind.max, IntKind.signed, IntKind.bits] using w2
    have b3 : -9223372036854775808 ≤ z3 ∧ z3 ≤ 9223372036854775807 := by simpa [Lit.wf, IntKind.min, IntKind.max, IntKind.signed, IntKind.bits] using w3
    simp only [List.cons.injEq, and_true] at e1 e2 e3
    obtain ⟨B, c, hv, _⟩ := id hb
    refine ⟨b, B, c, z1, z2, z3, by rw [e1, e2, e3, hv], by rw [← hv]; exact hb, b1, b2, b3, fun R hR => ?_⟩
    have hm : ∀ (j : Nat) (t : TypeId) (hj : j < xs.length), [41, 28, 28, 3][j]? = some t → ∀ n ∈ xs[j].1.weights Try.prog t, n ≤ R := fun j t hj ht n hn => by
      refine hR n ?_
      rw [hx]
      simp only [DataW.weights, Try.underlying43]
      exact DataW.weights_mem_each (ts := [41, 28, 28, 3]) ht (by simp [List.getElem?_eq_getElem hj]) n hn
    exact r0 R (hm 0 _ (by omega) rfl)

set_option maxRecDepth 100000 in
theorem open_claim {w : World} {base : Nat} {fuel : Nat} {cs : List Value} {x : DataW H × List MemPlace} (h : DataW.trod enc Try.prog w base (fun _ => true) true fuel 52 cs = some x) :
    ∃ (b : Tx) (B : Option Addr) (c : Nat) (i n : Int) (ds : List Int) (P : Option Addr) (d : Nat) (r : Int) (t : Bool), cs = [.slice B b.length c, .int .i64 i, .int .i64 n, .slice P ds.length d, .int .i64 r, .bool t] ∧ Sl w (fun k => w.heap.size ≤ k) 1 (.slice B b.length c) b.length (BVs b)
      ∧ Sl w (fun k => w.heap.size ≤ k) 1 (.slice P ds.length d) ds.length (IVs ds) ∧ (∀ z ∈ ds, z ≤ 9223372036854775807) ∧ n ≤ 9223372036854775807 ∧ ∀ R, (∀ n ∈ x.1.weights Try.prog 52, n ≤ R) → b.length ≤ R ∧ ds.length * 8 ≤ R := by
  obtain ⟨xs, n', _, hx, hl, hxl, hf⟩ := DataW.trod_struct Try.underlying52 h
  rw [cells_claim] at hl
  have hxl' : xs.length = 6 := hxl
  match cs, hl with
  | [v0, v1, v2, v3, v4, v5], _ =>
    have f0 : DataW.trod enc Try.prog w base (fun _ => true) true n' 41 (([v0, v1, v2, v3, v4, v5].drop 0).take (Try.prog.cellsOf 41)) = xs[0]? := hf 0 _ rfl
    have f1 : DataW.trod enc Try.prog w base (fun _ => true) true n' 3 (([v0, v1, v2, v3, v4, v5].drop 1).take (Try.prog.cellsOf 3)) = xs[1]? := hf 1 _ rfl
    have f2 : DataW.trod enc Try.prog w base (fun _ => true) true n' 3 (([v0, v1, v2, v3, v4, v5].drop 2).take (Try.prog.cellsOf 3)) = xs[2]? := hf 2 _ rfl
    have f3 : DataW.trod enc Try.prog w base (fun _ => true) true n' 31 (([v0, v1, v2, v3, v4, v5].drop 3).take (Try.prog.cellsOf 31)) = xs[3]? := hf 3 _ rfl
    have f4 : DataW.trod enc Try.prog w base (fun _ => true) true n' 28 (([v0, v1, v2, v3, v4, v5].drop 4).take (Try.prog.cellsOf 28)) = xs[4]? := hf 4 _ rfl
    have f5 : DataW.trod enc Try.prog w base (fun _ => true) true n' 4 (([v0, v1, v2, v3, v4, v5].drop 5).take (Try.prog.cellsOf 4)) = xs[5]? := hf 5 _ rfl
    rw [cells_int] at f1 f2
    rw [cells_dig] at f4
    rw [cells_sl] at f0
    rw [cells_dl] at f3
    rw [cells_bool] at f5
    simp only [List.drop_zero, List.drop_succ_cons, List.take_succ_cons, List.take_zero] at f0 f1 f2 f3 f4 f5
    obtain ⟨z1, e1, w1⟩ := one_int Try.underlying3 (by omega) f1
    obtain ⟨z2, e2, w2⟩ := one_int Try.underlying3 (by omega) f2
    obtain ⟨z4, e4, w4⟩ := one_int Try.underlying28 (by omega) f4
    obtain ⟨t, e5⟩ := one_bool (by omega) f5
    rw [List.getElem?_eq_getElem (by omega)] at f0 f3
    obtain ⟨b, hb, r0⟩ := open_bytesW f0
    obtain ⟨ds, hd, hd63, r3⟩ := open_digs f3
    have b2 : -9223372036854775808 ≤ z2 ∧ z2 ≤ 9223372036854775807 := by simpa [Lit.wf, IntKind.min, IntKind.max, IntKind.signed, IntKind.bits] using w2
    simp only [List.cons.injEq, and_true] at e1 e2 e4 e5
    obtain ⟨B, c, hv, _⟩ := id hb
    obtain ⟨P, d, hv3, _⟩ := id hd
    refine ⟨b, B, c, z1, z2, ds, P, d, z4, t, by rw [e1, e2, e4, e5, hv, hv3], by rw [← hv]; exact hb, by rw [← hv3]; exact hd, hd63, b2.2, fun R hR => ?_⟩
    have hm : ∀ (j : Nat) (t : TypeId) (hj : j < xs.length), [41, 3, 3, 31, 28, 4][j]? = some t → ∀ n ∈ xs[j].1.weights Try.prog t, n ≤ R := fun j t hj ht n hn => by
      refine hR n ?_
      rw [hx]
      simp only [DataW.weights, Try.underlying52]
      exact DataW.weights_mem_each (ts := [41, 3, 3, 31, 28, 4]) ht (by simp [List.getElem?_eq_getElem hj]) n hn
    exact ⟨r0 R (hm 0 _ (by omega) rfl), r3 R (hm 3 _ (by omega) rfl)⟩
end

end Go.Proofs.Ytepdajhgfdjklaa.Ox
