/-
  Opening a list of requests under the form's own reach.
-/
import Derived.Test.YtcmknopgoiabbaaPy
import Derived.Test.YtcmknopgoiabbaaAo
import Derived.Test.YtcmknopgoiabbaaBulk
namespace Go.Proofs.Ytcmknopgoiabbaa.Aq
set_option linter.unusedSimpArgs false
open Go Go.RowKit Go.ChangeShapes Go.WideShapes Go.ChangeAt Go.Deep Ck Kp Pm Pe Py Ao
set_option linter.unusedVariables false

section
variable {H : Type} {enc : TypeId × Value → H}
theorem cells_req : Try.prog.cellsOf 31 = 7 := by kernel_rfl
theorem bytes_req : Try.prog.bytesOf 31 = 88 := by kernel_rfl
set_option maxRecDepth 100000 in
theorem open_req {w : World} {base : Nat} {fuel : Nat} {cs : List Value} {x : DataW H × List MemPlace} (h : DataW.trod enc Try.prog w base (fun _ => true) true fuel 31 cs = some x) :
    ∃ (r : Rq) (A : Option Addr) (c : Nat), cs = [.int .i64 r.client, .int .i64 r.time, .int .i64 r.o.kind, .string ⟨r.o.topic.toArray⟩, .string ⟨r.o.group.toArray⟩, .int .i64 r.o.off, .slice A r.o.recs.length c] ∧ Ls w (fun k => w.heap.size ≤ k) (.slice A r.o.recs.length c) r.o.recs
      ∧ ∀ R, (∀ n ∈ x.1.weights Try.prog 31, n ≤ R) → far r.o R := by
  obtain ⟨xs, n', _, hx, hl, hxl, hf⟩ := DataW.trod_struct Try.underlying31 h
  rw [cells_req] at hl
  have hxl' : xs.length = 3 := hxl
  match cs, hl with
  | [v0, v1, v2, v3, v4, v5, v6], _ =>
    have f0 : DataW.trod enc Try.prog w base (fun _ => true) true n' 3 (([v0, v1, v2, v3, v4, v5, v6].drop 0).take (Try.prog.cellsOf 3)) = xs[0]? := hf 0 _ rfl
    have f1 : DataW.trod enc Try.prog w base (fun _ => true) true n' 2 (([v0, v1, v2, v3, v4, v5, v6].drop 1).take (Try.prog.cellsOf 2)) = xs[1]? := hf 1 _ rfl
    have f2 : DataW.trod enc Try.prog w base (fun _ => true) true n' 29 (([v0, v1, v2, v3, v4, v5, v6].drop 2).take (Try.prog.cellsOf 29)) = xs[2]? := hf 2 _ rfl
    rw [cells_int] at f0
    rw [cells_i64] at f1
    rw [cells_op] at f2
    simp only [List.drop_zero, List.drop_succ_cons, List.take_succ_cons, List.take_zero] at f0 f1 f2
    obtain ⟨z0, e0, w0⟩ := one_int Try.underlying3 (by omega) f0
    obtain ⟨z1, e1, w1⟩ := one_int Try.underlying2 (by omega) f1
    rw [List.getElem?_eq_getElem (by omega)] at f2
    obtain ⟨o, A, c, e2, hls, _, hfar⟩ := open_op f2
    simp only [List.cons.injEq, and_true] at e0 e1 e2
    obtain ⟨rfl, rfl, rfl, rfl, rfl⟩ := e2
    refine ⟨⟨z0, z1, o⟩, A, c, by rw [e0, e1], hls, fun R hR => hfar R fun n hn => ?_⟩
    refine hR n ?_
    rw [hx]
    simp only [DataW.weights, Try.underlying31]
    exact DataW.weights_mem_each (ts := [3, 2, 29]) (j := 2) (t := 29) rfl (by simp [List.getElem?_eq_getElem (show 2 < xs.length by omega)]) n hn
set_option maxRecDepth 100000 in
theorem open_reqs {w : World} {fuel : Nat} {base : Nat} {v : Value} {x : DataW H × List MemPlace} (h : DataW.trod enc Try.prog w base (fun _ => true) true fuel 22 [v] = some x) (hR : ∀ n ∈ x.1.weights Try.prog 22, n ≤ 140737488351232) :
    ∃ (A : Option Addr) (c : Nat) (rs : List Rq), v = .slice A rs.length c ∧ Rqs w A rs ∧ rs.length * 88 ≤ 140737488351232 ∧ rs.length ≤ Rows.uptoBulk x.1 := by
  rcases open_slice Try.underlying22 h with ⟨hcs, rfl⟩ | ⟨a, len, cap, m, n, D, Pl, hcs, _, hl, hm, hmm, rfl, hx⟩
  · obtain rfl : v = .slice none 0 0 := by simpa using hcs
    exact ⟨none, 0, [], rfl, fun i hi => absurd hi (by simp), by simp, by simp⟩
  · obtain rfl : v = .slice (some a) len cap := by simpa using hcs
    simp only [if_true] at hmm
    have each : ∀ i, ∃ r : Rq, i < len → ∃ (Ar : Option Addr) (cr : Nat), (a.add (i * 7)).block < w.heap.size ∧ w.cell? (a.add (i * 7)) = some (.int .i64 r.client) ∧ w.cell? ⟨(a.add (i * 7)).block, (a.add (i * 7)).off + 1, none⟩ = some (.int .i64 r.time)
        ∧ w.cell? ⟨(a.add (i * 7)).block, (a.add (i * 7)).off + 2, none⟩ = some (.int .i64 r.o.kind) ∧ w.cell? ⟨(a.add (i * 7)).block, (a.add (i * 7)).off + 3, none⟩ = some (.string ⟨r.o.topic.toArray⟩)
        ∧ w.cell? ⟨(a.add (i * 7)).block, (a.add (i * 7)).off + 4, none⟩ = some (.string ⟨r.o.group.toArray⟩) ∧ w.cell? ⟨(a.add (i * 7)).block, (a.add (i * 7)).off + 5, none⟩ = some (.int .i64 r.o.off)
        ∧ w.cell? ⟨(a.add (i * 7)).block, (a.add (i * 7)).off + 6, none⟩ = some (.slice Ar r.o.recs.length cr) ∧ Ls w (fun k => w.heap.size ≤ k) (.slice Ar r.o.recs.length cr) r.o.recs ∧ r.o.topic.length ≤ 140737488355328 ∧ r.o.recs.length ≤ 140737488355328 := by
      intro i
      by_cases hi : i < len
      · obtain ⟨cs', hc, ht⟩ := hx i (by omega)
        obtain ⟨r, Ar, cr, rfl, hb, hr⟩ := open_req ht
        rw [cells_req] at hc
        obtain ⟨_, _, hcell⟩ := World.cells?_some hc
        have hw := hr 140737488351232 (fun n hn => hR n (by
          simp only [DataW.weights, Try.underlying22, List.mem_cons, List.mem_append]
          exact .inr (.inl (all_mem hn (List.mem_map.2 ⟨i, by simpa using hi, rfl⟩)))))
        have hg : ∀ j, 0 < j → (a.add (i * 7)).add j = ⟨(a.add (i * 7)).block, (a.add (i * 7)).off + j, none⟩ := fun j hj => by
          generalize a.add (i * 7) = ak
          unfold Addr.add
          rw [if_neg (by omega)]
        have h0 : w.cell? (a.add (i * 7)) = some (.int .i64 r.client) := by
          have := hcell 0 (by omega)
          rw [Ck.add_add] at this
          simpa using this
        have h1 := hcell 1 (by omega)
        have h2 := hcell 2 (by omega)
        have h3 := hcell 3 (by omega)
        have h4 := hcell 4 (by omega)
        have h5 := hcell 5 (by omega)
        have h6 := hcell 6 (by omega)
        rw [hg _ (by omega)] at h1 h2 h3 h4 h5 h6
        exact ⟨r, fun _ => ⟨Ar, cr, World.block_lt_of_cell? w _ h0, h0, h1, h2, h3, h4, h5, h6, hb, by have := hw.1; omega, by have := hw.2.2.1; omega⟩⟩
      · exact ⟨⟨0, 0, ⟨0, [], [], 0, []⟩⟩, fun h => absurd h hi⟩
    obtain ⟨f, hf⟩ := Classical.axiomOfChoice each
    refine ⟨some a, cap, (List.range len).map f, by simp, fun i hi => ?_, ?_, ?_⟩
    · have hi' : i < len := by simpa using hi
      obtain ⟨Ar, cr, h⟩ := hf i hi'
      have e : ((List.range len).map f)[i] = f i := by simp
      rw [e]
      exact ⟨a, Ar, cr, rfl, h⟩
    · have := hR _ (by simp only [DataW.weights, Try.underlying22]; exact List.mem_cons_self)
      rw [bytes_req] at this
      simp only [List.length_map, List.length_range] at this ⊢
      omega
    · have := Bulk.slice_len (H := H) ((List.range len).map D) ((List.range (m - len)).map fun j => D (len + j))
      simp only [List.length_map, List.length_range] at this ⊢
      omega
end
end Go.Proofs.Ytcmknopgoiabbaa.Aq
