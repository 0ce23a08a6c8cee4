/-
  Opening a law's arguments under the form's own reach: byte strings, lists of them, signatures, slices of signatures.
-/
import Derived.Test.YtepdajhgfdjklaaCt
import Derived.Test.YtepdajhgfdjklaaIk
import Derived.SizedLaws
import Derived.JoinedOf
namespace Go.Proofs.Ytepdajhgfdjklaa.Ow
open Go Go.RowKit Go.ChangeShapes Go.WideShapes Go.ChangeAt Go.Deep Ck Ct

section
variable {H : Type} {enc : TypeId × Value → H}

theorem bytes_u8 : Try.prog.bytesOf 5 = 1 := by kernel_rfl
theorem bytes_sl : Try.prog.bytesOf 41 = 24 := by kernel_rfl
theorem all_mem {P : Program} {e : TypeId} {d : DataW H} {n : Nat} (hn : n ∈ d.weights P e) : ∀ {l : List (DataW H)}, d ∈ l → n ∈ DataW.weightsAll P e l
  | x :: r, h => by
    simp only [DataW.weightsAll, List.mem_append]
    rcases List.mem_cons.1 h with rfl | h
    · exact .inl hn
    · exact .inr (all_mem hn h)

theorem open_bytesW {w : World} {fuel : Nat} {base : Nat} {v : Value} {x : DataW H × List MemPlace} (h : DataW.trod enc Try.prog w base (fun _ => true) true fuel 41 [v] = some x) :
    ∃ b : List UInt8, Sl w (fun k => w.heap.size ≤ k) 1 v b.length (BVs b) ∧ ∀ R, (∀ n ∈ x.1.weights Try.prog 41, n ≤ R) → b.length ≤ R := by
  rcases open_ints Try.underlying41 Try.underlying5 cells_u8 h with ⟨hcs, rfl⟩ | ⟨a, len, cap, zs, hcs, _, hl, hm, hz, rfl, hc, hw⟩
  · obtain rfl : v = .slice none 0 0 := by simpa using hcs
    exact ⟨[], Sl.nil _ _ _, fun R _ => Nat.zero_le _⟩
  · obtain rfl : v = .slice (some a) len cap := by simpa using hcs
    simp only [if_true] at hz
    have hbl : ((zs.take len).map fun z => UInt8.ofNat z.toNat).length = len := by simp only [List.length_map, List.length_take]; omega
    refine ⟨(zs.take len).map fun z => UInt8.ofNat z.toNat, ?_, fun R hR => ?_⟩
    · refine ⟨some a, cap, by rw [hbl], by rw [BVs_len]; omega, by omega, hm, fun hn => ?_⟩
      rw [hbl] at hn
      have h0 := hc 0 (by omega)
      refine ⟨a, rfl, by have := World.block_lt_of_cell? w _ h0; rw [add_block] at this; exact this, by have := World.block_lt_of_cell? w _ h0; rw [add_block] at this; omega, fun j u hu => ?_⟩
      have hj : j < (BVs ((zs.take len).map fun z => UInt8.ofNat z.toNat)).length := (List.getElem?_eq_some_iff.1 hu).1
      rw [BVs_len, hbl] at hj
      rw [hc j (by omega), ← hu]
      have hjz : j < zs.length := by omega
      simp only [BVs, BV, List.map_map, List.getElem?_map, List.getElem?_take, if_pos hj, List.getElem?_eq_getElem hjz, Option.map_some, Function.comp, List.getD_eq_getElem?_getD, Option.getD_some]
      rw [ofNat_int (hw _ (List.getElem_mem hjz))]
    · have := hR _ (by simp only [DataW.weights, Try.underlying41]; exact List.mem_cons_self)
      rw [bytes_u8] at this
      rw [hbl]
      simp only [lits, List.length_map, List.length_take] at this
      omega

theorem open_listsW {w : World} {fuel : Nat} {base : Nat} {v : Value} {x : DataW H × List MemPlace} (h : DataW.trod enc Try.prog w base (fun _ => true) true fuel 22 [v] = some x) :
    ∃ ls : List (List UInt8), Ls w (fun k => w.heap.size ≤ k) v ls ∧ ∀ R, (∀ n ∈ x.1.weights Try.prog 22, n ≤ R) → ls.length * 24 ≤ R ∧ ∀ l ∈ ls, l.length ≤ R := by
  rcases open_slice1 Try.underlying22 cells_sl h with ⟨hcs, rfl⟩ | ⟨a, len, cap, m, n, V, D, Pl, hcs, _, hl, hm, hmm, rfl, hx⟩
  · obtain rfl : v = .slice none 0 0 := by simpa using hcs
    exact ⟨[], ⟨[], Sl.nil _ _ _, fun i hi => absurd hi (by simp)⟩, fun R _ => by simp⟩
  · obtain rfl : v = .slice (some a) len cap := by simpa using hcs
    simp only [if_true] at hmm
    have each : ∀ r, ∃ b : List UInt8, r < len → w.cell? (a.add r) = some (V r) ∧ Sl w (fun k => w.heap.size ≤ k) 1 (V r) b.length (BVs b) ∧ ∀ R, (∀ n ∈ (D r).weights Try.prog 41, n ≤ R) → b.length ≤ R := by
      intro r
      by_cases hr : r < len
      · obtain ⟨hc, ht⟩ := hx r (by omega)
        obtain ⟨b, hb1, hb2⟩ := open_bytesW ht
        exact ⟨b, fun _ => ⟨hc, hb1, hb2⟩⟩
      · exact ⟨[], fun h => absurd h hr⟩
    obtain ⟨f, hf⟩ := Classical.axiomOfChoice each
    refine ⟨(List.range len).map f, ⟨(List.range len).map V, ?_, fun i hi => ?_⟩, fun R hR => ⟨?_, fun l hl2 => ?_⟩⟩
    · refine ⟨some a, cap, by simp, by simp, by simpa using hl, hm, fun hn => ?_⟩
      have hn' : 0 < len := by simpa using hn
      have h0 := (hf 0 hn').1
      refine ⟨a, rfl, by have := World.block_lt_of_cell? w _ h0; rw [add_block] at this; exact this, by have := World.block_lt_of_cell? w _ h0; rw [add_block] at this; omega, fun j u hu => ?_⟩
      have hj : j < ((List.range len).map V).length := (List.getElem?_eq_some_iff.1 hu).1
      simp only [List.length_map, List.length_range] at hj
      rw [(hf j hj).1, ← hu]
      simp [hj]
    · have hi' : i < len := by simpa using hi
      refine ⟨V i, by simp [hi'], ?_⟩
      simpa using (hf i hi').2.1
    · have := hR _ (by simp only [DataW.weights, Try.underlying22]; exact List.mem_cons_self)
      rw [bytes_sl] at this
      simp only [List.length_map, List.length_range] at this ⊢
      omega
    · obtain ⟨r, hr, rfl⟩ := List.mem_map.1 hl2
      have hr' : r < len := by simpa using hr
      refine (hf r hr').2.2 R (fun n hn => hR n ?_)
      simp only [DataW.weights, Try.underlying22, List.mem_cons, List.mem_append]
      exact .inr (.inl (all_mem hn (List.mem_map.2 ⟨r, hr, rfl⟩)))

theorem one_int {w : World} {base : Nat} {sp : Nat → Bool} {held : Bool} {n : Nat} {t : TypeId} {k : IntKind} {cs : List Value} {xs : List (DataW H × List MemPlace)} {j : Nat} (ht : Try.prog.underlying t = some (.int k)) (hj : j < xs.length)
    (h : DataW.trod enc Try.prog w base sp held n t cs = xs[j]?) : ∃ z, cs = [.int k z] ∧ (Lit.int k z).wf = true := by
  rw [List.getElem?_eq_getElem hj] at h
  obtain ⟨z, h1, _, h2⟩ := DataW.trod_int ht h
  exact ⟨z, h1, h2⟩
/-- What the form's reach gives of the j-th argument. -/
theorem reach_of {P : Program} {ts : List TypeId} {ds : List (DataW H)} (h : (DataW.weightsEach P ts ds).all (· ≤ reachBytes) = true) {j : Nat} {t : TypeId} {d : DataW H} (ht : ts[j]? = some t) (hd : ds[j]? = some d) : ∀ n ∈ d.weights P t, n ≤ 140737488351232 := fun n hn => by
  have := List.all_eq_true.1 h n (DataW.weights_mem_each ht hd n hn)
  exact (of_decide_eq_true this : n ≤ reachBytes)
end

end Go.Proofs.Ytepdajhgfdjklaa.Ow
