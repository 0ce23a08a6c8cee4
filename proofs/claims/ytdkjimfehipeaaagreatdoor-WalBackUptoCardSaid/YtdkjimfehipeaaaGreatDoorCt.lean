/-
  Opening a law's arguments into lists of bytes, and closing its row: the result is true and the arguments read as they did.
-/
import Derived.Test.YtdkjimfehipeaaaGreatDoorCk
import Derived.Test.YtdkjimfehipeaaaGreatDoorCm
import Derived.Test.YtdkjimfehipeaaaGreatDoorBulk
import Derived.ProofKit
import Derived.OpenShut
import Derived.JoinedCond
import Derived.Deep.Slices
namespace Go.Proofs.YtdkjimfehipeaaaGreatDoor.Ct
open Go Go.RowKit Go.ChangeShapes Go.WideShapes Go.ChangeAt Go.Deep Ck

section
variable {H : Type} {enc : TypeId × Value → H} {P : Program}

theorem trodAll_below (hl : laidOutB P = true) : ∀ (ts : List TypeId) (vs : List Value) (ds : List (DataW H)) (ps : List MemPlace) {W W' : World} {sp : Nat → Bool},
    (ts.all fun t => P.readableRec t && decide (t < P.types.size)) = true → DataW.TrodAll enc P W 0 (fun _ => true) true ts vs ds ps → Below W.heap.size W W' →
    (∀ x ∈ ps, x.block < W.heap.size) → (∀ x ∈ ps, sp x.block = true) → DataW.TrodAll enc P W' 0 sp true ts vs ds ps
  | [], [], [], ps, W, W', sp, _, h, _, _, _ => h
  | t :: ts, v :: vs, d :: ds, ps, W, W', sp, hr, h, hb, hlt, hs => by
    obtain ⟨p, q, h1, h2, rfl⟩ := h
    simp only [List.all_cons, Bool.and_eq_true, decide_eq_true_eq] at hr
    refine ⟨p, q, ?_, ?_, rfl⟩
    · exact WideElems.Trod_stays hl hr.1.1 hr.1.2 h1 (fun x hx => hb.same (hlt x (by simp [hx]))) (fun x hx => hs x (by simp [hx]))
    · exact trodAll_below hl ts vs ds q (by simpa using hr.2) h2 hb (fun x hx => hlt x (by simp [hx])) (fun x hx => hs x (by simp [hx]))
  | [], [], _ :: _, _, _, _, _, _, h, _, _, _ => h.elim
  | [], _ :: _, _, _, _, _, _, _, h, _, _, _ => h.elim
  | _ :: _, [], _, _, _, _, _, _, h, _, _, _ => h.elim
  | _ :: _, _ :: _, [], _, _, _, _, _, h, _, _, _ => h.elim

/-- THE ROW's LAST STEP, for a law that answers true and leaves what was there as it was. -/
theorem law_post {f : Func} {s : ChangeSpec} {W W' : World} {args : Array Value} {ds gs : List (DataW H)} {before : List MemPlace} {tb : TypeId} (hl : laidOutB P = true) (hr : (f.params.toList.all fun t => P.readableRec t && decide (t < P.types.size)) = true)
    (hv : s.vars = []) (ht : f.resultTypes = #[tb]) (htb : P.underlying tb = some .bool) (hW : DataW.Whole enc P f.params.toList s.vars false W args.toList ds gs before)
    (hsr : (s.fn H (ds ++ gs)).results = [.lit (.bool true)]) (hsa : (s.fn H (ds ++ gs)).args = ds) (hsv : (s.fn H (ds ++ gs)).vars = []) (hb : Below W.heap.size W W') : s.post enc P f false true false false W args (.bool true) W' := by
  have hlt : ∀ p ∈ before, p.block < W.heap.size := fun p hp => hW.lt p hp
  have hW2 := hW
  obtain ⟨p, q, hA, hV, rfl, _, _⟩ := hW2
  rw [hv] at hV
  obtain ⟨rfl, rfl⟩ := trodVars_none hV
  have hold : ∀ x ∈ p, (fun b => decide (b < W.heap.size)) x.block = true := fun x hx => by simpa using hlt x (by simp [hx])
  refine ⟨ds, [], p ++ [], [], p, [], hW, ?_, ?_, ?_, World.keptBut_mono (fun x hx => ⟨hx, ?_⟩) (hb.frame (· ∈ p ++ [])), fun h => by cases h⟩
  · rw [hsr, ht]
    exact trodAll_cons_mk (shut_bool htb true) trodAll_mk0
  · rw [hsa]
    exact trodAll_below hl _ _ _ _ hr hA hb (fun x hx => hlt x (by simp [hx])) hold
  · rw [hsv, hv]
    rfl
  · rw [List.append_nil] at hx
    exact .inr (.inl hx)
end

section
variable {H : Type} {enc : TypeId × Value → H}
theorem cells_u8 : Tryz.prog.cellsOf 5 = 1 := by kernel_rfl
theorem cells_sl : Tryz.prog.cellsOf 22 = 1 := by kernel_rfl

theorem ofNat_int {z : Int} (h : (Lit.int .u8 z).wf = true) : ((UInt8.ofNat z.toNat).toNat : Int) = z := by
  have h2 : 0 ≤ z ∧ z ≤ 255 := by simpa [Lit.wf, IntKind.min, IntKind.max, IntKind.signed, IntKind.bits] using h
  rw [Cm.toNat_ofNat (by omega)]
  omega

/-- A slice of bytes. -/
theorem open_bytes {w : World} {fuel : Nat} {base : Nat} {v : Value} {x : DataW H × List MemPlace} (h : DataW.trod enc Tryz.prog w base (fun _ => true) true fuel 22 [v] = some x) :
    ∃ b : List UInt8, Sl w (fun k => w.heap.size ≤ k) 1 v b.length (BVs b) ∧ b.length ≤ Rows.uptoBulk x.1 := by
  rcases open_ints Tryz.underlying22 Tryz.underlying5 cells_u8 h with ⟨hcs, rfl⟩ | ⟨a, len, cap, zs, hcs, _, hl, hm, hz, rfl, hc, hw⟩
  · obtain rfl : v = .slice none 0 0 := by simpa using hcs
    exact ⟨[], Sl.nil _ _ _, Nat.zero_le _⟩
  · obtain rfl : v = .slice (some a) len cap := by simpa using hcs
    simp only [if_true] at hz
    have hbl : ((zs.take len).map fun z => UInt8.ofNat z.toNat).length = len := by simp only [List.length_map, List.length_take]; omega
    refine ⟨(zs.take len).map fun z => UInt8.ofNat z.toNat, ?_, ?_⟩
    · refine ⟨some a, cap, by rw [hbl], by rw [BVs_len]; omega, by omega, hm, fun hn => ?_⟩
      rw [hbl] at hn
      have h0 := hc 0 (by omega)
      refine ⟨a, rfl, by have := World.block_lt_of_cell? w _ h0; rw [add_block] at this; exact this, by have := World.block_lt_of_cell? w _ h0; rw [add_block] at this; omega, fun j u hu => ?_⟩
      have hj : j < (BVs ((zs.take len).map fun z => UInt8.ofNat z.toNat)).length := (List.getElem?_eq_some_iff.1 hu).1
      rw [BVs_len, hbl] at hj
      rw [hc j (by omega), ← hu]
      have hjz : j < zs.length := by omega
      simp only [BVs, BV, List.map_map, List.getElem?_map, List.getElem?_take, if_pos hj, List.getElem?_eq_getElem hjz, Option.map_some, Function.comp, List.getD_eq_getElem?_getD, Option.getD_some]
      rw [ofNat_int (hw _ (List.getElem_mem hjz))]
    · have := Bulk.slice_len (H := H) (lits .u8 (zs.take len)) (lits .u8 (zs.drop len))
      rw [hbl]
      simp only [lits, List.length_map, List.length_take] at this ⊢
      omega

theorem encP_bulk (f : Nat → List UInt8) (D : Nat → DataW H) : ∀ l : List Nat, (∀ r ∈ l, (f r).length ≤ Rows.uptoBulk (D r)) → (Cm.encP (l.map f)).length ≤ 11 * Rows.uptoBulkAll (l.map D)
  | [], _ => by simp [Cm.encP, Rows.uptoBulkAll]
  | r :: l, h => by
    have h1 := encP_bulk f D l (fun r hr => h r (by simp [hr]))
    have h2 := h r (by simp)
    have h3 := Cm.enc_len (f r).length
    have h4 := Bulk.one_le (D r)
    simp only [List.map_cons, Cm.encP, List.length_append, Cm.encB_len, Rows.uptoBulkAll]
    omega

/-- A slice of slices of bytes. -/
theorem open_lists {w : World} {fuel : Nat} {base : Nat} {v : Value} {x : DataW H × List MemPlace} (h : DataW.trod enc Tryz.prog w base (fun _ => true) true fuel 54 [v] = some x) :
    ∃ ls : List (List UInt8), Ls w (fun k => w.heap.size ≤ k) v ls ∧ (Cm.encP ls).length ≤ 11 * Rows.uptoBulk x.1 := by
  rcases open_slice1 Tryz.underlying54 cells_sl h with ⟨hcs, rfl⟩ | ⟨a, len, cap, m, n, V, D, Pl, hcs, _, hl, hm, hmm, rfl, hx⟩
  · obtain rfl : v = .slice none 0 0 := by simpa using hcs
    exact ⟨[], ⟨[], Sl.nil _ _ _, fun i hi => absurd hi (by simp)⟩, by simp [Cm.encP]⟩
  · obtain rfl : v = .slice (some a) len cap := by simpa using hcs
    simp only [if_true] at hmm
    have each : ∀ r, ∃ b : List UInt8, r < len → w.cell? (a.add r) = some (V r) ∧ Sl w (fun k => w.heap.size ≤ k) 1 (V r) b.length (BVs b) ∧ b.length ≤ Rows.uptoBulk (D r) := by
      intro r
      by_cases hr : r < len
      · obtain ⟨hc, ht⟩ := hx r (by omega)
        obtain ⟨b, hb1, hb2⟩ := open_bytes ht
        exact ⟨b, fun _ => ⟨hc, hb1, hb2⟩⟩
      · exact ⟨[], fun h => absurd h hr⟩
    obtain ⟨f, hf⟩ := Classical.axiomOfChoice each
    refine ⟨(List.range len).map f, ⟨(List.range len).map V, ?_, fun i hi => ?_⟩, ?_⟩
    · refine ⟨some a, cap, by simp, by simp, by simpa using hl, hm, fun hn => ?_⟩
      have hn' : 0 < len := by simpa using hn
      have h0 := (hf 0 hn').1
      refine ⟨a, rfl, by have := World.block_lt_of_cell? w _ h0; rw [add_block] at this; exact this, by have := World.block_lt_of_cell? w _ h0; rw [add_block] at this; omega, fun j u hu => ?_⟩
      have hj : j < ((List.range len).map V).length := (List.getElem?_eq_some_iff.1 hu).1
      simp only [List.length_map, List.length_range] at hj
      rw [(hf j hj).1, ← hu]
      simp [hj]
    · have hi' : i < len := by simpa using hi
      refine ⟨V i, by simp [hi'], ?_⟩
      simpa using (hf i hi').2.1
    · have h1 := encP_bulk f D (List.range len) (fun r hr => (hf r (by simpa using hr)).2.2)
      have h2 := Bulk.slice_elems (H := H) ((List.range len).map D) ((List.range (m - len)).map fun j => D (len + j))
      exact Nat.le_trans h1 (Nat.mul_le_mul_left 11 (Nat.le_of_succ_le h2))
end

end Go.Proofs.YtdkjimfehipeaaaGreatDoor.Ct
