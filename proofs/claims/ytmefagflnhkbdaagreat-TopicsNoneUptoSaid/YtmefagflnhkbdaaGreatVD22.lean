/-
  Layer 7: opening a placed record, by its bulk.
-/
import Derived.Test.YtmefagflnhkbdaaGreatVD03
import Derived.Test.YtmefagflnhkbdaaGreatVD20
import Derived.Test.YtmefagflnhkbdaaGreatVD15
namespace Go.Proofs.YtmefagflnhkbdaaGreat.Xq
set_option linter.unusedSimpArgs false
open Go Go.RowKit Go.ChangeShapes Go.WideShapes Go.ChangeAt Go.Deep Ck Kp Pm Pe Py Xo
set_option linter.unusedVariables false

section
variable {H : Type} {enc : TypeId × Value → H}
theorem mem_le : ∀ {l : List (DataW H)} {d : DataW H}, d ∈ l → Rows.uptoBulk d ≤ Rows.uptoBulkAll l
  | [], _, h => by cases h
  | x :: l, d, h => by
    rw [Rows.uptoBulkAll]
    rcases List.mem_cons.1 h with h | h
    · subst h; omega
    · have := mem_le h; omega
theorem cells_placed : Tryz.prog.cellsOf 69 = 3 := by kernel_rfl
theorem cells_rec1 : Tryz.prog.cellsOf 67 = 1 := by kernel_rfl
theorem open_recB {w : World} {fuel : Nat} {base : Nat} {v : Value} {x : DataW H × List MemPlace} (h : DataW.trod enc Tryz.prog w base (fun _ => true) true fuel 67 [v] = some x) :
    ∃ b : List UInt8, Sl w (fun k => w.heap.size ≤ k) 1 v b.length (BVs b) ∧ b.length ≤ Rows.uptoBulk x.1 := by
  rcases open_ints Tryz.underlying67 Tryz.underlying5 cells_u8 h with ⟨hcs, rfl⟩ | ⟨a, len, cap, zs, hcs, _, hl, hm, hz, rfl, hc, hw⟩
  · obtain rfl : v = .slice none 0 0 := by simpa using hcs
    exact ⟨[], Sl.nil _ _ _, Nat.zero_le _⟩
  · obtain rfl : v = .slice (some a) len cap := by simpa using hcs
    simp only [if_true] at hz
    have hbl : ((zs.take len).map fun z => UInt8.ofNat z.toNat).length = len := by simp only [List.length_map, List.length_take]; omega
    refine ⟨(zs.take len).map fun z => UInt8.ofNat z.toNat, ?_, ?_⟩
    · refine ⟨some a, cap, by rw [hbl], by rw [BVs_len]; omega, by omega, hm, fun hn => ?_⟩
      rw [hbl] at hn
      have h0 := hc 0 (by omega)
      refine ⟨a, rfl, by have := World.block_lt_of_cell? w _ h0; rw [add_block] at this; exact this, by have := World.block_lt_of_cell? w _ h0; rw [add_block] at this; omega, fun j u hu => ?_⟩
      have hj : j < (BVs ((zs.take len).map fun z => UInt8.ofNat z.toNat)).length := (List.getElem?_eq_some_iff.1 hu).1
      rw [BVs_len, hbl] at hj
      rw [hc j (by omega), ← hu]
      have hjz : j < zs.length := by omega
      simp only [BVs, BV, List.map_map, List.getElem?_map, List.getElem?_take, if_pos hj, List.getElem?_eq_getElem hjz, Option.map_some, Function.comp, List.getD_eq_getElem?_getD, Option.getD_some]
      rw [ofNat_int (hw _ (List.getElem_mem hjz))]
    · have := Bulk.slice_len (H := H) (lits .u8 (zs.take len)) (lits .u8 (zs.drop len))
      rw [hbl]
      simp only [lits, List.length_map, List.length_take] at this ⊢
      omega
set_option maxRecDepth 100000 in
theorem open_placed {w : World} {base : Nat} {fuel : Nat} {cs : List Value} {x : DataW H × List MemPlace} (h : DataW.trod enc Tryz.prog w base (fun _ => true) true fuel 69 cs = some x) :
    ∃ (p : Pl3) (u : Value), cs = [.string ⟨p.1.toArray⟩, .int .i64 p.2.1, u] ∧ Sl w (fun k => w.heap.size ≤ k) 1 u p.2.2.length (BVs p.2.2) ∧ p.1.length ≤ Rows.uptoBulk x.1 ∧ p.2.2.length ≤ Rows.uptoBulk x.1 ∧ p.2.1 ≤ 9223372036854775807 := by
  obtain ⟨xs, n', _, hx, hl, hxl, hf⟩ := DataW.trod_struct Tryz.underlying69 h
  rw [cells_placed] at hl
  have hxl' : xs.length = 3 := hxl
  match cs, hl with
  | [v0, v1, v2], _ =>
    have f0 : DataW.trod enc Tryz.prog w base (fun _ => true) true n' 9 (([v0, v1, v2].drop 0).take (Tryz.prog.cellsOf 9)) = xs[0]? := hf 0 _ rfl
    have f1 : DataW.trod enc Tryz.prog w base (fun _ => true) true n' 2 (([v0, v1, v2].drop 1).take (Tryz.prog.cellsOf 2)) = xs[1]? := hf 1 _ rfl
    have f2 : DataW.trod enc Tryz.prog w base (fun _ => true) true n' 67 (([v0, v1, v2].drop 2).take (Tryz.prog.cellsOf 67)) = xs[2]? := hf 2 _ rfl
    rw [cells_str] at f0
    rw [cells_i64] at f1
    rw [cells_rec1] at f2
    simp only [List.drop_zero, List.drop_succ_cons, List.take_succ_cons, List.take_zero] at f0 f1 f2
    rw [List.getElem?_eq_getElem (by omega)] at f0
    obtain ⟨s, e0, e0', _⟩ := DataW.trod_string Tryz.underlying9 f0
    obtain ⟨z1, e1, w1⟩ := one_int Tryz.underlying2 (by omega) f1
    rw [List.getElem?_eq_getElem (by omega)] at f2
    obtain ⟨b, hb, hbl⟩ := open_recB f2
    have b1 : -9223372036854775808 ≤ z1 ∧ z1 ≤ 9223372036854775807 := by simpa [Lit.wf, IntKind.min, IntKind.max, IntKind.signed, IntKind.bits] using w1
    simp only [List.cons.injEq, and_true] at e0 e1
    have hm : ∀ (j : Nat) (hj : j < xs.length), Rows.uptoBulk xs[j].1 ≤ Rows.uptoBulk x.1 := fun j hj => by
      rw [hx, Rows.uptoBulk]
      have := mem_le (List.mem_map.2 ⟨xs[j], List.getElem_mem hj, rfl⟩ : xs[j].1 ∈ xs.map (·.1))
      omega
    have q0 := hm 0 (by omega)
    rw [e0', Rows.uptoBulk] at q0
    have q2 := hm 2 (by omega)
    refine ⟨(s.data.toList, z1, b), v2, by rw [e0, e1], hb, ?_, Nat.le_trans hbl q2, b1.2⟩
    show s.data.toList.length ≤ _
    omega
end
end Go.Proofs.YtmefagflnhkbdaaGreat.Xq
