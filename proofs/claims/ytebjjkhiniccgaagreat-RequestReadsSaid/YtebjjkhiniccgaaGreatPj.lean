/-
  Layer 6 (op): the contracts of slices.Grow, slices.Concat, strings.Clone.
-/
import Derived.Test.YtebjjkhiniccgaaGreatPa
import Derived.Test.YtebjjkhiniccgaaGreatW3
import Derived.Lib.AppendZeros
import Derived.Lib.AppendZerosOnto
import Derived.Lib.BufferWrite
import Derived.Lib.UnsafeStr
import Derived.Lib.Strings
import Derived.Lib.Walk
import Derived.Laws.MakeOwn
import Derived.Outline
namespace Go.Proofs.YtebjjkhiniccgaaGreat.Pj
set_option linter.unusedSimpArgs false
open Go Go.RowKit Ck Kw Ca Cb Pm Pa
set_option linter.unusedVariables false

set_option maxRecDepth 100000 in
set_option maxHeartbeats 1000000 in
theorem grow_any (n : Nat) (hn : n ≤ 140737488355328) (w : World) :
    Calls Tryz.prog 122 #[.slice none 0 0, .int .i64 n] w fun e w' => ∃ v, e = .returned v ∧ w'.ownsRow w.heap.size 5 1 v 0 [] ∧ Below w.heap.size w w' := by
  obtain ⟨i0, hi0, hz0, hz1, hz2⟩ := info_parts info_u8
  by_cases h0 : n = 0
  · subst h0
    go_enter Tryz.func122, Tryz.ntmps122
    go_wp2
    go_ret
    exact ⟨_, rfl, World.ownsRow_nil _ _ _ _, Below.refl _ _⟩
  · have hp : 0 < n := by omega
    have hrun := fun (W : World) (ty : TypeId) => Lib.run_append_nil_zeros (P := Tryz.prog) W 22 3 ty 5 i0 (.int .u8 0) .i64 .i64 Tryz.underlying22 Tryz.underlying3 hi0 hz0 n hp (by omega) (by omega) (by rw [hz2]; omega)
    have hge := fun (W : World) => grownCap_ge W n 0 5
    have hle := fun (W : World) => grownCap_le_maxLen W n 0 5 (by unfold maxLen; omega)
    generalize hG : grownCap w n 0 5 = G at *
    have hg1 := hge w
    have hg2 := hle w
    have hrw := hrun w
    rw [hG] at hg1 hg2 hrw
    have hg3 : G ≤ 9223372036854775807 := by unfold maxLen at hg2; exact hg2
    have HG2 := Lib.hid hg2
    have HRW := Lib.hid hrw
    have HG := Lib.hid hG
    have h0' : ¬ (G = 0) := by omega
    clear hrun hge hle hrw hG hg2 h0
    go_enter Tryz.func122, Tryz.ntmps122
    go_wp2_with (at_builtin; refine Lib.wpList_append_run _ rfl _ _ _ _ rfl _ _ rfl rfl _ _ (HRW.out _) ?_)
    go_ret
    refine ⟨_, rfl, ⟨by simp, .inr ⟨w.heap.size, G, _, rfl, Nat.le_refl _, heap_alloc_new w.drew _, Nat.zero_le _, HG2.out, ?_, by simp⟩⟩, ?_⟩
    · rw [Array.size_append, size_zeroCells, size_zeroCells]
      simp [Value.cells]
      omega
    · exact ((Below.refl _ w).drew).alloc (Nat.le_refl _) _

theorem flat_take {ls : List Tx} {k : Nat} (h : k < ls.length) : (ls.take (k + 1)).flatten = (ls.take k).flatten ++ ls[k] := by
  rw [List.take_succ_eq_append_getElem h, List.flatten_append]
  simp
theorem flat_le {ls : List Tx} (k : Nat) : (ls.take k).flatten.length ≤ ls.flatten.length := by
  have : ls.flatten = (ls.take k).flatten ++ (ls.drop k).flatten := by rw [← List.flatten_append, List.take_append_drop]
  rw [this, List.length_append]
  omega
set_option maxRecDepth 100000 in
set_option maxHeartbeats 2000000 in
theorem concat_any (w : World) (X : Nat → Prop) (A : Option Addr) (c : Nat) (ls : List Tx) (hls : Ls w X (.slice A ls.length c) ls) (hl : ls.length ≤ 1000000) (ht : ls.flatten.length ≤ 140737488355328) :
    Calls Tryz.prog 104 #[.slice A ls.length c] w fun e w' => Made w 5 ls.flatten e w' := by
  have HLS := Lib.hid hls
  have HT := Lib.hid ht
  obtain ⟨i0, hi0, hz0, hz1, hz2⟩ := info_parts info_u8
  clear hls ht
  go_enter Tryz.func104, Tryz.ntmps104
  go_wp2
  go_loop [3, 11] (fun z i => ∃ k : Nat, k ≤ ls.length ∧ i = .int .i64 k ∧ z = .int .i64 ((ls.take k).flatten.length : Nat)) (fun _ i => ls.length - (intOf i).toNat)
  case atStart => exact ⟨0, Nat.zero_le _, rfl, rfl⟩
  case round =>
    obtain ⟨k, hk, rfl, rfl⟩ := hrel
    have hle := flat_le (ls := ls) k
    by_cases hlt : k < ls.length
    · have hle1 := flat_le (ls := ls) (k + 1)
      have ht := HT.out
      obtain ⟨ad, B, d, rfl, hcell, -⟩ := HLS.out.at_ hlt
      have HF := Lib.hid (congrArg List.length (flat_take hlt))
      have hsum : (ls.take k).flatten.length + ls[k].length ≤ 140737488355328 := by
        have := HF.out
        rw [List.length_append] at this
        omega
      generalize hq : (ls.take k).flatten.length = q at *
      have HQ := Lib.hid hq
      clear hq hle hle1 ht
      go_wp2
      go_round
      case rel =>
        refine ⟨k + 1, by omega, by go_num, ?_⟩
        rw [HF.out, List.length_append, HQ.out]
        go_num
      case measure => simp [intOf]; omega
    · have hke : k = ls.length := by omega
      subst hke
      rw [List.take_length] at hle ⊢
      have ht := HT.out
      generalize hq : ls.flatten.length = q at *
      have HQ := Lib.hid hq
      clear hq hle
      go_wp2_with (go_at_call 122; refine (grow_any q ht _).mono ?_; rintro e w1 ⟨v1, rfl, hown1, hb1⟩)
      go_loopw [6, 27] (fun u i wr => ∃ k : Nat, k ≤ ls.length ∧ i = .int .i64 k ∧ wr.ownsRow w.heap.size 5 1 u (ls.take k).flatten.length (BVs (ls.take k).flatten) ∧ Below w.heap.size w wr) (fun _ i _ => ls.length - (intOf i).toNat)
      case atStart => exact ⟨0, Nat.zero_le _, rfl, hown1, hb1⟩
      case round =>
        obtain ⟨k, hk, rfl, hown, hb⟩ := hrel
        have HB := Lib.hid hb
        by_cases hlt : k < ls.length
        · have hx := HLS.out.after hb
          obtain ⟨ad, B, d, rfl, hcell, hx⟩ := hx.at_ hlt
          have HF := Lib.hid (flat_take hlt)
          have HFL := Lib.hid (congrArg List.length (flat_take hlt))
          have hsum : (ls.take k).flatten.length + ls[k].length ≤ 140737488355328 := by
            have := flat_le (ls := ls) (k + 1)
            have h2 := HFL.out
            rw [List.length_append] at h2
            have := HQ.out
            omega
          have hsz := hb.size
          clear hb
          go_wp2_with (at_builtin; refine wpList_append_sl _ rfl (.tmp 31) (.tmp 32) _ rfl w.heap.size 5 i0 _ 1 1 Tryz.underlying22 hi0 hz0 hz1 hz2 rfl (by omega) u6 _ _ rfl hown X _ ls[k].length (BVs ls[k]) rfl hx (BVs_one _) (by simp only [maxLen]; omega) (by omega) hsz ?_; intro v2 w2 happ)
          go_roundw
          case rel =>
            refine ⟨k + 1, by omega, by go_num, ?_, HB.out.grown happ.2.1 hsz (fun g hg => (hown.lt g hg).1)⟩
            rw [HF.out, List.length_append, BVs_app]
            exact happ.1
          case measure => simp [intOf]; omega
        · have hke : k = ls.length := by omega
          subst hke
          rw [List.take_length] at hown
          go_wp2
          go_ret
          exact ⟨_, rfl, hown, HB.out⟩

set_option maxRecDepth 100000 in
set_option maxHeartbeats 2000000 in
theorem slclone_any (l : Tx) (w : World) (hlim : l.length ≤ 140737488355328) :
    Calls Tryz.prog 124 #[SV l] w fun e w' => e = .returned (SV l) ∧ Below w.heap.size w w' := by
  unfold SV
  have hsl := sv_size l
  generalize hs : ByteArray.mk l.toArray = s at *
  have hlim' : s.size ≤ 140737488355328 := by omega
  clear hs hsl hlim
  by_cases h0 : s.size = 0
  · have hs : s = ⟨#[]⟩ := by
      apply ByteArray.ext
      exact Array.eq_empty_of_size_eq_zero h0
    subst hs
    go_enter Tryz.func124, Tryz.ntmps124
    go_wp2
    go_ret
    exact ⟨rfl, Below.refl _ _⟩
  · obtain ⟨i0, hi, hz0, hz1, hz2⟩ := info_parts info_u8
    have hinfo : (Tryz.prog.info? 5).map (·.size) = some 1 := by rw [hi]; simp [hz1]
    have hco : Tryz.prog.cellsOf 5 = 1 := by simp [Program.cellsOf, hi, hz1]
    obtain ⟨M, hM⟩ : ∃ M, M = madeCells (Value.int .u8 0).cells (((s.size : Nat) : Int).toNat * i0.size) := ⟨_, rfl⟩
    have hMs : M.size = s.size := by rw [hM, size_madeCells, hz1]; simp
    have hmk : ∀ W : World, (Instr.makeSlice 22 (.int .i64 (s.size : Int)) (.int .i64 (s.size : Int))).run Tryz.prog W = .ok (.slice (some ⟨W.heap.size, 0, none⟩) s.size s.size) (W.alloc (.cells M 5)) := fun W => by
      have h := run_make (P := Tryz.prog) W 22 5 i0 (.int .u8 0) Tryz.underlying22 hi hz0 .i64 .i64 (s.size : Int) (s.size : Int) (by omega) (by omega) (by rw [hz2]; omega) (by omega)
      rw [← hM] at h
      simpa using h
    clear hM
    have hcp := Lib.run_copy_row_string (P := Tryz.prog) (w.alloc (.cells M 5)) 22 9 3 5 w.heap.size 0 s.size s.size s M 5 Tryz.underlying22 hinfo (heap_alloc_new w _) (Nat.le_refl _) (by omega)
    obtain ⟨Y, hY⟩ : ∃ Y, Y = (M.toList.take 0 ++ Lib.byteCells s.data.toList ++ M.toList.drop (0 + s.size)).toArray := ⟨_, rfl⟩
    rw [← hY] at hcp
    have hYl : Y.toList = Lib.byteCells s.data.toList := by
      rw [hY, List.toList_toArray, List.take_zero, List.nil_append, List.drop_of_length_le (by rw [Array.length_toList]; omega), List.append_nil]
    have hYs : Y.size = s.size := by rw [← Array.length_toList, hYl, Lib.byteCells_length, ← Lib.size_eq]
    have hgY : ((w.alloc (.cells M 5)).setRow w.heap.size Y).heap[w.heap.size]? = some (.cells Y 5 (0, 0)) := setRow_heap _ _ M _ 5 (0, 0) (heap_alloc_new w _)
    have hne : s.data.toList ≠ [] := fun e => h0 (by rw [Lib.size_eq, e]; rfl)
    have hUS := Lib.run_unsafeString_row (P := Tryz.prog) ((w.alloc (.cells M 5)).setRow w.heap.size Y) 172 3 9 5 Tryz.underlying172 hco w.heap.size Y.size (by unfold World.shape?; rw [hgY]) s.data.toList hne (by rw [← Lib.size_eq]; omega) (by rw [← Lib.size_eq]; omega)
      (fun j x hx => Lib.cells_of_row hgY Y.size j _ (by rw [List.take_of_length_le (by rw [Array.length_toList]; exact Nat.le_refl _), hYl]; simp [Lib.byteCells, hx]))
    rw [← Lib.size_eq] at hUS
    clear hY
    go_enter Tryz.func124, Tryz.ntmps124
    go_wp2
    go_ret
    have hb1 : Below w.heap.size w (w.alloc (.cells M 5)) := (Below.refl _ w).alloc (Nat.le_refl _) _
    have hb2 : Below w.heap.size (w.alloc (.cells M 5)) ((w.alloc (.cells M 5)).setRow w.heap.size Y) := ⟨rfl, rfl, rfl, by simp, fun k hk => setRow_other _ _ _ _ (by omega)⟩
    exact ⟨rfl, Lib.below_freeze (hb1.trans hb2) (p := ⟨w.heap.size, 0, none⟩) (Nat.le_refl _) _⟩

theorem sclone_any (l : Tx) (w : World) (hlim : l.length ≤ 140737488355328) :
    Calls Tryz.prog 109 #[SV l] w fun e w' => e = .returned (SV l) ∧ Below w.heap.size w w' := by
  have HC := Lib.hid (slclone_any l w hlim)
  unfold SV at HC ⊢
  go_enter Tryz.func109, Tryz.ntmps109
  go_wp2_with (go_at_call 124; refine HC.out.mono ?_; rintro e w1 ⟨rfl, hb⟩)
  go_ret
  exact ⟨rfl, hb⟩

end Go.Proofs.YtebjjkhiniccgaaGreat.Pj
