/-
  Contracts of the document's own functions of layer 1 that put, of bytes.Clone, and of Same.
-/
import Derived.Test.YtmhmnkpaijoaaaaGreatQ04
import Derived.Deep.QuietTactic
import Derived.BigQuiet
namespace Go.Proofs.YtmhmnkpaijoaaaaGreat.Cd
set_option linter.unusedSimpArgs false
set_option linter.unusedVariables false
open Go Go.RowKit Ck Ca Cb

theorem one_new (w : World) (X : Nat → Prop) (t : TypeId) {z : Int} {n : Nat} (hz : z = (n : Int)) (hn : n < 256) (hX : ¬ X w.heap.size) : Sl (w.alloc (.cells #[.int .u8 z] t)) X 1 (.slice (some ⟨w.heap.size, 0, none⟩) 1 1) 1 (BVs [UInt8.ofNat n]) :=
  ⟨_, _, rfl, rfl, Nat.le_refl _, by simp only [maxLen]; omega, fun _ => ⟨_, rfl, by simp, hX, fun j u hu => cell_one_new w _ t j u (by subst hz; rw [← BV_of hn]; simpa [BVs] using hu)⟩⟩

set_option maxRecDepth 100000 in
set_option maxHeartbeats 400000 in
theorem rputnum_any (X : Nat → Prop) (v : Value) (n : Nat) (b : List UInt8) (m : Nat) (w : World) (hv : Sl w X 1 v n (BVs b)) (hn : n ≤ 140737488355318) (hm : m < 18446744073709551616) :
    Calls Tryz.prog 88 #[v, .int .u64 m] w fun e w' => Made w 5 (b ++ Cm.enc m) e w' := by
  have hnl : n = b.length := by obtain ⟨A, c, _, h, _⟩ := hv; rw [BVs_len] at h; omega
  subst hnl
  have hlen := Cm.enc_len m
  obtain ⟨i0, hi0, hz0, hz1, hz2⟩ := info_parts info_u8
  have HM := Lib.hid hm
  clear hm
  go_enter Tryz.func88, Tryz.ntmps88
  go_wp2_with (at_builtin; refine wpList_append_sl _ rfl (.tmp 6) (.tmp 7) _ rfl w.heap.size 5 i0 _ 1 1 Tryz.underlying32 hi0 hz0 hz1 hz2 rfl (by omega) (.slice none 0 0) 0 [] rfl (World.ownsRow_nil _ _ _ _) X v b.length (BVs b) rfl hv (BVs_one _) (by simp only [maxLen]; omega) (by omega) (Nat.le_refl _) ?_; intro v1 w1 happ)
  have hb1 : Below w.heap.size w w1 := below_of_grown happ.2.1 (by simp [Value.ownBlock])
  have hown1 : w1.ownsRow w.heap.size 5 1 v1 b.length (BVs b) := by simpa using happ.1
  clear happ
  go_loopw [5, 1] (fun u a wr => ∃ (k : Nat) (pre : List UInt8), a = .int .u64 k ∧ wr.ownsRow w.heap.size 5 1 u (b ++ pre).length (BVs (b ++ pre)) ∧ pre ++ Cm.enc k = Cm.enc m ∧ k < 18446744073709551616 ∧ Below w.heap.size w wr)
    (fun _ a _ => (intOf a).toNat)
  case atStart => exact ⟨m, [], rfl, by simpa using hown1, rfl, HM.out, hb1⟩
  case round =>
    obtain ⟨k, pre, rfl, hown, hpre, hk, hbr⟩ := hrel
    have hl2 := congrArg List.length hpre
    rw [List.length_append] at hl2
    have hlk := Cm.enc_len k
    have hpl : pre.length ≤ 9 := by omega
    have HP := Lib.hid hpre
    clear hpre hl2 hlk
    have hsz := hbr.size
    by_cases hbig : 128 ≤ k
    · go_wp2_with (at_builtin; refine wpList_append_sl _ rfl (.tmp 11) (.tmp 16) _ rfl w.heap.size 5 i0 _ 1 1 Tryz.underlying32 hi0 hz0 hz1 hz2 rfl (by omega) u5 (b ++ pre).length (BVs (b ++ pre)) rfl (hown.alloc _) (fun _ => False) _ 1 (BVs [UInt8.ofNat (k % 128 + 128)]) rfl (one_new wr _ _ (by omega) (by omega) (fun h => h)) (BVs_one _) (by rw [List.length_append]; simp only [maxLen]; omega) (by rw [List.length_append]; omega) (Nat.le_trans hbr.size (by simp)) ?_; intro v2 w2 happ)
      go_roundw
      case rel =>
        have R := Onto.of (k := [UInt8.ofNat (k % 128 + 128)]) ((Below.refl wr.heap.size wr).alloc (Nat.le_refl _) _) happ
        obtain ⟨v3, he, hown3, hg3, hr3⟩ := R
        injection he with he
        rw [← he] at hown3 
        refine ⟨k / 128, pre ++ [UInt8.ofNat (k % 128 + 128)], by simp, ?_, ?_, ?_, ?_⟩
        · rw [← List.append_assoc]; exact hown3
        · rw [← HP.out, Cm.enc_big hbig hk, List.append_assoc]; rfl
        · omega
        · exact hbr.grown hg3 hbr.size (fun g hg => (hown.lt g hg).1)
      case measure => simp [intOf]; omega
    · have hsm : k < 128 := by omega
      go_wp2_with (at_builtin; refine wpList_append_sl _ rfl (.tmp 20) (.tmp 23) _ rfl w.heap.size 5 i0 _ 1 1 Tryz.underlying32 hi0 hz0 hz1 hz2 rfl (by omega) u5 (b ++ pre).length (BVs (b ++ pre)) rfl (hown.alloc _) (fun _ => False) _ 1 (BVs [UInt8.ofNat (k)]) rfl (one_new wr _ _ (by omega) (by omega) (fun h => h)) (BVs_one _) (by rw [List.length_append]; simp only [maxLen]; omega) (by rw [List.length_append]; omega) (Nat.le_trans hbr.size (by simp)) ?_; intro v2 w2 happ)
      go_ret
      have R := Onto.of (k := [UInt8.ofNat k]) ((Below.refl wr.heap.size wr).alloc (Nat.le_refl _) _) happ
      obtain ⟨v3, he, hown3, hg3, hr3⟩ := R
      refine ⟨v3, he, ?_, hbr.grown hg3 hbr.size (fun g hg => (hown.lt g hg).1)⟩
      rw [← HP.out, Cm.enc_small hsm, ← List.append_assoc]
      exact hown3

set_option maxHeartbeats 400000 in
theorem rputbytes_any (X Y : Nat → Prop) (v x : Value) (n k : Nat) (b l : List UInt8) (w : World) (hv : Sl w X 1 v n (BVs b)) (hx : Sl w Y 1 x k (BVs l)) (hn : n ≤ 140737488355318) (hk : n + k ≤ 140737488355318) :
    Calls Tryz.prog 90 #[v, x] w fun e w' => Made w 5 (b ++ Cm.encB l) e w' := by
  have hnl : n = b.length := by obtain ⟨A, c, _, h, _⟩ := hv; rw [BVs_len] at h; omega
  have hkl : k = l.length := by obtain ⟨A, c, _, h, _⟩ := hx; rw [BVs_len] at h; omega
  subst hnl; subst hkl
  have hlen := Cm.enc_len l.length
  obtain ⟨i0, hi0, hz0, hz1, hz2⟩ := info_parts info_u8
  have hx' := hx
  obtain ⟨A, c, rfl, -⟩ := hx'
  go_enter Tryz.func90, Tryz.ntmps90
  go_wp2_with (first
    | (go_at_call 88; refine (rputnum_any X v b.length b l.length _ hv (by omega) (by omega)).mono ?_; rintro e w1 ⟨v1, rfl, hown1, hb1⟩)
    | (at_builtin; refine wpList_append_sl _ rfl (.tmp 9) (.tmp 10) _ rfl w.heap.size 5 i0 _ 1 1 Tryz.underlying32 hi0 hz0 hz1 hz2 rfl (by omega) v1 (b ++ Cm.enc l.length).length (BVs (b ++ Cm.enc l.length)) rfl hown1 Y _ l.length (BVs l) rfl (hx.after hb1) (BVs_one _) (by rw [List.length_append]; simp only [maxLen]; omega) (by rw [List.length_append]; omega) hb1.size ?_; intro v2 w2 happ))
  go_ret
  have R := Made.onto hown1 hb1 (Onto.of (Below.refl _ _) happ)
  rw [Cm.encB, ← List.append_assoc]
  exact R

set_option maxHeartbeats 400000 in
theorem clone_any (X : Nat → Prop) (v : Value) (n : Nat) (b : List UInt8) (w : World) (hv : Sl w X 1 v n (BVs b)) (hn : n ≤ 140737488355328) :
    Calls Tryz.prog 152 #[v] w fun e w' => Made w 5 b e w' := by
  have hnl : n = b.length := by obtain ⟨A, c, _, h, _⟩ := hv; rw [BVs_len] at h; omega
  subst hnl
  obtain ⟨i0, hi0, hz0, hz1, hz2⟩ := info_parts info_u8
  have hv' := hv
  obtain ⟨A, c, rfl, -⟩ := hv'
  have heq := fun (W : World) => Lib.run_eql_slice_nil (P := Tryz.prog) W 32 5 A b.length c 0 0 Tryz.underlying32
  rcases A with _ | ad
  · obtain ⟨h0, _⟩ := hv.none_
    have hb : b = [] := List.eq_nil_of_length_eq_zero h0
    subst hb
    simp only [List.length_nil] at heq
    clear hv h0
    go_enter Tryz.func152, Tryz.ntmps152
    go_wp2
    go_ret
    exact ⟨_, rfl, World.ownsRow_nil _ _ _ _, Below.refl _ _⟩
  · go_enter Tryz.func152, Tryz.ntmps152
    go_wp2_with (at_builtin; refine wpList_append_sl _ rfl (.tmp 5) (.tmp 6) _ rfl w.heap.size 5 i0 _ 1 1 Tryz.underlying32 hi0 hz0 hz1 hz2 rfl (by omega) (.slice (some ⟨w.heap.size, 0, none⟩) 0 0) 0 [] rfl (World.ownsRow_made w #[] 0 (Nat.le_refl _) (by simp only [maxLen]; omega) rfl) X _ b.length (BVs b) rfl (hv.alloc _) (BVs_one _) (by simp only [maxLen]; omega) (by omega) (by simp) ?_; intro v2 w2 happ)
    go_ret
    refine ⟨v2, rfl, by simpa using happ.1, ?_⟩
    exact ((Below.refl _ _).alloc (Nat.le_refl _) _).grown happ.2.1 (by simp) (by simp [Value.ownBlock])

end Go.Proofs.YtmhmnkpaijoaaaaGreat.Cd

/-
  Contracts of layer 1's reader: numbers.
-/
namespace Go.Proofs.YtmhmnkpaijoaaaaGreat.Cf
set_option linter.unusedSimpArgs false
set_option linter.unusedVariables false
open Go Go.RowKit Ck Ca Cb

theorem Sl_at {w : World} {X : Nat → Prop} {A : Option Addr} {n c : Nat} {l : List UInt8} (h : Sl w X 1 (.slice A n c) n (BVs l)) {k : Nat} (hk : k < l.length) : ∃ ad, A = some ad ∧ w.cell? (ad.add k) = some (.int .u8 (l[k].toNat : Int)) := by
  obtain ⟨A0, c0, hv, hl, hc, hm, hx⟩ := h
  injection hv with e1 e2 e3
  rw [BVs_len] at hl
  obtain ⟨ad, hA, hb, hX, hcell⟩ := hx (by omega)
  exact ⟨ad, e1.trans hA, hcell k _ (BVs_get hk)⟩

theorem slice_upto (A : Option Addr) (n c k : Nat) (hk : k ≤ c) (W : World) : (Instr.slice 32 (.slice A n c) none (some (.int .i64 (k : Int))) none).run Tryz.prog W = .ok (.slice A k c) W := by
  have he : ∀ W : World, (sizeOf (Tryz.prog.elem 32)).run Tryz.prog W = .ok 1 W := fun _ => by kernel_rfl
  rw [run_slice_h W 32 A n c (by kernel_rfl) .i64 k (by omega) (by omega), he]
  simp only [Result.andThen_ok, sliced, Int.toNat_natCast]
  congr 2
  by_cases h0 : c = 0
  · simp [h0]
  · cases A <;> simp [h0, Addr.add]

end Go.Proofs.YtmhmnkpaijoaaaaGreat.Cf
