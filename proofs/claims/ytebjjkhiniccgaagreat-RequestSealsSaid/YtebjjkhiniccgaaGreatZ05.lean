/-
  Contracts of the document's own functions of layer 1 that put, of bytes.Clone, and of Same.
-/
import Derived.Test.YtebjjkhiniccgaaGreatZ04
import Derived.Deep.QuietTactic
import Derived.BigQuiet
import Derived.Test.YtebjjkhiniccgaaGreatZ03
namespace Go.Proofs.YtebjjkhiniccgaaGreat.Cd
set_option linter.unusedSimpArgs false
set_option linter.unusedVariables false
open Go Go.RowKit Ck Ca Cb

theorem one_new (w : World) (X : Nat → Prop) (t : TypeId) {z : Int} {n : Nat} (hz : z = (n : Int)) (hn : n < 256) (hX : ¬ X w.heap.size) : Sl (w.alloc (.cells #[.int .u8 z] t)) X 1 (.slice (some ⟨w.heap.size, 0, none⟩) 1 1) 1 (BVs [UInt8.ofNat n]) :=
  ⟨_, _, rfl, rfl, Nat.le_refl _, by simp only [maxLen]; omega, fun _ => ⟨_, rfl, by simp, hX, fun j u hu => cell_one_new w _ t j u (by subst hz; rw [← BV_of hn]; simpa [BVs] using hu)⟩⟩

set_option maxRecDepth 100000 in
set_option maxHeartbeats 400000 in
theorem rputnum_any (X : Nat → Prop) (v : Value) (n : Nat) (b : List UInt8) (m : Nat) (w : World) (hv : Sl w X 1 v n (BVs b)) (hn : n ≤ 140737488355318) (hm : m < 18446744073709551616) :
    Calls Tryz.prog 83 #[v, .int .u64 m] w fun e w' => Made w 5 (b ++ Cm.enc m) e w' := by
  have hnl : n = b.length := by obtain ⟨A, c, _, h, _⟩ := hv; rw [BVs_len] at h; omega
  subst hnl
  have hlen := Cm.enc_len m
  obtain ⟨i0, hi0, hz0, hz1, hz2⟩ := info_parts info_u8
  have HM := Lib.hid hm
  clear hm
  go_enter Tryz.func83, Tryz.ntmps83
  go_wp2_with (at_builtin; refine wpList_append_sl _ rfl (.tmp 6) (.tmp 7) _ rfl w.heap.size 5 i0 _ 1 1 Tryz.underlying22 hi0 hz0 hz1 hz2 rfl (by omega) (.slice none 0 0) 0 [] rfl (World.ownsRow_nil _ _ _ _) X v b.length (BVs b) rfl hv (BVs_one _) (by simp only [maxLen]; omega) (by omega) (Nat.le_refl _) ?_; intro v1 w1 happ)
  have hb1 : Below w.heap.size w w1 := below_of_grown happ.2.1 (by simp [Value.ownBlock])
  have hown1 : w1.ownsRow w.heap.size 5 1 v1 b.length (BVs b) := by simpa using happ.1
  clear happ
  go_loopw [5, 1] (fun u a wr => ∃ (k : Nat) (pre : List UInt8), a = .int .u64 k ∧ wr.ownsRow w.heap.size 5 1 u (b ++ pre).length (BVs (b ++ pre)) ∧ pre ++ Cm.enc k = Cm.enc m ∧ k < 18446744073709551616 ∧ Below w.heap.size w wr)
    (fun _ a _ => (intOf a).toNat)
  case atStart => exact ⟨m, [], rfl, by simpa using hown1, rfl, HM.out, hb1⟩
  case round =>
    obtain ⟨k, pre, rfl, hown, hpre, hk, hbr⟩ := hrel
    have hl2 := congrArg List.length hpre
    rw [List.length_append] at hl2
    have hlk := Cm.enc_len k
    have hpl : pre.length ≤ 9 := by omega
    have HP := Lib.hid hpre
    clear hpre hl2 hlk
    have hsz := hbr.size
    by_cases hbig : 128 ≤ k
    · go_wp2_with (at_builtin; refine wpList_append_sl _ rfl (.tmp 11) (.tmp 16) _ rfl w.heap.size 5 i0 _ 1 1 Tryz.underlying22 hi0 hz0 hz1 hz2 rfl (by omega) u5 (b ++ pre).length (BVs (b ++ pre)) rfl (hown.alloc _) (fun _ => False) _ 1 (BVs [UInt8.ofNat (k % 128 + 128)]) rfl (one_new wr _ _ (by omega) (by omega) (fun h => h)) (BVs_one _) (by rw [List.length_append]; simp only [maxLen]; omega) (by rw [List.length_append]; omega) (Nat.le_trans hbr.size (by simp)) ?_; intro v2 w2 happ)
      go_roundw
      case rel =>
        have R := Onto.of (k := [UInt8.ofNat (k % 128 + 128)]) ((Below.refl wr.heap.size wr).alloc (Nat.le_refl _) _) happ
        obtain ⟨v3, he, hown3, hg3, hr3⟩ := R
        injection he with he
        rw [← he] at hown3 
        refine ⟨k / 128, pre ++ [UInt8.ofNat (k % 128 + 128)], by simp, ?_, ?_, ?_, ?_⟩
        · rw [← List.append_assoc]; exact hown3
        · rw [← HP.out, Cm.enc_big hbig hk, List.append_assoc]; rfl
        · omega
        · exact hbr.grown hg3 hbr.size (fun g hg => (hown.lt g hg).1)
      case measure => simp [intOf]; omega
    · have hsm : k < 128 := by omega
      go_wp2_with (at_builtin; refine wpList_append_sl _ rfl (.tmp 20) (.tmp 23) _ rfl w.heap.size 5 i0 _ 1 1 Tryz.underlying22 hi0 hz0 hz1 hz2 rfl (by omega) u5 (b ++ pre).length (BVs (b ++ pre)) rfl (hown.alloc _) (fun _ => False) _ 1 (BVs [UInt8.ofNat (k)]) rfl (one_new wr _ _ (by omega) (by omega) (fun h => h)) (BVs_one _) (by rw [List.length_append]; simp only [maxLen]; omega) (by rw [List.length_append]; omega) (Nat.le_trans hbr.size (by simp)) ?_; intro v2 w2 happ)
      go_ret
      have R := Onto.of (k := [UInt8.ofNat k]) ((Below.refl wr.heap.size wr).alloc (Nat.le_refl _) _) happ
      obtain ⟨v3, he, hown3, hg3, hr3⟩ := R
      refine ⟨v3, he, ?_, hbr.grown hg3 hbr.size (fun g hg => (hown.lt g hg).1)⟩
      rw [← HP.out, Cm.enc_small hsm, ← List.append_assoc]
      exact hown3

set_option maxHeartbeats 400000 in
theorem rputbytes_any (X Y : Nat → Prop) (v x : Value) (n k : Nat) (b l : List UInt8) (w : World) (hv : Sl w X 1 v n (BVs b)) (hx : Sl w Y 1 x k (BVs l)) (hn : n ≤ 140737488355318) (hk : n + k ≤ 140737488355318) :
    Calls Tryz.prog 89 #[v, x] w fun e w' => Made w 5 (b ++ Cm.encB l) e w' := by
  have hnl : n = b.length := by obtain ⟨A, c, _, h, _⟩ := hv; rw [BVs_len] at h; omega
  have hkl : k = l.length := by obtain ⟨A, c, _, h, _⟩ := hx; rw [BVs_len] at h; omega
  subst hnl; subst hkl
  have hlen := Cm.enc_len l.length
  obtain ⟨i0, hi0, hz0, hz1, hz2⟩ := info_parts info_u8
  have hx' := hx
  obtain ⟨A, c, rfl, -⟩ := hx'
  go_enter Tryz.func89, Tryz.ntmps89
  go_wp2_with (first
    | (go_at_call 83; refine (rputnum_any X v b.length b l.length _ hv (by omega) (by omega)).mono ?_; rintro e w1 ⟨v1, rfl, hown1, hb1⟩)
    | (at_builtin; refine wpList_append_sl _ rfl (.tmp 9) (.tmp 10) _ rfl w.heap.size 5 i0 _ 1 1 Tryz.underlying22 hi0 hz0 hz1 hz2 rfl (by omega) v1 (b ++ Cm.enc l.length).length (BVs (b ++ Cm.enc l.length)) rfl hown1 Y _ l.length (BVs l) rfl (hx.after hb1) (BVs_one _) (by rw [List.length_append]; simp only [maxLen]; omega) (by rw [List.length_append]; omega) hb1.size ?_; intro v2 w2 happ))
  go_ret
  have R := Made.onto hown1 hb1 (Onto.of (Below.refl _ _) happ)
  rw [Cm.encB, ← List.append_assoc]
  exact R

set_option maxHeartbeats 400000 in
theorem clone_any (X : Nat → Prop) (v : Value) (n : Nat) (b : List UInt8) (w : World) (hv : Sl w X 1 v n (BVs b)) (hn : n ≤ 140737488355328) :
    Calls Tryz.prog 111 #[v] w fun e w' => Made w 5 b e w' := by
  have hnl : n = b.length := by obtain ⟨A, c, _, h, _⟩ := hv; rw [BVs_len] at h; omega
  subst hnl
  obtain ⟨i0, hi0, hz0, hz1, hz2⟩ := info_parts info_u8
  have hv' := hv
  obtain ⟨A, c, rfl, -⟩ := hv'
  have heq := fun (W : World) => Lib.run_eql_slice_nil (P := Tryz.prog) W 22 5 A b.length c 0 0 Tryz.underlying22
  rcases A with _ | ad
  · obtain ⟨h0, _⟩ := hv.none_
    have hb : b = [] := List.eq_nil_of_length_eq_zero h0
    subst hb
    simp only [List.length_nil] at heq
    clear hv h0
    go_enter Tryz.func111, Tryz.ntmps111
    go_wp2
    go_ret
    exact ⟨_, rfl, World.ownsRow_nil _ _ _ _, Below.refl _ _⟩
  · go_enter Tryz.func111, Tryz.ntmps111
    go_wp2_with (at_builtin; refine wpList_append_sl _ rfl (.tmp 5) (.tmp 6) _ rfl w.heap.size 5 i0 _ 1 1 Tryz.underlying22 hi0 hz0 hz1 hz2 rfl (by omega) (.slice (some ⟨w.heap.size, 0, none⟩) 0 0) 0 [] rfl (World.ownsRow_made w #[] 0 (Nat.le_refl _) (by simp only [maxLen]; omega) rfl) X _ b.length (BVs b) rfl (hv.alloc _) (BVs_one _) (by simp only [maxLen]; omega) (by omega) (by simp) ?_; intro v2 w2 happ)
    go_ret
    refine ⟨v2, rfl, by simpa using happ.1, ?_⟩
    exact ((Below.refl _ _).alloc (Nat.le_refl _) _).grown happ.2.1 (by simp) (by simp [Value.ownBlock])

end Go.Proofs.YtebjjkhiniccgaaGreat.Cd

/-
  Contracts of layer 1's reader.
-/
namespace Go.Proofs.YtebjjkhiniccgaaGreat.Ce
set_option linter.unusedSimpArgs false
set_option linter.unusedVariables false
open Go Go.RowKit Ck Ca Cb

/-- The reader's block. -/
abbrev CB (w : World) (g : Nat) (v : Value) (err : Int) : Prop := Blk w g 85 #[.bool true, v, .int .i64 err]
abbrev P_ (g : Nat) : Value := .pointer (some ⟨g, 0, none⟩)

theorem err_blk (w : World) (g : Nat) (v : Value) (err : Int) (h : CB w g v err) :
    Calls Tryz.prog 14 #[P_ g] w fun e w' => e = .returned (.int .i64 err) ∧ w = w' := by
  have h0 := h.cell 0
  have h2 := h.cell 2
  simp only [List.getElem?_toArray, List.getElem?_cons_zero, List.getElem?_cons_succ] at h0 h2
  clear h
  go_enter Tryz.func14, Tryz.ntmps14
  go_wp2
  go_ret
  exact ⟨rfl, rfl⟩
theorem reads_ok (w : World) (g : Nat) (v : Value) (h : CB w g v 0) :
    Calls Tryz.prog 60 #[P_ g] w fun e w' => e = .returned (.bool true) ∧ w = w' := by
  go_enter Tryz.func60, Tryz.ntmps60
  go_wp2_with (go_at_call 14; refine (err_blk _ g v 0 h).mono ?_; rintro e w1 ⟨rfl, rfl⟩)
  go_ret
  exact ⟨rfl, rfl⟩
theorem reads_no (w : World) (g : Nat) (v : Value) (err : Int) (h : CB w g v err) (he : err ≠ 0) :
    Calls Tryz.prog 60 #[P_ g] w fun e w' => e = .returned (.bool false) ∧ w = w' := by
  have he1 : (err == 0) = false := by rw [beq_eq_false_iff_ne]; exact he
  go_enter Tryz.func60, Tryz.ntmps60
  go_wp2_with (go_at_call 14; refine (err_blk _ g v err h).mono ?_; rintro e w1 ⟨rfl, rfl⟩)
  go_ret
  exact ⟨rfl, rfl⟩

/-- A reader in memory: what is left lies in no block of X. -/
def CR (w : World) (X : Nat → Prop) (g : Nat) (s : Cm.RS) : Prop :=
  ∃ A n c, CB w g (.slice A n c) s.2 ∧ Sl w (fun k => k = g ∨ X k) 1 (.slice A n c) n (BVs s.1) ∧ Cm.Good s
theorem CR.keep {w w' : World} {X : Nat → Prop} {g : Nat} {s : Cm.RS} (h : CR w X g s) (hs : w.heap.size ≤ w'.heap.size) (hk : ∀ b, b < w.heap.size → ¬ X b → w'.heap[b]? = w.heap[b]?) (hg : ¬ X g) : CR w' X g s := by
  obtain ⟨A, n, c, hb, hsl, hgd⟩ := h
  exact ⟨A, n, c, (hk g hb.lt hg).trans hb, hsl.keep hs fun b hb hX => hk b hb fun hx => hX (.inr hx), hgd⟩
theorem CR.weaken {w : World} {X Y : Nat → Prop} {g : Nat} {s : Cm.RS} (h : CR w X g s) (hk : ∀ b, b < w.heap.size → Y b → X b) : CR w Y g s := by
  obtain ⟨A, n, c, hb, hsl, hgd⟩ := h
  exact ⟨A, n, c, hb, hsl.weaken fun b hb hy => by
    rcases hy with hy | hy
    · exact .inl hy
    · exact .inr (hk b hb hy), hgd⟩
theorem CR.grown {w w' : World} {X : Nat → Prop} {g : Nat} {s : Cm.RS} {row : Option Nat} (h : CR w X g s) (hg : w.grownBy w' row) (hne : some g ≠ row) (hr : ∀ k, row = some k → k < w.heap.size → X k) : CR w' X g s := by
  obtain ⟨A, n, c, hb, hsl, hgd⟩ := h
  exact ⟨A, n, c, Blk.grown hb hg hne, hsl.grown hg fun k hk hlt => .inr (hr k hk hlt), hgd⟩
theorem CR.after {w w' : World} {X : Nat → Prop} {g : Nat} {s : Cm.RS} (h : CR w X g s) (hb : Below w.heap.size w w') : CR w' X g s :=
  h.grown (grown_of_below hb none) (by simp) (by simp)
theorem CR.old {w : World} {X : Nat → Prop} {g : Nat} {s : Cm.RS} (h : CR w X g s) {B : Nat} (hB : w.heap.size ≤ B) : CR w (fun k => X k ∨ B ≤ k) g s := by
  obtain ⟨A, n, c, hb, hsl, hgd⟩ := h
  refine ⟨A, n, c, hb, (hsl.old hB).weaken fun b _ hy => ?_, hgd⟩
  rcases hy with hy | hy | hy
  · exact .inl (.inl hy)
  · exact .inl (.inr hy)
  · exact .inr hy
theorem CR.lt {w : World} {X : Nat → Prop} {g : Nat} {s : Cm.RS} (h : CR w X g s) : g < w.heap.size := by
  obtain ⟨A, n, c, hb, _⟩ := h
  exact hb.lt

theorem fail_end {w : World} {g : Nat} {v : Value} {e0 : Int} {X : Nat → Prop} (h : CB w g v 0) :
    w.grownBy ((w.setCell ⟨g, 2, none⟩ (.int .i64 e0)).setCell ⟨g, 1, none⟩ (.slice none 0 0)) (some g) ∧ CR ((w.setCell ⟨g, 2, none⟩ (.int .i64 e0)).setCell ⟨g, 1, none⟩ (.slice none 0 0)) X g ([], e0) := by
  have h1 := Blk.set_ h 2 (.int .i64 e0)
  have h2 := Blk.set_ h1 1 (.slice none 0 0)
  refine ⟨?_, none, 0, 0, h2, Sl.nil _ _ _, fun _ => rfl⟩
  have g1 := grown_setCell (World.grownBy.refl w (some g)) (p := ⟨g, 2, none⟩) (.inl rfl) (.int .i64 e0)
  exact grown_setCell g1 (p := ⟨g, 1, none⟩) (.inl rfl) (.slice none 0 0)

set_option maxHeartbeats 400000 in
theorem fail_any (w : World) (X : Nat → Prop) (g : Nat) (s : Cm.RS) (h : CR w X g s) (e0 : Int) :
    Calls Tryz.prog 37 #[P_ g, .int .i64 e0] w fun e w' => e = .returned (.tuple #[]) ∧ w.grownBy w' (some g) ∧ CR w' X g (Cm.failS s e0) := by
  have hcr := h
  obtain ⟨A, n, c, hb, hsl, hgd⟩ := h
  by_cases hs : s.2 = 0
  · have hb0 := hb
    rw [hs] at hb0
    by_cases he : e0 = 0
    · have hf : Cm.failS s e0 = s := by simp [Cm.failS, hs, he]
      rw [hf]
      subst he
      have HS := Lib.hid hs
      clear hs hf
      go_enter Tryz.func37, Tryz.ntmps37
      go_wp2_with (go_at_call 60; refine (reads_ok _ g _ hb0).mono ?_; rintro e w1 ⟨rfl, rfl⟩)
      go_end0
      exact ⟨rfl, World.grownBy.refl _ _, hcr⟩
    · have hf : Cm.failS s e0 = ([], e0) := by simp [Cm.failS, hs, he]
      rw [hf]
      have he1 : (e0 == 0) = false := by rw [beq_eq_false_iff_ne]; exact he
      have he2 : (e0 != 0) = true := by rw [bne, he1]; rfl
      have h1 := hb0.cell 1
      have h2 := hb0.cell 2
      have f1 := hb0.frozen 1
      have f2 := hb0.frozen 2
      simp only [List.getElem?_toArray, List.getElem?_cons_zero, List.getElem?_cons_succ] at h1 h2
      have HS := Lib.hid hs
      have HE := Lib.hid he
      clear hs hf he
      go_enter Tryz.func37, Tryz.ntmps37
      go_wp2_with (go_at_call 60; refine (reads_ok _ g _ hb0).mono ?_; rintro e w1 ⟨rfl, rfl⟩)
      go_end0
      exact ⟨rfl, fail_end hb0⟩
  · have hf : Cm.failS s e0 = s := by simp [Cm.failS, hs]
    rw [hf]
    have HS := Lib.hid hs
    clear hs hf
    go_enter Tryz.func37, Tryz.ntmps37
    go_wp2_with (go_at_call 60; refine (reads_no _ g _ _ hb HS.out).mono ?_; rintro e w1 ⟨rfl, rfl⟩)
    go_end0
    exact ⟨rfl, World.grownBy.refl _ _, hcr⟩

end Go.Proofs.YtebjjkhiniccgaaGreat.Ce

/-
  Contracts of layer 1's reader: numbers.
-/
namespace Go.Proofs.YtebjjkhiniccgaaGreat.Cf
set_option linter.unusedSimpArgs false
set_option linter.unusedVariables false
open Go Go.RowKit Ck Ca Cb Ce

theorem Sl_at {w : World} {X : Nat → Prop} {A : Option Addr} {n c : Nat} {l : List UInt8} (h : Sl w X 1 (.slice A n c) n (BVs l)) {k : Nat} (hk : k < l.length) : ∃ ad, A = some ad ∧ w.cell? (ad.add k) = some (.int .u8 (l[k].toNat : Int)) := by
  obtain ⟨A0, c0, hv, hl, hc, hm, hx⟩ := h
  injection hv with e1 e2 e3
  rw [BVs_len] at hl
  obtain ⟨ad, hA, hb, hX, hcell⟩ := hx (by omega)
  exact ⟨ad, e1.trans hA, hcell k _ (BVs_get hk)⟩

theorem or_shl (k acc x : Nat) (hacc : acc < 128 ^ k) (hx : x < 256) (hk : k ≤ 9) (h9 : k = 9 → x % 128 ≤ 1) :
    bits .or .u64 (acc : Int) (IntKind.u64.wrap (IntKind.u64.wrap (bits .and .u8 (x : Int) 127) * 2 ^ (7 * k))) = ((acc + x % 128 * 128 ^ k : Nat) : Int) := by
  have hp := Cm.pow_le k hk
  have h1 : bits .and .u8 (x : Int) 127 = ((x % 128 : Nat) : Int) := by
    rw [show (127 : Int) = ((127 : Nat) : Int) from rfl, u8_and_nat x 127 hx (by omega), nat_mask7]
  have hw : ∀ n : Nat, n < 18446744073709551616 → IntKind.u64.wrap (n : Int) = (n : Int) := by
    intro n hn
    simp [IntKind.wrap, IntKind.bits, IntKind.signed]
    omega
  have h2 : ((2 : Int) ^ (7 * k)) = ((128 ^ k : Nat) : Int) := by
    rw [Int.pow_mul]
    simp
  have hb : x % 128 * 128 ^ k < 18446744073709551616 := by
    by_cases hk9 : k = 9
    · have := h9 hk9
      have : x % 128 * 128 ^ k ≤ 1 * 128 ^ k := Nat.mul_le_mul_right _ this
      omega
    · have h8 : 128 ^ k ≤ 72057594037927936 := by
        have : k = 0 ∨ k = 1 ∨ k = 2 ∨ k = 3 ∨ k = 4 ∨ k = 5 ∨ k = 6 ∨ k = 7 ∨ k = 8 := by omega
        rcases this with rfl | rfl | rfl | rfl | rfl | rfl | rfl | rfl | rfl <;> decide
      have : x % 128 * 128 ^ k ≤ 127 * 128 ^ k := Nat.mul_le_mul_right _ (by omega)
      omega
  rw [h1, hw _ (by omega), h2, ← Int.natCast_mul, hw _ hb, u64_or_nat _ _ (by omega) hb, Nat.or_comm]
  have h7 : (2 : Nat) ^ (7 * k) = 128 ^ k := by rw [Nat.pow_mul]
  rw [nat_join (7 * k) (x % 128 * 128 ^ k) acc (by rw [h7]; exact Nat.mul_mod_left _ _) (by rw [h7]; exact hacc)]
  omega

theorem or_shl9 (acc x : Nat) (hacc : acc < 128 ^ 9) (hx : x ≤ 1) :
    bits .or .u64 (acc : Int) (IntKind.u64.wrap (IntKind.u64.wrap (bits .and .u8 (x : Int) 127) * 9223372036854775808)) = ((acc + x * 128 ^ 9 : Nat) : Int) := by
  have h := or_shl 9 acc x hacc (by omega) (by omega) (fun _ => by omega)
  rw [Nat.mod_eq_of_lt (by omega), show ((2 : Int) ^ (7 * 9)) = 9223372036854775808 from by decide] at h
  exact h
theorem pn_at {xs : List UInt8} {k : Nat} (h : k < xs.length) (acc : Nat) : Cm.pn (xs.drop k) k acc =
    if k = 9 ∧ 1 < xs[k].toNat then (0, 0, 11)
    else if 128 ≤ xs[k].toNat then Cm.pn (xs.drop (k + 1)) (k + 1) (acc + xs[k].toNat % 128 * 128 ^ k)
    else if xs[k].toNat = 0 ∧ 0 < k then (0, 0, 11)
    else (acc + xs[k].toNat * 128 ^ k, k + 1, 0) := by
  rw [List.drop_eq_getElem_cons h]
  rfl
theorem pow_step {acc x k : Nat} (h : acc < 128 ^ k) : acc + x % 128 * 128 ^ k < 128 ^ (k + 1) := by
  have h1 : x % 128 * 128 ^ k ≤ 127 * 128 ^ k := Nat.mul_le_mul_right _ (by omega)
  have h2 : 128 ^ (k + 1) = 128 ^ k * 128 := Nat.pow_succ 128 k
  omega

set_option maxRecDepth 100000 in
set_option maxHeartbeats 400000 in
theorem parse_any (w : World) (X : Nat → Prop) (A : Option Addr) (c : Nat) (xs : List UInt8) (h : Sl w X 1 (.slice A xs.length c) xs.length (BVs xs)) :
    Calls Tryz.prog 61 #[.slice A xs.length c] w fun e w' => e = .returned (.tuple #[.int .u64 (Cm.pn xs 0 0).1, .int .i64 (Cm.pn xs 0 0).2.1, .int .i64 (Cm.pn xs 0 0).2.2]) ∧ w = w' := by
  go_enter Tryz.func61, Tryz.ntmps61
  go_wp2
  go_loop [5, 10] (fun a i => ∃ k acc : Nat, k ≤ xs.length ∧ i = .int .i64 k ∧ a = .int .u64 acc ∧ acc < 128 ^ k ∧ k ≤ 9 ∧ Cm.pn xs 0 0 = Cm.pn (xs.drop k) k acc)
    (fun _ i => xs.length - (intOf i).toNat)
  case atStart => exact ⟨0, 0, Nat.zero_le _, rfl, rfl, by simp, by omega, by simp⟩
  case round =>
    obtain ⟨k, acc, hk, rfl, rfl, hacc, hk9, hpn⟩ := hrel
    have HP := Lib.hid hpn
    have HA := Lib.hid hacc
    clear hpn hacc
    by_cases hlt : k < xs.length
    · obtain ⟨ad, rfl, hcell⟩ := Sl_at h hlt
      have hb := xs[k].toNat_lt
      generalize hx : xs[k].toNat = x at *
      have hat := pn_at hlt acc
      rw [hx] at hat
      have HAT := Lib.hid hat
      clear hat
      have HX := Lib.hid hx
      clear hx
      by_cases h9 : k = 9 ∧ 1 < x
      · have e := HAT.out
        rw [if_pos h9, ← HP.out] at e
        have HE := Lib.hid e
        have hk9a : 9 ≤ k := by omega
        have hx1 : 1 < x := h9.2
        clear h9 e
        go_wp2
        go_ret3
        exact ⟨by rw [HE.out]; rfl, rfl⟩
      · by_cases hbig : 128 ≤ x
        · have hkn : k < 9 := by omega
          have e := HAT.out
          rw [if_neg h9, if_pos hbig, ← HP.out] at e
          have HE := Lib.hid e
          clear h9 e
          go_wp2
          go_round
          case rel => exact ⟨k + 1, acc + x % 128 * 128 ^ k, by omega, by go_num, by rw [or_shl k acc x HA.out (by omega) (by omega) (by omega)], pow_step HA.out, by omega, HE.out⟩
          case measure => simp [intOf]; omega
        · have hsm : x < 128 := by omega
          have e := HAT.out
          rw [if_neg h9, if_neg hbig, ← HP.out] at e
          have hv : ∀ h9' : k = 9 → x % 128 ≤ 1, _ := or_shl k acc x HA.out (by omega) (by omega)
          have hv' := hv (by omega)
          rw [Nat.mod_eq_of_lt hsm] at hv'
          have HV := Lib.hid hv'
          by_cases hz : x = 0 ∧ 0 < k
          · rw [if_pos hz] at e
            have HE := Lib.hid e
            have hz1 : x ≤ 0 := by omega
            have hz2 : 0 < k := hz.2
            clear hz e hbig hv hv'
            by_cases hk8 : k < 9
            · clear h9
              go_wp2
              go_ret3
              exact ⟨by rw [HE.out]; rfl, rfl⟩
            · have hk9a : 9 ≤ k := by omega
              clear h9 hk8
              go_wp2
              go_ret3
              exact ⟨by rw [HE.out]; rfl, rfl⟩
          · rw [if_neg hz] at e
            have HE := Lib.hid e
            have hz3 : 1 ≤ x ∨ (x ≤ 0 ∧ k ≤ 0) := by omega
            clear e hbig hv hv'
            by_cases hk8 : k < 9
            · clear h9
              rcases hz3 with hz3 | ⟨hz3, hz4⟩
              · clear hz
                go_wp2
                go_ret3
                exact ⟨by rw [HE.out, ← HV.out]; rfl, rfl⟩
              · clear hz
                obtain rfl : x = 0 := by omega
                go_wp2
                go_ret3
                exact ⟨by rw [HE.out, ← HV.out]; rfl, rfl⟩
            · have hk9a : 9 ≤ k := by omega
              have hx1 : x ≤ 1 := by omega
              have hx2 : 1 ≤ x := by omega
              clear h9 hk8 hz hz3 HV
              go_wp2
              go_ret3
              obtain rfl : k = 9 := by omega
              have hv9 := or_shl9 acc x HA.out hx1
              exact ⟨by rw [HE.out, ← hv9]; rfl, rfl⟩
    · have hke : xs.length ≤ k := by omega
      have e := HP.out
      rw [List.drop_eq_nil_of_le hke] at e
      have HE := Lib.hid e
      clear e
      go_wp2
      go_ret3
      exact ⟨by rw [HE.out]; rfl, rfl⟩

/-- A cut from k on, and a cut up to k, of a slice of bytes. -/
theorem slice_from (A : Option Addr) (n c k : Nat) (hk : k ≤ n) (hc : n ≤ c) : ∃ A', (∀ W : World, (Instr.slice 22 (.slice A n c) (some (.int .i64 (k : Int))) none none).run Tryz.prog W = .ok (.slice A' (n - k) (c - k)) W) ∧ (∀ ad, A = some ad → k < n → A' = some (ad.add (k * 1))) := by
  have he : ∀ W : World, (sizeOf (Tryz.prog.elem 22)).run Tryz.prog W = .ok 1 W := fun _ => by kernel_rfl
  refine ⟨if c = k then A else A.map (·.add (k * 1)), fun W => ?_, ?_⟩
  · rw [run_slice_l W 22 A n c (by kernel_rfl) .i64 k (by omega) (by omega), he]
    rfl
  · rintro ad rfl hlt
    rw [if_neg (by omega)]
    rfl
theorem slice_upto (A : Option Addr) (n c k : Nat) (hk : k ≤ c) (W : World) : (Instr.slice 22 (.slice A n c) none (some (.int .i64 (k : Int))) none).run Tryz.prog W = .ok (.slice A k c) W := by
  have he : ∀ W : World, (sizeOf (Tryz.prog.elem 22)).run Tryz.prog W = .ok 1 W := fun _ => by kernel_rfl
  rw [run_slice_h W 22 A n c (by kernel_rfl) .i64 k (by omega) (by omega), he]
  simp only [Result.andThen_ok, sliced, Int.toNat_natCast]
  congr 2
  by_cases h0 : c = 0
  · simp [h0]
  · cases A <;> simp [h0, Addr.add]

end Go.Proofs.YtebjjkhiniccgaaGreat.Cf

/-
  Contracts of layer 1's reader: Num, length, Take, Bytes, Left, Done, Read.
-/
namespace Go.Proofs.YtebjjkhiniccgaaGreat.Cg
set_option linter.unusedSimpArgs false
set_option linter.unusedVariables false
open Go Go.RowKit Ck Ca Cb Ce Cf

theorem rest_end {w : World} {X : Nat → Prop} {g : Nat} {A A' : Option Addr} {n c k : Nat} {xs : List UInt8} (hb : CB w g (.slice A n c) 0) (hsl : Sl w (fun j => j = g ∨ X j) 1 (.slice A n c) n (BVs xs)) (hk : k ≤ n) (hA : ∀ ad, A = some ad → k < n → A' = some (ad.add (k * 1))) :
    w.grownBy (w.setCell ⟨g, 1, none⟩ (.slice A' (n - k) (c - k))) (some g) ∧ CR (w.setCell ⟨g, 1, none⟩ (.slice A' (n - k) (c - k))) X g (xs.drop k, 0) := by
  have h1 := Blk.set_ hb 1 (.slice A' (n - k) (c - k))
  have g1 := grown_setCell (World.grownBy.refl w (some g)) (p := ⟨g, 1, none⟩) (.inl rfl) (.slice A' (n - k) (c - k))
  refine ⟨g1, A', n - k, c - k, h1, ?_, fun h => absurd rfl h⟩
  have h2 := (hsl.cut hk A' hA).setCell (p := ⟨g, 1, none⟩) (fun _ => .inl rfl) (.slice A' (n - k) (c - k))
  have h3 : (BVs xs).drop (k * 1) = BVs (xs.drop k) := by simp [BVs, List.map_drop]
  rw [h3] at h2
  exact h2
theorem err_cond {s : Cm.RS} {most : Nat} (h : s.2 = 0) : Cm.numS s most = if (Cm.pn s.1 0 0).2.2 ≠ 0 then (0, ([], (Cm.pn s.1 0 0).2.2)) else if most < (Cm.pn s.1 0 0).1 then (0, ([], 11)) else ((Cm.pn s.1 0 0).1, (s.1.drop (Cm.pn s.1 0 0).2.1, 0)) := by
  rw [Cm.numS, if_neg (by simp [h])]
theorem failS_ok {s : Cm.RS} {e : Int} (h : s.2 = 0) (he : e ≠ 0) : Cm.failS s e = ([], e) := by simp [Cm.failS, h, he]

/-- What a number's reading leaves. -/
def Numed (w : World) (X : Nat → Prop) (g : Nat) (r : Nat × Cm.RS) (e : Ending) (w' : World) : Prop := e = .returned (.int .u64 (r.1 : Int)) ∧ w.grownBy w' (some g) ∧ CR w' X g r.2

set_option maxRecDepth 100000 in
set_option maxHeartbeats 800000 in
theorem num_any (w : World) (X : Nat → Prop) (g : Nat) (s : Cm.RS) (h : CR w X g s) (most : Nat) :
    Calls Tryz.prog 27 #[P_ g, .int .u64 most] w fun e w' => Numed w X g (Cm.numS s most) e w' := by
  have hcr := h
  obtain ⟨A, n, c, hb, hsl, hgd⟩ := h
  have hn : n = s.1.length := by obtain ⟨A, c, _, h, _⟩ := hsl; rw [BVs_len] at h; omega
  subst hn
  by_cases hs : s.2 = 0
  · have hb0 := hb
    rw [hs] at hb0
    have hcond := err_cond (most := most) hs
    have hpa := parse_any w _ A c s.1 hsl
    generalize hp : Cm.pn s.1 0 0 = p at *
    obtain ⟨v, k, er⟩ := p
    have h1 := hb0.cell 1
    have f1 := hb0.frozen 1
    simp only [List.getElem?_toArray, List.getElem?_cons_zero, List.getElem?_cons_succ] at h1
    have HS := Lib.hid hs
    have HP := Lib.hid hp
    by_cases he : er = 0
    · subst he
      have hp1 := Cm.pn_one0 hp
      have hk := hp1.2.1
      have hnc : s.1.length ≤ c := by obtain ⟨A, c, hv, _, h, _⟩ := hsl; injection hv with _ _ e3; omega
      have hcm : c ≤ 9223372036854775807 := by obtain ⟨A, c, hv, _, _, h, _⟩ := hsl; injection hv with _ _ e3; simp only [maxLen] at h; omega
      clear hp hs hp1
      by_cases hm : most < v
      · have hf : Cm.numS s most = (0, Cm.failS s 11) := by rw [hcond, failS_ok HS.out (by decide), if_neg (by simp), if_pos hm]
        rw [hf]
        clear hcond hf
        have HA := Lib.hid hpa
        clear hpa
        go_enter Tryz.func27, Tryz.ntmps27
        go_wp2_with (first
          | (go_at_call 60; refine (reads_ok _ g _ hb0).mono ?_; rintro e w1 ⟨rfl, rfl⟩)
          | (go_at_call 61; refine HA.out.mono ?_; rintro e w1 ⟨rfl, rfl⟩)
          | (go_at_call 37; refine (fail_any _ X g s hcr 11).mono ?_; rintro e w1 ⟨rfl, hg1, hc1⟩))
        go_ret
        exact ⟨rfl, hg1, hc1⟩
      · have hf : Cm.numS s most = (v, (s.1.drop k, 0)) := by rw [hcond, if_neg (by simp), if_neg hm]
        rw [hf]
        obtain ⟨A', hsl1, hA'⟩ := slice_from A s.1.length c k hk hnc
        have R := rest_end (X := X) hb0 hsl hk hA'
        have HR := Lib.hid R
        have HA := Lib.hid hpa
        clear hcond hf hA' R hpa
        go_enter Tryz.func27, Tryz.ntmps27
        go_wp2_with (first
          | (go_at_call 60; refine (reads_ok _ g _ hb0).mono ?_; rintro e w1 ⟨rfl, rfl⟩)
          | (go_at_call 61; refine HA.out.mono ?_; rintro e w1 ⟨rfl, rfl⟩))
        go_ret
        exact ⟨rfl, HR.out⟩
    · have hf : Cm.numS s most = (0, Cm.failS s er) := by rw [hcond, failS_ok HS.out he, if_pos he]
      rw [hf]
      have he1 : (er == 0) = false := by rw [beq_eq_false_iff_ne]; exact he
      have he2 : (er != 0) = true := by rw [bne, he1]; rfl
      have HE := Lib.hid he
      have HA := Lib.hid hpa
      clear hcond hf hs hp he hpa
      go_enter Tryz.func27, Tryz.ntmps27
      go_wp2_with (first
        | (go_at_call 60; refine (reads_ok _ g _ hb0).mono ?_; rintro e w1 ⟨rfl, rfl⟩)
        | (go_at_call 61; refine HA.out.mono ?_; rintro e w1 ⟨rfl, rfl⟩)
        | (go_at_call 37; refine (fail_any _ X g s hcr er).mono ?_; rintro e w1 ⟨rfl, hg1, hc1⟩))
      go_ret
      exact ⟨rfl, hg1, hc1⟩
  · have hf : Cm.numS s most = (0, s) := by rw [Cm.numS, if_pos hs]
    rw [hf]
    have HS := Lib.hid hs
    clear hs hf
    go_enter Tryz.func27, Tryz.ntmps27
    go_wp2_with (go_at_call 60; refine (reads_no _ g _ _ hb HS.out).mono ?_; rintro e w1 ⟨rfl, rfl⟩)
    go_ret
    exact ⟨rfl, World.grownBy.refl _ _, hcr⟩

set_option maxRecDepth 100000 in
set_option maxHeartbeats 400000 in
theorem length_any (w : World) (X : Nat → Prop) (g : Nat) (s : Cm.RS) (h : CR w X g s) (most : Int) (hlo : -9223372036854775808 ≤ most) (hhi : most ≤ 9223372036854775807) :
    Calls Tryz.prog 98 #[P_ g, .int .i64 most] w fun e w' => e = .returned (.int .i64 ((Cm.numS s most.toNat).1 : Int)) ∧ w.grownBy w' (some g) ∧ CR w' X g (Cm.numS s most.toNat).2 := by
  have hle := Cm.numS_le s most.toNat
  by_cases hm : 0 ≤ most
  · obtain ⟨m, rfl⟩ := Int.eq_ofNat_of_zero_le hm
    rw [Int.toNat_natCast] at hle ⊢
    clear hm hlo
    go_enter Tryz.func98, Tryz.ntmps98
    go_wp2_with (go_at_call 27; refine (num_any _ X g s h m).mono ?_; rintro e w1 ⟨rfl, hg1, hc1⟩)
    go_ret
    exact ⟨rfl, hg1, hc1⟩
  · have hz : most.toNat = 0 := by omega
    rw [hz] at hle ⊢
    have hm2 : most < 0 := by omega
    clear hz hm
    go_enter Tryz.func98, Tryz.ntmps98
    go_wp2_with (go_at_call 27; refine (num_any _ X g s h 0).mono ?_; rintro e w1 ⟨rfl, hg1, hc1⟩)
    go_ret
    exact ⟨rfl, hg1, hc1⟩

end Go.Proofs.YtebjjkhiniccgaaGreat.Cg

/-
  Contracts of layer 1's reader: Take, Bytes, Left, Done, Read.
-/
namespace Go.Proofs.YtebjjkhiniccgaaGreat.Ch
set_option linter.unusedSimpArgs false
set_option linter.unusedVariables false
open Go Go.RowKit Ck Ca Cb Ce Cf Cg

/-- What a reading of bytes leaves. -/
def Taken (w : World) (X : Nat → Prop) (g : Nat) (r : List UInt8 × Cm.RS) (e : Ending) (w' : World) : Prop :=
  ∃ v, e = .returned v ∧ w'.ownsRow w.heap.size 5 1 v r.1.length (BVs r.1) ∧ w.grownBy w' (some g) ∧ CR w' X g r.2
theorem Taken.nil {w w' : World} {X : Nat → Prop} {g : Nat} {s : Cm.RS} (hg : w.grownBy w' (some g)) (hc : CR w' X g s) : Taken w X g ([], s) (.returned (.slice none 0 0)) w' :=
  ⟨_, rfl, World.ownsRow_nil _ _ _ _, hg, hc⟩
theorem take_end {w w1 : World} {X : Nat → Prop} {g : Nat} {A A' : Option Addr} {n c k : Nat} {xs l : List UInt8} {v : Value} (hb : CB w g (.slice A n c) 0) (hsl : Sl w (fun j => j = g ∨ X j) 1 (.slice A n c) n (BVs xs)) (hk : k ≤ n) (hA : ∀ ad, A = some ad → k < n → A' = some (ad.add (k * 1)))
    (hown : w1.ownsRow w.heap.size 5 1 v l.length (BVs l)) (hbel : Below w.heap.size w w1) :
    Taken w X g (l, (xs.drop k, 0)) (.returned v) (w1.setCell ⟨g, 1, none⟩ (.slice A' (n - k) (c - k))) := by
  have R := rest_end (X := X) (hb.below hbel hb.lt) (hsl.after hbel) hk hA
  have hlt : g < w.heap.size := hb.lt
  exact ⟨v, rfl, ownsRow_setCell_below hown (a := ⟨g, 1, none⟩) hlt _, grown_step (grown_of_below hbel (some g)) R.1 (.inl rfl), R.2⟩

set_option maxRecDepth 100000 in
set_option maxHeartbeats 800000 in
theorem take_any (w : World) (X : Nat → Prop) (g : Nat) (s : Cm.RS) (h : CR w X g s) (n : Int) (hl : s.1.length ≤ 140737488355328) :
    Calls Tryz.prog 97 #[P_ g, .int .i64 n] w fun e w' => Taken w X g (Cm.takeS s n) e w' := by
  have hcr := h
  obtain ⟨A, m, c, hb, hsl, hgd⟩ := h
  have hm : m = s.1.length := by obtain ⟨A, c, _, h, _⟩ := hsl; rw [BVs_len] at h; omega
  subst hm
  have hnc : s.1.length ≤ c := by obtain ⟨A, c, hv, _, h, _⟩ := hsl; injection hv with _ _ e3; omega
  have hcm : c ≤ 9223372036854775807 := by obtain ⟨A, c, hv, _, _, h, _⟩ := hsl; injection hv with _ _ e3; simp only [maxLen] at h; omega
  by_cases hs : s.2 = 0
  · have hb0 := hb
    rw [hs] at hb0
    have h1 := hb0.cell 1
    have f1 := hb0.frozen 1
    simp only [List.getElem?_toArray, List.getElem?_cons_zero, List.getElem?_cons_succ] at h1
    have HS := Lib.hid hs
    by_cases hn : n < 0
    · have hf : Cm.takeS s n = ([], Cm.failS s 1) := by rw [Cm.takeS, if_neg (by simp [hs]), if_pos hn, failS_ok hs (by decide)]
      rw [hf]
      clear hs hf
      go_enter Tryz.func97, Tryz.ntmps97
      go_wp2_with (first
        | (go_at_call 60; refine (reads_ok _ g _ hb0).mono ?_; rintro e w1 ⟨rfl, rfl⟩)
        | (go_at_call 37; refine (fail_any _ X g s hcr 1).mono ?_; rintro e w1 ⟨rfl, hg1, hc1⟩))
      go_ret
      exact Taken.nil hg1 hc1
    · obtain ⟨k, rfl⟩ := Int.eq_ofNat_of_zero_le (show 0 ≤ n by omega)
      clear hn
      by_cases hlt : s.1.length < k
      · have hf : Cm.takeS s k = ([], Cm.failS s 10) := by rw [Cm.takeS, if_neg (by simp [hs]), if_neg (by omega), if_pos (by omega), failS_ok hs (by decide)]
        rw [hf]
        clear hs hf
        go_enter Tryz.func97, Tryz.ntmps97
        go_wp2_with (first
          | (go_at_call 60; refine (reads_ok _ g _ hb0).mono ?_; rintro e w1 ⟨rfl, rfl⟩)
          | (go_at_call 37; refine (fail_any _ X g s hcr 10).mono ?_; rintro e w1 ⟨rfl, hg1, hc1⟩))
        go_ret
        exact Taken.nil hg1 hc1
      · have hk : k ≤ s.1.length := by omega
        have hf : Cm.takeS s k = (s.1.take k, (s.1.drop k, 0)) := by rw [Cm.takeS, if_neg (by simp [hs]), if_neg (by omega), if_neg (by omega), Int.toNat_natCast]
        rw [hf]
        obtain ⟨A', hsl1, hA'⟩ := slice_from A s.1.length c k hk hnc
        have hsl2 := slice_upto A s.1.length c k (by omega)
        have hup : Sl w (fun j => j = g ∨ X j) 1 (.slice A k c) k (BVs (s.1.take k)) := by
          have := hsl.upto hk
          rw [show (BVs s.1).take (k * 1) = BVs (s.1.take k) from by simp [BVs, List.map_take]] at this
          exact this
        have HA := Lib.hid hA'
        have hgl : g < w.heap.size := hb0.lt
        clear hs hf hA' hlt
        go_enter Tryz.func97, Tryz.ntmps97
        go_wp2_with (first
          | (go_at_call 60; refine (reads_ok _ g _ hb0).mono ?_; rintro e w1 ⟨rfl, rfl⟩)
          | (go_at_call 35; refine (roomy_any _ _ k (s.1.take k) 0 _ hup (by omega) (by omega)).mono ?_; rintro e w1 ⟨v1, rfl, hown1, hb1⟩; have h11 := (hb1.cell (p := ⟨g, 1, none⟩) hgl).trans h1; have f11 := (hb1.frozen (p := ⟨g, 1, none⟩) hgl).trans f1))
        go_ret
        exact take_end hb0 hsl hk HA.out hown1 hb1
  · have hf : Cm.takeS s n = ([], s) := by rw [Cm.takeS, if_pos hs]
    rw [hf]
    have HS := Lib.hid hs
    clear hs hf
    go_enter Tryz.func97, Tryz.ntmps97
    go_wp2_with (go_at_call 60; refine (reads_no _ g _ _ hb HS.out).mono ?_; rintro e w1 ⟨rfl, rfl⟩)
    go_ret
    exact Taken.nil (World.grownBy.refl _ _) hcr

set_option maxHeartbeats 400000 in
theorem bytes_any (w : World) (X : Nat → Prop) (g : Nat) (s : Cm.RS) (h : CR w X g s) (most : Int) (hlo : -9223372036854775808 ≤ most) (hhi : most ≤ 9223372036854775807) (hl : s.1.length ≤ 140737488355328) :
    Calls Tryz.prog 66 #[P_ g, .int .i64 most] w fun e w' => Taken w X g (Cm.bytesS s most) e w' := by
  have hl2 := Cm.numS_len s most.toNat
  have HLO := Lib.hid hlo
  have HHI := Lib.hid hhi
  clear hlo hhi
  go_enter Tryz.func66, Tryz.ntmps66
  go_wp2_with (first
    | (go_at_call 98; refine (length_any _ X g s h most HLO.out HHI.out).mono ?_; rintro e w1 ⟨rfl, hg1, hc1⟩)
    | (go_at_call 97; refine (take_any _ X g _ hc1 ((Cm.numS s most.toNat).1 : Int) (by omega)).mono ?_; rintro e w2 ⟨v2, rfl, hown2, hg2, hc2⟩))
  go_ret
  exact ⟨v2, rfl, own_base hown2 hg1.size, hg1.trans hg2, hc2⟩

/-- A new reader. -/
theorem read_any (w : World) (X : Nat → Prop) (v : Value) (n : Nat) (b : List UInt8) (hv : Sl w X 1 v n (BVs b)) (hn : n ≤ 140737488355328) :
    Calls Tryz.prog 9 #[v] w fun e w' => ∃ g, e = .returned (P_ g) ∧ CR w' (fun k => k < w.heap.size) g (b, 0) ∧ w.heap.size ≤ g ∧ Below w.heap.size w w' := by
  have hnl : n = b.length := by obtain ⟨A, c, _, h, _⟩ := hv; rw [BVs_len] at h; omega
  subst hnl
  go_enter Tryz.func9, Tryz.ntmps9
  go_wp2_with (go_at_call 35; refine (roomy_any _ v b.length b 0 _ hv (by omega) (by omega)).mono ?_; rintro e w1 ⟨v1, rfl, hown1, hb1⟩; obtain ⟨A1, c1, rfl⟩ := own_shape hown1)
  go_ret
  refine ⟨w1.heap.size, rfl, ⟨A1, b.length, c1, Blk.new _ _ _, ?_, fun h => absurd rfl h⟩, hb1.size, hb1.alloc hb1.size _⟩
  refine (Sl.of_own' hown1 fun k hk hX => ?_).alloc _
  have := hown1.lt k hk
  rcases hX with hX | hX <;> omega

end Go.Proofs.YtebjjkhiniccgaaGreat.Ch

/-
  Contract of layer 1's reader: List.
-/
namespace Go.Proofs.YtebjjkhiniccgaaGreat.Ci
set_option linter.unusedSimpArgs false
set_option linter.unusedVariables false
open Go Go.RowKit Ck Ca Cb Ce Cf Cg Ch

theorem info_sl : (Tryz.prog.info? 22).map (fun i => (i.zero, i.size, i.bytes)) = some (some (.slice none 0 0), 1, 24) := by kernel_rfl

/-- The parts of a list that a call makes: none in an old block, none in the list's own row. -/
def Els (w : World) (B : Nat) (v : Value) (vals : List Value) (acc : List (List UInt8)) : Prop :=
  vals.length = acc.length ∧ ∀ i (h : i < acc.length), ∃ u, vals[i]? = some u ∧ Sl w (fun k => k < B ∨ v.ownBlock = some k) 1 u acc[i].length (BVs acc[i])
theorem Els.nil (w : World) (B : Nat) (v : Value) : Els w B v [] [] := ⟨rfl, fun i h => absurd h (by simp)⟩
theorem Els.keep {w w' : World} {B : Nat} {v : Value} {vals : List Value} {acc : List (List UInt8)} (h : Els w B v vals acc) (hs : w.heap.size ≤ w'.heap.size) (hk : ∀ b, b < w.heap.size → ¬ (b < B ∨ v.ownBlock = some b) → w'.heap[b]? = w.heap[b]?) : Els w' B v vals acc :=
  ⟨h.1, fun i hi => by obtain ⟨u, hu, h3⟩ := h.2 i hi; exact ⟨u, hu, h3.keep hs hk⟩⟩
theorem Els.grown {w w' : World} {B : Nat} {v : Value} {vals : List Value} {acc : List (List UInt8)} {row : Option Nat} (h : Els w B v vals acc) (hg : w.grownBy w' row) (hr : ∀ k, row = some k → k < B ∨ v.ownBlock = some k) : Els w' B v vals acc :=
  h.keep hg.size fun b hb hX => hg.block b hb fun e => hX (hr b e.symm)
theorem Els.push {w : World} {B : Nat} {v u : Value} {vals : List Value} {acc : List (List UInt8)} {x : List UInt8} (h : Els w B v vals acc) (hu : Sl w (fun k => k < B ∨ v.ownBlock = some k) 1 u x.length (BVs x)) : Els w B v (vals ++ [u]) (acc ++ [x]) := by
  refine ⟨by simp [h.1], fun i hi => ?_⟩
  rw [List.length_append, List.length_singleton] at hi
  by_cases hl : i < acc.length
  · obtain ⟨u0, hu0, h3⟩ := h.2 i hl
    refine ⟨u0, by rw [List.getElem?_append_left (by rw [h.1]; exact hl)]; exact hu0, ?_⟩
    rw [List.getElem_append_left hl]
    exact h3
  · have he : i = acc.length := by omega
    subst he
    refine ⟨u, by rw [List.getElem?_append_right (by rw [h.1]; omega), h.1]; simp, ?_⟩
    rw [List.getElem_append_right (by omega)]
    simpa using hu
theorem one_newv (w : World) (X : Nat → Prop) (t : TypeId) (u : Value) (hX : ¬ X w.heap.size) : Sl (w.alloc (.cells #[u] t)) X 1 (.slice (some ⟨w.heap.size, 0, none⟩) 1 1) 1 [u] :=
  ⟨_, _, rfl, rfl, Nat.le_refl _, by simp only [maxLen]; omega, fun _ => ⟨_, rfl, by simp, hX, fun j u' hu => cell_one_new w _ t j u' hu⟩⟩

/-- What a list's reading leaves. -/
def Listed (w : World) (X : Nat → Prop) (g : Nat) (r : List (List UInt8) × Cm.RS) (e : Ending) (w' : World) : Prop :=
  ∃ v, e = .returned v ∧ Ls w' (fun k => k < w.heap.size) v r.1 ∧ w.grownBy w' (some g) ∧ CR w' X g r.2

/-- One round: a part was read and put behind the others. -/
theorem list_round {W wr w1 w2 : World} {X : Nat → Prop} {g : Nat} {v u v2 : Value} {vals : List Value} {acc : List (List UInt8)} {x : List UInt8} {s1 : Cm.RS} {t e : TypeId}
    (hg : W.grownBy wr (some g)) (hgl : g < W.heap.size) (hown : wr.ownsRow W.heap.size e 1 v acc.length vals) (hels : Els wr W.heap.size v vals acc)
    (hu : w1.ownsRow wr.heap.size t 1 u x.length (BVs x)) (hg1 : wr.grownBy w1 (some g)) (hc1 : CR w1 (fun k => X k ∨ W.heap.size ≤ k) g s1)
    (happ : Appended (w1.alloc (.cells #[u] e)) W.heap.size e 1 v (acc.length + 1) (vals ++ [u]) v2 w2) :
    w2.ownsRow W.heap.size e 1 v2 (acc ++ [x]).length (vals ++ [u]) ∧ Els w2 W.heap.size v2 (vals ++ [u]) (acc ++ [x]) ∧ W.grownBy w2 (some g) ∧ CR w2 (fun k => X k ∨ W.heap.size ≤ k) g s1 := by
  have hlt := hown.lt
  have h1 : Els w1 W.heap.size v (vals ++ [u]) (acc ++ [x]) := by
    refine (hels.grown hg1 (fun k hk => .inl (by injection hk with hk; omega))).push (Sl.of_own hu fun k hk _ hy => ?_)
    rcases hy with hy | hy
    · have := hg.size; omega
    · have := (hlt k hy).2; omega
  have h2 := h1.keep (w' := w1.alloc (.cells #[u] e)) (by simp) (fun b hb _ => Below.heap_alloc _ _ _ hb)
  have h3 := h2.grown happ.2.1 (fun k hk => .inr hk)
  have hsz := happ.2.1.size
  refine ⟨by rw [List.length_append]; exact happ.1, ?_, ?_, ?_⟩
  · refine ⟨h3.1, fun i hi => ?_⟩
    obtain ⟨u0, hu0, h5⟩ := h2.2 i hi
    refine ⟨u0, hu0, ?_⟩
    have h6 : Sl w2 (fun k => (k < W.heap.size ∨ v.ownBlock = some k) ∨ (w1.alloc (.cells #[u] e)).heap.size ≤ k) 1 u0 (acc ++ [x])[i].length (BVs (acc ++ [x])[i]) :=
      (h5.old (Nat.le_refl _)).grown happ.2.1 (fun k hk _ => .inl (.inr hk))
    refine h6.weaken fun b _ hy => ?_
    rcases hy with hy | hy
    · exact .inl (.inl hy)
    · rcases happ.2.2 with hr | hr
      · rw [hr] at hy; exact .inl (.inr hy)
      · rw [hr] at hy; injection hy with hy; exact .inr (by omega)
  · have k1 := hg.trans hg1
    have k2 := grown_below k1 ((Below.refl w1.heap.size w1).alloc (Nat.le_refl _) (.cells #[u] e))
    exact grown_step k2 happ.2.1 (.inr fun k hk => (hlt k hk).1)
  · refine (hc1.after ((Below.refl w1.heap.size w1).alloc (Nat.le_refl _) (.cells #[u] e))).grown happ.2.1 ?_ (fun k hk _ => .inr (hlt k hk).1)
    intro he
    have := (hlt g he.symm).1
    omega

set_option maxHeartbeats 400000 in
theorem list_gen (w : World) (X : Nat → Prop) (g : Nat) (s : Cm.RS) (h : CR w X g s) (most each : Int) (hlo : -9223372036854775808 ≤ most) (hhi : most ≤ 9223372036854775807) (hlo2 : -9223372036854775808 ≤ each) (hhi2 : each ≤ 9223372036854775807) (hl : s.1.length ≤ 140737488355328) (hq : s.1.length ≤ 549755813888 ∨ most ≤ 1048576) :
    Calls Tryz.prog 92 #[P_ g, .int .i64 most, .int .i64 each] w fun e w' => Listed w X g (Cm.listS s most each) e w' := by
  have hl2 := Cm.numS_len s most.toNat
  have hnle := Cm.numS_le s most.toNat
  have hgl := h.lt
  obtain ⟨i0, hi0, hz0, hz1, hz2⟩ := info_parts info_sl
  have HLO := Lib.hid hlo
  have HHI := Lib.hid hhi
  have HLO2 := Lib.hid hlo2
  have HHI2 := Lib.hid hhi2
  have hnum : (Cm.numS s most.toNat).1 ≤ 9223372036854775807 := by omega
  have hqq : s.1.length ≤ 549755813888 ∨ (Cm.numS s most.toNat).1 ≤ 1048576 := by omega
  clear hlo hhi hlo2 hhi2 hnle hq
  go_enter Tryz.func92, Tryz.ntmps92
  go_wp2_with (go_at_call 98; refine (length_any _ _ g s (h.old (Nat.le_refl _)) most HLO.out HHI.out).mono ?_; rintro e w1 ⟨rfl, hg1, hc1⟩)
  go_loopw [7, 8] (fun v m wr => ∃ (k : Nat) (s1 : Cm.RS) (acc : List (List UInt8)) (vals : List Value), m = .int .i64 k ∧ k ≤ 9223372036854775807 ∧ wr.ownsRow w.heap.size 22 1 v acc.length vals ∧ Els wr w.heap.size v vals acc ∧ w.grownBy wr (some g) ∧
      CR wr (fun k => X k ∨ w.heap.size ≤ k) g s1 ∧ Cm.listS s most each = Cm.listA each k s1 acc ∧ acc.length + s1.1.length ≤ s.1.length ∧ acc.length + k ≤ (Cm.numS s most.toNat).1)
    (fun _ m _ => (intOf m).toNat)
  case atStart => exact ⟨_, _, [], [], rfl, hnum, World.ownsRow_nil _ _ _ _, Els.nil _ _ _, hg1, hc1, rfl, by simpa using hl2, by simp⟩
  case round =>
    obtain ⟨k, s1, acc, vals, rfl, hk63, hown, hels, hgr, hcr, heq, hle, hak⟩ := hrel
    have hlb := Cm.bytesS_len s1 each
    have HEQ := Lib.hid heq
    clear heq
    rcases Nat.eq_zero_or_pos k with hk0 | hk0
    · subst hk0
      go_wp2
      go_ret
      refine ⟨_, rfl, ?_, hgr, ?_⟩
      · rw [HEQ.out]
        refine ⟨vals, Sl.of_own hown (fun b hb _ hX => by omega), fun i hi => ?_⟩
        obtain ⟨u, hu, h3⟩ := hels.2 i hi
        exact ⟨u, hu, h3.weaken fun b _ hy => .inl hy⟩
      · rw [HEQ.out]
        exact hcr.weaken fun b _ hy => .inl hy
    · obtain ⟨k', rfl⟩ : ∃ k', k = k' + 1 := ⟨k - 1, by omega⟩
      have hst := HEQ.out
      rw [Cm.listA] at hst
      by_cases hok : (Cm.bytesS s1 each).2.2 = 0
      · rw [if_neg (by simp [hok])] at hst
        have hlt := Cm.bytesS_ok hok
        have HST := Lib.hid hst
        have HOK := Lib.hid hok
        have hsz := hgr.size
        clear hst hok
        go_wp2_with (first
          | (go_at_call 66; refine (bytes_any _ _ g s1 hcr each HLO2.out HHI2.out (by omega)).mono ?_; rintro e w2 ⟨u, rfl, hownu, hg2, hc2⟩; obtain ⟨A1, c1, rfl⟩ := own_shape hownu; have hc2' := hc2; obtain ⟨A2, n2, c2, hb2, -⟩ := hc2'; rw [HOK.out] at hb2)
          | (go_at_call 60; refine (reads_ok _ g _ hb2).mono ?_; rintro e w3 ⟨rfl, rfl⟩)
          | (at_builtin; refine wpList_append_sl _ rfl (.tmp 23) (.tmp 25) _ rfl w.heap.size 22 i0 _ 1 24 Tryz.underlying59 hi0 hz0 hz1 hz2 rfl (by omega) u7 acc.length vals rfl ((hown.kept hg2 (by have := hown.lt; cases hv : u7.ownBlock <;> simp; rename_i kk; have := (this kk hv).1; omega)).alloc _) (fun _ => False) _ 1 [.slice A1 (Cm.bytesS s1 each).1.length c1] rfl (one_newv w2 _ _ _ (fun h => h)) (by simp [Value.oneCell']) (by simp only [maxLen]; omega) (by omega) (by have := hg2.size; simp; omega) ?_; intro v4 w4 happ))
        go_roundw
        case rel =>
          have R := list_round hgr hgl hown hels hownu hg2 hc2 happ
          exact ⟨k', _, _, _, by go_num, by omega, R.1, R.2.1, R.2.2.1, R.2.2.2, HST.out, by simp only [List.length_append, List.length_singleton]; omega, by simp only [List.length_append, List.length_singleton]; omega⟩
        case measure => simp [intOf]
      · rw [if_pos hok] at hst
        have HST := Lib.hid hst
        have HOK := Lib.hid hok
        clear hst hok
        go_wp2_with (first
          | (go_at_call 66; refine (bytes_any _ _ g s1 hcr each HLO2.out HHI2.out (by omega)).mono ?_; rintro e w2 ⟨u, rfl, hownu, hg2, hc2⟩; have hc2' := hc2; obtain ⟨A2, n2, c2, hb2, -⟩ := hc2')
          | (go_at_call 60; refine (reads_no _ g _ _ hb2 HOK.out).mono ?_; rintro e w3 ⟨rfl, rfl⟩))
        go_ret
        refine ⟨_, rfl, ?_, hgr.trans hg2, ?_⟩
        · rw [HST.out]
          exact ⟨[], Sl.nil _ _ _, fun i hi => absurd hi (by simp)⟩
        · rw [HST.out]
          exact hc2.weaken fun b _ hy => .inl hy

end Go.Proofs.YtebjjkhiniccgaaGreat.Ci

/-
  Layer 6 (op): the contracts of parts and records (a row of their own, the parts shared), of slices.Clone at records, of EqualFunc and Same.
-/
namespace Go.Proofs.YtebjjkhiniccgaaGreat.Ppi
set_option linter.unusedSimpArgs false
open Go Go.RowKit Ck Kw Ca Cb Ci Pm Pa Pe Pf Pg
set_option linter.unusedVariables false

theorem info_sl : (Tryz.prog.info? 22).map (fun i => (i.zero, i.size, i.bytes)) = some (some (.slice none 0 0), 1, 24) := by kernel_rfl
theorem info_rec : (Tryz.prog.info? 112).map (fun i => (i.zero, i.size, i.bytes)) = some (some (.slice none 0 0), 1, 24) := by kernel_rfl

/-- A list's row made anew: its parts are those that they were. -/
def Rowed (w : World) (X : Nat → Prop) (ls : List Tx) (e : Ending) (w' : World) : Prop :=
  ∃ A c, e = .returned (.slice A ls.length c) ∧ Ls w' (fun k => X k ∧ k < w.heap.size) (.slice A ls.length c) ls ∧ Below w.heap.size w w'
theorem rowed_of {w w' : World} {X : Nat → Prop} {ls : List Tx} {vals : List Value} {v : Value} {t : TypeId} (hown : w'.ownsRow w.heap.size t 1 v ls.length vals)
    (hels : ∀ i (h : i < ls.length), ∃ u, vals[i]? = some u ∧ Sl w X 1 u ls[i].length (BVs ls[i])) (hb : Below w.heap.size w w') : Rowed w X ls (.returned v) w' := by
  obtain ⟨A, c, rfl⟩ := own_shape hown
  refine ⟨A, c, rfl, ⟨vals, Sl.of_own hown (fun k hk _ hx => by omega), fun i hi => ?_⟩, hb⟩
  obtain ⟨u, hu, hs⟩ := hels i hi
  exact ⟨u, hu, (hs.after hb).weaken (fun k _ hk => hk.1)⟩
theorem ls_vals {w : World} {X : Nat → Prop} {A : Option Addr} {c : Nat} {ls : List Tx} (h : Ls w X (.slice A ls.length c) ls) :
    ∃ vals : List Value, vals.length = ls.length ∧ (∀ k (hk : k < ls.length), ∃ ad B d, A = some ad ∧ vals[k]? = some (.slice B ls[k].length d) ∧ w.cell? (ad.add k) = some (.slice B ls[k].length d) ∧ ad.block < w.heap.size) ∧
      ∀ i (hi : i < ls.length), ∃ u, vals[i]? = some u ∧ Sl w X 1 u ls[i].length (BVs ls[i]) := by
  obtain ⟨vals, h1, h2⟩ := h
  obtain ⟨A0, c0, hv, hl, hc, hm, hx⟩ := h1
  obtain ⟨e1, e2, e3⟩ := Value.slice.inj hv
  refine ⟨vals, by omega, fun k hk => ?_, h2⟩
  obtain ⟨ad, hA, hb, hX, hcell⟩ := hx (by omega)
  obtain ⟨u, hu, h3⟩ := h2 k hk
  obtain ⟨B, d, rfl, -⟩ := h3
  exact ⟨ad, B, d, e1.trans hA, hu, hcell k _ hu, hb⟩

set_option maxHeartbeats 1000000 in
theorem parts_any (w : World) (X : Nat → Prop) (A : Option Addr) (c : Nat) (ls : List Tx) (hls : Ls w X (.slice A ls.length c) ls) (hl : ls.length ≤ 1000000) :
    Calls Tryz.prog 121 #[.slice A ls.length c] w (Rowed w X ls) := by
  obtain ⟨vals, hvl, hcell, hels⟩ := ls_vals hls
  have HV := Lib.hid hvl
  have HC := Lib.hid hcell
  have HE := Lib.hid hels
  obtain ⟨i0, hi0, hz0, hz1, hz2⟩ := info_parts info_sl
  clear hls hvl hcell hels
  go_enter Tryz.func121, Tryz.ntmps121
  go_wp2
  go_loopw [3, 8] (fun v i wr => ∃ k : Nat, k ≤ ls.length ∧ i = .int .i64 k ∧ wr.ownsRow w.heap.size 22 1 v k (vals.take k) ∧ Below w.heap.size w wr) (fun _ i _ => ls.length - (intOf i).toNat)
  case atStart => exact ⟨0, Nat.zero_le _, rfl, World.ownsRow_nil _ _ _ _, Below.refl _ _⟩
  case round =>
    obtain ⟨k, hk, rfl, hown, hb⟩ := hrel
    by_cases hlt : k < ls.length
    · obtain ⟨ad, B, d, rfl, hu, hc, hlt2⟩ := HC.out k hlt
      have hc' := (hb.cell (p := ad.add k) (by rw [add_block]; exact hlt2)).trans hc
      have HU : Hid (vals.take (k + 1) = vals.take k ++ [.slice B ls[k].length d]) := Lib.hid (by
        rw [List.take_add_one, hu]; rfl)
      have hsz := hb.size
      clear hc hu
      go_wp2_with (at_builtin; refine wpList_append_sl _ rfl (.tmp 12) (.tmp 14) _ rfl w.heap.size 22 i0 _ 1 24 Tryz.underlying59 hi0 hz0 hz1 hz2 rfl (by omega) u3 k (vals.take k) rfl (hown.alloc _) (fun _ => False) _ 1 [.slice B ls[k].length d] rfl (one_newv wr _ _ _ (fun h => h)) (by simp [Value.oneCell']) (by simp only [maxLen]; omega) (by omega) (by simp; omega) ?_; intro v4 w4 happ)
      go_roundw
      case rel =>
        have hb1 : Below w.heap.size w (wr.alloc (.cells #[.slice B ls[k].length d] 22)) := hb.alloc hsz _
        refine ⟨k + 1, by omega, by go_num, by rw [HU.out]; exact happ.1, hb1.grown happ.2.1 hb1.size (fun g hg => (hown.lt g hg).1)⟩
      case measure => simp [intOf]; omega
    · have hke : k = ls.length := by omega
      have HT : Hid (vals.take k = vals) := Lib.hid (by rw [hke, ← HV.out, List.take_length])
      go_wp2
      go_ret
      rw [HT.out] at hown
      rw [hke] at hown
      exact rowed_of hown HE.out hb

set_option maxHeartbeats 1000000 in
theorem recs_any (w : World) (X : Nat → Prop) (A : Option Addr) (c : Nat) (ls : List Tx) (hls : Ls w X (.slice A ls.length c) ls) (hl : ls.length ≤ 1000000) :
    Calls Tryz.prog 91 #[.slice A ls.length c] w (Rowed w X ls) := by
  obtain ⟨vals, hvl, hcell, hels⟩ := ls_vals hls
  have HV := Lib.hid hvl
  have HC := Lib.hid hcell
  have HE := Lib.hid hels
  obtain ⟨i0, hi0, hz0, hz1, hz2⟩ := info_parts info_rec
  clear hls hvl hcell hels
  go_enter Tryz.func91, Tryz.ntmps91
  go_wp2
  go_loopw [3, 8] (fun v i wr => ∃ k : Nat, k ≤ ls.length ∧ i = .int .i64 k ∧ wr.ownsRow w.heap.size 112 1 v k (vals.take k) ∧ Below w.heap.size w wr) (fun _ i _ => ls.length - (intOf i).toNat)
  case atStart => exact ⟨0, Nat.zero_le _, rfl, World.ownsRow_nil _ _ _ _, Below.refl _ _⟩
  case round =>
    obtain ⟨k, hk, rfl, hown, hb⟩ := hrel
    by_cases hlt : k < ls.length
    · obtain ⟨ad, B, d, rfl, hu, hc, hlt2⟩ := HC.out k hlt
      have hc' := (hb.cell (p := ad.add k) (by rw [add_block]; exact hlt2)).trans hc
      have HU : Hid (vals.take (k + 1) = vals.take k ++ [.slice B ls[k].length d]) := Lib.hid (by
        rw [List.take_add_one, hu]; rfl)
      have hsz := hb.size
      clear hc hu
      go_wp2_with (at_builtin; refine wpList_append_sl _ rfl (.tmp 12) (.tmp 14) _ rfl w.heap.size 112 i0 _ 1 24 Tryz.underlying23 hi0 hz0 hz1 hz2 rfl (by omega) u3 k (vals.take k) rfl (hown.alloc _) (fun _ => False) _ 1 [.slice B ls[k].length d] rfl (one_newv wr _ _ _ (fun h => h)) (by simp [Value.oneCell']) (by simp only [maxLen]; omega) (by omega) (by simp; omega) ?_; intro v4 w4 happ)
      go_roundw
      case rel =>
        have hb1 : Below w.heap.size w (wr.alloc (.cells #[.slice B ls[k].length d] 112)) := hb.alloc hsz _
        refine ⟨k + 1, by omega, by go_num, by rw [HU.out]; exact happ.1, hb1.grown happ.2.1 hb1.size (fun g hg => (hown.lt g hg).1)⟩
      case measure => simp [intOf]; omega
    · have hke : k = ls.length := by omega
      have HT : Hid (vals.take k = vals) := Lib.hid (by rw [hke, ← HV.out, List.take_length])
      go_wp2
      go_ret
      rw [HT.out] at hown
      rw [hke] at hown
      exact rowed_of hown HE.out hb

set_option maxHeartbeats 1000000 in
theorem rclone_any (w : World) (X : Nat → Prop) (A : Option Addr) (c : Nat) (ls : List Tx) (hls : Ls w X (.slice A ls.length c) ls) (hl : ls.length * 24 ≤ 140737488355328) :
    Calls Tryz.prog 110 #[.slice A ls.length c] w fun e w' => ∃ v vals, e = .returned v ∧ w'.ownsRow w.heap.size 112 1 v ls.length vals ∧ (∀ i (hi : i < ls.length), ∃ u, vals[i]? = some u ∧ Sl w X 1 u ls[i].length (BVs ls[i])) ∧ Below w.heap.size w w' := by
  obtain ⟨vals, h1, h2⟩ := hls
  have HE := Lib.hid h2
  have hvl : vals.length = ls.length := by obtain ⟨_, _, _, h, _⟩ := h1; omega
  have H1 : ∀ u ∈ vals, u.oneCell' = true := by
    intro u hu
    obtain ⟨i, hi, rfl⟩ := List.getElem_of_mem hu
    obtain ⟨u', hu', h3⟩ := h2 i (by omega)
    obtain ⟨B, d, rfl, -⟩ := h3
    rw [List.getElem?_eq_getElem hi] at hu'
    rw [Option.some.inj hu']
    rfl
  have HONE := Lib.hid H1
  have HVL := Lib.hid hvl
  obtain ⟨i0, hi0, hz0, hz1, hz2⟩ := info_parts info_rec
  have heq := fun (W : World) => Lib.run_eql_slice_nil (P := Tryz.prog) W 23 112 A ls.length c 0 0 Tryz.underlying23
  clear h2 H1 hvl
  rcases A with _ | ad
  · obtain ⟨h0, hv0⟩ := h1.none_
    have hb : ls = [] := List.eq_nil_of_length_eq_zero h0
    subst hb
    simp only [List.length_nil] at heq
    clear h1 h0 hv0
    go_enter Tryz.func110, Tryz.ntmps110
    go_wp2
    go_ret
    exact ⟨_, [], rfl, World.ownsRow_nil _ _ _ _, fun i hi => absurd hi (by simp), Below.refl _ _⟩
  · go_enter Tryz.func110, Tryz.ntmps110
    go_wp2_with (at_builtin; refine wpList_append_sl _ rfl (.tmp 5) (.tmp 6) _ rfl w.heap.size 112 i0 _ 1 24 Tryz.underlying23 hi0 hz0 hz1 hz2 rfl (by omega) (.slice (some ⟨w.heap.size, 0, none⟩) 0 0) 0 [] rfl (World.ownsRow_made w #[] 0 (Nat.le_refl _) (by simp only [maxLen]; omega) rfl) X _ ls.length vals rfl (h1.alloc _) HONE.out (by simp only [maxLen]; omega) (by omega) (by simp) ?_; intro v2 w2 happ)
    go_ret
    refine ⟨v2, vals, rfl, by simpa using happ.1, HE.out, ?_⟩
    exact ((Below.refl _ _).alloc (Nat.le_refl _) _).grown happ.2.1 (by simp) (by simp [Value.ownBlock])

end Go.Proofs.YtebjjkhiniccgaaGreat.Ppi
