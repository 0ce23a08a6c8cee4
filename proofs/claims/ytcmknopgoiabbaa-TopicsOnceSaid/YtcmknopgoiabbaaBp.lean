/-
  Contracts of the program's topics: putNum, putBytes.
-/
import Derived.Test.YtcmknopgoiabbaaW4
import Derived.Test.YtcmknopgoiabbaaPk
import Derived.Test.YtcmknopgoiabbaaGa
import Derived.Outline
namespace Go.Proofs.Ytcmknopgoiabbaa.Bp
set_option linter.unusedSimpArgs false
open Go Go.RowKit Ck Kw Ca Cb Ga Pk
attribute [local go_sem ↓] Go.wp_at_zero Go.wp_at_succ
set_option linter.unusedVariables false

theorem none_sl (w : World) : Sl w (fun _ => False) 1 (.slice none 0 0) 0 (BVs []) := Sl.of_own (World.ownsRow_nil w 0 5 1) (fun _ _ _ h => h)

set_option maxRecDepth 100000 in
set_option maxHeartbeats 1000000 in
theorem pnum_any (B : Nat) (v : Value) (n : Nat) (b : List UInt8) (w : World) (hown : w.ownsRow B 5 1 v b.length (BVs b)) (hB : B ≤ w.heap.size) (hl : b.length ≤ 140737488355318) (hn : n < 9223372036854775808) :
    Calls Try.prog 16 #[v, .int .i64 (n : Int)] w fun e w' => Onto w B 5 v (b ++ Cm.enc n) e w' := by
  have hlen := Cm.enc_len n
  obtain ⟨i0, hi0, hz0, hz1, hz2⟩ := info_parts Cb.info_u8
  have hw := wrap_u64' n (by omega)
  have HP := Lib.hid (putnum_any (fun _ => False) (.slice none 0 0) 0 [] n w (none_sl w) (by omega) (by omega))
  obtain ⟨A0, c0, rfl⟩ := own_shape hown
  have HO := Lib.hid hown
  clear hown
  go_enter Try.func16, Try.ntmps16
  go_wp2_with fail
  refine HP.out.mono ?_
  rintro e w1 ⟨v1, rfl, ho1, hb1⟩
  simp only [List.nil_append] at ho1
  obtain ⟨A1, c1, rfl⟩ := own_shape ho1
  have HO1 := Lib.hid ho1
  have HB1 := Lib.hid hb1
  clear ho1 hb1
  go_wp2_with (at_builtin; refine wpList_append_sl _ rfl (.tmp 5) (.tmp 8) _ rfl B 5 i0 _ 1 1 Try.underlying39 hi0 hz0 hz1 hz2 rfl (by omega) _ b.length (BVs b) rfl (own_below HO.out HB1.out) (fun _ => False) _ (Cm.enc n).length (BVs (Cm.enc n)) rfl (Sl.of_own HO1.out (fun _ _ _ h => h)) (BVs_one _) (by simp only [maxLen]; omega) (by omega) (Nat.le_trans hB HB1.out.size) ?_; intro v2 w2 happ)
  go_ret
  exact Onto.of HB1.out happ

set_option maxRecDepth 100000 in
set_option maxHeartbeats 1000000 in
theorem pbytes_any (B : Nat) (X : Nat → Prop) (v vx : Value) (k : Nat) (b x : List UInt8) (w : World) (hown : w.ownsRow B 5 1 v b.length (BVs b)) (hB : B ≤ w.heap.size) (hx : Sl w X 1 vx k (BVs x)) (hl : b.length ≤ 140737488355300) (hk : b.length + x.length ≤ 140737488355300) :
    Calls Try.prog 18 #[v, vx] w fun e w' => Onto w B 5 v (b ++ Cm.encB x) e w' := by
  have hkl : k = x.length := by obtain ⟨A, c, _, h, _⟩ := hx; rw [BVs_len] at h; omega
  obtain ⟨Ax, cx, rfl⟩ : ∃ A c, vx = .slice A k c := by obtain ⟨A, c, h, _⟩ := hx; exact ⟨A, c, h⟩
  subst hkl
  have hlen := Cm.enc_len x.length
  have HBL := Lib.hid (Cm.encB_len x)
  obtain ⟨i0, hi0, hz0, hz1, hz2⟩ := info_parts Cb.info_u8
  have HP := Lib.hid (putbytes_any X (.slice none 0 0) (.slice Ax x.length cx) 0 x.length [] x w (Sl.nil w X 1) hx (by omega) (by omega))
  obtain ⟨A0, c0, rfl⟩ := own_shape hown
  have HO := Lib.hid hown
  clear hown
  go_enter Try.func18, Try.ntmps18
  go_wp2_with fail
  refine HP.out.mono ?_
  rintro e w1 ⟨v1, rfl, ho1, hb1⟩
  simp only [List.nil_append] at ho1
  obtain ⟨A1, c1, rfl⟩ := own_shape ho1
  have HO1 := Lib.hid ho1
  have HB1 := Lib.hid hb1
  clear ho1 hb1
  go_wp2_with (at_builtin; refine wpList_append_sl _ rfl (.tmp 5) (.tmp 7) _ rfl B 5 i0 _ 1 1 Try.underlying39 hi0 hz0 hz1 hz2 rfl (by omega) _ b.length (BVs b) rfl (own_below HO.out HB1.out) (fun _ => False) _ (Cm.encB x).length (BVs (Cm.encB x)) rfl (Sl.of_own HO1.out (fun _ _ _ h => h)) (BVs_one _) (by have := HBL.out; simp only [maxLen]; omega) (by have := HBL.out; omega) (Nat.le_trans hB HB1.out.size) ?_; intro v2 w2 happ)
  go_ret
  exact Onto.of HB1.out happ
end Go.Proofs.Ytcmknopgoiabbaa.Bp
