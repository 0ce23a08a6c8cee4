/-
  Contract of begun: two byte strings get two numbers, and what was signed is signed.
-/
import Derived.Test.YtnhppmdhhmekdaaIe
import Derived.Test.YtnhppmdhhmekdaaLc
import Derived.Lib.SlBytesConst
namespace Go.Proofs.Ytnhppmdhhmekdaa.Ba
open Go Go.RowKit Ck Im Ik Ia Ib Ic Ig Ie Lk Lb Lc

theorem one_byte (w : World) (n : Nat) (fr : Nat × Nat) (h : n < 256) : Sl (w.alloc (.cells #[.int .u8 (n : Int)] 5 fr)) (fun _ => False) 1 (.slice (some ⟨w.heap.size, 0, none⟩) 1 1) 1 (BVs [UInt8.ofNat n]) := by
  refine ⟨_, _, rfl, rfl, Nat.le_refl _, by simp only [maxLen]; omega, fun _ => ⟨_, rfl, by simp, fun h => h, fun j u hu => ?_⟩⟩
  have ha : (⟨w.heap.size, 0, none⟩ : Addr).add j = ⟨w.heap.size, j, none⟩ := by unfold Addr.add; split <;> simp_all
  have hh := heap_alloc_new w (.cells #[.int .u8 (n : Int)] 5 fr)
  rw [ha]
  simp only [World.cell?, hh]
  rw [← BV_of h]
  simpa [BVs] using hu
/-- Anywhere above, but for a zone. -/
def Zo (B a b : Nat) (k : Nat) : Prop := B ≤ k ∧ ¬ (a ≤ k ∧ k < b)
theorem zo_up {B a b : Nat} {w w' : World} (h1 : B ≤ w.heap.size) (h2 : b ≤ w.heap.size) (k : Nat) (h : Up (Zo B a b) w w' k) : Zo B a b k := by
  rcases h with h | ⟨h, _⟩
  · exact h
  · exact ⟨by omega, by omega⟩
theorem sum_step {B a b : Nat} {w2 W : World} {p : Nat} {L : List Tx} (n : Nat) (z : Int) (fr : Nat × Nat) (hz : z = (n : Int)) (hn : n < 256) (hT : Tb W (Zo B a b) p L) (hC : Ch (Zo B a b) w2 W) (h1 : B ≤ w2.heap.size) (h2 : b ≤ w2.heap.size) (k : Nat) (hk : sum L [UInt8.ofNat n] = k) :
    Calls Try.prog 11 #[.pointer (some ⟨p, 0, none⟩), .slice (some ⟨W.heap.size, 0, none⟩) 1 1] (W.alloc (.cells #[.int .u8 z] 5 fr)) fun e w' => e = .returned (.int .i64 (k : Int)) ∧ Tb w' (Zo B a b) p (add L [UInt8.ofNat n]) ∧ Ch (Zo B a b) w2 w' := by
  subst hz
  have hb : Below W.heap.size W (W.alloc (.cells #[.int .u8 (n : Int)] 5 fr)) := (Below.refl _ W).alloc (Nat.le_refl _) _
  have hs := hC.size
  refine (sum_yes _ (Zo B a b) (fun _ => False) p L (some ⟨W.heap.size, 0, none⟩) 1 [UInt8.ofNat n] (hT.ch (Ch.of_below (S := fun _ => False) hb (Nat.le_refl _)) (fun _ _ h => h)) (one_byte W n fr hn) (by simp)).mono ?_
  rintro e w' ⟨he, hT', hC'⟩
  rw [hk] at he
  exact ⟨he, hT'.weaken (zo_up (by simp; omega) (by simp; omega)), (hC.trans (Ch.of_below hb (Nat.le_refl _)) (fun _ _ h => h)).trans hC' (fun _ _ h => h)⟩

set_option maxRecDepth 100000 in
set_option maxHeartbeats 2000000 in
theorem begun_any (w : World) : Calls Try.prog 9 #[] w fun e w' => e = .returned (.bool true) ∧ Below w.heap.size w w' := by
  have kc := fun (W : World) (C : Array Value) (n c : Nat) => Lib.run_convert_bytes_const (P := Try.prog) W 24 5 C n c Try.underlying24 Try.underlying5
  go_enter Try.func9, Try.ntmps9
  go_wp2_with fail
  refine (newtable_any _).mono ?_
  rintro e w1 ⟨p, rfl, hT1, hB1⟩
  go_wp2_with fail
  refine (La.newledger_any _).mono ?_
  rintro e w2 ⟨q, rfl, hL2, hB2⟩
  have B2 : Below w.heap.size w w2 := hB1.trans (hB2.mono hB1.size)
  have s1 := hB1.size
  have s2 := hB2.size
  have T2 : Tb w2 (Zo w.heap.size w1.heap.size w2.heap.size) p [] := (hT1.ch (Ch.of_below (S := fun _ => False) hB2 (Nat.le_refl _)) (fun _ _ h => h)).weaken (fun k hk => ⟨hk.1, by have := hk.2; omega⟩)
  have HT2 := Lib.hid T2
  have HB2 := Lib.hid B2
  have HL2 := Lib.hid hL2
  have HS := Lib.hid (And.intro s1 s2)
  clear hT1 hB1 hL2 hB2 T2 B2 s1 s2
  go_wp2_with fail
  refine (sum_step (B := w.heap.size) (a := w1.heap.size) (b := w2.heap.size) (w2 := w2) (L := []) 97 _ _ rfl (by omega) HT2.out (Ch.refl _ _) (by have := HS.out; omega) (Nat.le_refl _) 1 rfl).mono ?_
  rintro e w3 ⟨rfl, hT3, hD3⟩
  have HT3 := Lib.hid hT3
  have HD3 := Lib.hid hD3
  clear hT3 hD3
  go_wp2_with fail
  refine (sum_step (B := w.heap.size) (a := w1.heap.size) (b := w2.heap.size) (w2 := w2) (L := add [] [UInt8.ofNat 97]) 98 _ _ rfl (by omega) HT3.out HD3.out (by have := HS.out; omega) (Nat.le_refl _) 2 rfl).mono ?_
  rintro e w4 ⟨rfl, hT4, hD4⟩
  have HT4 := Lib.hid hT4
  have HD4 := Lib.hid hD4
  clear hT4 hD4
  go_wp2_with fail
  refine (sum_step (B := w.heap.size) (a := w1.heap.size) (b := w2.heap.size) (w2 := w2) (L := add (add [] [UInt8.ofNat 97]) [UInt8.ofNat 98]) 97 _ _ rfl (by omega) HT4.out HD4.out (by have := HS.out; omega) (Nat.le_refl _) 1 rfl).mono ?_
  rintro e w5 ⟨rfl, hT5, hD5⟩
  have hL5 : Lg w5 (New w1 w2) q [] := HL2.out.ch hD5 (fun k h1 h2 => h2.2 h1)
  have HL5 := Lib.hid hL5
  have HB5 : Hid (Below w.heap.size w w5) := Lib.hid (HB2.out.trans (hD5.below (fun k hk h => by have := h.1; omega) HB2.out.size))
  clear hT5 hD5 hL5
  go_wp2_with fail
  refine (sign_any _ (New w1 w2) q [] (3, 1) ⟨by simp, by simp, by simp, by simp⟩ HL5.out (by simp)).mono ?_
  rintro e w6 ⟨rfl, hL6, hC6⟩
  have HL6 : Hid (Lg w6 (Up (New w1 w2) w5 w6) q [(3, 1)]) := Lib.hid hL6
  have HB6 : Hid (Below w.heap.size w w6) := Lib.hid (HB5.out.trans (hC6.below (fun k hk h => by have := h.1; have := HS.out; omega) HB5.out.size))
  have hL6s : ∀ o, Lg (w6.alloc o) (Up (New w1 w2) w5 w6) q [(3, 1)] := fun o => HL6.out.ch (Ch.of_below (S := fun _ => False) ((Below.refl _ w6).alloc (Nat.le_refl _) o) (Nat.le_refl _)) (fun _ _ h => h)
  have HL7 := Lib.hid hL6s
  clear hL6 hC6 hL6s
  rw [show ans (3, 1) = (3, 1) from rfl, show code (3, 1) = 0 from rfl]
  unfold GV
  go_wp2_with fail
  refine (signed_yes _ (Up (New w1 w2) w5 w6) q [(3, 1)] (3, 1) ⟨by simp, by simp, by simp, by simp⟩ (HL7.out _)).mono ?_
  rintro e w7 ⟨rfl, hB7⟩
  have HB7 : Hid (Below w6.heap.size w6 w7) := Lib.hid (below_tr ((Below.refl _ w6).alloc (Nat.le_refl _) _) hB7)
  clear hB7
  rw [show isS [(3, 1)] (3, 1) = true from rfl]
  go_wp2_with fail
  refine (signed_yes _ (Up (New w1 w2) w5 w6) q [(3, 1)] (4, 1) ⟨by simp, by simp, by simp, by simp⟩ (HL6.out.ch (Ch.of_below (S := fun _ => False) HB7.out (Nat.le_refl _)) (fun _ _ h => h))).mono ?_
  rintro e w8 ⟨rfl, hB8⟩
  have HB8 := Lib.hid (HB6.out.trans ((below_tr HB7.out hB8).mono HB6.out.size))
  clear hB8
  rw [show isS [(3, 1)] (4, 1) = false from rfl]
  go_wp2_with fail
  go_ret
  exact ⟨rfl, HB8.out⟩

end Go.Proofs.Ytnhppmdhhmekdaa.Ba
