/-
  Contract of the statements' own function live: bytes that the document fixes.
-/
import Derived.Test.YtkhncipagdejnaaCp
namespace Go.Proofs.Ytkhncipagdejnaa.Cq
open Go Go.RowKit Ck Ca Cb Cc Cd Ce Cf Cg Ch Ci Cj Cn Co Cp

set_option maxHeartbeats 800000 in
theorem live_any (w : World) : Calls Try.prog 8 #[] w fun e w' => e = .returned (.bool true) ∧ Below w.heap.size w w' := by
  go_enter Try.func8, Try.ntmps8
  go_wp2_with fail
  refine (putnum_any (fun _ => False) (.slice none 0 0) 0 [] 300 _ (Sl.nil _ _ _) (by omega) (by omega)).mono ?_
  rintro e w1 ⟨v1, rfl, hown1, hb1⟩
  go_wp2_with fail
  refine (putbytes_any (fun _ => False) v1 (.slice (some ⟨w1.heap.size, 0, none⟩) 2 2) _ 2 _ [7, 8] _ ((Sl.of_own hown1 (fun _ _ _ h => h)).alloc _) (Sl_lit w1 _ _ [7, 8] rfl rfl (by omega) (fun h => h)) (by simp [Cm.enc, Cm.encF]) (by omega)).mono ?_
  rintro e w2 ⟨v2, rfl, hown2, hb2⟩
  have hbw2 : Below w.heap.size w w2 := (hb1.alloc hb1.size _).trans (hb2.mono (by have := hb1.size; simp; omega))
  have hc : ([] ++ Cm.enc 300) ++ Cm.encB [7, 8] = [172, 2, 2, 7, 8] := by decide
  rw [hc] at hown2
  clear hc
  go_wp2_with fail
  refine (read_any _ (fun _ => False) v2 5 _ (Sl.of_own hown2 (fun _ _ _ h => h)) (by omega)).mono ?_
  rintro e w3 ⟨g, rfl, hcr3, hg3, hb3⟩
  go_wp2_with fail
  refine (equal_any _ (fun _ => False) (fun _ => False) v2 (.slice (some ⟨w3.heap.size, 0, none⟩) 5 5) 5 5 _ [172, 2, 2, 7, 8] (((Sl.of_own hown2 (fun _ _ _ h => h)).after hb3).alloc _) (Sl_lit w3 _ _ [172, 2, 2, 7, 8] rfl rfl (by omega) (fun h => h))).mono ?_
  rintro e w4 ⟨rfl, rfl⟩
  have hcr4 := hcr3.after ((Below.refl w3.heap.size w3).alloc (Nat.le_refl _) (.cells #[.int .u8 172, .int .u8 2, .int .u8 2, .int .u8 7, .int .u8 8] 5))
  go_wp2_with fail
  refine (num_any _ _ g _ hcr4 1000).mono ?_
  rintro e w5 ⟨rfl, hg5, hcr5⟩
  have hn : Cm.numS ([172, 2, 2, 7, 8], 0) 1000 = (300, ([2, 7, 8], 0)) := by decide
  rw [hn] at hcr5 ⊢
  clear hn
  go_wp2_with fail
  refine (bytes_any _ _ g _ hcr5 9 (by omega) (by omega) (by simp)).mono ?_
  rintro e w6 ⟨v6, rfl, hown6, hg6, hcr6⟩
  have hn : Cm.bytesS ([2, 7, 8], 0) 9 = ([7, 8], ([], 0)) := by decide
  rw [hn] at hown6 hcr6
  clear hn
  go_wp2_with fail
  refine (equal_any _ (fun _ => False) (fun _ => False) v6 (.slice (some ⟨w6.heap.size, 0, none⟩) 2 2) 2 2 [7, 8] [7, 8] ((Sl.of_own hown6 (fun _ _ _ h => h)).alloc _) (Sl_lit w6 _ _ [7, 8] rfl rfl (by omega) (fun h => h))).mono ?_
  rintro e w7 ⟨rfl, rfl⟩
  have hcr7 := hcr6.after ((Below.refl w6.heap.size w6).alloc (Nat.le_refl _) (.cells #[.int .u8 7, .int .u8 8] 5))
  go_wp2_with fail
  refine (done_any _ _ g _ hcr7).mono ?_
  rintro e w8 ⟨rfl, rfl⟩
  go_wp2_with fail
  go_ret
  refine ⟨rfl, ?_⟩
  have k1 : w.grownBy w3 none := grown_of_below (hbw2.trans (hb3.mono hbw2.size)) none
  have k2 := grown_below k1 ((Below.refl w3.heap.size w3).alloc (Nat.le_refl _) (.cells #[.int .u8 172, .int .u8 2, .int .u8 2, .int .u8 7, .int .u8 8] 5))
  have hgg : w.heap.size ≤ g := Nat.le_trans hbw2.size hg3
  have k3 := grown_step k2 hg5 (.inr fun k hk => by injection hk with hk; omega)
  have k4 := grown_step k3 hg6 (.inr fun k hk => by injection hk with hk; omega)
  have k5 := grown_below k4 ((Below.refl w6.heap.size w6).alloc (Nat.le_refl _) (.cells #[.int .u8 7, .int .u8 8] 5))
  exact below_of_grown k5 (by simp)

end Go.Proofs.Ytkhncipagdejnaa.Cq
