/-
  The walk of the statement CodecPuts: the form of any number, byte string and list is the document's.
-/
import Derived.Test.YtkhncipagdejnaaCq
namespace Go.Proofs.Ytkhncipagdejnaa.Cr
open Go Go.RowKit Ck Ca Cb Cc Cd Ce Cf Cg Ch Ci Cj Cn Co Cp Cq

theorem equal_same (w : World) (X Y : Nat → Prop) (va vb : Value) (n m : Nat) (l : List UInt8) (ha : Sl w X 1 va n (BVs l)) (hb : Sl w Y 1 vb m (BVs l)) :
    Calls Try.prog 9 #[va, vb] w fun e w' => e = .returned (.bool true) ∧ w = w' :=
  (equal_any w X Y va vb n m l l ha hb).mono fun e w' h => ⟨by rw [h.1, beq_self_eq_true], h.2⟩

set_option maxRecDepth 100000 in
set_option maxHeartbeats 1600000 in
theorem puts_any (w : World) (X Y : Nat → Prop) (vb : Value) (n : Nat) (b : List UInt8) (A : Option Addr) (c : Nat) (ls : List (List UInt8)) (hv : Sl w X 1 vb b.length (BVs b)) (hls : Ls w Y (.slice A ls.length c) ls) (hn : n < 18446744073709551616)
    (hbl : b.length ≤ 1073741824) (htl : (Cm.encP ls).length ≤ 34359738368) :
    Calls Try.prog 3 #[vb, .int .u64 n, .slice A ls.length c] w fun e w' => e = .returned (.bool true) ∧ Below w.heap.size w w' := by
  have hll := Cm.len_le_encP ls
  have SB : ∀ w1, Below w.heap.size w w1 → Sl w1 X 1 vb b.length (BVs b) := fun w1 h => hv.after h
  have SL : ∀ w1, Below w.heap.size w w1 → Ls w1 Y (.slice A ls.length c) ls := fun w1 h => hls.after h
  have HN := Lib.hid hn
  clear hn
  by_cases hz : ls.length = 0
  · have SX0 : ∀ (w0 w1 : World), Below (w0.alloc (.cells #[] 5)).heap.size (w0.alloc (.cells #[] 5)) w1 → Sl w1 (fun _ => False) 1 (.slice (some ⟨w0.heap.size, 0, none⟩) 0 0) 0 (BVs []) :=
      fun w0 w1 h => (Sl_lit w0 (fun _ => False) _ [] rfl rfl (by simp) (fun h => h)).after h
    have HX := Lib.hid SX0
    clear SX0
    have hz0 : (ls.length : Int) = 0 := by omega
    have hz1 : ¬ (0 : Int) < ls.length := by omega
    have HZ := Lib.hid hz0
    clear hz hz0
    go_enter Try.func3, Try.ntmps3
    go_wp2_with fail
    refine (live_any _).mono ?_
    rintro e w1 ⟨rfl, hb1⟩
    obtain ⟨W0, hW0⟩ : ∃ W0, W0 = w1.alloc (.cells #[] 5) := ⟨_, rfl⟩
    have B0 : Below w.heap.size w W0 := by rw [hW0]; exact hb1.alloc hb1.size _
    have SX : ∀ w2, Below w.heap.size w w2 → Below W0.heap.size W0 w2 → Sl w2 (fun _ => False) 1 (.slice (some ⟨w1.heap.size, 0, none⟩) 0 0) 0 (BVs []) := fun w2 _ h => HX.out w1 w2 (by rw [hW0] at h; exact h)
    have HS := Lib.hid SX
    clear SX
    go_wp2_with fail
    rw [← hW0]
    clear hW0
    have SX := HS.out
    go_wp2_with fail
    refine (putnum_any _ vb b.length b n _ (SB W0 B0) (by omega) HN.out).mono ?_
    rintro e w2 ⟨v2, rfl, hown2, hb2⟩
    have B2 : Below w.heap.size w w2 := B0.trans (hb2.mono B0.size)
    go_wp2_with fail
    refine (rputnum_any _ vb b.length b n _ (SB w2 B2) (by omega) HN.out).mono ?_
    rintro e w3 ⟨v3, rfl, hown3, hb3⟩
    have B3 : Below w.heap.size w w3 := B2.trans (hb3.mono B2.size)
    go_wp2_with fail
    refine (equal_same _ (fun _ => False) (fun _ => False) v2 v3 _ _ _ ((Sl.of_own hown2 (fun _ _ _ h => h)).after hb3) (Sl.of_own hown3 (fun _ _ _ h => h))).mono ?_
    rintro e w4 ⟨rfl, rfl⟩
    go_wp2_with fail
    refine (putbytes_any (fun _ => False) vb (.slice (some ⟨w1.heap.size, 0, none⟩) 0 0) b.length 0 b [] _ ((SB w3 B3).weaken (fun _ _ h => h.elim)) (SX w3 B3 (hb2.trans (hb3.mono hb2.size))) (by omega) (by omega)).mono ?_
    rintro e w5 ⟨v5, rfl, hown5, hb5⟩
    have B5 : Below w.heap.size w w5 := B3.trans (hb5.mono B3.size)
    go_wp2_with fail
    refine (rputbytes_any (fun _ => False) (fun _ => False) vb (.slice (some ⟨w1.heap.size, 0, none⟩) 0 0) b.length 0 b [] _ ((SB w5 B5).weaken (fun _ _ h => h.elim)) (SX w5 B5 ((hb2.trans (hb3.mono hb2.size)).trans (hb5.mono (hb2.trans (hb3.mono hb2.size)).size))) (by omega) (by omega)).mono ?_
    rintro e w6 ⟨v6, rfl, hown6, hb6⟩
    have B6 : Below w.heap.size w w6 := B5.trans (hb6.mono B5.size)
    go_wp2_with fail
    refine (equal_same _ (fun _ => False) (fun _ => False) v5 v6 _ _ _ ((Sl.of_own hown5 (fun _ _ _ h => h)).after hb6) (Sl.of_own hown6 (fun _ _ _ h => h))).mono ?_
    rintro e w7 ⟨rfl, rfl⟩
    go_wp2_with fail
    refine (putlist_any _ _ vb b.length b A c ls _ (SB w6 B6) (SL w6 B6) (by omega) (by omega)).mono ?_
    rintro e w8 ⟨v8, rfl, hown8, hb8⟩
    have B8 : Below w.heap.size w w8 := B6.trans (hb8.mono B6.size)
    go_wp2_with fail
    refine (rputlist_any _ _ vb b.length b A c ls _ (SB w8 B8) (SL w8 B8) (by omega) (by omega)).mono ?_
    rintro e w9 ⟨v9, rfl, hown9, hb9⟩
    have B9 : Below w.heap.size w w9 := B8.trans (hb9.mono B8.size)
    go_wp2_with fail
    refine (equal_same _ (fun _ => False) (fun _ => False) v8 v9 _ _ _ ((Sl.of_own hown8 (fun _ _ _ h => h)).after hb9) (Sl.of_own hown9 (fun _ _ _ h => h))).mono ?_
    rintro e w10 ⟨rfl, rfl⟩
    go_wp2_with fail
    refine (numlen_any n HN.out _).mono ?_
    rintro e w11 ⟨rfl, hb11⟩
    have B11 : Below w.heap.size w w11 := B9.trans (hb11.mono B9.size)
    go_wp2_with fail
    refine (rputnum_any (fun _ => False) (.slice none 0 0) 0 [] n _ (Sl.nil _ _ _) (by omega) HN.out).mono ?_
    rintro e w12 ⟨v12, rfl, hown12, hb12⟩
    obtain ⟨A12, c12, rfl⟩ := own_shape hown12
    have B12 : Below w.heap.size w w12 := B11.trans (hb12.mono B11.size)
    go_wp2_with fail
    go_ret
    exact ⟨rfl, B12⟩
  · have hlt : 0 < ls.length := by omega
    have hp0 := Cm.part_le_encP ls 0 hlt
    have SX : ∀ w1, Below w.heap.size w w1 → ∃ ad B d, A = some ad ∧ w1.cell? (ad.add 0) = some (.slice B ls[0].length d) ∧ Sl w1 Y 1 (.slice B ls[0].length d) ls[0].length (BVs ls[0]) := fun w1 h => (hls.after h).at_ hlt
    obtain ⟨ad, B, d, rfl, hcell, hx0⟩ := hls.at_ hlt
    have hcell0 : ∀ w1, Below w.heap.size w w1 → w1.cell? (ad.add 0) = some (.slice B ls[0].length d) := fun w1 h => (h.cell (World.block_lt_of_cell? w _ hcell)).trans hcell
    have SX1 : ∀ w2, Below w.heap.size w w2 → Sl w2 (fun _ => False) 1 (.slice B ls[0].length d) ls[0].length (BVs ls[0]) := fun w2 h => (hx0.after h).weaken (fun _ _ h => h.elim)
    have HS := Lib.hid SX1
    have HC := Lib.hid hcell0
    have hz1 : (0 : Int) < ls.length := by omega
    clear SX SX1 hcell0 hz hcell hx0
    go_enter Try.func3, Try.ntmps3
    go_wp2_with fail
    refine (live_any _).mono ?_
    rintro e w1 ⟨rfl, hb1⟩
    obtain ⟨W0, hW0⟩ : ∃ W0, W0 = w1.alloc (.cells #[] 5) := ⟨_, rfl⟩
    have B0 : Below w.heap.size w W0 := by rw [hW0]; exact hb1.alloc hb1.size _
    have hc0 := HC.out W0 B0
    rw [hW0] at hc0
    have hc1 : (w1.alloc (.cells #[] 5)).cell? ad = some (.slice B ls[0].length d) := by
      have : ad.add 0 = ad := by unfold Addr.add; simp
      rw [this] at hc0
      exact hc0
    have HW := Lib.hid hW0
    clear hW0
    have SX : ∀ w2, Below w.heap.size w w2 → Below W0.heap.size W0 w2 → Sl w2 (fun _ => False) 1 (.slice B ls[0].length d) ls[0].length (BVs ls[0]) := fun w2 h _ => HS.out w2 h
    have HS2 := Lib.hid SX
    clear SX
    go_wp2_with fail
    rw [← HW.out]
    clear HW hc0 hc1
    have SX := HS2.out
    go_wp2_with fail
    refine (putnum_any _ vb b.length b n _ (SB W0 B0) (by omega) HN.out).mono ?_
    rintro e w2 ⟨v2, rfl, hown2, hb2⟩
    have B2 : Below w.heap.size w w2 := B0.trans (hb2.mono B0.size)
    go_wp2_with fail
    refine (rputnum_any _ vb b.length b n _ (SB w2 B2) (by omega) HN.out).mono ?_
    rintro e w3 ⟨v3, rfl, hown3, hb3⟩
    have B3 : Below w.heap.size w w3 := B2.trans (hb3.mono B2.size)
    go_wp2_with fail
    refine (equal_same _ (fun _ => False) (fun _ => False) v2 v3 _ _ _ ((Sl.of_own hown2 (fun _ _ _ h => h)).after hb3) (Sl.of_own hown3 (fun _ _ _ h => h))).mono ?_
    rintro e w4 ⟨rfl, rfl⟩
    go_wp2_with fail
    refine (putbytes_any (fun _ => False) vb (.slice B ls[0].length d) b.length ls[0].length b ls[0] _ ((SB w3 B3).weaken (fun _ _ h => h.elim)) (SX w3 B3 (hb2.trans (hb3.mono hb2.size))) (by omega) (by omega)).mono ?_
    rintro e w5 ⟨v5, rfl, hown5, hb5⟩
    have B5 : Below w.heap.size w w5 := B3.trans (hb5.mono B3.size)
    go_wp2_with fail
    refine (rputbytes_any (fun _ => False) (fun _ => False) vb (.slice B ls[0].length d) b.length ls[0].length b ls[0] _ ((SB w5 B5).weaken (fun _ _ h => h.elim)) (SX w5 B5 ((hb2.trans (hb3.mono hb2.size)).trans (hb5.mono (hb2.trans (hb3.mono hb2.size)).size))) (by omega) (by omega)).mono ?_
    rintro e w6 ⟨v6, rfl, hown6, hb6⟩
    have B6 : Below w.heap.size w w6 := B5.trans (hb6.mono B5.size)
    go_wp2_with fail
    refine (equal_same _ (fun _ => False) (fun _ => False) v5 v6 _ _ _ ((Sl.of_own hown5 (fun _ _ _ h => h)).after hb6) (Sl.of_own hown6 (fun _ _ _ h => h))).mono ?_
    rintro e w7 ⟨rfl, rfl⟩
    go_wp2_with fail
    refine (putlist_any _ _ vb b.length b (some ad) c ls _ (SB w6 B6) (SL w6 B6) (by omega) (by omega)).mono ?_
    rintro e w8 ⟨v8, rfl, hown8, hb8⟩
    have B8 : Below w.heap.size w w8 := B6.trans (hb8.mono B6.size)
    go_wp2_with fail
    refine (rputlist_any _ _ vb b.length b (some ad) c ls _ (SB w8 B8) (SL w8 B8) (by omega) (by omega)).mono ?_
    rintro e w9 ⟨v9, rfl, hown9, hb9⟩
    have B9 : Below w.heap.size w w9 := B8.trans (hb9.mono B8.size)
    go_wp2_with fail
    refine (equal_same _ (fun _ => False) (fun _ => False) v8 v9 _ _ _ ((Sl.of_own hown8 (fun _ _ _ h => h)).after hb9) (Sl.of_own hown9 (fun _ _ _ h => h))).mono ?_
    rintro e w10 ⟨rfl, rfl⟩
    go_wp2_with fail
    refine (numlen_any n HN.out _).mono ?_
    rintro e w11 ⟨rfl, hb11⟩
    have B11 : Below w.heap.size w w11 := B9.trans (hb11.mono B9.size)
    go_wp2_with fail
    refine (rputnum_any (fun _ => False) (.slice none 0 0) 0 [] n _ (Sl.nil _ _ _) (by omega) HN.out).mono ?_
    rintro e w12 ⟨v12, rfl, hown12, hb12⟩
    obtain ⟨A12, c12, rfl⟩ := own_shape hown12
    have B12 : Below w.heap.size w w12 := B11.trans (hb12.mono B11.size)
    go_wp2_with fail
    go_ret
    exact ⟨rfl, B12⟩

end Go.Proofs.Ytkhncipagdejnaa.Cr
