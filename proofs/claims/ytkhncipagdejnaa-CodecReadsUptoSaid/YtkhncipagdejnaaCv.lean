/-
  The walk of the statement CodecOne: what any bytes say is put again as they stood.
-/
import Derived.Test.YtkhncipagdejnaaCu
namespace Go.Proofs.Ytkhncipagdejnaa.Cv
open Go Go.RowKit Ck Ca Cb Cc Cd Ce Cf Cg Ch Ci Cj Cn Co Cp Cq Cr Cu

theorem num_parts (b : List UInt8) (m : Nat) : (∃ v r j, Cm.numS (b, 0) m = (v, (r, 0)) ∧ b.take j = Cm.enc v ∧ j + r.length = b.length ∧ v < 18446744073709551616) ∨ (Cm.numS (b, 0) m).2.2 ≠ 0 := by
  by_cases h : (Cm.numS (b, 0) m).2.2 = 0
  · left
    obtain ⟨g1, g2, g3, g4⟩ := Cm.numS_ok h
    rcases hp : Cm.pn b 0 0 with ⟨v, j, e⟩
    simp only [hp] at g2 g4
    subst g2
    have hj := Cm.pn_one0 hp
    exact ⟨v, b.drop j, j, g4, hj.1, by rw [List.length_drop]; omega, hj.2.2.2⟩
  · exact .inr h
theorem list_parts (b : List UInt8) (k m : Int) : (∃ ls r j, Cm.listS (b, 0) k m = (ls, (r, 0)) ∧ b.take j = Cm.encL ls ∧ j + r.length = b.length) ∨ (Cm.listS (b, 0) k m).2.2 ≠ 0 := by
  by_cases h : (Cm.listS (b, 0) k m).2.2 = 0
  · left
    obtain ⟨ls, r, h1, h2⟩ := Cm.listS_one h
    exact ⟨ls, r, (Cm.encL ls).length, h1, by rw [h2]; simp, by rw [h2]; simp⟩
  · exact .inr h
theorem slice_sub (A : Option Addr) (n c j L : Nat) (h : j + L = n) (hc : n ≤ c) (W : World) : (Instr.slice 22 (.slice A n c) none (some (.int .i64 ((n : Int) - (L : Int)))) none).run Try.prog W = .ok (.slice A j c) W := by
  have := slice_upto A n c j (by omega) W
  rw [show ((n : Int) - (L : Int)) = (j : Int) from by omega]
  exact this
theorem CR.shape {w : World} {X : Nat → Prop} {g : Nat} {s : Cm.RS} (h : CR w X g s) : ∃ v, CB w g v s.2 := by
  obtain ⟨A, n, c, hb, _⟩ := h
  exact ⟨_, hb⟩
theorem listS_len (b : List UInt8) (k m : Int) : (Cm.listS (b, 0) k m).2.1.length ≤ b.length := by
  have h : ∀ (n : Nat) (s : Cm.RS) (acc : List (List UInt8)), (Cm.listA m n s acc).2.1.length ≤ s.1.length := by
    intro n
    induction n with
    | zero => intro s acc; exact Nat.le_refl _
    | succ n ih =>
      intro s acc
      rw [Cm.listA]
      split
      · exact Cm.bytesS_len s m
      · exact Nat.le_trans (ih _ _) (Cm.bytesS_len s m)
  exact Nat.le_trans (h _ _ _) (Cm.numS_len _ _)

set_option maxRecDepth 100000 in
set_option maxHeartbeats 3200000 in
theorem one_any (w : World) (X : Nat → Prop) (A : Option Addr) (c : Nat) (b : List UInt8) (hv : Sl w X 1 (.slice A b.length c) b.length (BVs b)) (hbl : b.length ≤ 1073741824) :
    Calls Try.prog 6 #[.slice A b.length c] w fun e w' => e = .returned (.bool true) ∧ Below w.heap.size w w' := by
  have hnc : b.length ≤ c := by obtain ⟨A, c, hv, _, h, _⟩ := hv; injection hv with _ _ e3; omega
  have hcm : c ≤ 9223372036854775807 := by obtain ⟨A, c, hv, _, _, h, _⟩ := hv; injection hv with _ _ e3; simp only [maxLen] at h; omega
  have hnl := Cm.numS_len (b, 0) 18446744073709551615
  have hll := listS_len b (b.length : Int) (b.length : Int)
  have hpn := num_parts b 18446744073709551615
  have hpl := list_parts b (b.length : Int) (b.length : Int)
  generalize hN : Cm.numS (b, 0) 18446744073709551615 = pN at *
  generalize hL : Cm.listS (b, 0) (b.length : Int) (b.length : Int) = pL at *
  have HN := Lib.hid hN
  have HL := Lib.hid hL
  have HPL := Lib.hid hpl
  have HLL := Lib.hid hll
  clear hN hL hpl hll
  rcases hpn with ⟨v, r, j, rfl, htk, hjr, hv64⟩ | hne
  · have HT := Lib.hid htk
    have HJ := Lib.hid hjr
    have HV := Lib.hid hv64
    have hrl : r.length ≤ b.length := by omega
    clear htk hjr hv64 hnl
    go_enter Try.func6, Try.ntmps6
    go_wp2_with fail
    refine (live_any _).mono ?_
    rintro e w1 ⟨rfl, hb1⟩
    go_wp2_with fail
    refine (read_any _ X _ b.length b (hv.after hb1) (by omega)).mono ?_
    rintro e w2 ⟨g, rfl, hcr, hg2, hb2⟩
    have B2 : Below w.heap.size w w2 := hb1.trans (hb2.mono hb1.size)
    have hgg : w.heap.size ≤ g := Nat.le_trans hb1.size hg2
    go_wp2_with fail
    refine (num_any _ _ g _ hcr 18446744073709551615).mono ?_
    rintro e w3 ⟨rfl, hg3, hcr3⟩
    rw [HN.out] at hcr3 ⊢
    have B3 : Below w.heap.size w w3 := below_of_grown (grown_step (grown_of_below B2 none) hg3 (.inr fun k hk => by injection hk with hk; omega)) (by simp)
    go_wp2_with fail
    refine (left_any _ _ g _ hcr3).mono ?_
    rintro e w4 ⟨rfl, rfl⟩
    go_wp2_with fail
    refine (left_any _ _ g _ hcr3).mono ?_
    rintro e w4 ⟨rfl, rfl⟩
    obtain ⟨vb, hbl3⟩ := CR.shape hcr3
    go_wp2_with fail
    refine (err_blk _ g vb _ hbl3).mono ?_
    rintro e w4 ⟨rfl, rfl⟩
    go_wp2_with fail
    refine (putnum_any (fun _ => False) (.slice none 0 0) 0 [] v _ (Sl.nil _ _ _) (by omega) HV.out).mono ?_
    rintro e w5 ⟨v5, rfl, hown5, hb5⟩
    have B5 : Below w.heap.size w w5 := B3.trans (hb5.mono B3.size)
    go_wp2_with fail
    refine (left_any _ _ g _ (CR.after hcr3 hb5)).mono ?_
    rintro e w6 ⟨rfl, rfl⟩
    have hsl := slice_sub A b.length c j r.length HJ.out hnc
    go_wp2_with fail
    have hup : Sl w5 X 1 (.slice A j c) j (BVs (Cm.enc v)) := by
      have h1 := (hv.after B5).upto (j := j) (by have := HJ.out; omega)
      rw [show (BVs b).take (j * 1) = BVs (Cm.enc v) from by rw [← HT.out]; simp [BVs, List.map_take]] at h1
      exact h1
    refine (equal_same _ (fun _ => False) X v5 _ _ _ _ (Sl.of_own hown5 (fun _ _ _ h => h)) hup).mono ?_
    rintro e w6 ⟨rfl, rfl⟩
    clear hsl
    go_wp2_with fail
    refine (read_any _ X _ b.length b (hv.after B5) (by omega)).mono ?_
    rintro e w7 ⟨g2, rfl, hcr7, hg7, hb7⟩
    have B7 : Below w.heap.size w w7 := B5.trans (hb7.mono B5.size)
    have hgg2 : w.heap.size ≤ g2 := Nat.le_trans B5.size hg7
    go_wp2_with fail
    refine (list_any _ _ g2 _ hcr7 (b.length : Int) (b.length : Int) (by omega) (by omega) (by omega) (by omega) (by simp only; omega)).mono ?_
    rintro e w8 ⟨v8, rfl, hls8, hg8, hcr8⟩
    rw [HL.out] at hls8 hcr8
    have B8 : Below w.heap.size w w8 := below_of_grown (grown_step (grown_of_below B7 none) hg8 (.inr fun k hk => by injection hk with hk; omega)) (by simp)
    have hll := HLL.out
    go_wp2_with fail
    refine (left_any _ _ g2 _ hcr8).mono ?_
    rintro e w9 ⟨rfl, rfl⟩
    go_wp2_with fail
    refine (left_any _ _ g2 _ hcr8).mono ?_
    rintro e w9 ⟨rfl, rfl⟩
    obtain ⟨vb2, hbl8⟩ := CR.shape hcr8
    rcases HPL.out with ⟨ls, r2, j2, rfl, htk2, hjr2⟩ | hne2
    · have HT2 := Lib.hid htk2
      have HJ2 := Lib.hid hjr2
      have hlr : r2.length ≤ b.length := hll
      have hle : (Cm.encP ls).length ≤ b.length := by
        have h1 := congrArg List.length htk2
        rw [List.length_take, Cm.encL, List.length_append] at h1
        omega
      clear htk2 hjr2 hll
      simp only at hls8
      obtain ⟨A8, c8, rfl⟩ := Ls.shape hls8
      go_wp2_with fail
      refine (err_blk _ g2 vb2 0 hbl8).mono ?_
      rintro e w9 ⟨rfl, rfl⟩
      go_wp2_with fail
      refine (putlist_any (fun _ => False) _ (.slice none 0 0) 0 [] A8 c8 ls _ (Sl.nil _ _ _) hls8 (by omega) (by omega)).mono ?_
      rintro e w10 ⟨v10, rfl, hown10, hb10⟩
      have B10 : Below w.heap.size w w10 := B8.trans (hb10.mono B8.size)
      go_wp2_with fail
      refine (left_any _ _ g2 _ (CR.after hcr8 hb10)).mono ?_
      rintro e w11 ⟨rfl, rfl⟩
      have hsl := slice_sub A b.length c j2 r2.length HJ2.out hnc
      go_wp2_with fail
      have hup : Sl w10 X 1 (.slice A j2 c) j2 (BVs ([] ++ Cm.encL ls)) := by
        have h1 := (hv.after B10).upto (j := j2) (by have := HJ2.out; omega)
        rw [show (BVs b).take (j2 * 1) = BVs ([] ++ Cm.encL ls) from by rw [List.nil_append, ← HT2.out]; simp [BVs, List.map_take]] at h1
        exact h1
      refine (equal_same _ (fun _ => False) X v10 _ _ _ _ (Sl.of_own hown10 (fun _ _ _ h => h)) hup).mono ?_
      rintro e w11 ⟨rfl, rfl⟩
      go_wp2_with fail
      go_ret
      exact ⟨rfl, B10⟩
    · have he2 : (pL.2.2 != 0) = true := by rw [bne_iff_ne]; exact hne2
      clear hne2
      go_wp2_with fail
      refine (err_blk _ g2 vb2 _ hbl8).mono ?_
      rintro e w9 ⟨rfl, rfl⟩
      go_wp2_with fail
      go_ret
      exact ⟨rfl, B8⟩
  · have he1 : (pN.2.2 == 0) = false := by rw [beq_eq_false_iff_ne]; exact hne
    clear hne
    go_enter Try.func6, Try.ntmps6
    go_wp2_with fail
    refine (live_any _).mono ?_
    rintro e w1 ⟨rfl, hb1⟩
    go_wp2_with fail
    refine (read_any _ X _ b.length b (hv.after hb1) (by omega)).mono ?_
    rintro e w2 ⟨g, rfl, hcr, hg2, hb2⟩
    have B2 : Below w.heap.size w w2 := hb1.trans (hb2.mono hb1.size)
    have hgg : w.heap.size ≤ g := Nat.le_trans hb1.size hg2
    go_wp2_with fail
    refine (num_any _ _ g _ hcr 18446744073709551615).mono ?_
    rintro e w3 ⟨rfl, hg3, hcr3⟩
    rw [HN.out] at hcr3 ⊢
    have B3 : Below w.heap.size w w3 := below_of_grown (grown_step (grown_of_below B2 none) hg3 (.inr fun k hk => by injection hk with hk; omega)) (by simp)
    go_wp2_with fail
    refine (left_any _ _ g _ hcr3).mono ?_
    rintro e w4 ⟨rfl, rfl⟩
    go_wp2_with fail
    refine (left_any _ _ g _ hcr3).mono ?_
    rintro e w4 ⟨rfl, rfl⟩
    obtain ⟨vb, hbl3⟩ := CR.shape hcr3
    go_wp2_with fail
    refine (err_blk _ g vb _ hbl3).mono ?_
    rintro e w4 ⟨rfl, rfl⟩
    go_wp2_with fail
    refine (read_any _ X _ b.length b (hv.after B3) (by omega)).mono ?_
    rintro e w7 ⟨g2, rfl, hcr7, hg7, hb7⟩
    have B7 : Below w.heap.size w w7 := B3.trans (hb7.mono B3.size)
    have hgg2 : w.heap.size ≤ g2 := Nat.le_trans B3.size hg7
    go_wp2_with fail
    refine (list_any _ _ g2 _ hcr7 (b.length : Int) (b.length : Int) (by omega) (by omega) (by omega) (by omega) (by simp only; omega)).mono ?_
    rintro e w8 ⟨v8, rfl, hls8, hg8, hcr8⟩
    rw [HL.out] at hls8 hcr8
    have B8 : Below w.heap.size w w8 := below_of_grown (grown_step (grown_of_below B7 none) hg8 (.inr fun k hk => by injection hk with hk; omega)) (by simp)
    have hll := HLL.out
    go_wp2_with fail
    refine (left_any _ _ g2 _ hcr8).mono ?_
    rintro e w9 ⟨rfl, rfl⟩
    go_wp2_with fail
    refine (left_any _ _ g2 _ hcr8).mono ?_
    rintro e w9 ⟨rfl, rfl⟩
    obtain ⟨vb2, hbl8⟩ := CR.shape hcr8
    rcases HPL.out with ⟨ls, r2, j2, rfl, htk2, hjr2⟩ | hne2
    · have HT2 := Lib.hid htk2
      have HJ2 := Lib.hid hjr2
      have hlr : r2.length ≤ b.length := hll
      have hle : (Cm.encP ls).length ≤ b.length := by
        have h1 := congrArg List.length htk2
        rw [List.length_take, Cm.encL, List.length_append] at h1
        omega
      clear htk2 hjr2 hll
      simp only at hls8
      obtain ⟨A8, c8, rfl⟩ := Ls.shape hls8
      go_wp2_with fail
      refine (err_blk _ g2 vb2 0 hbl8).mono ?_
      rintro e w9 ⟨rfl, rfl⟩
      go_wp2_with fail
      refine (putlist_any (fun _ => False) _ (.slice none 0 0) 0 [] A8 c8 ls _ (Sl.nil _ _ _) hls8 (by omega) (by omega)).mono ?_
      rintro e w10 ⟨v10, rfl, hown10, hb10⟩
      have B10 : Below w.heap.size w w10 := B8.trans (hb10.mono B8.size)
      go_wp2_with fail
      refine (left_any _ _ g2 _ (CR.after hcr8 hb10)).mono ?_
      rintro e w11 ⟨rfl, rfl⟩
      have hsl := slice_sub A b.length c j2 r2.length HJ2.out hnc
      go_wp2_with fail
      have hup : Sl w10 X 1 (.slice A j2 c) j2 (BVs ([] ++ Cm.encL ls)) := by
        have h1 := (hv.after B10).upto (j := j2) (by have := HJ2.out; omega)
        rw [show (BVs b).take (j2 * 1) = BVs ([] ++ Cm.encL ls) from by rw [List.nil_append, ← HT2.out]; simp [BVs, List.map_take]] at h1
        exact h1
      refine (equal_same _ (fun _ => False) X v10 _ _ _ _ (Sl.of_own hown10 (fun _ _ _ h => h)) hup).mono ?_
      rintro e w11 ⟨rfl, rfl⟩
      go_wp2_with fail
      go_ret
      exact ⟨rfl, B10⟩
    · have he2 : (pL.2.2 != 0) = true := by rw [bne_iff_ne]; exact hne2
      clear hne2
      go_wp2_with fail
      refine (err_blk _ g2 vb2 _ hbl8).mono ?_
      rintro e w9 ⟨rfl, rfl⟩
      go_wp2_with fail
      go_ret
      exact ⟨rfl, B8⟩

end Go.Proofs.Ytkhncipagdejnaa.Cv
