/-
  The walk of the statement CodecBack: what is put is read as it was, whatever stands behind it.
-/
import Derived.Test.YtkhncipagdejnaaCr
namespace Go.Proofs.Ytkhncipagdejnaa.Cu
open Go Go.RowKit Ck Ca Cb Cc Cd Ce Cf Cg Ch Ci Cj Cn Co Cp Cq Cr

theorem CR.drewN {w : World} {X : Nat → Prop} {g : Nat} {s : Cm.RS} (h : CR w X g s) (n : Nat) : CR (w.drewN n) X g s := h
theorem Ls.shape {w : World} {X : Nat → Prop} {v : Value} {ls : List (List UInt8)} (h : Ls w X v ls) : ∃ A c, v = .slice A ls.length c := by
  obtain ⟨vals, ⟨A, c, hv, _⟩, _⟩ := h
  exact ⟨A, c, hv⟩

set_option maxRecDepth 100000 in
set_option maxHeartbeats 1600000 in
theorem back_any (w : World) (X Y : Nat → Prop) (n : Nat) (A : Option Addr) (c : Nat) (ls : List (List UInt8)) (B : Option Addr) (d : Nat) (r : List UInt8) (hls : Ls w Y (.slice A ls.length c) ls) (hr : Sl w X 1 (.slice B r.length d) r.length (BVs r)) (hn : n < 18446744073709551616)
    (hrl : r.length ≤ 1073741824) (htl : (Cm.encP ls).length ≤ 34359738368) :
    Calls Try.prog 5 #[.int .u64 n, .slice A ls.length c, .slice B r.length d] w fun e w' => e = .returned (.bool true) ∧ Below w.heap.size w w' := by
  have hll := Cm.len_le_encP ls
  have hen := Cm.enc_len n
  have hel := Cm.enc_len ls.length
  obtain ⟨i0, hi0, hz0, hz1, hz2⟩ := info_parts info_u8
  have HN := Lib.hid hn
  clear hn
  go_enter Try.func5, Try.ntmps5
  go_wp2_with fail
  refine (live_any _).mono ?_
  rintro e w1 ⟨rfl, hb1⟩
  go_wp2_with fail
  refine (putnum_any (fun _ => False) (.slice none 0 0) 0 [] n _ (Sl.nil _ _ _) (by omega) HN.out).mono ?_
  rintro e w2 ⟨v2, rfl, hown2, hb2⟩
  have B2 : Below w.heap.size w w2 := hb1.trans (hb2.mono hb1.size)
  go_wp2_with fail
  refine (putlist_any (fun _ => False) _ v2 ([] ++ Cm.enc n).length ([] ++ Cm.enc n) A c ls _ (Sl.of_own hown2 (fun _ _ _ h => h)) (hls.after B2) (by simp only [List.nil_append]; omega) (by omega)).mono ?_
  rintro e w3 ⟨v3, rfl, hown3, hb3⟩
  have B3 : Below w.heap.size w w3 := B2.trans (hb3.mono B2.size)
  have hlen : ([] ++ Cm.enc n ++ Cm.encL ls).length ≤ 34359738388 := by simp only [List.nil_append, Cm.encL, List.length_append]; omega
  generalize hP : [] ++ Cm.enc n ++ Cm.encL ls = pre at *
  have HP := Lib.hid hP
  clear hP
  go_wp2_with (at_builtin; refine wpList_append_sl _ rfl (.tmp 16) (.tmp 17) _ rfl w2.heap.size 5 i0 _ 1 1 Try.underlying22 hi0 hz0 hz1 hz2 rfl (by omega) v3 pre.length (BVs pre) rfl hown3 X _ r.length (BVs r) rfl (hr.after B3) (BVs_one _) (by simp only [maxLen]; omega) (by omega) hb3.size ?_; intro v4 w4 happ)
  have hown4 : w4.ownsRow w2.heap.size 5 1 v4 (pre ++ r).length (BVs (pre ++ r)) := by rw [List.length_append, BVs_app]; exact happ.1
  have B4 : Below w.heap.size w w4 := B3.grown happ.2.1 B3.size (fun g hg => Nat.le_trans B2.size (hown3.lt g hg).1)
  clear happ hown3
  refine (read_any _ (fun _ => False) v4 (pre ++ r).length (pre ++ r) (Sl.of_own hown4 (fun _ _ _ h => h)) (by rw [List.length_append]; omega)).mono ?_
  rintro e w5 ⟨g, rfl, hcr, hg5, hb5⟩
  have B5 : Below w.heap.size w w5 := B4.trans (hb5.mono B4.size)
  have hpr : pre ++ r = Cm.enc n ++ (Cm.encL ls ++ r) := by rw [← HP.out]; simp [List.append_assoc]
  rw [hpr] at hcr
  clear hpr hown4
  go_wp2_with fail
  go_loop [8, 22] (fun m i => ∃ k M : Nat, k ≤ ls.length ∧ i = .int .i64 k ∧ m = .int .i64 M ∧ M ≤ 34359738368 ∧ Hid (∀ j (h : j < ls.length), j < k → ls[j].length ≤ M))
    (fun _ i => ls.length - (intOf i).toNat)
  case atStart => exact ⟨0, 0, Nat.zero_le _, rfl, rfl, by omega, fun j _ h => absurd h (by omega)⟩
  case round =>
    obtain ⟨k, M, hk, rfl, rfl, hM, hall⟩ := hrel
    by_cases hlt : k < ls.length
    · have hpl := Cm.part_le_encP ls k hlt
      obtain ⟨ad, C, e0, rfl, hcell, hx⟩ := (hls.after B5).at_ hlt
      generalize hq : ls[k].length = q at *
      have HQ := Lib.hid hq
      clear hq
      by_cases hmq : M ≤ q
      · go_wp2_with fail
        go_round
        case rel =>
          refine ⟨k + 1, q, by omega, by go_num, by go_num, by omega, fun j h hj => ?_⟩
          rcases Nat.lt_or_ge j k with hjk | hjk
          · exact Nat.le_trans (hall.out j h hjk) hmq
          · obtain rfl : j = k := by omega
            rw [HQ.out]
            exact Nat.le_refl _
        case measure => simp [intOf]; omega
      · go_wp2_with fail
        go_round
        case rel =>
          refine ⟨k + 1, M, by omega, by go_num, by go_num, by omega, fun j h hj => ?_⟩
          rcases Nat.lt_or_ge j k with hjk | hjk
          · exact hall.out j h hjk
          · obtain rfl : j = k := by omega
            rw [HQ.out]
            omega
        case measure => simp [intOf]; omega
    · have hkk : k = ls.length := by omega
      subst hkk
      have hn := Cm.numS_enc (m := n) HN.out (Nat.le_refl _) (Cm.encL ls ++ r)
      have hl := Cm.listS_enc (ls := ls) (k := (ls.length : Int)) (m := (M : Int)) (by omega) (Int.le_refl _) (fun j h => by have := hall.out j h h; omega) r
      have HNS := Lib.hid hn
      have HLS := Lib.hid hl
      clear hn hl
      have hll2 : (Cm.encL ls ++ r).length ≤ 549755813888 := by simp only [Cm.encL, List.length_append]; omega
      go_wp2_with fail
      refine (num_any _ _ g _ hcr n).mono ?_
      rintro e w6 ⟨rfl, hg6, hcr6⟩
      rw [HNS.out] at hcr6 ⊢
      go_wp2_with fail
      refine (list_any _ _ g _ hcr6 (ls.length : Int) (M : Int) (by omega) (by omega) (by omega) (by omega) hll2).mono ?_
      rintro e w7 ⟨v7, rfl, hls7, hg7, hcr7⟩
      rw [HLS.out] at hls7 hcr7
      simp only at hls7 hcr7
      obtain ⟨A7, c7, rfl⟩ := Ls.shape hls7
      have hgg : w.heap.size ≤ g := Nat.le_trans B4.size hg5
      have B7 : Below w.heap.size w w7 := below_of_grown (grown_step (grown_step (grown_of_below B5 none) hg6 (.inr fun k hk => by injection hk with hk; omega)) hg7 (.inr fun k hk => by injection hk with hk; omega)) (by simp)
      go_wp2_with fail
      refine (same_any _ _ A7 A c7 c ls ls _ hls7 (hls.after B7) (by omega)).mono ?_
      rintro e w8 ⟨rfl, nd, rfl⟩
      have hdd : decide (ls = ls) = true := by simp
      rw [hdd]
      clear hdd
      go_wp2_with fail
      refine (left_any _ _ g _ (CR.drewN hcr7 nd)).mono ?_
      rintro e w9 ⟨rfl, rfl⟩
      have hcr9 := hcr7
      obtain ⟨A9, n9, c9, hb9, -⟩ := hcr9
      go_wp2_with fail
      refine (err_blk _ g _ _ (show CB (w7.drewN nd) g _ _ from hb9)).mono ?_
      rintro e w10 ⟨rfl, rfl⟩
      go_wp2_with fail
      go_ret
      exact ⟨rfl, below_drewN B7 nd⟩

end Go.Proofs.Ytkhncipagdejnaa.Cu
