/-
  The walk of the statement IdealFrom: which lists are a table's.
-/
import Derived.Test.YtnhppmdhhmekdaaSu
import Derived.Test.YtnhppmdhhmekdaaFa
namespace Go.Proofs.Ytnhppmdhhmekdaa.Fr
open Go Go.RowKit Ck Im Ik Ia Ib Ic Ie If Ih Ii Ij Ba Pr Su Fa
attribute [local go_sem ↓] Go.wp_at_zero Go.wp_at_succ

theorem two_of {w w1 w2 : World} {p q : Nat} {L : List Tx} (hT : Tb w1 (New w w1) p L) (hb1 : Below w.heap.size w w1) (hR : Rf w2 (New w1 w2) q L) (hb2 : Below w1.heap.size w1 w2) : Two (fun k => k < w.heap.size) w2 (TG p L) (RF q L) := by
  have h1 := hb1.size
  have h2 := hb2.size
  refine ⟨fun k hk => by omega, New w w1, New w1 w2, Tb.ch hT (Ch.of_below (S := fun _ => False) hb2 (Nat.le_refl _)) (fun _ _ h => h), hR, fun k hk => ⟨by have := hk.1; omega, by have := hk.2; omega⟩, fun k hk => ⟨by have := hk.1; omega, hk.2⟩, fun k a b => by have := a.2; have := b.1; omega⟩

set_option maxRecDepth 100000 in
set_option maxHeartbeats 4000000 in
theorem from_any (w : World) (A : Option Addr) (c : Nat) (ls : List Tx) (A2 : Option Addr) (c2 : Nat) (b : Tx) (hls : Ls w (fun k => w.heap.size ≤ k) (.slice A ls.length c) ls) (hb : Sl w (fun k => w.heap.size ≤ k) 1 (.slice A2 b.length c2) b.length (BVs b))
    (_ : ls.length * 24 ≤ 140737488351232) (hall : ∀ x ∈ ls, x.length ≤ 140737488351232) (hbl : b.length ≤ 140737488351232) :
    Calls Try.prog 4 #[.slice A ls.length c, .slice A2 b.length c2] w fun e w' => e = .returned (.bool true) ∧ Below w.heap.size w w' := by
  have HLS := Lib.hid hls
  have HBS := Lib.hid hb
  have HLK : Hid (∀ x ∈ ls, x.length ≤ 140737488355328) := Lib.hid fun x hx => Nat.le_trans (hall x hx) (by omega)
  have HBL : Hid (b.length ≤ 140737488355328) := Lib.hid (by omega)
  clear hls hb hall hbl
  by_cases hbig : 1048576 < ls.length
  · have HBG := Lib.hid hbig
    clear hbig
    go_enter Try.func4, Try.ntmps4
    go_wp2_with fail
    refine (from_long w A c ls.length HBG.out).mono ?_
    rintro e w1 ⟨rfl, rfl⟩
    go_wp2_with fail
    refine (rfrom_long _ A c ls.length HBG.out).mono ?_
    rintro e w1 ⟨rfl, rfl⟩
    go_wp2_with fail
    refine (begun_any _).mono ?_
    rintro e w3 ⟨rfl, hB3⟩
    have HB3 := Lib.hid hB3
    clear hB3
    go_wp2_with fail
    go_quiet (fail)
    go_wp2_with fail
    go_ret
    exact ⟨rfl, below_drewN HB3.out _⟩
  · have hle : ls.length ≤ 1048576 := by omega
    have HLE := Lib.hid hle
    clear hbig hle
    by_cases hnd : ls.Nodup
    · have HND := Lib.hid hnd
      clear hnd
      go_enter Try.func4, Try.ntmps4
      go_wp2_with fail
      refine (If.from_any w _ A c ls HLS.out HLE.out HLK.out).mono ?_
      rintro e w1 ⟨hB1, ⟨_, p, rfl, hT1⟩ | ⟨hno, _⟩⟩
      rotate_left
      · exact absurd HND.out hno
      have HB1 := Lib.hid hB1
      have HT1 := Lib.hid hT1
      clear hB1 hT1
      go_wp2_with fail
      refine (rfrom_any w1 _ A c ls (HLS.out.after HB1.out) HLE.out HLK.out).mono ?_
      rintro e w2 ⟨hB2, ⟨_, q, rfl, hR2⟩ | ⟨hno, _⟩⟩
      rotate_left
      · exact absurd HND.out hno
      have HT2 := Lib.hid (two_of HT1.out HB1.out hR2 hB2)
      have HB2 := Lib.hid (below_tr HB1.out hB2)
      clear hB2 hR2 HT1 HB1
      go_wp2_with fail
      refine (begun_any _).mono ?_
      rintro e w3 ⟨rfl, hB3⟩
      have HT3 := Lib.hid ((HT2.out.later (tg_stable _ _) (rf_stable _ _) hB3).later (tg_stable _ _) (rf_stable _ _) (below_drewN (Below.refl _ w3) 1))
      have HB3 := Lib.hid (below_drewN (below_tr HB2.out hB3) 1)
      clear hB3 HT2 HB2
      obtain ⟨S1, hT1, _⟩ := HT3.out.left
      have HT1 := Lib.hid hT1
      clear hT1
      have HS8 : Hid (∀ W', Below w.heap.size w W' → Two (fun k => k < w.heap.size) W' (TG p ls) (RF q ls) → Calls Try.prog 11 #[.pointer (some ⟨p, 0, none⟩), .slice A2 b.length c2] W' fun e w' => e = .returned (.int .i64 (sum ls b : Int)) ∧ Two (fun k => k < w.heap.size) w' (TG p (add ls b)) (RF q ls) ∧ Ch (fun g => ¬ g < w.heap.size) W' w') :=
        Lib.hid fun W' hb hT => hT.call (rf_stable _ _) (R := fun e => e = .returned (.int .i64 (sum ls b : Int))) (P' := TG p (add ls b)) (fun S h => sum_yes W' S _ p _ A2 c2 b h (HBS.out.below hb (fun k _ h => h)) HBL.out)
      have HS9 : Hid (∀ W', Below w.heap.size w W' → Two (fun k => k < w.heap.size) W' (TG p (add ls b)) (RF q ls) → Calls Try.prog 13 #[.pointer (some ⟨q, 0, none⟩), .slice A2 b.length c2] W' fun e w' => e = .returned (.int .i64 (sum ls b : Int)) ∧ Two (fun k => k < w.heap.size) w' (TG p (add ls b)) (RF q (add ls b)) ∧ Ch (fun g => ¬ g < w.heap.size) W' w') :=
        Lib.hid fun W' hb hT => hT.callr (tg_stable _ _) (R := fun e => e = .returned (.int .i64 (sum ls b : Int))) (Q' := RF q (add ls b)) (fun S h => rsum_any W' S _ q _ A2 c2 b h (HBS.out.below hb (fun k _ h => h)) HBL.out)
      go_wp2_with fail
      go_region_with
        (first
          | (go_at_call 21; refine (plain_yes _ S1 p ls HT1.out).mono ?_; rintro e w4 ⟨A4, c4, rfl, hp4, hb4⟩; have HP4 := Lib.hid (hp4.ls (X := fun _ => False) (fun _ _ _ h => h)); have HT4 := Lib.hid (HT3.out.later (tg_stable _ _) (rf_stable _ _) hb4); have HB4 := Lib.hid (HB3.out.trans (hb4.mono HB3.out.size)); clear hp4 hb4)
          | (go_at_call 20; refine (sameall_any _ (fun _ => False) _ A4 A c4 c ls ls HP4.out (HLS.out.after (HB4.out.mono (Nat.le_refl _))) (by have := HLE.out; omega)).mono ?_; rintro e w5 ⟨he, n5, rfl⟩; rw [show sameB ls ls = true from by simp [sameB]] at he; subst he; have HT5 := Lib.hid (HT4.out.later (tg_stable _ _) (rf_stable _ _) (below_drewN (Below.refl _ w4) n5)); have HB5 := Lib.hid (below_drewN HB4.out n5))
          | (go_at_call 11; refine (HS8.out _ HB5.out HT5.out).mono ?_; rintro e w6 ⟨rfl, hT6, hc6⟩; have hb6 := HB5.out.trans (hc6.below (fun k hk hn => hn hk) HB5.out.size); have HT6 := Lib.hid hT6; have HB6 := Lib.hid hb6; clear hT6 hc6 hb6)
          | (go_at_call 13; refine (HS9.out _ HB6.out HT6.out).mono ?_; rintro e w7 ⟨rfl, hT7, hc7⟩; have hb7 := HB6.out.trans (hc7.below (fun k hk hn => hn hk) HB6.out.size); obtain ⟨S7, hT71, _⟩ := hT7.left; obtain ⟨S2, hR1, _⟩ := hT7.right; obtain ⟨lv, q1, _, hls7, _⟩ := hR1; obtain ⟨AL, cL, rfl⟩ := Ls.shape hls7; have rc := q1.cell 0; simp only [List.getElem?_toArray, List.getElem?_cons_zero] at rc; have HB7 := Lib.hid hb7; have HT71 := Lib.hid hT71; clear hT7 hc7 hb7 hT71 q1 hls7)
          | (go_at_call 14; refine (len_yes _ S7 _ _ HT71.out).mono ?_; rintro e w8 ⟨rfl, rfl⟩))
      all_goals
        go_wp2_with fail
        go_ret
        exact ⟨rfl, HB7.out⟩
    · have HND := Lib.hid hnd
      clear hnd
      go_enter Try.func4, Try.ntmps4
      go_wp2_with fail
      refine (If.from_any w _ A c ls HLS.out HLE.out HLK.out).mono ?_
      rintro e w1 ⟨hB1, ⟨hno, _⟩ | ⟨_, rfl⟩⟩
      · exact absurd hno HND.out
      have HB1 := Lib.hid hB1
      clear hB1
      go_wp2_with fail
      refine (rfrom_any w1 _ A c ls (HLS.out.after HB1.out) HLE.out HLK.out).mono ?_
      rintro e w2 ⟨hB2, ⟨hno, _⟩ | ⟨_, rfl⟩⟩
      · exact absurd hno HND.out
      have HB2 := Lib.hid (below_tr HB1.out hB2)
      clear hB2
      go_wp2_with fail
      refine (begun_any _).mono ?_
      rintro e w3 ⟨rfl, hB3⟩
      have HB3 := Lib.hid (below_tr HB2.out hB3)
      clear hB3
      go_wp2_with fail
      go_quiet (fail)
      go_wp2_with fail
      go_ret
      exact ⟨rfl, below_drewN HB3.out _⟩

end Go.Proofs.Ytnhppmdhhmekdaa.Fr
