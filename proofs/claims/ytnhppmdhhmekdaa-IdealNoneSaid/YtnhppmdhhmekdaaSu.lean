/-
  The walk of the statement IdealSums: which number any byte strings have, asked in any order, and which bytes any number opens.
-/
import Derived.Test.YtnhppmdhhmekdaaBa
import Derived.Test.YtnhppmdhhmekdaaIj
import Derived.Test.YtnhppmdhhmekdaaPr
namespace Go.Proofs.Ytnhppmdhhmekdaa.Su
open Go Go.RowKit Ck Im Ik Ia Ib Ic Ie Ih Ii Ij Ba Pr
attribute [local go_sem ↓] Go.wp_at_zero Go.wp_at_succ

def TG (p : Nat) (L : List Tx) (w : World) (S : Nat → Prop) : Prop := Tb w S p L
def RF (p : Nat) (L : List Tx) (w : World) (S : Nat → Prop) : Prop := Rf w S p L
theorem tg_stable (p : Nat) (L : List Tx) : Stable (TG p L) := fun _ _ _ _ h c hd => Tb.ch h c hd
theorem rf_stable (p : Nat) (L : List Tx) : Stable (RF p L) := fun _ _ _ _ h c hd => Rf.ch h c hd
theorem two_start {B : Nat} {w0 w1 : World} {p : Nat} (hL : Tb w1 (New w0 w1) p []) (h0 : B ≤ w0.heap.size) (hb : w0.heap.size ≤ w1.heap.size) : Two (fun k => k < B) (w1.alloc (.cells #[.slice none 0 0] 29)) (TG p []) (RF w1.heap.size []) := by
  have ba : Below w1.heap.size w1 (w1.alloc (.cells #[.slice none 0 0] 29)) := (Below.refl _ _).alloc (Nat.le_refl _) _
  refine ⟨fun k hk => by simp; omega, New w0 w1, New w1 (w1.alloc (.cells #[.slice none 0 0] 29)), ?_, ?_, ?_, ?_, ?_⟩
  · exact Tb.ch hL (Ch.of_below (S := fun _ => False) ba (Nat.le_refl _)) (fun _ _ h => h)
  · exact ⟨_, Blk.new _ _ _, ⟨Nat.le_refl _, by simp⟩, ⟨[], Sl.nil _ _ _, fun i hi => absurd hi (by simp)⟩, by simp, by simp⟩
  · exact fun k hk => ⟨by have := hk.1; omega, by have := hk.2; simp; omega⟩
  · exact fun k hk => ⟨by have := hk.1; omega, hk.2⟩
  · exact fun k h1 h2 => by have := h1.2; have := h2.1; omega

set_option maxRecDepth 100000 in
set_option maxHeartbeats 4000000 in
theorem sums_any (w : World) (A : Option Addr) (c : Nat) (ls : List Tx) (d : Int) (A2 : Option Addr) (c2 : Nat) (b : Tx) (hls : Ls w (fun k => w.heap.size ≤ k) (.slice A ls.length c) ls) (hb : Sl w (fun k => w.heap.size ≤ k) 1 (.slice A2 b.length c2) b.length (BVs b))
    (hl : ls.length * 24 ≤ 140737488351232) (hall : ∀ x ∈ ls, x.length ≤ 140737488351232) (hbl : b.length ≤ 140737488351232) (hd1 : -9223372036854775808 ≤ d) (hd2 : d ≤ 9223372036854775807) :
    Calls Try.prog 3 #[.slice A ls.length c, .int .i64 d, .slice A2 b.length c2] w fun e w' => e = .returned (.bool true) ∧ Below w.heap.size w w' := by
  have hl2 : ls.length ≤ 9007199254740992 := by omega
  have HLS := Lib.hid hls
  have HBS := Lib.hid hb
  have HLK : Hid (∀ x ∈ ls, x.length ≤ 140737488355328) := Lib.hid fun x hx => Nat.le_trans (hall x hx) (by omega)
  have HLM := Lib.hid hall
  have HBL := Lib.hid hbl
  have HD := Lib.hid (And.intro hd1 hd2)
  clear hls hb hl hall hbl hd1 hd2
  go_enter Try.func3, Try.ntmps3
  go_wp2_with fail
  refine (newtable_any _).mono ?_
  rintro e w1 ⟨p0, rfl, hT1, hB1⟩
  have HT1 := Lib.hid (two_start hT1 (Nat.le_refl w.heap.size) hB1.size)
  have HB1 := Lib.hid (hB1.alloc hB1.size (.cells #[.slice none 0 0] 29))
  clear hT1 hB1
  go_wp2_with fail
  refine (begun_any _).mono ?_
  rintro e w2 ⟨rfl, hB2⟩
  have HT2 := Lib.hid (HT1.out.later (tg_stable _ _) (rf_stable _ _) hB2)
  have HB2 := Lib.hid (below_tr HB1.out hB2)
  generalize w1.heap.size = q at *
  clear hB2 HT1 HB1
  go_wp2_with fail
  go_loopw [7, 31] (fun t i wr => ∃ (k p : Nat), k ≤ ls.length ∧ i = .int .i64 k ∧ t = .pointer (some ⟨p, 0, none⟩) ∧ Two (fun k => k < w.heap.size) wr (TG p (adds (ls.take k))) (RF q (adds (ls.take k))) ∧ Below w.heap.size w wr)
    (fun _ i _ => ls.length - (intOf i).toNat)
  case atStart => exact ⟨0, p0, Nat.zero_le _, rfl, rfl, HT2.out, HB2.out⟩
  case round =>
    obtain ⟨k, p, hk, rfl, rfl, hT, hB⟩ := hrel
    have HT := Lib.hid hT
    have HBW := Lib.hid hB
    clear HT2 HB2
    by_cases hlt : k < ls.length
    · have hx2 := (HLS.out.below hB (fun k _ h => h))
      obtain ⟨ad, B8, d8, rfl, a0, hx8⟩ := hx2.at_ hlt
      have HX8 := Lib.hid hx8
      have HXB : Hid (∀ W', Below w.heap.size w W' → Sl W' (fun k => w.heap.size ≤ k) 1 (.slice B8 ls[k].length d8) ls[k].length (BVs ls[k])) := Lib.hid fun W' hb => by
        obtain ⟨ad', B', d', e1, a1, hx1⟩ := (HLS.out.at_ hlt)
        have e2 := (hB.cell (World.block_lt_of_cell? w _ a1)).trans a1
        injection e1 with e1
        subst e1
        rw [a0] at e2
        injection e2 with e2
        injection e2 with e3 _ e4
        subst e3; subst e4
        exact hx1.below hb (fun k _ h => h)
      have HPT := Lib.hid (adds_take hlt)
      clear hT hB hx2 hx8
      by_cases h5 : k % 5 = 4
      · have h5i : ((k : Int) % 5 == 4) = true := by rw [beq_iff_eq]; omega
        clear h5
        have HCL := Lib.hid (HT.out.clone (pg := Try.prog) (f := 10) (args := #[.pointer (some ⟨p, 0, none⟩)]) (tg_stable _ _) (rf_stable _ _) (P' := fun p' => TG p' (adds (ls.take k))) (R := fun p' e => e = .returned (.pointer (some ⟨p', 0, none⟩))) (fun S h => Ig.tclone_any _ S p _ h))
        go_wp2_with fail
        refine HCL.out.mono ?_
        rintro e w3 ⟨p', rfl, hT3, hb3⟩
        have HT3 := Lib.hid hT3
        have HB3 := Lib.hid (HBW.out.trans (hb3.mono HBW.out.size))
        clear hT3 hb3
        go_wp2_with fail
        refine (clone_bytes _ _ ls[k].length (BVs ls[k]) w3 (HXB.out _ HB3.out) (BVs_one _) (by have := HLK.out _ (List.getElem_mem hlt); omega)).mono ?_
        rintro e w4 ⟨A4, c4, rfl, ho4, hb4⟩
        have HO4 := Lib.hid ho4
        have HB4 := Lib.hid (And.intro hb4 (HB3.out.trans (hb4.mono HB3.out.size)))
        have hlm : ls[k].length ≤ 140737488351232 := HLM.out _ (List.getElem_mem hlt)
        obtain ⟨i0, hi0, hz0, hz1, hz2⟩ := info_parts info_u8
        clear ho4 hb4
        go_wp2_with (at_builtin; refine wpList_append_sh _ rfl (.tmp 45) (.tmp 46) _ rfl w3.heap.size 5 i0 _ 1 1 Try.underlying24 hi0 hz0 hz1 hz2 rfl (by omega) (.slice A4 ls[k].length c4) ls[k].length (BVs ls[k]) rfl (HO4.out.alloc _) (fun _ => False) _ 3 (BVs [1, 2, 3]) rfl (Sl_lit w4 (fun _ => False) _ [1, 2, 3] rfl rfl (by omega) (fun h => h)) (BVs_one _) (by simp only [maxLen]; omega) (by omega) (by have := HB4.out.1.size; simp; omega) ?_; intro A5 c5 w4b happ)
        have hb5 : Below w3.heap.size w3 w4b := (HB4.out.1.alloc HB4.out.1.size _).grown happ.2.1 (by have := HB4.out.1.size; simp; omega) (fun g hg => (HO4.out.lt g hg).1)
        have hsl5 : Sl w4b (fun _ => False) 1 (.slice A5 (ls[k].length + 3) c5) (ls[k] ++ [1, 2, 3]).length (BVs (ls[k] ++ [1, 2, 3])) := by
          rw [BVs_app, List.length_append]
          exact Sl.of_own happ.1 (fun _ _ _ h => h)
        have hlen5 : ls[k].length + 3 = (ls[k] ++ [1, 2, 3]).length := by simp
        have HOL := Lib.hid ((HT3.out.later (tg_stable _ _) (tg_stable _ _) (rf_stable _ _) hb5).call (pg := Try.prog) (f := 11) (args := #[.pointer (some ⟨p, 0, none⟩), .slice A5 (ls[k].length + 3) c5]) (tg_stable _ _) (rf_stable _ _) (R := fun e => ∃ n : Int, e = .returned (.int .i64 n)) (fun S h => by
            rw [hlen5] at hsl5 ⊢
            exact (sum_yes w4b S _ p _ A5 c5 (ls[k] ++ [1, 2, 3]) h hsl5 (by simp; omega)).mono fun _ _ h => ⟨⟨_, h.1⟩, h.2.2⟩))
        have HB5 := Lib.hid (HB3.out.trans (hb5.mono HB3.out.size))
        clear hb5 hsl5 hlen5 happ
        refine HOL.out.mono ?_
        rintro e W ⟨⟨n, rfl⟩, hT4, hc4⟩
        have hbw : Below w.heap.size w W := HB5.out.trans (hc4.below (fun k hk hn => hn hk) HB5.out.size)
        clear HT HX8 HBW HCL HOL HT3 HB3 HO4 HB4 HB5
        have HT := Lib.hid hT4
        have HBW := Lib.hid hbw
        clear hT4 hbw hc4 a0 hlm hi0 hz0 hz1 hz2
        go_wp2_with fail
        have kw0 : Below w.heap.size w W.drew := below_drewN HBW.out 1
        have HTd := Lib.hid (HT.out.later (tg_stable _ _) (rf_stable _ _) (below_drewN (Below.refl _ W) 1))
        have HS8 := Lib.hid (HTd.out.call (pg := Try.prog) (f := 11) (args := #[.pointer (some ⟨p', 0, none⟩), .slice B8 ls[k].length d8]) (rf_stable _ _) (P' := TG p' (adds (ls.take (k + 1)))) (R := fun e => e = .returned (.int .i64 (sum (adds (ls.take k)) ls[k] : Int))) (fun S h => by
            rw [HPT.out]
            exact sum_yes W.drew S _ p' _ B8 d8 ls[k] h (HXB.out _ kw0) (HLK.out _ (List.getElem_mem hlt))))
        have HS9 : Hid (∀ W', Below w.heap.size w W' → Two (fun k => k < w.heap.size) W' (TG p' (adds (ls.take (k + 1)))) (RF q (adds (ls.take k))) → Calls Try.prog 13 #[.pointer (some ⟨q, 0, none⟩), .slice B8 ls[k].length d8] W' fun e w' => e = .returned (.int .i64 (sum (adds (ls.take k)) ls[k] : Int)) ∧ Two (fun k => k < w.heap.size) w' (TG p' (adds (ls.take (k + 1)))) (RF q (adds (ls.take (k + 1)))) ∧ Ch (fun g => ¬ g < w.heap.size) W' w') :=
          Lib.hid fun W' hb hT => hT.callr (tg_stable _ _) (R := fun e => e = .returned (.int .i64 (sum (adds (ls.take k)) ls[k] : Int))) (Q' := RF q (adds (ls.take (k + 1)))) (fun S h => by
            rw [HPT.out]
            exact rsum_any W' S _ q _ B8 d8 ls[k] h (HXB.out _ hb) (HLK.out _ (List.getElem_mem hlt)))
        go_region_with
          (first
            | (go_at_call 11; refine HS8.out.mono ?_; rintro e w5 ⟨rfl, hT5, hc5⟩; have hb5 := kw0.trans (hc5.below (fun k hk hn => hn hk) kw0.size); have HT5 := Lib.hid hT5; have HB5 := Lib.hid hb5; clear hT5 hc5 hb5)
            | (go_at_call 13; refine (HS9.out _ HB5.out HT5.out).mono ?_; rintro e w6 ⟨rfl, hT6, hc6⟩; have hb6 := HB5.out.trans (hc6.below (fun k hk hn => hn hk) HB5.out.size); obtain ⟨S1, hT1, _⟩ := hT6.left; obtain ⟨S2, hR1, _⟩ := hT6.right; obtain ⟨lv, q1, _, hls6, _⟩ := hR1; obtain ⟨AL, cL, rfl⟩ := Ls.shape hls6; have rc := q1.cell 0; simp only [List.getElem?_toArray, List.getElem?_cons_zero] at rc; have HT6 := Lib.hid hT6; have HB6 := Lib.hid hb6; have HT1 := Lib.hid hT1; clear hT6 hc6 hb6 hT1 q1 hls6)
            | (go_at_call 14; refine (len_yes _ S1 _ _ HT1.out).mono ?_; rintro e w7 ⟨rfl, rfl⟩))
        all_goals
          go_wp2_with fail
          go_roundw
          case rel => exact ⟨k + 1, p', by omega, by go_num, rfl, HT6.out, HB6.out⟩
          case measure => simp [intOf]; omega
      · have h5i : ((k : Int) % 5 == 4) = false := by rw [beq_eq_false_iff_ne]; omega
        clear h5
        go_wp2_with fail
        have kw0 : Below w.heap.size w wr.drew := below_drewN HBW.out 1
        have HTd := Lib.hid (HT.out.later (tg_stable _ _) (rf_stable _ _) (below_drewN (Below.refl _ wr) 1))
        have HS8 := Lib.hid (HTd.out.call (pg := Try.prog) (f := 11) (args := #[.pointer (some ⟨p, 0, none⟩), .slice B8 ls[k].length d8]) (rf_stable _ _) (P' := TG p (adds (ls.take (k + 1)))) (R := fun e => e = .returned (.int .i64 (sum (adds (ls.take k)) ls[k] : Int))) (fun S h => by
            rw [HPT.out]
            exact sum_yes wr.drew S _ p _ B8 d8 ls[k] h (HXB.out _ kw0) (HLK.out _ (List.getElem_mem hlt))))
        have HS9 : Hid (∀ W', Below w.heap.size w W' → Two (fun k => k < w.heap.size) W' (TG p (adds (ls.take (k + 1)))) (RF q (adds (ls.take k))) → Calls Try.prog 13 #[.pointer (some ⟨q, 0, none⟩), .slice B8 ls[k].length d8] W' fun e w' => e = .returned (.int .i64 (sum (adds (ls.take k)) ls[k] : Int)) ∧ Two (fun k => k < w.heap.size) w' (TG p (adds (ls.take (k + 1)))) (RF q (adds (ls.take (k + 1)))) ∧ Ch (fun g => ¬ g < w.heap.size) W' w') :=
          Lib.hid fun W' hb hT => hT.callr (tg_stable _ _) (R := fun e => e = .returned (.int .i64 (sum (adds (ls.take k)) ls[k] : Int))) (Q' := RF q (adds (ls.take (k + 1)))) (fun S h => by
            rw [HPT.out]
            exact rsum_any W' S _ q _ B8 d8 ls[k] h (HXB.out _ hb) (HLK.out _ (List.getElem_mem hlt)))
        go_region_with
          (first
            | (go_at_call 11; refine HS8.out.mono ?_; rintro e w5 ⟨rfl, hT5, hc5⟩; have hb5 := kw0.trans (hc5.below (fun k hk hn => hn hk) kw0.size); have HT5 := Lib.hid hT5; have HB5 := Lib.hid hb5; clear hT5 hc5 hb5)
            | (go_at_call 13; refine (HS9.out _ HB5.out HT5.out).mono ?_; rintro e w6 ⟨rfl, hT6, hc6⟩; have hb6 := HB5.out.trans (hc6.below (fun k hk hn => hn hk) HB5.out.size); obtain ⟨S1, hT1, _⟩ := hT6.left; obtain ⟨S2, hR1, _⟩ := hT6.right; obtain ⟨lv, q1, _, hls6, _⟩ := hR1; obtain ⟨AL, cL, rfl⟩ := Ls.shape hls6; have rc := q1.cell 0; simp only [List.getElem?_toArray, List.getElem?_cons_zero] at rc; have HT6 := Lib.hid hT6; have HB6 := Lib.hid hb6; have HT1 := Lib.hid hT1; clear hT6 hc6 hb6 hT1 q1 hls6)
            | (go_at_call 14; refine (len_yes _ S1 _ _ HT1.out).mono ?_; rintro e w7 ⟨rfl, rfl⟩))
        all_goals
          go_wp2_with fail
          go_roundw
          case rel => exact ⟨k + 1, p, by omega, by go_num, rfl, HT6.out, HB6.out⟩
          case measure => simp [intOf]; omega
    · have hke : k = ls.length := by omega
      have hpe : adds (ls.take k) = adds ls := by rw [hke, List.take_length]
      rw [hpe] at hT
      have HT := Lib.hid hT
      have HBr := Lib.hid hB
      clear hT hB hpe
      obtain ⟨S1, hT1, _⟩ := HT.out.left
      obtain ⟨S2, hR1, _⟩ := HT.out.right
      have hR2 := hR1
      obtain ⟨lv, q1, _, hlsr, _, hL20⟩ := hR2
      obtain ⟨AL, cL, rfl⟩ := Ls.shape hlsr
      generalize hLL : adds ls = L at *
      have HT1 : Hid (∀ W', Below wr.heap.size wr W' → Tb W' S1 p L) := Lib.hid fun W' hb => Tb.ch hT1 (Ch.of_below (S := fun _ => False) hb (Nat.le_refl _)) (fun _ _ h => h)
      have HR1 : Hid (∀ W', Below wr.heap.size wr W' → Rf W' S2 q L) := Lib.hid fun W' hb => Rf.ch hR1 (Ch.of_below (S := fun _ => False) hb (Nat.le_refl _)) (fun _ _ h => h)
      have HLR : Hid (∀ W', Below wr.heap.size wr W' → Ls W' (fun k => ¬ S2 k ∨ k = q) (.slice AL L.length cL) L) := Lib.hid fun W' hb => hlsr.after hb
      have HKK : Hid (∀ W', Below wr.heap.size wr W' → W'.cell? ⟨q, 0, none⟩ = some (.slice AL L.length cL)) := Lib.hid fun W' hb => (q1.below hb q1.lt).cell 0
      have HBB : Hid (∀ W', Below wr.heap.size wr W' → Sl W' (fun k => w.heap.size ≤ k) 1 (.slice A2 b.length c2) b.length (BVs b)) := Lib.hid fun W' hb => HBS.out.below (HBr.out.trans (hb.mono HBr.out.size)) (fun k _ h => h)
      have H20 := Lib.hid hL20
      have HLLL := Lib.hid hLL
      clear hT1 hR1 q1 hlsr hL20 hLL
      have hbl : b.length ≤ 140737488355328 := by have := HBL.out; omega
      have HBL2 := Lib.hid hbl
      clear hbl
      by_cases hin : 1 ≤ d ∧ d ≤ L.length
      · obtain ⟨i, hi⟩ : ∃ i : Nat, d = (i : Int) + 1 := ⟨(d - 1).toNat, by omega⟩
        have hil : i < L.length := by omega
        subst hi
        clear hin
        go_wp2_with fail
        refine (open_yes wr S1 p L i hil (HT1.out _ (Below.refl _ _))).mono ?_
        rintro e w5 ⟨v5, rfl, ho5, hb5⟩
        have HO5 := Lib.hid ho5
        have HB5 := Lib.hid hb5
        clear ho5 hb5
        go_wp2_with fail
        refine (ropen_yes w5 S2 q L i hil (HR1.out _ HB5.out)).mono ?_
        rintro e w6 ⟨v6, rfl, ho6, hb6⟩
        have HV5 : Hid (∀ W', Below w6.heap.size w6 W' → Sl W' (fun _ => False) 1 v5 L[i].length (BVs L[i])) := Lib.hid fun W' hb => (HO5.out.sl (X := fun _ => False) (fun _ _ _ h => h)).after (below_tr hb6 hb)
        have HV6 : Hid (∀ W', Below w6.heap.size w6 W' → Sl W' (fun _ => False) 1 v6 L[i].length (BVs L[i])) := Lib.hid fun W' hb => (Sl.of_own ho6 (X := fun _ => False) (fun _ _ _ h => h)).after hb
        have HB6 := Lib.hid (below_tr HB5.out hb6)
        clear ho6 hb6
        generalize hxx : L[i] = xx at *
        go_wp2_with fail
        refine (look_yes w6 S1 (fun k => w.heap.size ≤ k) p L A2 c2 b (HT1.out _ HB6.out) (HBB.out _ HB6.out) HBL2.out).mono ?_
        rintro e w7 ⟨rfl, n7, rfl⟩
        have HB7 := Lib.hid (below_drewN HB6.out n7)
        have HC7 := Lib.hid (below_drewN (Below.refl w6.heap.size w6) n7)
        go_wp2_with fail
        refine (rlook_any _ S2 (fun k => w.heap.size ≤ k) q L _ _ b (HR1.out _ HB7.out) (HBB.out _ HB7.out)).mono ?_
        rintro e w8 ⟨rfl, rfl⟩
        go_wp2_with fail
        generalize hW : w6.drewN n7 = W8 at *
        have HW8 := Lib.hid hW
        clear hW
        have kb0 : Below wr.heap.size wr W8.drew := below_drewN HB7.out 1
        have kc0 : Below w6.heap.size w6 W8.drew := below_drewN HC7.out 1
        have HE1 : Hid (∀ W', Below w6.heap.size w6 W' → Calls Try.prog 19 #[v5, v6] W' fun e w' => e = .returned (.bool true) ∧ W' = w') := Lib.hid fun W' hb => (equal_any W' (fun _ => False) (fun _ => False) _ _ _ _ _ _ (HV5.out W' hb) (HV6.out W' hb)).mono fun _ _ h => ⟨by rw [h.1, beq_self_eq_true], h.2⟩
        go_region_held3 (fun w' => w'.cell? ⟨q, 0, none⟩ = some (.slice AL L.length cL)) (first | exact HKK.out _ kb0 | exact HKK.out _ kb1 | exact HKK.out _ kb2)
          (first
            | (go_at_call 19; refine (HE1.out _ kc0).mono ?_; rintro e w9 ⟨rfl, rfl⟩)
            | (go_at_call 21; refine (plain_yes _ S1 p L (HT1.out _ kb0)).mono ?_; rintro e w10 ⟨A10, c10, rfl, hp10, b10'⟩; have kb1 := below_tr kb0 b10')
            | (go_at_call 20; refine (sameall_any _ (fun _ => False) _ A10 AL c10 cL L L (hp10.ls (fun _ _ _ h => h)) (HLR.out _ kb1) (by have := H20.out; omega)).mono ?_; rintro e w11 ⟨he, n11, rfl⟩; rw [show sameB L L = true from by simp [sameB]] at he; subst he; have kb2 := below_drewN kb1 n11))
        go_wp2_with fail
        go_ret
        exact ⟨rfl, HBr.out.trans (kb2.mono HBr.out.size)⟩

      · have hd2 : d < 1 ∨ L.length < d := by omega
        clear hin
        go_wp2_with fail
        refine (open_no wr S1 p L d hd2 (HT1.out _ (Below.refl _ _))).mono ?_
        rintro e w5 ⟨rfl, rfl⟩
        go_wp2_with fail
        refine (ropen_no _ S2 q L d hd2 (HR1.out _ (Below.refl _ _))).mono ?_
        rintro e w6 ⟨rfl, rfl⟩
        have HV5 : Hid (∀ W', Below wr.heap.size wr W' → Sl W' (fun _ => False) 1 (.slice none 0 0) ([] : Tx).length (BVs [])) := Lib.hid fun W' _ => Sl.nil _ _ _
        have HV6 := HV5
        have HB6 := Lib.hid (Below.refl wr.heap.size wr)
        go_wp2_with fail
        refine (look_yes wr S1 (fun k => w.heap.size ≤ k) p L A2 c2 b (HT1.out _ HB6.out) (HBB.out _ HB6.out) HBL2.out).mono ?_
        rintro e w7 ⟨rfl, n7, rfl⟩
        have HB7 := Lib.hid (below_drewN HB6.out n7)
        have HC7 := Lib.hid (below_drewN (Below.refl wr.heap.size wr) n7)
        go_wp2_with fail
        refine (rlook_any _ S2 (fun k => w.heap.size ≤ k) q L _ _ b (HR1.out _ HB7.out) (HBB.out _ HB7.out)).mono ?_
        rintro e w8 ⟨rfl, rfl⟩
        go_wp2_with fail
        generalize hW : wr.drewN n7 = W8 at *
        have HW8 := Lib.hid hW
        clear hW
        have kb0 : Below wr.heap.size wr W8.drew := below_drewN HB7.out 1
        have kc0 : Below wr.heap.size wr W8.drew := below_drewN HC7.out 1
        have HE1 : Hid (∀ W', Below wr.heap.size wr W' → Calls Try.prog 19 #[(.slice none 0 0), (.slice none 0 0)] W' fun e w' => e = .returned (.bool true) ∧ W' = w') := Lib.hid fun W' hb => (equal_any W' (fun _ => False) (fun _ => False) _ _ _ _ _ _ (HV5.out W' hb) (HV6.out W' hb)).mono fun _ _ h => ⟨by rw [h.1, beq_self_eq_true], h.2⟩
        go_region_held3 (fun w' => w'.cell? ⟨q, 0, none⟩ = some (.slice AL L.length cL)) (first | exact HKK.out _ kb0 | exact HKK.out _ kb1 | exact HKK.out _ kb2)
          (first
            | (go_at_call 19; refine (HE1.out _ kc0).mono ?_; rintro e w9 ⟨rfl, rfl⟩)
            | (go_at_call 21; refine (plain_yes _ S1 p L (HT1.out _ kb0)).mono ?_; rintro e w10 ⟨A10, c10, rfl, hp10, b10'⟩; have kb1 := below_tr kb0 b10')
            | (go_at_call 20; refine (sameall_any _ (fun _ => False) _ A10 AL c10 cL L L (hp10.ls (fun _ _ _ h => h)) (HLR.out _ kb1) (by have := H20.out; omega)).mono ?_; rintro e w11 ⟨he, n11, rfl⟩; rw [show sameB L L = true from by simp [sameB]] at he; subst he; have kb2 := below_drewN kb1 n11))
        go_wp2_with fail
        go_ret
        exact ⟨rfl, HBr.out.trans (kb2.mono HBr.out.size)⟩

end Go.Proofs.Ytnhppmdhhmekdaa.Su
