/-
  The walk of the statement IdealSigns: what is signed, and by whom, whatever is asked for.
-/
import Derived.Test.YtnhppmdhhmekdaaNo
import Derived.Test.YtnhppmdhhmekdaaLe
import Derived.Test.YtnhppmdhhmekdaaPr
namespace Go.Proofs.Ytnhppmdhhmekdaa.Si
open Go Go.RowKit Ck Im Ik Lk Lb Lc Ld Le Ba Pr
attribute [local go_sem ↓] Go.wp_at_zero Go.wp_at_succ

theorem b9_lt {B k : Nat} (h : k < B) : k < B := h
def LG (p : Nat) (L : List Sg) (w : World) (S : Nat → Prop) : Prop := Lg w S p L
def RL (p : Nat) (L : List Sg) (w : World) (S : Nat → Prop) : Prop := Rl w S p L
theorem lg_stable (p : Nat) (L : List Sg) : Stable (LG p L) := fun _ _ _ _ h c hd => Lg.ch h c hd
theorem rl_stable (p : Nat) (L : List Sg) : Stable (RL p L) := fun _ _ _ _ h c hd => Rl.ch h c hd

theorem two_start {B : Nat} {w0 w1 : World} {p : Nat} (hL : Lg w1 (New w0 w1) p []) (h0 : B ≤ w0.heap.size) (hb : w0.heap.size ≤ w1.heap.size) : Two (fun k => k < B) (w1.alloc (.cells #[.slice none 0 0] 55)) (LG p []) (RL w1.heap.size []) := by
  have ba : Below w1.heap.size w1 (w1.alloc (.cells #[.slice none 0 0] 55)) := (Below.refl _ _).alloc (Nat.le_refl _) _
  refine ⟨fun k hk => by simp; omega, New w0 w1, New w1 (w1.alloc (.cells #[.slice none 0 0] 55)), ?_, ?_, ?_, ?_, ?_⟩
  · exact Lg.ch hL (Ch.of_below (S := fun _ => False) ba (Nat.le_refl _)) (fun _ _ h => h)
  · exact ⟨_, Blk.new _ _ _, ⟨Nat.le_refl _, by simp⟩, Sl.nil _ _ _⟩
  · exact fun k hk => ⟨by have := hk.1; omega, by have := hk.2; simp; omega⟩
  · exact fun k hk => ⟨by have := hk.1; omega, hk.2⟩
  · exact fun k h1 h2 => by have := h1.2; have := h2.1; omega

set_option maxRecDepth 100000 in
set_option maxHeartbeats 4000000 in
theorem signs_any (w : World) (A : Option Addr) (c : Nat) (qs : List Sg) (s : Sg) (hs : wfS s) (hq : No.Qs w (.slice A qs.length c) qs) (hl : (qs.length + 1) * 16 ≤ 140737488355328) :
    Calls Try.prog 5 #[.slice A qs.length c, GV s] w fun e w' => e = .returned (.bool true) ∧ Below w.heap.size w w' := by
  obtain ⟨x, y⟩ := s
  unfold GV
  have hq2 := run_neq_sign
  have hgs := guard_sign
  have HL := Lib.hid hl
  have hl2 : qs.length ≤ 9007199254740992 := by omega
  clear hl
  have hxs := hq.1
  have HQ := Lib.hid hq.2
  have HB0 : Hid (Below w.heap.size w (w.alloc (.cells #[.int .i64 x, .int .i64 y] 50))) := Lib.hid ((Below.refl _ _).alloc (Nat.le_refl _) _)
  have HK0 : Hid (Blk (w.alloc (.cells #[.int .i64 x, .int .i64 y] 50)) w.heap.size 50 #[.int .i64 x, .int .i64 y]) := Lib.hid (Blk.new _ _ _)
  have HX := Lib.hid hxs
  have HW := Lib.hid hs
  clear hq hxs hs
  obtain ⟨b9, hb9⟩ : ∃ b9, b9 = w.heap.size + 1 := ⟨_, rfl⟩
  have HB9 := Lib.hid hb9
  clear hb9
  go_enter Try.func5, Try.ntmps5
  go_wp2_with fail
  refine (La.newledger_any _).mono ?_
  rintro e w1 ⟨p0, rfl, hL1, hB1⟩
  have HT1 : Hid (Two (fun k => k < b9) (w1.alloc (.cells #[.slice none 0 0] 55)) (LG p0 []) (RL w1.heap.size [])) := Lib.hid (two_start hL1 (by rw [HB9.out]; simp) hB1.size)
  have HB1 : Hid (Below w.heap.size w (w1.alloc (.cells #[.slice none 0 0] 55))) := Lib.hid ((below_tr HB0.out hB1).alloc (below_tr HB0.out hB1).size _)
  have HK1 : Hid (Blk (w1.alloc (.cells #[.slice none 0 0] 55)) w.heap.size 50 #[.int .i64 x, .int .i64 y]) := Lib.hid ((HK0.out.below hB1 HK0.out.lt).alloc _)
  clear hL1 hB1
  go_wp2_with fail
  refine (begun_any _).mono ?_
  rintro e w2 ⟨rfl, hB2⟩
  have HT2 := Lib.hid (HT1.out.later (lg_stable _ _) (rl_stable _ _) hB2)
  have HB2 := Lib.hid (below_tr HB1.out hB2)
  have HK2 := Lib.hid (HK1.out.below hB2 HK1.out.lt)
  generalize w1.heap.size = q at *
  clear hB2 HT1 HB1 HK1
  go_wp2_with fail
  go_loopw [5, 25] (fun l i wr => ∃ (k p : Nat), k ≤ qs.length ∧ i = .int .i64 k ∧ l = .pointer (some ⟨p, 0, none⟩) ∧ Two (fun k => k < b9) wr (LG p (pays (qs.take k))) (RL q (pays (qs.take k))) ∧ Blk wr w.heap.size 50 #[.int .i64 x, .int .i64 y] ∧ Below w.heap.size w wr)
    (fun _ i _ => qs.length - (intOf i).toNat)
  case atStart => exact ⟨0, p0, Nat.zero_le _, rfl, rfl, HT2.out, HK2.out, HB2.out⟩
  case round =>
    obtain ⟨k, p, hk, rfl, rfl, hT, hKb, hB⟩ := hrel
    have HTr := Lib.hid hT
    have HKr := Lib.hid hKb
    have HBr := Lib.hid hB
    clear HT2 HB2 HK2
    by_cases hlt : k < qs.length
    · have hx2 := (HX.out.after hB)
      obtain ⟨ad, rfl, a0, a1, hLc⟩ := sig_at hx2 hlt
      have HPT := Lib.hid (pays_take hlt)
      have HPL := Lib.hid (pays_len qs k)
      clear hT hKb hB hx2
      have ba : Below wr.heap.size wr (wr.alloc (.cells #[.int .i64 qs[k].1, .int .i64 qs[k].2] 50)) := (Below.refl _ _).alloc (Nat.le_refl _) _
      have HT := Lib.hid (HTr.out.more (lg_stable _ _) (rl_stable _ _) ba (g := wr.heap.size) (Nat.le_refl _) (by simp))
      have HK8 : Hid (Blk (wr.alloc (.cells #[.int .i64 qs[k].1, .int .i64 qs[k].2] 50)) wr.heap.size 50 #[.int .i64 qs[k].1, .int .i64 qs[k].2]) := Lib.hid (Blk.new _ _ _)
      have HKb := Lib.hid (HKr.out.alloc (.cells #[.int .i64 qs[k].1, .int .i64 qs[k].2] 50))
      have HBW := Lib.hid (HBr.out.alloc HBr.out.size (.cells #[.int .i64 qs[k].1, .int .i64 qs[k].2] 50))
      clear ba
      by_cases h5 : k % 5 = 4
      · have h5i : ((k : Int) % 5 == 4) = true := by rw [beq_iff_eq]; omega
        clear h5
        go_wp2_with fail
        have HCL := Lib.hid (HT.out.clone (pg := Try.prog) (f := 25) (args := #[.pointer (some ⟨p, 0, none⟩)]) (lg_stable _ _) (rl_stable _ _) (P' := fun p' => LG p' (pays (qs.take k))) (R := fun p' e => e = .returned (.pointer (some ⟨p', 0, none⟩))) (fun S h => La.lclone_any _ S p _ h (by have := HL.out; have := HPL.out; omega)))
        refine HCL.out.mono ?_
        rintro e w3 ⟨p', rfl, hT3, hb3⟩
        have HOL := Lib.hid (hT3.call (pg := Try.prog) (f := 26) (args := #[.pointer (some ⟨p, 0, none⟩), .int .i64 1, .int .i64 77]) (lg_stable _ _) (rl_stable _ _) (R := fun e => e = .returned (.tuple #[GV (ans (1, 77)), .int .i64 (code (1, 77))])) (fun S h => (sign_any _ S p _ (1, 77) ⟨by simp, by simp, by simp, by simp⟩ h (by have := HL.out; have := HPL.out; omega)).mono fun _ _ h => ⟨h.1, h.2.2⟩))
        have hk8 := HK8.out.below hb3 HK8.out.lt
        have hkb := HKb.out.below hb3 HKb.out.lt
        have hbw := HBW.out.trans (hb3.mono HBW.out.size)
        have HK3 := Lib.hid (And.intro hk8 (And.intro hkb hbw))
        clear hT3 hb3 hk8 hkb hbw
        go_wp2_with fail
        refine HOL.out.mono ?_
        rintro e W ⟨rfl, hT4, hc4⟩
        have hk8 := HK3.out.1.ch hc4 (fun h => h (.inr rfl))
        have hkb := HK3.out.2.1.ch hc4 (fun h => h (.inl (by rw [HB9.out]; omega)))
        have hbw : Below w.heap.size w W := HK3.out.2.2.trans (below_of hc4 (fun k hk => .inl (by rw [HB9.out]; omega)) HK3.out.2.2.size)
        clear HT HK8 HKb HBW HCL HOL
        have HT := Lib.hid hT4
        have HK8 := Lib.hid hk8
        have HKb := Lib.hid hkb
        have HBW := Lib.hid hbw
        clear hT4 hk8 hkb hbw hc4 HK3
        generalize wr.heap.size = b8 at *
        have HPO := Lib.hid (rfl : p = p)
        clear HPO
        generalize hpp : p' = pn at *
        have hc0 := HK8.out.cell 0
        have hc1 := HK8.out.cell 1
        simp only [List.getElem?_toArray, List.getElem?_cons_zero, List.getElem?_cons_succ] at hc0 hc1
        have HS8 := Lib.hid (HT.out.call (pg := Try.prog) (f := 26) (args := #[.pointer (some ⟨pn, 0, none⟩), .int .i64 qs[k].1, .int .i64 qs[k].2]) (rl_stable _ _) (P' := LG pn (pays (qs.take (k + 1)))) (R := fun e => e = .returned (.tuple #[GV (ans qs[k]), .int .i64 (code qs[k])])) (fun S h => by
            rw [HPT.out]
            exact sign_any _ S pn _ qs[k] (HQ.out _ (List.getElem_mem hlt)) h (by have := HL.out; have := HPL.out; omega)))
        go_wp2_with fail
        refine HS8.out.mono ?_
        rintro e w5 ⟨rfl, hT5, hc5⟩
        have hk8 := HK8.out.ch hc5 (fun h => h (.inr rfl))
        have hkb := HKb.out.ch hc5 (fun h => h (.inl (by rw [HB9.out]; omega)))
        have hB5 : Below w.heap.size w w5 := HBW.out.trans (below_of hc5 (fun k hk => .inl (by rw [HB9.out]; omega)) HBW.out.size)
        have ba : Below w5.heap.size w5 (w5.alloc (.cells #[.int .i64 (ans qs[k]).1, .int .i64 (ans qs[k]).2] 50)) := (Below.refl _ _).alloc (Nat.le_refl _) _
        have HT5 := Lib.hid (hT5.more (lg_stable _ _) (rl_stable _ _) ba (g := w5.heap.size) (Nat.le_refl _) (by simp))
        have hk10 : Blk (w5.alloc (.cells #[.int .i64 (ans qs[k]).1, .int .i64 (ans qs[k]).2] 50)) w5.heap.size 50 #[.int .i64 (ans qs[k]).1, .int .i64 (ans qs[k]).2] := Blk.new _ _ _
        have HK5 := Lib.hid (And.intro (hk8.below ba hk8.lt) (And.intro (hkb.below ba hkb.lt) (And.intro hk10 (below_drewN (hB5.trans (ba.mono hB5.size)) 0))))
        have j0 := HK5.out.1.cell 0
        have j1 := HK5.out.1.cell 1
        have l0 := HK8.out.cell 0
        simp only [List.getElem?_toArray, List.getElem?_cons_zero, List.getElem?_cons_succ] at j0 j1
        clear hT5 hc5 hk8 hkb hB5 ba hk10 l0
        unfold GV
        go_wp2_with fail
        have HS9 := Lib.hid (HT5.out.callr (pg := Try.prog) (f := 27) (args := #[.pointer (some ⟨q, 0, none⟩), .int .i64 qs[k].1, .int .i64 qs[k].2]) (lg_stable _ _) (Q' := RL q (pays (qs.take (k + 1)))) (R := fun e => e = .returned (.tuple #[GV (ans qs[k]), .int .i64 (code qs[k])])) (fun S h => by
            rw [HPT.out]
            exact rsign_any _ S q _ qs[k] h (by have := HL.out; have := HPL.out; omega)))
        refine HS9.out.mono ?_
        rintro e w6 ⟨rfl, hT6, hc6⟩
        have hk8 := HK5.out.1.ch hc6 (fun h => h (.inl (.inr rfl)))
        have hkb := HK5.out.2.1.ch hc6 (fun h => h (.inl (.inl (by rw [HB9.out]; omega))))
        have hk10 := HK5.out.2.2.1.ch hc6 (fun h => h (.inr rfl))
        have hB6 : Below w.heap.size w w6 := HK5.out.2.2.2.trans (below_of hc6 (fun k hk => .inl (.inl (by rw [HB9.out]; omega))) HK5.out.2.2.2.size)
        have ba : Below w6.heap.size w6 (w6.alloc (.cells #[.int .i64 (ans qs[k]).1, .int .i64 (ans qs[k]).2] 50)) := (Below.refl _ _).alloc (Nat.le_refl _) _
        have hT7 := hT6.later (lg_stable _ _) (rl_stable _ _) ba
        have hk12 : Blk (w6.alloc (.cells #[.int .i64 (ans qs[k]).1, .int .i64 (ans qs[k]).2] 50)) w6.heap.size 50 #[.int .i64 (ans qs[k]).1, .int .i64 (ans qs[k]).2] := Blk.new _ _ _
        have hk8 := hk8.below ba hk8.lt
        have hkb := hkb.below ba hkb.lt
        have hk10 := hk10.below ba hk10.lt
        have hB7 := hB6.trans (ba.mono hB6.size)
        unfold GV
        go_wp2_with fail
        generalize w6.alloc (.cells #[.int .i64 (ans qs[k]).1, .int .i64 (ans qs[k]).2] 50) = W7 at hT7 hk8 hkb hk10 hk12 hB7 ⊢
        generalize w5.heap.size = b10 at hk10 ⊢
        generalize w6.heap.size = b12 at hk12 ⊢
        obtain ⟨S1, hL1, _⟩ := hT7.left
        obtain ⟨S2, hR1, _⟩ := hT7.right
        have hyy : sgB ((ans qs[k]).1, (ans qs[k]).2) ((ans qs[k]).1, (ans qs[k]).2) = true := sgB_yes _
        have HS1 : Hid (∀ W', Below W7.heap.size W7 W' → Calls Try.prog 28 #[.pointer (some ⟨pn, 0, none⟩), .agg #[.int .i64 qs[k].1, .int .i64 qs[k].2]] W' fun e w' => e = .returned (.bool (isS (pays (qs.take (k + 1))) qs[k])) ∧ Below W'.heap.size W' w') :=
          Lib.hid fun W' hb => signed_yes W' S1 pn _ qs[k] (HQ.out _ (List.getElem_mem hlt)) (Lg.ch hL1 (Ch.of_below (S := fun _ => False) hb (Nat.le_refl _)) (fun _ _ h => h))
        have HS2 : Hid (∀ W', Below W7.heap.size W7 W' → Calls Try.prog 29 #[.pointer (some ⟨q, 0, none⟩), .agg #[.int .i64 qs[k].1, .int .i64 qs[k].2]] W' fun e w' => e = .returned (.bool (isS (pays (qs.take (k + 1))) qs[k])) ∧ Below W'.heap.size W' w') :=
          Lib.hid fun W' hb => rsigned_any W' S2 q _ qs[k] (Rl.ch hR1 (Ch.of_below (S := fun _ => False) hb (Nat.le_refl _)) (fun _ _ h => h)) (by have := HL.out; have := pays_len qs (k + 1); omega)
        have HKK : Hid (∀ W', Below W7.heap.size W7 W' → W'.cell? ⟨b8, 0, none⟩ = some (.int .i64 qs[k].1) ∧ W'.cell? ⟨b8, 1, none⟩ = some (.int .i64 qs[k].2) ∧ W'.cell? ⟨b10, 0, none⟩ = some (.int .i64 (ans qs[k]).1) ∧ W'.cell? ⟨b10, 1, none⟩ = some (.int .i64 (ans qs[k]).2) ∧
            W'.cell? ⟨b12, 0, none⟩ = some (.int .i64 (ans qs[k]).1) ∧ W'.cell? ⟨b12, 1, none⟩ = some (.int .i64 (ans qs[k]).2)) :=
          Lib.hid fun W' hb => ⟨(hk8.below hb hk8.lt).cell 0, (hk8.below hb hk8.lt).cell 1, (hk10.below hb hk10.lt).cell 0, (hk10.below hb hk10.lt).cell 1, (hk12.below hb hk12.lt).cell 0, (hk12.below hb hk12.lt).cell 1⟩
        have kb0 : Below W7.heap.size W7 W7.drew := below_drewN (Below.refl _ _) 1
        have HT7 := Lib.hid hT7
        have HKB7 := Lib.hid hkb
        have HB7 := Lib.hid hB7
        clear hT6 hT7 hk8 hkb hk10 hk12 hB7 hB6 hc6 hL1 hR1 ba
        go_region_held3 (fun w' => w'.cell? ⟨b8, 0, none⟩ = some (.int .i64 qs[k].1) ∧ w'.cell? ⟨b8, 1, none⟩ = some (.int .i64 qs[k].2) ∧ w'.cell? ⟨b10, 0, none⟩ = some (.int .i64 (ans qs[k]).1) ∧ w'.cell? ⟨b10, 1, none⟩ = some (.int .i64 (ans qs[k]).2) ∧
            w'.cell? ⟨b12, 0, none⟩ = some (.int .i64 (ans qs[k]).1) ∧ w'.cell? ⟨b12, 1, none⟩ = some (.int .i64 (ans qs[k]).2))
          (first | exact HKK.out _ kb0 | exact HKK.out _ kb1 | exact HKK.out _ kb2)
          (first
            | (go_at_call 28; refine (HS1.out _ kb0).mono ?_; rintro e w8 ⟨rfl, b8'⟩; have kb1 := below_tr kb0 b8')
            | (go_at_call 29; refine (HS2.out _ kb1).mono ?_; rintro e w9 ⟨rfl, b9'⟩; have kb2 := below_tr kb1 b9'))
        go_wp2_with fail
        go_roundw
        case rel => exact ⟨k + 1, pn, by omega, by go_num, rfl, (HT7.out.less (fun _ h => .inl (.inl h))).later (lg_stable _ _) (rl_stable _ _) kb2, HKB7.out.below kb2 HKB7.out.lt, HB7.out.trans (kb2.mono HB7.out.size)⟩
        case measure => simp [intOf]; omega
      · have h5i : ((k : Int) % 5 == 4) = false := by rw [beq_eq_false_iff_ne]; omega
        clear h5
        go_wp2_with fail
        generalize wr.alloc (.cells #[.int .i64 qs[k].1, .int .i64 qs[k].2] 50) = W at *
        generalize wr.heap.size = b8 at *
        have hc0 := HK8.out.cell 0
        have hc1 := HK8.out.cell 1
        simp only [List.getElem?_toArray, List.getElem?_cons_zero, List.getElem?_cons_succ] at hc0 hc1
        have HS8 := Lib.hid (HT.out.call (pg := Try.prog) (f := 26) (args := #[.pointer (some ⟨p, 0, none⟩), .int .i64 qs[k].1, .int .i64 qs[k].2]) (rl_stable _ _) (P' := LG p (pays (qs.take (k + 1)))) (R := fun e => e = .returned (.tuple #[GV (ans qs[k]), .int .i64 (code qs[k])])) (fun S h => by
            rw [HPT.out]
            exact sign_any _ S p _ qs[k] (HQ.out _ (List.getElem_mem hlt)) h (by have := HL.out; have := HPL.out; omega)))
        go_wp2_with fail
        refine HS8.out.mono ?_
        rintro e w5 ⟨rfl, hT5, hc5⟩
        have hk8 := HK8.out.ch hc5 (fun h => h (.inr rfl))
        have hkb := HKb.out.ch hc5 (fun h => h (.inl (by rw [HB9.out]; omega)))
        have hB5 : Below w.heap.size w w5 := HBW.out.trans (below_of hc5 (fun k hk => .inl (by rw [HB9.out]; omega)) HBW.out.size)
        have ba : Below w5.heap.size w5 (w5.alloc (.cells #[.int .i64 (ans qs[k]).1, .int .i64 (ans qs[k]).2] 50)) := (Below.refl _ _).alloc (Nat.le_refl _) _
        have HT5 := Lib.hid (hT5.more (lg_stable _ _) (rl_stable _ _) ba (g := w5.heap.size) (Nat.le_refl _) (by simp))
        have hk10 : Blk (w5.alloc (.cells #[.int .i64 (ans qs[k]).1, .int .i64 (ans qs[k]).2] 50)) w5.heap.size 50 #[.int .i64 (ans qs[k]).1, .int .i64 (ans qs[k]).2] := Blk.new _ _ _
        have HK5 := Lib.hid (And.intro (hk8.below ba hk8.lt) (And.intro (hkb.below ba hkb.lt) (And.intro hk10 (below_drewN (hB5.trans (ba.mono hB5.size)) 0))))
        have j0 := HK5.out.1.cell 0
        have j1 := HK5.out.1.cell 1
        have l0 := HK8.out.cell 0
        simp only [List.getElem?_toArray, List.getElem?_cons_zero, List.getElem?_cons_succ] at j0 j1
        clear hT5 hc5 hk8 hkb hB5 ba hk10 l0
        unfold GV
        go_wp2_with fail
        have HS9 := Lib.hid (HT5.out.callr (pg := Try.prog) (f := 27) (args := #[.pointer (some ⟨q, 0, none⟩), .int .i64 qs[k].1, .int .i64 qs[k].2]) (lg_stable _ _) (Q' := RL q (pays (qs.take (k + 1)))) (R := fun e => e = .returned (.tuple #[GV (ans qs[k]), .int .i64 (code qs[k])])) (fun S h => by
            rw [HPT.out]
            exact rsign_any _ S q _ qs[k] h (by have := HL.out; have := HPL.out; omega)))
        refine HS9.out.mono ?_
        rintro e w6 ⟨rfl, hT6, hc6⟩
        have hk8 := HK5.out.1.ch hc6 (fun h => h (.inl (.inr rfl)))
        have hkb := HK5.out.2.1.ch hc6 (fun h => h (.inl (.inl (by rw [HB9.out]; omega))))
        have hk10 := HK5.out.2.2.1.ch hc6 (fun h => h (.inr rfl))
        have hB6 : Below w.heap.size w w6 := HK5.out.2.2.2.trans (below_of hc6 (fun k hk => .inl (.inl (by rw [HB9.out]; omega))) HK5.out.2.2.2.size)
        have ba : Below w6.heap.size w6 (w6.alloc (.cells #[.int .i64 (ans qs[k]).1, .int .i64 (ans qs[k]).2] 50)) := (Below.refl _ _).alloc (Nat.le_refl _) _
        have hT7 := hT6.later (lg_stable _ _) (rl_stable _ _) ba
        have hk12 : Blk (w6.alloc (.cells #[.int .i64 (ans qs[k]).1, .int .i64 (ans qs[k]).2] 50)) w6.heap.size 50 #[.int .i64 (ans qs[k]).1, .int .i64 (ans qs[k]).2] := Blk.new _ _ _
        have hk8 := hk8.below ba hk8.lt
        have hkb := hkb.below ba hkb.lt
        have hk10 := hk10.below ba hk10.lt
        have hB7 := hB6.trans (ba.mono hB6.size)
        unfold GV
        go_wp2_with fail
        generalize w6.alloc (.cells #[.int .i64 (ans qs[k]).1, .int .i64 (ans qs[k]).2] 50) = W7 at hT7 hk8 hkb hk10 hk12 hB7 ⊢
        generalize w5.heap.size = b10 at hk10 ⊢
        generalize w6.heap.size = b12 at hk12 ⊢
        obtain ⟨S1, hL1, _⟩ := hT7.left
        obtain ⟨S2, hR1, _⟩ := hT7.right
        have hyy : sgB ((ans qs[k]).1, (ans qs[k]).2) ((ans qs[k]).1, (ans qs[k]).2) = true := sgB_yes _
        have HS1 : Hid (∀ W', Below W7.heap.size W7 W' → Calls Try.prog 28 #[.pointer (some ⟨p, 0, none⟩), .agg #[.int .i64 qs[k].1, .int .i64 qs[k].2]] W' fun e w' => e = .returned (.bool (isS (pays (qs.take (k + 1))) qs[k])) ∧ Below W'.heap.size W' w') :=
          Lib.hid fun W' hb => signed_yes W' S1 p _ qs[k] (HQ.out _ (List.getElem_mem hlt)) (Lg.ch hL1 (Ch.of_below (S := fun _ => False) hb (Nat.le_refl _)) (fun _ _ h => h))
        have HS2 : Hid (∀ W', Below W7.heap.size W7 W' → Calls Try.prog 29 #[.pointer (some ⟨q, 0, none⟩), .agg #[.int .i64 qs[k].1, .int .i64 qs[k].2]] W' fun e w' => e = .returned (.bool (isS (pays (qs.take (k + 1))) qs[k])) ∧ Below W'.heap.size W' w') :=
          Lib.hid fun W' hb => rsigned_any W' S2 q _ qs[k] (Rl.ch hR1 (Ch.of_below (S := fun _ => False) hb (Nat.le_refl _)) (fun _ _ h => h)) (by have := HL.out; have := pays_len qs (k + 1); omega)
        have HKK : Hid (∀ W', Below W7.heap.size W7 W' → W'.cell? ⟨b8, 0, none⟩ = some (.int .i64 qs[k].1) ∧ W'.cell? ⟨b8, 1, none⟩ = some (.int .i64 qs[k].2) ∧ W'.cell? ⟨b10, 0, none⟩ = some (.int .i64 (ans qs[k]).1) ∧ W'.cell? ⟨b10, 1, none⟩ = some (.int .i64 (ans qs[k]).2) ∧
            W'.cell? ⟨b12, 0, none⟩ = some (.int .i64 (ans qs[k]).1) ∧ W'.cell? ⟨b12, 1, none⟩ = some (.int .i64 (ans qs[k]).2)) :=
          Lib.hid fun W' hb => ⟨(hk8.below hb hk8.lt).cell 0, (hk8.below hb hk8.lt).cell 1, (hk10.below hb hk10.lt).cell 0, (hk10.below hb hk10.lt).cell 1, (hk12.below hb hk12.lt).cell 0, (hk12.below hb hk12.lt).cell 1⟩
        have kb0 : Below W7.heap.size W7 W7.drew := below_drewN (Below.refl _ _) 1
        have HT7 := Lib.hid hT7
        have HKB7 := Lib.hid hkb
        have HB7 := Lib.hid hB7
        clear hT6 hT7 hk8 hkb hk10 hk12 hB7 hB6 hc6 hL1 hR1 ba
        go_region_held3 (fun w' => w'.cell? ⟨b8, 0, none⟩ = some (.int .i64 qs[k].1) ∧ w'.cell? ⟨b8, 1, none⟩ = some (.int .i64 qs[k].2) ∧ w'.cell? ⟨b10, 0, none⟩ = some (.int .i64 (ans qs[k]).1) ∧ w'.cell? ⟨b10, 1, none⟩ = some (.int .i64 (ans qs[k]).2) ∧
            w'.cell? ⟨b12, 0, none⟩ = some (.int .i64 (ans qs[k]).1) ∧ w'.cell? ⟨b12, 1, none⟩ = some (.int .i64 (ans qs[k]).2))
          (first | exact HKK.out _ kb0 | exact HKK.out _ kb1 | exact HKK.out _ kb2)
          (first
            | (go_at_call 28; refine (HS1.out _ kb0).mono ?_; rintro e w8 ⟨rfl, b8'⟩; have kb1 := below_tr kb0 b8')
            | (go_at_call 29; refine (HS2.out _ kb1).mono ?_; rintro e w9 ⟨rfl, b9'⟩; have kb2 := below_tr kb1 b9'))
        go_wp2_with fail
        go_roundw
        case rel => exact ⟨k + 1, p, by omega, by go_num, rfl, (HT7.out.less (fun _ h => .inl (.inl h))).later (lg_stable _ _) (rl_stable _ _) kb2, HKB7.out.below kb2 HKB7.out.lt, HB7.out.trans (kb2.mono HB7.out.size)⟩
        case measure => simp [intOf]; omega
    · have hke : k = qs.length := by omega
      have hpe : pays (qs.take k) = pays qs := by rw [hke, List.take_length]
      have hple := pays_len qs k
      rw [hpe] at hT hple
      obtain ⟨S1, hL1, _⟩ := hT.left
      obtain ⟨S2, hR1, _⟩ := hT.right
      have hR2 := hR1
      obtain ⟨lv, q1, _, hsl⟩ := hR2
      have hsl' := hsl
      obtain ⟨AL, cL, rfl, -⟩ := hsl'
      generalize hLL : pays qs = L at *
      have HLn : Hid ((L.length + 1) * 16 ≤ 140737488355328) := Lib.hid (by have := HL.out; omega)
      have HS1 : Hid (∀ W', Below wr.heap.size wr W' → Calls Try.prog 28 #[.pointer (some ⟨p, 0, none⟩), .agg #[.int .i64 x, .int .i64 y]] W' fun e w' => e = .returned (.bool (isS L (x, y))) ∧ Below W'.heap.size W' w') :=
        Lib.hid fun W' hb => signed_yes W' S1 p _ (x, y) HW.out (Lg.ch hL1 (Ch.of_below (S := fun _ => False) hb (Nat.le_refl _)) (fun _ _ h => h))
      have HS2 : Hid (∀ W', Below wr.heap.size wr W' → Calls Try.prog 29 #[.pointer (some ⟨q, 0, none⟩), .agg #[.int .i64 x, .int .i64 y]] W' fun e w' => e = .returned (.bool (isS L (x, y))) ∧ Below W'.heap.size W' w') :=
        Lib.hid fun W' hb => rsigned_any W' S2 q _ (x, y) (Rl.ch hR1 (Ch.of_below (S := fun _ => False) hb (Nat.le_refl _)) (fun _ _ h => h)) (by have := HLn.out; omega)
      have HS3 : Hid (∀ W', Below wr.heap.size wr W' → Calls Try.prog 31 #[.pointer (some ⟨p, 0, none⟩)] W' fun e w' => ∃ A c, e = .returned (.slice A L.length c) ∧ w'.ownsRow W'.heap.size 50 2 (.slice A L.length c) L.length (GVs L) ∧ Below W'.heap.size W' w') :=
        Lib.hid fun W' hb => La.signs_yes W' S1 p _ (Lg.ch hL1 (Ch.of_below (S := fun _ => False) hb (Nat.le_refl _)) (fun _ _ h => h)) (by have := HLn.out; omega)
      have HS4 : Hid (∀ W', Below wr.heap.size wr W' → Calls Try.prog 32 #[.pointer (some ⟨p, 0, none⟩)] W' fun e w' => e = .returned (.int .i64 L.length) ∧ W' = w') :=
        Lib.hid fun W' hb => La.len_yes W' S1 p _ (Lg.ch hL1 (Ch.of_below (S := fun _ => False) hb (Nat.le_refl _)) (fun _ _ h => h))
      have HS5 : Hid (∀ W', Below wr.heap.size wr W' → Sl W' (fun k => ¬ S2 k ∨ k = q) 2 (.slice AL L.length cL) L.length (GVs L)) := Lib.hid fun W' hb => hsl.after hb
      have HKK : Hid (∀ W', Below wr.heap.size wr W' → W'.cell? ⟨w.heap.size, 0, none⟩ = some (.int .i64 x) ∧ W'.cell? ⟨w.heap.size, 1, none⟩ = some (.int .i64 y) ∧ W'.cell? ⟨q, 0, none⟩ = some (.slice AL L.length cL)) :=
        Lib.hid fun W' hb => ⟨(hKb.below hb hKb.lt).cell 0, (hKb.below hb hKb.lt).cell 1, (q1.below hb q1.lt).cell 0⟩
      have kb0 : Below wr.heap.size wr wr.drew := below_drewN (Below.refl _ _) 1
      have HT7 := Lib.hid hT
      have HLLL := Lib.hid hLL
      clear hT hL1 hR1 q1 hsl hKb hLL hpe hple
      go_wp2_with fail
      go_region_held3 (fun w' => w'.cell? ⟨w.heap.size, 0, none⟩ = some (.int .i64 x) ∧ w'.cell? ⟨w.heap.size, 1, none⟩ = some (.int .i64 y) ∧ w'.cell? ⟨q, 0, none⟩ = some (.slice AL L.length cL))
        (first | exact HKK.out _ kb0 | exact HKK.out _ kb1 | exact HKK.out _ kb2 | exact HKK.out _ kb3 | exact HKK.out _ kb4)
        (first
          | (go_at_call 28; refine (HS1.out _ kb0).mono ?_; rintro e w8 ⟨rfl, b8'⟩; have kb1 := below_tr kb0 b8')
          | (go_at_call 29; refine (HS2.out _ kb1).mono ?_; rintro e w9 ⟨rfl, b9'⟩; have kb2 := below_tr kb1 b9')
          | (go_at_call 31; refine (HS3.out _ kb2).mono ?_; rintro e w10 ⟨A3, c3, rfl, ho3, b10'⟩; have kb3 := below_tr kb2 b10')
          | (go_at_call 30; refine (sequal_any _ (fun _ => False) _ A3 AL c3 cL L L (Sl.of_own ho3 (fun _ _ _ h => h)) (HS5.out _ kb3) (by have := HLn.out; omega)).mono ?_; rintro e w11 ⟨he, n11, rfl⟩; rw [decide_eq_true rfl] at he; subst he; have kb4 := below_drewN kb3 n11)
          | (go_at_call 32; refine (HS4.out _ kb4).mono ?_; rintro e w12 ⟨rfl, rfl⟩))
      go_wp2_with fail
      go_ret
      exact ⟨rfl, HBr.out.trans (kb4.mono HBr.out.size)⟩

end Go.Proofs.Ytnhppmdhhmekdaa.Si
