/-
  Layer 5: the contract of bullalaw05.tables; leaves cut to forty; slices.EqualFunc at byte strings; slices.Equal at digests.
-/
import Derived.Test.YtepdajhgfdjklaaMk
import Derived.Test.YtepdajhgfdjklaaMg
import Derived.Test.YtepdajhgfdjklaaCa
import Derived.LoopTactic
namespace Go.Proofs.Ytepdajhgfdjklaa.Na
open Go Go.RowKit Ck Im Ik Ia Ib Ic Ig Ih Ij Mm Ma Mb Mc Md Pr Me Mf Mg Mh Mi Mj Ml Mk
attribute [local go_sem ↓] Go.wp_at_zero Go.wp_at_succ
set_option linter.unusedVariables false

def RF (p : Nat) (L : List Tx) (w : World) (S : Nat → Prop) : Prop := Rf w S p L
theorem rf_stable (p : Nat) (L : List Tx) : Stable (RF p L) := fun _ _ _ _ h c hd => Rf.ch h c hd
theorem two_start {B : Nat} {w0 w1 : World} {p : Nat} (hL : Tb w1 (New w0 w1) p []) (h0 : B ≤ w0.heap.size) (hb : w0.heap.size ≤ w1.heap.size) : Two (fun k => k < B) (w1.alloc (.cells #[.slice none 0 0] 39)) (TG p []) (RF w1.heap.size []) := by
  have ba : Below w1.heap.size w1 (w1.alloc (.cells #[.slice none 0 0] 39)) := (Below.refl _ _).alloc (Nat.le_refl _) _
  refine ⟨fun k hk => by simp; omega, New w0 w1, New w1 (w1.alloc (.cells #[.slice none 0 0] 39)), ?_, ?_, ?_, ?_, ?_⟩
  · exact Tb.ch hL (Ch.of_below (S := fun _ => False) ba (Nat.le_refl _)) (fun _ _ h => h)
  · exact ⟨_, Blk.new _ _ _, ⟨Nat.le_refl _, by simp⟩, ⟨[], Sl.nil _ _ _, fun i hi => absurd hi (by simp)⟩, by simp, by simp⟩
  · exact fun k hk => ⟨by have := hk.1; omega, by have := hk.2; simp; omega⟩
  · exact fun k hk => ⟨by have := hk.1; omega, hk.2⟩
  · exact fun k h1 h2 => by have := h1.2; have := h2.1; omega

/-- What tables answers. -/
def Tabled (B : Nat) (L : List Tx) (w : World) (e : Ending) (w' : World) : Prop := ∃ p q, e = .returned (.tuple #[.pointer (some ⟨p, 0, none⟩), .pointer (some ⟨q, 0, none⟩)]) ∧ Two (fun k => k < B) w' (TG p L) (RF q L) ∧ Below B w w'

set_option maxRecDepth 100000 in
set_option maxHeartbeats 4000000 in
theorem tables_any (w : World) (B : Nat) (hB : B ≤ w.heap.size) (A : Option Addr) (c : Nat) (ls : List Tx) (hls : Ls w (fun k => B ≤ k) (.slice A ls.length c) ls) (hl : ls.length ≤ 9007199254740992) (hall : ∀ x ∈ ls, x.length ≤ 140737488351232) :
    Calls Try.prog 11 #[.slice A ls.length c] w (Tabled B (adds ls) w) := by
  have HLS := Lib.hid hls
  have HLK : Hid (∀ x ∈ ls, x.length ≤ 140737488355328) := Lib.hid fun x hx => Nat.le_trans (hall x hx) (by omega)
  clear hls hall
  go_enter Try.func11, Try.ntmps11
  go_wp2_with fail
  refine (newtable_any _).mono ?_
  rintro e w1 ⟨p, rfl, hT1, hB1⟩
  have HT1 := Lib.hid (two_start hT1 hB hB1.size)
  have HB1 := Lib.hid ((hB1.mono hB).trans ((Below.refl B w1).alloc (Nat.le_trans hB hB1.size) (.cells #[.slice none 0 0] 39)))
  clear hT1 hB1
  go_wp2_with fail
  generalize w1.heap.size = q at *
  go_loopw [13] (fun i wr => ∃ k : Nat, k ≤ ls.length ∧ i = .int .i64 k ∧ Two (fun k => k < B) wr (TG p (adds (ls.take k))) (RF q (adds (ls.take k))) ∧ Below B w wr) (fun i _ => ls.length - (intOf i).toNat)
  case atStart => exact ⟨0, Nat.zero_le _, rfl, HT1.out, HB1.out⟩
  case round =>
    obtain ⟨k, hk, rfl, hT, hBw⟩ := hrel
    have HT := Lib.hid hT
    have HBW := Lib.hid hBw
    clear HT1 HB1
    by_cases hlt : k < ls.length
    · have hx2 := (HLS.out.below hBw (fun k _ h => h))
      obtain ⟨ad, B8, d8, rfl, a0, hx8⟩ := hx2.at_ hlt
      have HXB : Hid (∀ W', Below B w W' → Sl W' (fun k => B ≤ k) 1 (.slice B8 ls[k].length d8) ls[k].length (BVs ls[k])) := Lib.hid fun W' hb => by
        obtain ⟨ad', B', d', e1, a1, hx1⟩ := (HLS.out.at_ hlt)
        have e2 := ((HLS.out.below hBw (fun k _ h => h)).at_ hlt)
        obtain ⟨ad2, B2, d2, e3, a2, hx2⟩ := e2
        obtain rfl := Option.some.inj e1
        obtain rfl := Option.some.inj e3
        have hlow : ad.block < B := by
          obtain ⟨vals, ⟨A3, c3, hv3, _, _, _, hx3⟩, _⟩ := HLS.out
          obtain ⟨e1, _, _⟩ := Value.slice.inj hv3
          obtain ⟨ad3, hA3, _, hX3, _⟩ := hx3 (by omega)
          obtain rfl := Option.some.inj (e1.trans hA3)
          exact Nat.lt_of_not_le hX3
        have e4 := (hBw.cell (p := ad.add k) (by rw [add_block]; exact hlow)).trans a1
        rw [a0] at e4
        obtain ⟨e5, _, e6⟩ := Value.slice.inj (Option.some.inj e4)
        subst e5; subst e6
        exact hx1.below hb (fun k _ h => h)
      have HPT := Lib.hid (adds_take hlt)
      have HC1 := Lib.hid (HT.out.call (pg := Try.prog) (f := 31) (args := #[.pointer (some ⟨p, 0, none⟩), .slice B8 ls[k].length d8]) (rf_stable _ _) (P' := TG p (adds (ls.take (k + 1)))) (R := fun e => e = .returned (.int .i64 (sum (adds (ls.take k)) ls[k] : Int))) (fun S h => by
        rw [HPT.out]
        exact sum_yes wr S _ p _ B8 d8 ls[k] h (HXB.out _ HBW.out) (HLK.out _ (List.getElem_mem hlt))))
      have HC2 : Hid (∀ W', Below B w W' → Two (fun k => k < B) W' (TG p (adds (ls.take (k + 1)))) (RF q (adds (ls.take k))) → Calls Try.prog 32 #[.pointer (some ⟨q, 0, none⟩), .slice B8 ls[k].length d8] W' fun e w' => e = .returned (.int .i64 (sum (adds (ls.take k)) ls[k] : Int)) ∧ Two (fun k => k < B) w' (TG p (adds (ls.take (k + 1)))) (RF q (adds (ls.take (k + 1)))) ∧ Ch (fun g => ¬ g < B) W' w') :=
        Lib.hid fun W' hb hT => hT.callr (tg_stable _ _) (R := fun e => e = .returned (.int .i64 (sum (adds (ls.take k)) ls[k] : Int))) (Q' := RF q (adds (ls.take (k + 1)))) (fun S h => by
          rw [HPT.out]
          exact rsum_any W' S _ q _ B8 d8 ls[k] h (HXB.out _ hb) (HLK.out _ (List.getElem_mem hlt)))
      clear hT hBw hx2 hx8
      go_wp2_with fail
      refine HC1.out.mono ?_
      rintro e w5 ⟨rfl, hT5, hc5⟩
      have HT5 := Lib.hid hT5
      have HB5 := Lib.hid (HBW.out.trans (hc5.below (fun k hk hn => hn hk) (Nat.le_trans hB HBW.out.size)))
      clear hT5 hc5
      go_wp2_with fail
      refine (HC2.out _ HB5.out HT5.out).mono ?_
      rintro e w6 ⟨rfl, hT6, hc6⟩
      have HT6 := Lib.hid hT6
      have HB6 := Lib.hid (HB5.out.trans (hc6.below (fun k hk hn => hn hk) (Nat.le_trans hB HB5.out.size)))
      clear hT6 hc6
      go_wp2_with fail
      go_roundw
      case rel => exact ⟨k + 1, by omega, by go_num, HT6.out, HB6.out⟩
      case measure => simp [intOf]; omega
    · have hke : k = ls.length := by omega
      have hpe : adds (ls.take k) = adds ls := by rw [hke, List.take_length]
      rw [hpe] at HT
      clear hT hBw hpe
      go_wp2_with fail
      go_ret2
      exact ⟨p, q, rfl, HT.out, HBW.out⟩

/-- tables of nothing. -/
theorem tables_nil (w : World) (B : Nat) (hB : B ≤ w.heap.size) : Calls Try.prog 11 #[.slice none 0 0] w (Tabled B [] w) :=
  tables_any w B hB none 0 [] ⟨[], Sl.nil _ _ _, fun i hi => absurd hi (by simp)⟩ (by simp) (by simp)
theorem two_tq {B p : Nat} {L : List Tx} {w : World} {Q : World → (Nat → Prop) → Prop} (h : Two (fun k => k < B) w (TG p L) Q) : TQ B w.heap.size p L w := by
  obtain ⟨S, h1, h2⟩ := h.left
  exact ⟨S, h1, fun k hk => ⟨Nat.le_of_not_lt (h2 k hk).1, (h2 k hk).2⟩⟩

/-- Are two lists the same? (A word of its own.) -/
def sameL (a b : List Tx) : Bool := decide (a = b)

set_option maxHeartbeats 1000000 in
theorem equalfunc_any (w : World) (X Y : Nat → Prop) (A B : Option Addr) (c d n m : Nat) (ls ks : List Tx) (hn : n = ls.length) (hm : m = ks.length) (ha : Ls w X (.slice A n c) ls) (hb : Ls w Y (.slice B m d) ks) (hl : ls.length ≤ 1000000) :
    Calls Try.prog 29 #[.slice A n c, .slice B m d, .func (.func 28) #[] #[]] w fun e w' => e = .returned (.bool (sameL ls ks)) ∧ w = w' := by
  subst hn; subst hm
  by_cases hlen : ls.length = ks.length
  · have h1 : ((ls.length : Int) != (ks.length : Int)) = false := by simp [hlen]
    have HLEN := Lib.hid hlen
    have hle : ls.length ≤ ks.length := by omega
    clear hlen
    go_enter Try.func29, Try.ntmps29
    go_wp2_with fail
    go_loopw [17] (fun i wr => ∃ k : Nat, k ≤ ls.length ∧ i = .int .i64 k ∧ ls.take k = ks.take k ∧ wr = w) (fun i _ => ls.length - (intOf i).toNat)
    case atStart => exact ⟨0, Nat.zero_le _, rfl, rfl, rfl⟩
    case round =>
      obtain ⟨k, hk, rfl, hz, rfl⟩ := hrel
      have HZ := Lib.hid hz
      clear hz
      by_cases hlt : k < ls.length
      · have hlt2 : k < ks.length := by omega
        obtain ⟨ad, B1, d1, rfl, hc1, hx1⟩ := ha.at_ hlt
        obtain ⟨ad2, B2, d2, rfl, hc2, hx2⟩ := hb.at_ hlt2
        by_cases heq : ls[k] = ks[k]
        · have hbq : (ls[k] == ks[k]) = true := by rw [heq]; exact beq_self_eq_true _
          have HE : Hid (Calls Try.prog 28 #[.slice B1 ls[k].length d1, .slice B2 ks[k].length d2] wr fun e w' => e = .returned (.bool true) ∧ wr = w') := Lib.hid ((Ca.equal_any wr X Y _ _ _ _ _ _ hx1 hx2).mono fun _ _ h => ⟨by rw [h.1, hbq], h.2⟩)
          have HN := Lib.hid (show ls.take (k + 1) = ks.take (k + 1) by rw [List.take_succ_eq_append_getElem hlt, List.take_succ_eq_append_getElem hlt2, HZ.out, heq])
          clear hx1 hx2 heq hbq
          go_wp2_with fail
          refine HE.out.mono ?_
          rintro e w' ⟨rfl, rfl⟩
          go_wp2_with fail
          go_roundw
          case rel => exact ⟨k + 1, by omega, by go_num, HN.out, trivial⟩
          case measure => simp [intOf]; omega
        · have hbq : (ls[k] == ks[k]) = false := by rw [beq_eq_false_iff_ne]; exact heq
          have HE : Hid (Calls Try.prog 28 #[.slice B1 ls[k].length d1, .slice B2 ks[k].length d2] wr fun e w' => e = .returned (.bool false) ∧ wr = w') := Lib.hid ((Ca.equal_any wr X Y _ _ _ _ _ _ hx1 hx2).mono fun _ _ h => ⟨by rw [h.1, hbq], h.2⟩)
          have HN := Lib.hid (show sameL ls ks = false by
            simp only [sameL, decide_eq_false_iff_not]
            intro e
            subst e
            exact heq rfl)
          clear hx1 hx2 heq hbq
          go_wp2_with fail
          refine HE.out.mono ?_
          rintro e w' ⟨rfl, rfl⟩
          go_wp2_with fail
          go_ret
          exact ⟨by rw [HN.out]; rfl, rfl⟩
      · have hke : k = ls.length := by omega
        have HN := Lib.hid (show sameL ls ks = true by
          have h := HZ.out
          rw [hke, List.take_length, HLEN.out, List.take_length] at h
          simp [sameL, h])
        go_wp2_with fail
        go_ret
        exact ⟨by rw [HN.out]; rfl, rfl⟩
  · have h1 : ((ls.length : Int) != (ks.length : Int)) = true := by simp only [bne_iff_ne, ne_eq]; omega
    have HN := Lib.hid (show sameL ls ks = false by
      simp only [sameL, decide_eq_false_iff_not]
      intro e
      subst e
      exact hlen rfl)
    clear hlen
    go_enter Try.func29, Try.ntmps29
    go_wp2_with fail
    go_ret
    exact ⟨by rw [HN.out]; rfl, rfl⟩

/-- Forty leaves at the most. -/
def cut40 (ls : List Tx) : List Tx := ls.take (min ls.length 40)
theorem cut40_len (ls : List Tx) : (cut40 ls).length = min ls.length 40 := by simp [cut40]
theorem cut40_all {ls : List Tx} {n : Nat} (h : ∀ x ∈ ls, x.length ≤ n) : ∀ x ∈ cut40 ls, x.length ≤ n := fun x hx => h x (List.mem_of_mem_take hx)
theorem cut40_ls {w : World} {X : Nat → Prop} {A : Option Addr} {c : Nat} {ls : List Tx} (h : Ls w X (.slice A ls.length c) ls) : Ls w X (.slice A (cut40 ls).length c) (cut40 ls) := Ls.upto h (by omega)

end Go.Proofs.Ytepdajhgfdjklaa.Na
