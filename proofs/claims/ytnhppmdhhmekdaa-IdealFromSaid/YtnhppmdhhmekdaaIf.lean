/-
  Contract of the program's From.
-/
import Derived.Test.YtnhppmdhhmekdaaIe
namespace Go.Proofs.Ytnhppmdhhmekdaa.If
open Go Go.RowKit Ck Im Ik Ia Ib Ic Ig Ie

/-- What From answers. -/
def FromP (w : World) (l : List Tx) (e : Ending) (w' : World) : Prop :=
  Below w.heap.size w w' ∧ ((l.Nodup ∧ ∃ p, e = .returned (.tuple #[.pointer (some ⟨p, 0, none⟩), .int .i64 0]) ∧ Tb w' (New w w') p l) ∨ (¬ l.Nodup ∧ e = .returned (.tuple #[.pointer none, .int .i64 5])))

theorem from_long (w : World) (A : Option Addr) (c n : Nat) (h : 1048576 < n) :
    Calls Try.prog 22 #[.slice A n c] w fun e w' => e = .returned (.tuple #[.pointer none, .int .i64 3]) ∧ w = w' := by
  have h2 : decide ((1048576 : Int) < (n : Int)) = true := by rw [decide_eq_true_eq]; omega
  clear h
  go_enter Try.func22, Try.ntmps22
  go_wp2
  go_ret2
  exact ⟨rfl, rfl⟩

theorem up_new {w wr w' : World} (h1 : w.heap.size ≤ wr.heap.size) (h2 : wr.heap.size ≤ w'.heap.size) (k : Nat) (h : Up (New w wr) wr w' k) : New w w' k := by
  rcases h with ⟨a, b⟩ | ⟨a, b⟩
  · exact ⟨a, by omega⟩
  · exact ⟨by omega, b⟩
theorem new_below {w wr w' : World} (h : Below w.heap.size w wr) (c : Ch (New w wr) wr w') : Below w.heap.size w w' :=
  h.trans (c.below (fun k hk hn => by have := hn.1; omega) h.size)

set_option maxHeartbeats 1000000 in
theorem from_any (w : World) (Y : Nat → Prop) (A : Option Addr) (c : Nat) (l : List Tx) (hls : Ls w Y (.slice A l.length c) l) (hl : l.length ≤ 1048576) (hall : ∀ x ∈ l, x.length ≤ 140737488355328) :
    Calls Try.prog 22 #[.slice A l.length c] w (FromP w l) := by
  have h2 : decide ((1048576 : Int) < (l.length : Int)) = false := by rw [decide_eq_false_iff_not]; omega
  have HL := Lib.hid hl
  have HA := Lib.hid hall
  have hl3 : l.length ≤ 2000000 := by omega
  clear hl hall
  go_enter Try.func22, Try.ntmps22
  go_wp2_with (go_at_call 33; refine (roomy_any _ l.length HL.out).mono ?_; rintro e w1 ⟨p, rfl, hT1, hB1⟩)
  go_loopw [15] (fun i wr => ∃ k : Nat, k ≤ l.length ∧ i = .int .i64 k ∧ Tb wr (New w wr) p (l.take k) ∧ (l.take k).Nodup ∧ Below w.heap.size w wr)
    (fun i _ => l.length - (intOf i).toNat)
  case atStart => exact ⟨0, Nat.zero_le _, rfl, by simpa using hT1, by simp, hB1⟩
  case round =>
    obtain ⟨k, hk, rfl, hT, hnd, hbr⟩ := hrel
    have HT := Lib.hid hT
    have HN := Lib.hid hnd
    have HB := Lib.hid hbr
    by_cases hlt : k < l.length
    · have hx := (hls.old' (Nat.le_refl _)).below hbr (fun k _ h => h)
      obtain ⟨ad, B, d, rfl, hcell, hx⟩ := hx.at_ hlt
      have hklen : (l.take k).length = k := by rw [List.length_take]; omega
      have HX := Lib.hid hx
      by_cases h0 : num (l.take k) l[k] = 0
      · have ⟨ha, hs⟩ := add_new (L := l.take k) (s := l[k]) h0 (by have := HL.out; omega)
        rw [hklen] at hs
        have HA2 := Lib.hid ha
        have HS := Lib.hid hs
        have H0 := Lib.hid h0
        clear hT hnd hbr hx ha hs h0 hklen hT1 hB1
        go_wp2_with (go_at_call 11; refine (sum_yes _ (New w wr) _ p (l.take k) _ _ l[k] HT.out HX.out (HA.out _ (List.getElem_mem hlt))).mono ?_; rintro e w2 ⟨he, hT2, hC2⟩; rw [HS.out] at he; subst he)
        go_roundw
        case rel =>
          rw [HA2.out] at hT2
          refine ⟨k + 1, by omega, by go_num, ?_, nodup_take hlt HN.out H0.out, new_below HB.out hC2⟩
          rw [List.take_succ_eq_append_getElem hlt]
          exact hT2.weaken (up_new HB.out.size hC2.size)
        case measure => simp [intOf]; omega
      · have ⟨ha, hs⟩ := add_known (L := l.take k) (s := l[k]) h0
        have hle := num_le (l.take k) l[k]
        obtain ⟨s, hs2⟩ : ∃ s, s = num (l.take k) l[k] := ⟨_, rfl⟩
        rw [← hs2] at hs hle
        have hne : ((s : Int) != (k : Int) + 1) = true := by rw [bne_iff_ne]; omega
        have HS := Lib.hid hs
        have H0 := Lib.hid h0
        clear hT hnd hbr hx ha hs h0 hklen hT1 hB1 hs2 hle
        go_wp2_with (go_at_call 11; refine (sum_yes _ (New w wr) _ p (l.take k) _ _ l[k] HT.out HX.out (HA.out _ (List.getElem_mem hlt))).mono ?_; rintro e w2 ⟨he, hT2, hC2⟩; rw [HS.out] at he; subst he)
        go_ret2
        exact ⟨new_below HB.out hC2, .inr ⟨not_nodup hlt H0.out, rfl⟩⟩
    · have hke : k = l.length := by omega
      have HT2 : Tb wr (New w wr) p l := by rw [hke, List.take_length] at hT; exact hT
      have HN2 : l.Nodup := by rw [hke, List.take_length] at hnd; exact hnd
      have HT3 := Lib.hid HT2
      have HN3 := Lib.hid HN2
      clear hT hnd HT2 HN2 hT1 hB1
      go_wp2
      go_ret2
      exact ⟨HB.out, .inl ⟨HN3.out, p, rfl, HT3.out⟩⟩

end Go.Proofs.Ytnhppmdhhmekdaa.If
