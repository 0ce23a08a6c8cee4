/-
  Contracts of layer 5: Split, half, isPlace, Length; the document's Split and Length.
-/
import Derived.Test.YtepdajhgfdjklaaMa
import Derived.LoopTactic
namespace Go.Proofs.Ytepdajhgfdjklaa.Mb
open Go Go.RowKit Ck Im Ik Ia Ib Ic Ig Ih Ij Mm Ma
attribute [local go_sem ↓] Go.wp_at_zero Go.wp_at_succ
set_option linter.unusedVariables false

theorem split_bitlen {n : Nat} (h : 2 ≤ n) (hn : n ≤ 9223372036854775807) : ∃ k, Lib.bitLen (n - 1) = k + 1 ∧ k ≤ 62 ∧ split n = 2 ^ k := by
  obtain ⟨h1, h2, h3⟩ := Lib.bitLenAux_bounds 64 (n - 1) (by
    have : (2 : Nat) ^ 64 = 18446744073709551616 := by decide
    rw [this]; omega) (by omega)
  have hb : Lib.bitLen (n - 1) = Lib.bitLenAux 64 (n - 1) := rfl
  obtain ⟨k, hk⟩ : ∃ k, Lib.bitLenAux 64 (n - 1) = k + 1 := ⟨Lib.bitLenAux 64 (n - 1) - 1, by omega⟩
  rw [hk] at h2 h3
  simp only [Nat.add_sub_cancel] at h2
  refine ⟨k, by rw [hb, hk], ?_, ?_⟩
  · rcases Nat.lt_or_ge 62 k with h4 | h4
    · have h5 : 2 ^ 63 ≤ 2 ^ k := Nat.pow_le_pow_right (by omega) h4
      have : (2 : Nat) ^ 63 = 9223372036854775808 := by decide
      omega
    · exact h4
  · unfold split
    rw [if_neg (by omega), (Nat.log2_eq_iff (by omega)).2 ⟨h2, h3⟩]

theorem split_small {n : Int} (h : n < 2) : split n.toNat = 0 := by
  unfold split
  rw [if_pos (by omega)]
theorem pow_le62 {k : Nat} (hk : k ≤ 62) : 2 ^ k ≤ 4611686018427387904 ∧ 1 ≤ 2 ^ k := by
  have h := Nat.pow_le_pow_right (n := 2) (by omega) hk
  have : (2 : Nat) ^ 62 = 4611686018427387904 := by decide
  have := Nat.one_le_two_pow (n := k)
  omega

theorem pow_wrap {k : Nat} (hk : k ≤ 62) : wrap64 ((2 : Int) ^ k) = ((2 ^ k : Nat) : Int) := by
  have h := pow_le62 hk
  have e : ((2 : Int) ^ k) = ((2 ^ k : Nat) : Int) := by simp
  rw [e]
  generalize 2 ^ k = x at *
  unfold wrap64
  omega
set_option maxRecDepth 100000 in
set_option maxHeartbeats 400000 in
theorem split_any (w : World) (n : Int) (hn : n ≤ 9223372036854775807) :
    Calls Try.prog 22 #[.int .i64 n] w fun e w' => e = .returned (.int .i64 (split n.toNat : Int)) ∧ w = w' := by
  by_cases h2 : n < 2
  · rw [split_small h2]
    clear hn
    go_enter Try.func22, Try.ntmps22
    go_wp2_with fail
    go_ret
    exact ⟨rfl, rfl⟩
  · obtain ⟨m, rfl⟩ : ∃ m : Nat, n = (m : Int) := ⟨n.toNat, by omega⟩
    obtain ⟨k, hk, hk62, hs⟩ := split_bitlen (n := m) (by omega) (by omega)
    rw [show ((m : Int)).toNat = m from by omega, hs]
    have HB := Lib.hid hk
    have hm2 : 2 ≤ m := by omega
    have hm3 : m ≤ 9223372036854775807 := by omega
    clear hs hn h2 hk
    go_enter Try.func22, Try.ntmps22
    go_wp2_with fail
    have HC : Hid (∀ W, Calls Try.prog 42 #[.int .u64 ((m : Int) - 1)] W fun e w' => e = .returned (.int .i64 ((k : Int) + 1)) ∧ W = w') := Lib.hid fun W => by
      refine (Any.bits_Len Try.bitsLen ((m : Int) - 1) W (by omega) (by omega)).mono ?_
      rintro e w' ⟨rfl, rfl⟩
      rw [show ((m : Int) - 1).toNat = m - 1 from by omega, HB.out]
      exact ⟨rfl, rfl⟩
    refine (HC.out w).mono ?_
    rintro e w' ⟨rfl, rfl⟩
    go_wp2_with fail
    go_ret
    exact ⟨by rw [← pow_wrap hk62]; rfl, rfl⟩

/-- Is i a place of n? (A word of its own: the walk leaves it whole.) -/
def isPl (i n : Int) : Bool := decide (0 ≤ i ∧ i < n)
theorem isPl_yes {i n : Int} (h : 0 ≤ i) (h' : i < n) : isPl i n = true := by simp [isPl, h, h']
theorem isPl_no {i n : Int} (h : ¬ (0 ≤ i ∧ i < n)) : isPl i n = false := by simp only [isPl, decide_eq_false_iff_not]; exact h
theorem isplace_any (w : World) (i n : Int) :
    Calls Try.prog 35 #[.int .i64 i, .int .i64 n] w fun e w' => e = .returned (.bool (isPl i n)) ∧ w = w' := by
  by_cases h0 : 0 ≤ i
  · by_cases h1 : i < n
    · have HP := Lib.hid (isPl_yes h0 h1)
      go_enter Try.func35, Try.ntmps35
      go_wp2_with fail
      go_ret
      exact ⟨by rw [HP.out]; rfl, rfl⟩
    · have HP := Lib.hid (isPl_no (i := i) (n := n) (by omega))
      go_enter Try.func35, Try.ntmps35
      go_wp2_with fail
      go_ret
      exact ⟨by rw [HP.out]; rfl, rfl⟩
  · have HP := Lib.hid (isPl_no (i := i) (n := n) (by omega))
    go_enter Try.func35, Try.ntmps35
    go_wp2_with fail
    go_ret
    exact ⟨by rw [HP.out]; rfl, rfl⟩

theorem half_left (w : World) (i n : Nat) (h2 : 2 ≤ n) (hn : n ≤ 9223372036854775807) (hi : i < split n) :
    Calls Try.prog 43 #[.int .i64 i, .int .i64 n] w fun e w' => e = .returned (.tuple #[.int .i64 (i : Int), .int .i64 (split n : Int), .bool true]) ∧ w = w' := by
  have hs := split_any w n (by omega)
  rw [show ((n : Int)).toNat = n from by omega] at hs
  generalize split n = k at *
  have HS := Lib.hid hs
  clear hs
  go_enter Try.func43, Try.ntmps43
  go_wp2_with fail
  refine HS.out.mono ?_
  rintro e w' ⟨rfl, rfl⟩
  go_wp2_with fail
  refine bodyPost_ret (v := .tuple #[.int .i64 (i : Int), .int .i64 (k : Int), .bool true]) (by simp [results, Try.results43, go_sem]) rfl ?_
  exact ⟨rfl, rfl⟩
theorem half_right (w : World) (i n : Nat) (h2 : 2 ≤ n) (hn : n ≤ 9223372036854775807) (hi : ¬ i < split n) (hin : i < n) :
    Calls Try.prog 43 #[.int .i64 i, .int .i64 n] w fun e w' => e = .returned (.tuple #[.int .i64 ((i - split n : Nat) : Int), .int .i64 ((n - split n : Nat) : Int), .bool false]) ∧ w = w' := by
  have hs := split_any w n (by omega)
  have hsp := (split_spec h2).2.1
  rw [show ((n : Int)).toNat = n from by omega] at hs
  generalize split n = k at *
  have HS := Lib.hid hs
  have e1 : ((i - k : Nat) : Int) = (i : Int) - k := by omega
  have e2 : ((n - k : Nat) : Int) = (n : Int) - k := by omega
  rw [e1, e2]
  clear hs e1 e2
  go_enter Try.func43, Try.ntmps43
  go_wp2_with fail
  refine HS.out.mono ?_
  rintro e w' ⟨rfl, rfl⟩
  go_wp2_with fail
  refine bodyPost_ret (v := .tuple #[.int .i64 ((i : Int) - k), .int .i64 ((n : Int) - k), .bool false]) (by simp [results, Try.results43, go_sem]) rfl ?_
  exact ⟨rfl, rfl⟩

/-- How many digests a proof has, of any numbers. -/
def lenI (i n : Int) : Nat := if 0 ≤ i ∧ i < n then len i.toNat n.toNat else 0

set_option maxHeartbeats 400000 in
theorem length_any (w : World) (i n : Int) (hn : n ≤ 9223372036854775807) :
    Calls Try.prog 24 #[.int .i64 i, .int .i64 n] w fun e w' => e = .returned (.int .i64 (lenI i n : Int)) ∧ w = w' := by
  have HP := isplace_any w i n
  by_cases h : 0 ≤ i ∧ i < n
  · rw [isPl_yes h.1 h.2] at HP
    have HP := Lib.hid HP
    obtain ⟨a, rfl⟩ : ∃ a : Nat, i = (a : Int) := ⟨i.toNat, by omega⟩
    obtain ⟨m, rfl⟩ : ∃ m : Nat, n = (m : Int) := ⟨n.toNat, by omega⟩
    have ham : a < m := by omega
    have hl : lenI a m = len a m := by unfold lenI; rw [if_pos h]; simp
    rw [hl]
    have hlt := len_lt m a (by omega)
    generalize hgl : len a m = g at *
    have HG := Lib.hid hgl
    clear hl h hgl
    go_enter Try.func24, Try.ntmps24
    go_wp2_with fail
    refine HP.out.mono ?_
    rintro e w' ⟨rfl, rfl⟩
    go_wp2_with fail
    go_loopw [0, 1, 5] (fun vi vn vd wr => ∃ (x y d : Nat), vi = .int .i64 x ∧ vn = .int .i64 y ∧ vd = .int .i64 d ∧ x < y ∧ y ≤ m ∧ d + len x y = g ∧ wr = w) (fun _ vn _ _ => (intOf vn).toNat)
    case atStart => exact ⟨a, m, 0, rfl, rfl, rfl, ham, Nat.le_refl _, by rw [HG.out]; omega, rfl⟩
    case round =>
      obtain ⟨x, y, d, rfl, rfl, rfl, hxy, hym, hd, rfl⟩ := hrel
      have HD := Lib.hid hd
      have hdg : d ≤ g := by omega
      clear hd
      by_cases h1 : y ≤ 1
      · have hd := HD.out
        rw [len_one h1] at hd
        have hd : d = g := by omega
        subst hd
        go_wp2_with fail
        go_ret
        exact ⟨rfl, rfl⟩
      · have hsp := split_spec (n := y) (by omega)
        by_cases hx : x < split y
        · have HH := Lib.hid (half_left wr x y (by omega) (by omega) hx)
          have hd := HD.out
          rw [len_left (by omega) hx] at hd
          have HD2 := Lib.hid hd
          clear hd HD
          generalize split y = k at *
          go_wp2_with fail
          refine HH.out.mono ?_
          rintro e w' ⟨rfl, rfl⟩
          go_wp2_with fail
          go_roundw
          case rel => exact ⟨x, k, d + 1, rfl, rfl, by go_num, hx, by omega, by have := HD2.out; omega, trivial⟩
          case measure => simp [intOf]; omega
        · have HH := Lib.hid (half_right wr x y (by omega) (by omega) hx hxy)
          have hd := HD.out
          rw [len_right (by omega) hx] at hd
          have HD2 := Lib.hid hd
          clear hd HD
          generalize split y = k at *
          obtain ⟨u, hu⟩ : ∃ u, u = x - k := ⟨_, rfl⟩
          obtain ⟨v, hv⟩ : ∃ v, v = y - k := ⟨_, rfl⟩
          rw [← hu, ← hv] at HH HD2
          have hu2 : u < v := by omega
          have hv2 : v < y := by omega
          clear hu hv
          go_wp2_with fail
          refine HH.out.mono ?_
          rintro e w' ⟨rfl, rfl⟩
          go_wp2_with fail
          go_roundw
          case rel => exact ⟨u, v, d + 1, rfl, rfl, by go_num, hu2, by omega, by have := HD2.out; omega, trivial⟩
          case measure => simp [intOf]; omega
  · rw [isPl_no h] at HP
    have HP := Lib.hid HP
    have hl : lenI i n = 0 := by unfold lenI; rw [if_neg h]
    rw [hl]
    clear hl h hn
    go_enter Try.func24, Try.ntmps24
    go_wp2_with fail
    refine HP.out.mono ?_
    rintro e w' ⟨rfl, rfl⟩
    go_wp2_with fail
    go_ret
    exact ⟨rfl, rfl⟩

theorem pow_two_of {k n : Nat} (h2 : 2 ≤ n) (h : 2 ^ k < n) (h' : n ≤ 2 ^ k * 2) : split n = 2 ^ k := by
  unfold split
  have : 2 ^ (k + 1) = 2 ^ k * 2 := Nat.pow_succ 2 k
  rw [if_neg (by omega), (Nat.log2_eq_iff (k := k) (by omega)).2 ⟨by omega, by omega⟩]
set_option maxHeartbeats 400000 in
theorem rsplit_any (w : World) (n : Int) (hn : n ≤ 9223372036854775807) :
    Calls Try.prog 23 #[.int .i64 n] w fun e w' => e = .returned (.int .i64 (split n.toNat : Int)) ∧ w = w' := by
  by_cases h2 : n < 2
  · rw [split_small h2]
    clear hn
    go_enter Try.func23, Try.ntmps23
    go_wp2_with fail
    go_ret
    exact ⟨rfl, rfl⟩
  · obtain ⟨m, rfl⟩ : ∃ m : Nat, n = (m : Int) := ⟨n.toNat, by omega⟩
    rw [show ((m : Int)).toNat = m from by omega]
    go_enter Try.func23, Try.ntmps23
    go_wp2_with fail
    go_loopw [3] (fun v wr => ∃ (x k : Nat), v = .int .i64 x ∧ x = 2 ^ k ∧ x < m ∧ 1 ≤ x ∧ wr = w) (fun v _ => m - (intOf v).toNat)
    case atStart => exact ⟨1, 0, rfl, rfl, by omega, by omega, rfl⟩
    case round =>
      obtain ⟨x, k, rfl, hx, hxm, hx1, rfl⟩ := hrel
      have HX := Lib.hid hx
      clear hx
      by_cases h : x < m - x
      · have h' : (x : Int) < (m : Int) - x := by omega
        go_wp2_with fail
        go_roundw
        case rel => exact ⟨x * 2, k + 1, by go_num, by rw [HX.out, Nat.pow_succ], by omega, by omega, trivial⟩
        case measure => simp [intOf]; omega
      · have h' : ¬ ((x : Int) < (m : Int) - x) := by omega
        have hs : split m = x := by rw [HX.out]; exact pow_two_of (by omega) (by rw [← HX.out]; exact hxm) (by rw [← HX.out]; omega)
        have HS := Lib.hid hs
        clear hs
        go_wp2_with fail
        go_ret
        exact ⟨by rw [HS.out]; rfl, rfl⟩

set_option maxHeartbeats 400000 in
theorem rlength_any (w : World) (i n : Int) (hn : n ≤ 9223372036854775807) :
    Calls Try.prog 25 #[.int .i64 i, .int .i64 n] w fun e w' => e = .returned (.int .i64 (lenI i n : Int)) ∧ w = w' := by
  by_cases h0 : i < 0
  · have hl : lenI i n = 0 := by unfold lenI; rw [if_neg (by omega)]
    rw [hl]
    clear hl hn
    go_enter Try.func25, Try.ntmps25
    go_wp2_with fail
    go_ret
    exact ⟨rfl, rfl⟩
  by_cases h1 : n ≤ i
  · have hl : lenI i n = 0 := by unfold lenI; rw [if_neg (by omega)]
    rw [hl]
    clear hl hn
    go_enter Try.func25, Try.ntmps25
    go_wp2_with fail
    go_ret
    exact ⟨rfl, rfl⟩
  · obtain ⟨a, rfl⟩ : ∃ a : Nat, i = (a : Int) := ⟨i.toNat, by omega⟩
    obtain ⟨m, rfl⟩ : ∃ m : Nat, n = (m : Int) := ⟨n.toNat, by omega⟩
    have ham : a < m := by omega
    have hl : lenI a m = len a m := by unfold lenI; rw [if_pos (by omega)]; simp
    rw [hl]
    have hlt := len_lt m a (by omega)
    generalize hgl : len a m = g at *
    have HG := Lib.hid hgl
    clear hl hgl
    go_enter Try.func25, Try.ntmps25
    go_wp2_with fail
    go_loopw [0, 1, 5] (fun vi vn vd wr => ∃ (x y d : Nat), vi = .int .i64 x ∧ vn = .int .i64 y ∧ vd = .int .i64 d ∧ x < y ∧ y ≤ m ∧ d + len x y = g ∧ wr = w) (fun _ vn _ _ => (intOf vn).toNat)
    case atStart => exact ⟨a, m, 0, rfl, rfl, rfl, ham, Nat.le_refl _, by rw [HG.out]; omega, rfl⟩
    case round =>
      obtain ⟨x, y, d, rfl, rfl, rfl, hxy, hym, hd, rfl⟩ := hrel
      have HD := Lib.hid hd
      have hdg : d ≤ g := by omega
      clear hd
      by_cases h1 : y ≤ 1
      · have hd := HD.out
        rw [len_one h1] at hd
        have hd : d = g := by omega
        subst hd
        go_wp2_with fail
        go_ret
        exact ⟨rfl, rfl⟩
      · have hsp := split_spec (n := y) (by omega)
        have HH := rsplit_any wr y (by omega)
        rw [show ((y : Int)).toNat = y from by omega] at HH
        by_cases hx : x < split y
        · have hd := HD.out
          rw [len_left (by omega) hx] at hd
          have HD2 := Lib.hid hd
          clear hd HD
          generalize split y = k at *
          have HH := Lib.hid HH
          go_wp2_with fail
          refine HH.out.mono ?_
          rintro e w' ⟨rfl, rfl⟩
          go_wp2_with fail
          go_roundw
          case rel => exact ⟨x, k, d + 1, rfl, rfl, by go_num, hx, by omega, by have := HD2.out; omega, trivial⟩
          case measure => simp [intOf]; omega
        · have hd := HD.out
          rw [len_right (by omega) hx] at hd
          have HD2 := Lib.hid hd
          clear hd HD
          generalize split y = k at *
          have HH := Lib.hid HH
          go_wp2_with fail
          refine HH.out.mono ?_
          rintro e w' ⟨rfl, rfl⟩
          go_wp2_with fail
          go_roundw
          case rel => exact ⟨x - k, y - k, d + 1, by go_num, by go_num, by go_num, by omega, by omega, by have := HD2.out; omega, trivial⟩
          case measure => simp [intOf]; omega

end Go.Proofs.Ytepdajhgfdjklaa.Mb
