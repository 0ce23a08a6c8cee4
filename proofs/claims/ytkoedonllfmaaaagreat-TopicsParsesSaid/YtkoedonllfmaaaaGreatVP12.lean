/-
  Contracts of layer 1's reader: numbers.
-/
import Derived.Test.YtkoedonllfmaaaaGreatVP11
namespace Go.Proofs.YtkoedonllfmaaaaGreat.Cf
set_option linter.unusedSimpArgs false
set_option linter.unusedVariables false
open Go Go.RowKit Ck Ca Cb Ce

theorem Sl_at {w : World} {X : Nat → Prop} {A : Option Addr} {n c : Nat} {l : List UInt8} (h : Sl w X 1 (.slice A n c) n (BVs l)) {k : Nat} (hk : k < l.length) : ∃ ad, A = some ad ∧ w.cell? (ad.add k) = some (.int .u8 (l[k].toNat : Int)) := by
  obtain ⟨A0, c0, hv, hl, hc, hm, hx⟩ := h
  injection hv with e1 e2 e3
  rw [BVs_len] at hl
  obtain ⟨ad, hA, hb, hX, hcell⟩ := hx (by omega)
  exact ⟨ad, e1.trans hA, hcell k _ (BVs_get hk)⟩

theorem or_shl (k acc x : Nat) (hacc : acc < 128 ^ k) (hx : x < 256) (hk : k ≤ 9) (h9 : k = 9 → x % 128 ≤ 1) :
    bits .or .u64 (acc : Int) (IntKind.u64.wrap (IntKind.u64.wrap (bits .and .u8 (x : Int) 127) * 2 ^ (7 * k))) = ((acc + x % 128 * 128 ^ k : Nat) : Int) := by
  have hp := Cm.pow_le k hk
  have h1 : bits .and .u8 (x : Int) 127 = ((x % 128 : Nat) : Int) := by
    rw [show (127 : Int) = ((127 : Nat) : Int) from rfl, u8_and_nat x 127 hx (by omega), nat_mask7]
  have hw : ∀ n : Nat, n < 18446744073709551616 → IntKind.u64.wrap (n : Int) = (n : Int) := by
    intro n hn
    simp [IntKind.wrap, IntKind.bits, IntKind.signed]
    omega
  have h2 : ((2 : Int) ^ (7 * k)) = ((128 ^ k : Nat) : Int) := by
    rw [Int.pow_mul]
    simp
  have hb : x % 128 * 128 ^ k < 18446744073709551616 := by
    by_cases hk9 : k = 9
    · have := h9 hk9
      have : x % 128 * 128 ^ k ≤ 1 * 128 ^ k := Nat.mul_le_mul_right _ this
      omega
    · have h8 : 128 ^ k ≤ 72057594037927936 := by
        have : k = 0 ∨ k = 1 ∨ k = 2 ∨ k = 3 ∨ k = 4 ∨ k = 5 ∨ k = 6 ∨ k = 7 ∨ k = 8 := by omega
        rcases this with rfl | rfl | rfl | rfl | rfl | rfl | rfl | rfl | rfl <;> decide
      have : x % 128 * 128 ^ k ≤ 127 * 128 ^ k := Nat.mul_le_mul_right _ (by omega)
      omega
  rw [h1, hw _ (by omega), h2, ← Int.natCast_mul, hw _ hb, u64_or_nat _ _ (by omega) hb, Nat.or_comm]
  have h7 : (2 : Nat) ^ (7 * k) = 128 ^ k := by rw [Nat.pow_mul]
  rw [nat_join (7 * k) (x % 128 * 128 ^ k) acc (by rw [h7]; exact Nat.mul_mod_left _ _) (by rw [h7]; exact hacc)]
  omega

theorem or_shl9 (acc x : Nat) (hacc : acc < 128 ^ 9) (hx : x ≤ 1) :
    bits .or .u64 (acc : Int) (IntKind.u64.wrap (IntKind.u64.wrap (bits .and .u8 (x : Int) 127) * 9223372036854775808)) = ((acc + x * 128 ^ 9 : Nat) : Int) := by
  have h := or_shl 9 acc x hacc (by omega) (by omega) (fun _ => by omega)
  rw [Nat.mod_eq_of_lt (by omega), show ((2 : Int) ^ (7 * 9)) = 9223372036854775808 from by decide] at h
  exact h
theorem pn_at {xs : List UInt8} {k : Nat} (h : k < xs.length) (acc : Nat) : Cm.pn (xs.drop k) k acc =
    if k = 9 ∧ 1 < xs[k].toNat then (0, 0, 11)
    else if 128 ≤ xs[k].toNat then Cm.pn (xs.drop (k + 1)) (k + 1) (acc + xs[k].toNat % 128 * 128 ^ k)
    else if xs[k].toNat = 0 ∧ 0 < k then (0, 0, 11)
    else (acc + xs[k].toNat * 128 ^ k, k + 1, 0) := by
  rw [List.drop_eq_getElem_cons h]
  rfl
theorem pow_step {acc x k : Nat} (h : acc < 128 ^ k) : acc + x % 128 * 128 ^ k < 128 ^ (k + 1) := by
  have h1 : x % 128 * 128 ^ k ≤ 127 * 128 ^ k := Nat.mul_le_mul_right _ (by omega)
  have h2 : 128 ^ (k + 1) = 128 ^ k * 128 := Nat.pow_succ 128 k
  omega

set_option maxRecDepth 100000 in
set_option maxHeartbeats 400000 in
theorem parse_any (w : World) (X : Nat → Prop) (A : Option Addr) (c : Nat) (xs : List UInt8) (h : Sl w X 1 (.slice A xs.length c) xs.length (BVs xs)) :
    Calls Tryz.prog 98 #[.slice A xs.length c] w fun e w' => e = .returned (.tuple #[.int .u64 (Cm.pn xs 0 0).1, .int .i64 (Cm.pn xs 0 0).2.1, .int .i64 (Cm.pn xs 0 0).2.2]) ∧ w = w' := by
  go_enter Tryz.func98, Tryz.ntmps98
  go_wp2
  go_loop [5, 10] (fun a i => ∃ k acc : Nat, k ≤ xs.length ∧ i = .int .i64 k ∧ a = .int .u64 acc ∧ acc < 128 ^ k ∧ k ≤ 9 ∧ Cm.pn xs 0 0 = Cm.pn (xs.drop k) k acc)
    (fun _ i => xs.length - (intOf i).toNat)
  case atStart => exact ⟨0, 0, Nat.zero_le _, rfl, rfl, by simp, by omega, by simp⟩
  case round =>
    obtain ⟨k, acc, hk, rfl, rfl, hacc, hk9, hpn⟩ := hrel
    have HP := Lib.hid hpn
    have HA := Lib.hid hacc
    clear hpn hacc
    by_cases hlt : k < xs.length
    · obtain ⟨ad, rfl, hcell⟩ := Sl_at h hlt
      have hb := xs[k].toNat_lt
      generalize hx : xs[k].toNat = x at *
      have hat := pn_at hlt acc
      rw [hx] at hat
      have HAT := Lib.hid hat
      clear hat
      have HX := Lib.hid hx
      clear hx
      by_cases h9 : k = 9 ∧ 1 < x
      · have e := HAT.out
        rw [if_pos h9, ← HP.out] at e
        have HE := Lib.hid e
        have hk9a : 9 ≤ k := by omega
        have hx1 : 1 < x := h9.2
        clear h9 e
        go_wp2
        go_ret3
        exact ⟨by rw [HE.out]; rfl, rfl⟩
      · by_cases hbig : 128 ≤ x
        · have hkn : k < 9 := by omega
          have e := HAT.out
          rw [if_neg h9, if_pos hbig, ← HP.out] at e
          have HE := Lib.hid e
          clear h9 e
          go_wp2
          go_round
          case rel => exact ⟨k + 1, acc + x % 128 * 128 ^ k, by omega, by go_num, by rw [or_shl k acc x HA.out (by omega) (by omega) (by omega)], pow_step HA.out, by omega, HE.out⟩
          case measure => simp [intOf]; omega
        · have hsm : x < 128 := by omega
          have e := HAT.out
          rw [if_neg h9, if_neg hbig, ← HP.out] at e
          have hv : ∀ h9' : k = 9 → x % 128 ≤ 1, _ := or_shl k acc x HA.out (by omega) (by omega)
          have hv' := hv (by omega)
          rw [Nat.mod_eq_of_lt hsm] at hv'
          have HV := Lib.hid hv'
          by_cases hz : x = 0 ∧ 0 < k
          · rw [if_pos hz] at e
            have HE := Lib.hid e
            have hz1 : x ≤ 0 := by omega
            have hz2 : 0 < k := hz.2
            clear hz e hbig hv hv'
            by_cases hk8 : k < 9
            · clear h9
              go_wp2
              go_ret3
              exact ⟨by rw [HE.out]; rfl, rfl⟩
            · have hk9a : 9 ≤ k := by omega
              clear h9 hk8
              go_wp2
              go_ret3
              exact ⟨by rw [HE.out]; rfl, rfl⟩
          · rw [if_neg hz] at e
            have HE := Lib.hid e
            have hz3 : 1 ≤ x ∨ (x ≤ 0 ∧ k ≤ 0) := by omega
            clear e hbig hv hv'
            by_cases hk8 : k < 9
            · clear h9
              rcases hz3 with hz3 | ⟨hz3, hz4⟩
              · clear hz
                go_wp2
                go_ret3
                exact ⟨by rw [HE.out, ← HV.out]; rfl, rfl⟩
              · clear hz
                obtain rfl : x = 0 := by omega
                go_wp2
                go_ret3
                exact ⟨by rw [HE.out, ← HV.out]; rfl, rfl⟩
            · have hk9a : 9 ≤ k := by omega
              have hx1 : x ≤ 1 := by omega
              have hx2 : 1 ≤ x := by omega
              clear h9 hk8 hz hz3 HV
              go_wp2
              go_ret3
              obtain rfl : k = 9 := by omega
              have hv9 := or_shl9 acc x HA.out hx1
              exact ⟨by rw [HE.out, ← hv9]; rfl, rfl⟩
    · have hke : xs.length ≤ k := by omega
      have e := HP.out
      rw [List.drop_eq_nil_of_le hke] at e
      have HE := Lib.hid e
      clear e
      go_wp2
      go_ret3
      exact ⟨by rw [HE.out]; rfl, rfl⟩

/-- A cut from k on, and a cut up to k, of a slice of bytes. -/
theorem slice_from (A : Option Addr) (n c k : Nat) (hk : k ≤ n) (hc : n ≤ c) : ∃ A', (∀ W : World, (Instr.slice 49 (.slice A n c) (some (.int .i64 (k : Int))) none none).run Tryz.prog W = .ok (.slice A' (n - k) (c - k)) W) ∧ (∀ ad, A = some ad → k < n → A' = some (ad.add (k * 1))) := by
  have he : ∀ W : World, (sizeOf (Tryz.prog.elem 49)).run Tryz.prog W = .ok 1 W := fun _ => by kernel_rfl
  refine ⟨if c = k then A else A.map (·.add (k * 1)), fun W => ?_, ?_⟩
  · rw [run_slice_l W 49 A n c (by kernel_rfl) .i64 k (by omega) (by omega), he]
    rfl
  · rintro ad rfl hlt
    rw [if_neg (by omega)]
    rfl
theorem slice_upto (A : Option Addr) (n c k : Nat) (hk : k ≤ c) (W : World) : (Instr.slice 49 (.slice A n c) none (some (.int .i64 (k : Int))) none).run Tryz.prog W = .ok (.slice A k c) W := by
  have he : ∀ W : World, (sizeOf (Tryz.prog.elem 49)).run Tryz.prog W = .ok 1 W := fun _ => by kernel_rfl
  rw [run_slice_h W 49 A n c (by kernel_rfl) .i64 k (by omega) (by omega), he]
  simp only [Result.andThen_ok, sliced, Int.toNat_natCast]
  congr 2
  by_cases h0 : c = 0
  · simp [h0]
  · cases A <;> simp [h0, Addr.add]

end Go.Proofs.YtkoedonllfmaaaaGreat.Cf
