import Derived.Test.YtjoonpkgepkkhaaGreatDoorQ1
import Derived.Lib.ItoaNum
import Derived.Lib.ParseIntB
import Derived.Test.YtjoonpkgepkkhaaGreatDoorRows
import Derived.Maps.OwnSet
import Derived.Maps.RangeWalk
/-
  Contracts of layer 1's reader.
-/
namespace Go.Proofs.YtjoonpkgepkkhaaGreatDoor.Ce
open Go Go.RowKit Ck Ca Cb

/-- The reader's block. -/
abbrev CB (w : World) (g : Nat) (v : Value) (err : Int) : Prop := Blk w g 155 #[.bool true, v, .int .i64 err]
abbrev P_ (g : Nat) : Value := .pointer (some ⟨g, 0, none⟩)

theorem err_blk (w : World) (g : Nat) (v : Value) (err : Int) (h : CB w g v err) :
    Calls Tryz.prog 85 #[P_ g] w fun e w' => e = .returned (.int .i64 err) ∧ w = w' := by
  have h0 := h.cell 0
  have h2 := h.cell 2
  simp only [List.getElem?_toArray, List.getElem?_cons_zero, List.getElem?_cons_succ] at h0 h2
  clear h
  go_enter Tryz.func85, Tryz.ntmps85
  go_wp2
  go_ret
  exact ⟨rfl, rfl⟩
theorem reads_ok (w : World) (g : Nat) (v : Value) (h : CB w g v 0) :
    Calls Tryz.prog 117 #[P_ g] w fun e w' => e = .returned (.bool true) ∧ w = w' := by
  go_enter Tryz.func117, Tryz.ntmps117
  go_wp2_with (go_at_call 85; refine (err_blk _ g v 0 h).mono ?_; rintro e w1 ⟨rfl, rfl⟩)
  go_ret
  exact ⟨rfl, rfl⟩
theorem reads_no (w : World) (g : Nat) (v : Value) (err : Int) (h : CB w g v err) (he : err ≠ 0) :
    Calls Tryz.prog 117 #[P_ g] w fun e w' => e = .returned (.bool false) ∧ w = w' := by
  have he1 : (err == 0) = false := by rw [beq_eq_false_iff_ne]; exact he
  go_enter Tryz.func117, Tryz.ntmps117
  go_wp2_with (go_at_call 85; refine (err_blk _ g v err h).mono ?_; rintro e w1 ⟨rfl, rfl⟩)
  go_ret
  exact ⟨rfl, rfl⟩

/-- A reader in memory: what is left lies in no block of X. -/
def CR (w : World) (X : Nat → Prop) (g : Nat) (s : Cm.RS) : Prop :=
  ∃ A n c, CB w g (.slice A n c) s.2 ∧ Sl w (fun k => k = g ∨ X k) 1 (.slice A n c) n (BVs s.1) ∧ Cm.Good s
theorem CR.keep {w w' : World} {X : Nat → Prop} {g : Nat} {s : Cm.RS} (h : CR w X g s) (hs : w.heap.size ≤ w'.heap.size) (hk : ∀ b, b < w.heap.size → ¬ X b → w'.heap[b]? = w.heap[b]?) (hg : ¬ X g) : CR w' X g s := by
  obtain ⟨A, n, c, hb, hsl, hgd⟩ := h
  exact ⟨A, n, c, (hk g hb.lt hg).trans hb, hsl.keep hs fun b hb hX => hk b hb fun hx => hX (.inr hx), hgd⟩
theorem CR.weaken {w : World} {X Y : Nat → Prop} {g : Nat} {s : Cm.RS} (h : CR w X g s) (hk : ∀ b, b < w.heap.size → Y b → X b) : CR w Y g s := by
  obtain ⟨A, n, c, hb, hsl, hgd⟩ := h
  exact ⟨A, n, c, hb, hsl.weaken fun b hb hy => by
    rcases hy with hy | hy
    · exact .inl hy
    · exact .inr (hk b hb hy), hgd⟩
theorem CR.grown {w w' : World} {X : Nat → Prop} {g : Nat} {s : Cm.RS} {row : Option Nat} (h : CR w X g s) (hg : w.grownBy w' row) (hne : some g ≠ row) (hr : ∀ k, row = some k → k < w.heap.size → X k) : CR w' X g s := by
  obtain ⟨A, n, c, hb, hsl, hgd⟩ := h
  exact ⟨A, n, c, Blk.grown hb hg hne, hsl.grown hg fun k hk hlt => .inr (hr k hk hlt), hgd⟩
theorem CR.after {w w' : World} {X : Nat → Prop} {g : Nat} {s : Cm.RS} (h : CR w X g s) (hb : Below w.heap.size w w') : CR w' X g s :=
  h.grown (grown_of_below hb none) (by simp) (by simp)
theorem CR.old {w : World} {X : Nat → Prop} {g : Nat} {s : Cm.RS} (h : CR w X g s) {B : Nat} (hB : w.heap.size ≤ B) : CR w (fun k => X k ∨ B ≤ k) g s := by
  obtain ⟨A, n, c, hb, hsl, hgd⟩ := h
  refine ⟨A, n, c, hb, (hsl.old hB).weaken fun b _ hy => ?_, hgd⟩
  rcases hy with hy | hy | hy
  · exact .inl (.inl hy)
  · exact .inl (.inr hy)
  · exact .inr hy
theorem CR.lt {w : World} {X : Nat → Prop} {g : Nat} {s : Cm.RS} (h : CR w X g s) : g < w.heap.size := by
  obtain ⟨A, n, c, hb, _⟩ := h
  exact hb.lt

theorem fail_end {w : World} {g : Nat} {v : Value} {e0 : Int} {X : Nat → Prop} (h : CB w g v 0) :
    w.grownBy ((w.setCell ⟨g, 2, none⟩ (.int .i64 e0)).setCell ⟨g, 1, none⟩ (.slice none 0 0)) (some g) ∧ CR ((w.setCell ⟨g, 2, none⟩ (.int .i64 e0)).setCell ⟨g, 1, none⟩ (.slice none 0 0)) X g ([], e0) := by
  have h1 := Blk.set_ h 2 (.int .i64 e0)
  have h2 := Blk.set_ h1 1 (.slice none 0 0)
  refine ⟨?_, none, 0, 0, h2, Sl.nil _ _ _, fun _ => rfl⟩
  have g1 := grown_setCell (World.grownBy.refl w (some g)) (p := ⟨g, 2, none⟩) (.inl rfl) (.int .i64 e0)
  exact grown_setCell g1 (p := ⟨g, 1, none⟩) (.inl rfl) (.slice none 0 0)

set_option maxHeartbeats 400000 in
theorem fail_any (w : World) (X : Nat → Prop) (g : Nat) (s : Cm.RS) (h : CR w X g s) (e0 : Int) :
    Calls Tryz.prog 119 #[P_ g, .int .i64 e0] w fun e w' => e = .returned (.tuple #[]) ∧ w.grownBy w' (some g) ∧ CR w' X g (Cm.failS s e0) := by
  have hcr := h
  obtain ⟨A, n, c, hb, hsl, hgd⟩ := h
  by_cases hs : s.2 = 0
  · have hb0 := hb
    rw [hs] at hb0
    by_cases he : e0 = 0
    · have hf : Cm.failS s e0 = s := by simp [Cm.failS, hs, he]
      rw [hf]
      subst he
      have HS := Lib.hid hs
      clear hs hf
      go_enter Tryz.func119, Tryz.ntmps119
      go_wp2_with (go_at_call 117; refine (reads_ok _ g _ hb0).mono ?_; rintro e w1 ⟨rfl, rfl⟩)
      go_end0
      exact ⟨rfl, World.grownBy.refl _ _, hcr⟩
    · have hf : Cm.failS s e0 = ([], e0) := by simp [Cm.failS, hs, he]
      rw [hf]
      have he1 : (e0 == 0) = false := by rw [beq_eq_false_iff_ne]; exact he
      have he2 : (e0 != 0) = true := by rw [bne, he1]; rfl
      have h1 := hb0.cell 1
      have h2 := hb0.cell 2
      have f1 := hb0.frozen 1
      have f2 := hb0.frozen 2
      simp only [List.getElem?_toArray, List.getElem?_cons_zero, List.getElem?_cons_succ] at h1 h2
      have HS := Lib.hid hs
      have HE := Lib.hid he
      clear hs hf he
      go_enter Tryz.func119, Tryz.ntmps119
      go_wp2_with (go_at_call 117; refine (reads_ok _ g _ hb0).mono ?_; rintro e w1 ⟨rfl, rfl⟩)
      go_end0
      exact ⟨rfl, fail_end hb0⟩
  · have hf : Cm.failS s e0 = s := by simp [Cm.failS, hs]
    rw [hf]
    have HS := Lib.hid hs
    clear hs hf
    go_enter Tryz.func119, Tryz.ntmps119
    go_wp2_with (go_at_call 117; refine (reads_no _ g _ _ hb HS.out).mono ?_; rintro e w1 ⟨rfl, rfl⟩)
    go_end0
    exact ⟨rfl, World.grownBy.refl _ _, hcr⟩

end Go.Proofs.YtjoonpkgepkkhaaGreatDoor.Ce

/-
  Contracts of layer 1's reader: numbers.
-/
namespace Go.Proofs.YtjoonpkgepkkhaaGreatDoor.Cf
open Go Go.RowKit Ck Ca Cb Ce

theorem Sl_at {w : World} {X : Nat → Prop} {A : Option Addr} {n c : Nat} {l : List UInt8} (h : Sl w X 1 (.slice A n c) n (BVs l)) {k : Nat} (hk : k < l.length) : ∃ ad, A = some ad ∧ w.cell? (ad.add k) = some (.int .u8 (l[k].toNat : Int)) := by
  obtain ⟨A0, c0, hv, hl, hc, hm, hx⟩ := h
  injection hv with e1 e2 e3
  rw [BVs_len] at hl
  obtain ⟨ad, hA, hb, hX, hcell⟩ := hx (by omega)
  exact ⟨ad, e1.trans hA, hcell k _ (BVs_get hk)⟩

theorem or_shl (k acc x : Nat) (hacc : acc < 128 ^ k) (hx : x < 256) (hk : k ≤ 9) (h9 : k = 9 → x % 128 ≤ 1) :
    bits .or .u64 (acc : Int) (IntKind.u64.wrap (IntKind.u64.wrap (bits .and .u8 (x : Int) 127) * 2 ^ (7 * k))) = ((acc + x % 128 * 128 ^ k : Nat) : Int) := by
  have hp := Cm.pow_le k hk
  have h1 : bits .and .u8 (x : Int) 127 = ((x % 128 : Nat) : Int) := by
    rw [show (127 : Int) = ((127 : Nat) : Int) from rfl, u8_and_nat x 127 hx (by omega), nat_mask7]
  have hw : ∀ n : Nat, n < 18446744073709551616 → IntKind.u64.wrap (n : Int) = (n : Int) := by
    intro n hn
    simp [IntKind.wrap, IntKind.bits, IntKind.signed]
    omega
  have h2 : ((2 : Int) ^ (7 * k)) = ((128 ^ k : Nat) : Int) := by
    rw [Int.pow_mul]
    simp
  have hb : x % 128 * 128 ^ k < 18446744073709551616 := by
    by_cases hk9 : k = 9
    · have := h9 hk9
      have : x % 128 * 128 ^ k ≤ 1 * 128 ^ k := Nat.mul_le_mul_right _ this
      omega
    · have h8 : 128 ^ k ≤ 72057594037927936 := by
        have : k = 0 ∨ k = 1 ∨ k = 2 ∨ k = 3 ∨ k = 4 ∨ k = 5 ∨ k = 6 ∨ k = 7 ∨ k = 8 := by omega
        rcases this with rfl | rfl | rfl | rfl | rfl | rfl | rfl | rfl | rfl <;> decide
      have : x % 128 * 128 ^ k ≤ 127 * 128 ^ k := Nat.mul_le_mul_right _ (by omega)
      omega
  rw [h1, hw _ (by omega), h2, ← Int.natCast_mul, hw _ hb, u64_or_nat _ _ (by omega) hb, Nat.or_comm]
  have h7 : (2 : Nat) ^ (7 * k) = 128 ^ k := by rw [Nat.pow_mul]
  rw [nat_join (7 * k) (x % 128 * 128 ^ k) acc (by rw [h7]; exact Nat.mul_mod_left _ _) (by rw [h7]; exact hacc)]
  omega

theorem or_shl9 (acc x : Nat) (hacc : acc < 128 ^ 9) (hx : x ≤ 1) :
    bits .or .u64 (acc : Int) (IntKind.u64.wrap (IntKind.u64.wrap (bits .and .u8 (x : Int) 127) * 9223372036854775808)) = ((acc + x * 128 ^ 9 : Nat) : Int) := by
  have h := or_shl 9 acc x hacc (by omega) (by omega) (fun _ => by omega)
  rw [Nat.mod_eq_of_lt (by omega), show ((2 : Int) ^ (7 * 9)) = 9223372036854775808 from by decide] at h
  exact h
theorem pn_at {xs : List UInt8} {k : Nat} (h : k < xs.length) (acc : Nat) : Cm.pn (xs.drop k) k acc =
    if k = 9 ∧ 1 < xs[k].toNat then (0, 0, 11)
    else if 128 ≤ xs[k].toNat then Cm.pn (xs.drop (k + 1)) (k + 1) (acc + xs[k].toNat % 128 * 128 ^ k)
    else if xs[k].toNat = 0 ∧ 0 < k then (0, 0, 11)
    else (acc + xs[k].toNat * 128 ^ k, k + 1, 0) := by
  rw [List.drop_eq_getElem_cons h]
  rfl
theorem pow_step {acc x k : Nat} (h : acc < 128 ^ k) : acc + x % 128 * 128 ^ k < 128 ^ (k + 1) := by
  have h1 : x % 128 * 128 ^ k ≤ 127 * 128 ^ k := Nat.mul_le_mul_right _ (by omega)
  have h2 : 128 ^ (k + 1) = 128 ^ k * 128 := Nat.pow_succ 128 k
  omega

set_option maxRecDepth 100000 in
set_option maxHeartbeats 400000 in
theorem parse_any (w : World) (X : Nat → Prop) (A : Option Addr) (c : Nat) (xs : List UInt8) (h : Sl w X 1 (.slice A xs.length c) xs.length (BVs xs)) :
    Calls Tryz.prog 118 #[.slice A xs.length c] w fun e w' => e = .returned (.tuple #[.int .u64 (Cm.pn xs 0 0).1, .int .i64 (Cm.pn xs 0 0).2.1, .int .i64 (Cm.pn xs 0 0).2.2]) ∧ w = w' := by
  go_enter Tryz.func118, Tryz.ntmps118
  go_wp2
  go_loop [5, 10] (fun a i => ∃ k acc : Nat, k ≤ xs.length ∧ i = .int .i64 k ∧ a = .int .u64 acc ∧ acc < 128 ^ k ∧ k ≤ 9 ∧ Cm.pn xs 0 0 = Cm.pn (xs.drop k) k acc)
    (fun _ i => xs.length - (intOf i).toNat)
  case atStart => exact ⟨0, 0, Nat.zero_le _, rfl, rfl, by simp, by omega, by simp⟩
  case round =>
    obtain ⟨k, acc, hk, rfl, rfl, hacc, hk9, hpn⟩ := hrel
    have HP := Lib.hid hpn
    have HA := Lib.hid hacc
    clear hpn hacc
    by_cases hlt : k < xs.length
    · obtain ⟨ad, rfl, hcell⟩ := Sl_at h hlt
      have hb := xs[k].toNat_lt
      generalize hx : xs[k].toNat = x at *
      have hat := pn_at hlt acc
      rw [hx] at hat
      have HAT := Lib.hid hat
      clear hat
      have HX := Lib.hid hx
      clear hx
      by_cases h9 : k = 9 ∧ 1 < x
      · have e := HAT.out
        rw [if_pos h9, ← HP.out] at e
        have HE := Lib.hid e
        have hk9a : 9 ≤ k := by omega
        have hx1 : 1 < x := h9.2
        clear h9 e
        go_wp2
        go_ret3
        exact ⟨by rw [HE.out]; rfl, rfl⟩
      · by_cases hbig : 128 ≤ x
        · have hkn : k < 9 := by omega
          have e := HAT.out
          rw [if_neg h9, if_pos hbig, ← HP.out] at e
          have HE := Lib.hid e
          clear h9 e
          go_wp2
          go_round
          case rel => exact ⟨k + 1, acc + x % 128 * 128 ^ k, by omega, by go_num, by rw [or_shl k acc x HA.out (by omega) (by omega) (by omega)], pow_step HA.out, by omega, HE.out⟩
          case measure => simp [intOf]; omega
        · have hsm : x < 128 := by omega
          have e := HAT.out
          rw [if_neg h9, if_neg hbig, ← HP.out] at e
          have hv : ∀ h9' : k = 9 → x % 128 ≤ 1, _ := or_shl k acc x HA.out (by omega) (by omega)
          have hv' := hv (by omega)
          rw [Nat.mod_eq_of_lt hsm] at hv'
          have HV := Lib.hid hv'
          by_cases hz : x = 0 ∧ 0 < k
          · rw [if_pos hz] at e
            have HE := Lib.hid e
            have hz1 : x ≤ 0 := by omega
            have hz2 : 0 < k := hz.2
            clear hz e hbig hv hv'
            by_cases hk8 : k < 9
            · clear h9
              go_wp2
              go_ret3
              exact ⟨by rw [HE.out]; rfl, rfl⟩
            · have hk9a : 9 ≤ k := by omega
              clear h9 hk8
              go_wp2
              go_ret3
              exact ⟨by rw [HE.out]; rfl, rfl⟩
          · rw [if_neg hz] at e
            have HE := Lib.hid e
            have hz3 : 1 ≤ x ∨ (x ≤ 0 ∧ k ≤ 0) := by omega
            clear e hbig hv hv'
            by_cases hk8 : k < 9
            · clear h9
              rcases hz3 with hz3 | ⟨hz3, hz4⟩
              · clear hz
                go_wp2
                go_ret3
                exact ⟨by rw [HE.out, ← HV.out]; rfl, rfl⟩
              · clear hz
                obtain rfl : x = 0 := by omega
                go_wp2
                go_ret3
                exact ⟨by rw [HE.out, ← HV.out]; rfl, rfl⟩
            · have hk9a : 9 ≤ k := by omega
              have hx1 : x ≤ 1 := by omega
              have hx2 : 1 ≤ x := by omega
              clear h9 hk8 hz hz3 HV
              go_wp2
              go_ret3
              obtain rfl : k = 9 := by omega
              have hv9 := or_shl9 acc x HA.out hx1
              exact ⟨by rw [HE.out, ← hv9]; rfl, rfl⟩
    · have hke : xs.length ≤ k := by omega
      have e := HP.out
      rw [List.drop_eq_nil_of_le hke] at e
      have HE := Lib.hid e
      clear e
      go_wp2
      go_ret3
      exact ⟨by rw [HE.out]; rfl, rfl⟩

/-- A cut from k on, and a cut up to k, of a slice of bytes. -/
theorem slice_from (A : Option Addr) (n c k : Nat) (hk : k ≤ n) (hc : n ≤ c) : ∃ A', (∀ W : World, (Instr.slice 22 (.slice A n c) (some (.int .i64 (k : Int))) none none).run Tryz.prog W = .ok (.slice A' (n - k) (c - k)) W) ∧ (∀ ad, A = some ad → k < n → A' = some (ad.add (k * 1))) := by
  have he : ∀ W : World, (sizeOf (Tryz.prog.elem 22)).run Tryz.prog W = .ok 1 W := fun _ => by kernel_rfl
  refine ⟨if c = k then A else A.map (·.add (k * 1)), fun W => ?_, ?_⟩
  · rw [run_slice_l W 22 A n c (by kernel_rfl) .i64 k (by omega) (by omega), he]
    rfl
  · rintro ad rfl hlt
    rw [if_neg (by omega)]
    rfl
theorem slice_upto (A : Option Addr) (n c k : Nat) (hk : k ≤ c) (W : World) : (Instr.slice 22 (.slice A n c) none (some (.int .i64 (k : Int))) none).run Tryz.prog W = .ok (.slice A k c) W := by
  have he : ∀ W : World, (sizeOf (Tryz.prog.elem 22)).run Tryz.prog W = .ok 1 W := fun _ => by kernel_rfl
  rw [run_slice_h W 22 A n c (by kernel_rfl) .i64 k (by omega) (by omega), he]
  simp only [Result.andThen_ok, sliced, Int.toNat_natCast]
  congr 2
  by_cases h0 : c = 0
  · simp [h0]
  · cases A <;> simp [h0, Addr.add]

end Go.Proofs.YtjoonpkgepkkhaaGreatDoor.Cf

/-
  Plain mathematics of layer 4 (wal): the sum (CRC-32) as a map on numbers, and why a burst of at most 32 bits shows. No program is named here.
-/
namespace Go.Proofs.YtjoonpkgepkkhaaGreatDoor.Wc

/-- One bit further. -/
def T (r : Nat) : Nat := if r % 2 = 1 then (r / 2) ^^^ 3988292384 else r / 2
/-- So many bits further. -/
def Tn : Nat → Nat → Nat
  | 0, r => r
  | k + 1, r => Tn k (T r)
/-- The remainder behind some bytes. -/
def crc : List UInt8 → Nat → Nat
  | [], r => r
  | c :: l, r => crc l (Tn 8 (r ^^^ c.toNat))
def ones : Nat := 4294967295
/-- The sum of some bytes. -/
def sum (l : List UInt8) : Nat := ones ^^^ crc l ones
/-- A sum as it stands behind its bytes. -/
def le4 (s : Nat) : List UInt8 := [UInt8.ofNat (s % 256), UInt8.ofNat (s / 256 % 256), UInt8.ofNat (s / 65536 % 256), UInt8.ofNat (s / 16777216 % 256)]

theorem xor_half (a b : Nat) : (a ^^^ b) / 2 = (a / 2) ^^^ (b / 2) := by
  have := Nat.xor_div_two_pow (a := a) (b := b) (n := 1)
  simpa using this
theorem xor_two (a b : Nat) : (a ^^^ b) % 2 = (a % 2 + b % 2) % 2 := by
  have h := Nat.xor_mod_two_pow (a := a) (b := b) (n := 1)
  rw [Nat.pow_one] at h
  rw [h]
  rcases Nat.mod_two_eq_zero_or_one a with ha | ha <;> rcases Nat.mod_two_eq_zero_or_one b with hb | hb <;> rw [ha, hb] <;> rfl
theorem xor_lt {a b : Nat} (ha : a < 4294967296) (hb : b < 4294967296) : a ^^^ b < 4294967296 := Nat.xor_lt_two_pow (n := 32) ha hb
theorem T_xor (a b : Nat) : T (a ^^^ b) = T a ^^^ T b := by
  unfold T
  rw [xor_half, xor_two]
  have hc : ∀ x y p : Nat, (x ^^^ p) ^^^ y = (x ^^^ y) ^^^ p := fun x y p => by rw [Nat.xor_assoc, Nat.xor_comm p y, Nat.xor_assoc]
  rcases Nat.mod_two_eq_zero_or_one a with ha | ha <;> rcases Nat.mod_two_eq_zero_or_one b with hb | hb <;> simp only [ha, hb]
  · rfl
  · show (a / 2 ^^^ b / 2) ^^^ 3988292384 = a / 2 ^^^ (b / 2 ^^^ 3988292384)
    rw [Nat.xor_assoc]
  · show (a / 2 ^^^ b / 2) ^^^ 3988292384 = (a / 2 ^^^ 3988292384) ^^^ (b / 2)
    rw [hc]
  · show a / 2 ^^^ b / 2 = (a / 2 ^^^ 3988292384) ^^^ (b / 2 ^^^ 3988292384)
    rw [hc, Nat.xor_assoc, Nat.xor_assoc, Nat.xor_self, Nat.xor_zero]
theorem Tn_xor : ∀ (k a b : Nat), Tn k (a ^^^ b) = Tn k a ^^^ Tn k b
  | 0, _, _ => rfl
  | k + 1, a, b => by rw [Tn, T_xor, Tn_xor k]; rfl
theorem T_lt {r : Nat} (h : r < 4294967296) : T r < 4294967296 := by
  unfold T
  split
  · exact xor_lt (by omega) (by omega)
  · omega
theorem Tn_lt : ∀ (k : Nat) {r : Nat}, r < 4294967296 → Tn k r < 4294967296
  | 0, _, h => h
  | k + 1, _, h => Tn_lt k (T_lt h)
theorem Tn_add : ∀ (i j r : Nat), Tn (i + j) r = Tn j (Tn i r)
  | 0, j, r => by rw [Nat.zero_add]; rfl
  | i + 1, j, r => by rw [Nat.succ_add]; exact Tn_add i j (T r)
theorem xor_zero_iff {a b : Nat} (h : a ^^^ b = 0) : a = b := by
  have h2 : a ^^^ b ^^^ b = 0 ^^^ b := by rw [h]
  rwa [Nat.xor_assoc, Nat.xor_self, Nat.xor_zero, Nat.zero_xor] at h2
theorem T_zero {r : Nat} (h : r < 4294967296) (h0 : T r = 0) : r = 0 := by
  unfold T at h0
  split at h0
  · have := xor_zero_iff h0
    omega
  · omega
theorem Tn_zero : ∀ (k : Nat) {r : Nat}, r < 4294967296 → Tn k r = 0 → r = 0
  | 0, _, _, h => h
  | k + 1, _, h, h0 => T_zero h (Tn_zero k (T_lt h) h0)
theorem Tn_inj {k a b : Nat} (ha : a < 4294967296) (hb : b < 4294967296) (h : Tn k a = Tn k b) : a = b :=
  xor_zero_iff (Tn_zero k (xor_lt ha hb) (by rw [Tn_xor, h, Nat.xor_self]))
theorem byte_lt (c : UInt8) : c.toNat < 4294967296 := by have := c.toNat_lt; omega
theorem crc_lt : ∀ (l : List UInt8) {r : Nat}, r < 4294967296 → crc l r < 4294967296
  | [], _, h => h
  | _ :: l, _, h => crc_lt l (Tn_lt 8 (xor_lt h (byte_lt _)))
theorem crc_app : ∀ (l m : List UInt8) (r : Nat), crc (l ++ m) r = crc m (crc l r)
  | [], _, _ => rfl
  | _ :: l, m, _ => crc_app l m _
theorem crc_xor : ∀ (l : List UInt8) (r e : Nat), crc l (r ^^^ e) = crc l r ^^^ Tn (8 * l.length) e
  | [], r, e => rfl
  | c :: l, r, e => by
    rw [crc, crc, show r ^^^ e ^^^ c.toNat = (r ^^^ c.toNat) ^^^ e by rw [Nat.xor_assoc, Nat.xor_comm e, Nat.xor_assoc], Tn_xor, crc_xor l, List.length_cons, show 8 * (l.length + 1) = 8 + 8 * l.length by omega, Tn_add]

/-- A bit on its way down. -/
theorem T_even (r : Nat) : T (2 * r) = r := by unfold T; rw [if_neg (by omega)]; omega
theorem Tn_pow : ∀ (i v : Nat), Tn i (2 ^ i * v) = v
  | 0, v => by simp [Tn]
  | i + 1, v => by rw [Tn, Nat.pow_succ, show 2 ^ i * 2 * v = 2 * (2 ^ i * v) by rw [Nat.mul_comm (2 ^ i) 2, Nat.mul_assoc], T_even]; exact Tn_pow i v

/-- A bit of some bytes is another one. -/
def flip (l : List UInt8) (k : Nat) : List UInt8 := l.modify (k / 8) (fun c => c ^^^ UInt8.ofNat (2 ^ (k % 8)))
theorem flip_len (l : List UInt8) (k : Nat) : (flip l k).length = l.length := by simp [flip]
theorem flip_cons_lo (c : UInt8) (l : List UInt8) {k : Nat} (h : k < 8) : flip (c :: l) k = (c ^^^ UInt8.ofNat (2 ^ k)) :: l := by
  unfold flip
  rw [Nat.div_eq_of_lt h, Nat.mod_eq_of_lt h]
  rfl
theorem flip_cons_hi (c : UInt8) (l : List UInt8) (k : Nat) : flip (c :: l) (k + 8) = c :: flip l k := by
  unfold flip
  rw [show (k + 8) / 8 = k / 8 + 1 by omega, show (k + 8) % 8 = k % 8 by omega]
  rfl
theorem pow_lt {k : Nat} (h : k < 8) : 2 ^ k < 256 := Nat.pow_lt_pow_right (by omega) h
theorem crc_flip : ∀ (l : List UInt8) (k r : Nat), k < 8 * l.length → crc (flip l k) r = crc l r ^^^ Tn (8 * l.length - k) 1
  | [], k, r, h => absurd h (by simp)
  | c :: l, k, r, h => by
    by_cases hk : k < 8
    · rw [flip_cons_lo c l hk, crc, crc, UInt8.toNat_xor, Cm.toNat_ofNat (pow_lt hk), ← Nat.xor_assoc, Tn_xor, crc_xor, List.length_cons]
      congr 1
      rw [show 8 * (l.length + 1) - k = (8 - k) + 8 * l.length by omega, Tn_add]
      congr 1
      have h1 := Tn_pow k 1
      rw [Nat.mul_one] at h1
      rw [show Tn 8 (2 ^ k) = Tn (k + (8 - k)) (2 ^ k) by rw [show k + (8 - k) = 8 by omega], Tn_add, h1]
    · obtain ⟨j, rfl⟩ : ∃ j, k = j + 8 := ⟨k - 8, by omega⟩
      rw [List.length_cons] at h
      rw [flip_cons_hi, crc, crc, crc_flip l j _ (by omega), List.length_cons]
      congr 2
      omega

/-- The first i bits of a burst, so many at the most. -/
def burst (l : List UInt8) (first many bits : Nat) : Nat → List UInt8
  | 0 => l
  | i + 1 => if first + i < many ∧ bits / 2 ^ i % 2 = 1 then flip (burst l first many bits i) (first + i) else burst l first many bits i
/-- What they are, as a number. -/
def mask (first many bits : Nat) : Nat → Nat
  | 0 => 0
  | i + 1 => if first + i < many ∧ bits / 2 ^ i % 2 = 1 then mask first many bits i ^^^ 2 ^ i else mask first many bits i
theorem burst_len (l : List UInt8) (first many bits : Nat) : ∀ i, (burst l first many bits i).length = l.length
  | 0 => rfl
  | i + 1 => by
    rw [burst]
    split
    · rw [flip_len, burst_len l first many bits i]
    · exact burst_len l first many bits i
theorem mask_lt (first many bits : Nat) : ∀ i, mask first many bits i < 2 ^ i
  | 0 => by simp [mask]
  | i + 1 => by
    have ih := mask_lt first many bits i
    have h2 : 2 ^ i < 2 ^ (i + 1) := Nat.pow_lt_pow_right (by omega) (by omega)
    rw [mask]
    split
    · exact Nat.xor_lt_two_pow (by omega) h2
    · omega
theorem crc_burst {l : List UInt8} {first many bits r : Nat} (hm : many = 8 * l.length) (hf : first < many) : ∀ i, i ≤ 32 → crc (burst l first many bits i) r = crc l r ^^^ Tn (many - first) (mask first many bits i)
  | 0, _ => by
    rw [burst, mask, show Tn (many - first) 0 = 0 from ?_, Nat.xor_zero]
    induction (many - first) with
    | zero => rfl
    | succ k ih => exact ih
  | i + 1, hi => by
    have ih := crc_burst (bits := bits) (r := r) hm hf i (by omega)
    rw [burst, mask]
    split
    · rename_i h
      rw [crc_flip _ _ _ (by rw [burst_len]; omega), ih, Tn_xor, Nat.xor_assoc, burst_len, ← hm]
      congr 2
      rw [show many - first = i + (many - (first + i)) by omega, Tn_add]
      have h1 := Tn_pow i 1
      rw [Nat.mul_one] at h1
      rw [h1]
    · exact ih
theorem crc_turned {l : List UInt8} {first many bits r : Nat} (hm : many = 8 * l.length) (hf : first < many) (h : crc (burst l first many bits 32) r = crc l r) : mask first many bits 32 = 0 := by
  rw [crc_burst hm hf 32 (Nat.le_refl _)] at h
  have h0 : Tn (many - first) (mask first many bits 32) = 0 := by
    have : crc l r ^^^ (crc l r ^^^ Tn (many - first) (mask first many bits 32)) = crc l r ^^^ crc l r := by rw [h]
    rwa [← Nat.xor_assoc, Nat.xor_self, Nat.zero_xor] at this
  exact Tn_zero _ (mask_lt first many bits 32) h0

/-- A number's lowest byte, and the rest. -/
theorem xor_low (s : Nat) : s ^^^ (s % 256) = 2 ^ 8 * (s / 256) := by
  have h1 := Nat.xor_div_two_pow (a := s) (b := s % 256) (n := 8)
  have h2 := Nat.xor_mod_two_pow (a := s) (b := s % 256) (n := 8)
  have e1 : s % 256 / 2 ^ 8 = 0 := by omega
  have e2 : s % 256 % 2 ^ 8 = s % 2 ^ 8 := by omega
  rw [e1, Nat.xor_zero] at h1
  rw [e2, Nat.xor_self] at h2
  have e3 : (2 : Nat) ^ 8 = 256 := rfl
  rw [e3] at h1 h2 ⊢
  omega
theorem Tn_low (s r : Nat) : Tn 8 (r ^^^ s % 256) ^^^ s / 256 = Tn 8 (r ^^^ s) := by
  have h : r ^^^ s = (r ^^^ s % 256) ^^^ 2 ^ 8 * (s / 256) := by rw [← xor_low, Nat.xor_assoc, ← Nat.xor_assoc (s % 256), Nat.xor_comm (s % 256) s, Nat.xor_assoc s, Nat.xor_self, Nat.xor_zero]
  rw [h, Tn_xor 8 (r ^^^ s % 256) (2 ^ 8 * (s / 256)), Tn_pow]
/-- Four bytes, as one number. -/
theorem crc_le4 {s r : Nat} (hs : s < 4294967296) : crc (le4 s) r = Tn 32 (r ^^^ s) := by
  simp only [le4, crc]
  rw [Cm.toNat_ofNat (by omega), Cm.toNat_ofNat (by omega), Cm.toNat_ofNat (by omega), Cm.toNat_ofNat (by omega)]
  have e1 := Tn_low s r
  have e2 := Tn_low (s / 256) (Tn 8 (r ^^^ s % 256))
  have e3 := Tn_low (s / 65536) (Tn 8 (Tn 8 (r ^^^ s % 256) ^^^ s / 256 % 256))
  rw [show s / 65536 / 256 = s / 16777216 by omega] at e3
  rw [show s / 256 / 256 = s / 65536 by omega] at e2
  rw [show s / 16777216 % 256 = s / 16777216 by omega, e3, e2, e1]
  rw [show (32 : Nat) = 8 + 8 + 8 + 8 from rfl, Tn_add, Tn_add, Tn_add]
theorem le4_len (s : Nat) : (le4 s).length = 4 := rfl
theorem sum_lt (l : List UInt8) : sum l < 4294967296 := xor_lt (by decide) (crc_lt l (by decide))
/-- Bytes and their sum leave one remainder, and no other sum does. -/
theorem crc_sum (l : List UInt8) : crc (l ++ le4 (sum l)) ones = Tn 32 ones := by
  rw [crc_app, crc_le4 (sum_lt l)]
  congr 1
  unfold sum
  rw [Nat.xor_comm ones, ← Nat.xor_assoc, Nat.xor_self, Nat.zero_xor]
theorem sum_of {l : List UInt8} {s : Nat} (hs : s < 4294967296) (h : crc (l ++ le4 s) ones = Tn 32 ones) : s = sum l := by
  rw [crc_app, crc_le4 hs] at h
  have h1 := Tn_inj (xor_lt (crc_lt l (by decide)) hs) (by decide) h
  unfold sum
  have h2 : crc l ones ^^^ (crc l ones ^^^ s) = crc l ones ^^^ ones := by rw [h1]
  rwa [← Nat.xor_assoc, Nat.xor_self, Nat.zero_xor, Nat.xor_comm] at h2
/-- Any four bytes are a sum's. -/
theorem le4_of (l : List UInt8) (h : l.length = 4) : ∃ s, s < 4294967296 ∧ l = le4 s := by
  match l, h with
  | [a, b, c, d], _ =>
    have ha := a.toNat_lt
    have hb := b.toNat_lt
    have hc := c.toNat_lt
    have hd := d.toNat_lt
    refine ⟨a.toNat + 256 * b.toNat + 65536 * c.toNat + 16777216 * d.toNat, by omega, ?_⟩
    unfold le4
    have e1 : (a.toNat + 256 * b.toNat + 65536 * c.toNat + 16777216 * d.toNat) % 256 = a.toNat := by omega
    have e2 : (a.toNat + 256 * b.toNat + 65536 * c.toNat + 16777216 * d.toNat) / 256 % 256 = b.toNat := by omega
    have e3 : (a.toNat + 256 * b.toNat + 65536 * c.toNat + 16777216 * d.toNat) / 65536 % 256 = c.toNat := by omega
    have e4 : (a.toNat + 256 * b.toNat + 65536 * c.toNat + 16777216 * d.toNat) / 16777216 % 256 = d.toNat := by omega
    rw [e1, e2, e3, e4]
    simp
theorem le4_inj {s t : Nat} (hs : s < 4294967296) (ht : t < 4294967296) (h : le4 s = le4 t) : s = t := by
  simp only [le4, List.cons.injEq, and_true] at h
  obtain ⟨h1, h2, h3, h4⟩ := h
  have g := fun {a b : Nat} (h : UInt8.ofNat a = UInt8.ofNat b) (ha : a < 256) (hb : b < 256) => show a = b by rw [← Cm.toNat_ofNat ha, ← Cm.toNat_ofNat hb, h]
  have := g h1 (by omega) (by omega)
  have := g h2 (by omega) (by omega)
  have := g h3 (by omega) (by omega)
  have := g h4 (by omega) (by omega)
  omega

theorem burst_same {l : List UInt8} {first many bits : Nat} : ∀ {i}, mask first many bits i = 0 → burst l first many bits i = l
  | 0, _ => rfl
  | i + 1, h => by
    rw [mask] at h
    rw [burst]
    split at h
    · rename_i hc
      have h1 := xor_zero_iff h
      have h2 := mask_lt first many bits i
      omega
    · rename_i hc
      rw [if_neg hc]
      exact burst_same h
theorem mask_step {first many bits i : Nat} : decide (mask first many bits (i + 1) ≠ 0) = (decide (mask first many bits i ≠ 0) || decide (first + i < many ∧ bits / 2 ^ i % 2 = 1)) := by
  rw [mask]
  split
  · rename_i hc
    have h2 := mask_lt first many bits i
    have h3 : mask first many bits i ^^^ 2 ^ i ≠ 0 := fun h => by
      have h1 := xor_zero_iff h
      omega
    simp [h3, hc]
  · rename_i hc
    simp [hc]

end Go.Proofs.YtjoonpkgepkkhaaGreatDoor.Wc

/-
  Plain mathematics of layer 4 (wal): frames, what bytes begin with, a file's records. No program is named here.
-/
namespace Go.Proofs.YtjoonpkgepkkhaaGreatDoor.Wf
open Cm Wc

abbrev Bs := List UInt8
/-- A record's frame. -/
def frame (x : Bs) : Bs := encB x ++ le4 (sum (encB x))
def frames : List Bs → Bs
  | [] => []
  | x :: l => frame x ++ frames l
/-- Bytes that begin with a record's frame. -/
def Fr (b x r : Bs) : Prop := b = frame x ++ r ∧ x.length ≤ 524288
/-- All the whole frames with which bytes begin, and what stands behind. -/
def Frs (b : Bs) (xs : List Bs) (r : Bs) : Prop := b = frames xs ++ r ∧ (∀ x ∈ xs, x.length ≤ 524288) ∧ ∀ x t, ¬ Fr r x t

theorem enc_len3 {n : Nat} (h : n ≤ 524288) : (enc n).length ≤ 3 := by
  by_cases h1 : n < 128
  · rw [enc_small h1]; simp
  · rw [enc_big (by omega) (by omega)]
    by_cases h2 : n / 128 < 128
    · rw [enc_small h2]; simp
    · rw [enc_big (by omega) (by omega), enc_small (by omega)]; simp
theorem frame_len (x : Bs) : (frame x).length = (enc x.length).length + x.length + 4 := by simp [frame, encB, le4_len]; omega
theorem frame_pos (x : Bs) : 5 ≤ (frame x).length := by
  rw [frame_len]
  have := (enc_len x.length).2
  omega
theorem frame_ne (x : Bs) : frame x ≠ [] := fun h => by
  have := frame_pos x
  rw [h] at this
  simp at this
theorem frames_app : ∀ (l m : List Bs), frames (l ++ m) = frames l ++ frames m
  | [], _ => rfl
  | x :: l, m => by rw [List.cons_append, frames, frames, frames_app l m, List.append_assoc]
theorem frames_one (x : Bs) : frames [x] = frame x := by simp [frames]
theorem frames_snoc (l : List Bs) (x : Bs) : frames (l ++ [x]) = frames l ++ frame x := by rw [frames_app, frames_one]
theorem frames_len : ∀ (l : List Bs), 5 * l.length ≤ (frames l).length
  | [] => by simp [frames]
  | x :: l => by
    have := frames_len l
    have := frame_pos x
    simp only [frames, List.length_cons, List.length_append]
    omega
/-- The length of bytes' first record, as it is read. -/
theorem num_fr {b x r : Bs} (h : Fr b x r) : numS (b, 0) 524288 = (x.length, (x ++ le4 (sum (encB x)) ++ r, 0)) := by
  obtain ⟨rfl, hx⟩ := h
  unfold frame encB
  rw [List.append_assoc, List.append_assoc, List.append_assoc, numS_enc (by omega) hx]
/-- No more than three bytes are looked at. -/
theorem num_cut (b : Bs) : (numS (b.take 3, 0) 524288).1 = (numS (b, 0) 524288).1 ∧ ((numS (b.take 3, 0) 524288).2.2 = 0 ↔ (numS (b, 0) 524288).2.2 = 0) := by
  by_cases h : (numS (b, 0) 524288).2.2 = 0
  · obtain ⟨_, h2, h3, h4⟩ := numS_ok h
    obtain ⟨v, j, hp⟩ : ∃ v j, pn b 0 0 = (v, j, 0) := ⟨_, _, by rw [← h2]⟩
    have h1 := pn_one0 hp
    rw [hp] at h3
    have hb : b = enc v ++ b.drop j := by rw [← h1.1, List.take_append_drop]
    have hl := enc_len3 (n := v) h3
    have h5 : b.take 3 = enc v ++ (b.drop j).take (3 - (enc v).length) := by
      conv => lhs; rw [hb]
      rw [List.take_append, List.take_of_length_le hl]
    rw [h5, numS_enc (by omega) h3]
    rw [hb, numS_enc (by omega) h3]
    simp
  · have h' : (numS (b.take 3, 0) 524288).2.2 ≠ 0 := fun hc => by
      obtain ⟨_, h2, h3, h4⟩ := numS_ok hc
      obtain ⟨v, j, hp⟩ : ∃ v j, pn (b.take 3) 0 0 = (v, j, 0) := ⟨_, _, by rw [← h2]⟩
      have h1 := pn_one0 hp
      rw [hp] at h3
      have hb : b = enc v ++ ((b.take 3).drop j ++ b.drop 3) := by rw [← List.append_assoc, ← h1.1, List.take_append_drop, List.take_append_drop]
      rw [hb, numS_enc (by omega) h3] at h
      exact h rfl
    have hz : ∀ c : Bs, (numS (c, 0) 524288).2.2 ≠ 0 → (numS (c, 0) 524288).1 = 0 := fun c hc => by
      unfold numS at hc ⊢
      split
      · rfl
      · split
        · rfl
        · split
          · rfl
          · rename_i a1 a2 a3
            rw [if_neg a1, if_neg a2, if_neg a3] at hc
            exact absurd rfl hc
    exact ⟨by rw [hz _ h, hz _ h'], ⟨fun a => absurd a h', fun a => absurd a h⟩⟩
/-- What bytes with such a length are. -/
theorem fr_iff {b : Bs} : (∃ x r, Fr b x r) ↔ (numS (b, 0) 524288).2.2 = 0 ∧ (enc (numS (b, 0) 524288).1).length + (numS (b, 0) 524288).1 + 4 ≤ b.length ∧
    le4 (sum (b.take ((enc (numS (b, 0) 524288).1).length + (numS (b, 0) 524288).1))) = (b.drop ((enc (numS (b, 0) 524288).1).length + (numS (b, 0) 524288).1)).take 4 := by
  constructor
  · rintro ⟨x, r, h⟩
    rw [num_fr h]
    obtain ⟨rfl, hx⟩ := h
    have hl : (encB x).length = (enc x.length).length + x.length := by simp [encB]
    refine ⟨rfl, by dsimp only; rw [List.length_append, frame_len]; omega, ?_⟩
    show le4 (sum ((frame x ++ r).take ((enc x.length).length + x.length))) = ((frame x ++ r).drop ((enc x.length).length + x.length)).take 4
    unfold frame
    rw [← hl, List.append_assoc, List.take_left, List.drop_left, List.take_append, List.take_of_length_le (by rw [le4_len]; exact Nat.le_refl _), le4_len]
    simp
  · rintro ⟨h1, h2, h3⟩
    obtain ⟨_, h4, h5, h6⟩ := numS_ok h1
    obtain ⟨v, j, hp⟩ : ∃ v j, pn b 0 0 = (v, j, 0) := ⟨_, _, by rw [← h4]⟩
    have h7 := pn_one0 hp
    rw [h6] at h2 h3
    simp only [hp] at h2 h3 h5
    have hj : j = (enc v).length := by
      have := congrArg List.length h7.1
      rw [List.length_take] at this
      omega
    have hb : b = enc v ++ b.drop j := by rw [← h7.1, List.take_append_drop]
    have hdl : (b.drop j).length = b.length - j := List.length_drop
    refine ⟨(b.drop j).take v, b.drop (j + v + 4), ?_, by rw [List.length_take]; omega⟩
    have hv : ((b.drop j).take v).length = v := by rw [List.length_take]; omega
    have hE : encB ((b.drop j).take v) = b.take (j + v) := by
      unfold encB
      rw [hv, ← h7.1, ← List.take_add]
    have hF : frame ((b.drop j).take v) = b.take (j + v + 4) := by
      unfold frame
      rw [hE, hj, h3, ← hj, ← List.take_add]
    rw [hF, List.take_append_drop]
theorem fr_one {b x r y t : Bs} (h : Fr b x r) (k : Fr b y t) : x = y ∧ r = t := by
  have h1 := num_fr h
  have k1 := num_fr k
  rw [h1] at k1
  simp only [Prod.mk.injEq] at k1
  obtain ⟨h2, h3, -⟩ := k1
  have h4 : x = y := by
    have := congrArg (List.take x.length) h3
    rw [List.append_assoc, List.append_assoc, List.take_left, h2, List.take_left] at this
    exact this
  subst h4
  refine ⟨rfl, ?_⟩
  obtain ⟨rfl, -⟩ := h
  exact List.append_cancel_left k.1
theorem frs_nil {b : Bs} (h : ∀ x t, ¬ Fr b x t) : Frs b [] b := ⟨rfl, fun _ h => (nomatch h), h⟩
theorem frs_cons {b x r r' : Bs} {xs : List Bs} (h : Fr b x r) (k : Frs r xs r') : Frs b (x :: xs) r' := by
  obtain ⟨rfl, hx⟩ := h
  obtain ⟨rfl, h1, h2⟩ := k
  refine ⟨by rw [frames, List.append_assoc], fun y hy => ?_, h2⟩
  rcases List.mem_cons.1 hy with rfl | hy
  · exact hx
  · exact h1 y hy
theorem frs_any : ∀ (n : Nat) (b : Bs), b.length ≤ n → ∃ xs r, Frs b xs r
  | 0, b, h => ⟨[], b, frs_nil fun x t hf => by
      have := frame_pos x
      have h1 := congrArg List.length hf.1
      rw [List.length_append] at h1
      omega⟩
  | n + 1, b, h => by
    by_cases hf : ∃ x r, Fr b x r
    · obtain ⟨x, r, hf⟩ := hf
      have := frame_pos x
      have h1 := congrArg List.length hf.1
      rw [List.length_append] at h1
      obtain ⟨xs, r', h2⟩ := frs_any n r (by omega)
      exact ⟨x :: xs, r', frs_cons hf h2⟩
    · exact ⟨[], b, frs_nil fun x t h => hf ⟨x, t, h⟩⟩
theorem frs_uncons {b r : Bs} {x : Bs} {xs : List Bs} (h : Frs b (x :: xs) r) : Fr b x (frames xs ++ r) ∧ Frs (frames xs ++ r) xs r := by
  obtain ⟨rfl, h1, h2⟩ := h
  exact ⟨⟨by rw [frames, List.append_assoc], h1 x (by simp)⟩, rfl, fun y hy => h1 y (by simp [hy]), h2⟩
theorem frs_one : ∀ {xs ys : List Bs} {b r t : Bs}, Frs b xs r → Frs b ys t → xs = ys ∧ r = t
  | [], [], b, r, t, h, k => ⟨rfl, by rw [← show b = r from h.1, ← show b = t from k.1]⟩
  | [], y :: ys, b, r, t, h, k => absurd (frs_uncons k).1 (by rw [show b = r from h.1]; exact h.2.2 _ _)
  | x :: xs, [], b, r, t, h, k => absurd (frs_uncons h).1 (by rw [show b = t from k.1]; exact k.2.2 _ _)
  | x :: xs, y :: ys, b, r, t, h, k => by
    obtain ⟨h1, h2⟩ := frs_uncons h
    obtain ⟨k1, k2⟩ := frs_uncons k
    obtain ⟨rfl, e⟩ := fr_one h1 k1
    rw [← e] at k2
    obtain ⟨rfl, e2⟩ := frs_one h2 k2
    exact ⟨rfl, e2⟩
/-- A beginning of a frame that is not the whole of it begins with none. -/
theorem fr_torn {x r t : Bs} (hx : x.length ≤ 524288) (h : frame x = r ++ t) (ht : t ≠ []) : ∀ y u, ¬ Fr r y u := fun y u hf => by
  have h1 : Fr (frame x) x [] := ⟨by simp, hx⟩
  have h2 : Fr (frame x) y (u ++ t) := ⟨by rw [h, hf.1, List.append_assoc], hf.2⟩
  have h3 := (fr_one h1 h2).2
  have h4 := congrArg List.length h3
  simp only [List.length_nil, List.length_append] at h4
  exact ht (List.eq_nil_of_length_eq_zero (by omega))
/-- A beginning of frames: the first ones whole, of the next one a part. -/
theorem frs_part : ∀ (xs : List Bs) (p t : Bs), (∀ x ∈ xs, x.length ≤ 524288) → frames xs = p ++ t → ∃ k r, k ≤ xs.length ∧ Frs p (xs.take k) r
  | [], p, t, _, h => by
    have h4 := congrArg List.length h
    simp only [frames, List.length_nil, List.length_append] at h4
    have hp : p = [] := List.eq_nil_of_length_eq_zero (by omega)
    subst hp
    exact ⟨0, [], Nat.le_refl _, frs_nil fun x u hf => by
      have := frame_pos x
      have h1 := congrArg List.length hf.1
      simp only [List.length_nil, List.length_append] at h1
      omega⟩
  | x :: xs, p, t, hx, h => by
    by_cases hl : (frame x).length ≤ p.length
    · have h1 : p = frame x ++ p.drop (frame x).length := by
        have := congrArg (List.take (frame x).length) h
        rw [frames, List.take_left, List.take_append_of_le_length hl] at this
        conv => lhs; rw [← List.take_append_drop (frame x).length p, ← this]
      have h2 : frames xs = p.drop (frame x).length ++ t := by
        rw [frames, h1, List.append_assoc] at h
        exact List.append_cancel_left h
      obtain ⟨k, r, hk, hF⟩ := frs_part xs _ t (fun y hy => hx y (by simp [hy])) h2
      exact ⟨k + 1, r, by simp [hk], by rw [List.take_succ_cons]; exact frs_cons ⟨h1, hx x (by simp)⟩ hF⟩
    · have h1 : frame x = p ++ (frame x).drop p.length := by
        have := congrArg (List.take p.length) h
        rw [frames, List.take_left, List.take_append_of_le_length (by omega)] at this
        conv => lhs; rw [← List.take_append_drop p.length (frame x), this]
      refine ⟨0, p, Nat.zero_le _, frs_nil (fr_torn (hx x (by simp)) h1 fun e => ?_)⟩
      have := congrArg List.length e
      rw [List.length_drop] at this
      simp only [List.length_nil] at this
      omega

/-- A frame whose bytes and sum were turned within 32 bits is no frame, whatever stands behind. -/
theorem fr_hurt {x t : Bs} {first many bits : Nat} (hx : x.length ≤ 524288) (hm : many = 8 * (x.length + 4)) (hf : first < many) (hb : mask first many bits 32 ≠ 0) :
    ∀ y u, ¬ Fr (enc x.length ++ burst (x ++ le4 (sum (encB x))) first many bits 32 ++ t) y u := fun y u h => by
  have hl : (burst (x ++ le4 (sum (encB x))) first many bits 32).length = x.length + 4 := by rw [burst_len, List.length_append, le4_len]
  have h1 := num_fr h
  rw [List.append_assoc, numS_enc (by omega) hx] at h1
  simp only [Prod.mk.injEq] at h1
  have hy : y.length = x.length := h1.1.symm
  have h2 : frame y = enc x.length ++ burst (x ++ le4 (sum (encB x))) first many bits 32 := by
    have := congrArg (List.take ((enc x.length).length + x.length + 4)) h.1
    rw [List.take_left' (by rw [List.length_append, hl]; omega), List.take_left' (by rw [frame_len, hy])] at this
    exact this.symm
  have h3 : crc (frame y) ones = Tn 32 ones := crc_sum _
  have h4 : crc (frame x) ones = Tn 32 ones := crc_sum _
  rw [h2, crc_app] at h3
  unfold frame encB at h4
  rw [List.append_assoc, crc_app] at h4
  exact hb (crc_turned (by rw [List.length_append, le4_len]; exact hm) hf (h3.trans h4.symm))

end Go.Proofs.YtjoonpkgepkkhaaGreatDoor.Wf

/-
  Contracts of layer 4's sums: the program's and the document's.
-/
namespace Go.Proofs.YtjoonpkgepkkhaaGreatDoor.Wa
open Go Go.RowKit Ck Kw Ga Wc Wf
attribute [local go_sem ↓] Go.wp_at_zero Go.wp_at_succ
set_option linter.unusedVariables false

theorem Tn_next (j x : Nat) : Tn (j + 1) x = T (Tn j x) := by rw [Tn_add]; rfl
theorem crc_take {l : List UInt8} {k r : Nat} (h : k < l.length) : crc (l.take (k + 1)) r = Tn 8 (crc (l.take k) r ^^^ l[k].toNat) := by
  rw [List.take_succ_eq_append_getElem h, crc_app]; rfl

theorem T_bits (x : Nat) (h : x < 4294967296) : bits .xor .u32 ((x : Int) / 2) (bits .and .u32 3988292384 (-bits .and .u32 (x : Int) 1 % 4294967296)) = (T x : Int) := by
  have h1 : bits .and .u32 (x : Int) 1 = ((x % 2 : Nat) : Int) := by
    rw [show (1 : Int) = ((1 : Nat) : Int) from rfl, u32_and_nat x 1 h (by omega), Nat.and_one_is_mod]
  rw [h1, show (x : Int) / 2 = ((x / 2 : Nat) : Int) by omega, show (3988292384 : Int) = ((3988292384 : Nat) : Int) from rfl]
  unfold T
  rcases Nat.mod_two_eq_zero_or_one x with e | e
  · rw [e, if_neg (by omega), show -((0 : Nat) : Int) % 4294967296 = ((0 : Nat) : Int) from rfl, u32_and_nat _ _ (by omega) (by omega), u32_xor_nat _ _ (by omega) (by simp), Nat.and_zero, Nat.xor_zero]
  · rw [e, if_pos rfl, show -((1 : Nat) : Int) % 4294967296 = ((4294967295 : Nat) : Int) from rfl, u32_and_nat _ _ (by omega) (by omega), show 3988292384 &&& 4294967295 = 3988292384 from rfl, u32_xor_nat _ _ (by omega) (by omega)]
set_option maxHeartbeats 1000000 in
set_option maxRecDepth 100000 in
theorem sum_any (w : World) (X : Nat → Prop) (A : Option Addr) (c : Nat) (l : List UInt8) (h : Sl w X 1 (.slice A l.length c) l.length (BVs l)) :
    Calls Tryz.prog 13 #[.slice A l.length c] w fun e w' => e = .returned (.int .u32 (sum l : Int)) ∧ w = w' := by
  have hlen : l.length ≤ 9223372036854775807 := by obtain ⟨A0, c0, hv, _, hc, hm, _⟩ := h; injection hv with _ _ e; unfold maxLen at hm; omega
  go_enter Tryz.func13, Tryz.ntmps13
  go_wp2
  go_loop [3, 8] (fun r i => ∃ k : Nat, k ≤ l.length ∧ i = .int .i64 k ∧ r = .int .u32 (crc (l.take k) ones : Int)) (fun _ i => l.length - (intOf i).toNat)
  case atStart => exact ⟨0, Nat.zero_le _, rfl, rfl⟩
  case round =>
    obtain ⟨k, hk, rfl, rfl⟩ := hrel
    by_cases hlt : k < l.length
    · obtain ⟨ad, rfl, hcell⟩ := Cf.Sl_at h hlt
      have hcl := crc_lt (l.take k) (r := ones) (by decide)
      have hbl := l[k].toNat_lt
      go_wp2
      go_loop [3, 16] (fun r i => ∃ j : Nat, j ≤ 8 ∧ i = .int .i64 j ∧ r = .int .u32 (Tn j (crc (l.take k) ones ^^^ l[k].toNat) : Int)) (fun _ i => 8 - (intOf i).toNat)
      case atStart =>
        refine ⟨0, Nat.zero_le _, rfl, ?_⟩
        rw [u32_xor_nat _ _ hcl (by omega)]
        rfl
      case round =>
        obtain ⟨j, hj, rfl, rfl⟩ := hrel
        have hx := Tn_lt j (xor_lt hcl (byte_lt l[k]))
        have hn := Tn_next j (crc (l.take k) ones ^^^ l[k].toNat)
        have hc := crc_take (r := ones) hlt
        obtain ⟨x, hxe⟩ : ∃ x, x = Tn j (crc (l.take k) ones ^^^ l[k].toNat) := ⟨_, rfl⟩
        rw [← hxe] at hx hn ⊢
        have HX := Lib.hid hxe
        have HN := Lib.hid hn
        have HC := Lib.hid hc
        clear hxe hn hc
        by_cases h8 : j < 8
        · go_wp2
          go_round
          case rel => exact ⟨j + 1, by omega, by go_num, by rw [T_bits x hx, HN.out]⟩
          case measure => simp [intOf]; omega
        · obtain rfl : j = 8 := by omega
          go_wp2
          go_round
          case rel => exact ⟨k + 1, by omega, by go_num, by rw [HC.out, ← HX.out]⟩
          case measure => simp [intOf]; omega
    · have e : l.take k = l := List.take_of_length_le (by omega)
      rw [e]
      go_wp2
      go_ret
      have hm : IntKind.u32.max = ((4294967295 : Nat) : Int) := by decide
      exact ⟨by rw [hm]; exact congrArg (fun z => Ending.returned (.int .u32 z)) (u32_xor_nat _ _ (by omega) (crc_lt l (by decide))), rfl⟩
end Go.Proofs.YtjoonpkgepkkhaaGreatDoor.Wa

/-
  Contracts of layer 1's reader: Num, length, Take, Bytes, Left, Done, Read.
-/
namespace Go.Proofs.YtjoonpkgepkkhaaGreatDoor.Cg
open Go Go.RowKit Ck Ca Cb Ce Cf

theorem rest_end {w : World} {X : Nat → Prop} {g : Nat} {A A' : Option Addr} {n c k : Nat} {xs : List UInt8} (hb : CB w g (.slice A n c) 0) (hsl : Sl w (fun j => j = g ∨ X j) 1 (.slice A n c) n (BVs xs)) (hk : k ≤ n) (hA : ∀ ad, A = some ad → k < n → A' = some (ad.add (k * 1))) :
    w.grownBy (w.setCell ⟨g, 1, none⟩ (.slice A' (n - k) (c - k))) (some g) ∧ CR (w.setCell ⟨g, 1, none⟩ (.slice A' (n - k) (c - k))) X g (xs.drop k, 0) := by
  have h1 := Blk.set_ hb 1 (.slice A' (n - k) (c - k))
  have g1 := grown_setCell (World.grownBy.refl w (some g)) (p := ⟨g, 1, none⟩) (.inl rfl) (.slice A' (n - k) (c - k))
  refine ⟨g1, A', n - k, c - k, h1, ?_, fun h => absurd rfl h⟩
  have h2 := (hsl.cut hk A' hA).setCell (p := ⟨g, 1, none⟩) (fun _ => .inl rfl) (.slice A' (n - k) (c - k))
  have h3 : (BVs xs).drop (k * 1) = BVs (xs.drop k) := by simp [BVs, List.map_drop]
  rw [h3] at h2
  exact h2
theorem err_cond {s : Cm.RS} {most : Nat} (h : s.2 = 0) : Cm.numS s most = if (Cm.pn s.1 0 0).2.2 ≠ 0 then (0, ([], (Cm.pn s.1 0 0).2.2)) else if most < (Cm.pn s.1 0 0).1 then (0, ([], 11)) else ((Cm.pn s.1 0 0).1, (s.1.drop (Cm.pn s.1 0 0).2.1, 0)) := by
  rw [Cm.numS, if_neg (by simp [h])]
theorem failS_ok {s : Cm.RS} {e : Int} (h : s.2 = 0) (he : e ≠ 0) : Cm.failS s e = ([], e) := by simp [Cm.failS, h, he]

/-- What a number's reading leaves. -/
def Numed (w : World) (X : Nat → Prop) (g : Nat) (r : Nat × Cm.RS) (e : Ending) (w' : World) : Prop := e = .returned (.int .u64 (r.1 : Int)) ∧ w.grownBy w' (some g) ∧ CR w' X g r.2

set_option maxRecDepth 100000 in
set_option maxHeartbeats 800000 in
theorem num_any (w : World) (X : Nat → Prop) (g : Nat) (s : Cm.RS) (h : CR w X g s) (most : Nat) :
    Calls Tryz.prog 84 #[P_ g, .int .u64 most] w fun e w' => Numed w X g (Cm.numS s most) e w' := by
  have hcr := h
  obtain ⟨A, n, c, hb, hsl, hgd⟩ := h
  have hn : n = s.1.length := by obtain ⟨A, c, _, h, _⟩ := hsl; rw [BVs_len] at h; omega
  subst hn
  by_cases hs : s.2 = 0
  · have hb0 := hb
    rw [hs] at hb0
    have hcond := err_cond (most := most) hs
    have hpa := parse_any w _ A c s.1 hsl
    generalize hp : Cm.pn s.1 0 0 = p at *
    obtain ⟨v, k, er⟩ := p
    have h1 := hb0.cell 1
    have f1 := hb0.frozen 1
    simp only [List.getElem?_toArray, List.getElem?_cons_zero, List.getElem?_cons_succ] at h1
    have HS := Lib.hid hs
    have HP := Lib.hid hp
    by_cases he : er = 0
    · subst he
      have hp1 := Cm.pn_one0 hp
      have hk := hp1.2.1
      have hnc : s.1.length ≤ c := by obtain ⟨A, c, hv, _, h, _⟩ := hsl; injection hv with _ _ e3; omega
      have hcm : c ≤ 9223372036854775807 := by obtain ⟨A, c, hv, _, _, h, _⟩ := hsl; injection hv with _ _ e3; simp only [maxLen] at h; omega
      clear hp hs hp1
      by_cases hm : most < v
      · have hf : Cm.numS s most = (0, Cm.failS s 11) := by rw [hcond, failS_ok HS.out (by decide), if_neg (by simp), if_pos hm]
        rw [hf]
        clear hcond hf
        have HA := Lib.hid hpa
        clear hpa
        go_enter Tryz.func84, Tryz.ntmps84
        go_wp2_with (first
          | (go_at_call 117; refine (reads_ok _ g _ hb0).mono ?_; rintro e w1 ⟨rfl, rfl⟩)
          | (go_at_call 118; refine HA.out.mono ?_; rintro e w1 ⟨rfl, rfl⟩)
          | (go_at_call 119; refine (fail_any _ X g s hcr 11).mono ?_; rintro e w1 ⟨rfl, hg1, hc1⟩))
        go_ret
        exact ⟨rfl, hg1, hc1⟩
      · have hf : Cm.numS s most = (v, (s.1.drop k, 0)) := by rw [hcond, if_neg (by simp), if_neg hm]
        rw [hf]
        obtain ⟨A', hsl1, hA'⟩ := slice_from A s.1.length c k hk hnc
        have R := rest_end (X := X) hb0 hsl hk hA'
        have HR := Lib.hid R
        have HA := Lib.hid hpa
        clear hcond hf hA' R hpa
        go_enter Tryz.func84, Tryz.ntmps84
        go_wp2_with (first
          | (go_at_call 117; refine (reads_ok _ g _ hb0).mono ?_; rintro e w1 ⟨rfl, rfl⟩)
          | (go_at_call 118; refine HA.out.mono ?_; rintro e w1 ⟨rfl, rfl⟩))
        go_ret
        exact ⟨rfl, HR.out⟩
    · have hf : Cm.numS s most = (0, Cm.failS s er) := by rw [hcond, failS_ok HS.out he, if_pos he]
      rw [hf]
      have he1 : (er == 0) = false := by rw [beq_eq_false_iff_ne]; exact he
      have he2 : (er != 0) = true := by rw [bne, he1]; rfl
      have HE := Lib.hid he
      have HA := Lib.hid hpa
      clear hcond hf hs hp he hpa
      go_enter Tryz.func84, Tryz.ntmps84
      go_wp2_with (first
        | (go_at_call 117; refine (reads_ok _ g _ hb0).mono ?_; rintro e w1 ⟨rfl, rfl⟩)
        | (go_at_call 118; refine HA.out.mono ?_; rintro e w1 ⟨rfl, rfl⟩)
        | (go_at_call 119; refine (fail_any _ X g s hcr er).mono ?_; rintro e w1 ⟨rfl, hg1, hc1⟩))
      go_ret
      exact ⟨rfl, hg1, hc1⟩
  · have hf : Cm.numS s most = (0, s) := by rw [Cm.numS, if_pos hs]
    rw [hf]
    have HS := Lib.hid hs
    clear hs hf
    go_enter Tryz.func84, Tryz.ntmps84
    go_wp2_with (go_at_call 117; refine (reads_no _ g _ _ hb HS.out).mono ?_; rintro e w1 ⟨rfl, rfl⟩)
    go_ret
    exact ⟨rfl, World.grownBy.refl _ _, hcr⟩

end Go.Proofs.YtjoonpkgepkkhaaGreatDoor.Cg

/-
  Contracts of layer 1's reader: Take, Bytes, Left, Done, Read.
-/
namespace Go.Proofs.YtjoonpkgepkkhaaGreatDoor.Ch
open Go Go.RowKit Ck Ca Cb Ce Cf Cg

/-- What a reading of bytes leaves. -/
def Taken (w : World) (X : Nat → Prop) (g : Nat) (r : List UInt8 × Cm.RS) (e : Ending) (w' : World) : Prop :=
  ∃ v, e = .returned v ∧ w'.ownsRow w.heap.size 5 1 v r.1.length (BVs r.1) ∧ w.grownBy w' (some g) ∧ CR w' X g r.2
theorem Taken.nil {w w' : World} {X : Nat → Prop} {g : Nat} {s : Cm.RS} (hg : w.grownBy w' (some g)) (hc : CR w' X g s) : Taken w X g ([], s) (.returned (.slice none 0 0)) w' :=
  ⟨_, rfl, World.ownsRow_nil _ _ _ _, hg, hc⟩
theorem take_end {w w1 : World} {X : Nat → Prop} {g : Nat} {A A' : Option Addr} {n c k : Nat} {xs l : List UInt8} {v : Value} (hb : CB w g (.slice A n c) 0) (hsl : Sl w (fun j => j = g ∨ X j) 1 (.slice A n c) n (BVs xs)) (hk : k ≤ n) (hA : ∀ ad, A = some ad → k < n → A' = some (ad.add (k * 1)))
    (hown : w1.ownsRow w.heap.size 5 1 v l.length (BVs l)) (hbel : Below w.heap.size w w1) :
    Taken w X g (l, (xs.drop k, 0)) (.returned v) (w1.setCell ⟨g, 1, none⟩ (.slice A' (n - k) (c - k))) := by
  have R := rest_end (X := X) (hb.below hbel hb.lt) (hsl.after hbel) hk hA
  have hlt : g < w.heap.size := hb.lt
  exact ⟨v, rfl, ownsRow_setCell_below hown (a := ⟨g, 1, none⟩) hlt _, grown_step (grown_of_below hbel (some g)) R.1 (.inl rfl), R.2⟩

theorem done_any (w : World) (X : Nat → Prop) (g : Nat) (s : Cm.RS) (h : CR w X g s) :
    Calls Tryz.prog 139 #[P_ g] w fun e w' => e = .returned (.int .i64 (Cm.doneS s)) ∧ w = w' := by
  obtain ⟨A, m, c, hb, hsl, hgd⟩ := h
  have hm : m = s.1.length := by obtain ⟨A, c, _, h, _⟩ := hsl; rw [BVs_len] at h; omega
  subst hm
  by_cases hs : s.2 = 0
  · have hb0 := hb
    rw [hs] at hb0
    have h1 := hb0.cell 1
    simp only [List.getElem?_toArray, List.getElem?_cons_zero, List.getElem?_cons_succ] at h1
    by_cases hz : s.1 = []
    · have hd : Cm.doneS s = 0 := by simp [Cm.doneS, hz, hs]
      rw [hd]
      rw [hz] at h1
      simp only [List.length_nil] at h1
      clear hs hd hz hsl
      go_enter Tryz.func139, Tryz.ntmps139
      go_wp2_with (first
        | (go_at_call 117; refine (reads_ok _ g _ hb0).mono ?_; rintro e w1 ⟨rfl, rfl⟩)
        | (go_at_call 85; refine (err_blk _ g _ 0 hb0).mono ?_; rintro e w1 ⟨rfl, rfl⟩))
      go_ret
      exact ⟨rfl, rfl⟩
    · have hd : Cm.doneS s = 12 := by simp [Cm.doneS, hz, hs]
      rw [hd]
      have hp : 0 < s.1.length := by
        rcases Nat.eq_zero_or_pos s.1.length with h0 | h0
        · exact absurd (List.eq_nil_of_length_eq_zero h0) hz
        · exact h0
      clear hs hd hz
      go_enter Tryz.func139, Tryz.ntmps139
      go_wp2_with (go_at_call 117; refine (reads_ok _ g _ hb0).mono ?_; rintro e w1 ⟨rfl, rfl⟩)
      go_ret
      exact ⟨rfl, rfl⟩
  · have hd : Cm.doneS s = s.2 := by simp [Cm.doneS, hs]
    rw [hd]
    have HS := Lib.hid hs
    clear hs hd
    go_enter Tryz.func139, Tryz.ntmps139
    go_wp2_with (first
      | (go_at_call 117; refine (reads_no _ g _ _ hb HS.out).mono ?_; rintro e w1 ⟨rfl, rfl⟩)
      | (go_at_call 85; refine (err_blk _ g _ _ hb).mono ?_; rintro e w1 ⟨rfl, rfl⟩))
    go_ret
    exact ⟨rfl, rfl⟩

/-- A new reader. -/
theorem read_any (w : World) (X : Nat → Prop) (v : Value) (n : Nat) (b : List UInt8) (hv : Sl w X 1 v n (BVs b)) (hn : n ≤ 549755813888) :
    Calls Tryz.prog 82 #[v] w fun e w' => ∃ g, e = .returned (P_ g) ∧ CR w' (fun k => k < w.heap.size) g (b, 0) ∧ w.heap.size ≤ g ∧ Below w.heap.size w w' := by
  have hnl : n = b.length := by obtain ⟨A, c, _, h, _⟩ := hv; rw [BVs_len] at h; omega
  subst hnl
  go_enter Tryz.func82, Tryz.ntmps82
  go_wp2_with (go_at_call 79; refine (roomy_any _ v b.length b 0 _ hv (by omega) (by omega)).mono ?_; rintro e w1 ⟨v1, rfl, hown1, hb1⟩; obtain ⟨A1, c1, rfl⟩ := own_shape hown1)
  go_ret
  refine ⟨w1.heap.size, rfl, ⟨A1, b.length, c1, Blk.new _ _ _, ?_, fun h => absurd rfl h⟩, hb1.size, hb1.alloc hb1.size _⟩
  refine (Sl.of_own' hown1 fun k hk hX => ?_).alloc _
  have := hown1.lt k hk
  rcases hX with hX | hX <;> omega

end Go.Proofs.YtjoonpkgepkkhaaGreatDoor.Ch

/-
  Contracts of layer 4's frames: the program's.
-/
namespace Go.Proofs.YtjoonpkgepkkhaaGreatDoor.Wb
open Go Go.RowKit Ck Kw Ga Wc Wf Wa
attribute [local go_sem ↓] Go.wp_at_zero Go.wp_at_succ
set_option linter.unusedVariables false

theorem le4_cells (s : Nat) (h : s < 4294967296) : #[Value.int .u8 ((s : Int) % 256), .int .u8 ((s : Int) / 256 % 256), .int .u8 ((s : Int) / 65536 % 256), .int .u8 ((s : Int) / 16777216)] = (BVs (le4 s)).toArray := by
  simp only [le4, BVs, List.map_cons, List.map_nil]
  rw [BV_of (by omega), BV_of (by omega), BV_of (by omega), BV_of (by omega), show ((s / 16777216 % 256 : Nat) : Int) = (s : Int) / 16777216 by omega]
  congr

set_option maxHeartbeats 1000000 in
theorem sumform_any (w : World) (X : Nat → Prop) (A : Option Addr) (c : Nat) (l : List UInt8) (h : Sl w X 1 (.slice A l.length c) l.length (BVs l)) :
    Calls Tryz.prog 41 #[.slice A l.length c] w fun e w' => ∃ A', e = .returned (.slice A' 4 4) ∧ Sl w' (fun k => k < w.heap.size) 1 (.slice A' 4 4) 4 (BVs (le4 (sum l))) ∧ Below w.heap.size w w' := by
  have hs := sum_lt l
  go_enter Tryz.func41, Tryz.ntmps41
  go_wp2_with (go_at_call 13; refine (sum_any _ X A c l h).mono ?_; rintro e w1 ⟨rfl, rfl⟩)
  go_ret
  exact ⟨_, rfl, Sl_lit w _ _ (le4 (sum l)) (le4_cells _ hs) rfl (by omega) (by omega), (Below.refl _ _).alloc (Nat.le_refl _) _⟩

theorem frame_long (w : World) (A : Option Addr) (n c : Nat) (hn : 524288 < n) : Calls Tryz.prog 8 #[.slice A n c] w fun e w' => e = .returned (.tuple #[.slice none 0 0, .int .i64 3]) ∧ w = w' := by
  go_enter Tryz.func8, Tryz.ntmps8
  go_wp2
  go_ret2
  exact ⟨rfl, rfl⟩

set_option maxHeartbeats 1000000 in
theorem frame_any (w : World) (X : Nat → Prop) (A : Option Addr) (c : Nat) (x : List UInt8) (h : Sl w X 1 (.slice A x.length c) x.length (BVs x)) (hx : x.length ≤ 524288) :
    Calls Tryz.prog 8 #[.slice A x.length c] w fun e w' => ∃ A' c', e = .returned (.tuple #[.slice A' (frame x).length c', .int .i64 0]) ∧ w'.ownsRow w.heap.size 5 1 (.slice A' (frame x).length c') (frame x).length (BVs (frame x)) ∧ Below w.heap.size w w' := by
  obtain ⟨i0, hi0, hz0, hz1, hz2⟩ := info_parts info_u8
  have hl : (Cm.encB x).length ≤ 524298 := by have := (Cm.enc_len x.length).1; rw [Cm.encB_len]; omega
  have HX := Lib.hid hx
  have HS := Lib.hid h
  have hx1 : ¬ (524288 : Int) < (x.length : Int) := by omega
  clear hx h
  go_enter Tryz.func8, Tryz.ntmps8
  go_wp2_with fail
  refine (Cb.putbytes_any X _ _ 0 x.length [] x _ (Sl.nil _ _ _) HS.out (by omega) (by have := HX.out; omega)).mono ?_
  rintro e w1 ⟨v1, rfl, ho1, hb1⟩
  obtain ⟨A1, c1, rfl⟩ := own_shape ho1
  rw [List.nil_append] at ho1
  have HO := Lib.hid ho1
  have HB := Lib.hid hb1
  clear ho1 hb1
  rw [List.nil_append]
  go_wp2_with fail
  refine (sumform_any _ (fun _ => False) A1 c1 (Cm.encB x) (Sl.of_own HO.out (fun _ _ _ h => h))).mono ?_
  rintro e w2 ⟨A2, rfl, hs2, hb2⟩
  have HS2 := Lib.hid hs2
  have HB2 := Lib.hid hb2
  clear hs2 hb2
  go_wp2_with (at_builtin; refine wpList_append_sh _ rfl (.tmp 10) (.tmp 12) _ rfl w.heap.size 5 i0 _ 1 1 Tryz.underlying22 hi0 hz0 hz1 hz2 rfl (by omega) _ _ _ rfl (own_below HO.out HB2.out) (fun k => k < w1.heap.size) _ 4 (BVs (le4 (sum (Cm.encB x)))) rfl HS2.out (BVs_one _) (by simp only [maxLen]; omega) (by omega) (by have := HB.out.size; have := HB2.out.size; omega) ?_; intro A3 c3 w3 happ)
  go_ret2
  have hf : (frame x).length = (Cm.encB x).length + 4 := by simp [frame, le4_len]
  rw [hf]
  refine ⟨A3, c3, rfl, ?_, ?_⟩
  · have := happ.1
    rw [← BVs_app] at this
    exact this
  · exact (HB.out.trans (HB2.out.mono HB.out.size)).grown happ.2.1 (by have := HB.out.size; have := HB2.out.size; omega) (fun g hg => (HO.out.lt g hg).1)

end Go.Proofs.YtjoonpkgepkkhaaGreatDoor.Wb

/-
  Contracts of layer 4's frames: what bytes begin with; a head's number.
-/
namespace Go.Proofs.YtjoonpkgepkkhaaGreatDoor.Wd
open Go Go.RowKit Ck Kw Ga Wc Wf Wa Wb
attribute [local go_sem ↓] Go.wp_at_zero Go.wp_at_succ
set_option linter.unusedVariables false

/-- The length with which bytes begin, where its form ends, where the record ends. -/
def nOf (b : Bs) : Nat := (Cm.numS (b, 0) 524288).1
def eOf (b : Bs) : Int := (Cm.numS (b, 0) 524288).2.2
def begOf (b : Bs) : Nat := (Cm.enc (nOf b)).length
def isOf (b : Bs) : Bool := decide (eOf b = 0) && decide (begOf b + nOf b + 4 ≤ b.length)
theorem nOf_le (b : Bs) : nOf b ≤ 524288 := Cm.numS_le _ _
theorem enc_max : (Cm.enc 524288).length = 3 := by rfl

set_option maxRecDepth 100000 in
set_option maxHeartbeats 1000000 in
theorem bounds_any (w : World) (X : Nat → Prop) (A : Option Addr) (c : Nat) (b : Bs) (h : Sl w X 1 (.slice A b.length c) b.length (BVs b)) (hb : b.length ≤ 140737488355328) :
    Calls Tryz.prog 43 #[.slice A b.length c] w fun e w' => e = .returned (.tuple #[.int .i64 (begOf b : Int), .int .i64 ((begOf b + nOf b : Nat) : Int), .bool (isOf b)]) ∧ Below w.heap.size w w' := by
  have hc : b.length ≤ c := by obtain ⟨A0, c0, hv, _, hc, _⟩ := h; injection hv with _ _ e; omega
  have hm : (min (b.length : Int) 3) = ((min b.length 3 : Nat) : Int) := by omega
  have hsl : ∀ W, (Instr.slice 22 (.slice A b.length c) none (some (.int .i64 (min (b.length : Int) 3))) none).run Tryz.prog W = .ok (.slice A (min b.length 3) c) W := fun W => by rw [hm]; exact slice_upto A b.length c _ (by omega) W
  have ht : b.take 3 = b.take (min b.length 3) := by
    rcases Nat.le_total b.length 3 with h1 | h1
    · rw [Nat.min_eq_left h1, List.take_of_length_le h1, List.take_of_length_le (Nat.le_refl _)]
    · rw [Nat.min_eq_right h1]
  have hs3 : Sl w X 1 (.slice A (min b.length 3) c) (min b.length 3) (BVs (b.take 3)) := by
    rw [ht, show BVs (b.take (min b.length 3)) = (BVs b).take (min b.length 3 * 1) by simp [BVs]]
    exact h.upto (by omega)
  obtain ⟨n1, n2⟩ := num_cut b
  have hn := nOf_le b
  have hbeg := Cm.enc_len (nOf b)
  have hbg : begOf b ≤ 10 := hbeg.1
  have HS3 := Lib.hid hs3
  have HN1 : Hid ((Cm.numS (b.take 3, 0) 524288).1 = nOf b) := Lib.hid n1
  have HN2 : Hid ((Cm.numS (b.take 3, 0) 524288).2.2 = 0 ↔ eOf b = 0) := Lib.hid n2
  clear hc hm ht hs3 n1 n2 h hbeg
  have H3 := Lib.hid enc_max
  go_enter Tryz.func43, Tryz.ntmps43
  go_wp2_with fail
  refine (Cb.numlen_any 524288 (by omega) _).mono ?_
  rintro e w1 ⟨rfl, hb1⟩
  rw [H3.out]
  have HB1 := Lib.hid hb1
  clear hb1
  go_wp2_with fail
  refine (Ch.read_any _ X _ (min b.length 3) (b.take 3) (HS3.out.after HB1.out) (by omega)).mono ?_
  rintro e w2 ⟨g, rfl, hr2, hg2, hb2⟩
  have HR2 := Lib.hid hr2
  have HG2 := Lib.hid hg2
  have HB2 := Lib.hid (HB1.out.trans (hb2.mono HB1.out.size))
  have HB12 := Lib.hid hb2
  clear hr2 hg2 hb2
  go_wp2_with fail
  refine (Cg.num_any _ _ g _ HR2.out 524288).mono ?_
  rintro e w3 ⟨rfl, hg3, hr3⟩
  rw [HN1.out]
  have hlt := HR2.out.lt
  have HB3 : Hid (Below w.heap.size w w3) := Lib.hid (HB2.out.grown hg3 HB2.out.size (fun k hk => by injection hk with hk; subst hk; have := HG2.out; have := HB1.out.size; omega))
  have HR3 := Lib.hid hr3
  clear hg3 hr3 hlt
  go_wp2_with fail
  refine (Cb.numlen_any (nOf b) (by omega) _).mono ?_
  rintro e w4 ⟨rfl, hb4⟩
  have HB4 := Lib.hid hb4
  clear hb4
  rw [show ((Cm.enc (nOf b)).length : Int) = (begOf b : Int) from rfl]
  obtain ⟨A3, n3, c3, hblk, _, _⟩ := HR3.out
  have HBK := Lib.hid (Blk.below hblk HB4.out (Blk.lt hblk))
  clear hblk
  by_cases he : eOf b = 0
  · have h0 : (Cm.numS (b.take 3, 0) 524288).2.2 = 0 := HN2.out.2 he
    have hi : isOf b = decide (begOf b + nOf b + 4 ≤ b.length) := by simp [isOf, he]
    rw [h0] at HBK
    clear h0
    by_cases hl : begOf b + nOf b + 4 ≤ b.length
    · have hi2 : isOf b = true := by rw [hi]; simpa using hl
      have HI := Lib.hid hi2
      have HD := Lib.hid (decide_eq_true (show (begOf b : Int) + (nOf b : Int) + 4 ≤ (b.length : Int) by omega))
      clear hi hi2 he
      go_wp2_with (go_at_call 85; refine (Ce.err_blk _ g _ 0 HBK.out).mono ?_; rintro e w5 ⟨rfl, rfl⟩)
      go_ret3
      exact ⟨by rw [HI.out, ← HD.out]; rfl, HB3.out.trans (HB4.out.mono HB3.out.size)⟩
    · have hi2 : isOf b = false := by rw [hi]; simpa using hl
      have HI := Lib.hid hi2
      have HD := Lib.hid (decide_eq_false (show ¬ (begOf b : Int) + (nOf b : Int) + 4 ≤ (b.length : Int) by omega))
      clear hi hi2 he
      go_wp2_with (go_at_call 85; refine (Ce.err_blk _ g _ 0 HBK.out).mono ?_; rintro e w5 ⟨rfl, rfl⟩)
      go_ret3
      exact ⟨by rw [HI.out, ← HD.out]; rfl, HB3.out.trans (HB4.out.mono HB3.out.size)⟩
  · have h0 : (Cm.numS (b.take 3, 0) 524288).2.2 ≠ 0 := fun h => he (HN2.out.1 h)
    have hi2 : isOf b = false := by simp [isOf, he]
    have HI := Lib.hid hi2
    generalize (Cm.numS (b.take 3, 0) 524288).2.2 = er at HBK h0
    have h1 : (er == 0) = false := by rw [beq_eq_false_iff_ne]; exact h0
    clear hi2 he h0
    go_wp2_with (go_at_call 85; refine (Ce.err_blk _ g _ er HBK.out).mono ?_; rintro e w5 ⟨rfl, rfl⟩)
    go_ret3
    exact ⟨by rw [HI.out]; rfl, HB3.out.trans (HB4.out.mono HB3.out.size)⟩

theorem BVs_mid (b : Bs) (l h : Nat) : BVs ((b.drop l).take (h - l)) = ((BVs b).drop (l * 1)).take ((h - l) * 1) := by simp [BVs]
/-- A cut from l up to h of a slice of bytes. -/
theorem cut_mid (w : World) (X : Nat → Prop) (A : Option Addr) (c l h : Nat) (b : Bs) (hs : Sl w X 1 (.slice A b.length c) b.length (BVs b)) (hl : l ≤ h) (hh : h ≤ b.length) :
    ∃ A', (∀ (W : World) (y z : Int), y = (l : Int) → z = (h : Int) → (Instr.slice 22 (.slice A b.length c) (some (.int .i64 y)) (some (.int .i64 z)) none).run Tryz.prog W = .ok (.slice A' (h - l) (c - l)) W) ∧ Sl w X 1 (.slice A' (h - l) (c - l)) (h - l) (BVs ((b.drop l).take (h - l))) := by
  have hc : b.length ≤ c := by obtain ⟨A0, c0, hv, _, hc, _⟩ := hs; injection hv with _ _ e; omega
  have he : ∀ W : World, (sizeOf (Tryz.prog.elem 22)).run Tryz.prog W = .ok 1 W := fun _ => by kernel_rfl
  refine ⟨if c = l then A else A.map (·.add (l * 1)), fun W y z hy hz => ?_, ?_⟩
  · subst hy; subst hz
    rw [run_slice_lh W 22 A b.length c (by kernel_rfl) .i64 .i64 l h (by omega) (by omega) (by omega), he]
    rfl
  · by_cases e : c = l
    · have e1 : h - l = 0 := by omega
      rw [e1, e]
      simp only [List.take_zero, BVs, List.map_nil, Nat.sub_self]
      exact ⟨_, _, rfl, rfl, Nat.le_refl _, Nat.zero_le _, fun h0 => absurd h0 (by omega)⟩
    · rw [if_neg e, BVs_mid]
      have h1 := (hs.cut (i := l) (by omega) (A.map (·.add (l * 1))) (fun ad hA _ => by rw [hA]; rfl))
      exact h1.upto (j := h - l) (by omega)

theorem sumform_at (w : World) (X : Nat → Prop) (A : Option Addr) (c n : Nat) (l : Bs) (hn : l.length = n) (h : Sl w X 1 (.slice A n c) n (BVs l)) :
    Calls Tryz.prog 41 #[.slice A n c] w fun e w' => ∃ A', e = .returned (.slice A' 4 4) ∧ Sl w' (fun k => k < w.heap.size) 1 (.slice A' 4 4) 4 (BVs (le4 (sum l))) ∧ Below w.heap.size w w' := by
  subst hn
  exact sumform_any w X A c l h
/-- What Unframe answers. -/
def Unframed (w : World) (x : Bs) (e : Ending) (w' : World) : Prop :=
  ∃ A c, e = .returned (.tuple #[.slice A x.length c, .int .i64 ((frame x).length : Int), .bool true]) ∧ w'.ownsRow w.heap.size 5 1 (.slice A x.length c) x.length (BVs x) ∧ Below w.heap.size w w'

theorem fr_parts {b x r : Bs} (h : Fr b x r) : nOf b = x.length ∧ eOf b = 0 ∧ begOf b + x.length + 4 = (frame x).length ∧ isOf b = true ∧ (b.drop (begOf b)).take x.length = x ∧ le4 (sum (b.take (begOf b + x.length))) = (b.drop (begOf b + x.length)).take 4 ∧ (frame x).length ≤ b.length := by
  have h0 := num_fr h
  have h1 : nOf b = x.length := by unfold nOf; rw [h0]
  have h2 : eOf b = 0 := by unfold eOf; rw [h0]
  have h3 : begOf b + x.length + 4 = (frame x).length := by unfold begOf; rw [h1, frame_len]
  obtain ⟨g1, g2, g3⟩ := fr_iff.1 ⟨x, r, h⟩
  have h4 : (frame x).length ≤ b.length := by rw [h.1, List.length_append]; omega
  refine ⟨h1, h2, h3, ?_, ?_, ?_, h4⟩
  · unfold isOf
    rw [h2, h1, h3]
    simp [h4]
  · have hb : begOf b = (Cm.enc x.length).length := by unfold begOf; rw [h1]
    rw [hb, h.1]
    unfold frame Cm.encB
    rw [List.append_assoc, List.append_assoc, List.drop_left, List.take_left]
  · have g3' : le4 (sum (b.take (begOf b + nOf b))) = (b.drop (begOf b + nOf b)).take 4 := g3
    rw [h1] at g3'
    exact g3'

set_option maxRecDepth 100000 in
set_option maxHeartbeats 2000000 in
theorem unframe_yes (w : World) (X : Nat → Prop) (A : Option Addr) (c : Nat) (b x r : Bs) (h : Sl w X 1 (.slice A b.length c) b.length (BVs b)) (hb : b.length ≤ 140737488355328) (hf : Fr b x r) :
    Calls Tryz.prog 10 #[.slice A b.length c] w fun e w' => Unframed w x e w' := by
  obtain ⟨p1, p2, p3, p4, p5, p6, p7⟩ := fr_parts hf
  have hx := hf.2
  obtain ⟨bg, hbg⟩ : ∃ bg, bg = begOf b := ⟨_, rfl⟩
  obtain ⟨en, hen⟩ : ∃ en, en = begOf b + nOf b := ⟨_, rfl⟩
  have hB := bounds_any w X A c b h hb
  have hc : b.length ≤ c := by obtain ⟨A0, c0, hv, _, hc, _⟩ := h; injection hv with _ _ e; omega
  rw [← hen, ← hbg, p4] at hB
  rw [← hbg] at p3 p5 p6
  rw [p1, ← hbg] at hen
  have hHB := Lib.hid hB
  have hut := fun W => slice_upto A b.length c en (by omega) W
  have sut : Sl w X 1 (.slice A (b.take en).length c) (b.take en).length (BVs (b.take en)) := by
    rw [List.length_take, Nat.min_eq_left (by omega), show BVs (b.take en) = (BVs b).take (en * 1) by simp [BVs]]
    exact h.upto (by omega)
  rw [List.length_take, Nat.min_eq_left (show en ≤ b.length by omega)] at sut
  obtain ⟨A1, r1, s1⟩ := cut_mid w X A c bg en b h (by omega) (by omega)
  obtain ⟨A2, r2, s2⟩ := cut_mid w X A c en (en + 4) b h (by omega) (by omega)
  have k1 := fun W => r1 W _ _ rfl rfl
  have k2 := fun W => r2 W en (en + 4) rfl (by omega)
  rw [show en - bg = x.length by omega, p5] at s1
  rw [show en + 4 - en = 4 by omega] at s2 k2
  rw [← hen] at p6
  rw [← p6] at s2
  have HP3 := Lib.hid (show (frame x).length = en + 4 by omega)
  have HE := Lib.hid (show en - bg = x.length by omega)
  have HS1 := Lib.hid s1
  have HS2 := Lib.hid s2
  have HST := Lib.hid sut
  have HTL : Hid ((b.take en).length = en) := Lib.hid (by rw [List.length_take]; omega)
  rw [HE.out] at k1
  have hxl : x.length ≤ 524288 := hx
  have he2 : en ≤ 524302 := by have := (Cm.enc_len (nOf b)).1; have : bg = (Cm.enc (nOf b)).length := hbg; omega
  have hw4 : IntKind.i64.wrap ((en : Int) + 4) = (en : Int) + 4 := wrap64 (by omega) (by omega)
  clear p1 p2 p3 p4 p5 p6 p7 hf hx hbg hen hB s1 s2 sut r1 r2 h
  go_enter Tryz.func10, Tryz.ntmps10
  go_wp2_with fail
  refine hHB.out.mono ?_
  rintro e w1 ⟨rfl, hb1⟩
  have HB1 := Lib.hid hb1
  clear hb1
  go_wp2_with fail
  go_region_held3 (fun _ => True) (trivial)
    (first
    | (go_at_call 41; refine (sumform_at _ X A c en (b.take en) HTL.out (HST.out.after HB1.out).drew).mono ?_; rintro e w2 ⟨A3, rfl, hs3, hb2⟩; have HS3 := Lib.hid hs3; have HB2 : Hid (Below w1.heap.size w1 w2) := Lib.hid (below_of_drew hb2); clear hs3 hb2)
    | (go_at_call 15; refine (equal_any _ _ _ _ _ 4 4 _ _ HS3.out ((HS2.out.after HB1.out).after HB2.out)).mono ?_; rintro e w' ⟨rfl, rfl⟩))
  have HB12 : Hid (Below w.heap.size w w2) := Lib.hid (HB1.out.trans (HB2.out.mono HB1.out.size))
  go_wp2_with fail
  refine (clone_sh X _ x.length x _ (HS1.out.after HB12.out) (by omega)).mono ?_
  rintro e w3 ⟨A4, c4, rfl, ho4, hb4⟩
  have HO4 := Lib.hid ho4
  have HB4 := Lib.hid hb4
  clear ho4 hb4
  go_wp2_with fail
  go_ret3
  exact ⟨A4, c4, by rw [HP3.out]; rfl, own_base HO4.out HB12.out.size, HB12.out.trans (HB4.out.mono HB12.out.size)⟩

set_option maxRecDepth 100000 in
set_option maxHeartbeats 2000000 in
theorem unframe_no (w : World) (X : Nat → Prop) (A : Option Addr) (c : Nat) (b : Bs) (h : Sl w X 1 (.slice A b.length c) b.length (BVs b)) (hb : b.length ≤ 140737488355328) (hf : ∀ x r, ¬ Fr b x r) :
    Calls Tryz.prog 10 #[.slice A b.length c] w fun e w' => e = .returned (.tuple #[.slice none 0 0, .int .i64 0, .bool false]) ∧ Below w.heap.size w w' := by
  have hnl := nOf_le b
  have hbl : begOf b ≤ 10 := (Cm.enc_len (nOf b)).1
  have hB := bounds_any w X A c b h hb
  obtain ⟨bg, hbg⟩ : ∃ bg, bg = begOf b := ⟨_, rfl⟩
  obtain ⟨en, hen⟩ : ∃ en, en = begOf b + nOf b := ⟨_, rfl⟩
  have hc : b.length ≤ c := by obtain ⟨A0, c0, hv, _, hc, _⟩ := h; injection hv with _ _ e; omega
  rw [← hen, ← hbg] at hB
  by_cases hi : isOf b = true
  · have hi2 := hi
    unfold isOf at hi2
    simp only [Bool.and_eq_true, decide_eq_true_eq] at hi2
    have hq : (le4 (sum (b.take en)) == (b.drop en).take 4) = false := by
      rw [beq_eq_false_iff_ne]
      intro e
      rw [hen] at e
      obtain ⟨x, r, hx⟩ := fr_iff.2 ⟨hi2.1, hi2.2, e⟩
      exact hf x r hx
    rw [hi] at hB
    have hHB := Lib.hid hB
    have hut := fun W => slice_upto A b.length c en (by omega) W
    have sut : Sl w X 1 (.slice A (b.take en).length c) (b.take en).length (BVs (b.take en)) := by
      rw [List.length_take, Nat.min_eq_left (by omega), show BVs (b.take en) = (BVs b).take (en * 1) by simp [BVs]]
      exact h.upto (by omega)
    rw [List.length_take, Nat.min_eq_left (show en ≤ b.length by omega)] at sut
    obtain ⟨A2, r2, s2⟩ := cut_mid w X A c en (en + 4) b h (by omega) (by omega)
    have k2 := fun W => r2 W en (en + 4) rfl (by omega)
    rw [show en + 4 - en = 4 by omega] at s2 k2
    have HS2 := Lib.hid s2
    have HST := Lib.hid sut
    have HTL : Hid ((b.take en).length = en) := Lib.hid (by rw [List.length_take]; omega)
    have HQ := Lib.hid hq
    have he2 : en ≤ 524302 := by omega
    have hw4 : IntKind.i64.wrap ((en : Int) + 4) = (en : Int) + 4 := wrap64 (by omega) (by omega)
    clear hbg hen hB s2 sut r2 h hi hi2 hq hnl hbl hf
    go_enter Tryz.func10, Tryz.ntmps10
    go_wp2_with fail
    refine hHB.out.mono ?_
    rintro e w1 ⟨rfl, hb1⟩
    have HB1 := Lib.hid hb1
    clear hb1
    go_wp2_with fail
    go_region_held3 (fun _ => True) (trivial)
      (first
      | (go_at_call 41; refine (sumform_at _ X A c en (b.take en) HTL.out (HST.out.after HB1.out).drew).mono ?_; rintro e w2 ⟨A3, rfl, hs3, hb2⟩; have HS3 := Lib.hid hs3; have HB2 : Hid (Below w1.heap.size w1 w2) := Lib.hid (below_of_drew hb2); clear hs3 hb2)
      | (go_at_call 15; refine (equal_any _ _ _ _ _ 4 4 _ _ HS3.out ((HS2.out.after HB1.out).after HB2.out)).mono ?_; rintro e w' ⟨rfl, rfl⟩; rw [HQ.out]))
    go_wp2_with fail
    go_ret3
    exact ⟨rfl, HB1.out.trans (HB2.out.mono HB1.out.size)⟩
  · have hi : isOf b = false := by simpa using hi
    rw [hi] at hB
    have hHB := Lib.hid hB
    clear hbg hen hB h hi hnl hbl hf
    go_enter Tryz.func10, Tryz.ntmps10
    go_wp2_with fail
    refine hHB.out.mono ?_
    rintro e w1 ⟨rfl, hb1⟩
    have HB1 := Lib.hid hb1
    clear hb1
    go_wp2_with fail
    go_quiet (fail)
    go_wp2_with fail
    go_ret3
    exact ⟨rfl, below_drewN HB1.out _⟩

end Go.Proofs.YtjoonpkgepkkhaaGreatDoor.Wd

/-
  Plain mathematics of layer 4 (wal): the names of a log's files.
-/
namespace Go.Proofs.YtjoonpkgepkkhaaGreatDoor.Wn
open Go.Lib Wf

/-- A segment's name. -/
def nm (name : Bs) (k : Nat) : Bs := name ++ [46] ++ decDigits k
theorem parse_app (M : Nat) : ∀ (l : Bs) (acc : Nat) (c : UInt8), parseUintM M acc (l ++ [c]) = match parseUintM M acc l with | .ok a => parseUintM M a [c] | .syntax => .syntax | .range => .range
  | [], acc, c => rfl
  | d :: l, acc, c => by
    rw [List.cons_append]
    unfold parseUintM
    split
    · split
      · rfl
      · split
        · rfl
        · exact parse_app M l _ c
    · rfl
theorem u8_of {n : Nat} (h : n < 256) : (UInt8.ofNat n).toNat = n := Cm.toNat_ofNat h
theorem parse_dec : ∀ (n k : Nat), k ≤ n → k < 1000000000000000 → parseUintM 18446744073709551615 0 (decDigits k) = .ok k
  | n, k, hn, hk => by
    rw [decDigits]
    split
    · rename_i h
      simp only [parseUintM]
      rw [u8_of (by omega), if_pos ⟨by omega, by omega⟩, if_neg (by omega), if_neg (by omega)]
      congr 1
      omega
    · rename_i h
      cases n with
      | zero => omega
      | succ n =>
        rw [parse_app, parse_dec n (k / 10) (by omega) (by omega)]
        simp only [parseUintM]
        rw [u8_of (by omega), if_pos ⟨by omega, by omega⟩, if_neg (by omega), if_neg (by omega)]
        congr 1
        omega
theorem dec_ne : ∀ (n k : Nat), k ≤ n → ∃ c l, decDigits k = c :: l ∧ 48 ≤ c.toNat ∧ c.toNat ≤ 57
  | n, k, hn => by
    rw [decDigits]
    split
    · rename_i h
      exact ⟨_, [], rfl, by rw [u8_of (by omega)]; omega, by rw [u8_of (by omega)]; omega⟩
    · rename_i h
      cases n with
      | zero => omega
      | succ n =>
        obtain ⟨c, l, e, h1, h2⟩ := dec_ne n (k / 10) (by omega)
        rw [e]
        exact ⟨c, _, rfl, h1, h2⟩
theorem parse_int {k : Nat} (h : k < 1000000000000000) : parseIntB 64 (decDigits k) = .ok (k : Int) := by
  obtain ⟨c, l, e, h1, h2⟩ := dec_ne k k (Nat.le_refl _)
  have hp := parse_dec k k (Nat.le_refl _) h
  rw [e] at hp ⊢
  unfold parseIntB
  simp only
  rw [if_neg (by omega)]
  have : parseUintB 64 (c :: l) = .ok k := by
    unfold parseUintB
    rw [if_neg (by simp)]
    exact hp
  rw [this]
  simp only
  rw [if_neg (by omega), if_neg (by omega), if_neg (by omega)]
theorem dec_inj {a b : Nat} (ha : a < 1000000000000000) (hb : b < 1000000000000000) (h : decDigits a = decDigits b) : a = b := by
  have h1 := parse_dec a a (Nat.le_refl _) ha
  have h2 := parse_dec b b (Nat.le_refl _) hb
  rw [h, h2] at h1
  injection h1 with h1
  exact h1.symm
theorem nm_inj {name : Bs} {a b : Nat} (ha : a < 1000000000000000) (hb : b < 1000000000000000) (h : nm name a = nm name b) : a = b := by
  unfold nm at h
  exact dec_inj ha hb (List.append_cancel_left h)
theorem dec_len {k : Nat} : ∀ (n : Nat), k < 10 ^ (n + 1) → (decDigits k).length ≤ n + 1
  | 0, h => by rw [decDigits_one (by simpa using h)]; simp
  | n + 1, h => by
    rw [decDigits]
    split
    · simp
    · have hd : k / 10 < 10 ^ (n + 1) := by rw [Nat.pow_succ] at h; omega
      have := dec_len (k := k / 10) n hd
      simp only [List.length_append, List.length_cons, List.length_nil]
      omega
theorem nm_len {name : Bs} {k : Nat} (hk : k < 1000000000000000) : (nm name k).length ≤ name.length + 16 := by
  have := dec_len (k := k) 14 (by omega)
  unfold nm
  simp only [List.length_append, List.length_cons, List.length_nil]
  omega
theorem nm_ne (name : Bs) (k : Nat) : nm name k ≠ [] := by
  unfold nm
  intro h
  have := congrArg List.length h
  simp at this

end Go.Proofs.YtjoonpkgepkkhaaGreatDoor.Wn

/-
  Plain mathematics of layer 3 (disk): lists of files, what each call makes of them and answers.
-/
namespace Go.Proofs.YtjoonpkgepkkhaaGreatDoor.Dm

abbrev Tx := List UInt8
/-- A file: its name, its bytes, how many of them are sure. -/
structure Fl where
  n : Tx
  b : Tx
  d : Nat

/-- The file of a name. -/
def find (L : List Fl) (s : Tx) : Option Fl := L.find? (fun f => f.n == s)
def isIn (L : List Fl) (s : Tx) : Bool := L.any (fun f => f.n == s)
/-- The file of that name, put otherwise. -/
def upd (L : List Fl) (s : Tx) (g : Fl → Fl) : List Fl := L.map (fun f => if f.n = s then g f else f)
def del (L : List Fl) (s : Tx) : List Fl := L.filter (fun f => !(f.n == s))
/-- A file more, where its name stands. -/
def ins (x : Fl) : List Fl → List Fl
  | [] => [x]
  | f :: L => if f.n < x.n then f :: ins x L else x :: f :: L
def used : List Fl → Nat
  | [] => 0
  | f :: L => f.b.length + used L
/-- What a crash leaves of a file. -/
def tear (k : Nat) (f : Fl) : Fl := { n := f.n, b := f.b.take (f.d + k % (f.b.length - f.d + 1)), d := f.d + k % (f.b.length - f.d + 1) }
def size (z : Int) : Nat := if z = -9223372036854775808 then 0 else z.natAbs

theorem find_some {L : List Fl} {s : Tx} {f : Fl} (h : find L s = some f) : f ∈ L ∧ f.n = s := by
  unfold find at h
  exact ⟨List.mem_of_find?_eq_some h, by simpa using List.find?_some h⟩
theorem find_none {L : List Fl} {s : Tx} (h : find L s = none) : ∀ f ∈ L, f.n ≠ s := by
  intro f hf e
  unfold find at h
  rw [List.find?_eq_none] at h
  exact h f hf (by simpa using e)
theorem isIn_iff {L : List Fl} {s : Tx} : isIn L s = true ↔ ∃ f ∈ L, f.n = s := by
  simp [isIn]
theorem isIn_find {L : List Fl} {s : Tx} : isIn L s = (find L s).isSome := by
  cases h : find L s with
  | none =>
    simp only [Option.isSome_none]
    cases hi : isIn L s with
    | false => rfl
    | true =>
      obtain ⟨f, hf, e⟩ := isIn_iff.1 hi
      exact absurd e (find_none h f hf)
  | some f =>
    simp only [Option.isSome_some]
    exact isIn_iff.2 ⟨f, (find_some h).1, (find_some h).2⟩
theorem size_lt (z : Int) (h : -9223372036854775808 ≤ z) (h' : z ≤ 9223372036854775807) : size z ≤ 9223372036854775807 := by
  unfold size
  split <;> omega
theorem used_map {L : List Fl} {g : Fl → Fl} (h : ∀ f ∈ L, (g f).b.length ≤ f.b.length) : used (L.map g) ≤ used L := by
  induction L with
  | nil => exact Nat.le_refl _
  | cons f L ih =>
    simp only [List.map_cons, used]
    have := h f (by simp)
    have := ih (fun x hx => h x (by simp [hx]))
    omega
theorem used_mem {L : List Fl} {f : Fl} (h : f ∈ L) : f.b.length ≤ used L := by
  induction L with
  | nil => cases h
  | cons g L ih =>
    simp only [used]
    rcases List.mem_cons.1 h with rfl | h
    · omega
    · have := ih h
      omega
theorem tear_d {k : Nat} {f : Fl} (h : f.d ≤ f.b.length) : (tear k f).d = (tear k f).b.length ∧ (tear k f).b.length ≤ f.b.length := by
  have hm := Nat.mod_lt k (show 0 < f.b.length - f.d + 1 by omega)
  unfold tear
  simp only [List.length_take]
  omega

/-- No two files have one name, and each name is one that may be. -/
structure GoodL (L : List Fl) (room : Nat) : Prop where
  nodup : (L.map (·.n)).Nodup
  few : L.length ≤ 64
  fits : used L ≤ room
  room : room ≤ 4194304
  name : ∀ f ∈ L, f.n.length ≤ 140737488355328
  done : ∀ f ∈ L, f.d ≤ f.b.length
theorem GoodL.len {L : List Fl} {room : Nat} (h : GoodL L room) {f : Fl} (hf : f ∈ L) : f.b.length ≤ 4194304 := by
  have := used_mem hf
  have := h.fits
  have := h.room
  omega
theorem nodup_eq {L : List Fl} (h : (L.map (·.n)).Nodup) {f g : Fl} (hf : f ∈ L) (hg : g ∈ L) (e : f.n = g.n) : f = g := by
  induction L with
  | nil => cases hf
  | cons x L ih =>
    rw [List.map_cons, List.nodup_cons] at h
    rcases List.mem_cons.1 hf with h1 | h1
    · rcases List.mem_cons.1 hg with h2 | h2
      · rw [h1, h2]
      · exact absurd (List.mem_map.2 ⟨g, h2, by rw [← e, h1]⟩) h.1
    · rcases List.mem_cons.1 hg with h2 | h2
      · exact absurd (List.mem_map.2 ⟨f, h1, by rw [e, h2]⟩) h.1
      · exact ih h.2 h1 h2
theorem find_of {L : List Fl} {f : Fl} (h : (L.map (·.n)).Nodup) (hf : f ∈ L) : find L f.n = some f := by
  cases e : find L f.n with
  | none => exact absurd rfl (find_none e f hf)
  | some g => exact congrArg some (nodup_eq h (find_some e).1 hf (find_some e).2)
theorem map_names {L : List Fl} {g : Fl → Fl} (h : ∀ f, (g f).n = f.n) : (L.map g).map (·.n) = L.map (·.n) := by
  rw [List.map_map]
  exact List.map_congr_left (fun f _ => h f)
theorem upd_names {L : List Fl} {s : Tx} {g : Fl → Fl} (h : ∀ f, (g f).n = f.n) : (upd L s g).map (·.n) = L.map (·.n) := by
  unfold upd
  refine map_names (fun f => ?_)
  split
  · exact h f
  · rfl

end Go.Proofs.YtjoonpkgepkkhaaGreatDoor.Dm

/-
  Words for memory, for layer 3 (disk): a file, the program's disk.
-/
namespace Go.Proofs.YtjoonpkgepkkhaaGreatDoor.Dw
open Go Go.RowKit Ck Kw Dm

/-- How a pointer to a block reads: that block's number. -/
def ptrElem (v : Value) : Option (DataW Unit × List MemPlace) :=
  match v with
  | .pointer none => some (.nil, [])
  | .pointer (some ⟨g, 0, none⟩) => some (.lit (.int .i64 (g : Int)), [])
  | _ => none
theorem ptrElem_mk (g : Nat) : ptrElem (.pointer (some ⟨g, 0, none⟩)) = some (.lit (.int .i64 (g : Int)), []) := rfl
theorem ptrElem_nil : ptrElem (.pointer none) = some (.nil, []) := rfl
/-- Any pointer that reads. -/
def PV (o : Option Nat) : Value := .pointer (o.map fun g => ⟨g, 0, none⟩)
theorem ptrElem_inv {v : Value} {z : DataW Unit × List MemPlace} (h : ptrElem v = some z) : ∃ o, v = PV o ∧ z = ((match o with | none => .nil | some g => .lit (.int .i64 ((g : Nat) : Int))), []) := by
  unfold ptrElem at h
  split at h
  · injection h with h
    exact ⟨none, rfl, h.symm⟩
  · rename_i g
    injection h with h
    exact ⟨some g, rfl, h.symm⟩
  · cases h
theorem ptrElem_at {v : Value} {g : Nat} {ps : List MemPlace} (h : ptrElem v = some (.lit (.int .i64 (g : Int)), ps)) : v = .pointer (some ⟨g, 0, none⟩) := by
  obtain ⟨o, rfl, hz⟩ := ptrElem_inv h
  have h1 := congrArg Prod.fst hz
  cases o with
  | none => simp at h1
  | some k =>
    simp at h1
    have : k = g := by omega
    subst this
    rfl

/-- Block g is a file of these bytes, so many of them sure; all its blocks are in T. -/
def Fw (w : World) (T : Nat → Prop) (g : Nat) (b : Tx) (d : Nat) : Prop :=
  ∃ v, Blk w g 108 #[v, .int .i64 (d : Int)] ∧ w.ownsRow 0 5 1 v b.length (BVs b) ∧ T g ∧ (∀ k, v.ownBlock = some k → T k) ∧ b.length ≤ 4194304 ∧ d ≤ b.length
section
variable {w w' : World} {S T : Nat → Prop} {g d : Nat} {b : Tx}
theorem Fw.ch (h : Fw w T g b d) (c : Ch S w w') (hd : ∀ k, T k → S k → False) : Fw w' T g b d := by
  obtain ⟨v, h1, h2, h3, h4, h5, h6⟩ := h
  exact ⟨v, h1.ch c (fun hs => hd _ h3 hs), own_ch h2 c (fun k hk hs => hd _ (h4 k hk) hs), h3, h4, h5, h6⟩
theorem Fw.weaken (h : Fw w S g b d) (hd : ∀ k, S k → T k) : Fw w T g b d := by
  obtain ⟨v, h1, h2, h3, h4, h5, h6⟩ := h
  exact ⟨v, h1, h2, hd _ h3, fun k hk => hd _ (h4 k hk), h5, h6⟩
theorem Fw.drewN (h : Fw w T g b d) (n : Nat) : Fw (w.drewN n) T g b d := h
theorem Fw.lt (h : Fw w T g b d) : g < w.heap.size := by
  obtain ⟨v, h1, -⟩ := h
  exact h1.lt
end

/-- The map's datum tells where each file lies. -/
def TellsD (D : DataW Unit) (L : List Fl) (G : Tx → Nat) : Prop :=
  (∀ s : Tx, Maps.has D (.string s) = isIn L s) ∧ ∀ f ∈ L, ∀ zd, D.atKey (.string f.n) zd = .lit (.int .i64 (G f.n : Int))

/-- The files of L lie in blocks of S, each in blocks of its own; the map's block is m. -/
def Files (w : World) (S : Nat → Prop) (m : Nat) (L : List Fl) : Prop :=
  ∃ (D : DataW Unit) (G : Tx → Nat) (T : Tx → Nat → Prop), w.ownsMap Tryz.prog 9 ptrElem m 64 D ∧ TellsD D L G ∧ S m ∧ (∀ f ∈ L, Fw w (T f.n) (G f.n) f.b f.d) ∧ (∀ f ∈ L, ∀ k, T f.n k → S k ∧ k ≠ m ∧ k < w.heap.size) ∧ ∀ f ∈ L, ∀ h ∈ L, f.n ≠ h.n → ∀ k, T f.n k → T h.n k → False
/-- Block p is a disk of these files; all its blocks are in S. -/
def Dk (w : World) (S : Nat → Prop) (p : Nat) (L : List Fl) (room : Nat) (off : Bool) : Prop :=
  ∃ m, Blk w p 86 #[.map (some m), .int .i64 (room : Int), .bool off] ∧ S p ∧ Files w (fun k => S k ∧ k ≠ p) m L ∧ GoodL L room
section
variable {w w' : World} {S T : Nat → Prop} {p m room : Nat} {L : List Fl} {off : Bool}
theorem Files.ch (h : Files w S m L) (c : Ch T w w') (hd : ∀ k, S k → T k → False) : Files w' S m L := by
  obtain ⟨D, G, F, h1, h2, h3, h4, h5, h6⟩ := h
  exact ⟨D, G, F, map_ch h1 c (fun ht => hd _ h3 ht), h2, h3, fun f hf => (h4 f hf).ch c (fun k hk ht => hd _ (h5 f hf k hk).1 ht), fun f hf k hk => ⟨(h5 f hf k hk).1, (h5 f hf k hk).2.1, Nat.lt_of_lt_of_le (h5 f hf k hk).2.2 c.size⟩, h6⟩
theorem Files.weaken (h : Files w S m L) (hd : ∀ k, S k → T k) : Files w T m L := by
  obtain ⟨D, G, F, h1, h2, h3, h4, h5, h6⟩ := h
  exact ⟨D, G, F, h1, h2, hd _ h3, h4, fun f hf k hk => ⟨hd _ (h5 f hf k hk).1, (h5 f hf k hk).2⟩, h6⟩
theorem Dk.ch (h : Dk w S p L room off) (c : Ch T w w') (hd : ∀ k, S k → T k → False) : Dk w' S p L room off := by
  obtain ⟨m, h1, h2, h3, h4⟩ := h
  exact ⟨m, h1.ch c (fun ht => hd _ h2 ht), h2, h3.ch c (fun k hk ht => hd _ hk.1 ht), h4⟩
theorem Dk.weaken (h : Dk w S p L room off) (hd : ∀ k, S k → T k) : Dk w T p L room off := by
  obtain ⟨m, h1, h2, h3, h4⟩ := h
  exact ⟨m, h1, hd _ h2, h3.weaken (fun k hk => ⟨hd _ hk.1, hk.2⟩), h4⟩
theorem Dk.drewN (h : Dk w S p L room off) (n : Nat) : Dk (w.drewN n) S p L room off := h
theorem Dk.good (h : Dk w S p L room off) : GoodL L room := by
  obtain ⟨m, -, -, -, h4⟩ := h
  exact h4
theorem Dk.later (h : Dk w S p L room off) (b : Below w.heap.size w w') : Dk w' S p L room off :=
  h.ch (Ch.of_below (S := fun _ => False) b (Nat.le_refl _)) (fun _ _ h => h)
end

theorem law_str : Maps.Keyed Tryz.prog 9 := Maps.string_keyed Tryz.underlying9
theorem zero_ptr (w : World) : (zeroValue 102).run Tryz.prog w = .ok (.pointer none) w := by kernel_rfl
theorem key_str (s : Tx) (h : s.length ≤ maxLen) : keyOf Tryz.prog 9 (.string ⟨s.toArray⟩) = some (.string s) := by
  have := _root_.Go.WideMaps.keyOf_string_mk (P := Tryz.prog) Tryz.underlying9 (s := ⟨s.toArray⟩) (show s.toArray.size ≤ maxLen by simpa using h)
  simpa using this
theorem has_atKey {H : Type} {D : DataW H} {kl : Lit} (h : Maps.has D kl = false) (zd : DataW H) : D.atKey kl zd = zd := by
  cases D <;> first | rfl | skip
  rename_i es
  simp only [Maps.has] at h
  simp only [DataW.atKey]
  cases hf : es.find? (fun e => e.1.sameKey kl) with
  | none => simp
  | some x =>
    have h1 := List.find?_some hf
    have h2 := List.mem_of_find?_eq_some hf
    rw [List.any_eq_false] at h
    exact absurd h1 (h x h2)

end Go.Proofs.YtjoonpkgepkkhaaGreatDoor.Dw

/-
  Contracts of the program's file: sync, cut, tear, clone.
-/
namespace Go.Proofs.YtjoonpkgepkkhaaGreatDoor.Da
open Go Go.RowKit Ck Kw Ga Dm Dw
attribute [local go_sem ↓] Go.wp_at_zero Go.wp_at_succ
set_option linter.unusedVariables false

theorem fsync_any (w : World) (T : Nat → Prop) (g d : Nat) (b : Tx) (h : Fw w T g b d) :
    Calls Tryz.prog 70 #[.pointer (some ⟨g, 0, none⟩)] w fun e w' => e = .returned (.tuple #[]) ∧ Fw w' T g b b.length ∧ Ch T w w' := by
  obtain ⟨v, h1, h2, h3, h4, h5, h6⟩ := h
  obtain ⟨A, c, rfl⟩ := own_shape h2
  have c0 : w.cell? ⟨g, 0, none⟩ = some (.slice A b.length c) := h1.cell 0
  have c1 : w.cell? ⟨g, 1, none⟩ = some (.int .i64 (d : Int)) := h1.cell 1
  have f1 : w.frozen? ⟨g, 1, none⟩ = false := h1.frozen 1
  have HH := Lib.hid (And.intro h1 (And.intro h2 (And.intro h3 (And.intro h4 h5))))
  have hff := own_far h2 h1 (by decide)
  have HF := Lib.hid hff
  clear h1 h2 h3 h4 h5 h6 hff
  go_enter Tryz.func70, Tryz.ntmps70
  go_wp2
  go_end0
  obtain ⟨h1, h2, h3, h4, h5⟩ := HH.out
  refine ⟨rfl, ⟨_, (h1.set_ 1 _), ?_, h3, h4, h5, Nat.le_refl _⟩, (Ch.refl T w).setCell (fun _ => h3) _⟩
  exact own_ch h2 ((Ch.refl (fun k => k = g) w).setCell (fun _ => rfl) _) (fun k hk e => HF.out (by rw [hk, e]))

theorem BVs_take (b : List UInt8) (k : Nat) : BVs (b.take k) = (BVs b).take (k * 1) := by simp [BVs]
theorem BVs_drop (b : List UInt8) (k : Nat) : BVs (b.drop k) = (BVs b).drop (k * 1) := by simp [BVs]
theorem min_int (x y : Nat) : min (x : Int) (y : Int) = ((min x y : Nat) : Int) := by omega

set_option maxHeartbeats 400000 in
theorem fcut_any (w : World) (T : Nat → Prop) (g d : Nat) (b : Tx) (k : Nat) (hk : k ≤ b.length) (h : Fw w T g b d) :
    Calls Tryz.prog 99 #[.pointer (some ⟨g, 0, none⟩), .int .i64 (k : Int)] w fun e w' => e = .returned (.tuple #[]) ∧ Fw w' (Up T w w') g (b.take k) (min d k) ∧ Ch T w w' := by
  obtain ⟨v, h1, h2, h3, h4, h5, h6⟩ := h
  obtain ⟨A, c, rfl⟩ := own_shape h2
  have c0 : w.cell? ⟨g, 0, none⟩ = some (.slice A b.length c) := h1.cell 0
  have hsl : Sl w (fun _ => False) 1 (.slice A b.length c) b.length (BVs b) := Sl.of_own h2 (fun _ _ _ h => h)
  have hcc : b.length ≤ c := by
    obtain ⟨A0, c0, hv, _, hc, _⟩ := hsl
    injection hv with _ _ e
    omega
  have hs := fun W => slice_upto A b.length c k (by omega) W
  have hut : Sl w (fun _ => False) 1 (.slice A k c) k (BVs (b.take k)) := by rw [BVs_take]; exact hsl.upto hk
  have HU := Lib.hid hut
  have HH := Lib.hid (And.intro h1 (And.intro h2 (And.intro h3 (And.intro h4 (And.intro h5 h6)))))
  clear h1 h2 h3 h4 h5 h6 hsl hcc hut
  go_enter Tryz.func99, Tryz.ntmps99
  go_wp2_with (go_at_call 44; refine (clone_sh (fun _ => False) _ k (b.take k) _ HU.out (by have := HH.out.2.2.2.2.1; omega)).mono ?_; rintro e w2 ⟨A2, c2, rfl, ho2, hb2⟩; have k1 := HH.out.1.below hb2 HH.out.1.lt; have c2' := k1.cell 0; have c1 := k1.cell 1; have f0 := k1.frozen 0; have f1 := k1.frozen 1; simp only [List.getElem?_toArray, List.getElem?_cons_zero, List.getElem?_cons_succ] at c1 c2')
  rw [min_int]
  go_end0
  obtain ⟨h1, h2, h3, h4, h5, h6⟩ := HH.out
  have hlen : (b.take k).length = k := by rw [List.length_take]; omega
  have hg2 := own_far ho2 k1 (by decide)
  have ho3 : w2.ownsRow 0 5 1 (.slice A2 k c2) (b.take k).length (BVs (b.take k)) := by
    have := own_base (b' := 0) ho2 (Nat.zero_le _)
    rw [hlen] at this ⊢
    exact this
  rw [hlen] at ho2 hg2
  have hc : Ch (fun k => k = g) w2 ((w2.setCell ⟨g, 0, none⟩ (.slice A2 k c2)).setCell ⟨g, 1, none⟩ (.int .i64 ((min d k : Nat) : Int))) := ((Ch.refl (fun k => k = g) w2).setCell (p := ⟨g, 0, none⟩) (fun _ => rfl) _).setCell (p := ⟨g, 1, none⟩) (fun _ => rfl) _
  have hsz := hb2.size
  refine ⟨rfl, ⟨_, (k1.set_ 0 _).set_ 1 _, own_ch ho3 hc (fun j hj e => hg2 (by rw [hj, e])), .inl h3, fun j hj => .inr ?_, by omega, by omega⟩, ((Ch.of_below hb2 (Nat.le_refl _)).setCell (fun _ => h3) _).setCell (fun _ => h3) _⟩
  have := ho2.lt j hj
  exact ⟨by omega, Nat.lt_of_lt_of_le this.2 hc.size⟩

theorem tear_nat (k d n : Nat) (h : d ≤ n) : (d : Int) + Int.tmod (k : Int) (((n : Int) - (d : Int)) + 1) = ((d + k % (n - d + 1) : Nat) : Int) := by
  have e : ((n : Int) - (d : Int)) + 1 = ((n - d + 1 : Nat) : Int) := by omega
  rw [e]
  rw [Int.tmod_eq_emod_of_nonneg (by omega), ← Int.natCast_emod, ← Int.natCast_add]

set_option maxHeartbeats 4000000 in
theorem ftear_any (w : World) (T : Nat → Prop) (g d : Nat) (b : Tx) (k : Nat) (h : Fw w T g b d) :
    Calls Tryz.prog 62 #[.pointer (some ⟨g, 0, none⟩), .int .i64 (k : Int)] w fun e w' => e = .returned (.tuple #[]) ∧ Fw w' (Up T w w') g (b.take (d + k % (b.length - d + 1))) (d + k % (b.length - d + 1)) ∧ Ch T w w' := by
  have HF := Lib.hid h
  obtain ⟨v, h1, h2, h3, h4, h5, h6⟩ := h
  obtain ⟨A, c, rfl⟩ := own_shape h2
  have c0 : w.cell? ⟨g, 0, none⟩ = some (.slice A b.length c) := h1.cell 0
  have c1 : w.cell? ⟨g, 1, none⟩ = some (.int .i64 (d : Int)) := h1.cell 1
  have hm := Nat.mod_lt k (show 0 < b.length - d + 1 by omega)
  have hle : d + k % (b.length - d + 1) ≤ b.length := by omega
  have e3 := tear_nat k d b.length h6
  obtain ⟨z, hz⟩ : ∃ z, z = Int.tmod (k : Int) (((b.length : Int) - (d : Int)) + 1) := ⟨_, rfl⟩
  rw [← hz] at e3
  have hz0 : 0 ≤ z := by omega
  have hz1 : z ≤ 4194304 := by omega
  have HZ := Lib.hid hz
  have HE := Lib.hid e3
  have HL := Lib.hid hle
  have HH := Lib.hid (And.intro h1 (And.intro h2 (And.intro h3 h4)))
  clear h1 h2 h3 h4 hm hle e3 hz
  go_enter Tryz.func62, Tryz.ntmps62
  go_wp2_with fail
  go_quiet (fail)
  go_wp2_with fail
  generalize hy : ((b.length : Int) - (d : Int)) = y at *
  have hy0 : 0 ≤ y := by omega
  have hy1 : y ≤ 4194304 := by omega
  clear hy
  have hne1 : ((y + 1) == 0) = false := by rw [beq_eq_false_iff_ne]; omega
  have hne2 : ¬ (y + 1 = 0) := by omega
  have hzz := HZ.out.symm
  have HD := Lib.hid (show Fw (w.drewN nq).drew T g b d from HF.out)
  have hw1 : IntKind.i64.wrap (y + 1) = y + 1 := wrap64 (by omega) (by omega)
  have hw2 : IntKind.i64.wrap ((d : Int) + z) = (d : Int) + z := wrap64 (by omega) (by omega)
  go_region_with (go_at_call 99; rw [HE.out]; refine (fcut_any _ T g d b _ HL.out HD.out).mono ?_; rintro e w2 ⟨rfl, hF2, hC2⟩)
  all_goals
    go_wp2_with (go_at_call 70; refine (fsync_any _ _ g _ _ hF2).mono ?_; rintro e w3 ⟨rfl, hF3, hC3⟩)
    go_end0
    have hlen : (b.take (d + k % (b.length - d + 1))).length = d + k % (b.length - d + 1) := by rw [List.length_take]; have := HL.out; omega
    rw [hlen] at hF3
    have hC2 := ch_of_drewN hC2
    exact ⟨rfl, hF3.weaken (fun k hk => up_mono (a := w) (b := w2) hC3.size hk), ch_two hC2 hC3⟩

end Go.Proofs.YtjoonpkgepkkhaaGreatDoor.Da

/-
  Contract of the program's file: put.
-/
namespace Go.Proofs.YtjoonpkgepkkhaaGreatDoor.Db
open Go Go.RowKit Ck Kw Ga Dm Dw Da
attribute [local go_sem ↓] Go.wp_at_zero Go.wp_at_succ
set_option linter.unusedVariables false

/-- Bytes written over others from k on. -/
def wr (b : Tx) (k : Nat) (x : Tx) : Tx := b.take k ++ x ++ b.drop (k + x.length)
theorem wr_len (b : Tx) (k : Nat) (x : Tx) (hk : k ≤ b.length) : (wr b k x).length = max b.length (k + x.length) := by
  simp only [wr, List.length_append, List.length_take, List.length_drop]
  omega
theorem wr_parts (b x : Tx) (k j : Nat) (hj : j = min x.length (b.length - k)) (hk : k ≤ b.length) : (b.take k ++ x.take j ++ b.drop (k + j)) ++ x.drop j = wr b k x := by
  unfold wr
  by_cases h : x.length ≤ b.length - k
  · have e : j = x.length := by omega
    subst e
    simp
  · have e1 : b.drop (k + j) = [] := List.drop_eq_nil_of_le (by omega)
    have e2 : b.drop (k + x.length) = [] := List.drop_eq_nil_of_le (by omega)
    rw [e1, e2]
    simp only [List.append_nil, List.append_assoc, List.take_append_drop]
theorem over_len (b x : Tx) (k j : Nat) (hj : j = min x.length (b.length - k)) (hk : k ≤ b.length) : (b.take k ++ x.take j ++ b.drop (k + j)).length = b.length := by
  simp only [List.length_append, List.length_take, List.length_drop]
  omega

theorem cur_over {α : Type} (cur : List α) (n k j : Nat) (y : List α) (hy : y.length = j) (hkj : k + j ≤ n) (hn : n ≤ cur.length) :
    (cur.take k ++ y ++ cur.drop (k + j)).take n = (cur.take n).take k ++ y ++ (cur.take n).drop (k + j) := by
  have h1 : (cur.take k).length = k := by rw [List.length_take]; omega
  rw [List.take_take, Nat.min_eq_left (by omega), List.drop_take]
  rw [List.take_append, List.take_of_length_le (by simp only [List.length_append, h1, hy]; omega)]
  congr 2
  simp only [List.length_append, h1, hy]

/-- copy into a row of one's own, from k on. -/
theorem run_copy_own (w : World) (X : Nat → Prop) (A B : Option Addr) (c d k : Nat) (b x : Tx) (ho : w.ownsRow 0 5 1 (.slice A b.length c) b.length (BVs b)) (hk : k ≤ b.length)
    (hx : Sl w X 1 (.slice B x.length d) x.length (BVs x)) (A' : Option Addr) (hA : ∀ ad, A = some ad → k < b.length → A' = some (ad.add (k * 1))) (ty : TypeId) :
    ∃ w', (Builtin.copy_ #[22, 22] ty #[.slice A' (b.length - k) (c - k), .slice B x.length d]).run Tryz.prog w = .ok (.int .i64 ((min x.length (b.length - k) : Nat) : Int)) w' ∧
      w'.ownsRow 0 5 1 (.slice A b.length c) b.length (BVs (b.take k ++ x.take (min x.length (b.length - k)) ++ b.drop (k + min x.length (b.length - k)))) ∧ Ch (fun q => (Value.slice A b.length c).ownBlock = some q) w w' := by
  obtain ⟨j, hj⟩ : ∃ j, j = min x.length (b.length - k) := ⟨_, rfl⟩
  rw [← hj]
  have hs : (Tryz.prog.info? 5).map (·.size) = some 1 := by kernel_rfl
  by_cases h0 : j = 0
  · refine ⟨w, ?_, ?_, Ch.refl _ _⟩
    · rw [run_copy_none (P := Tryz.prog) w 22 22 ty 5 A' B (b.length - k) (c - k) x.length d Tryz.underlying22 hs (by show min x.length (b.length - k) = 0; omega), h0]
      rfl
    · rw [h0]
      simpa using ho
  · obtain ⟨Ax, cx, hv, hl, hc, hm, hcell⟩ := hx
    injection hv with e1 _ e3
    subst e1; subst e3
    obtain ⟨ad, rfl, hb, hX, hcells⟩ := hcell (by omega)
    rcases ho.2 with ⟨hn, h1⟩ | ⟨g, cap, cur, hv, hg, hr, h1, h2, h3, h4⟩
    · omega
    · injection hv with e1 _ e3
      subst e1; subst e3
      have ha : (⟨g, 0, none⟩ : Addr).add (k * 1) = ⟨g, k, none⟩ := by unfold Addr.add; split <;> simp_all
      rw [hA _ rfl (by omega), ha]
      have hlen : (BVs (x.take j)).length = j := by rw [BVs_len, List.length_take]; omega
      have hsz : cur.toList.length = c * 1 := by simpa using h3
      have hrun := run_copy_row (P := Tryz.prog) w 22 22 ty 5 g k (b.length - k) (c - k) ad x.length d cur 5 (BVs (x.take j)) Tryz.underlying22 hs hr (by rw [hlen]; exact hj) (fun i u hu => hcells i u (by
        rw [BVs_take] at hu
        rw [List.getElem?_take] at hu
        split at hu
        · exact hu
        · cases hu)) (by rw [hlen]; have : cur.size = c * 1 := h3; omega) (BVs_one _)
      rw [hlen] at hrun
      refine ⟨w.setRow g (cur.toList.take k ++ BVs (x.take j) ++ cur.toList.drop (k + j)).toArray, hrun, ?_, ⟨rfl, rfl, rfl, by simp [World.setRow], fun q hq hne => setRow_other w g q _ (fun e => hne (by rw [e]; rfl))⟩⟩
      refine ⟨by rw [BVs_len, over_len b x k j hj hk]; omega, .inr ⟨g, c, _, rfl, hg, setRow_heap w g _ _ _ _ hr, h1, h2, ?_, ?_⟩⟩
      · simp only [List.size_toArray, List.length_append, List.length_take, List.length_drop, hlen]
        omega
      · show (cur.toList.take k ++ BVs (x.take j) ++ cur.toList.drop (k + j)).take (b.length * 1) = _
        rw [Nat.mul_one, cur_over cur.toList b.length k j _ hlen (by omega) (by omega)]
        rw [Nat.mul_one] at h4
        rw [h4]
        simp [BVs]

theorem fput_end {w w1 w4 : World} {T : Nat → Prop} {g d k j n : Nat} {b x : Tx} {v v4 : Value} (h1 : Blk w g 108 #[v, .int .i64 (d : Int)]) (h2 : w.ownsRow 0 5 1 v b.length (BVs b)) (h3 : T g) (h4 : ∀ k, v.ownBlock = some k → T k) (h6 : d ≤ b.length)
    (hc1 : Ch (fun q => v.ownBlock = some q) w w1) (hff : v.ownBlock ≠ some g) (q4 : Blk w4 g 108 #[v, .int .i64 (d : Int)]) (happ : Appended w1 0 5 1 v n (BVs (b.take k ++ x.take j ++ b.drop (k + j)) ++ BVs (x.drop j)) v4 w4)
    (hn : n = (wr b k x).length) (hfin : (b.take k ++ x.take j ++ b.drop (k + j)) ++ x.drop j = wr b k x) (hwl : (wr b k x).length = max b.length (k + x.length)) (hr : k + x.length ≤ 4194304) (h5 : b.length ≤ 4194304) :
    Fw ((w4.setCell ⟨g, 0, none⟩ v4).setCell ⟨g, 1, none⟩ (.int .i64 (min (d : Int) (k : Int)))) (Up T w ((w4.setCell ⟨g, 0, none⟩ v4).setCell ⟨g, 1, none⟩ (.int .i64 (min (d : Int) (k : Int))))) g (wr b k x) (min d k) ∧
      Ch T w ((w4.setCell ⟨g, 0, none⟩ v4).setCell ⟨g, 1, none⟩ (.int .i64 (min (d : Int) (k : Int)))) := by
  rw [min_int]
  obtain ⟨ho, hg, hv⟩ := happ
  rw [hn, ← BVs_app, hfin] at ho
  have hs1 := hc1.size
  have hs4 := hg.size
  have hgl := h1.lt
  have hc2 : Ch (fun k => k = g) w4 ((w4.setCell ⟨g, 0, none⟩ v4).setCell ⟨g, 1, none⟩ (.int .i64 ((min d k : Nat) : Int))) := ((Ch.refl (fun k => k = g) w4).setCell (p := ⟨g, 0, none⟩) (fun _ => rfl) _).setCell (p := ⟨g, 1, none⟩) (fun _ => rfl) _
  have hs5 := hc2.size
  have hvg : ∀ q, v4.ownBlock = some q → q ≠ g := fun q hq e => by
    rcases hv with hv | hv
    · exact hff (by rw [← hv, hq, e])
    · rw [hv] at hq
      injection hq with hq
      omega
  refine ⟨⟨v4, (q4.set_ 0 _).set_ 1 _, own_ch ho hc2 (fun q hq e => hvg q hq e), .inl h3, fun q hq => ?_, by omega, by rw [hwl]; omega⟩, ?_⟩
  · have hlt := (ho.lt q hq).2
    rcases hv with hv | hv
    · exact .inl (h4 q (by rw [← hv, hq]))
    · rw [hv] at hq
      injection hq with hq
      exact .inr ⟨by omega, by omega⟩
  · have hc4 : Ch T w w4 := (hc1.mono (T := T) (fun q _ hq => h4 q hq)).trans (Ch.of_grown (S := T) hg (fun q hq _ => h4 q hq)) (fun _ _ h => h)
    exact (hc4.setCell (fun _ => h3) _).setCell (fun _ => h3) _

set_option maxRecDepth 100000 in
set_option maxHeartbeats 4000000 in
theorem fput_any (w : World) (T X : Nat → Prop) (g d k : Nat) (b x : Tx) (B : Option Addr) (c : Nat) (hk : k ≤ b.length) (h : Fw w T g b d) (hx : Sl w X 1 (.slice B x.length c) x.length (BVs x)) (hX : ∀ k, T k → X k) (hr : k + x.length ≤ 4194304) :
    Calls Tryz.prog 102 #[.pointer (some ⟨g, 0, none⟩), .int .i64 (k : Int), .slice B x.length c] w fun e w' => e = .returned (.tuple #[]) ∧ Fw w' (Up T w w') g (wr b k x) (min d k) ∧ Ch T w w' := by
  obtain ⟨v, h1, h2, h3, h4, h5, h6⟩ := h
  obtain ⟨A, c0, rfl⟩ := own_shape h2
  have p0 : w.cell? ⟨g, 0, none⟩ = some (.slice A b.length c0) := h1.cell 0
  have hcc : b.length ≤ c0 := by
    obtain ⟨A0, _, hv, _, hc, _⟩ := Sl.of_own (X := fun _ => False) h2 (fun _ _ _ h => h)
    injection hv with _ _ e
    omega
  have hxc : x.length ≤ c := by
    obtain ⟨A0, _, hv, _, hc, _⟩ := hx
    injection hv with _ _ e
    omega
  obtain ⟨A', hs1, hA'⟩ := slice_from A b.length c0 k hk hcc
  obtain ⟨w1, hrun, ho1, hc1⟩ := run_copy_own w X A B c0 c k b x h2 hk hx A' hA' 3
  obtain ⟨j, hj⟩ : ∃ j, j = min x.length (b.length - k) := ⟨_, rfl⟩
  rw [← hj] at hrun ho1
  have hjx : j ≤ x.length := by omega
  obtain ⟨B', hs2, hB'⟩ := slice_from B x.length c j hjx hxc
  have hown1 : ∀ q, (Value.slice A b.length c0).ownBlock = some q → q < w.heap.size := fun q hq => (h2.lt q hq).2
  have hx1 : Sl w1 X 1 (.slice B' (x.length - j) (c - j)) (x.length - j) (BVs (x.drop j)) := by
    rw [BVs_drop]
    exact (hx.ch hc1 (fun q _ hq => hX q (h4 q hq))).cut hjx B' hB'
  have hff := own_far h2 h1 (by decide)
  have q1 : Blk w1 g 108 #[.slice A b.length c0, .int .i64 (d : Int)] := h1.ch hc1 (fun e => hff e)
  obtain ⟨i0, hi0, hz0, hz1, hz2⟩ := info_parts info_u8
  have HX1 := Lib.hid hx1
  have HO1 := Lib.hid ho1
  have HQ1 := Lib.hid q1
  have HC1 := Lib.hid hc1
  have HF := Lib.hid hff
  have HH := Lib.hid (And.intro h1 (And.intro h2 (And.intro h3 h4)))
  have HJ := Lib.hid hj
  have HXX := Lib.hid (And.intro hx hX)
  have c1 : w1.cell? ⟨g, 0, none⟩ = some (.slice A b.length c0) := q1.cell 0
  have hov := over_len b x k j hj hk
  have hfin := wr_parts b x k j hj hk
  have hwl := wr_len b k x hk
  have HV := Lib.hid (And.intro hov (And.intro hfin hwl))
  have hj0 : (j : Int) ≤ (x.length : Int) := by omega
  clear hx hX h1 h2 h3 h4 hA' hc1 ho1 hj hB' hown1 hx1 hff q1 hov hfin hwl
  go_enter Tryz.func102, Tryz.ntmps102
  go_wp2_with fail
  go_region_law ((refine step_append_sh (by rfl) (.tmp 19) (.tmp 22) _ (by rfl) 0 5 i0 _ 1 1 Tryz.underlying22 hi0 hz0 hz1 hz2 rfl (by omega) (.slice A b.length c0) b.length _ (by rfl) (show w1.drew.ownsRow 0 _ 1 _ b.length _ from HO1.out) X _ (x.length - j) (BVs (x.drop j)) (by rfl) (show Sl w1.drew X _ _ _ _ from HX1.out) (BVs_one _) (by simp only [maxLen]; omega) (by omega) (Nat.zero_le _) ?_; intro A4 c4 w4 happ; have happ := appended_drew happ; have q4 := HQ1.out.grown happ.2.1 (Ne.symm HF.out); have g0 := q4.cell 0; have g1 := q4.cell 1; have f0 := q4.frozen 0; have f1 := q4.frozen 1; simp only [List.getElem?_toArray, List.getElem?_cons_zero, List.getElem?_cons_succ] at g0 g1; have HQ4 := Lib.hid q4; have HAP := Lib.hid happ; clear q4 happ))
  all_goals
    go_wp2
    go_end0
    exact ⟨rfl, fput_end HH.out.1 HH.out.2.1 HH.out.2.2.1 HH.out.2.2.2 h6 HC1.out HF.out HQ4.out HAP.out (by have := HV.out.2.2; have := HJ.out; omega) HV.out.2.1 HV.out.2.2 hr h5⟩

end Go.Proofs.YtjoonpkgepkkhaaGreatDoor.Db
