/-
  Plain mathematics of layer 4 (wal): the sum (CRC-32) as a map on numbers, and why a burst of at most 32 bits shows. No program is named here.
-/
import Derived.Test.YtjjfhbbaabakmaaGreatDoorWD01
import Derived.Test.YtjjfhbbaabakmaaGreatDoorWD02
import Derived.Test.YtjjfhbbaabakmaaGreatDoorWD03
namespace Go.Proofs.YtjjfhbbaabakmaaGreatDoor.Wc
set_option linter.unusedSimpArgs false
set_option linter.unusedVariables false

/-- One bit further. -/
def T (r : Nat) : Nat := if r % 2 = 1 then (r / 2) ^^^ 3988292384 else r / 2
/-- So many bits further. -/
def Tn : Nat → Nat → Nat
  | 0, r => r
  | k + 1, r => Tn k (T r)
/-- The remainder behind some bytes. -/
def crc : List UInt8 → Nat → Nat
  | [], r => r
  | c :: l, r => crc l (Tn 8 (r ^^^ c.toNat))
def ones : Nat := 4294967295
/-- The sum of some bytes. -/
def sum (l : List UInt8) : Nat := ones ^^^ crc l ones
/-- A sum as it stands behind its bytes. -/
def le4 (s : Nat) : List UInt8 := [UInt8.ofNat (s % 256), UInt8.ofNat (s / 256 % 256), UInt8.ofNat (s / 65536 % 256), UInt8.ofNat (s / 16777216 % 256)]

theorem xor_half (a b : Nat) : (a ^^^ b) / 2 = (a / 2) ^^^ (b / 2) := by
  have := Nat.xor_div_two_pow (a := a) (b := b) (n := 1)
  simpa using this
theorem xor_two (a b : Nat) : (a ^^^ b) % 2 = (a % 2 + b % 2) % 2 := by
  have h := Nat.xor_mod_two_pow (a := a) (b := b) (n := 1)
  rw [Nat.pow_one] at h
  rw [h]
  rcases Nat.mod_two_eq_zero_or_one a with ha | ha <;> rcases Nat.mod_two_eq_zero_or_one b with hb | hb <;> rw [ha, hb] <;> rfl
theorem xor_lt {a b : Nat} (ha : a < 4294967296) (hb : b < 4294967296) : a ^^^ b < 4294967296 := Nat.xor_lt_two_pow (n := 32) ha hb
theorem T_xor (a b : Nat) : T (a ^^^ b) = T a ^^^ T b := by
  unfold T
  rw [xor_half, xor_two]
  have hc : ∀ x y p : Nat, (x ^^^ p) ^^^ y = (x ^^^ y) ^^^ p := fun x y p => by rw [Nat.xor_assoc, Nat.xor_comm p y, Nat.xor_assoc]
  rcases Nat.mod_two_eq_zero_or_one a with ha | ha <;> rcases Nat.mod_two_eq_zero_or_one b with hb | hb <;> simp only [ha, hb]
  · rfl
  · show (a / 2 ^^^ b / 2) ^^^ 3988292384 = a / 2 ^^^ (b / 2 ^^^ 3988292384)
    rw [Nat.xor_assoc]
  · show (a / 2 ^^^ b / 2) ^^^ 3988292384 = (a / 2 ^^^ 3988292384) ^^^ (b / 2)
    rw [hc]
  · show a / 2 ^^^ b / 2 = (a / 2 ^^^ 3988292384) ^^^ (b / 2 ^^^ 3988292384)
    rw [hc, Nat.xor_assoc, Nat.xor_assoc, Nat.xor_self, Nat.xor_zero]
theorem Tn_xor : ∀ (k a b : Nat), Tn k (a ^^^ b) = Tn k a ^^^ Tn k b
  | 0, _, _ => rfl
  | k + 1, a, b => by rw [Tn, T_xor, Tn_xor k]; rfl
theorem T_lt {r : Nat} (h : r < 4294967296) : T r < 4294967296 := by
  unfold T
  split
  · exact xor_lt (by omega) (by omega)
  · omega
theorem Tn_lt : ∀ (k : Nat) {r : Nat}, r < 4294967296 → Tn k r < 4294967296
  | 0, _, h => h
  | k + 1, _, h => Tn_lt k (T_lt h)
theorem Tn_add : ∀ (i j r : Nat), Tn (i + j) r = Tn j (Tn i r)
  | 0, j, r => by rw [Nat.zero_add]; rfl
  | i + 1, j, r => by rw [Nat.succ_add]; exact Tn_add i j (T r)
theorem xor_zero_iff {a b : Nat} (h : a ^^^ b = 0) : a = b := by
  have h2 : a ^^^ b ^^^ b = 0 ^^^ b := by rw [h]
  rwa [Nat.xor_assoc, Nat.xor_self, Nat.xor_zero, Nat.zero_xor] at h2
theorem T_zero {r : Nat} (h : r < 4294967296) (h0 : T r = 0) : r = 0 := by
  unfold T at h0
  split at h0
  · have := xor_zero_iff h0
    omega
  · omega
theorem Tn_zero : ∀ (k : Nat) {r : Nat}, r < 4294967296 → Tn k r = 0 → r = 0
  | 0, _, _, h => h
  | k + 1, _, h, h0 => T_zero h (Tn_zero k (T_lt h) h0)
theorem byte_lt (c : UInt8) : c.toNat < 4294967296 := by have := c.toNat_lt; omega
theorem crc_lt : ∀ (l : List UInt8) {r : Nat}, r < 4294967296 → crc l r < 4294967296
  | [], _, h => h
  | _ :: l, _, h => crc_lt l (Tn_lt 8 (xor_lt h (byte_lt _)))
theorem crc_app : ∀ (l m : List UInt8) (r : Nat), crc (l ++ m) r = crc m (crc l r)
  | [], _, _ => rfl
  | _ :: l, m, _ => crc_app l m _
theorem crc_xor : ∀ (l : List UInt8) (r e : Nat), crc l (r ^^^ e) = crc l r ^^^ Tn (8 * l.length) e
  | [], r, e => rfl
  | c :: l, r, e => by
    rw [crc, crc, show r ^^^ e ^^^ c.toNat = (r ^^^ c.toNat) ^^^ e by rw [Nat.xor_assoc, Nat.xor_comm e, Nat.xor_assoc], Tn_xor, crc_xor l, List.length_cons, show 8 * (l.length + 1) = 8 + 8 * l.length by omega, Tn_add]

/-- A bit on its way down. -/
theorem T_even (r : Nat) : T (2 * r) = r := by unfold T; rw [if_neg (by omega)]; omega
theorem Tn_pow : ∀ (i v : Nat), Tn i (2 ^ i * v) = v
  | 0, v => by simp [Tn]
  | i + 1, v => by rw [Tn, Nat.pow_succ, show 2 ^ i * 2 * v = 2 * (2 ^ i * v) by rw [Nat.mul_comm (2 ^ i) 2, Nat.mul_assoc], T_even]; exact Tn_pow i v

/-- A bit of some bytes is another one. -/
def flip (l : List UInt8) (k : Nat) : List UInt8 := l.modify (k / 8) (fun c => c ^^^ UInt8.ofNat (2 ^ (k % 8)))
theorem flip_len (l : List UInt8) (k : Nat) : (flip l k).length = l.length := by simp [flip]
theorem flip_cons_lo (c : UInt8) (l : List UInt8) {k : Nat} (h : k < 8) : flip (c :: l) k = (c ^^^ UInt8.ofNat (2 ^ k)) :: l := by
  unfold flip
  rw [Nat.div_eq_of_lt h, Nat.mod_eq_of_lt h]
  rfl
theorem flip_cons_hi (c : UInt8) (l : List UInt8) (k : Nat) : flip (c :: l) (k + 8) = c :: flip l k := by
  unfold flip
  rw [show (k + 8) / 8 = k / 8 + 1 by omega, show (k + 8) % 8 = k % 8 by omega]
  rfl
theorem pow_lt {k : Nat} (h : k < 8) : 2 ^ k < 256 := Nat.pow_lt_pow_right (by omega) h
theorem crc_flip : ∀ (l : List UInt8) (k r : Nat), k < 8 * l.length → crc (flip l k) r = crc l r ^^^ Tn (8 * l.length - k) 1
  | [], k, r, h => absurd h (by simp)
  | c :: l, k, r, h => by
    by_cases hk : k < 8
    · rw [flip_cons_lo c l hk, crc, crc, UInt8.toNat_xor, Cm.toNat_ofNat (pow_lt hk), ← Nat.xor_assoc, Tn_xor, crc_xor, List.length_cons]
      congr 1
      rw [show 8 * (l.length + 1) - k = (8 - k) + 8 * l.length by omega, Tn_add]
      congr 1
      have h1 := Tn_pow k 1
      rw [Nat.mul_one] at h1
      rw [show Tn 8 (2 ^ k) = Tn (k + (8 - k)) (2 ^ k) by rw [show k + (8 - k) = 8 by omega], Tn_add, h1]
    · obtain ⟨j, rfl⟩ : ∃ j, k = j + 8 := ⟨k - 8, by omega⟩
      rw [List.length_cons] at h
      rw [flip_cons_hi, crc, crc, crc_flip l j _ (by omega), List.length_cons]
      congr 2
      omega

/-- The first i bits of a burst, so many at the most. -/
def burst (l : List UInt8) (first many bits : Nat) : Nat → List UInt8
  | 0 => l
  | i + 1 => if first + i < many ∧ bits / 2 ^ i % 2 = 1 then flip (burst l first many bits i) (first + i) else burst l first many bits i
/-- What they are, as a number. -/
def mask (first many bits : Nat) : Nat → Nat
  | 0 => 0
  | i + 1 => if first + i < many ∧ bits / 2 ^ i % 2 = 1 then mask first many bits i ^^^ 2 ^ i else mask first many bits i
theorem burst_len (l : List UInt8) (first many bits : Nat) : ∀ i, (burst l first many bits i).length = l.length
  | 0 => rfl
  | i + 1 => by
    rw [burst]
    split
    · rw [flip_len, burst_len l first many bits i]
    · exact burst_len l first many bits i
theorem mask_lt (first many bits : Nat) : ∀ i, mask first many bits i < 2 ^ i
  | 0 => by simp [mask]
  | i + 1 => by
    have ih := mask_lt first many bits i
    have h2 : 2 ^ i < 2 ^ (i + 1) := Nat.pow_lt_pow_right (by omega) (by omega)
    rw [mask]
    split
    · exact Nat.xor_lt_two_pow (by omega) h2
    · omega
theorem crc_burst {l : List UInt8} {first many bits r : Nat} (hm : many = 8 * l.length) (hf : first < many) : ∀ i, i ≤ 32 → crc (burst l first many bits i) r = crc l r ^^^ Tn (many - first) (mask first many bits i)
  | 0, _ => by
    rw [burst, mask, show Tn (many - first) 0 = 0 from ?_, Nat.xor_zero]
    induction (many - first) with
    | zero => rfl
    | succ k ih => exact ih
  | i + 1, hi => by
    have ih := crc_burst (bits := bits) (r := r) hm hf i (by omega)
    rw [burst, mask]
    split
    · rename_i h
      rw [crc_flip _ _ _ (by rw [burst_len]; omega), ih, Tn_xor, Nat.xor_assoc, burst_len, ← hm]
      congr 2
      rw [show many - first = i + (many - (first + i)) by omega, Tn_add]
      have h1 := Tn_pow i 1
      rw [Nat.mul_one] at h1
      rw [h1]
    · exact ih
theorem crc_turned {l : List UInt8} {first many bits r : Nat} (hm : many = 8 * l.length) (hf : first < many) (h : crc (burst l first many bits 32) r = crc l r) : mask first many bits 32 = 0 := by
  rw [crc_burst hm hf 32 (Nat.le_refl _)] at h
  have h0 : Tn (many - first) (mask first many bits 32) = 0 := by
    have : crc l r ^^^ (crc l r ^^^ Tn (many - first) (mask first many bits 32)) = crc l r ^^^ crc l r := by rw [h]
    rwa [← Nat.xor_assoc, Nat.xor_self, Nat.zero_xor] at this
  exact Tn_zero _ (mask_lt first many bits 32) h0

/-- A number's lowest byte, and the rest. -/
theorem xor_low (s : Nat) : s ^^^ (s % 256) = 2 ^ 8 * (s / 256) := by
  have h1 := Nat.xor_div_two_pow (a := s) (b := s % 256) (n := 8)
  have h2 := Nat.xor_mod_two_pow (a := s) (b := s % 256) (n := 8)
  have e1 : s % 256 / 2 ^ 8 = 0 := by omega
  have e2 : s % 256 % 2 ^ 8 = s % 2 ^ 8 := by omega
  rw [e1, Nat.xor_zero] at h1
  rw [e2, Nat.xor_self] at h2
  have e3 : (2 : Nat) ^ 8 = 256 := rfl
  rw [e3] at h1 h2 ⊢
  omega
theorem Tn_low (s r : Nat) : Tn 8 (r ^^^ s % 256) ^^^ s / 256 = Tn 8 (r ^^^ s) := by
  have h : r ^^^ s = (r ^^^ s % 256) ^^^ 2 ^ 8 * (s / 256) := by rw [← xor_low, Nat.xor_assoc, ← Nat.xor_assoc (s % 256), Nat.xor_comm (s % 256) s, Nat.xor_assoc s, Nat.xor_self, Nat.xor_zero]
  rw [h, Tn_xor 8 (r ^^^ s % 256) (2 ^ 8 * (s / 256)), Tn_pow]
/-- Four bytes, as one number. -/
theorem crc_le4 {s r : Nat} (hs : s < 4294967296) : crc (le4 s) r = Tn 32 (r ^^^ s) := by
  simp only [le4, crc]
  rw [Cm.toNat_ofNat (by omega), Cm.toNat_ofNat (by omega), Cm.toNat_ofNat (by omega), Cm.toNat_ofNat (by omega)]
  have e1 := Tn_low s r
  have e2 := Tn_low (s / 256) (Tn 8 (r ^^^ s % 256))
  have e3 := Tn_low (s / 65536) (Tn 8 (Tn 8 (r ^^^ s % 256) ^^^ s / 256 % 256))
  rw [show s / 65536 / 256 = s / 16777216 by omega] at e3
  rw [show s / 256 / 256 = s / 65536 by omega] at e2
  rw [show s / 16777216 % 256 = s / 16777216 by omega, e3, e2, e1]
  rw [show (32 : Nat) = 8 + 8 + 8 + 8 from rfl, Tn_add, Tn_add, Tn_add]
theorem le4_len (s : Nat) : (le4 s).length = 4 := rfl
theorem sum_lt (l : List UInt8) : sum l < 4294967296 := xor_lt (by decide) (crc_lt l (by decide))
/-- Bytes and their sum leave one remainder, and no other sum does. -/
theorem crc_sum (l : List UInt8) : crc (l ++ le4 (sum l)) ones = Tn 32 ones := by
  rw [crc_app, crc_le4 (sum_lt l)]
  congr 1
  unfold sum
  rw [Nat.xor_comm ones, ← Nat.xor_assoc, Nat.xor_self, Nat.zero_xor]
theorem burst_same {l : List UInt8} {first many bits : Nat} : ∀ {i}, mask first many bits i = 0 → burst l first many bits i = l
  | 0, _ => rfl
  | i + 1, h => by
    rw [mask] at h
    rw [burst]
    split at h
    · rename_i hc
      have h1 := xor_zero_iff h
      have h2 := mask_lt first many bits i
      omega
    · rename_i hc
      rw [if_neg hc]
      exact burst_same h
theorem mask_step {first many bits i : Nat} : decide (mask first many bits (i + 1) ≠ 0) = (decide (mask first many bits i ≠ 0) || decide (first + i < many ∧ bits / 2 ^ i % 2 = 1)) := by
  rw [mask]
  split
  · rename_i hc
    have h2 := mask_lt first many bits i
    have h3 : mask first many bits i ^^^ 2 ^ i ≠ 0 := fun h => by
      have h1 := xor_zero_iff h
      omega
    simp [h3, hc]
  · rename_i hc
    simp [hc]

end Go.Proofs.YtjjfhbbaabakmaaGreatDoor.Wc

/-
  Plain mathematics of layer 4 (wal): frames, what bytes begin with, a file's records. No program is named here.
-/
namespace Go.Proofs.YtjjfhbbaabakmaaGreatDoor.Wf
set_option linter.unusedSimpArgs false
set_option linter.unusedVariables false
open Cm Wc

abbrev Bs := List UInt8
/-- A record's frame. -/
def frame (x : Bs) : Bs := encB x ++ le4 (sum (encB x))
def frames : List Bs → Bs
  | [] => []
  | x :: l => frame x ++ frames l
/-- Bytes that begin with a record's frame. -/
def Fr (b x r : Bs) : Prop := b = frame x ++ r ∧ x.length ≤ 524288
/-- All the whole frames with which bytes begin, and what stands behind. -/
def Frs (b : Bs) (xs : List Bs) (r : Bs) : Prop := b = frames xs ++ r ∧ (∀ x ∈ xs, x.length ≤ 524288) ∧ ∀ x t, ¬ Fr r x t

theorem enc_len3 {n : Nat} (h : n ≤ 524288) : (enc n).length ≤ 3 := by
  by_cases h1 : n < 128
  · rw [enc_small h1]; simp
  · rw [enc_big (by omega) (by omega)]
    by_cases h2 : n / 128 < 128
    · rw [enc_small h2]; simp
    · rw [enc_big (by omega) (by omega), enc_small (by omega)]; simp
theorem frame_len (x : Bs) : (frame x).length = (enc x.length).length + x.length + 4 := by simp [frame, encB, le4_len]; omega
theorem frame_pos (x : Bs) : 5 ≤ (frame x).length := by
  rw [frame_len]
  have := (enc_len x.length).2
  omega
theorem frames_app : ∀ (l m : List Bs), frames (l ++ m) = frames l ++ frames m
  | [], _ => rfl
  | x :: l, m => by rw [List.cons_append, frames, frames, frames_app l m, List.append_assoc]
theorem frames_one (x : Bs) : frames [x] = frame x := by simp [frames]
theorem frames_snoc (l : List Bs) (x : Bs) : frames (l ++ [x]) = frames l ++ frame x := by rw [frames_app, frames_one]
theorem frames_len : ∀ (l : List Bs), 5 * l.length ≤ (frames l).length
  | [] => by simp [frames]
  | x :: l => by
    have := frames_len l
    have := frame_pos x
    simp only [frames, List.length_cons, List.length_append]
    omega
/-- The length of bytes' first record, as it is read. -/
theorem num_fr {b x r : Bs} (h : Fr b x r) : numS (b, 0) 524288 = (x.length, (x ++ le4 (sum (encB x)) ++ r, 0)) := by
  obtain ⟨rfl, hx⟩ := h
  unfold frame encB
  rw [List.append_assoc, List.append_assoc, List.append_assoc, numS_enc (by omega) hx]
/-- No more than three bytes are looked at. -/
theorem num_cut (b : Bs) : (numS (b.take 3, 0) 524288).1 = (numS (b, 0) 524288).1 ∧ ((numS (b.take 3, 0) 524288).2.2 = 0 ↔ (numS (b, 0) 524288).2.2 = 0) := by
  by_cases h : (numS (b, 0) 524288).2.2 = 0
  · obtain ⟨_, h2, h3, h4⟩ := numS_ok h
    obtain ⟨v, j, hp⟩ : ∃ v j, pn b 0 0 = (v, j, 0) := ⟨_, _, by rw [← h2]⟩
    have h1 := pn_one0 hp
    rw [hp] at h3
    have hb : b = enc v ++ b.drop j := by rw [← h1.1, List.take_append_drop]
    have hl := enc_len3 (n := v) h3
    have h5 : b.take 3 = enc v ++ (b.drop j).take (3 - (enc v).length) := by
      conv => lhs; rw [hb]
      rw [List.take_append, List.take_of_length_le hl]
    rw [h5, numS_enc (by omega) h3]
    rw [hb, numS_enc (by omega) h3]
    simp
  · have h' : (numS (b.take 3, 0) 524288).2.2 ≠ 0 := fun hc => by
      obtain ⟨_, h2, h3, h4⟩ := numS_ok hc
      obtain ⟨v, j, hp⟩ : ∃ v j, pn (b.take 3) 0 0 = (v, j, 0) := ⟨_, _, by rw [← h2]⟩
      have h1 := pn_one0 hp
      rw [hp] at h3
      have hb : b = enc v ++ ((b.take 3).drop j ++ b.drop 3) := by rw [← List.append_assoc, ← h1.1, List.take_append_drop, List.take_append_drop]
      rw [hb, numS_enc (by omega) h3] at h
      exact h rfl
    have hz : ∀ c : Bs, (numS (c, 0) 524288).2.2 ≠ 0 → (numS (c, 0) 524288).1 = 0 := fun c hc => by
      unfold numS at hc ⊢
      split
      · rfl
      · split
        · rfl
        · split
          · rfl
          · rename_i a1 a2 a3
            rw [if_neg a1, if_neg a2, if_neg a3] at hc
            exact absurd rfl hc
    exact ⟨by rw [hz _ h, hz _ h'], ⟨fun a => absurd a h', fun a => absurd a h⟩⟩
/-- What bytes with such a length are. -/
theorem fr_iff {b : Bs} : (∃ x r, Fr b x r) ↔ (numS (b, 0) 524288).2.2 = 0 ∧ (enc (numS (b, 0) 524288).1).length + (numS (b, 0) 524288).1 + 4 ≤ b.length ∧
    le4 (sum (b.take ((enc (numS (b, 0) 524288).1).length + (numS (b, 0) 524288).1))) = (b.drop ((enc (numS (b, 0) 524288).1).length + (numS (b, 0) 524288).1)).take 4 := by
  constructor
  · rintro ⟨x, r, h⟩
    rw [num_fr h]
    obtain ⟨rfl, hx⟩ := h
    have hl : (encB x).length = (enc x.length).length + x.length := by simp [encB]
    refine ⟨rfl, by dsimp only; rw [List.length_append, frame_len]; omega, ?_⟩
    show le4 (sum ((frame x ++ r).take ((enc x.length).length + x.length))) = ((frame x ++ r).drop ((enc x.length).length + x.length)).take 4
    unfold frame
    rw [← hl, List.append_assoc, List.take_left, List.drop_left, List.take_append, List.take_of_length_le (by rw [le4_len]; exact Nat.le_refl _), le4_len]
    simp
  · rintro ⟨h1, h2, h3⟩
    obtain ⟨_, h4, h5, h6⟩ := numS_ok h1
    obtain ⟨v, j, hp⟩ : ∃ v j, pn b 0 0 = (v, j, 0) := ⟨_, _, by rw [← h4]⟩
    have h7 := pn_one0 hp
    rw [h6] at h2 h3
    simp only [hp] at h2 h3 h5
    have hj : j = (enc v).length := by
      have := congrArg List.length h7.1
      rw [List.length_take] at this
      omega
    have hb : b = enc v ++ b.drop j := by rw [← h7.1, List.take_append_drop]
    have hdl : (b.drop j).length = b.length - j := List.length_drop
    refine ⟨(b.drop j).take v, b.drop (j + v + 4), ?_, by rw [List.length_take]; omega⟩
    have hv : ((b.drop j).take v).length = v := by rw [List.length_take]; omega
    have hE : encB ((b.drop j).take v) = b.take (j + v) := by
      unfold encB
      rw [hv, ← h7.1, ← List.take_add]
    have hF : frame ((b.drop j).take v) = b.take (j + v + 4) := by
      unfold frame
      rw [hE, hj, h3, ← hj, ← List.take_add]
    rw [hF, List.take_append_drop]
/-- A frame whose bytes and sum were turned within 32 bits is no frame, whatever stands behind. -/
theorem fr_hurt {x t : Bs} {first many bits : Nat} (hx : x.length ≤ 524288) (hm : many = 8 * (x.length + 4)) (hf : first < many) (hb : mask first many bits 32 ≠ 0) :
    ∀ y u, ¬ Fr (enc x.length ++ burst (x ++ le4 (sum (encB x))) first many bits 32 ++ t) y u := fun y u h => by
  have hl : (burst (x ++ le4 (sum (encB x))) first many bits 32).length = x.length + 4 := by rw [burst_len, List.length_append, le4_len]
  have h1 := num_fr h
  rw [List.append_assoc, numS_enc (by omega) hx] at h1
  simp only [Prod.mk.injEq] at h1
  have hy : y.length = x.length := h1.1.symm
  have h2 : frame y = enc x.length ++ burst (x ++ le4 (sum (encB x))) first many bits 32 := by
    have := congrArg (List.take ((enc x.length).length + x.length + 4)) h.1
    rw [List.take_left' (by rw [List.length_append, hl]; omega), List.take_left' (by rw [frame_len, hy])] at this
    exact this.symm
  have h3 : crc (frame y) ones = Tn 32 ones := crc_sum _
  have h4 : crc (frame x) ones = Tn 32 ones := crc_sum _
  rw [h2, crc_app] at h3
  unfold frame encB at h4
  rw [List.append_assoc, crc_app] at h4
  exact hb (crc_turned (by rw [List.length_append, le4_len]; exact hm) hf (h3.trans h4.symm))

end Go.Proofs.YtjjfhbbaabakmaaGreatDoor.Wf

/-
  Contracts of layer 4's sums: the program's and the document's.
-/
namespace Go.Proofs.YtjjfhbbaabakmaaGreatDoor.Wa
set_option linter.unusedSimpArgs false
open Go Go.RowKit Ck Kw Ga Wc Wf
attribute [local go_sem ↓] Go.wp_at_zero Go.wp_at_succ
set_option linter.unusedVariables false

theorem Tn_next (j x : Nat) : Tn (j + 1) x = T (Tn j x) := by rw [Tn_add]; rfl
theorem crc_take {l : List UInt8} {k r : Nat} (h : k < l.length) : crc (l.take (k + 1)) r = Tn 8 (crc (l.take k) r ^^^ l[k].toNat) := by
  rw [List.take_succ_eq_append_getElem h, crc_app]; rfl

theorem T_bits (x : Nat) (h : x < 4294967296) : bits .xor .u32 ((x : Int) / 2) (bits .and .u32 3988292384 (-bits .and .u32 (x : Int) 1 % 4294967296)) = (T x : Int) := by
  have h1 : bits .and .u32 (x : Int) 1 = ((x % 2 : Nat) : Int) := by
    rw [show (1 : Int) = ((1 : Nat) : Int) from rfl, u32_and_nat x 1 h (by omega), Nat.and_one_is_mod]
  rw [h1, show (x : Int) / 2 = ((x / 2 : Nat) : Int) by omega, show (3988292384 : Int) = ((3988292384 : Nat) : Int) from rfl]
  unfold T
  rcases Nat.mod_two_eq_zero_or_one x with e | e
  · rw [e, if_neg (by omega), show -((0 : Nat) : Int) % 4294967296 = ((0 : Nat) : Int) from rfl, u32_and_nat _ _ (by omega) (by omega), u32_xor_nat _ _ (by omega) (by simp), Nat.and_zero, Nat.xor_zero]
  · rw [e, if_pos rfl, show -((1 : Nat) : Int) % 4294967296 = ((4294967295 : Nat) : Int) from rfl, u32_and_nat _ _ (by omega) (by omega), show 3988292384 &&& 4294967295 = 3988292384 from rfl, u32_xor_nat _ _ (by omega) (by omega)]
set_option maxHeartbeats 1000000 in
set_option maxRecDepth 100000 in
theorem sum_any (w : World) (X : Nat → Prop) (A : Option Addr) (c : Nat) (l : List UInt8) (h : Sl w X 1 (.slice A l.length c) l.length (BVs l)) :
    Calls Tryz.prog 84 #[.slice A l.length c] w fun e w' => e = .returned (.int .u32 (sum l : Int)) ∧ w = w' := by
  have hlen : l.length ≤ 9223372036854775807 := by obtain ⟨A0, c0, hv, _, hc, hm, _⟩ := h; injection hv with _ _ e; unfold maxLen at hm; omega
  go_enter Tryz.func84, Tryz.ntmps84
  go_wp2
  go_loop [3, 8] (fun r i => ∃ k : Nat, k ≤ l.length ∧ i = .int .i64 k ∧ r = .int .u32 (crc (l.take k) ones : Int)) (fun _ i => l.length - (intOf i).toNat)
  case atStart => exact ⟨0, Nat.zero_le _, rfl, rfl⟩
  case round =>
    obtain ⟨k, hk, rfl, rfl⟩ := hrel
    by_cases hlt : k < l.length
    · obtain ⟨ad, rfl, hcell⟩ := Cf.Sl_at h hlt
      have hcl := crc_lt (l.take k) (r := ones) (by decide)
      have hbl := l[k].toNat_lt
      go_wp2
      go_loop [3, 16] (fun r i => ∃ j : Nat, j ≤ 8 ∧ i = .int .i64 j ∧ r = .int .u32 (Tn j (crc (l.take k) ones ^^^ l[k].toNat) : Int)) (fun _ i => 8 - (intOf i).toNat)
      case atStart =>
        refine ⟨0, Nat.zero_le _, rfl, ?_⟩
        rw [u32_xor_nat _ _ hcl (by omega)]
        rfl
      case round =>
        obtain ⟨j, hj, rfl, rfl⟩ := hrel
        have hx := Tn_lt j (xor_lt hcl (byte_lt l[k]))
        have hn := Tn_next j (crc (l.take k) ones ^^^ l[k].toNat)
        have hc := crc_take (r := ones) hlt
        obtain ⟨x, hxe⟩ : ∃ x, x = Tn j (crc (l.take k) ones ^^^ l[k].toNat) := ⟨_, rfl⟩
        rw [← hxe] at hx hn ⊢
        have HX := Lib.hid hxe
        have HN := Lib.hid hn
        have HC := Lib.hid hc
        clear hxe hn hc
        by_cases h8 : j < 8
        · go_wp2
          go_round
          case rel => exact ⟨j + 1, by omega, by go_num, by rw [T_bits x hx, HN.out]⟩
          case measure => simp [intOf]; omega
        · obtain rfl : j = 8 := by omega
          go_wp2
          go_round
          case rel => exact ⟨k + 1, by omega, by go_num, by rw [HC.out, ← HX.out]⟩
          case measure => simp [intOf]; omega
    · have e : l.take k = l := List.take_of_length_le (by omega)
      rw [e]
      go_wp2
      go_ret
      have hm : IntKind.u32.max = ((4294967295 : Nat) : Int) := by decide
      exact ⟨by rw [hm]; exact congrArg (fun z => Ending.returned (.int .u32 z)) (u32_xor_nat _ _ (by omega) (crc_lt l (by decide))), rfl⟩
end Go.Proofs.YtjjfhbbaabakmaaGreatDoor.Wa
