/-
  Plain mathematics of layer 4 (wal): frames, what bytes begin with, a file's records. No program is named here.
-/
import Derived.Test.YtjjfhbbaabakmaaGreatDoorWS01
import Derived.Test.YtjjfhbbaabakmaaGreatDoorWS03
import Derived.Test.YtjjfhbbaabakmaaGreatDoorWS02
namespace Go.Proofs.YtjjfhbbaabakmaaGreatDoor.Wf
set_option linter.unusedSimpArgs false
set_option linter.unusedVariables false
open Cm Wc

abbrev Bs := List UInt8
/-- A record's frame. -/
def frame (x : Bs) : Bs := encB x ++ le4 (sum (encB x))
def frames : List Bs → Bs
  | [] => []
  | x :: l => frame x ++ frames l
/-- Bytes that begin with a record's frame. -/
def Fr (b x r : Bs) : Prop := b = frame x ++ r ∧ x.length ≤ 524288
/-- All the whole frames with which bytes begin, and what stands behind. -/
def Frs (b : Bs) (xs : List Bs) (r : Bs) : Prop := b = frames xs ++ r ∧ (∀ x ∈ xs, x.length ≤ 524288) ∧ ∀ x t, ¬ Fr r x t

theorem enc_len3 {n : Nat} (h : n ≤ 524288) : (enc n).length ≤ 3 := by
  by_cases h1 : n < 128
  · rw [enc_small h1]; simp
  · rw [enc_big (by omega) (by omega)]
    by_cases h2 : n / 128 < 128
    · rw [enc_small h2]; simp
    · rw [enc_big (by omega) (by omega), enc_small (by omega)]; simp
theorem frame_len (x : Bs) : (frame x).length = (enc x.length).length + x.length + 4 := by simp [frame, encB, le4_len]; omega
theorem frame_pos (x : Bs) : 5 ≤ (frame x).length := by
  rw [frame_len]
  have := (enc_len x.length).2
  omega
theorem frames_app : ∀ (l m : List Bs), frames (l ++ m) = frames l ++ frames m
  | [], _ => rfl
  | x :: l, m => by rw [List.cons_append, frames, frames, frames_app l m, List.append_assoc]
theorem frames_one (x : Bs) : frames [x] = frame x := by simp [frames]
theorem frames_snoc (l : List Bs) (x : Bs) : frames (l ++ [x]) = frames l ++ frame x := by rw [frames_app, frames_one]
theorem frames_len : ∀ (l : List Bs), 5 * l.length ≤ (frames l).length
  | [] => by simp [frames]
  | x :: l => by
    have := frames_len l
    have := frame_pos x
    simp only [frames, List.length_cons, List.length_append]
    omega
/-- The length of bytes' first record, as it is read. -/
theorem num_fr {b x r : Bs} (h : Fr b x r) : numS (b, 0) 524288 = (x.length, (x ++ le4 (sum (encB x)) ++ r, 0)) := by
  obtain ⟨rfl, hx⟩ := h
  unfold frame encB
  rw [List.append_assoc, List.append_assoc, List.append_assoc, numS_enc (by omega) hx]
/-- No more than three bytes are looked at. -/
theorem num_cut (b : Bs) : (numS (b.take 3, 0) 524288).1 = (numS (b, 0) 524288).1 ∧ ((numS (b.take 3, 0) 524288).2.2 = 0 ↔ (numS (b, 0) 524288).2.2 = 0) := by
  by_cases h : (numS (b, 0) 524288).2.2 = 0
  · obtain ⟨_, h2, h3, h4⟩ := numS_ok h
    obtain ⟨v, j, hp⟩ : ∃ v j, pn b 0 0 = (v, j, 0) := ⟨_, _, by rw [← h2]⟩
    have h1 := pn_one0 hp
    rw [hp] at h3
    have hb : b = enc v ++ b.drop j := by rw [← h1.1, List.take_append_drop]
    have hl := enc_len3 (n := v) h3
    have h5 : b.take 3 = enc v ++ (b.drop j).take (3 - (enc v).length) := by
      conv => lhs; rw [hb]
      rw [List.take_append, List.take_of_length_le hl]
    rw [h5, numS_enc (by omega) h3]
    rw [hb, numS_enc (by omega) h3]
    simp
  · have h' : (numS (b.take 3, 0) 524288).2.2 ≠ 0 := fun hc => by
      obtain ⟨_, h2, h3, h4⟩ := numS_ok hc
      obtain ⟨v, j, hp⟩ : ∃ v j, pn (b.take 3) 0 0 = (v, j, 0) := ⟨_, _, by rw [← h2]⟩
      have h1 := pn_one0 hp
      rw [hp] at h3
      have hb : b = enc v ++ ((b.take 3).drop j ++ b.drop 3) := by rw [← List.append_assoc, ← h1.1, List.take_append_drop, List.take_append_drop]
      rw [hb, numS_enc (by omega) h3] at h
      exact h rfl
    have hz : ∀ c : Bs, (numS (c, 0) 524288).2.2 ≠ 0 → (numS (c, 0) 524288).1 = 0 := fun c hc => by
      unfold numS at hc ⊢
      split
      · rfl
      · split
        · rfl
        · split
          · rfl
          · rename_i a1 a2 a3
            rw [if_neg a1, if_neg a2, if_neg a3] at hc
            exact absurd rfl hc
    exact ⟨by rw [hz _ h, hz _ h'], ⟨fun a => absurd a h', fun a => absurd a h⟩⟩
/-- What bytes with such a length are. -/
theorem fr_iff {b : Bs} : (∃ x r, Fr b x r) ↔ (numS (b, 0) 524288).2.2 = 0 ∧ (enc (numS (b, 0) 524288).1).length + (numS (b, 0) 524288).1 + 4 ≤ b.length ∧
    le4 (sum (b.take ((enc (numS (b, 0) 524288).1).length + (numS (b, 0) 524288).1))) = (b.drop ((enc (numS (b, 0) 524288).1).length + (numS (b, 0) 524288).1)).take 4 := by
  constructor
  · rintro ⟨x, r, h⟩
    rw [num_fr h]
    obtain ⟨rfl, hx⟩ := h
    have hl : (encB x).length = (enc x.length).length + x.length := by simp [encB]
    refine ⟨rfl, by dsimp only; rw [List.length_append, frame_len]; omega, ?_⟩
    show le4 (sum ((frame x ++ r).take ((enc x.length).length + x.length))) = ((frame x ++ r).drop ((enc x.length).length + x.length)).take 4
    unfold frame
    rw [← hl, List.append_assoc, List.take_left, List.drop_left, List.take_append, List.take_of_length_le (by rw [le4_len]; exact Nat.le_refl _), le4_len]
    simp
  · rintro ⟨h1, h2, h3⟩
    obtain ⟨_, h4, h5, h6⟩ := numS_ok h1
    obtain ⟨v, j, hp⟩ : ∃ v j, pn b 0 0 = (v, j, 0) := ⟨_, _, by rw [← h4]⟩
    have h7 := pn_one0 hp
    rw [h6] at h2 h3
    simp only [hp] at h2 h3 h5
    have hj : j = (enc v).length := by
      have := congrArg List.length h7.1
      rw [List.length_take] at this
      omega
    have hb : b = enc v ++ b.drop j := by rw [← h7.1, List.take_append_drop]
    have hdl : (b.drop j).length = b.length - j := List.length_drop
    refine ⟨(b.drop j).take v, b.drop (j + v + 4), ?_, by rw [List.length_take]; omega⟩
    have hv : ((b.drop j).take v).length = v := by rw [List.length_take]; omega
    have hE : encB ((b.drop j).take v) = b.take (j + v) := by
      unfold encB
      rw [hv, ← h7.1, ← List.take_add]
    have hF : frame ((b.drop j).take v) = b.take (j + v + 4) := by
      unfold frame
      rw [hE, hj, h3, ← hj, ← List.take_add]
    rw [hF, List.take_append_drop]
theorem fr_one {b x r y t : Bs} (h : Fr b x r) (k : Fr b y t) : x = y ∧ r = t := by
  have h1 := num_fr h
  have k1 := num_fr k
  rw [h1] at k1
  simp only [Prod.mk.injEq] at k1
  obtain ⟨h2, h3, -⟩ := k1
  have h4 : x = y := by
    have := congrArg (List.take x.length) h3
    rw [List.append_assoc, List.append_assoc, List.take_left, h2, List.take_left] at this
    exact this
  subst h4
  refine ⟨rfl, ?_⟩
  obtain ⟨rfl, -⟩ := h
  exact List.append_cancel_left k.1
theorem frs_nil {b : Bs} (h : ∀ x t, ¬ Fr b x t) : Frs b [] b := ⟨rfl, fun _ h => (nomatch h), h⟩
theorem frs_cons {b x r r' : Bs} {xs : List Bs} (h : Fr b x r) (k : Frs r xs r') : Frs b (x :: xs) r' := by
  obtain ⟨rfl, hx⟩ := h
  obtain ⟨rfl, h1, h2⟩ := k
  refine ⟨by rw [frames, List.append_assoc], fun y hy => ?_, h2⟩
  rcases List.mem_cons.1 hy with rfl | hy
  · exact hx
  · exact h1 y hy
theorem frs_any : ∀ (n : Nat) (b : Bs), b.length ≤ n → ∃ xs r, Frs b xs r
  | 0, b, h => ⟨[], b, frs_nil fun x t hf => by
      have := frame_pos x
      have h1 := congrArg List.length hf.1
      rw [List.length_append] at h1
      omega⟩
  | n + 1, b, h => by
    by_cases hf : ∃ x r, Fr b x r
    · obtain ⟨x, r, hf⟩ := hf
      have := frame_pos x
      have h1 := congrArg List.length hf.1
      rw [List.length_append] at h1
      obtain ⟨xs, r', h2⟩ := frs_any n r (by omega)
      exact ⟨x :: xs, r', frs_cons hf h2⟩
    · exact ⟨[], b, frs_nil fun x t h => hf ⟨x, t, h⟩⟩
theorem frs_uncons {b r : Bs} {x : Bs} {xs : List Bs} (h : Frs b (x :: xs) r) : Fr b x (frames xs ++ r) ∧ Frs (frames xs ++ r) xs r := by
  obtain ⟨rfl, h1, h2⟩ := h
  exact ⟨⟨by rw [frames, List.append_assoc], h1 x (by simp)⟩, rfl, fun y hy => h1 y (by simp [hy]), h2⟩
theorem frs_one : ∀ {xs ys : List Bs} {b r t : Bs}, Frs b xs r → Frs b ys t → xs = ys ∧ r = t
  | [], [], b, r, t, h, k => ⟨rfl, by rw [← show b = r from h.1, ← show b = t from k.1]⟩
  | [], y :: ys, b, r, t, h, k => absurd (frs_uncons k).1 (by rw [show b = r from h.1]; exact h.2.2 _ _)
  | x :: xs, [], b, r, t, h, k => absurd (frs_uncons h).1 (by rw [show b = t from k.1]; exact k.2.2 _ _)
  | x :: xs, y :: ys, b, r, t, h, k => by
    obtain ⟨h1, h2⟩ := frs_uncons h
    obtain ⟨k1, k2⟩ := frs_uncons k
    obtain ⟨rfl, e⟩ := fr_one h1 k1
    rw [← e] at k2
    obtain ⟨rfl, e2⟩ := frs_one h2 k2
    exact ⟨rfl, e2⟩
/-- A beginning of a frame that is not the whole of it begins with none. -/
theorem fr_torn {x r t : Bs} (hx : x.length ≤ 524288) (h : frame x = r ++ t) (ht : t ≠ []) : ∀ y u, ¬ Fr r y u := fun y u hf => by
  have h1 : Fr (frame x) x [] := ⟨by simp, hx⟩
  have h2 : Fr (frame x) y (u ++ t) := ⟨by rw [h, hf.1, List.append_assoc], hf.2⟩
  have h3 := (fr_one h1 h2).2
  have h4 := congrArg List.length h3
  simp only [List.length_nil, List.length_append] at h4
  exact ht (List.eq_nil_of_length_eq_zero (by omega))
/-- A beginning of frames: the first ones whole, of the next one a part. -/
theorem frs_part : ∀ (xs : List Bs) (p t : Bs), (∀ x ∈ xs, x.length ≤ 524288) → frames xs = p ++ t → ∃ k r, k ≤ xs.length ∧ Frs p (xs.take k) r
  | [], p, t, _, h => by
    have h4 := congrArg List.length h
    simp only [frames, List.length_nil, List.length_append] at h4
    have hp : p = [] := List.eq_nil_of_length_eq_zero (by omega)
    subst hp
    exact ⟨0, [], Nat.le_refl _, frs_nil fun x u hf => by
      have := frame_pos x
      have h1 := congrArg List.length hf.1
      simp only [List.length_nil, List.length_append] at h1
      omega⟩
  | x :: xs, p, t, hx, h => by
    by_cases hl : (frame x).length ≤ p.length
    · have h1 : p = frame x ++ p.drop (frame x).length := by
        have := congrArg (List.take (frame x).length) h
        rw [frames, List.take_left, List.take_append_of_le_length hl] at this
        conv => lhs; rw [← List.take_append_drop (frame x).length p, ← this]
      have h2 : frames xs = p.drop (frame x).length ++ t := by
        rw [frames, h1, List.append_assoc] at h
        exact List.append_cancel_left h
      obtain ⟨k, r, hk, hF⟩ := frs_part xs _ t (fun y hy => hx y (by simp [hy])) h2
      exact ⟨k + 1, r, by simp [hk], by rw [List.take_succ_cons]; exact frs_cons ⟨h1, hx x (by simp)⟩ hF⟩
    · have h1 : frame x = p ++ (frame x).drop p.length := by
        have := congrArg (List.take p.length) h
        rw [frames, List.take_left, List.take_append_of_le_length (by omega)] at this
        conv => lhs; rw [← List.take_append_drop p.length (frame x), this]
      refine ⟨0, p, Nat.zero_le _, frs_nil (fr_torn (hx x (by simp)) h1 fun e => ?_)⟩
      have := congrArg List.length e
      rw [List.length_drop] at this
      simp only [List.length_nil] at this
      omega

end Go.Proofs.YtjjfhbbaabakmaaGreatDoor.Wf

/-
  Contracts of layer 4's sums: the program's and the document's.
-/
namespace Go.Proofs.YtjjfhbbaabakmaaGreatDoor.Wa
set_option linter.unusedSimpArgs false
open Go Go.RowKit Ck Kw Ga Wc Wf
attribute [local go_sem ↓] Go.wp_at_zero Go.wp_at_succ
set_option linter.unusedVariables false

theorem Tn_next (j x : Nat) : Tn (j + 1) x = T (Tn j x) := by rw [Tn_add]; rfl
theorem crc_take {l : List UInt8} {k r : Nat} (h : k < l.length) : crc (l.take (k + 1)) r = Tn 8 (crc (l.take k) r ^^^ l[k].toNat) := by
  rw [List.take_succ_eq_append_getElem h, crc_app]; rfl

theorem T_bits (x : Nat) (h : x < 4294967296) : bits .xor .u32 ((x : Int) / 2) (bits .and .u32 3988292384 (-bits .and .u32 (x : Int) 1 % 4294967296)) = (T x : Int) := by
  have h1 : bits .and .u32 (x : Int) 1 = ((x % 2 : Nat) : Int) := by
    rw [show (1 : Int) = ((1 : Nat) : Int) from rfl, u32_and_nat x 1 h (by omega), Nat.and_one_is_mod]
  rw [h1, show (x : Int) / 2 = ((x / 2 : Nat) : Int) by omega, show (3988292384 : Int) = ((3988292384 : Nat) : Int) from rfl]
  unfold T
  rcases Nat.mod_two_eq_zero_or_one x with e | e
  · rw [e, if_neg (by omega), show -((0 : Nat) : Int) % 4294967296 = ((0 : Nat) : Int) from rfl, u32_and_nat _ _ (by omega) (by omega), u32_xor_nat _ _ (by omega) (by simp), Nat.and_zero, Nat.xor_zero]
  · rw [e, if_pos rfl, show -((1 : Nat) : Int) % 4294967296 = ((4294967295 : Nat) : Int) from rfl, u32_and_nat _ _ (by omega) (by omega), show 3988292384 &&& 4294967295 = 3988292384 from rfl, u32_xor_nat _ _ (by omega) (by omega)]
set_option maxHeartbeats 1000000 in
set_option maxRecDepth 100000 in
theorem sum_any (w : World) (X : Nat → Prop) (A : Option Addr) (c : Nat) (l : List UInt8) (h : Sl w X 1 (.slice A l.length c) l.length (BVs l)) :
    Calls Tryz.prog 84 #[.slice A l.length c] w fun e w' => e = .returned (.int .u32 (sum l : Int)) ∧ w = w' := by
  have hlen : l.length ≤ 9223372036854775807 := by obtain ⟨A0, c0, hv, _, hc, hm, _⟩ := h; injection hv with _ _ e; unfold maxLen at hm; omega
  go_enter Tryz.func84, Tryz.ntmps84
  go_wp2
  go_loop [3, 8] (fun r i => ∃ k : Nat, k ≤ l.length ∧ i = .int .i64 k ∧ r = .int .u32 (crc (l.take k) ones : Int)) (fun _ i => l.length - (intOf i).toNat)
  case atStart => exact ⟨0, Nat.zero_le _, rfl, rfl⟩
  case round =>
    obtain ⟨k, hk, rfl, rfl⟩ := hrel
    by_cases hlt : k < l.length
    · obtain ⟨ad, rfl, hcell⟩ := Cf.Sl_at h hlt
      have hcl := crc_lt (l.take k) (r := ones) (by decide)
      have hbl := l[k].toNat_lt
      go_wp2
      go_loop [3, 16] (fun r i => ∃ j : Nat, j ≤ 8 ∧ i = .int .i64 j ∧ r = .int .u32 (Tn j (crc (l.take k) ones ^^^ l[k].toNat) : Int)) (fun _ i => 8 - (intOf i).toNat)
      case atStart =>
        refine ⟨0, Nat.zero_le _, rfl, ?_⟩
        rw [u32_xor_nat _ _ hcl (by omega)]
        rfl
      case round =>
        obtain ⟨j, hj, rfl, rfl⟩ := hrel
        have hx := Tn_lt j (xor_lt hcl (byte_lt l[k]))
        have hn := Tn_next j (crc (l.take k) ones ^^^ l[k].toNat)
        have hc := crc_take (r := ones) hlt
        obtain ⟨x, hxe⟩ : ∃ x, x = Tn j (crc (l.take k) ones ^^^ l[k].toNat) := ⟨_, rfl⟩
        rw [← hxe] at hx hn ⊢
        have HX := Lib.hid hxe
        have HN := Lib.hid hn
        have HC := Lib.hid hc
        clear hxe hn hc
        by_cases h8 : j < 8
        · go_wp2
          go_round
          case rel => exact ⟨j + 1, by omega, by go_num, by rw [T_bits x hx, HN.out]⟩
          case measure => simp [intOf]; omega
        · obtain rfl : j = 8 := by omega
          go_wp2
          go_round
          case rel => exact ⟨k + 1, by omega, by go_num, by rw [HC.out, ← HX.out]⟩
          case measure => simp [intOf]; omega
    · have e : l.take k = l := List.take_of_length_le (by omega)
      rw [e]
      go_wp2
      go_ret
      have hm : IntKind.u32.max = ((4294967295 : Nat) : Int) := by decide
      exact ⟨by rw [hm]; exact congrArg (fun z => Ending.returned (.int .u32 z)) (u32_xor_nat _ _ (by omega) (crc_lt l (by decide))), rfl⟩
end Go.Proofs.YtjjfhbbaabakmaaGreatDoor.Wa
