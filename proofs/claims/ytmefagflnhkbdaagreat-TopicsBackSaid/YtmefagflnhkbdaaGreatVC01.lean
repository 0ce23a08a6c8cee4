/-
  The plain mathematics of layer 1 (codec): numbers to the base 128, byte strings, lists, and a reader over a list of bytes that keeps its first error. No program is named here.
-/
namespace Go.Proofs.YtmefagflnhkbdaaGreat.Cm
set_option linter.unusedSimpArgs false
set_option linter.unusedVariables false

/-- A number's digits to the base 128, the lowest first, all but the last with 128 added; so many more digits at the most. -/
def encF : Nat → Nat → List UInt8
  | 0, n => [UInt8.ofNat n]
  | k + 1, n => if n < 128 then [UInt8.ofNat n] else UInt8.ofNat (n % 128 + 128) :: encF k (n / 128)
/-- A number's form. -/
def enc (n : Nat) : List UInt8 := encF 9 n
/-- A byte string's form. -/
def encB (x : List UInt8) : List UInt8 := enc x.length ++ x
/-- A list's parts. -/
def encP : List (List UInt8) → List UInt8
  | [] => []
  | x :: l => encB x ++ encP l
/-- A list's form. -/
def encL (l : List (List UInt8)) : List UInt8 := enc l.length ++ encP l

/-- The number with which bytes begin (its place, what was gathered): the number, how many bytes, the error. -/
def pn : List UInt8 → Nat → Nat → Nat × Nat × Int
  | [], _, _ => (0, 0, 10)
  | c :: bs, i, acc =>
    if i = 9 ∧ 1 < c.toNat then (0, 0, 11)
    else if 128 ≤ c.toNat then pn bs (i + 1) (acc + c.toNat % 128 * 128 ^ i)
    else if c.toNat = 0 ∧ 0 < i then (0, 0, 11)
    else (acc + c.toNat * 128 ^ i, i + 1, 0)

/-- A reader: what is left, and its error. -/
abbrev RS := List UInt8 × Int
def failS (s : RS) (e : Int) : RS := if s.2 ≠ 0 then s else if e ≠ 0 then ([], e) else s
def numS (s : RS) (most : Nat) : Nat × RS :=
  if s.2 ≠ 0 then (0, s)
  else if (pn s.1 0 0).2.2 ≠ 0 then (0, ([], (pn s.1 0 0).2.2))
  else if most < (pn s.1 0 0).1 then (0, ([], 11))
  else ((pn s.1 0 0).1, (s.1.drop (pn s.1 0 0).2.1, 0))
def takeS (s : RS) (n : Int) : List UInt8 × RS :=
  if s.2 ≠ 0 then ([], s)
  else if n < 0 then ([], ([], 1))
  else if (s.1.length : Int) < n then ([], ([], 10))
  else (s.1.take n.toNat, (s.1.drop n.toNat, 0))
def bytesS (s : RS) (most : Int) : List UInt8 × RS := takeS (numS s most.toNat).2 ((numS s most.toNat).1 : Int)
def listA (each : Int) : Nat → RS → List (List UInt8) → List (List UInt8) × RS
  | 0, s, acc => (acc, s)
  | n + 1, s, acc => if (bytesS s each).2.2 ≠ 0 then ([], (bytesS s each).2) else listA each n (bytesS s each).2 (acc ++ [(bytesS s each).1])
def listS (s : RS) (most each : Int) : List (List UInt8) × RS := listA each (numS s most.toNat).1 (numS s most.toNat).2 []
def doneS (s : RS) : Int := if s.2 = 0 ∧ s.1 ≠ [] then 12 else s.2
/-- With an error nothing is left. -/
def Good (s : RS) : Prop := s.2 ≠ 0 → s.1 = []

theorem toNat_ofNat {n : Nat} (h : n < 256) : (UInt8.ofNat n).toNat = n := by
  simp [UInt8.toNat_ofNat']; omega

theorem encF_one {k n : Nat} (h : n < 128) : encF k n = [UInt8.ofNat n] := by
  cases k <;> simp [encF, h]
theorem encF_more : ∀ (k n : Nat), n < 128 ^ (k + 1) → encF (k + 1) n = encF k n
  | 0, n, h => by
    have : n < 128 := by simpa using h
    simp [encF, this]
  | k + 1, n, h => by
    by_cases hn : n < 128
    · rw [encF_one hn, encF_one hn]
    · have hd : n / 128 < 128 ^ (k + 1) := by
        rw [Nat.div_lt_iff_lt_mul (by omega)]
        rw [Nat.pow_succ] at h
        exact h
      have ih := encF_more k (n / 128) hd
      rw [encF, if_neg hn, ih]
      conv => rhs; rw [encF, if_neg hn]
theorem enc_small {n : Nat} (h : n < 128) : enc n = [UInt8.ofNat n] := encF_one h
theorem enc_big {n : Nat} (h : 128 ≤ n) (h64 : n < 18446744073709551616) : enc n = UInt8.ofNat (n % 128 + 128) :: enc (n / 128) := by
  unfold enc
  rw [encF, if_neg (by omega), ← encF_more 8 (n / 128) (by
    have : (128 : Nat) ^ (8 + 1) = 9223372036854775808 := by decide
    rw [this]; omega)]
theorem encF_len : ∀ (k n : Nat), (encF k n).length ≤ k + 1 ∧ 1 ≤ (encF k n).length
  | 0, n => by simp [encF]
  | k + 1, n => by
    have ih := encF_len k (n / 128)
    simp only [encF]
    split
    · simp
    · simp only [List.length_cons]; omega
theorem enc_len (n : Nat) : (enc n).length ≤ 10 ∧ 1 ≤ (enc n).length := encF_len 9 n
theorem enc_len_big {n : Nat} (h : 128 ≤ n) : 2 ≤ (enc n).length := by
  have := encF_len 8 (n / 128)
  unfold enc
  rw [encF, if_neg (by omega), List.length_cons]
  omega

/-- The digits' product fits. -/
theorem pow_le (i : Nat) (h : i ≤ 9) : 128 ^ i ≤ 9223372036854775808 ∧ 1 ≤ 128 ^ i := by
  have : i = 0 ∨ i = 1 ∨ i = 2 ∨ i = 3 ∨ i = 4 ∨ i = 5 ∨ i = 6 ∨ i = 7 ∨ i = 8 ∨ i = 9 := by omega
  rcases this with rfl | rfl | rfl | rfl | rfl | rfl | rfl | rfl | rfl | rfl <;> decide

/-- What was put is read: the digits of n, at place i, with so much gathered. -/
theorem pn_enc : ∀ (k i n acc : Nat) (rest : List UInt8), n < 128 ^ (k + 1) → k + i = 9 → (i = 0 ∨ 1 ≤ n) → n * 128 ^ i < 18446744073709551616 →
    pn (encF k n ++ rest) i acc = (acc + n * 128 ^ i, i + (encF k n).length, 0)
  | 0, i, n, acc, rest, h, hi, h0, h64 => by
    have hi9 : i = 9 := by omega
    subst hi9
    have hn : n < 2 := by
      have : (128 : Nat) ^ 9 = 9223372036854775808 := by decide
      rw [this] at h64; omega
    have hc : (UInt8.ofNat n).toNat = n := toNat_ofNat (by omega)
    simp only [encF, List.cons_append, List.nil_append, pn, hc, List.length_cons, List.length_nil]
    rw [if_neg (by omega), if_neg (by omega), if_neg (by omega)]
  | k + 1, i, n, acc, rest, h, hi, h0, h64 => by
    have hi9 : i ≠ 9 := by omega
    by_cases hn : n < 128
    · have hc : (UInt8.ofNat n).toNat = n := toNat_ofNat (by omega)
      simp only [encF, if_pos hn, List.cons_append, List.nil_append, pn, hc, List.length_cons, List.length_nil]
      rw [if_neg (by omega), if_neg (by omega), if_neg (by omega)]
    · have hc : (UInt8.ofNat (n % 128 + 128)).toNat = n % 128 + 128 := toNat_ofNat (by omega)
      have hd : n / 128 < 128 ^ (k + 1) := by
        rw [Nat.div_lt_iff_lt_mul (by omega)]
        rw [Nat.pow_succ] at h
        exact h
      have hp : 128 ^ (i + 1) = 128 ^ i * 128 := Nat.pow_succ 128 i
      have hmul : n / 128 * 128 ^ (i + 1) + n % 128 * 128 ^ i = n * 128 ^ i := by
        rw [hp, Nat.mul_comm (128 ^ i) 128, ← Nat.mul_assoc, ← Nat.add_mul]
        congr 1
        omega
      have hlt : n / 128 * 128 ^ (i + 1) < 18446744073709551616 := by omega
      have ih := pn_enc k (i + 1) (n / 128) (acc + n % 128 * 128 ^ i) rest hd (by omega) (Or.inr (by omega)) hlt
      simp only [encF, if_neg hn, List.cons_append, pn, hc, List.length_cons]
      rw [if_neg (by omega), if_pos (by omega), show (n % 128 + 128) % 128 = n % 128 from by omega, ih]
      refine Prod.ext ?_ (Prod.ext ?_ rfl)
      · simp only; omega
      · simp only; omega

theorem pn_of_enc {n : Nat} (h : n < 18446744073709551616) (rest : List UInt8) : pn (enc n ++ rest) 0 0 = (n, (enc n).length, 0) := by
  have := pn_enc 9 0 n 0 rest (by
    have : (128 : Nat) ^ (9 + 1) = 1180591620717411303424 := by decide
    rw [this]; omega) (by omega) (Or.inl rfl) (by simpa using h)
  simpa [enc] using this

/-- What was read is put again: the digits that were read are those of the number (from place i on). -/
theorem pn_one : ∀ (bs : List UInt8) (i acc v j : Nat), pn bs i acc = (v, j, 0) → i ≤ 9 → acc < 128 ^ i →
    ∃ n, v = acc + n * 128 ^ i ∧ i < j ∧ j - i ≤ bs.length ∧ j ≤ 10 ∧ bs.take (j - i) = encF (9 - i) n ∧ (i = 0 ∨ 1 ≤ n) ∧ v < 18446744073709551616
  | [], i, acc, v, j, h, hi, ha => by simp [pn] at h
  | c :: bs, i, acc, v, j, h, hi, ha => by
    have hcl : c.toNat < 256 := c.toNat_lt
    have hco : UInt8.ofNat c.toNat = c := by simp
    obtain ⟨hp1, hp2⟩ := pow_le i hi
    simp only [pn] at h
    split at h
    · simp at h
    · rename_i hn9
      split at h
      · rename_i hbig
        have hi8 : i ≤ 8 := by omega
        have hp : 128 ^ (i + 1) = 128 ^ i * 128 := Nat.pow_succ 128 i
        have hm : c.toNat % 128 * 128 ^ i ≤ 127 * 128 ^ i := Nat.mul_le_mul_right _ (by omega)
        obtain ⟨n, hv, hij, hjl, hj10, htk, hn1, hv64⟩ := pn_one bs (i + 1) _ v j h (by omega) (by rw [hp]; omega)
        have hn1' : 1 ≤ n := by omega
        refine ⟨n * 128 + c.toNat % 128, ?_, by omega, by simp only [List.length_cons]; omega, hj10, ?_, by omega, hv64⟩
        · rw [hv, hp, Nat.add_mul]
          have : n * (128 ^ i * 128) = n * 128 * 128 ^ i := by rw [Nat.mul_comm (128 ^ i) 128, Nat.mul_assoc]
          omega
        · have hj : j - i = (j - (i + 1)) + 1 := by omega
          rw [hj, List.take_succ_cons, htk, show 9 - i = (9 - (i + 1)) + 1 from by omega]
          have hnb : ¬ (n * 128 + c.toNat % 128 < 128) := by omega
          rw [encF, if_neg hnb, show (n * 128 + c.toNat % 128) % 128 + 128 = c.toNat from by omega, hco,
            show (n * 128 + c.toNat % 128) / 128 = n from by omega]
      · rename_i hsm
        split at h
        · simp at h
        · rename_i hz
          simp only [Prod.mk.injEq] at h
          obtain ⟨h1, h2, _⟩ := h
          subst h1; subst h2
          refine ⟨c.toNat, rfl, by omega, by simp only [List.length_cons]; omega, by omega, ?_, by omega, ?_⟩
          · rw [show i + 1 - i = 1 from by omega, encF_one (by omega), hco]
            simp
          · by_cases hi9 : i = 9
            · subst hi9
              have : c.toNat ≤ 1 := by omega
              have hm : c.toNat * 128 ^ 9 ≤ 1 * 128 ^ 9 := Nat.mul_le_mul_right _ this
              have h9 : (128 : Nat) ^ 9 = 9223372036854775808 := by decide
              rw [h9] at *
              omega
            · have hm : c.toNat * 128 ^ i ≤ 127 * 128 ^ i := Nat.mul_le_mul_right _ (by omega)
              have h8 : 128 ^ i ≤ 72057594037927936 := by
                have : i = 0 ∨ i = 1 ∨ i = 2 ∨ i = 3 ∨ i = 4 ∨ i = 5 ∨ i = 6 ∨ i = 7 ∨ i = 8 := by omega
                rcases this with rfl | rfl | rfl | rfl | rfl | rfl | rfl | rfl | rfl <;> decide
              omega

theorem pn_one0 {bs : List UInt8} {v j : Nat} (h : pn bs 0 0 = (v, j, 0)) : bs.take j = enc v ∧ j ≤ bs.length ∧ 1 ≤ j ∧ v < 18446744073709551616 := by
  obtain ⟨n, hv, hij, hjl, _, htk, _, h64⟩ := pn_one bs 0 0 v j h (by omega) (by simp)
  have : n = v := by simpa using hv.symm
  subst this
  exact ⟨by simpa [enc] using htk, by simpa using hjl, by omega, h64⟩

theorem numS_le (s : RS) (most : Nat) : (numS s most).1 ≤ most := by
  unfold numS
  split
  · exact Nat.zero_le _
  · split
    · exact Nat.zero_le _
    · split
      · exact Nat.zero_le _
      · simp only; omega
theorem numS_len (s : RS) (most : Nat) : (numS s most).2.1.length ≤ s.1.length := by
  unfold numS
  split
  · exact Nat.le_refl _
  · split
    · exact Nat.zero_le _
    · split
      · exact Nat.zero_le _
      · simp only [List.length_drop]; omega
theorem takeS_len (s : RS) (n : Int) : (takeS s n).2.1.length ≤ s.1.length := by
  unfold takeS
  split
  · exact Nat.le_refl _
  · split
    · exact Nat.zero_le _
    · split
      · exact Nat.zero_le _
      · simp only [List.length_drop]; omega
theorem bytesS_len (s : RS) (m : Int) : (bytesS s m).2.1.length ≤ s.1.length := Nat.le_trans (takeS_len _ _) (numS_len _ _)
theorem numS_ok {s : RS} {m : Nat} (h : (numS s m).2.2 = 0) : s.2 = 0 ∧ (pn s.1 0 0).2.2 = 0 ∧ (pn s.1 0 0).1 ≤ m ∧ numS s m = ((pn s.1 0 0).1, (s.1.drop (pn s.1 0 0).2.1, 0)) := by
  by_cases h1 : s.2 = 0
  · by_cases h2 : (pn s.1 0 0).2.2 = 0
    · by_cases h3 : m < (pn s.1 0 0).1
      · rw [numS, if_neg (by simp [h1]), if_neg (by simp [h2]), if_pos h3] at h
        simp at h
      · refine ⟨h1, h2, by omega, ?_⟩
        rw [numS, if_neg (by simp [h1]), if_neg (by simp [h2]), if_neg h3]
    · rw [numS, if_neg (by simp [h1]), if_pos h2] at h
      exact absurd h h2
  · rw [numS, if_pos h1] at h
    exact absurd h h1
theorem takeS_ok {s : RS} {n : Int} (h : (takeS s n).2.2 = 0) : s.2 = 0 ∧ 0 ≤ n ∧ n ≤ s.1.length ∧ takeS s n = (s.1.take n.toNat, (s.1.drop n.toNat, 0)) := by
  by_cases h1 : s.2 = 0
  · by_cases h2 : n < 0
    · rw [takeS, if_neg (by simp [h1]), if_pos h2] at h
      simp at h
    · by_cases h3 : (s.1.length : Int) < n
      · rw [takeS, if_neg (by simp [h1]), if_neg h2, if_pos h3] at h
        simp at h
      · refine ⟨h1, by omega, by omega, ?_⟩
        rw [takeS, if_neg (by simp [h1]), if_neg h2, if_neg h3]
  · rw [takeS, if_pos h1] at h
    exact absurd h h1
theorem encP_app : ∀ (l m : List (List UInt8)), encP (l ++ m) = encP l ++ encP m
  | [], m => rfl
  | x :: l, m => by simp [encP, encP_app l m, List.append_assoc]
theorem encP_take {l : List (List UInt8)} {i : Nat} (h : i < l.length) : encP (l.take (i + 1)) = encP (l.take i) ++ encB l[i] := by
  rw [List.take_succ_eq_append_getElem h, encP_app]
  simp [encP]
theorem encB_len (x : List UInt8) : (encB x).length = (enc x.length).length + x.length := by simp [encB]
theorem encP_le : ∀ (l : List (List UInt8)) (i : Nat), (encP (l.take i)).length ≤ (encP l).length
  | [], i => by simp
  | x :: l, 0 => by simp [encP]
  | x :: l, i + 1 => by
    have := encP_le l i
    simp only [List.take_succ_cons, encP, List.length_append]
    omega
theorem numS_enc {n m : Nat} (h : n < 18446744073709551616) (hm : n ≤ m) (r : List UInt8) : numS (enc n ++ r, 0) m = (n, (r, 0)) := by
  have hp := pn_of_enc h r
  rw [numS, if_neg (by simp)]
  simp only [hp]
  rw [if_neg (by simp), if_neg (by omega)]
  simp
theorem bytesS_enc {x : List UInt8} {m : Int} (h : x.length < 18446744073709551616) (hm : (x.length : Int) ≤ m) (r : List UInt8) : bytesS (encB x ++ r, 0) m = (x, (r, 0)) := by
  have h1 := numS_enc (m := m.toNat) h (by omega) (x ++ r)
  rw [bytesS, encB, List.append_assoc, h1]
  simp only [takeS]
  rw [if_neg (by simp), if_neg (by omega), if_neg (by simp only [List.length_append]; omega)]
  simp
end Go.Proofs.YtmefagflnhkbdaaGreat.Cm
