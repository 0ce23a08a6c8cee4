import Derived.WalkKit
import Derived.WalkSpells
import Derived.WalkLawsBesides
import Derived.Lib.Hide
import Derived.Maps.AppendAt
import Derived.Deep.AppendLies
import Derived.Deep.Draws
import Derived.Laws.Rows
import Derived.Test.YtjoonpkgepkkhaaGreatDoorRows
import Derived.Maps.OwnSet
import Derived.Maps.StringElems
import Derived.ProofKit
import Derived.OpenShut
import Derived.JoinedCond
import Derived.Deep.Slices
import Derived.SizedLaws
import Derived.JoinedOf
import Derived.RangeFuncNested
import Derived.RangeFuncBound
import Derived.RangeFuncCalls
import Derived.RangeFuncLeaves
import Derived.RangeFuncWrites
import Derived.Lib.SliceRun
import Derived.Lib.MinMax
import Derived.Lib.SlBytesConst
import Derived.Deep.QuietTactic
import Derived.BigQuiet
import Derived.Deep.RegionWith
import Derived.Deep.RegionHeld3
import Derived.Deep.RegionLaw
import Derived.Deep.DrawnRows
import Derived.Laws.CopyOwn
/-
  The plain mathematics of layer 1 (codec): numbers to the base 128, byte strings, lists, and a reader over a list of bytes that keeps its first error. No program is named here.
-/
namespace Go.Proofs.YtjoonpkgepkkhaaGreatDoor.Cm

/-- A number's digits to the base 128, the lowest first, all but the last with 128 added; so many more digits at the most. -/
def encF : Nat → Nat → List UInt8
  | 0, n => [UInt8.ofNat n]
  | k + 1, n => if n < 128 then [UInt8.ofNat n] else UInt8.ofNat (n % 128 + 128) :: encF k (n / 128)
/-- A number's form. -/
def enc (n : Nat) : List UInt8 := encF 9 n
/-- A byte string's form. -/
def encB (x : List UInt8) : List UInt8 := enc x.length ++ x
/-- A list's parts. -/
def encP : List (List UInt8) → List UInt8
  | [] => []
  | x :: l => encB x ++ encP l
/-- A list's form. -/
def encL (l : List (List UInt8)) : List UInt8 := enc l.length ++ encP l

/-- The number with which bytes begin (its place, what was gathered): the number, how many bytes, the error. -/
def pn : List UInt8 → Nat → Nat → Nat × Nat × Int
  | [], _, _ => (0, 0, 10)
  | c :: bs, i, acc =>
    if i = 9 ∧ 1 < c.toNat then (0, 0, 11)
    else if 128 ≤ c.toNat then pn bs (i + 1) (acc + c.toNat % 128 * 128 ^ i)
    else if c.toNat = 0 ∧ 0 < i then (0, 0, 11)
    else (acc + c.toNat * 128 ^ i, i + 1, 0)

/-- A reader: what is left, and its error. -/
abbrev RS := List UInt8 × Int
def failS (s : RS) (e : Int) : RS := if s.2 ≠ 0 then s else if e ≠ 0 then ([], e) else s
def numS (s : RS) (most : Nat) : Nat × RS :=
  if s.2 ≠ 0 then (0, s)
  else if (pn s.1 0 0).2.2 ≠ 0 then (0, ([], (pn s.1 0 0).2.2))
  else if most < (pn s.1 0 0).1 then (0, ([], 11))
  else ((pn s.1 0 0).1, (s.1.drop (pn s.1 0 0).2.1, 0))
def takeS (s : RS) (n : Int) : List UInt8 × RS :=
  if s.2 ≠ 0 then ([], s)
  else if n < 0 then ([], ([], 1))
  else if (s.1.length : Int) < n then ([], ([], 10))
  else (s.1.take n.toNat, (s.1.drop n.toNat, 0))
def bytesS (s : RS) (most : Int) : List UInt8 × RS := takeS (numS s most.toNat).2 ((numS s most.toNat).1 : Int)
def listA (each : Int) : Nat → RS → List (List UInt8) → List (List UInt8) × RS
  | 0, s, acc => (acc, s)
  | n + 1, s, acc => if (bytesS s each).2.2 ≠ 0 then ([], (bytesS s each).2) else listA each n (bytesS s each).2 (acc ++ [(bytesS s each).1])
def listS (s : RS) (most each : Int) : List (List UInt8) × RS := listA each (numS s most.toNat).1 (numS s most.toNat).2 []
def doneS (s : RS) : Int := if s.2 = 0 ∧ s.1 ≠ [] then 12 else s.2
/-- With an error nothing is left. -/
def Good (s : RS) : Prop := s.2 ≠ 0 → s.1 = []

theorem toNat_ofNat {n : Nat} (h : n < 256) : (UInt8.ofNat n).toNat = n := by
  simp [UInt8.toNat_ofNat']; omega

theorem encF_one {k n : Nat} (h : n < 128) : encF k n = [UInt8.ofNat n] := by
  cases k <;> simp [encF, h]
theorem encF_more : ∀ (k n : Nat), n < 128 ^ (k + 1) → encF (k + 1) n = encF k n
  | 0, n, h => by
    have : n < 128 := by simpa using h
    simp [encF, this]
  | k + 1, n, h => by
    by_cases hn : n < 128
    · rw [encF_one hn, encF_one hn]
    · have hd : n / 128 < 128 ^ (k + 1) := by
        rw [Nat.div_lt_iff_lt_mul (by omega)]
        rw [Nat.pow_succ] at h
        exact h
      have ih := encF_more k (n / 128) hd
      rw [encF, if_neg hn, ih]
      conv => rhs; rw [encF, if_neg hn]
theorem enc_small {n : Nat} (h : n < 128) : enc n = [UInt8.ofNat n] := encF_one h
theorem enc_big {n : Nat} (h : 128 ≤ n) (h64 : n < 18446744073709551616) : enc n = UInt8.ofNat (n % 128 + 128) :: enc (n / 128) := by
  unfold enc
  rw [encF, if_neg (by omega), ← encF_more 8 (n / 128) (by
    have : (128 : Nat) ^ (8 + 1) = 9223372036854775808 := by decide
    rw [this]; omega)]
theorem encF_len : ∀ (k n : Nat), (encF k n).length ≤ k + 1 ∧ 1 ≤ (encF k n).length
  | 0, n => by simp [encF]
  | k + 1, n => by
    have ih := encF_len k (n / 128)
    simp only [encF]
    split
    · simp
    · simp only [List.length_cons]; omega
theorem enc_len (n : Nat) : (enc n).length ≤ 10 ∧ 1 ≤ (enc n).length := encF_len 9 n
theorem enc_len_big {n : Nat} (h : 128 ≤ n) : 2 ≤ (enc n).length := by
  have := encF_len 8 (n / 128)
  unfold enc
  rw [encF, if_neg (by omega), List.length_cons]
  omega

/-- The digits' product fits. -/
theorem pow_le (i : Nat) (h : i ≤ 9) : 128 ^ i ≤ 9223372036854775808 ∧ 1 ≤ 128 ^ i := by
  have : i = 0 ∨ i = 1 ∨ i = 2 ∨ i = 3 ∨ i = 4 ∨ i = 5 ∨ i = 6 ∨ i = 7 ∨ i = 8 ∨ i = 9 := by omega
  rcases this with rfl | rfl | rfl | rfl | rfl | rfl | rfl | rfl | rfl | rfl <;> decide

/-- What was put is read: the digits of n, at place i, with so much gathered. -/
theorem pn_enc : ∀ (k i n acc : Nat) (rest : List UInt8), n < 128 ^ (k + 1) → k + i = 9 → (i = 0 ∨ 1 ≤ n) → n * 128 ^ i < 18446744073709551616 →
    pn (encF k n ++ rest) i acc = (acc + n * 128 ^ i, i + (encF k n).length, 0)
  | 0, i, n, acc, rest, h, hi, h0, h64 => by
    have hi9 : i = 9 := by omega
    subst hi9
    have hn : n < 2 := by
      have : (128 : Nat) ^ 9 = 9223372036854775808 := by decide
      rw [this] at h64; omega
    have hc : (UInt8.ofNat n).toNat = n := toNat_ofNat (by omega)
    simp only [encF, List.cons_append, List.nil_append, pn, hc, List.length_cons, List.length_nil]
    rw [if_neg (by omega), if_neg (by omega), if_neg (by omega)]
  | k + 1, i, n, acc, rest, h, hi, h0, h64 => by
    have hi9 : i ≠ 9 := by omega
    by_cases hn : n < 128
    · have hc : (UInt8.ofNat n).toNat = n := toNat_ofNat (by omega)
      simp only [encF, if_pos hn, List.cons_append, List.nil_append, pn, hc, List.length_cons, List.length_nil]
      rw [if_neg (by omega), if_neg (by omega), if_neg (by omega)]
    · have hc : (UInt8.ofNat (n % 128 + 128)).toNat = n % 128 + 128 := toNat_ofNat (by omega)
      have hd : n / 128 < 128 ^ (k + 1) := by
        rw [Nat.div_lt_iff_lt_mul (by omega)]
        rw [Nat.pow_succ] at h
        exact h
      have hp : 128 ^ (i + 1) = 128 ^ i * 128 := Nat.pow_succ 128 i
      have hmul : n / 128 * 128 ^ (i + 1) + n % 128 * 128 ^ i = n * 128 ^ i := by
        rw [hp, Nat.mul_comm (128 ^ i) 128, ← Nat.mul_assoc, ← Nat.add_mul]
        congr 1
        omega
      have hlt : n / 128 * 128 ^ (i + 1) < 18446744073709551616 := by omega
      have ih := pn_enc k (i + 1) (n / 128) (acc + n % 128 * 128 ^ i) rest hd (by omega) (Or.inr (by omega)) hlt
      simp only [encF, if_neg hn, List.cons_append, pn, hc, List.length_cons]
      rw [if_neg (by omega), if_pos (by omega), show (n % 128 + 128) % 128 = n % 128 from by omega, ih]
      refine Prod.ext ?_ (Prod.ext ?_ rfl)
      · simp only; omega
      · simp only; omega

theorem pn_of_enc {n : Nat} (h : n < 18446744073709551616) (rest : List UInt8) : pn (enc n ++ rest) 0 0 = (n, (enc n).length, 0) := by
  have := pn_enc 9 0 n 0 rest (by
    have : (128 : Nat) ^ (9 + 1) = 1180591620717411303424 := by decide
    rw [this]; omega) (by omega) (Or.inl rfl) (by simpa using h)
  simpa [enc] using this

/-- What was read is put again: the digits that were read are those of the number (from place i on). -/
theorem pn_one : ∀ (bs : List UInt8) (i acc v j : Nat), pn bs i acc = (v, j, 0) → i ≤ 9 → acc < 128 ^ i →
    ∃ n, v = acc + n * 128 ^ i ∧ i < j ∧ j - i ≤ bs.length ∧ j ≤ 10 ∧ bs.take (j - i) = encF (9 - i) n ∧ (i = 0 ∨ 1 ≤ n) ∧ v < 18446744073709551616
  | [], i, acc, v, j, h, hi, ha => by simp [pn] at h
  | c :: bs, i, acc, v, j, h, hi, ha => by
    have hcl : c.toNat < 256 := c.toNat_lt
    have hco : UInt8.ofNat c.toNat = c := by simp
    obtain ⟨hp1, hp2⟩ := pow_le i hi
    simp only [pn] at h
    split at h
    · simp at h
    · rename_i hn9
      split at h
      · rename_i hbig
        have hi8 : i ≤ 8 := by omega
        have hp : 128 ^ (i + 1) = 128 ^ i * 128 := Nat.pow_succ 128 i
        have hm : c.toNat % 128 * 128 ^ i ≤ 127 * 128 ^ i := Nat.mul_le_mul_right _ (by omega)
        obtain ⟨n, hv, hij, hjl, hj10, htk, hn1, hv64⟩ := pn_one bs (i + 1) _ v j h (by omega) (by rw [hp]; omega)
        have hn1' : 1 ≤ n := by omega
        refine ⟨n * 128 + c.toNat % 128, ?_, by omega, by simp only [List.length_cons]; omega, hj10, ?_, by omega, hv64⟩
        · rw [hv, hp, Nat.add_mul]
          have : n * (128 ^ i * 128) = n * 128 * 128 ^ i := by rw [Nat.mul_comm (128 ^ i) 128, Nat.mul_assoc]
          omega
        · have hj : j - i = (j - (i + 1)) + 1 := by omega
          rw [hj, List.take_succ_cons, htk, show 9 - i = (9 - (i + 1)) + 1 from by omega]
          have hnb : ¬ (n * 128 + c.toNat % 128 < 128) := by omega
          rw [encF, if_neg hnb, show (n * 128 + c.toNat % 128) % 128 + 128 = c.toNat from by omega, hco,
            show (n * 128 + c.toNat % 128) / 128 = n from by omega]
      · rename_i hsm
        split at h
        · simp at h
        · rename_i hz
          simp only [Prod.mk.injEq] at h
          obtain ⟨h1, h2, _⟩ := h
          subst h1; subst h2
          refine ⟨c.toNat, rfl, by omega, by simp only [List.length_cons]; omega, by omega, ?_, by omega, ?_⟩
          · rw [show i + 1 - i = 1 from by omega, encF_one (by omega), hco]
            simp
          · by_cases hi9 : i = 9
            · subst hi9
              have : c.toNat ≤ 1 := by omega
              have hm : c.toNat * 128 ^ 9 ≤ 1 * 128 ^ 9 := Nat.mul_le_mul_right _ this
              have h9 : (128 : Nat) ^ 9 = 9223372036854775808 := by decide
              rw [h9] at *
              omega
            · have hm : c.toNat * 128 ^ i ≤ 127 * 128 ^ i := Nat.mul_le_mul_right _ (by omega)
              have h8 : 128 ^ i ≤ 72057594037927936 := by
                have : i = 0 ∨ i = 1 ∨ i = 2 ∨ i = 3 ∨ i = 4 ∨ i = 5 ∨ i = 6 ∨ i = 7 ∨ i = 8 := by omega
                rcases this with rfl | rfl | rfl | rfl | rfl | rfl | rfl | rfl | rfl <;> decide
              omega

theorem pn_one0 {bs : List UInt8} {v j : Nat} (h : pn bs 0 0 = (v, j, 0)) : bs.take j = enc v ∧ j ≤ bs.length ∧ 1 ≤ j ∧ v < 18446744073709551616 := by
  obtain ⟨n, hv, hij, hjl, _, htk, _, h64⟩ := pn_one bs 0 0 v j h (by omega) (by simp)
  have : n = v := by simpa using hv.symm
  subst this
  exact ⟨by simpa [enc] using htk, by simpa using hjl, by omega, h64⟩

theorem numS_le (s : RS) (most : Nat) : (numS s most).1 ≤ most := by
  unfold numS
  split
  · exact Nat.zero_le _
  · split
    · exact Nat.zero_le _
    · split
      · exact Nat.zero_le _
      · simp only; omega
theorem numS_len (s : RS) (most : Nat) : (numS s most).2.1.length ≤ s.1.length := by
  unfold numS
  split
  · exact Nat.le_refl _
  · split
    · exact Nat.zero_le _
    · split
      · exact Nat.zero_le _
      · simp only [List.length_drop]; omega
theorem takeS_len (s : RS) (n : Int) : (takeS s n).2.1.length ≤ s.1.length := by
  unfold takeS
  split
  · exact Nat.le_refl _
  · split
    · exact Nat.zero_le _
    · split
      · exact Nat.zero_le _
      · simp only [List.length_drop]; omega
theorem bytesS_len (s : RS) (m : Int) : (bytesS s m).2.1.length ≤ s.1.length := Nat.le_trans (takeS_len _ _) (numS_len _ _)
theorem numS_ok {s : RS} {m : Nat} (h : (numS s m).2.2 = 0) : s.2 = 0 ∧ (pn s.1 0 0).2.2 = 0 ∧ (pn s.1 0 0).1 ≤ m ∧ numS s m = ((pn s.1 0 0).1, (s.1.drop (pn s.1 0 0).2.1, 0)) := by
  by_cases h1 : s.2 = 0
  · by_cases h2 : (pn s.1 0 0).2.2 = 0
    · by_cases h3 : m < (pn s.1 0 0).1
      · rw [numS, if_neg (by simp [h1]), if_neg (by simp [h2]), if_pos h3] at h
        simp at h
      · refine ⟨h1, h2, by omega, ?_⟩
        rw [numS, if_neg (by simp [h1]), if_neg (by simp [h2]), if_neg h3]
    · rw [numS, if_neg (by simp [h1]), if_pos h2] at h
      exact absurd h h2
  · rw [numS, if_pos h1] at h
    exact absurd h h1
theorem takeS_ok {s : RS} {n : Int} (h : (takeS s n).2.2 = 0) : s.2 = 0 ∧ 0 ≤ n ∧ n ≤ s.1.length ∧ takeS s n = (s.1.take n.toNat, (s.1.drop n.toNat, 0)) := by
  by_cases h1 : s.2 = 0
  · by_cases h2 : n < 0
    · rw [takeS, if_neg (by simp [h1]), if_pos h2] at h
      simp at h
    · by_cases h3 : (s.1.length : Int) < n
      · rw [takeS, if_neg (by simp [h1]), if_neg h2, if_pos h3] at h
        simp at h
      · refine ⟨h1, by omega, by omega, ?_⟩
        rw [takeS, if_neg (by simp [h1]), if_neg h2, if_neg h3]
  · rw [takeS, if_pos h1] at h
    exact absurd h h1
theorem bytesS_ok {s : RS} {m : Int} (h : (bytesS s m).2.2 = 0) : (bytesS s m).2.1.length < s.1.length := by
  obtain ⟨h1, h2, h3, h4⟩ := takeS_ok h
  obtain ⟨g1, g2, g3, g4⟩ := numS_ok h1
  rcases hp : pn s.1 0 0 with ⟨v, j, e⟩
  rw [hp] at g2 g4
  simp only at g2
  subst g2
  have hj := pn_one0 hp
  rw [bytesS, h4]
  simp only [List.length_drop, g4]
  omega
theorem encP_app : ∀ (l m : List (List UInt8)), encP (l ++ m) = encP l ++ encP m
  | [], m => rfl
  | x :: l, m => by simp [encP, encP_app l m, List.append_assoc]
theorem encP_take {l : List (List UInt8)} {i : Nat} (h : i < l.length) : encP (l.take (i + 1)) = encP (l.take i) ++ encB l[i] := by
  rw [List.take_succ_eq_append_getElem h, encP_app]
  simp [encP]
theorem encB_len (x : List UInt8) : (encB x).length = (enc x.length).length + x.length := by simp [encB]
theorem encP_le : ∀ (l : List (List UInt8)) (i : Nat), (encP (l.take i)).length ≤ (encP l).length
  | [], i => by simp
  | x :: l, 0 => by simp [encP]
  | x :: l, i + 1 => by
    have := encP_le l i
    simp only [List.take_succ_cons, encP, List.length_append]
    omega
theorem len_le_encP : ∀ (l : List (List UInt8)), l.length ≤ (encP l).length
  | [] => by simp
  | x :: l => by
    have h1 := len_le_encP l
    have h2 := enc_len x.length
    simp only [encP, List.length_append, encB_len, List.length_cons]
    omega
theorem part_le_encP : ∀ (l : List (List UInt8)) (i : Nat) (h : i < l.length), l[i].length ≤ (encP l).length
  | x :: l, 0, h => by
    simp only [encP, List.length_append, encB_len, List.getElem_cons_zero]
    omega
  | x :: l, i + 1, h => by
    have := part_le_encP l i (by simpa using h)
    simp only [encP, List.length_append, List.getElem_cons_succ]
    omega

theorem numS_enc {n m : Nat} (h : n < 18446744073709551616) (hm : n ≤ m) (r : List UInt8) : numS (enc n ++ r, 0) m = (n, (r, 0)) := by
  have hp := pn_of_enc h r
  rw [numS, if_neg (by simp)]
  simp only [hp]
  rw [if_neg (by simp), if_neg (by omega)]
  simp
theorem bytesS_enc {x : List UInt8} {m : Int} (h : x.length < 18446744073709551616) (hm : (x.length : Int) ≤ m) (r : List UInt8) : bytesS (encB x ++ r, 0) m = (x, (r, 0)) := by
  have h1 := numS_enc (m := m.toNat) h (by omega) (x ++ r)
  rw [bytesS, encB, List.append_assoc, h1]
  simp only [takeS]
  rw [if_neg (by simp), if_neg (by omega), if_neg (by simp only [List.length_append]; omega)]
  simp
theorem listA_enc (m : Int) : ∀ (ls : List (List UInt8)) (r : List UInt8) (acc : List (List UInt8)), (∀ i (h : i < ls.length), ls[i].length < 18446744073709551616 ∧ (ls[i].length : Int) ≤ m) → listA m ls.length (encP ls ++ r, 0) acc = (acc ++ ls, (r, 0))
  | [], r, acc, _ => by simp [listA, encP]
  | x :: ls, r, acc, h => by
    have h0 := h 0 (by simp)
    simp only [List.getElem_cons_zero] at h0
    have hb := bytesS_enc (m := m) h0.1 h0.2 (encP ls ++ r)
    have ih := listA_enc m ls r (acc ++ [x]) (fun i hi => by
      have := h (i + 1) (by simpa using hi)
      simpa using this)
    rw [List.length_cons, listA, encP, List.append_assoc, hb]
    simp only
    rw [if_neg (by simp), ih]
    simp
theorem listS_enc {ls : List (List UInt8)} {k m : Int} (hl : ls.length < 18446744073709551616) (hk : (ls.length : Int) ≤ k) (h : ∀ i (h : i < ls.length), ls[i].length < 18446744073709551616 ∧ (ls[i].length : Int) ≤ m) (r : List UInt8) :
    listS (encL ls ++ r, 0) k m = (ls, (r, 0)) := by
  rw [listS, encL, List.append_assoc, numS_enc hl (by omega)]
  simpa using listA_enc m ls r [] h

/-- The bytes that a list's reading has read. -/
theorem bytesS_one {b : List UInt8} {m : Int} (h : (bytesS (b, 0) m).2.2 = 0) : ∃ x r, bytesS (b, 0) m = (x, (r, 0)) ∧ b = encB x ++ r := by
  obtain ⟨h1, h2, h3, h4⟩ := takeS_ok h
  obtain ⟨g1, g2, g3, g4⟩ := numS_ok h1
  rcases hp : pn b 0 0 with ⟨v, j, e⟩
  simp only [hp] at g2 g4
  subst g2
  have hj := pn_one0 hp
  rw [bytesS, h4]
  simp only [g4] at h3 ⊢
  have hvl : v ≤ (b.drop j).length := by omega
  refine ⟨_, _, rfl, ?_⟩
  rw [Int.toNat_natCast, encB]
  have hl : ((b.drop j).take v).length = v := by rw [List.length_take]; omega
  rw [hl, ← hj.1, List.append_assoc, List.take_append_drop, List.take_append_drop]
theorem listA_one (m : Int) : ∀ (n : Nat) (b : List UInt8) (acc : List (List UInt8)), (listA m n (b, 0) acc).2.2 = 0 → ∃ ls r, listA m n (b, 0) acc = (acc ++ ls, (r, 0)) ∧ ls.length = n ∧ b = encP ls ++ r
  | 0, b, acc, _ => ⟨[], b, by simp [listA], rfl, by simp [encP]⟩
  | n + 1, b, acc, h => by
    rw [listA] at h ⊢
    by_cases hb : (bytesS (b, 0) m).2.2 = 0
    · rw [if_neg (by simp [hb])] at h ⊢
      obtain ⟨x, r, h1, h2⟩ := bytesS_one hb
      rw [h1] at h ⊢
      simp only at h ⊢
      obtain ⟨ls, r2, g1, g2, g3⟩ := listA_one m n r (acc ++ [x]) h
      refine ⟨x :: ls, r2, by rw [g1]; simp, by simp [g2], ?_⟩
      rw [h2, g3, encP, List.append_assoc]
    · rw [if_pos hb] at h
      exact absurd h hb
theorem listS_one {b : List UInt8} {k m : Int} (h : (listS (b, 0) k m).2.2 = 0) : ∃ ls r, listS (b, 0) k m = (ls, (r, 0)) ∧ b = encL ls ++ r := by
  rw [listS] at h ⊢
  have hn : (numS (b, 0) k.toNat).2.2 = 0 := by
    rcases hq : numS (b, 0) k.toNat with ⟨v, s⟩
    rw [hq] at h
    simp only at h ⊢
    by_cases hs : s.2 = 0
    · exact hs
    · exfalso
      have hv : v = 0 := by
        have hv0 : (numS (b, 0) k.toNat).1 = v := by rw [hq]
        have hv1 : (numS (b, 0) k.toNat).2 = s := by rw [hq]
        unfold numS at hv0 hv1
        split at hv0
        · exact hv0.symm
        · rename_i a1
          rw [if_neg a1] at hv1
          split at hv0
          · exact hv0.symm
          · rename_i a2
            rw [if_neg a2] at hv1
            split at hv0
            · exact hv0.symm
            · rename_i a3
              rw [if_neg a3] at hv1
              rw [← hv1] at hs
              exact absurd rfl hs
      rw [hv, listA] at h
      exact hs h
  obtain ⟨g1, g2, g3, g4⟩ := numS_ok hn
  rcases hp : pn b 0 0 with ⟨v, j, e⟩
  simp only [hp] at g2 g4
  subst g2
  have hj := pn_one0 hp
  rw [g4] at h ⊢
  simp only at h ⊢
  obtain ⟨ls, r, h1, h2, h3⟩ := listA_one m v (b.drop j) [] h
  refine ⟨ls, r, by rw [h1]; simp, ?_⟩
  rw [encL, h2, ← hj.1, List.append_assoc, ← h3, List.take_append_drop]

end Go.Proofs.YtjoonpkgepkkhaaGreatDoor.Cm

/-
  Words for memory, for layer 1 (codec): a slice that reads as cells outside some blocks, a block known whole, and the law of append from any source onto a row of the call's own.
-/
namespace Go.Proofs.YtjoonpkgepkkhaaGreatDoor.Ck
open Go Go.RowKit

/-- A byte's cell, and a byte string's cells. -/
def BV (c : UInt8) : Value := .int .u8 (c.toNat : Int)
def BVs (l : List UInt8) : List Value := l.map BV
theorem BVs_len (l : List UInt8) : (BVs l).length = l.length := by simp [BVs]
theorem BVs_app (l m : List UInt8) : BVs (l ++ m) = BVs l ++ BVs m := by simp [BVs]
theorem BVs_one (l : List UInt8) : ∀ u ∈ BVs l, u.oneCell' = true := by
  intro u hu
  simp only [BVs, List.mem_map] at hu
  obtain ⟨c, _, rfl⟩ := hu
  rfl
theorem BV_of {n : Nat} (h : n < 256) : BV (UInt8.ofNat n) = .int .u8 (n : Int) := by
  simp only [BV, Cm.toNat_ofNat h]
theorem BVs_get {l : List UInt8} {j : Nat} (h : j < l.length) : (BVs l)[j]? = some (.int .u8 (l[j].toNat : Int)) := by
  simp [BVs, BV, h]

theorem add_block (a : Addr) (n : Nat) : (a.add n).block = a.block := by unfold Addr.add; split <;> rfl
theorem add_add (a : Addr) (i j : Nat) : (a.add i).add j = a.add (i + j) := by
  unfold Addr.add
  by_cases hi : i = 0 <;> by_cases hj : j = 0 <;> simp [hi, hj, Nat.add_assoc]

/-- The slice value v has n elements of so many cells, which read as xs, in no block of X. -/
def Sl (w : World) (X : Nat → Prop) (size : Nat) (v : Value) (n : Nat) (xs : List Value) : Prop :=
  ∃ A c, v = .slice A n c ∧ xs.length = n * size ∧ n ≤ c ∧ c ≤ maxLen ∧ (0 < n → ∃ ad, A = some ad ∧ ad.block < w.heap.size ∧ ¬ X ad.block ∧ ∀ j u, xs[j]? = some u → w.cell? (ad.add j) = some u)

section
variable {w w' : World} {X Y : Nat → Prop} {size n : Nat} {v : Value} {xs : List Value}
theorem Sl.nil (w : World) (X : Nat → Prop) (size : Nat) : Sl w X size (.slice none 0 0) 0 [] := ⟨none, 0, rfl, by simp, Nat.le_refl _, Nat.zero_le _, fun h => absurd h (by omega)⟩
theorem Sl.keep (h : Sl w X size v n xs) (hs : w.heap.size ≤ w'.heap.size) (hk : ∀ b, b < w.heap.size → ¬ X b → w'.heap[b]? = w.heap[b]?) : Sl w' X size v n xs := by
  obtain ⟨A, c, hv, hl, hc, hm, hx⟩ := h
  refine ⟨A, c, hv, hl, hc, hm, fun hn => ?_⟩
  obtain ⟨ad, hA, hb, hX, hcell⟩ := hx hn
  refine ⟨ad, hA, by omega, hX, fun j u hu => ?_⟩
  have hbl : (ad.add j).block = ad.block := add_block ad j
  exact (World.cell?_of_block (w := w) (by rw [hbl]; exact hk _ hb hX)).trans (hcell j u hu)
theorem Sl.weaken (h : Sl w X size v n xs) (hk : ∀ b, b < w.heap.size → Y b → X b) : Sl w Y size v n xs := by
  obtain ⟨A, c, hv, hl, hc, hm, hx⟩ := h
  refine ⟨A, c, hv, hl, hc, hm, fun hn => ?_⟩
  obtain ⟨ad, hA, hb, hX, hcell⟩ := hx hn
  exact ⟨ad, hA, hb, fun hy => hX (hk _ hb hy), hcell⟩
theorem Sl.weaken' (h : Sl w X size v n xs) (hk : ∀ b, b < w.heap.size → ¬ X b → ¬ Y b) : Sl w Y size v n xs := by
  obtain ⟨A, c, hv, hl, hc, hm, hx⟩ := h
  refine ⟨A, c, hv, hl, hc, hm, fun hn => ?_⟩
  obtain ⟨ad, hA, hb, hX, hcell⟩ := hx hn
  exact ⟨ad, hA, hb, hk _ hb hX, hcell⟩
theorem Sl.grown {row : Option Nat} (h : Sl w X size v n xs) (hg : w.grownBy w' row) (hr : ∀ k, row = some k → k < w.heap.size → X k) : Sl w' X size v n xs :=
  h.keep hg.size fun b hb hX => hg.block b hb fun e => hX (hr b e.symm hb)
theorem Sl.below {B : Nat} (h : Sl w X size v n xs) (hb : Below B w w') (hX : ∀ k, k < w.heap.size → B ≤ k → X k) : Sl w' X size v n xs :=
  h.keep hb.size fun b hlt hn => hb.block b (by rcases Nat.lt_or_ge b B with h1 | h1; exact h1; exact absurd (hX b hlt h1) hn)
theorem Sl.none_ {c : Nat} (h : Sl w X size (.slice none n c) n xs) : n = 0 ∧ xs = [] := by
  obtain ⟨A, c', hv, hl, hc, hm, hx⟩ := h
  injection hv with e1
  subst e1
  have hn : n = 0 := by
    rcases Nat.eq_zero_or_pos n with h0 | h0
    · exact h0
    · obtain ⟨ad, h, _⟩ := hx h0
      cases h
  subst hn
  exact ⟨rfl, List.eq_nil_of_length_eq_zero (by simpa using hl)⟩
/-- Behind a call that writes no old block. -/
theorem Sl.after (h : Sl w X size v n xs) (hb : Below w.heap.size w w') : Sl w' X size v n xs := h.below hb fun k h1 h2 => absurd h1 (by omega)
/-- It lies in an old block. -/
theorem Sl.old (h : Sl w X size v n xs) {B : Nat} (hB : w.heap.size ≤ B) : Sl w (fun k => X k ∨ B ≤ k) size v n xs := by
  obtain ⟨A, c, hv, hl, hc, hm, hx⟩ := h
  refine ⟨A, c, hv, hl, hc, hm, fun hn => ?_⟩
  obtain ⟨ad, hA, hb, hX, hcell⟩ := hx hn
  exact ⟨ad, hA, hb, fun hy => by rcases hy with hy | hy; exact hX hy; omega, hcell⟩
theorem Sl.old' (h : Sl w X size v n xs) {B : Nat} (hB : w.heap.size ≤ B) : Sl w (fun k => B ≤ k) size v n xs := (h.old hB).weaken fun _ _ h => .inr h
theorem Sl.drew (h : Sl w X size v n xs) : Sl w.drew X size v n xs := h
theorem Sl.drewN (h : Sl w X size v n xs) (k : Nat) : Sl (w.drewN k) X size v n xs := h
theorem Sl.alloc (h : Sl w X size v n xs) (o : Obj) : Sl (w.alloc o) X size v n xs :=
  h.keep (by simp) fun b hb _ => Below.heap_alloc w o b hb
theorem Sl.setCell (h : Sl w X size v n xs) {p : Addr} (hp : p.block < w.heap.size → X p.block) (u : Value) : Sl (w.setCell p u) X size v n xs :=
  h.keep (by simp [World.setCell]) fun b hb hX => Below.heap_setCell w p u b (fun e => by subst e; exact hX (hp hb))
theorem Sl.of_own {base : Nat} {e : TypeId} (h : w.ownsRow base e size v n xs) (hX : ∀ k, base ≤ k → k < w.heap.size → ¬ X k) : Sl w X size v n xs := by
  rcases h.2 with ⟨rfl, rfl⟩ | ⟨g, cap, cur, rfl, hb, hg, hnc, hcm, _, _⟩
  · exact ⟨none, 0, rfl, h.1, Nat.le_refl _, Nat.zero_le _, fun h => absurd h (by omega)⟩
  · have hlt : g < w.heap.size := (Array.getElem?_eq_some_iff.1 hg).1
    exact ⟨_, _, rfl, h.1, hnc, hcm, fun _ => ⟨_, rfl, hlt, hX g hb hlt, h.cells (g := g) rfl⟩⟩
theorem Sl.of_own' {base : Nat} {e : TypeId} (h : w.ownsRow base e size v n xs) (hX : ∀ k, v.ownBlock = some k → ¬ X k) : Sl w X size v n xs := by
  rcases h.2 with ⟨rfl, rfl⟩ | ⟨g, cap, cur, rfl, hb, hg, hnc, hcm, _, _⟩
  · exact ⟨none, 0, rfl, h.1, Nat.le_refl _, Nat.zero_le _, fun h => absurd h (by omega)⟩
  · have hlt : g < w.heap.size := (Array.getElem?_eq_some_iff.1 hg).1
    exact ⟨_, _, rfl, h.1, hnc, hcm, fun _ => ⟨_, rfl, hlt, hX g rfl, h.cells (g := g) rfl⟩⟩
/-- A cut of it: from i on, up to j. -/
theorem Sl.cut {A : Option Addr} {c i : Nat} (h : Sl w X size (.slice A n c) n xs) (hi : i ≤ n) (A' : Option Addr) (hA : ∀ ad, A = some ad → i < n → A' = some (ad.add (i * size))) :
    Sl w X size (.slice A' (n - i) (c - i)) (n - i) (xs.drop (i * size)) := by
  obtain ⟨A0, c0, hv, hl, hc, hm, hx⟩ := h
  injection hv with e1 e2 e3
  subst e1; subst e3
  refine ⟨A', c - i, rfl, by rw [List.length_drop, hl, Nat.sub_mul], by omega, by omega, fun hn => ?_⟩
  obtain ⟨ad, hAd, hb, hX, hcell⟩ := hx (by omega)
  refine ⟨ad.add (i * size), hA ad hAd (by omega), by rw [add_block]; exact hb, by rw [add_block]; exact hX, fun j u hu => ?_⟩
  rw [add_add]
  exact hcell _ u (by rw [← hu, List.getElem?_drop])
theorem Sl.upto {A : Option Addr} {c j : Nat} (h : Sl w X size (.slice A n c) n xs) (hj : j ≤ n) : Sl w X size (.slice A j c) j (xs.take (j * size)) := by
  obtain ⟨A0, c0, hv, hl, hc, hm, hx⟩ := h
  injection hv with e1 e2 e3
  subst e1; subst e3
  have hjs : j * size ≤ n * size := Nat.mul_le_mul_right _ hj
  refine ⟨A, c, rfl, by rw [List.length_take, hl]; omega, by omega, hm, fun hn => ?_⟩
  obtain ⟨ad, hAd, hb, hX, hcell⟩ := hx (by omega)
  refine ⟨ad, hAd, hb, hX, fun k u hu => hcell k u ?_⟩
  rw [List.getElem?_take] at hu
  split at hu
  · exact hu
  · cases hu
end

/-- The slice value v reads as a list of byte strings, in no block of X. -/
def Ls (w : World) (X : Nat → Prop) (v : Value) (ls : List (List UInt8)) : Prop :=
  ∃ vals, Sl w X 1 v ls.length vals ∧ ∀ i (h : i < ls.length), ∃ u, vals[i]? = some u ∧ Sl w X 1 u ls[i].length (BVs ls[i])
section
variable {w w' : World} {X Y : Nat → Prop} {v : Value} {ls : List (List UInt8)}
theorem Ls.keep (h : Ls w X v ls) (hs : w.heap.size ≤ w'.heap.size) (hk : ∀ b, b < w.heap.size → ¬ X b → w'.heap[b]? = w.heap[b]?) : Ls w' X v ls := by
  obtain ⟨vals, h1, h2⟩ := h
  exact ⟨vals, h1.keep hs hk, fun i hi => by obtain ⟨u, hu, h3⟩ := h2 i hi; exact ⟨u, hu, h3.keep hs hk⟩⟩
theorem Ls.weaken (h : Ls w X v ls) (hk : ∀ b, b < w.heap.size → Y b → X b) : Ls w Y v ls := by
  obtain ⟨vals, h1, h2⟩ := h
  exact ⟨vals, h1.weaken hk, fun i hi => by obtain ⟨u, hu, h3⟩ := h2 i hi; exact ⟨u, hu, h3.weaken hk⟩⟩
theorem Ls.grown {row : Option Nat} (h : Ls w X v ls) (hg : w.grownBy w' row) (hr : ∀ k, row = some k → k < w.heap.size → X k) : Ls w' X v ls :=
  h.keep hg.size fun b hb hX => hg.block b hb fun e => hX (hr b e.symm hb)
theorem Ls.below {B : Nat} (h : Ls w X v ls) (hb : Below B w w') (hX : ∀ k, k < w.heap.size → B ≤ k → X k) : Ls w' X v ls :=
  h.keep hb.size fun b hlt hn => hb.block b (by rcases Nat.lt_or_ge b B with h1 | h1; exact h1; exact absurd (hX b hlt h1) hn)
theorem Ls.after (h : Ls w X v ls) (hb : Below w.heap.size w w') : Ls w' X v ls := h.below hb fun k h1 h2 => absurd h1 (by omega)
theorem Ls.old' (h : Ls w X v ls) {B : Nat} (hB : w.heap.size ≤ B) : Ls w (fun k => B ≤ k) v ls := by
  obtain ⟨vals, h1, h2⟩ := h
  exact ⟨vals, h1.old' hB, fun i hi => by obtain ⟨u, hu, h3⟩ := h2 i hi; exact ⟨u, hu, h3.old' hB⟩⟩
/-- The i-th part: where it lies, and what it reads as. -/
theorem Ls.at_ {A : Option Addr} {n c i : Nat} (h : Ls w X (.slice A n c) ls) (hi : i < ls.length) :
    ∃ ad B d, A = some ad ∧ w.cell? (ad.add i) = some (.slice B ls[i].length d) ∧ Sl w X 1 (.slice B ls[i].length d) ls[i].length (BVs ls[i]) := by
  obtain ⟨vals, h1, h2⟩ := h
  obtain ⟨A0, c0, hv, hl, hc, hm, hx⟩ := h1
  injection hv with e1 e2 e3
  obtain ⟨ad, hA, hb, hX, hcell⟩ := hx (by omega)
  obtain ⟨u, hu, h3⟩ := h2 i hi
  have h4 := h3
  obtain ⟨B, d, rfl, -⟩ := h4
  exact ⟨ad, B, d, e1.trans hA, hcell i _ hu, h3⟩
end

/-- A block that is known whole. -/
def Blk (w : World) (g : Nat) (t : TypeId) (cs : Array Value) : Prop := w.heap[g]? = some (.cells cs t (0, 0))
section
variable {w w' : World} {g : Nat} {t : TypeId} {cs : Array Value}
theorem Blk.lt (h : Blk w g t cs) : g < w.heap.size := (Array.getElem?_eq_some_iff.1 h).1
theorem Blk.cell (h : Blk w g t cs) (i : Nat) : w.cell? ⟨g, i, none⟩ = cs[i]? := cell_of_row w g i cs t (0, 0) h
theorem Blk.frozen (h : Blk w g t cs) (i : Nat) : w.frozen? ⟨g, i, none⟩ = false := by
  unfold Blk at h
  simp [World.frozen?, h]
theorem Blk.new (w : World) (t : TypeId) (cs : Array Value) : Blk (w.alloc (.cells cs t)) w.heap.size t cs := heap_alloc_new w _
theorem Blk.new_at {w : World} {B : Nat} {t : TypeId} {cs cs' : Array Value} (hB : B = w.heap.size) (hc : cs' = cs) : Blk (w.alloc (.cells cs' t)) B t cs := by
  subst hB; subst hc; exact Blk.new _ _ _
theorem Blk.alloc (h : Blk w g t cs) (o : Obj) : Blk (w.alloc o) g t cs := (Below.heap_alloc w o g h.lt).trans h
theorem Blk.set_ (h : Blk w g t cs) (i : Nat) (u : Value) : Blk (w.setCell ⟨g, i, none⟩ u) g t (cs.setIfInBounds i u) := by
  unfold Blk at h ⊢
  simp [World.setCell, Array.getElem?_modify, h]
theorem Blk.far (h : Blk w g t cs) {p : Addr} (hp : g ≠ p.block) (u : Value) : Blk (w.setCell p u) g t cs := (Below.heap_setCell w p u g hp).trans h
theorem Blk.below {B : Nat} (h : Blk w g t cs) (hb : Below B w w') (hg : g < B) : Blk w' g t cs := (hb.block g hg).trans h
theorem Blk.grown {row : Option Nat} (h : Blk w g t cs) (hb : w.grownBy w' row) (hg : some g ≠ row) : Blk w' g t cs := (hb.block g h.lt hg).trans h
end

theorem below_drewN {B : Nat} {a w : World} (h : Below B a w) (n : Nat) : Below B a (w.drewN n) := ⟨h.os, h.tape, h.output, h.size, h.block⟩
theorem grown_of_below {a w : World} (h : Below a.heap.size a w) (row : Option Nat) : a.grownBy w row := ⟨h.os, h.tape, h.output, h.size, fun i hi _ => h.block i hi⟩
theorem below_of_grown {a w : World} {row : Option Nat} (h : a.grownBy w row) (hr : ∀ k, row = some k → a.heap.size ≤ k) : Below a.heap.size a w := ⟨h.os, h.tape, h.output, h.size, fun i hi => h.block i hi fun e => by have := hr i e.symm; omega⟩
theorem own_below {w w' : World} {base : Nat} {e : TypeId} {size : Nat} {v : Value} {n : Nat} {xs : List Value} (h : w.ownsRow base e size v n xs) (hb : Below w.heap.size w w') : w'.ownsRow base e size v n xs :=
  h.kept (grown_of_below hb none) (by cases v.ownBlock <;> simp)
theorem grown_setCell {a w : World} {g : Nat} (h : a.grownBy w (some g)) {p : Addr} (hp : p.block = g ∨ a.heap.size ≤ p.block) (u : Value) : a.grownBy (w.setCell p u) (some g) :=
  ⟨h.os, h.tape, h.output, by simpa [World.setCell] using h.size, fun i hi hne => (Below.heap_setCell w p u i (by
    rintro rfl
    rcases hp with hp | hp
    · exact hne (by rw [hp])
    · omega)).trans (h.block i hi hne)⟩
theorem grown_below {a b c : World} {row : Option Nat} (h : a.grownBy b row) (k : Below b.heap.size b c) : a.grownBy c row := h.trans (grown_of_below k row)

section
variable {P : Program} (w : World)
theorem run_append_nilsrc (base : Nat) (t ty e : TypeId) (i : TypeInfo) (size : Nat) (ht : P.underlying t = some (.slice e)) (hi : P.info? e = some i)
    (v : Value) (n : Nat) (xs : List Value) (hown : w.ownsRow base e size v n xs) (c : Nat) : (Builtin.append_ #[t, t] ty #[v, .slice none 0 c]).run P w = .ok v w := by
  rcases hown.2 with ⟨rfl, rfl⟩ | ⟨g, cap, cur, rfl, _, _, hnc, _⟩
  · simp [Builtin.append_, run_underlying ht, sizeOf, typeInfo, hi, Builtin.lenOf, Builtin.firstCells]
  · simp [Builtin.append_, run_underlying ht, sizeOf, typeInfo, hi, Builtin.lenOf, Builtin.firstCells, hnc, storeCells]

/-- What an append leaves: a row of the call's own, in the old row or a new block. -/
def Appended (w : World) (base : Nat) (e : TypeId) (size : Nat) (v : Value) (n : Nat) (xs : List Value) (v' : Value) (w' : World) : Prop :=
  w'.ownsRow base e size v' n xs ∧ w.grownBy w' v.ownBlock ∧ (v'.ownBlock = v.ownBlock ∨ v'.ownBlock = some w.heap.size)

theorem run_append_sl (base : Nat) (t ty e : TypeId) (i : TypeInfo) (z : Value) (size bytes : Nat) (ht : P.underlying t = some (.slice e)) (hi : P.info? e = some i) (hz : i.zero = some z)
    (hsize : i.size = size) (hby : i.bytes = bytes) (hzs : z.cells.size = size) (hsz : 0 < size)
    (v : Value) (n : Nat) (xs : List Value) (hown : w.ownsRow base e size v n xs)
    (X : Nat → Prop) (src : Value) (m : Nat) (news : List Value) (hr : Sl w X size src m news) (h1 : ∀ u ∈ news, u.oneCell' = true)
    (h63 : n + m ≤ maxLen) (hbytes : (n + m) * bytes ≤ 140737488355328) (hbase : base ≤ w.heap.size) :
    ∃ v' w', (Builtin.append_ #[t, t] ty #[v, src]).run P w = .ok v' w' ∧ Appended w base e size v (n + m) (xs ++ news) v' w' := by
  obtain ⟨A, c, rfl, hl, hc, hcm, hx⟩ := hr
  rcases A with _ | ad
  · have hm : m = 0 := by
      rcases Nat.eq_zero_or_pos m with h0 | h0
      · exact h0
      · obtain ⟨ad, h, _⟩ := hx h0
        cases h
    subst hm
    have hn : news = [] := List.eq_nil_of_length_eq_zero (by simpa using hl)
    subst hn
    exact ⟨v, w, run_append_nilsrc w base t ty e i size ht hi v n xs hown c, by simpa using hown, World.grownBy.refl w _, .inl rfl⟩
  · have hcells : ∀ j u, news[j]? = some u → w.cell? (ad.add j) = some u := by
      intro j u hu
      rcases Nat.eq_zero_or_pos m with h0 | h0
      · subst h0
        have hn : news = [] := List.eq_nil_of_length_eq_zero (by simpa using hl)
        subst hn
        simp at hu
      · obtain ⟨ad', h, _, _, hc⟩ := hx h0
        injection h with h
        subst h
        exact hc j u hu
    obtain ⟨v', w', hrun, h2, h3, _, h5⟩ := run_append_own_at (P := P) w base t ty e i z size bytes ht hi hz hsize hby hzs hsz v n xs hown ad m c news hl hcells h1 h63 hbytes hbase
    exact ⟨v', w', hrun, h2, h3, h5⟩

/-- At the operation, for the walk. -/
theorem wpList_append_sl {ops : Array Oper} {rest : List Oper} {o : Oper} {a : Act} {Q : Exit → Act → World → Prop} (hgd : o.guard = none) (s x : Operand) (t : TypeId)
    (ho : o.op = .call { callee := .builtin .append, args := #[s, x], argTypes := #[t, t] })
    (base : Nat) (e : TypeId) (i : TypeInfo) (z : Value) (size bytes : Nat) (ht : P.underlying t = some (.slice e)) (hi : P.info? e = some i) (hz : i.zero = some z)
    (hsize : i.size = size) (hby : i.bytes = bytes) (hzs : z.cells.size = size) (hsz : 0 < size)
    (v : Value) (n : Nat) (xs : List Value) (hs : a.eval s = v) (hown : w.ownsRow base e size v n xs)
    (X : Nat → Prop) (src : Value) (m : Nat) (news : List Value) (hx : a.eval x = src) (hr : Sl w X size src m news) (h1 : ∀ u ∈ news, u.oneCell' = true)
    (h63 : n + m ≤ maxLen) (hbytes : (n + m) * bytes ≤ 140737488355328) (hbase : base ≤ w.heap.size)
    (h : ∀ v' w', Appended w base e size v (n + m) (xs ++ news) v' w' → wpList P ops Q rest (a.put o.dst v') w') : wpList P ops Q (o :: rest) a w := by
  refine wpList_plain hgd fun K hK => ?_
  obtain ⟨v', w', hrun, h2⟩ := run_append_sl (P := P) w base t o.type e i z size bytes ht hi hz hsize hby hzs hsz v n xs hown X src m news hr h1 h63 hbytes hbase
  unfold Oper.wp execOp
  simp only [ho, resolve, invoke, builtin, Sem.run_bind, Sem.run_pure, Result.andThen_ok, List.map_toArray, List.map_cons, List.map_nil, hs, hx, hrun]
  exact hK _ _ (h v' w' h2)

/-- A string out of bytes. -/
theorem run_convert_sl (X : Nat → Prop) (src dst e : TypeId) (A : Option Addr) (c : Nat) (l : List UInt8) (hs : P.underlying src = some (.slice e)) (he : P.underlying e = some (.int .u8)) (hd : P.underlying dst = some .string)
    (h : Sl w X 1 (.slice A l.length c) l.length (BVs l)) : (convert src dst (.slice A l.length c)).run P w = .ok (.string ⟨l.toArray⟩) w := by
  obtain ⟨A0, c0, hv, hl, hc, hcm, hx⟩ := h
  injection hv with e1 e2 e3
  subst e1; subst e3
  rcases A with _ | ad
  · have hl0 : l = [] := by
      rcases Nat.eq_zero_or_pos l.length with h0 | h0
      · exact List.eq_nil_of_length_eq_zero h0
      · obtain ⟨ad, h, _⟩ := hx h0
        cases h
    subst hl0
    rw [run_convert_bytes_string w src dst e none _ c hs he hd]
    rfl
  · refine run_convert_bytes_back w src dst e ad c l hs he hd fun j hj => ?_
    obtain ⟨ad', h, _, _, hc⟩ := hx (by omega)
    injection h with h
    subst h
    exact hc j _ (BVs_get hj)
end

/-- Two results, the first an array in a cell of its own. -/
theorem results_row_tmp {P : Program} {fn : Func} {p q : Tmp} {ty : TypeId} (h : fn.results = #[.cell p ty, .tmp q]) (tmps : Array Value) (w : World) (g : Nat) (t : TypeId) (cs : Array Value) (fr : Nat × Nat) (d : TypeDesc)
    (hp : tmps.getD p undef = .pointer (some ⟨g, 0, none⟩)) (hg : w.heap[g]? = some (.cells cs t fr))
    (hu : P.underlying ty = some d) (hd : (match d with | .struct _ | .array _ _ => true | _ => false) = true) (hi : (P.info? ty).map (·.size) = some cs.size) :
    (results fn tmps).run P w = .ok (.tuple #[.agg cs, tmps.getD q undef]) w := by
  have hp' : tmps[p]?.getD undef = .pointer (some ⟨g, 0, none⟩) := by simpa using hp
  simp [results, h, hp', asAddr, run_loadVar_row w g t ty cs fr d hg hu hd hi]

/-- What a call makes that hands back new bytes. -/
def Made (w : World) (e : TypeId) (l : List UInt8) (en : Ending) (w' : World) : Prop :=
  ∃ v, en = .returned v ∧ w'.ownsRow w.heap.size e 1 v l.length (BVs l) ∧ Below w.heap.size w w'
/-- What a call makes that puts bytes behind a row of its caller's own. -/
def Onto (w : World) (base : Nat) (e : TypeId) (v : Value) (l : List UInt8) (en : Ending) (w' : World) : Prop :=
  ∃ v', en = .returned v' ∧ w'.ownsRow base e 1 v' l.length (BVs l) ∧ w.grownBy w' v.ownBlock ∧ (v'.ownBlock = v.ownBlock ∨ ∀ k, v'.ownBlock = some k → w.heap.size ≤ k)

theorem grown_step {a b c : World} {r1 r2 : Option Nat} (h : a.grownBy b r1) (k : b.grownBy c r2) (hr : r2 = r1 ∨ ∀ g, r2 = some g → a.heap.size ≤ g) : a.grownBy c r1 :=
  ⟨k.os.trans h.os, k.tape.trans h.tape, k.output.trans h.output, Nat.le_trans h.size k.size, fun i hi hn => (k.block i (Nat.lt_of_lt_of_le hi h.size) (by
    rcases hr with rfl | hr
    · exact hn
    · intro e; have := hr i e.symm; omega)).trans (h.block i hi hn)⟩
section
variable {w w1 w2 : World} {base : Nat} {e : TypeId} {v v1 v2 : Value} {l k : List UInt8} {en : Ending}
theorem Onto.of (hb : Below w.heap.size w w1) (h : Appended w1 base e 1 v (l.length + k.length) (BVs l ++ BVs k) v2 w2) : Onto w base e v (l ++ k) (.returned v2) w2 :=
  ⟨v2, rfl, by rw [List.length_append, BVs_app]; exact h.1, (grown_of_below hb _).trans h.2.1, by
    rcases h.2.2 with h | h
    · exact .inl h
    · refine .inr fun g hg => ?_
      rw [h] at hg
      injection hg with hg
      have := hb.size
      omega⟩
theorem Onto.then_ (h : w.grownBy w1 v.ownBlock) (hv : v1.ownBlock = v.ownBlock ∨ ∀ g, v1.ownBlock = some g → w.heap.size ≤ g) (h2 : Onto w1 base e v1 l en w2) : Onto w base e v l en w2 := by
  obtain ⟨v2, rfl, hown, hg, hr⟩ := h2
  refine ⟨v2, rfl, hown, grown_step h hg hv, ?_⟩
  rcases hr with hr | hr
  · rw [hr]; exact hv
  · exact .inr fun g hg => Nat.le_trans h.size (hr g hg)
theorem Made.onto (h : w1.ownsRow w.heap.size e 1 v k.length (BVs k)) (hb : Below w.heap.size w w1) (h2 : Onto w1 w.heap.size e v l en w2) : Made w e l en w2 := by
  obtain ⟨v2, rfl, hown, hg, hr⟩ := h2
  exact ⟨v2, rfl, hown, hb.grown hg hb.size fun g hg => (h.lt g hg).1⟩
/-- What was made, seen from an earlier world. -/
theorem Made.later (hb : Below w.heap.size w w1) (h : Made w1 e l en w2) : ∃ v, en = .returned v ∧ w2.ownsRow w1.heap.size e 1 v l.length (BVs l) ∧ Below w.heap.size w w2 := by
  obtain ⟨v, rfl, hown, hb2⟩ := h
  exact ⟨v, rfl, hown, hb.trans (hb2.mono hb.size)⟩
theorem own_shape {size n : Nat} {xs : List Value} (h : w.ownsRow base e size v n xs) : ∃ A c, v = .slice A n c := by
  rcases h.2 with ⟨hv, rfl⟩ | ⟨g, cap, cur, hv, _⟩
  · exact ⟨_, _, hv⟩
  · exact ⟨_, _, hv⟩
theorem own_base {size n : Nat} {b' : Nat} {xs : List Value} (h : w.ownsRow base e size v n xs) (hb : b' ≤ base) : w.ownsRow b' e size v n xs := by
  refine ⟨h.1, ?_⟩
  rcases h.2 with hn | ⟨g, cap, cur, hv, hg, rest⟩
  · exact .inl hn
  · exact .inr ⟨g, cap, cur, hv, by omega, rest⟩
end

/-- A slice literal. -/
theorem Sl_lit (w : World) (X : Nat → Prop) (t : TypeId) (l : List UInt8) {cs : Array Value} {n : Nat} (hc : cs = (BVs l).toArray) (hn : n = l.length) (h63 : n ≤ 65536) (hX : ¬ X w.heap.size) : Sl (w.alloc (.cells cs t)) X 1 (.slice (some ⟨w.heap.size, 0, none⟩) n n) n (BVs l) := by
  subst hc; subst hn
  refine ⟨_, _, rfl, by simp [BVs_len], Nat.le_refl _, by simp only [maxLen]; omega, fun _ => ⟨_, rfl, by simp, hX, fun j u hu => ?_⟩⟩
  have ha : (⟨w.heap.size, 0, none⟩ : Addr).add j = ⟨w.heap.size, j, none⟩ := by unfold Addr.add; split <;> simp_all
  rw [ha, Blk.cell (Blk.new w t _) j]
  simpa using hu

end Go.Proofs.YtjoonpkgepkkhaaGreatDoor.Ck

/-
  Words for memory, for any layer: a change of some blocks and new ones; append, its result written out.
-/
namespace Go.Proofs.YtjoonpkgepkkhaaGreatDoor.Kw
open Go Go.RowKit Ck

/-- w' is w but for blocks of S, and new ones. -/
structure Ch (S : Nat → Prop) (w w' : World) : Prop where
  os : w'.os = w.os
  tape : w'.tape = w.tape
  output : w'.output = w.output
  size : w.heap.size ≤ w'.heap.size
  block : ∀ k, k < w.heap.size → ¬ S k → w'.heap[k]? = w.heap[k]?

section
variable {S T X : Nat → Prop} {a b c w w' : World}
theorem Ch.refl (S : Nat → Prop) (w : World) : Ch S w w := ⟨rfl, rfl, rfl, Nat.le_refl _, fun _ _ _ => rfl⟩
theorem Ch.trans (h : Ch S a b) (k : Ch T b c) (hT : ∀ k, k < a.heap.size → T k → S k) : Ch S a c :=
  ⟨k.os.trans h.os, k.tape.trans h.tape, k.output.trans h.output, Nat.le_trans h.size k.size, fun i hi hn =>
    (k.block i (Nat.lt_of_lt_of_le hi h.size) (fun ht => hn (hT i hi ht))).trans (h.block i hi hn)⟩
theorem Ch.mono (h : Ch S a b) (hT : ∀ k, k < a.heap.size → S k → T k) : Ch T a b :=
  ⟨h.os, h.tape, h.output, h.size, fun i hi hn => h.block i hi (fun hs => hn (hT i hi hs))⟩
theorem Ch.of_below {B : Nat} (h : Below B a b) (hB : a.heap.size ≤ B) : Ch S a b := ⟨h.os, h.tape, h.output, h.size, fun i hi _ => h.block i (by omega)⟩
theorem Ch.of_grown {row : Option Nat} (h : a.grownBy b row) (hr : ∀ g, row = some g → g < a.heap.size → S g) : Ch S a b :=
  ⟨h.os, h.tape, h.output, h.size, fun i hi hn => h.block i hi (fun e => hn (hr i e.symm hi))⟩
theorem Ch.below {B : Nat} (h : Ch S a b) (hB : ∀ k, k < B → ¬ S k) (hs : B ≤ a.heap.size) : Below B a b := ⟨h.os, h.tape, h.output, h.size, fun i hi => h.block i (by omega) (hB i hi)⟩
theorem Ch.alloc (h : Ch S a b) (o : Obj) : Ch S a (b.alloc o) := h.trans (Ch.of_below (S := fun _ => False) ((Below.refl b.heap.size b).alloc (Nat.le_refl _) o) (Nat.le_refl _)) (fun _ _ h => h.elim)
theorem Ch.drewN (h : Ch S a b) (n : Nat) : Ch S a (b.drewN n) := ⟨h.os, h.tape, h.output, h.size, h.block⟩
theorem Ch.drew (h : Ch S a b) : Ch S a b.drew := ⟨h.os, h.tape, h.output, h.size, h.block⟩
theorem Ch.setCell (h : Ch S a b) {p : Addr} (hp : p.block < a.heap.size → S p.block) (u : Value) : Ch S a (b.setCell p u) :=
  ⟨h.os, h.tape, h.output, by simpa [World.setCell] using h.size, fun i hi hn => (Below.heap_setCell b p u i (fun e => hn (by rw [e]; exact hp (by rw [← e]; exact hi)))).trans (h.block i hi hn)⟩
theorem Ch.cell (h : Ch S a b) {p : Addr} {v : Value} (hc : a.cell? p = some v) (hp : ¬ S p.block) : b.cell? p = some v :=
  (World.cell?_of_block (h.block _ (World.block_lt_of_cell? a p hc) hp)).trans hc
theorem _root_.Go.Proofs.YtjoonpkgepkkhaaGreatDoor.Ck.Sl.ch {size n : Nat} {v : Value} {xs : List Value} (h : Sl w X size v n xs) (c : Ch S w w') (hd : ∀ k, k < w.heap.size → S k → X k) : Sl w' X size v n xs :=
  h.keep c.size (fun b hb hX => c.block b hb (fun hs => hX (hd b hb hs)))
theorem _root_.Go.Proofs.YtjoonpkgepkkhaaGreatDoor.Ck.Ls.ch {v : Value} {ls : List (List UInt8)} (h : Ls w X v ls) (c : Ch S w w') (hd : ∀ k, k < w.heap.size → S k → X k) : Ls w' X v ls :=
  h.keep c.size (fun b hb hX => c.block b hb (fun hs => hX (hd b hb hs)))
theorem _root_.Go.Proofs.YtjoonpkgepkkhaaGreatDoor.Ck.Blk.ch {g : Nat} {t : TypeId} {cs : Array Value} (h : Blk w g t cs) (c : Ch S w w') (hg : ¬ S g) : Blk w' g t cs := (c.block g h.lt hg).trans h
theorem own_ch {base : Nat} {e : TypeId} {size n : Nat} {v : Value} {xs : List Value} (h : w.ownsRow base e size v n xs) (c : Ch S w w') (hg : ∀ g, v.ownBlock = some g → ¬ S g) : w'.ownsRow base e size v n xs := by
  refine ⟨h.1, ?_⟩
  rcases h.2 with hn | ⟨g, cap, cur, rfl, hb, hr, rest⟩
  · exact .inl hn
  · exact .inr ⟨g, cap, cur, rfl, hb, (c.block g (Array.getElem?_eq_some_iff.1 hr).1 (hg g rfl)).trans hr, rest⟩
theorem map_ch {H : Type} {P : Program} {k : TypeId} {R : Value → Option (DataW H × List MemPlace)} {m n : Nat} {D : DataW H} (h : w.ownsMap P k R m n D) (c : Ch S w w') (hm : ¬ S m) : w'.ownsMap P k R m n D := by
  have hlt := h.lt
  obtain ⟨es, clock, hb, r⟩ := h
  exact ⟨es, clock, (c.block m hlt hm).trans hb, r⟩
/-- A row's block is not a block of another type. -/
theorem own_far {base : Nat} {e t : TypeId} {size n g : Nat} {v : Value} {xs : List Value} {cs : Array Value} (h : w.ownsRow base e size v n xs) (hb : Blk w g t cs) (he : e ≠ t) : v.ownBlock ≠ some g := by
  rcases h.2 with ⟨rfl, _⟩ | ⟨g', cap, cur, rfl, _, hr, _⟩
  · simp [Value.ownBlock]
  · intro h2
    have h2 : g' = g := by simpa [Value.ownBlock] using h2
    subst h2
    unfold Blk at hb
    rw [hr] at hb
    injection hb with hb
    injection hb with _ h3
    exact he h3
theorem map_far {H : Type} {P : Program} {k t : TypeId} {R : Value → Option (DataW H × List MemPlace)} {m n g : Nat} {D : DataW H} {cs : Array Value} (h : w.ownsMap P k R m n D) (hb : Blk w g t cs) : m ≠ g := by
  rintro rfl
  obtain ⟨es, clock, hm, _⟩ := h
  unfold Blk at hb
  rw [hb] at hm
  cases hm
theorem map_row {H : Type} {P : Program} {k e : TypeId} {R : Value → Option (DataW H × List MemPlace)} {m n base size n' : Nat} {D : DataW H} {v : Value} {xs : List Value} (h : w.ownsMap P k R m n D) (hr : w.ownsRow base e size v n' xs) : v.ownBlock ≠ some m := by
  rcases hr.2 with ⟨rfl, _⟩ | ⟨g', cap, cur, rfl, _, hr, _⟩
  · simp [Value.ownBlock]
  · intro h2
    have h2 : g' = m := by simpa [Value.ownBlock] using h2
    subst h2
    obtain ⟨es, clock, hm, _⟩ := h
    rw [hm] at hr
    cases hr
/-- What is new. -/
def New (w w' : World) (k : Nat) : Prop := w.heap.size ≤ k ∧ k < w'.heap.size
/-- S, and what is new. -/
def Up (S : Nat → Prop) (w w' : World) (k : Nat) : Prop := S k ∨ (w.heap.size ≤ k ∧ k < w'.heap.size)
end

/-- append, its result written out. -/
theorem wpList_append_sh {P : Program} (w : World) {ops : Array Oper} {rest : List Oper} {o : Oper} {a : Act} {Q : Exit → Act → World → Prop} (hgd : o.guard = none) (s x : Operand) (t : TypeId)
    (ho : o.op = .call { callee := .builtin .append, args := #[s, x], argTypes := #[t, t] })
    (base : Nat) (e : TypeId) (i : TypeInfo) (z : Value) (size bytes : Nat) (ht : P.underlying t = some (.slice e)) (hi : P.info? e = some i) (hz : i.zero = some z)
    (hsize : i.size = size) (hby : i.bytes = bytes) (hzs : z.cells.size = size) (hsz : 0 < size)
    (v : Value) (n : Nat) (xs : List Value) (hs : a.eval s = v) (hown : w.ownsRow base e size v n xs)
    (X : Nat → Prop) (src : Value) (m : Nat) (news : List Value) (hx : a.eval x = src) (hr : Sl w X size src m news) (h1 : ∀ u ∈ news, u.oneCell' = true)
    (h63 : n + m ≤ maxLen) (hbytes : (n + m) * bytes ≤ 140737488355328) (hbase : base ≤ w.heap.size)
    (h : ∀ A c w', Appended w base e size v (n + m) (xs ++ news) (.slice A (n + m) c) w' → wpList P ops Q rest (a.put o.dst (.slice A (n + m) c)) w') : wpList P ops Q (o :: rest) a w :=
  wpList_append_sl w hgd s x t ho base e i z size bytes ht hi hz hsize hby hzs hsz v n xs hs hown X src m news hx hr h1 h63 hbytes hbase (fun v' w' happ => by
    obtain ⟨A, c, rfl⟩ := own_shape happ.1
    exact h A c w' happ)

theorem appended_drew {w w' : World} {base : Nat} {e : TypeId} {size n : Nat} {v v' : Value} {xs : List Value} (h : Appended w.drew base e size v n xs v' w') : Appended w base e size v n xs v' w' :=
  ⟨h.1, ⟨h.2.1.os, h.2.1.tape, h.2.1.output, h.2.1.size, h.2.1.block⟩, h.2.2⟩
/-- append at a step of a region that draws its order. -/
theorem step_append_sh {P : Program} {w : World} {ops : Array Oper} {o : Oper} {a : Act} {K : Act → World → Prop} {Q : Exit → Act → World → Prop} {E : Prop} (hgd : o.guard = none) (s x : Operand) (t : TypeId)
    (ho : o.op = .call { callee := .builtin .append, args := #[s, x], argTypes := #[t, t] })
    (base : Nat) (e : TypeId) (i : TypeInfo) (z : Value) (size bytes : Nat) (ht : P.underlying t = some (.slice e)) (hi : P.info? e = some i) (hz : i.zero = some z)
    (hsize : i.size = size) (hby : i.bytes = bytes) (hzs : z.cells.size = size) (hsz : 0 < size)
    (v : Value) (n : Nat) (xs : List Value) (hs : a.eval s = v) (hown : w.ownsRow base e size v n xs)
    (X : Nat → Prop) (src : Value) (m : Nat) (news : List Value) (hx : a.eval x = src) (hr : Sl w X size src m news) (h1 : ∀ u ∈ news, u.oneCell' = true)
    (h63 : n + m ≤ maxLen) (hbytes : (n + m) * bytes ≤ 140737488355328) (hbase : base ≤ w.heap.size)
    (h : ∀ A c w', Appended w base e size v (n + m) (xs ++ news) (.slice A (n + m) c) w' → K (a.put o.dst (.slice A (n + m) c)) w') :
    if Region.wanted o (yielded ops a.tmps) = true then Oper.wp P o a w K Q else E := by
  have hw : Region.wanted o (yielded ops a.tmps) = true := by simp [Region.wanted, hgd]
  rw [if_pos hw]
  obtain ⟨v', w', hrun, h2⟩ := run_append_sl (P := P) w base t o.type e i z size bytes ht hi hz hsize hby hzs hsz v n xs hown X src m news hr h1 h63 hbytes hbase
  unfold Oper.wp execOp
  simp only [ho, resolve, invoke, builtin, Sem.run_bind, Sem.run_pure, Result.andThen_ok, List.map_toArray, List.map_cons, List.map_nil, hs, hx, hrun]
  obtain ⟨A, c, rfl⟩ := own_shape h2.1
  exact h A c w' h2

theorem step_append_new {P : Program} {w : World} {ops : Array Oper} {o : Oper} {a : Act} {K : Act → World → Prop} {Q : Exit → Act → World → Prop} {E : Prop} (hgd : o.guard = none) (s x : Operand) (t : TypeId)
    (ho : o.op = .call { callee := .builtin .append, args := #[s, x], argTypes := #[t, t] })
    (e : TypeId) (i : TypeInfo) (z : Value) (size bytes : Nat) (ht : P.underlying t = some (.slice e)) (hi : P.info? e = some i) (hz : i.zero = some z)
    (hsize : i.size = size) (hby : i.bytes = bytes) (hzs : z.cells.size = size) (hsz : 0 < size) (hs : a.eval s = .slice none 0 0)
    (X : Nat → Prop) (src : Value) (m : Nat) (news : List Value) (hx : a.eval x = src) (hr : Sl w X size src m news) (h1 : ∀ u ∈ news, u.oneCell' = true)
    (h63 : m ≤ maxLen) (hbytes : m * bytes ≤ 140737488355328)
    (h : ∀ A c w', w'.ownsRow w.heap.size e size (.slice A m c) m news → Below w.heap.size w w' → K (a.put o.dst (.slice A m c)) w') :
    if Region.wanted o (yielded ops a.tmps) = true then Oper.wp P o a w K Q else E :=
  step_append_sh hgd s x t ho w.heap.size e i z size bytes ht hi hz hsize hby hzs hsz _ 0 [] hs (World.ownsRow_nil _ _ _ _) X src m news hx hr h1 (by omega) (by rw [Nat.zero_add]; exact hbytes) (Nat.le_refl _) (fun A c w' happ => by
    obtain ⟨ho, hg, _⟩ := happ
    rw [Nat.zero_add] at ho ⊢
    exact h A c w' (by simpa using ho) (below_of_grown hg (by simp [Value.ownBlock])))
theorem below_tr {a b c : World} (h : Below a.heap.size a b) (k : Below b.heap.size b c) : Below a.heap.size a c := h.trans (k.mono h.size)

/-- append to nothing, its result written out. -/
theorem wpList_append_new {P : Program} (w : World) {ops : Array Oper} {rest : List Oper} {o : Oper} {a : Act} {Q : Exit → Act → World → Prop} (hgd : o.guard = none) (s x : Operand) (t : TypeId)
    (ho : o.op = .call { callee := .builtin .append, args := #[s, x], argTypes := #[t, t] })
    (e : TypeId) (i : TypeInfo) (z : Value) (size bytes : Nat) (ht : P.underlying t = some (.slice e)) (hi : P.info? e = some i) (hz : i.zero = some z)
    (hsize : i.size = size) (hby : i.bytes = bytes) (hzs : z.cells.size = size) (hsz : 0 < size) (hs : a.eval s = .slice none 0 0)
    (X : Nat → Prop) (src : Value) (m : Nat) (news : List Value) (hx : a.eval x = src) (hr : Sl w X size src m news) (h1 : ∀ u ∈ news, u.oneCell' = true)
    (h63 : m ≤ maxLen) (hbytes : m * bytes ≤ 140737488355328)
    (h : ∀ A c w', w'.ownsRow w.heap.size e size (.slice A m c) m news → Below w.heap.size w w' → wpList P ops Q rest (a.put o.dst (.slice A m c)) w') : wpList P ops Q (o :: rest) a w :=
  wpList_append_sh w hgd s x t ho w.heap.size e i z size bytes ht hi hz hsize hby hzs hsz _ 0 [] hs (World.ownsRow_nil _ _ _ _) X src m news hx hr h1 (by omega) (by rw [Nat.zero_add]; exact hbytes) (Nat.le_refl _) (fun A c w' happ => by
    obtain ⟨ho, hg, _⟩ := happ
    rw [Nat.zero_add] at ho ⊢
    exact h A c w' (by simpa using ho) (below_of_grown hg (by simp [Value.ownBlock])))

/-- A string's value. -/
def SV (l : List UInt8) : Value := .string ⟨l.toArray⟩

end Go.Proofs.YtjoonpkgepkkhaaGreatDoor.Kw

/-
  Opening a law's arguments under the form's own reach (byte strings, strings, numbers), and closing its row: the result is true and the arguments read as they did. For any layer.
-/
namespace Go.Proofs.YtjoonpkgepkkhaaGreatDoor.Kp
open Go Go.RowKit Go.ChangeShapes Go.WideShapes Go.ChangeAt Go.Deep Ck

section
variable {H : Type} {enc : TypeId × Value → H} {P : Program}

theorem trodAll_below (hl : laidOutB P = true) : ∀ (ts : List TypeId) (vs : List Value) (ds : List (DataW H)) (ps : List MemPlace) {W W' : World} {sp : Nat → Bool},
    (ts.all fun t => P.readableRec t && decide (t < P.types.size)) = true → DataW.TrodAll enc P W 0 (fun _ => true) true ts vs ds ps → Below W.heap.size W W' →
    (∀ x ∈ ps, x.block < W.heap.size) → (∀ x ∈ ps, sp x.block = true) → DataW.TrodAll enc P W' 0 sp true ts vs ds ps
  | [], [], [], ps, W, W', sp, _, h, _, _, _ => h
  | t :: ts, v :: vs, d :: ds, ps, W, W', sp, hr, h, hb, hlt, hs => by
    obtain ⟨p, q, h1, h2, rfl⟩ := h
    simp only [List.all_cons, Bool.and_eq_true, decide_eq_true_eq] at hr
    refine ⟨p, q, ?_, ?_, rfl⟩
    · exact WideElems.Trod_stays hl hr.1.1 hr.1.2 h1 (fun x hx => hb.same (hlt x (by simp [hx]))) (fun x hx => hs x (by simp [hx]))
    · exact trodAll_below hl ts vs ds q (by simpa using hr.2) h2 hb (fun x hx => hlt x (by simp [hx])) (fun x hx => hs x (by simp [hx]))
  | [], [], _ :: _, _, _, _, _, _, h, _, _, _ => h.elim
  | [], _ :: _, _, _, _, _, _, _, h, _, _, _ => h.elim
  | _ :: _, [], _, _, _, _, _, _, h, _, _, _ => h.elim
  | _ :: _, _ :: _, [], _, _, _, _, _, h, _, _, _ => h.elim

/-- THE ROW's LAST STEP, for a law that answers true and leaves what was there as it was. -/
theorem law_post {f : Func} {s : ChangeSpec} {W W' : World} {args : Array Value} {ds gs : List (DataW H)} {before : List MemPlace} {tb : TypeId} (hl : laidOutB P = true) (hr : (f.params.toList.all fun t => P.readableRec t && decide (t < P.types.size)) = true)
    (hv : s.vars = []) (ht : f.resultTypes = #[tb]) (htb : P.underlying tb = some .bool) (hW : DataW.Whole enc P f.params.toList s.vars false W args.toList ds gs before)
    (hsr : (s.fn H (ds ++ gs)).results = [.lit (.bool true)]) (hsa : (s.fn H (ds ++ gs)).args = ds) (hsv : (s.fn H (ds ++ gs)).vars = []) (hb : Below W.heap.size W W') : s.post enc P f false true false false W args (.bool true) W' := by
  have hlt : ∀ p ∈ before, p.block < W.heap.size := fun p hp => hW.lt p hp
  have hW2 := hW
  obtain ⟨p, q, hA, hV, rfl, _, _⟩ := hW2
  rw [hv] at hV
  obtain ⟨rfl, rfl⟩ := trodVars_none hV
  have hold : ∀ x ∈ p, (fun b => decide (b < W.heap.size)) x.block = true := fun x hx => by simpa using hlt x (by simp [hx])
  refine ⟨ds, [], p ++ [], [], p, [], hW, ?_, ?_, ?_, World.keptBut_mono (fun x hx => ⟨hx, ?_⟩) (hb.frame (· ∈ p ++ [])), fun h => by cases h⟩
  · rw [hsr, ht]
    exact trodAll_cons_mk (shut_bool htb true) trodAll_mk0
  · rw [hsa]
    exact trodAll_below hl _ _ _ _ hr hA hb (fun x hx => hlt x (by simp [hx])) hold
  · rw [hsv, hv]
    rfl
  · rw [List.append_nil] at hx
    exact .inr (.inl hx)
end

section
variable {H : Type} {enc : TypeId × Value → H}
theorem cells_u8 : Tryz.prog.cellsOf 5 = 1 := by kernel_rfl

theorem ofNat_int {z : Int} (h : (Lit.int .u8 z).wf = true) : ((UInt8.ofNat z.toNat).toNat : Int) = z := by
  have h2 : 0 ≤ z ∧ z ≤ 255 := by simpa [Lit.wf, IntKind.min, IntKind.max, IntKind.signed, IntKind.bits] using h
  rw [Cm.toNat_ofNat (by omega)]
  omega
theorem bytes_u8 : Tryz.prog.bytesOf 5 = 1 := by kernel_rfl
theorem all_mem {P : Program} {e : TypeId} {d : DataW H} {n : Nat} (hn : n ∈ d.weights P e) : ∀ {l : List (DataW H)}, d ∈ l → n ∈ DataW.weightsAll P e l
  | x :: r, h => by
    simp only [DataW.weightsAll, List.mem_append]
    rcases List.mem_cons.1 h with rfl | h
    · exact .inl hn
    · exact .inr (all_mem hn h)

theorem open_bytesW {w : World} {fuel : Nat} {base : Nat} {v : Value} {x : DataW H × List MemPlace} (h : DataW.trod enc Tryz.prog w base (fun _ => true) true fuel 22 [v] = some x) :
    ∃ b : List UInt8, Sl w (fun k => w.heap.size ≤ k) 1 v b.length (BVs b) ∧ ∀ R, (∀ n ∈ x.1.weights Tryz.prog 22, n ≤ R) → b.length ≤ R := by
  rcases open_ints Tryz.underlying22 Tryz.underlying5 cells_u8 h with ⟨hcs, rfl⟩ | ⟨a, len, cap, zs, hcs, _, hl, hm, hz, rfl, hc, hw⟩
  · obtain rfl : v = .slice none 0 0 := by simpa using hcs
    exact ⟨[], Sl.nil _ _ _, fun R _ => Nat.zero_le _⟩
  · obtain rfl : v = .slice (some a) len cap := by simpa using hcs
    simp only [if_true] at hz
    have hbl : ((zs.take len).map fun z => UInt8.ofNat z.toNat).length = len := by simp only [List.length_map, List.length_take]; omega
    refine ⟨(zs.take len).map fun z => UInt8.ofNat z.toNat, ?_, fun R hR => ?_⟩
    · refine ⟨some a, cap, by rw [hbl], by rw [BVs_len]; omega, by omega, hm, fun hn => ?_⟩
      rw [hbl] at hn
      have h0 := hc 0 (by omega)
      refine ⟨a, rfl, by have := World.block_lt_of_cell? w _ h0; rw [add_block] at this; exact this, by have := World.block_lt_of_cell? w _ h0; rw [add_block] at this; omega, fun j u hu => ?_⟩
      have hj : j < (BVs ((zs.take len).map fun z => UInt8.ofNat z.toNat)).length := (List.getElem?_eq_some_iff.1 hu).1
      rw [BVs_len, hbl] at hj
      rw [hc j (by omega), ← hu]
      have hjz : j < zs.length := by omega
      simp only [BVs, BV, List.map_map, List.getElem?_map, List.getElem?_take, if_pos hj, List.getElem?_eq_getElem hjz, Option.map_some, Function.comp, List.getD_eq_getElem?_getD, Option.getD_some]
      rw [ofNat_int (hw _ (List.getElem_mem hjz))]
    · have := hR _ (by simp only [DataW.weights, Tryz.underlying22]; exact List.mem_cons_self)
      rw [bytes_u8] at this
      rw [hbl]
      simp only [lits, List.length_map, List.length_take] at this
      omega

theorem one_int {w : World} {base : Nat} {sp : Nat → Bool} {held : Bool} {n : Nat} {t : TypeId} {k : IntKind} {cs : List Value} {xs : List (DataW H × List MemPlace)} {j : Nat} (ht : Tryz.prog.underlying t = some (.int k)) (hj : j < xs.length)
    (h : DataW.trod enc Tryz.prog w base sp held n t cs = xs[j]?) : ∃ z, cs = [.int k z] ∧ (Lit.int k z).wf = true := by
  rw [List.getElem?_eq_getElem hj] at h
  obtain ⟨z, h1, _, h2⟩ := DataW.trod_int ht h
  exact ⟨z, h1, h2⟩
theorem reach_of {P : Program} {ts : List TypeId} {ds : List (DataW H)} (h : (DataW.weightsEach P ts ds).all (· ≤ reachBytes) = true) {j : Nat} {t : TypeId} {d : DataW H} (ht : ts[j]? = some t) (hd : ds[j]? = some d) : ∀ n ∈ d.weights P t, n ≤ 140737488351232 := fun n hn => by
  have := List.all_eq_true.1 h n (DataW.weights_mem_each ht hd n hn)
  exact (of_decide_eq_true this : n ≤ reachBytes)
end

end Go.Proofs.YtjoonpkgepkkhaaGreatDoor.Kp

/-
  A range over a function whose parts lie in memory: what the iterator hands on is known in the world in which it is handed on. For any layer; nothing of a program is in it.
-/
namespace Go.Proofs.YtjoonpkgepkkhaaGreatDoor.Kr
open Go Go.RowKit Ck Kw

/-- The loop's own two blocks, the first one at D. -/
def Bk (D k : Nat) : Prop := k = D ∨ k = D + 1

/-- What an iterator owes that hands on the parts bs, one behind the other: R says what its values are, all made since it was called; a round writes to blocks of S alone. -/
def SeqR {β : Type} (F : Fence) (n : Nat) (P : Program) (g : Nat) (lb : Array Value) (R : Nat → β → Array Value → World → Prop) (S : Nat → Prop) (bs : List β) (w : World) : Prop :=
  ∀ (l : Nat) (J Jx : Nat → World → Prop) (W : World), Below w.heap.size w W → w.heap.size + 2 ≤ W.heap.size → (∀ k A B, J k A → Below A.heap.size A B → J k B) → (∀ k A B, Jx k A → Below A.heap.size A B → Jx k B) →
    (∀ (k : Nat) (h : k < bs.length) (args : Array Value) (W1 : World), J k W1 → Ch S W W1 → R W.heap.size bs[k] args W1 → YieldAt F (n - 1) P l args W1 fun e W' =>
      (e = .returned (.bool true) ∧ J (k + 1) W' ∧ Ch S W1 W') ∨ (e = .returned (.bool false) ∧ Jx (k + 1) W' ∧ Ch S W1 W')) →
    J 0 W →
    CallsIn F n P g (#[.func (.yield l) #[] #[]] ++ lb) W fun e W' => (∃ v, e = .returned v) ∧ Ch S W W' ∧ (J bs.length W' ∨ ∃ k, k ≤ bs.length ∧ Jx k W')

/-- What a round's body owes. -/
def PostR (D : Nat) (S : Nat → Prop) (I : Nat → World → Prop) (Ix : Code → Nat → World → Prop) (k : Nat) (W : World) : Exit → Act → World → Prop
  | .normal, _, W' => Ch (fun j => S j ∧ ¬ Bk D j) W W' ∧ I k W'
  | .ret, _, W' => Ch (fun j => S j ∧ ¬ Bk D j) W W' ∧ Ix .ret k W'
  | .exit id, _, W' => Ch (fun j => S j ∧ ¬ Bk D j) W W' ∧ Ix (.exit id) k W'
  | .goto t, _, W' => Ch (fun j => S j ∧ ¬ Bk D j) W W' ∧ Ix (.goto t) k W'
  | .panic _, _, _ => False
  | .outgrown, _, _ => False

theorem putObj_size (W : World) (l : Nat) (o : Obj) : (W.putObj l o).heap.size = W.heap.size := by simp [World.putObj]
theorem ch_putObj (W : World) (l : Nat) (o : Obj) : Ch (fun k => k = l) W (W.putObj l o) :=
  Ch.of_grown (grownBy_putObj' W l o) (fun g e _ => by injection e with e; exact e.symm)

section
variable {F : Fence} {n : Nat} {P : Program}
theorem wpIn_rangeR {β : Type} {g : Operand} {ps : Array Tmp} {assign body : Code} {Q : Exit → Act → World → Prop} {a : Act} {w : World}
    (hro : F.round = none) (h1 : 1 ≤ n) {gf : Nat} {lb : Array Value} (hg : a.eval g = .func (.func gf) #[] lb) (hFg : F.fn gf) (eg : ∀ args w, (callFunc gf args).run P w = .ok (.enter gf args) w)
    {R : Nat → β → Array Value → World → Prop} {S : Nat → Prop} {bs : List β} (hseq : SeqR F (n - 1) P gf lb R S bs w) (hS : ∀ k, w.heap.size ≤ k → S k)
    (hps : ∀ B b args W, R B b args W → args.size = ps.size) (hR : ∀ b args W W', R (w.heap.size + 2) b args W → Ch (Bk w.heap.size) W W' → R (w.heap.size + 2) b args W')
    (I : Nat → World → Prop) (Ix : Code → Nat → World → Prop)
    (hI : ∀ k W W', I k W → w.heap.size ≤ W.heap.size → Ch (Bk w.heap.size) W W' → I k W') (hIx : ∀ c k W W', Ix c k W → w.heap.size ≤ W.heap.size → Ch (Bk w.heap.size) W W' → Ix c k W') (h0 : I 0 w) (a₁ : Array Value → Act)
    (hassign : ∀ (l : Nat) (args : Array Value) (W : World) (K : Act → World → Prop), args.size = ps.size → K (a₁ args) W →
      assign.wpIn (F.inRound l) (n - 1 - 1) P (Exit.then K (fun _ _ _ => False)) { tmps := (ps.zip args).foldl (fun t (p, v) => t.setIfInBounds p v) a.tmps, defers := [] } W)
    (hbody : ∀ (l k : Nat) (h : k < bs.length) (args : Array Value) (W : World), w.heap.size + 2 ≤ W.heap.size → Ch S w W → I k W → R (w.heap.size + 2) bs[k] args W → body.wpIn (F.inRound l) (n - 1 - 1) P (PostR w.heap.size S I Ix (k + 1) W) (a₁ args) W)
    (hdone : ∀ (W : World), Ch S w W → I bs.length W → W.heap[w.heap.size]? = some (.deferred (some [])) → Q .normal { a with defers := { target := .collected w.heap.size, args := #[] } :: a.defers } W)
    (hstop : ∀ (c : Code) (k : Nat) (W : World), k ≤ bs.length → Ch S w W → Ix c k W → W.heap[w.heap.size]? = some (.deferred (some [])) → c.wpIn F n P Q { a with defers := { target := .collected w.heap.size, args := #[] } :: a.defers } W) :
    (Code.rangeFunc g ps assign body).wpIn F n P Q a w := by
  refine wpIn_rangeFunc ?_
  intro fn hfn
  rw [hro]
  obtain ⟨D, hD⟩ : ∃ D, D = w.heap.size := ⟨_, rfl⟩
  obtain ⟨rec, hrec⟩ : ∃ rec : LoopState → Option Code → Loop, rec = fun st pe => { state := st, pending := pe, fn, tmps := a.tmps, params := ps, assign, body, defers := w.heap.size } := ⟨_, rfl⟩
  obtain ⟨W1, hW1⟩ : ∃ W1, (w.alloc (.deferred (some []))).alloc (.loop (rec .ready none)) = W1 := ⟨_, rfl⟩
  have hsz1 : W1.heap.size = D + 2 := by rw [← hW1, hD]; simp
  have hb1 : Below w.heap.size w W1 := by rw [← hW1]; exact ((Below.refl _ w).alloc (Nat.le_refl _) _).alloc (by simp) _
  have hL1 : W1.heap[D + 1]? = some (.loop (rec .ready none)) := by
    have := World.alloc_heap_new (w.alloc (.deferred (some []))) (.loop (rec .ready none))
    rw [World.size_alloc, hW1, ← hD] at this
    exact this
  have hK1 : W1.heap[D]? = some (.deferred (some [])) := by
    rw [← hW1, hD]; exact (Below.heap_alloc _ _ _ (by simp)).trans (World.alloc_heap_new w _)
  have hI1 : I 0 W1 := hI 0 w W1 h0 (Nat.le_refl _) (Ch.of_below (S := Bk w.heap.size) hb1 (Nat.le_refl _))
  have hpo : ∀ (W : World) (o : Obj), Ch (Bk w.heap.size) W (W.putObj (D + 1) o) := fun W o => (ch_putObj W (D + 1) o).mono (fun k _ e => .inr (by rw [e, hD]))
  have hbk : ∀ k, Bk w.heap.size k → S k := fun k h => hS k (by rcases h with h | h <;> omega)
  refine ⟨D + 1, [{ target := .collected D, args := #[] }], W1, { target := .fn (.func gf) lb, args := #[.func (.yield (D + 1)) #[] #[]] }, W1, gf, #[.func (.yield (D + 1)) #[] #[]] ++ lb, W1, ?_, ?_, ?_, ?_, fun _ => h1, ?_⟩
  · rw [← hW1, hrec, hD]; exact run_enterLoop_outer _ _ _ _ _
  · simp only [resolve, hg]
    simp [go_sem]
  · intro f' hf'
    simp [Target.leads] at hf'
    subst hf'
    exact hFg
  · simp [invoke, go_sem, eg]
  · have keep : ∀ {A B : World} {j : Nat} {o : Obj}, A.heap[j]? = some o → Below A.heap.size A B → B.heap[j]? = some o := fun ho hb => (hb.block _ (Array.getElem?_eq_some_iff.1 ho).1).trans ho
    have bch : ∀ {A B : World}, Below A.heap.size A B → Ch (Bk w.heap.size) A B := fun hb => Ch.of_below hb (Nat.le_refl _)
    refine (hseq (D + 1)
      (fun k W => I k W ∧ Ch S w W ∧ W.heap[D + 1]? = some (.loop (rec .ready none)) ∧ W.heap[D]? = some (.deferred (some [])))
      (fun k W => ∃ c, Ix c k W ∧ Ch S w W ∧ W.heap[D + 1]? = some (.loop (rec .done (some c))) ∧ W.heap[D]? = some (.deferred (some [])))
      W1 hb1 (by omega)
      (fun k A B hs hb => ⟨hI k A B hs.1 hs.2.1.size (bch hb), hs.2.1.trans (bch hb) (fun j _ h => hbk j h), keep hs.2.2.1 hb, keep hs.2.2.2 hb⟩)
      (fun k A B hs hb => by
        obtain ⟨c, h1, h2, h3, h4⟩ := hs
        exact ⟨c, hIx c k A B h1 h2.size (bch hb), h2.trans (bch hb) (fun j _ h => hbk j h), keep h3 hb, keep h4 hb⟩)
      ?_ ⟨hI1, Ch.of_below hb1 (Nat.le_refl _), hL1, hK1⟩).mono ?_
    · -- a round
      rintro k hk args W ⟨hi, hc, hl, hd⟩ hc1 hr
      rw [hsz1, hD] at hr
      have hsz : D + 2 ≤ W.heap.size := by have := hc1.size; omega
      have hy := run_yield (P := P) (args := args) hl (by rw [hrec]; exact hps _ _ _ _ hr)
      rw [hrec] at hy
      refine ⟨fn, _, assign, body, hy, roundIn_of_wpIn hfn (hassign (D + 1) args W _ (hps _ _ _ _ hr) ?_)⟩
      refine ⟨_, run_beginRound hl (by rw [hrec]), ?_⟩
      have hpo1 := hpo W (.loop { rec .ready none with state := .busy })
      have hl2 : (W.putObj (D + 1) (.loop { rec .ready none with state := .busy })).heap[D + 1]? = some (.loop { rec .ready none with state := .busy }) := World.putObj_heap_same (by omega)
      have hd2 : (W.putObj (D + 1) (.loop { rec .ready none with state := .busy })).heap[D]? = some (.deferred (some [])) := (World.putObj_heap_other (by omega)).trans hd
      refine wpIn_mono (hbody (D + 1) k hk args _ (by rw [putObj_size]; omega) (hc.trans hpo1 (fun j _ h => hbk j h)) (hI k _ _ hi hc.size hpo1) (hR _ _ _ _ hr hpo1)) ?_
      -- behind the round
      have fin : ∀ (jump : Option Code) (W3 : World), Ch (fun j => S j ∧ ¬ Bk w.heap.size j) (W.putObj (D + 1) (.loop { rec .ready none with state := .busy })) W3 →
          (Instr.endRound (D + 1) jump).run P W3 = .ok (.bool jump.isNone) (W3.putObj (D + 1) (.loop (rec (if jump.isNone then .ready else .done) jump))) ∧
          (W3.putObj (D + 1) (.loop (rec (if jump.isNone then .ready else .done) jump))).heap[D + 1]? = some (.loop (rec (if jump.isNone then .ready else .done) jump)) ∧
          (W3.putObj (D + 1) (.loop (rec (if jump.isNone then .ready else .done) jump))).heap[D]? = some (.deferred (some [])) ∧
          Ch S W (W3.putObj (D + 1) (.loop (rec (if jump.isNone then .ready else .done) jump))) := fun jump W3 c3 => by
        have e1 := c3.block (D + 1) (by have := hpo1.size; omega) (fun h => h.2 (.inr (by rw [hD])))
        have e0 := c3.block D (by have := hpo1.size; omega) (fun h => h.2 (.inl hD))
        have hl3 := e1.trans hl2
        have hend := run_endRound (P := P) jump hl3
        have hlt := (Array.getElem?_eq_some_iff.1 hl3).1
        rw [hrec] at hend ⊢
        refine ⟨hend, World.putObj_heap_same hlt, (World.putObj_heap_other (by omega)).trans (e0.trans hd2), ?_⟩
        exact ((hpo1.mono (fun j _ h => hbk j h)).trans (c3.mono (fun j _ h => h.1)) (fun j _ h => h)).trans (hpo W3 _) (fun j _ h => hbk j h)
      rintro e a3 W3 hp
      cases e with
      | normal =>
        obtain ⟨c3, hi3⟩ := hp
        obtain ⟨hr3, hl4, hd4, c4⟩ := fin none W3 c3
        exact ⟨_, _, hr3, .inl ⟨rfl, ⟨hI _ _ _ hi3 (by have h1 := c3.size; rw [putObj_size] at h1; omega) (hpo W3 _), hc.trans c4 (fun _ _ h => h), hl4, hd4⟩, c4⟩⟩
      | ret =>
        obtain ⟨c3, hi3⟩ := hp
        obtain ⟨hr3, hl4, hd4, c4⟩ := fin (some .ret) W3 c3
        exact ⟨_, _, hr3, .inr ⟨rfl, ⟨.ret, hIx _ _ _ _ hi3 (by have h1 := c3.size; rw [putObj_size] at h1; omega) (hpo W3 _), hc.trans c4 (fun _ _ h => h), hl4, hd4⟩, c4⟩⟩
      | exit id =>
        obtain ⟨c3, hi3⟩ := hp
        obtain ⟨hr3, hl4, hd4, c4⟩ := fin (some (.exit id)) W3 c3
        exact ⟨_, _, hr3, .inr ⟨rfl, ⟨.exit id, hIx _ _ _ _ hi3 (by have h1 := c3.size; rw [putObj_size] at h1; omega) (hpo W3 _), hc.trans c4 (fun _ _ h => h), hl4, hd4⟩, c4⟩⟩
      | goto t =>
        obtain ⟨c3, hi3⟩ := hp
        obtain ⟨hr3, hl4, hd4, c4⟩ := fin (some (.goto t)) W3 c3
        exact ⟨_, _, hr3, .inr ⟨rfl, ⟨.goto t, hIx _ _ _ _ hi3 (by have h1 := c3.size; rw [putObj_size] at h1; omega) (hpo W3 _), hc.trans c4 (fun _ _ h => h), hl4, hd4⟩, c4⟩⟩
      | panic ch => exact hp.elim
      | outgrown => exact hp.elim
    · -- behind the iterator
      rintro e W2 ⟨⟨v, rfl⟩, -, (⟨hi, hc, hl, hd⟩ | ⟨k, hk, c, hi, hc, hl, hd⟩)⟩
      · refine ⟨none, _, by have := run_endLoop (P := P) hl (by rw [hrec]; simp); rw [hrec] at this; exact this, ?_⟩
        have hp := hpo W2 (.loop { rec .ready none with state := .exhausted })
        rw [hrec] at hp
        have := hdone _ (hc.trans hp (fun j _ h => hbk j h)) (hI _ _ _ hi hc.size hp) ((World.putObj_heap_other (by omega)).trans (by rw [← hD]; exact hd))
        subst hD
        exact this
      · refine ⟨some c, _, by have := run_endLoop (P := P) hl (by rw [hrec]; simp); rw [hrec] at this; exact this, ?_⟩
        have hp := hpo W2 (.loop { rec .done (some c) with state := .exhausted })
        rw [hrec] at hp
        have := hstop c k _ hk (hc.trans hp (fun j _ h => hbk j h)) (hIx _ _ _ _ hi hc.size hp) ((World.putObj_heap_other (by omega)).trans (by rw [← hD]; exact hd))
        subst hD
        exact this

end

end Go.Proofs.YtjoonpkgepkkhaaGreatDoor.Kr

/-
  Contracts of bytes.Clone and bytes.Equal; cuts of a slice of bytes; for any layer.
-/
namespace Go.Proofs.YtjoonpkgepkkhaaGreatDoor.Ga
open Go Go.RowKit Ck Kw

theorem info_u8 : (Tryz.prog.info? 5).map (fun i => (i.zero, i.size, i.bytes)) = some (some (.int .u8 0), 1, 1) := by kernel_rfl
set_option maxHeartbeats 400000 in
theorem clone_any (X : Nat → Prop) (v : Value) (n : Nat) (b : List UInt8) (w : World) (hv : Sl w X 1 v n (BVs b)) (hn : n ≤ 549755813888) :
    Calls Tryz.prog 44 #[v] w fun e w' => Made w 5 b e w' := by
  have hnl : n = b.length := by obtain ⟨A, c, _, h, _⟩ := hv; rw [BVs_len] at h; omega
  subst hnl
  obtain ⟨i0, hi0, hz0, hz1, hz2⟩ := info_parts info_u8
  have hv' := hv
  obtain ⟨A, c, rfl, -⟩ := hv'
  have heq := fun (W : World) => Lib.run_eql_slice_nil (P := Tryz.prog) W 22 5 A b.length c 0 0 Tryz.underlying22
  rcases A with _ | ad
  · obtain ⟨h0, _⟩ := hv.none_
    have hb : b = [] := List.eq_nil_of_length_eq_zero h0
    subst hb
    simp only [List.length_nil] at heq
    clear hv h0
    go_enter Tryz.func44, Tryz.ntmps44
    go_wp2
    go_ret
    exact ⟨_, rfl, World.ownsRow_nil _ _ _ _, Below.refl _ _⟩
  · go_enter Tryz.func44, Tryz.ntmps44
    go_wp2_with (at_builtin; refine wpList_append_sl _ rfl (.tmp 5) (.tmp 6) _ rfl w.heap.size 5 i0 _ 1 1 Tryz.underlying22 hi0 hz0 hz1 hz2 rfl (by omega) (.slice (some ⟨w.heap.size, 0, none⟩) 0 0) 0 [] rfl (World.ownsRow_made w #[] 0 (Nat.le_refl _) (by simp only [maxLen]; omega) rfl) X _ b.length (BVs b) rfl (hv.alloc _) (BVs_one _) (by simp only [maxLen]; omega) (by omega) (by simp) ?_; intro v2 w2 happ)
    go_ret
    refine ⟨v2, rfl, by simpa using happ.1, ?_⟩
    exact ((Below.refl _ _).alloc (Nat.le_refl _) _).grown happ.2.1 (by simp) (by simp [Value.ownBlock])

theorem clone_sh (X : Nat → Prop) (v : Value) (n : Nat) (b : List UInt8) (w : World) (hv : Sl w X 1 v n (BVs b)) (hn : n ≤ 549755813888) :
    Calls Tryz.prog 44 #[v] w fun e w' => ∃ A c, e = .returned (.slice A b.length c) ∧ w'.ownsRow w.heap.size 5 1 (.slice A b.length c) b.length (BVs b) ∧ Below w.heap.size w w' := by
  refine (clone_any X v n b w hv hn).mono ?_
  rintro e w' ⟨v2, rfl, ho, hb⟩
  obtain ⟨A, c, rfl⟩ := own_shape ho
  exact ⟨A, c, rfl, ho, hb⟩

theorem below_of_drew {B : Nat} {w w2 : World} (h : Below B w.drew w2) : Below B w w2 := ⟨h.os, h.tape, h.output, h.size, h.block⟩
theorem ch_of_drew {S : Nat → Prop} {w w2 : World} (h : Ch S w.drew w2) : Ch S w w2 := ⟨h.os, h.tape, h.output, h.size, h.block⟩

theorem wrap64 {z : Int} (h : -9223372036854775808 ≤ z) (h' : z ≤ 9223372036854775807) : IntKind.i64.wrap z = z := by
  simp [IntKind.wrap, IntKind.bits, IntKind.signed]
  split <;> omega

theorem ch_of_drewN {S : Nat → Prop} {w w2 : World} {n : Nat} (h : Ch S (w.drewN n).drew w2) : Ch S w w2 := ⟨h.os, h.tape, h.output, h.size, h.block⟩
theorem up_mono {S : Nat → Prop} {a b c : World} (h : b.heap.size ≤ c.heap.size) {k : Nat} (hk : Up S a b k) : Up S a c k := by
  rcases hk with hk | ⟨h1, h2⟩
  · exact .inl hk
  · exact .inr ⟨h1, by omega⟩
theorem up_two {S : Nat → Prop} {a b c : World} (h : a.heap.size ≤ b.heap.size) (h' : b.heap.size ≤ c.heap.size) {k : Nat} (hk : Up (Up S a b) b c k) : Up S a c k := by
  rcases hk with hk | ⟨h1, h2⟩
  · exact up_mono h' hk
  · exact .inr ⟨by omega, h2⟩
theorem ch_two {S : Nat → Prop} {a b c : World} (h : Ch S a b) (h' : Ch (Up S a b) b c) : Ch S a c :=
  h.trans h' (fun k hk hu => by
    rcases hu with hu | ⟨h1, _⟩
    · exact hu
    · omega)

/-- A cut from k on, and a cut up to k, of a slice of bytes. -/
theorem slice_from (A : Option Addr) (n c k : Nat) (hk : k ≤ n) (hc : n ≤ c) : ∃ A', (∀ W : World, (Instr.slice 22 (.slice A n c) (some (.int .i64 (k : Int))) none none).run Tryz.prog W = .ok (.slice A' (n - k) (c - k)) W) ∧ (∀ ad, A = some ad → k < n → A' = some (ad.add (k * 1))) := by
  have he : ∀ W : World, (sizeOf (Tryz.prog.elem 22)).run Tryz.prog W = .ok 1 W := fun _ => by kernel_rfl
  refine ⟨if c = k then A else A.map (·.add (k * 1)), fun W => ?_, ?_⟩
  · rw [run_slice_l W 22 A n c (by kernel_rfl) .i64 k (by omega) (by omega), he]
    rfl
  · rintro ad rfl hlt
    rw [if_neg (by omega)]
    rfl
theorem slice_upto (A : Option Addr) (n c k : Nat) (hk : k ≤ c) (W : World) : (Instr.slice 22 (.slice A n c) none (some (.int .i64 (k : Int))) none).run Tryz.prog W = .ok (.slice A k c) W := by
  have he : ∀ W : World, (sizeOf (Tryz.prog.elem 22)).run Tryz.prog W = .ok 1 W := fun _ => by kernel_rfl
  rw [run_slice_h W 22 A n c (by kernel_rfl) .i64 k (by omega) (by omega), he]
  simp only [Result.andThen_ok, sliced, Int.toNat_natCast]
  congr 2
  by_cases h0 : c = 0
  · simp [h0]
  · cases A <;> simp [h0, Addr.add]

theorem equal_any (w : World) (X Y : Nat → Prop) (va vb : Value) (n m : Nat) (l k : List UInt8) (ha : Sl w X 1 va n (BVs l)) (hb : Sl w Y 1 vb m (BVs k)) :
    Calls Tryz.prog 15 #[va, vb] w fun e w' => e = .returned (.bool (l == k)) ∧ w = w' := by
  have hn : n = l.length := by obtain ⟨A, c, _, h, _⟩ := ha; rw [BVs_len] at h; omega
  have hm : m = k.length := by obtain ⟨A, c, _, h, _⟩ := hb; rw [BVs_len] at h; omega
  subst hn; subst hm
  have ha' := ha
  have hb' := hb
  obtain ⟨A, c, rfl, -⟩ := ha'
  obtain ⟨B, d, rfl, -⟩ := hb'
  have c1 := run_convert_sl (P := Tryz.prog) w X 22 9 5 A c l Tryz.underlying22 Tryz.underlying5 Tryz.underlying9 ha
  have c2 := run_convert_sl (P := Tryz.prog) w Y 22 9 5 B d k Tryz.underlying22 Tryz.underlying5 Tryz.underlying9 hb
  clear ha hb
  go_enter Tryz.func15, Tryz.ntmps15
  go_wp2
  go_ret
  exact ⟨rfl, rfl⟩

end Go.Proofs.YtjoonpkgepkkhaaGreatDoor.Ga

/-
  Contracts of layer 1's functions that put: bytes.Equal, digits, NumLen, roomy, addNum, addBytes and their kin.
-/
namespace Go.Proofs.YtjoonpkgepkkhaaGreatDoor.Ca
open Go Go.RowKit Ck

/-- bytes.Equal tells whether two byte strings are the same. -/
theorem equal_any (w : World) (X Y : Nat → Prop) (va vb : Value) (n m : Nat) (l k : List UInt8) (ha : Sl w X 1 va n (BVs l)) (hb : Sl w Y 1 vb m (BVs k)) :
    Calls Tryz.prog 15 #[va, vb] w fun e w' => e = .returned (.bool (l == k)) ∧ w = w' := by
  have hn : n = l.length := by obtain ⟨A, c, _, h, _⟩ := ha; rw [BVs_len] at h; omega
  have hm : m = k.length := by obtain ⟨A, c, _, h, _⟩ := hb; rw [BVs_len] at h; omega
  subst hn; subst hm
  have ha' := ha
  have hb' := hb
  obtain ⟨A, c, rfl, -⟩ := ha'
  obtain ⟨B, d, rfl, -⟩ := hb'
  have c1 := run_convert_sl (P := Tryz.prog) w X 22 9 5 A c l Tryz.underlying22 Tryz.underlying5 Tryz.underlying9 ha
  have c2 := run_convert_sl (P := Tryz.prog) w Y 22 9 5 B d k Tryz.underlying22 Tryz.underlying5 Tryz.underlying9 hb
  clear ha hb
  go_enter Tryz.func15, Tryz.ntmps15
  go_wp2
  go_ret
  exact ⟨rfl, rfl⟩

/-- An array of ten bytes, so many of them written. -/
def Ar (pre : List UInt8) : Array Value := (BVs pre ++ List.replicate (10 - pre.length) (Value.int .u8 0)).toArray
theorem Ar_at {pre : List UInt8} {k : Nat} (hk : k = pre.length) (h9 : k ≤ 9) : (Ar pre)[k]? = some (Value.int .u8 0) := by
  simp only [Ar, List.getElem?_toArray]
  rw [List.getElem?_append_right (by rw [BVs_len]; omega), BVs_len, List.getElem?_replicate, if_pos (by omega)]
theorem Ar_set {pre : List UInt8} {k v : Nat} (hk : k = pre.length) (h9 : k ≤ 9) (hv : v < 256) : (Ar pre).setIfInBounds k (Value.int .u8 (v : Int)) = Ar (pre ++ [UInt8.ofNat v]) := by
  subst hk
  have hr : 10 - pre.length = (9 - pre.length) + 1 := by omega
  have hr2 : 10 - (pre ++ [UInt8.ofNat v]).length = 9 - pre.length := by simp only [List.length_append, List.length_singleton]; omega
  simp only [Ar, List.setIfInBounds_toArray]
  rw [hr, hr2, List.replicate_succ, BVs_app, List.append_assoc]
  congr 1
  rw [List.set_append_right _ _ (by rw [BVs_len]; omega), BVs_len]
  simp only [Nat.sub_self, List.set_cons_zero, BVs, List.map_cons, List.map_nil, List.cons_append, List.nil_append]
  rw [BV_of hv]
theorem byte_or (m : Nat) (h : m < 18446744073709551616) : bits .or .u8 (bits .and .u64 (m : Int) 127 % 256) 128 = ((m % 128 + 128 : Nat) : Int) := by
  have h1 : bits .and .u64 (m : Int) 127 = ((m % 128 : Nat) : Int) := by
    rw [show (127 : Int) = ((127 : Nat) : Int) from rfl, u64_and_nat m 127 h (by omega), nat_mask7]
  rw [h1, show ((m % 128 : Nat) : Int) % 256 = ((m % 128 : Nat) : Int) from by omega, show (128 : Int) = ((128 : Nat) : Int) from rfl, u8_or_nat _ _ (by omega) (by omega),
    Nat.or_comm, nat_join 7 128 (m % 128) (by omega) (by omega)]
  omega
theorem Ar_size {pre : List UInt8} (h : pre.length ≤ 10) : (Ar pre).size = 10 := by
  simp only [Ar, List.size_toArray, List.length_append, BVs_len, List.length_replicate]; omega
theorem Ar_one (pre : List UInt8) : (Ar pre).all (·.oneCell') = true := by
  simp only [Ar, List.all_toArray, List.all_append, List.all_replicate, Bool.and_eq_true]
  refine ⟨List.all_eq_true.2 (BVs_one pre), ?_⟩
  split <;> rfl
theorem Blk.setRow {w : World} {g g' : Nat} {t : TypeId} {cs : Array Value} (h : Blk w g t cs) (hne : g ≠ g') (ds : Array Value) : Blk (w.setRow g' ds) g t cs := (setRow_other w g' g ds (by omega)).trans h
theorem below_setRow {B : Nat} {a w : World} (h : Below B a w) {g : Nat} (hg : B ≤ g) (ds : Array Value) : Below B a (w.setRow g ds) :=
  h.trans ⟨rfl, rfl, rfl, by simp, fun k hk => setRow_other w g k ds (by omega)⟩
theorem info_arr : (Tryz.prog.info? 156).map (·.size) = some 10 := by kernel_rfl
theorem digits_end {wr : World} {B m k n : Nat} {pre : List UInt8} {t : TypeId} (hb : Blk wr B t (Ar pre)) (hP : pre ++ Cm.enc m = Cm.enc n) (hk : k = pre.length) (hm : m < 128) :
    k + 1 = (Cm.enc n).length ∧ Blk (wr.setCell ⟨B, k, none⟩ (.int .u8 (m : Int))) B t (Ar (Cm.enc n)) := by
  have h10 := Cm.enc_len n
  rw [Cm.enc_small hm] at hP
  have hl : pre.length + 1 = (Cm.enc n).length := by rw [← hP]; simp
  refine ⟨by omega, ?_⟩
  have := hb.set_ k (.int .u8 (m : Int))
  rw [Ar_set hk (by omega) (by omega), hP] at this
  exact this
theorem digits_step {wr : World} {B m k n : Nat} {pre : List UInt8} {t : TypeId} (hb : Blk wr B t (Ar pre)) (hP : pre ++ Cm.enc m = Cm.enc n) (hk : k = pre.length) (h9 : k ≤ 8) (hm : m < 18446744073709551616) (hbig : 128 ≤ m) :
    Value.int .u64 ((m : Int) / 128) = .int .u64 ((m / 128 : Nat) : Int) ∧ k + 1 = (pre ++ [UInt8.ofNat (m % 128 + 128)]).length ∧ (pre ++ [UInt8.ofNat (m % 128 + 128)]) ++ Cm.enc (m / 128) = Cm.enc n ∧ m / 128 < 18446744073709551616 ∧
      Blk (wr.setCell ⟨B, k, none⟩ (.int .u8 (bits .or .u8 (bits .and .u64 (m : Int) 127 % 256) 128))) B t (Ar (pre ++ [UInt8.ofNat (m % 128 + 128)])) := by
  refine ⟨by simp, by simp [hk], ?_, by omega, ?_⟩
  · rw [← hP, Cm.enc_big hbig hm, List.append_assoc]
    rfl
  · have := hb.set_ k (.int .u8 (bits .or .u8 (bits .and .u64 (m : Int) 127 % 256) 128))
    rw [byte_or m hm, Ar_set hk (by omega) (by omega)] at this
    rw [byte_or m hm]
    exact this

set_option maxRecDepth 100000 in
set_option maxHeartbeats 400000 in
theorem digits_any (n : Nat) (h : n < 18446744073709551616) (w : World) :
    Calls Tryz.prog 116 #[.int .u64 n] w fun e w' => ∃ cs : Array Value, e = .returned (.tuple #[.agg cs, .int .i64 (Cm.enc n).length]) ∧ cs = Ar (Cm.enc n) ∧ Below w.heap.size w w' := by
  go_enter Tryz.func116, Tryz.ntmps116
  go_wp2
  go_loopw [0, 5] (fun a i wr => ∃ (m k : Nat) (pre : List UInt8), a = .int .u64 m ∧ i = .int .i64 k ∧ k = pre.length ∧ pre ++ Cm.enc m = Cm.enc n ∧ m < 18446744073709551616 ∧
      Blk wr (w.heap.size + 1) 156 (Ar pre) ∧ Blk wr w.heap.size 156 (Ar []) ∧ Below w.heap.size w wr)
    (fun a _ _ => (intOf a).toNat)
  case atStart => exact ⟨n, 0, [], rfl, rfl, rfl, rfl, h, Blk.new_at (by simp) rfl, (Blk.new_at rfl rfl).alloc _, ((Below.refl _ _).alloc (Nat.le_refl _) _).alloc (by simp) _⟩
  case round =>
    obtain ⟨m, k, pre, rfl, rfl, hk, hpre, hm, hb1, hb0, hbel⟩ := hrel
    have hlen := Cm.enc_len n
    have hlm := Cm.enc_len m
    have hl2 := congrArg List.length hpre
    rw [List.length_append] at hl2
    by_cases hbig : 128 ≤ m
    · have hlb := Cm.enc_len_big hbig
      have hk8 : k ≤ 8 := by omega
      have hcell := hb1.cell k
      have hfr := hb1.frozen k
      have hc2 := Ar_at hk (by omega)
      rw [hc2] at hcell
      have HP := Lib.hid hpre
      have HK := Lib.hid hk
      have HM := Lib.hid hm
      clear hpre hk hl2 hc2 h hm
      go_wp2
      go_roundw
      case rel =>
        have R := digits_step hb1 HP.out HK.out hk8 HM.out hbig
        exact ⟨m / 128, k + 1, _, R.1, by go_num, R.2.1, R.2.2.1, R.2.2.2.1, R.2.2.2.2, hb0.far (by simp) _, hbel.setCell (by simp) _⟩
      case measure => simp [intOf]; omega
    · have hk9 : k ≤ 9 := by omega
      have hcell := hb1.cell k
      have hfr := hb1.frozen k
      have hc2 := Ar_at hk (by omega)
      rw [hc2] at hcell
      have R := digits_end hb1 hpre hk (by omega)
      have HR := Lib.hid R
      clear R hpre hk hl2 hc2 h hm
      have hi := info_arr
      rw [← Ar_size hlen.1] at hi
      have HI := Lib.hid hi
      clear hi
      go_wp2_with (first
        | (refine wpList_load_row rfl 156 _ rfl (w.heap.size + 1) rfl 156 (Ar (Cm.enc n)) (0, 0) _ HR.out.2 Tryz.underlying156 rfl HI.out ?_)
        | (refine wpList_store_row rfl 156 _ _ rfl w.heap.size (Ar (Cm.enc n)) rfl rfl 156 (Ar []) ?c1 HI.out ?c2 (Ar_one _) ?_))
      case c1 => exact hb0.far (by simp) _
      case c2 => rw [Ar_size (by simp), Ar_size hlen.1]
      refine bodyPost_ret (results_row_tmp rfl _ _ w.heap.size 156 (Ar (Cm.enc n)) (0, 0) _ rfl (setRow_heap _ _ _ _ _ _ (hb0.far (by simp) _)) Tryz.underlying156 rfl HI.out) rfl ?_
      refine ⟨_, ?_, rfl, below_setRow (hbel.setCell (by simp) _) (Nat.le_refl _) _⟩
      rw [← HR.out.1]
      rfl

end Go.Proofs.YtjoonpkgepkkhaaGreatDoor.Ca

/-
  Contracts of layer 1's functions that put, and of the document's own.
-/
namespace Go.Proofs.YtjoonpkgepkkhaaGreatDoor.Cb
open Go Go.RowKit Ck Ca

theorem info_u8 : (Tryz.prog.info? 5).map (fun i => (i.zero, i.size, i.bytes)) = some (some (.int .u8 0), 1, 1) := by kernel_rfl

set_option maxRecDepth 100000 in
set_option maxHeartbeats 400000 in
theorem numlen_any (n : Nat) (h : n < 18446744073709551616) (w : World) :
    Calls Tryz.prog 83 #[.int .u64 n] w fun e w' => e = .returned (.int .i64 (Cm.enc n).length) ∧ Below w.heap.size w w' := by
  have hlen := Cm.enc_len n
  have hi := info_arr
  rw [← Ar_size hlen.1] at hi
  have HI := Lib.hid hi
  have HH := Lib.hid h
  clear hi h
  go_enter Tryz.func83, Tryz.ntmps83
  go_wp2_with (first
    | (go_at_call 116; refine (digits_any n HH.out _).mono ?_; rintro e w1 ⟨cs, rfl, rfl, hb⟩)
    | (refine wpList_store_row rfl 156 _ _ rfl w1.heap.size (Ar (Cm.enc n)) rfl rfl 156 (Ar []) (Blk.new_at rfl rfl) HI.out ?c2 (Ar_one _) ?_))
  case c2 => rw [Ar_size (by simp), Ar_size hlen.1]
  go_ret
  exact ⟨rfl, below_setRow (hb.alloc hb.size _) hb.size _⟩

set_option maxHeartbeats 400000 in
theorem byteslen_any (A : Option Addr) (n c : Nat) (h : n ≤ 1099511627776) (w : World) :
    Calls Tryz.prog 80 #[.slice A n c] w fun e w' => e = .returned (.int .i64 ((Cm.enc n).length + n : Nat)) ∧ Below w.heap.size w w' := by
  have hlen := Cm.enc_len n
  go_enter Tryz.func80, Tryz.ntmps80
  go_wp2_with (go_at_call 83; refine (numlen_any n (by omega) _).mono ?_; rintro e w1 ⟨rfl, hb⟩)
  go_ret
  exact ⟨rfl, hb⟩

set_option maxHeartbeats 400000 in
theorem roomy_any (X : Nat → Prop) (v : Value) (n : Nat) (l : List UInt8) (m : Nat) (w : World) (hv : Sl w X 1 v n (BVs l)) (hn : n ≤ 1099511627776) (hm : m ≤ 1099511627776) :
    Calls Tryz.prog 79 #[v, .int .i64 m] w fun e w' => Made w 5 l e w' := by
  have hnl : n = l.length := by obtain ⟨A, c, _, h, _⟩ := hv; rw [BVs_len] at h; omega
  subst hnl
  have hv' := hv
  obtain ⟨A, c, rfl, -⟩ := hv'
  obtain ⟨i0, hi0, hz0, hz1, hz2⟩ := info_parts info_u8
  go_enter Tryz.func79, Tryz.ntmps79
  go_wp2_with (first
    | (refine wpList_make_own _ rfl _ _ 22 rfl w.heap.size 5 i0 _ 1 Tryz.underlying22 hi0 hz0 hz1 .i64 .i64 _ (l.length + m) rfl rfl (by omega) (by rw [hz2]; omega) (by simp only [maxLen]; omega) (Nat.le_refl _) ?_; intro w1 hown1 hg1)
    | (at_builtin; refine wpList_append_sl _ rfl (.tmp 9) (.tmp 10) _ rfl w.heap.size 5 i0 _ 1 1 Tryz.underlying22 hi0 hz0 hz1 hz2 rfl (by omega) (.slice (some ⟨w.heap.size, 0, none⟩) 0 (l.length + m)) 0 [] rfl hown1 X _ l.length (BVs l) rfl (hv.grown hg1 (by simp)) (BVs_one l) (by simp only [maxLen]; omega) (by omega) hg1.size ?_; intro v2 w2 happ))
  go_ret
  refine ⟨v2, rfl, by simpa using happ.1, ?_⟩
  exact (below_of_grown hg1 (by simp)).grown happ.2.1 hg1.size (by simp [Value.ownBlock])

theorem slice_arr (k : Nat) (hk : k ≤ 10) (g : Nat) (W : World) :
    (Instr.sliceAt 156 (.pointer (some ⟨g, 0, none⟩)) none (some (.int .i64 (k : Int))) none).run Tryz.prog W = .ok (.slice (some ⟨g, 0, none⟩) k 10) W := by
  have al : Tryz.prog.arrayLen 156 = 10 := by kernel_rfl
  have he : (sizeOf (Tryz.prog.elem 156)).run Tryz.prog W = .ok 1 W := by kernel_rfl
  rw [run_sliceAt_array_h W 156 _ (by kernel_rfl) .i64 k (by omega) (by rw [al]; omega), he, al]
  simp [Result.andThen, slicedAt, Addr.add]
theorem Sl_arr {w : World} {X : Nat → Prop} {g : Nat} {t : TypeId} {l : List UInt8} (h : Blk w g t (Ar l)) (hl : l.length ≤ 10) (hX : ¬ X g) : Sl w X 1 (.slice (some ⟨g, 0, none⟩) l.length 10) l.length (BVs l) :=
  ⟨_, _, rfl, by simp [BVs_len], hl, by simp only [maxLen]; omega, fun _ => ⟨_, rfl, h.lt, hX, fun j u hu => by
    have hj : j < (BVs l).length := (List.getElem?_eq_some_iff.1 hu).1
    have ha : (⟨g, 0, none⟩ : Addr).add j = ⟨g, j, none⟩ := by unfold Addr.add; split <;> simp_all
    rw [ha, h.cell j]
    simp only [Ar, List.getElem?_toArray]
    rw [List.getElem?_append_left hj]
    exact hu⟩⟩

set_option maxRecDepth 100000 in
set_option maxHeartbeats 400000 in
theorem addnum_any (base : Nat) (v : Value) (n : Nat) (l : List UInt8) (w : World) (hown : w.ownsRow base 5 1 v l.length (BVs l)) (hbase : base ≤ w.heap.size) (hl : l.length ≤ 4398046511104) (h : n < 18446744073709551616) :
    Calls Tryz.prog 115 #[v, .int .u64 n] w fun e w' => Onto w base 5 v (l ++ Cm.enc n) e w' := by
  have hlen := Cm.enc_len n
  obtain ⟨i0, hi0, hz0, hz1, hz2⟩ := info_parts info_u8
  have hi := info_arr
  rw [← Ar_size hlen.1] at hi
  have HI := Lib.hid hi
  have HH := Lib.hid h
  clear hi h
  have hsl := slice_arr _ hlen.1
  go_enter Tryz.func115, Tryz.ntmps115
  go_wp2_with (first
    | (go_at_call 116; refine (digits_any n HH.out _).mono ?_; rintro e w1 ⟨cs, rfl, rfl, hb⟩)
    | (refine wpList_store_row rfl 156 _ _ rfl w1.heap.size (Ar (Cm.enc n)) rfl rfl 156 (Ar []) (Blk.new_at rfl rfl) HI.out ?c2 (Ar_one _) ?_)
    | (at_builtin; refine wpList_append_sl _ rfl (.tmp 12) (.tmp 14) _ rfl base 5 i0 _ 1 1 Tryz.underlying22 hi0 hz0 hz1 hz2 rfl (by omega) v l.length (BVs l) rfl (own_below hown (below_setRow (hb.alloc hb.size _) hb.size _)) (fun _ => False) _ (Cm.enc n).length (BVs (Cm.enc n)) rfl (Sl_arr (setRow_heap _ _ _ _ _ _ (Blk.new_at rfl rfl)) hlen.1 (fun h => h)) (BVs_one _) (by simp only [maxLen]; omega) (by omega) (Nat.le_trans hbase (below_setRow (hb.alloc hb.size _) hb.size _).size) ?_; intro v2 w2 happ))
  case c2 => rw [Ar_size (by simp), Ar_size hlen.1]
  go_ret
  exact Onto.of (below_setRow (hb.alloc hb.size _) hb.size _) happ

set_option maxHeartbeats 400000 in
theorem addbytes_any (base : Nat) (X : Nat → Prop) (v : Value) (l : List UInt8) (A : Option Addr) (n c : Nat) (x : List UInt8) (w : World) (hown : w.ownsRow base 5 1 v l.length (BVs l)) (hbase : base ≤ w.heap.size)
    (hx : Sl w X 1 (.slice A n c) n (BVs x)) (hX : ∀ g, v.ownBlock = some g → X g) (hl : l.length ≤ 1099511627776) (hn : n ≤ 1099511627776) :
    Calls Tryz.prog 78 #[v, .slice A n c] w fun e w' => Onto w base 5 v (l ++ Cm.encB x) e w' := by
  have hnl : n = x.length := by obtain ⟨A, c, _, h, _⟩ := hx; rw [BVs_len] at h; omega
  subst hnl
  have hlen := Cm.enc_len x.length
  obtain ⟨i0, hi0, hz0, hz1, hz2⟩ := info_parts info_u8
  go_enter Tryz.func78, Tryz.ntmps78
  go_wp2_with (first
    | (go_at_call 115; refine (addnum_any base v x.length l _ hown hbase (by omega) (by omega)).mono ?_; rintro e w1 ⟨v1, rfl, hown1, hg1, hr1⟩)
    | (at_builtin; refine wpList_append_sl _ rfl (.tmp 9) (.tmp 10) _ rfl base 5 i0 _ 1 1 Tryz.underlying22 hi0 hz0 hz1 hz2 rfl (by omega) v1 _ _ rfl hown1 X _ x.length (BVs x) rfl (hx.grown hg1 (fun g hg _ => hX g hg)) (BVs_one _) (by rw [List.length_append]; simp only [maxLen]; omega) (by rw [List.length_append]; omega) (Nat.le_trans hbase hg1.size) ?_; intro v2 w2 happ))
  go_ret
  have R := Onto.of (Below.refl _ _) happ
  rw [Cm.encB, ← List.append_assoc]
  exact R.then_ hg1 hr1

set_option maxHeartbeats 400000 in
theorem putnum_any (X : Nat → Prop) (v : Value) (n : Nat) (b : List UInt8) (m : Nat) (w : World) (hv : Sl w X 1 v n (BVs b)) (hn : n ≤ 1099511627776) (hm : m < 18446744073709551616) :
    Calls Tryz.prog 132 #[v, .int .u64 m] w fun e w' => Made w 5 (b ++ Cm.enc m) e w' := by
  have hnl : n = b.length := by obtain ⟨A, c, _, h, _⟩ := hv; rw [BVs_len] at h; omega
  subst hnl
  have hlen := Cm.enc_len m
  have HM := Lib.hid hm
  clear hm
  go_enter Tryz.func132, Tryz.ntmps132
  go_wp2_with (first
    | (go_at_call 83; refine (numlen_any m HM.out _).mono ?_; rintro e w1 ⟨rfl, hb1⟩)
    | (go_at_call 79; refine (roomy_any X v b.length b (Cm.enc m).length _ (hv.after hb1) hn (by omega)).mono ?_; rintro e w2 ⟨v2, rfl, hown2, hb2⟩)
    | (go_at_call 115; refine (addnum_any w1.heap.size v2 m b _ hown2 hb2.size (by omega) HM.out).mono ?_; rintro e w3 ⟨v3, rfl, hown3, hg3, hr3⟩))
  go_ret
  obtain ⟨v4, he, hown4, hb4⟩ := Made.later hb1 (Made.onto hown2 hb2 ⟨v3, rfl, hown3, hg3, hr3⟩)
  exact ⟨v4, he, own_base hown4 hb1.size, hb4⟩

set_option maxHeartbeats 400000 in
theorem putbytes_any (X : Nat → Prop) (v x : Value) (n k : Nat) (b l : List UInt8) (w : World) (hv : Sl w X 1 v n (BVs b)) (hx : Sl w X 1 x k (BVs l)) (hn : n ≤ 549755813888) (hk : k ≤ 549755813888) :
    Calls Tryz.prog 40 #[v, x] w fun e w' => Made w 5 (b ++ Cm.encB l) e w' := by
  have hnl : n = b.length := by obtain ⟨A, c, _, h, _⟩ := hv; rw [BVs_len] at h; omega
  have hkl : k = l.length := by obtain ⟨A, c, _, h, _⟩ := hx; rw [BVs_len] at h; omega
  subst hnl; subst hkl
  have hlen := Cm.enc_len l.length
  have hx' := hx
  obtain ⟨A, c, rfl, -⟩ := hx'
  go_enter Tryz.func40, Tryz.ntmps40
  go_wp2_with (first
    | (go_at_call 80; refine (byteslen_any A l.length c (by omega) _).mono ?_; rintro e w1 ⟨rfl, hb1⟩)
    | (go_at_call 79; refine (roomy_any X v b.length b ((Cm.enc l.length).length + l.length) _ (hv.after hb1) (by omega) (by omega)).mono ?_; rintro e w2 ⟨v2, rfl, hown2, hb2⟩)
    | (go_at_call 78; refine (addbytes_any w1.heap.size (w1.heap.size ≤ ·) v2 b A _ c l _ hown2 hb2.size (((hx.after hb1).old' (Nat.le_refl _)).after hb2) (fun g hg => (hown2.lt g hg).1) (by omega) (by omega)).mono ?_; rintro e w3 ⟨v3, rfl, hown3, hg3, hr3⟩))
  go_ret
  obtain ⟨v4, he, hown4, hb4⟩ := Made.later hb1 (Made.onto hown2 hb2 ⟨v3, rfl, hown3, hg3, hr3⟩)
  exact ⟨v4, he, own_base hown4 hb1.size, hb4⟩

end Go.Proofs.YtjoonpkgepkkhaaGreatDoor.Cb

/-
  Contract of layer 1's PutList.
-/
namespace Go.Proofs.YtjoonpkgepkkhaaGreatDoor.Cc
open Go Go.RowKit Ck Ca Cb

end Go.Proofs.YtjoonpkgepkkhaaGreatDoor.Cc

/-
  Contracts of the document's own functions of layer 1 that put, of bytes.Clone, and of Same.
-/
namespace Go.Proofs.YtjoonpkgepkkhaaGreatDoor.Cd
open Go Go.RowKit Ck Ca Cb

theorem one_new (w : World) (X : Nat → Prop) (t : TypeId) {z : Int} {n : Nat} (hz : z = (n : Int)) (hn : n < 256) (hX : ¬ X w.heap.size) : Sl (w.alloc (.cells #[.int .u8 z] t)) X 1 (.slice (some ⟨w.heap.size, 0, none⟩) 1 1) 1 (BVs [UInt8.ofNat n]) :=
  ⟨_, _, rfl, rfl, Nat.le_refl _, by simp only [maxLen]; omega, fun _ => ⟨_, rfl, by simp, hX, fun j u hu => cell_one_new w _ t j u (by subst hz; rw [← BV_of hn]; simpa [BVs] using hu)⟩⟩

set_option maxRecDepth 100000 in
set_option maxHeartbeats 400000 in
theorem rputnum_any (X : Nat → Prop) (v : Value) (n : Nat) (b : List UInt8) (m : Nat) (w : World) (hv : Sl w X 1 v n (BVs b)) (hn : n ≤ 1099511627776) (hm : m < 18446744073709551616) :
    Calls Tryz.prog 81 #[v, .int .u64 m] w fun e w' => Made w 5 (b ++ Cm.enc m) e w' := by
  have hnl : n = b.length := by obtain ⟨A, c, _, h, _⟩ := hv; rw [BVs_len] at h; omega
  subst hnl
  have hlen := Cm.enc_len m
  obtain ⟨i0, hi0, hz0, hz1, hz2⟩ := info_parts info_u8
  have HM := Lib.hid hm
  clear hm
  go_enter Tryz.func81, Tryz.ntmps81
  go_wp2_with (at_builtin; refine wpList_append_sl _ rfl (.tmp 6) (.tmp 7) _ rfl w.heap.size 5 i0 _ 1 1 Tryz.underlying22 hi0 hz0 hz1 hz2 rfl (by omega) (.slice none 0 0) 0 [] rfl (World.ownsRow_nil _ _ _ _) X v b.length (BVs b) rfl hv (BVs_one _) (by simp only [maxLen]; omega) (by omega) (Nat.le_refl _) ?_; intro v1 w1 happ)
  have hb1 : Below w.heap.size w w1 := below_of_grown happ.2.1 (by simp [Value.ownBlock])
  have hown1 : w1.ownsRow w.heap.size 5 1 v1 b.length (BVs b) := by simpa using happ.1
  clear happ
  go_loopw [5, 1] (fun u a wr => ∃ (k : Nat) (pre : List UInt8), a = .int .u64 k ∧ wr.ownsRow w.heap.size 5 1 u (b ++ pre).length (BVs (b ++ pre)) ∧ pre ++ Cm.enc k = Cm.enc m ∧ k < 18446744073709551616 ∧ Below w.heap.size w wr)
    (fun _ a _ => (intOf a).toNat)
  case atStart => exact ⟨m, [], rfl, by simpa using hown1, rfl, HM.out, hb1⟩
  case round =>
    obtain ⟨k, pre, rfl, hown, hpre, hk, hbr⟩ := hrel
    have hl2 := congrArg List.length hpre
    rw [List.length_append] at hl2
    have hpl : pre.length ≤ 10 := by omega
    have HP := Lib.hid hpre
    clear hpre hl2
    have hsz := hbr.size
    by_cases hbig : 128 ≤ k
    · go_wp2_with (at_builtin; refine wpList_append_sl _ rfl (.tmp 11) (.tmp 16) _ rfl w.heap.size 5 i0 _ 1 1 Tryz.underlying22 hi0 hz0 hz1 hz2 rfl (by omega) u5 (b ++ pre).length (BVs (b ++ pre)) rfl (hown.alloc _) (fun _ => False) _ 1 (BVs [UInt8.ofNat (k % 128 + 128)]) rfl (one_new wr _ _ (by omega) (by omega) (fun h => h)) (BVs_one _) (by rw [List.length_append]; simp only [maxLen]; omega) (by rw [List.length_append]; omega) (Nat.le_trans hbr.size (by simp)) ?_; intro v2 w2 happ)
      go_roundw
      case rel =>
        have R := Onto.of (k := [UInt8.ofNat (k % 128 + 128)]) ((Below.refl wr.heap.size wr).alloc (Nat.le_refl _) _) happ
        obtain ⟨v3, he, hown3, hg3, hr3⟩ := R
        injection he with he
        rw [← he] at hown3 
        refine ⟨k / 128, pre ++ [UInt8.ofNat (k % 128 + 128)], by simp, ?_, ?_, ?_, ?_⟩
        · rw [← List.append_assoc]; exact hown3
        · rw [← HP.out, Cm.enc_big hbig hk, List.append_assoc]; rfl
        · omega
        · exact hbr.grown hg3 hbr.size (fun g hg => (hown.lt g hg).1)
      case measure => simp [intOf]; omega
    · have hsm : k < 128 := by omega
      go_wp2_with (at_builtin; refine wpList_append_sl _ rfl (.tmp 20) (.tmp 23) _ rfl w.heap.size 5 i0 _ 1 1 Tryz.underlying22 hi0 hz0 hz1 hz2 rfl (by omega) u5 (b ++ pre).length (BVs (b ++ pre)) rfl (hown.alloc _) (fun _ => False) _ 1 (BVs [UInt8.ofNat (k)]) rfl (one_new wr _ _ (by omega) (by omega) (fun h => h)) (BVs_one _) (by rw [List.length_append]; simp only [maxLen]; omega) (by rw [List.length_append]; omega) (Nat.le_trans hbr.size (by simp)) ?_; intro v2 w2 happ)
      go_ret
      have R := Onto.of (k := [UInt8.ofNat k]) ((Below.refl wr.heap.size wr).alloc (Nat.le_refl _) _) happ
      obtain ⟨v3, he, hown3, hg3, hr3⟩ := R
      refine ⟨v3, he, ?_, hbr.grown hg3 hbr.size (fun g hg => (hown.lt g hg).1)⟩
      rw [← HP.out, Cm.enc_small hsm, ← List.append_assoc]
      exact hown3

set_option maxHeartbeats 400000 in
theorem rputbytes_any (X Y : Nat → Prop) (v x : Value) (n k : Nat) (b l : List UInt8) (w : World) (hv : Sl w X 1 v n (BVs b)) (hx : Sl w Y 1 x k (BVs l)) (hn : n ≤ 549755813888) (hk : k ≤ 549755813888) :
    Calls Tryz.prog 42 #[v, x] w fun e w' => Made w 5 (b ++ Cm.encB l) e w' := by
  have hnl : n = b.length := by obtain ⟨A, c, _, h, _⟩ := hv; rw [BVs_len] at h; omega
  have hkl : k = l.length := by obtain ⟨A, c, _, h, _⟩ := hx; rw [BVs_len] at h; omega
  subst hnl; subst hkl
  have hlen := Cm.enc_len l.length
  obtain ⟨i0, hi0, hz0, hz1, hz2⟩ := info_parts info_u8
  have hx' := hx
  obtain ⟨A, c, rfl, -⟩ := hx'
  go_enter Tryz.func42, Tryz.ntmps42
  go_wp2_with (first
    | (go_at_call 81; refine (rputnum_any X v b.length b l.length _ hv (by omega) (by omega)).mono ?_; rintro e w1 ⟨v1, rfl, hown1, hb1⟩)
    | (at_builtin; refine wpList_append_sl _ rfl (.tmp 9) (.tmp 10) _ rfl w.heap.size 5 i0 _ 1 1 Tryz.underlying22 hi0 hz0 hz1 hz2 rfl (by omega) v1 (b ++ Cm.enc l.length).length (BVs (b ++ Cm.enc l.length)) rfl hown1 Y _ l.length (BVs l) rfl (hx.after hb1) (BVs_one _) (by rw [List.length_append]; simp only [maxLen]; omega) (by rw [List.length_append]; omega) hb1.size ?_; intro v2 w2 happ))
  go_ret
  have R := Made.onto hown1 hb1 (Onto.of (Below.refl _ _) happ)
  rw [Cm.encB, ← List.append_assoc]
  exact R

set_option maxHeartbeats 400000 in
theorem clone_any (X : Nat → Prop) (v : Value) (n : Nat) (b : List UInt8) (w : World) (hv : Sl w X 1 v n (BVs b)) (hn : n ≤ 549755813888) :
    Calls Tryz.prog 44 #[v] w fun e w' => Made w 5 b e w' := by
  have hnl : n = b.length := by obtain ⟨A, c, _, h, _⟩ := hv; rw [BVs_len] at h; omega
  subst hnl
  obtain ⟨i0, hi0, hz0, hz1, hz2⟩ := info_parts info_u8
  have hv' := hv
  obtain ⟨A, c, rfl, -⟩ := hv'
  have heq := fun (W : World) => Lib.run_eql_slice_nil (P := Tryz.prog) W 22 5 A b.length c 0 0 Tryz.underlying22
  rcases A with _ | ad
  · obtain ⟨h0, _⟩ := hv.none_
    have hb : b = [] := List.eq_nil_of_length_eq_zero h0
    subst hb
    simp only [List.length_nil] at heq
    clear hv h0
    go_enter Tryz.func44, Tryz.ntmps44
    go_wp2
    go_ret
    exact ⟨_, rfl, World.ownsRow_nil _ _ _ _, Below.refl _ _⟩
  · go_enter Tryz.func44, Tryz.ntmps44
    go_wp2_with (at_builtin; refine wpList_append_sl _ rfl (.tmp 5) (.tmp 6) _ rfl w.heap.size 5 i0 _ 1 1 Tryz.underlying22 hi0 hz0 hz1 hz2 rfl (by omega) (.slice (some ⟨w.heap.size, 0, none⟩) 0 0) 0 [] rfl (World.ownsRow_made w #[] 0 (Nat.le_refl _) (by simp only [maxLen]; omega) rfl) X _ b.length (BVs b) rfl (hv.alloc _) (BVs_one _) (by simp only [maxLen]; omega) (by omega) (by simp) ?_; intro v2 w2 happ)
    go_ret
    refine ⟨v2, rfl, by simpa using happ.1, ?_⟩
    exact ((Below.refl _ _).alloc (Nat.le_refl _) _).grown happ.2.1 (by simp) (by simp [Value.ownBlock])

end Go.Proofs.YtjoonpkgepkkhaaGreatDoor.Cd
