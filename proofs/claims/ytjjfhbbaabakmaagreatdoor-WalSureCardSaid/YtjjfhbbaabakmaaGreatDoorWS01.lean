/-
  The plain mathematics of layer 1 (codec): numbers to the base 128, byte strings, lists, and a reader over a list of bytes that keeps its first error. No program is named here.
-/
import Derived.WalkKit
import Derived.WalkSpells
import Derived.WalkLawsBesides
import Derived.Lib.Hide
import Derived.Maps.AppendAt
import Derived.Deep.AppendLies
import Derived.Deep.Draws
import Derived.Laws.Rows
namespace Go.Proofs.YtjjfhbbaabakmaaGreatDoor.Cm
set_option linter.unusedSimpArgs false
set_option linter.unusedVariables false

/-- A number's digits to the base 128, the lowest first, all but the last with 128 added; so many more digits at the most. -/
def encF : Nat → Nat → List UInt8
  | 0, n => [UInt8.ofNat n]
  | k + 1, n => if n < 128 then [UInt8.ofNat n] else UInt8.ofNat (n % 128 + 128) :: encF k (n / 128)
/-- A number's form. -/
def enc (n : Nat) : List UInt8 := encF 9 n
/-- A byte string's form. -/
def encB (x : List UInt8) : List UInt8 := enc x.length ++ x
/-- The number with which bytes begin (its place, what was gathered): the number, how many bytes, the error. -/
def pn : List UInt8 → Nat → Nat → Nat × Nat × Int
  | [], _, _ => (0, 0, 10)
  | c :: bs, i, acc =>
    if i = 9 ∧ 1 < c.toNat then (0, 0, 11)
    else if 128 ≤ c.toNat then pn bs (i + 1) (acc + c.toNat % 128 * 128 ^ i)
    else if c.toNat = 0 ∧ 0 < i then (0, 0, 11)
    else (acc + c.toNat * 128 ^ i, i + 1, 0)

/-- A reader: what is left, and its error. -/
abbrev RS := List UInt8 × Int
def failS (s : RS) (e : Int) : RS := if s.2 ≠ 0 then s else if e ≠ 0 then ([], e) else s
def numS (s : RS) (most : Nat) : Nat × RS :=
  if s.2 ≠ 0 then (0, s)
  else if (pn s.1 0 0).2.2 ≠ 0 then (0, ([], (pn s.1 0 0).2.2))
  else if most < (pn s.1 0 0).1 then (0, ([], 11))
  else ((pn s.1 0 0).1, (s.1.drop (pn s.1 0 0).2.1, 0))
def doneS (s : RS) : Int := if s.2 = 0 ∧ s.1 ≠ [] then 12 else s.2
/-- With an error nothing is left. -/
def Good (s : RS) : Prop := s.2 ≠ 0 → s.1 = []

theorem toNat_ofNat {n : Nat} (h : n < 256) : (UInt8.ofNat n).toNat = n := by
  simp [UInt8.toNat_ofNat']; omega

theorem encF_one {k n : Nat} (h : n < 128) : encF k n = [UInt8.ofNat n] := by
  cases k <;> simp [encF, h]
theorem encF_more : ∀ (k n : Nat), n < 128 ^ (k + 1) → encF (k + 1) n = encF k n
  | 0, n, h => by
    have : n < 128 := by simpa using h
    simp [encF, this]
  | k + 1, n, h => by
    by_cases hn : n < 128
    · rw [encF_one hn, encF_one hn]
    · have hd : n / 128 < 128 ^ (k + 1) := by
        rw [Nat.div_lt_iff_lt_mul (by omega)]
        rw [Nat.pow_succ] at h
        exact h
      have ih := encF_more k (n / 128) hd
      rw [encF, if_neg hn, ih]
      conv => rhs; rw [encF, if_neg hn]
theorem enc_small {n : Nat} (h : n < 128) : enc n = [UInt8.ofNat n] := encF_one h
theorem enc_big {n : Nat} (h : 128 ≤ n) (h64 : n < 18446744073709551616) : enc n = UInt8.ofNat (n % 128 + 128) :: enc (n / 128) := by
  unfold enc
  rw [encF, if_neg (by omega), ← encF_more 8 (n / 128) (by
    have : (128 : Nat) ^ (8 + 1) = 9223372036854775808 := by decide
    rw [this]; omega)]
theorem encF_len : ∀ (k n : Nat), (encF k n).length ≤ k + 1 ∧ 1 ≤ (encF k n).length
  | 0, n => by simp [encF]
  | k + 1, n => by
    have ih := encF_len k (n / 128)
    simp only [encF]
    split
    · simp
    · simp only [List.length_cons]; omega
theorem enc_len (n : Nat) : (enc n).length ≤ 10 ∧ 1 ≤ (enc n).length := encF_len 9 n
theorem enc_len_big {n : Nat} (h : 128 ≤ n) : 2 ≤ (enc n).length := by
  have := encF_len 8 (n / 128)
  unfold enc
  rw [encF, if_neg (by omega), List.length_cons]
  omega

/-- The digits' product fits. -/
theorem pow_le (i : Nat) (h : i ≤ 9) : 128 ^ i ≤ 9223372036854775808 ∧ 1 ≤ 128 ^ i := by
  have : i = 0 ∨ i = 1 ∨ i = 2 ∨ i = 3 ∨ i = 4 ∨ i = 5 ∨ i = 6 ∨ i = 7 ∨ i = 8 ∨ i = 9 := by omega
  rcases this with rfl | rfl | rfl | rfl | rfl | rfl | rfl | rfl | rfl | rfl <;> decide

/-- What was put is read: the digits of n, at place i, with so much gathered. -/
theorem pn_enc : ∀ (k i n acc : Nat) (rest : List UInt8), n < 128 ^ (k + 1) → k + i = 9 → (i = 0 ∨ 1 ≤ n) → n * 128 ^ i < 18446744073709551616 →
    pn (encF k n ++ rest) i acc = (acc + n * 128 ^ i, i + (encF k n).length, 0)
  | 0, i, n, acc, rest, h, hi, h0, h64 => by
    have hi9 : i = 9 := by omega
    subst hi9
    have hn : n < 2 := by
      have : (128 : Nat) ^ 9 = 9223372036854775808 := by decide
      rw [this] at h64; omega
    have hc : (UInt8.ofNat n).toNat = n := toNat_ofNat (by omega)
    simp only [encF, List.cons_append, List.nil_append, pn, hc, List.length_cons, List.length_nil]
    rw [if_neg (by omega), if_neg (by omega), if_neg (by omega)]
  | k + 1, i, n, acc, rest, h, hi, h0, h64 => by
    have hi9 : i ≠ 9 := by omega
    by_cases hn : n < 128
    · have hc : (UInt8.ofNat n).toNat = n := toNat_ofNat (by omega)
      simp only [encF, if_pos hn, List.cons_append, List.nil_append, pn, hc, List.length_cons, List.length_nil]
      rw [if_neg (by omega), if_neg (by omega), if_neg (by omega)]
    · have hc : (UInt8.ofNat (n % 128 + 128)).toNat = n % 128 + 128 := toNat_ofNat (by omega)
      have hd : n / 128 < 128 ^ (k + 1) := by
        rw [Nat.div_lt_iff_lt_mul (by omega)]
        rw [Nat.pow_succ] at h
        exact h
      have hp : 128 ^ (i + 1) = 128 ^ i * 128 := Nat.pow_succ 128 i
      have hmul : n / 128 * 128 ^ (i + 1) + n % 128 * 128 ^ i = n * 128 ^ i := by
        rw [hp, Nat.mul_comm (128 ^ i) 128, ← Nat.mul_assoc, ← Nat.add_mul]
        congr 1
        omega
      have hlt : n / 128 * 128 ^ (i + 1) < 18446744073709551616 := by omega
      have ih := pn_enc k (i + 1) (n / 128) (acc + n % 128 * 128 ^ i) rest hd (by omega) (Or.inr (by omega)) hlt
      simp only [encF, if_neg hn, List.cons_append, pn, hc, List.length_cons]
      rw [if_neg (by omega), if_pos (by omega), show (n % 128 + 128) % 128 = n % 128 from by omega, ih]
      refine Prod.ext ?_ (Prod.ext ?_ rfl)
      · simp only; omega
      · simp only; omega

theorem pn_of_enc {n : Nat} (h : n < 18446744073709551616) (rest : List UInt8) : pn (enc n ++ rest) 0 0 = (n, (enc n).length, 0) := by
  have := pn_enc 9 0 n 0 rest (by
    have : (128 : Nat) ^ (9 + 1) = 1180591620717411303424 := by decide
    rw [this]; omega) (by omega) (Or.inl rfl) (by simpa using h)
  simpa [enc] using this

/-- What was read is put again: the digits that were read are those of the number (from place i on). -/
theorem pn_one : ∀ (bs : List UInt8) (i acc v j : Nat), pn bs i acc = (v, j, 0) → i ≤ 9 → acc < 128 ^ i →
    ∃ n, v = acc + n * 128 ^ i ∧ i < j ∧ j - i ≤ bs.length ∧ j ≤ 10 ∧ bs.take (j - i) = encF (9 - i) n ∧ (i = 0 ∨ 1 ≤ n) ∧ v < 18446744073709551616
  | [], i, acc, v, j, h, hi, ha => by simp [pn] at h
  | c :: bs, i, acc, v, j, h, hi, ha => by
    have hcl : c.toNat < 256 := c.toNat_lt
    have hco : UInt8.ofNat c.toNat = c := by simp
    obtain ⟨hp1, hp2⟩ := pow_le i hi
    simp only [pn] at h
    split at h
    · simp at h
    · rename_i hn9
      split at h
      · rename_i hbig
        have hi8 : i ≤ 8 := by omega
        have hp : 128 ^ (i + 1) = 128 ^ i * 128 := Nat.pow_succ 128 i
        have hm : c.toNat % 128 * 128 ^ i ≤ 127 * 128 ^ i := Nat.mul_le_mul_right _ (by omega)
        obtain ⟨n, hv, hij, hjl, hj10, htk, hn1, hv64⟩ := pn_one bs (i + 1) _ v j h (by omega) (by rw [hp]; omega)
        have hn1' : 1 ≤ n := by omega
        refine ⟨n * 128 + c.toNat % 128, ?_, by omega, by simp only [List.length_cons]; omega, hj10, ?_, by omega, hv64⟩
        · rw [hv, hp, Nat.add_mul]
          have : n * (128 ^ i * 128) = n * 128 * 128 ^ i := by rw [Nat.mul_comm (128 ^ i) 128, Nat.mul_assoc]
          omega
        · have hj : j - i = (j - (i + 1)) + 1 := by omega
          rw [hj, List.take_succ_cons, htk, show 9 - i = (9 - (i + 1)) + 1 from by omega]
          have hnb : ¬ (n * 128 + c.toNat % 128 < 128) := by omega
          rw [encF, if_neg hnb, show (n * 128 + c.toNat % 128) % 128 + 128 = c.toNat from by omega, hco,
            show (n * 128 + c.toNat % 128) / 128 = n from by omega]
      · rename_i hsm
        split at h
        · simp at h
        · rename_i hz
          simp only [Prod.mk.injEq] at h
          obtain ⟨h1, h2, _⟩ := h
          subst h1; subst h2
          refine ⟨c.toNat, rfl, by omega, by simp only [List.length_cons]; omega, by omega, ?_, by omega, ?_⟩
          · rw [show i + 1 - i = 1 from by omega, encF_one (by omega), hco]
            simp
          · by_cases hi9 : i = 9
            · subst hi9
              have : c.toNat ≤ 1 := by omega
              have hm : c.toNat * 128 ^ 9 ≤ 1 * 128 ^ 9 := Nat.mul_le_mul_right _ this
              have h9 : (128 : Nat) ^ 9 = 9223372036854775808 := by decide
              rw [h9] at *
              omega
            · have hm : c.toNat * 128 ^ i ≤ 127 * 128 ^ i := Nat.mul_le_mul_right _ (by omega)
              have h8 : 128 ^ i ≤ 72057594037927936 := by
                have : i = 0 ∨ i = 1 ∨ i = 2 ∨ i = 3 ∨ i = 4 ∨ i = 5 ∨ i = 6 ∨ i = 7 ∨ i = 8 := by omega
                rcases this with rfl | rfl | rfl | rfl | rfl | rfl | rfl | rfl | rfl <;> decide
              omega

theorem pn_one0 {bs : List UInt8} {v j : Nat} (h : pn bs 0 0 = (v, j, 0)) : bs.take j = enc v ∧ j ≤ bs.length ∧ 1 ≤ j ∧ v < 18446744073709551616 := by
  obtain ⟨n, hv, hij, hjl, _, htk, _, h64⟩ := pn_one bs 0 0 v j h (by omega) (by simp)
  have : n = v := by simpa using hv.symm
  subst this
  exact ⟨by simpa [enc] using htk, by simpa using hjl, by omega, h64⟩

theorem numS_le (s : RS) (most : Nat) : (numS s most).1 ≤ most := by
  unfold numS
  split
  · exact Nat.zero_le _
  · split
    · exact Nat.zero_le _
    · split
      · exact Nat.zero_le _
      · simp only; omega
theorem numS_ok {s : RS} {m : Nat} (h : (numS s m).2.2 = 0) : s.2 = 0 ∧ (pn s.1 0 0).2.2 = 0 ∧ (pn s.1 0 0).1 ≤ m ∧ numS s m = ((pn s.1 0 0).1, (s.1.drop (pn s.1 0 0).2.1, 0)) := by
  by_cases h1 : s.2 = 0
  · by_cases h2 : (pn s.1 0 0).2.2 = 0
    · by_cases h3 : m < (pn s.1 0 0).1
      · rw [numS, if_neg (by simp [h1]), if_neg (by simp [h2]), if_pos h3] at h
        simp at h
      · refine ⟨h1, h2, by omega, ?_⟩
        rw [numS, if_neg (by simp [h1]), if_neg (by simp [h2]), if_neg h3]
    · rw [numS, if_neg (by simp [h1]), if_pos h2] at h
      exact absurd h h2
  · rw [numS, if_pos h1] at h
    exact absurd h h1
theorem encB_len (x : List UInt8) : (encB x).length = (enc x.length).length + x.length := by simp [encB]
theorem numS_enc {n m : Nat} (h : n < 18446744073709551616) (hm : n ≤ m) (r : List UInt8) : numS (enc n ++ r, 0) m = (n, (r, 0)) := by
  have hp := pn_of_enc h r
  rw [numS, if_neg (by simp)]
  simp only [hp]
  rw [if_neg (by simp), if_neg (by omega)]
  simp
end Go.Proofs.YtjjfhbbaabakmaaGreatDoor.Cm

/-
  Words for memory, for layer 1 (codec): a slice that reads as cells outside some blocks, a block known whole, and the law of append from any source onto a row of the call's own.
-/
namespace Go.Proofs.YtjjfhbbaabakmaaGreatDoor.Ck
set_option linter.unusedSimpArgs false
set_option linter.unusedVariables false
open Go Go.RowKit

/-- A byte's cell, and a byte string's cells. -/
def BV (c : UInt8) : Value := .int .u8 (c.toNat : Int)
def BVs (l : List UInt8) : List Value := l.map BV
theorem BVs_len (l : List UInt8) : (BVs l).length = l.length := by simp [BVs]
theorem BVs_app (l m : List UInt8) : BVs (l ++ m) = BVs l ++ BVs m := by simp [BVs]
theorem BVs_one (l : List UInt8) : ∀ u ∈ BVs l, u.oneCell' = true := by
  intro u hu
  simp only [BVs, List.mem_map] at hu
  obtain ⟨c, _, rfl⟩ := hu
  rfl
theorem BV_of {n : Nat} (h : n < 256) : BV (UInt8.ofNat n) = .int .u8 (n : Int) := by
  simp only [BV, Cm.toNat_ofNat h]
theorem BVs_get {l : List UInt8} {j : Nat} (h : j < l.length) : (BVs l)[j]? = some (.int .u8 (l[j].toNat : Int)) := by
  simp [BVs, BV, h]

theorem add_block (a : Addr) (n : Nat) : (a.add n).block = a.block := by unfold Addr.add; split <;> rfl
theorem add_add (a : Addr) (i j : Nat) : (a.add i).add j = a.add (i + j) := by
  unfold Addr.add
  by_cases hi : i = 0 <;> by_cases hj : j = 0 <;> simp [hi, hj, Nat.add_assoc]

/-- The slice value v has n elements of so many cells, which read as xs, in no block of X. -/
def Sl (w : World) (X : Nat → Prop) (size : Nat) (v : Value) (n : Nat) (xs : List Value) : Prop :=
  ∃ A c, v = .slice A n c ∧ xs.length = n * size ∧ n ≤ c ∧ c ≤ maxLen ∧ (0 < n → ∃ ad, A = some ad ∧ ad.block < w.heap.size ∧ ¬ X ad.block ∧ ∀ j u, xs[j]? = some u → w.cell? (ad.add j) = some u)

section
variable {w w' : World} {X Y : Nat → Prop} {size n : Nat} {v : Value} {xs : List Value}
theorem Sl.nil (w : World) (X : Nat → Prop) (size : Nat) : Sl w X size (.slice none 0 0) 0 [] := ⟨none, 0, rfl, by simp, Nat.le_refl _, Nat.zero_le _, fun h => absurd h (by omega)⟩
theorem Sl.keep (h : Sl w X size v n xs) (hs : w.heap.size ≤ w'.heap.size) (hk : ∀ b, b < w.heap.size → ¬ X b → w'.heap[b]? = w.heap[b]?) : Sl w' X size v n xs := by
  obtain ⟨A, c, hv, hl, hc, hm, hx⟩ := h
  refine ⟨A, c, hv, hl, hc, hm, fun hn => ?_⟩
  obtain ⟨ad, hA, hb, hX, hcell⟩ := hx hn
  refine ⟨ad, hA, by omega, hX, fun j u hu => ?_⟩
  have hbl : (ad.add j).block = ad.block := add_block ad j
  exact (World.cell?_of_block (w := w) (by rw [hbl]; exact hk _ hb hX)).trans (hcell j u hu)
theorem Sl.weaken (h : Sl w X size v n xs) (hk : ∀ b, b < w.heap.size → Y b → X b) : Sl w Y size v n xs := by
  obtain ⟨A, c, hv, hl, hc, hm, hx⟩ := h
  refine ⟨A, c, hv, hl, hc, hm, fun hn => ?_⟩
  obtain ⟨ad, hA, hb, hX, hcell⟩ := hx hn
  exact ⟨ad, hA, hb, fun hy => hX (hk _ hb hy), hcell⟩
theorem Sl.grown {row : Option Nat} (h : Sl w X size v n xs) (hg : w.grownBy w' row) (hr : ∀ k, row = some k → k < w.heap.size → X k) : Sl w' X size v n xs :=
  h.keep hg.size fun b hb hX => hg.block b hb fun e => hX (hr b e.symm hb)
theorem Sl.below {B : Nat} (h : Sl w X size v n xs) (hb : Below B w w') (hX : ∀ k, k < w.heap.size → B ≤ k → X k) : Sl w' X size v n xs :=
  h.keep hb.size fun b hlt hn => hb.block b (by rcases Nat.lt_or_ge b B with h1 | h1; exact h1; exact absurd (hX b hlt h1) hn)
theorem Sl.none_ {c : Nat} (h : Sl w X size (.slice none n c) n xs) : n = 0 ∧ xs = [] := by
  obtain ⟨A, c', hv, hl, hc, hm, hx⟩ := h
  injection hv with e1
  subst e1
  have hn : n = 0 := by
    rcases Nat.eq_zero_or_pos n with h0 | h0
    · exact h0
    · obtain ⟨ad, h, _⟩ := hx h0
      cases h
  subst hn
  exact ⟨rfl, List.eq_nil_of_length_eq_zero (by simpa using hl)⟩
/-- Behind a call that writes no old block. -/
theorem Sl.after (h : Sl w X size v n xs) (hb : Below w.heap.size w w') : Sl w' X size v n xs := h.below hb fun k h1 h2 => absurd h1 (by omega)
/-- It lies in an old block. -/
theorem Sl.old (h : Sl w X size v n xs) {B : Nat} (hB : w.heap.size ≤ B) : Sl w (fun k => X k ∨ B ≤ k) size v n xs := by
  obtain ⟨A, c, hv, hl, hc, hm, hx⟩ := h
  refine ⟨A, c, hv, hl, hc, hm, fun hn => ?_⟩
  obtain ⟨ad, hA, hb, hX, hcell⟩ := hx hn
  exact ⟨ad, hA, hb, fun hy => by rcases hy with hy | hy; exact hX hy; omega, hcell⟩
theorem Sl.old' (h : Sl w X size v n xs) {B : Nat} (hB : w.heap.size ≤ B) : Sl w (fun k => B ≤ k) size v n xs := (h.old hB).weaken fun _ _ h => .inr h
theorem Sl.drew (h : Sl w X size v n xs) : Sl w.drew X size v n xs := h
theorem Sl.drewN (h : Sl w X size v n xs) (k : Nat) : Sl (w.drewN k) X size v n xs := h
theorem Sl.alloc (h : Sl w X size v n xs) (o : Obj) : Sl (w.alloc o) X size v n xs :=
  h.keep (by simp) fun b hb _ => Below.heap_alloc w o b hb
theorem Sl.setCell (h : Sl w X size v n xs) {p : Addr} (hp : p.block < w.heap.size → X p.block) (u : Value) : Sl (w.setCell p u) X size v n xs :=
  h.keep (by simp [World.setCell]) fun b hb hX => Below.heap_setCell w p u b (fun e => by subst e; exact hX (hp hb))
theorem Sl.of_own {base : Nat} {e : TypeId} (h : w.ownsRow base e size v n xs) (hX : ∀ k, base ≤ k → k < w.heap.size → ¬ X k) : Sl w X size v n xs := by
  rcases h.2 with ⟨rfl, rfl⟩ | ⟨g, cap, cur, rfl, hb, hg, hnc, hcm, _, _⟩
  · exact ⟨none, 0, rfl, h.1, Nat.le_refl _, Nat.zero_le _, fun h => absurd h (by omega)⟩
  · have hlt : g < w.heap.size := (Array.getElem?_eq_some_iff.1 hg).1
    exact ⟨_, _, rfl, h.1, hnc, hcm, fun _ => ⟨_, rfl, hlt, hX g hb hlt, h.cells (g := g) rfl⟩⟩
theorem Sl.of_own' {base : Nat} {e : TypeId} (h : w.ownsRow base e size v n xs) (hX : ∀ k, v.ownBlock = some k → ¬ X k) : Sl w X size v n xs := by
  rcases h.2 with ⟨rfl, rfl⟩ | ⟨g, cap, cur, rfl, hb, hg, hnc, hcm, _, _⟩
  · exact ⟨none, 0, rfl, h.1, Nat.le_refl _, Nat.zero_le _, fun h => absurd h (by omega)⟩
  · have hlt : g < w.heap.size := (Array.getElem?_eq_some_iff.1 hg).1
    exact ⟨_, _, rfl, h.1, hnc, hcm, fun _ => ⟨_, rfl, hlt, hX g rfl, h.cells (g := g) rfl⟩⟩
/-- A cut of it: from i on, up to j. -/
theorem Sl.cut {A : Option Addr} {c i : Nat} (h : Sl w X size (.slice A n c) n xs) (hi : i ≤ n) (A' : Option Addr) (hA : ∀ ad, A = some ad → i < n → A' = some (ad.add (i * size))) :
    Sl w X size (.slice A' (n - i) (c - i)) (n - i) (xs.drop (i * size)) := by
  obtain ⟨A0, c0, hv, hl, hc, hm, hx⟩ := h
  injection hv with e1 e2 e3
  subst e1; subst e3
  refine ⟨A', c - i, rfl, by rw [List.length_drop, hl, Nat.sub_mul], by omega, by omega, fun hn => ?_⟩
  obtain ⟨ad, hAd, hb, hX, hcell⟩ := hx (by omega)
  refine ⟨ad.add (i * size), hA ad hAd (by omega), by rw [add_block]; exact hb, by rw [add_block]; exact hX, fun j u hu => ?_⟩
  rw [add_add]
  exact hcell _ u (by rw [← hu, List.getElem?_drop])
theorem Sl.upto {A : Option Addr} {c j : Nat} (h : Sl w X size (.slice A n c) n xs) (hj : j ≤ n) : Sl w X size (.slice A j c) j (xs.take (j * size)) := by
  obtain ⟨A0, c0, hv, hl, hc, hm, hx⟩ := h
  injection hv with e1 e2 e3
  subst e1; subst e3
  have hjs : j * size ≤ n * size := Nat.mul_le_mul_right _ hj
  refine ⟨A, c, rfl, by rw [List.length_take, hl]; omega, by omega, hm, fun hn => ?_⟩
  obtain ⟨ad, hAd, hb, hX, hcell⟩ := hx (by omega)
  refine ⟨ad, hAd, hb, hX, fun k u hu => hcell k u ?_⟩
  rw [List.getElem?_take] at hu
  split at hu
  · exact hu
  · cases hu
end

/-- The slice value v reads as a list of byte strings, in no block of X. -/
def Ls (w : World) (X : Nat → Prop) (v : Value) (ls : List (List UInt8)) : Prop :=
  ∃ vals, Sl w X 1 v ls.length vals ∧ ∀ i (h : i < ls.length), ∃ u, vals[i]? = some u ∧ Sl w X 1 u ls[i].length (BVs ls[i])
section
variable {w w' : World} {X Y : Nat → Prop} {v : Value} {ls : List (List UInt8)}
theorem Ls.keep (h : Ls w X v ls) (hs : w.heap.size ≤ w'.heap.size) (hk : ∀ b, b < w.heap.size → ¬ X b → w'.heap[b]? = w.heap[b]?) : Ls w' X v ls := by
  obtain ⟨vals, h1, h2⟩ := h
  exact ⟨vals, h1.keep hs hk, fun i hi => by obtain ⟨u, hu, h3⟩ := h2 i hi; exact ⟨u, hu, h3.keep hs hk⟩⟩
theorem Ls.weaken (h : Ls w X v ls) (hk : ∀ b, b < w.heap.size → Y b → X b) : Ls w Y v ls := by
  obtain ⟨vals, h1, h2⟩ := h
  exact ⟨vals, h1.weaken hk, fun i hi => by obtain ⟨u, hu, h3⟩ := h2 i hi; exact ⟨u, hu, h3.weaken hk⟩⟩
theorem Ls.grown {row : Option Nat} (h : Ls w X v ls) (hg : w.grownBy w' row) (hr : ∀ k, row = some k → k < w.heap.size → X k) : Ls w' X v ls :=
  h.keep hg.size fun b hb hX => hg.block b hb fun e => hX (hr b e.symm hb)
theorem Ls.below {B : Nat} (h : Ls w X v ls) (hb : Below B w w') (hX : ∀ k, k < w.heap.size → B ≤ k → X k) : Ls w' X v ls :=
  h.keep hb.size fun b hlt hn => hb.block b (by rcases Nat.lt_or_ge b B with h1 | h1; exact h1; exact absurd (hX b hlt h1) hn)
theorem Ls.after (h : Ls w X v ls) (hb : Below w.heap.size w w') : Ls w' X v ls := h.below hb fun k h1 h2 => absurd h1 (by omega)
theorem Ls.old' (h : Ls w X v ls) {B : Nat} (hB : w.heap.size ≤ B) : Ls w (fun k => B ≤ k) v ls := by
  obtain ⟨vals, h1, h2⟩ := h
  exact ⟨vals, h1.old' hB, fun i hi => by obtain ⟨u, hu, h3⟩ := h2 i hi; exact ⟨u, hu, h3.old' hB⟩⟩
/-- The i-th part: where it lies, and what it reads as. -/
theorem Ls.at_ {A : Option Addr} {n c i : Nat} (h : Ls w X (.slice A n c) ls) (hi : i < ls.length) :
    ∃ ad B d, A = some ad ∧ w.cell? (ad.add i) = some (.slice B ls[i].length d) ∧ Sl w X 1 (.slice B ls[i].length d) ls[i].length (BVs ls[i]) := by
  obtain ⟨vals, h1, h2⟩ := h
  obtain ⟨A0, c0, hv, hl, hc, hm, hx⟩ := h1
  injection hv with e1 e2 e3
  obtain ⟨ad, hA, hb, hX, hcell⟩ := hx (by omega)
  obtain ⟨u, hu, h3⟩ := h2 i hi
  have h4 := h3
  obtain ⟨B, d, rfl, -⟩ := h4
  exact ⟨ad, B, d, e1.trans hA, hcell i _ hu, h3⟩
end

/-- A block that is known whole. -/
def Blk (w : World) (g : Nat) (t : TypeId) (cs : Array Value) : Prop := w.heap[g]? = some (.cells cs t (0, 0))
section
variable {w w' : World} {g : Nat} {t : TypeId} {cs : Array Value}
theorem Blk.lt (h : Blk w g t cs) : g < w.heap.size := (Array.getElem?_eq_some_iff.1 h).1
theorem Blk.cell (h : Blk w g t cs) (i : Nat) : w.cell? ⟨g, i, none⟩ = cs[i]? := cell_of_row w g i cs t (0, 0) h
theorem Blk.frozen (h : Blk w g t cs) (i : Nat) : w.frozen? ⟨g, i, none⟩ = false := by
  unfold Blk at h
  simp [World.frozen?, h]
theorem Blk.new (w : World) (t : TypeId) (cs : Array Value) : Blk (w.alloc (.cells cs t)) w.heap.size t cs := heap_alloc_new w _
theorem Blk.new_at {w : World} {B : Nat} {t : TypeId} {cs cs' : Array Value} (hB : B = w.heap.size) (hc : cs' = cs) : Blk (w.alloc (.cells cs' t)) B t cs := by
  subst hB; subst hc; exact Blk.new _ _ _
theorem Blk.alloc (h : Blk w g t cs) (o : Obj) : Blk (w.alloc o) g t cs := (Below.heap_alloc w o g h.lt).trans h
theorem Blk.set_ (h : Blk w g t cs) (i : Nat) (u : Value) : Blk (w.setCell ⟨g, i, none⟩ u) g t (cs.setIfInBounds i u) := by
  unfold Blk at h ⊢
  simp [World.setCell, Array.getElem?_modify, h]
theorem Blk.far (h : Blk w g t cs) {p : Addr} (hp : g ≠ p.block) (u : Value) : Blk (w.setCell p u) g t cs := (Below.heap_setCell w p u g hp).trans h
theorem Blk.below {B : Nat} (h : Blk w g t cs) (hb : Below B w w') (hg : g < B) : Blk w' g t cs := (hb.block g hg).trans h
theorem Blk.grown {row : Option Nat} (h : Blk w g t cs) (hb : w.grownBy w' row) (hg : some g ≠ row) : Blk w' g t cs := (hb.block g h.lt hg).trans h
end

theorem below_drewN {B : Nat} {a w : World} (h : Below B a w) (n : Nat) : Below B a (w.drewN n) := ⟨h.os, h.tape, h.output, h.size, h.block⟩
theorem grown_of_below {a w : World} (h : Below a.heap.size a w) (row : Option Nat) : a.grownBy w row := ⟨h.os, h.tape, h.output, h.size, fun i hi _ => h.block i hi⟩
theorem below_of_grown {a w : World} {row : Option Nat} (h : a.grownBy w row) (hr : ∀ k, row = some k → a.heap.size ≤ k) : Below a.heap.size a w := ⟨h.os, h.tape, h.output, h.size, fun i hi => h.block i hi fun e => by have := hr i e.symm; omega⟩
theorem own_below {w w' : World} {base : Nat} {e : TypeId} {size : Nat} {v : Value} {n : Nat} {xs : List Value} (h : w.ownsRow base e size v n xs) (hb : Below w.heap.size w w') : w'.ownsRow base e size v n xs :=
  h.kept (grown_of_below hb none) (by cases v.ownBlock <;> simp)
theorem grown_setCell {a w : World} {g : Nat} (h : a.grownBy w (some g)) {p : Addr} (hp : p.block = g ∨ a.heap.size ≤ p.block) (u : Value) : a.grownBy (w.setCell p u) (some g) :=
  ⟨h.os, h.tape, h.output, by simpa [World.setCell] using h.size, fun i hi hne => (Below.heap_setCell w p u i (by
    rintro rfl
    rcases hp with hp | hp
    · exact hne (by rw [hp])
    · omega)).trans (h.block i hi hne)⟩
section
variable {P : Program} (w : World)
theorem run_append_nilsrc (base : Nat) (t ty e : TypeId) (i : TypeInfo) (size : Nat) (ht : P.underlying t = some (.slice e)) (hi : P.info? e = some i)
    (v : Value) (n : Nat) (xs : List Value) (hown : w.ownsRow base e size v n xs) (c : Nat) : (Builtin.append_ #[t, t] ty #[v, .slice none 0 c]).run P w = .ok v w := by
  rcases hown.2 with ⟨rfl, rfl⟩ | ⟨g, cap, cur, rfl, _, _, hnc, _⟩
  · simp [Builtin.append_, run_underlying ht, sizeOf, typeInfo, hi, Builtin.lenOf, Builtin.firstCells]
  · simp [Builtin.append_, run_underlying ht, sizeOf, typeInfo, hi, Builtin.lenOf, Builtin.firstCells, hnc, storeCells]

/-- What an append leaves: a row of the call's own, in the old row or a new block. -/
def Appended (w : World) (base : Nat) (e : TypeId) (size : Nat) (v : Value) (n : Nat) (xs : List Value) (v' : Value) (w' : World) : Prop :=
  w'.ownsRow base e size v' n xs ∧ w.grownBy w' v.ownBlock ∧ (v'.ownBlock = v.ownBlock ∨ v'.ownBlock = some w.heap.size)

theorem run_append_sl (base : Nat) (t ty e : TypeId) (i : TypeInfo) (z : Value) (size bytes : Nat) (ht : P.underlying t = some (.slice e)) (hi : P.info? e = some i) (hz : i.zero = some z)
    (hsize : i.size = size) (hby : i.bytes = bytes) (hzs : z.cells.size = size) (hsz : 0 < size)
    (v : Value) (n : Nat) (xs : List Value) (hown : w.ownsRow base e size v n xs)
    (X : Nat → Prop) (src : Value) (m : Nat) (news : List Value) (hr : Sl w X size src m news) (h1 : ∀ u ∈ news, u.oneCell' = true)
    (h63 : n + m ≤ maxLen) (hbytes : (n + m) * bytes ≤ 140737488355328) (hbase : base ≤ w.heap.size) :
    ∃ v' w', (Builtin.append_ #[t, t] ty #[v, src]).run P w = .ok v' w' ∧ Appended w base e size v (n + m) (xs ++ news) v' w' := by
  obtain ⟨A, c, rfl, hl, hc, hcm, hx⟩ := hr
  rcases A with _ | ad
  · have hm : m = 0 := by
      rcases Nat.eq_zero_or_pos m with h0 | h0
      · exact h0
      · obtain ⟨ad, h, _⟩ := hx h0
        cases h
    subst hm
    have hn : news = [] := List.eq_nil_of_length_eq_zero (by simpa using hl)
    subst hn
    exact ⟨v, w, run_append_nilsrc w base t ty e i size ht hi v n xs hown c, by simpa using hown, World.grownBy.refl w _, .inl rfl⟩
  · have hcells : ∀ j u, news[j]? = some u → w.cell? (ad.add j) = some u := by
      intro j u hu
      rcases Nat.eq_zero_or_pos m with h0 | h0
      · subst h0
        have hn : news = [] := List.eq_nil_of_length_eq_zero (by simpa using hl)
        subst hn
        simp at hu
      · obtain ⟨ad', h, _, _, hc⟩ := hx h0
        injection h with h
        subst h
        exact hc j u hu
    obtain ⟨v', w', hrun, h2, h3, _, h5⟩ := run_append_own_at (P := P) w base t ty e i z size bytes ht hi hz hsize hby hzs hsz v n xs hown ad m c news hl hcells h1 h63 hbytes hbase
    exact ⟨v', w', hrun, h2, h3, h5⟩

/-- At the operation, for the walk. -/
theorem wpList_append_sl {ops : Array Oper} {rest : List Oper} {o : Oper} {a : Act} {Q : Exit → Act → World → Prop} (hgd : o.guard = none) (s x : Operand) (t : TypeId)
    (ho : o.op = .call { callee := .builtin .append, args := #[s, x], argTypes := #[t, t] })
    (base : Nat) (e : TypeId) (i : TypeInfo) (z : Value) (size bytes : Nat) (ht : P.underlying t = some (.slice e)) (hi : P.info? e = some i) (hz : i.zero = some z)
    (hsize : i.size = size) (hby : i.bytes = bytes) (hzs : z.cells.size = size) (hsz : 0 < size)
    (v : Value) (n : Nat) (xs : List Value) (hs : a.eval s = v) (hown : w.ownsRow base e size v n xs)
    (X : Nat → Prop) (src : Value) (m : Nat) (news : List Value) (hx : a.eval x = src) (hr : Sl w X size src m news) (h1 : ∀ u ∈ news, u.oneCell' = true)
    (h63 : n + m ≤ maxLen) (hbytes : (n + m) * bytes ≤ 140737488355328) (hbase : base ≤ w.heap.size)
    (h : ∀ v' w', Appended w base e size v (n + m) (xs ++ news) v' w' → wpList P ops Q rest (a.put o.dst v') w') : wpList P ops Q (o :: rest) a w := by
  refine wpList_plain hgd fun K hK => ?_
  obtain ⟨v', w', hrun, h2⟩ := run_append_sl (P := P) w base t o.type e i z size bytes ht hi hz hsize hby hzs hsz v n xs hown X src m news hr h1 h63 hbytes hbase
  unfold Oper.wp execOp
  simp only [ho, resolve, invoke, builtin, Sem.run_bind, Sem.run_pure, Result.andThen_ok, List.map_toArray, List.map_cons, List.map_nil, hs, hx, hrun]
  exact hK _ _ (h v' w' h2)

/-- A string out of bytes. -/
theorem run_convert_sl (X : Nat → Prop) (src dst e : TypeId) (A : Option Addr) (c : Nat) (l : List UInt8) (hs : P.underlying src = some (.slice e)) (he : P.underlying e = some (.int .u8)) (hd : P.underlying dst = some .string)
    (h : Sl w X 1 (.slice A l.length c) l.length (BVs l)) : (convert src dst (.slice A l.length c)).run P w = .ok (.string ⟨l.toArray⟩) w := by
  obtain ⟨A0, c0, hv, hl, hc, hcm, hx⟩ := h
  injection hv with e1 e2 e3
  subst e1; subst e3
  rcases A with _ | ad
  · have hl0 : l = [] := by
      rcases Nat.eq_zero_or_pos l.length with h0 | h0
      · exact List.eq_nil_of_length_eq_zero h0
      · obtain ⟨ad, h, _⟩ := hx h0
        cases h
    subst hl0
    rw [run_convert_bytes_string w src dst e none _ c hs he hd]
    rfl
  · refine run_convert_bytes_back w src dst e ad c l hs he hd fun j hj => ?_
    obtain ⟨ad', h, _, _, hc⟩ := hx (by omega)
    injection h with h
    subst h
    exact hc j _ (BVs_get hj)
end

/-- Two results, the first an array in a cell of its own. -/
theorem results_row_tmp {P : Program} {fn : Func} {p q : Tmp} {ty : TypeId} (h : fn.results = #[.cell p ty, .tmp q]) (tmps : Array Value) (w : World) (g : Nat) (t : TypeId) (cs : Array Value) (fr : Nat × Nat) (d : TypeDesc)
    (hp : tmps.getD p undef = .pointer (some ⟨g, 0, none⟩)) (hg : w.heap[g]? = some (.cells cs t fr))
    (hu : P.underlying ty = some d) (hd : (match d with | .struct _ | .array _ _ => true | _ => false) = true) (hi : (P.info? ty).map (·.size) = some cs.size) :
    (results fn tmps).run P w = .ok (.tuple #[.agg cs, tmps.getD q undef]) w := by
  have hp' : tmps[p]?.getD undef = .pointer (some ⟨g, 0, none⟩) := by simpa using hp
  simp [results, h, hp', asAddr, run_loadVar_row w g t ty cs fr d hg hu hd hi]

/-- What a call makes that hands back new bytes. -/
def Made (w : World) (e : TypeId) (l : List UInt8) (en : Ending) (w' : World) : Prop :=
  ∃ v, en = .returned v ∧ w'.ownsRow w.heap.size e 1 v l.length (BVs l) ∧ Below w.heap.size w w'
/-- What a call makes that puts bytes behind a row of its caller's own. -/
def Onto (w : World) (base : Nat) (e : TypeId) (v : Value) (l : List UInt8) (en : Ending) (w' : World) : Prop :=
  ∃ v', en = .returned v' ∧ w'.ownsRow base e 1 v' l.length (BVs l) ∧ w.grownBy w' v.ownBlock ∧ (v'.ownBlock = v.ownBlock ∨ ∀ k, v'.ownBlock = some k → w.heap.size ≤ k)

theorem grown_step {a b c : World} {r1 r2 : Option Nat} (h : a.grownBy b r1) (k : b.grownBy c r2) (hr : r2 = r1 ∨ ∀ g, r2 = some g → a.heap.size ≤ g) : a.grownBy c r1 :=
  ⟨k.os.trans h.os, k.tape.trans h.tape, k.output.trans h.output, Nat.le_trans h.size k.size, fun i hi hn => (k.block i (Nat.lt_of_lt_of_le hi h.size) (by
    rcases hr with rfl | hr
    · exact hn
    · intro e; have := hr i e.symm; omega)).trans (h.block i hi hn)⟩
section
variable {w w1 w2 : World} {base : Nat} {e : TypeId} {v v1 v2 : Value} {l k : List UInt8} {en : Ending}
theorem Onto.of (hb : Below w.heap.size w w1) (h : Appended w1 base e 1 v (l.length + k.length) (BVs l ++ BVs k) v2 w2) : Onto w base e v (l ++ k) (.returned v2) w2 :=
  ⟨v2, rfl, by rw [List.length_append, BVs_app]; exact h.1, (grown_of_below hb _).trans h.2.1, by
    rcases h.2.2 with h | h
    · exact .inl h
    · refine .inr fun g hg => ?_
      rw [h] at hg
      injection hg with hg
      have := hb.size
      omega⟩
theorem Onto.then_ (h : w.grownBy w1 v.ownBlock) (hv : v1.ownBlock = v.ownBlock ∨ ∀ g, v1.ownBlock = some g → w.heap.size ≤ g) (h2 : Onto w1 base e v1 l en w2) : Onto w base e v l en w2 := by
  obtain ⟨v2, rfl, hown, hg, hr⟩ := h2
  refine ⟨v2, rfl, hown, grown_step h hg hv, ?_⟩
  rcases hr with hr | hr
  · rw [hr]; exact hv
  · exact .inr fun g hg => Nat.le_trans h.size (hr g hg)
theorem Made.onto (h : w1.ownsRow w.heap.size e 1 v k.length (BVs k)) (hb : Below w.heap.size w w1) (h2 : Onto w1 w.heap.size e v l en w2) : Made w e l en w2 := by
  obtain ⟨v2, rfl, hown, hg, hr⟩ := h2
  exact ⟨v2, rfl, hown, hb.grown hg hb.size fun g hg => (h.lt g hg).1⟩
/-- What was made, seen from an earlier world. -/
theorem Made.later (hb : Below w.heap.size w w1) (h : Made w1 e l en w2) : ∃ v, en = .returned v ∧ w2.ownsRow w1.heap.size e 1 v l.length (BVs l) ∧ Below w.heap.size w w2 := by
  obtain ⟨v, rfl, hown, hb2⟩ := h
  exact ⟨v, rfl, hown, hb.trans (hb2.mono hb.size)⟩
theorem own_shape {size n : Nat} {xs : List Value} (h : w.ownsRow base e size v n xs) : ∃ A c, v = .slice A n c := by
  rcases h.2 with ⟨hv, rfl⟩ | ⟨g, cap, cur, hv, _⟩
  · exact ⟨_, _, hv⟩
  · exact ⟨_, _, hv⟩
theorem own_base {size n : Nat} {b' : Nat} {xs : List Value} (h : w.ownsRow base e size v n xs) (hb : b' ≤ base) : w.ownsRow b' e size v n xs := by
  refine ⟨h.1, ?_⟩
  rcases h.2 with hn | ⟨g, cap, cur, hv, hg, rest⟩
  · exact .inl hn
  · exact .inr ⟨g, cap, cur, hv, by omega, rest⟩
end

/-- A slice literal. -/
theorem Sl_lit (w : World) (X : Nat → Prop) (t : TypeId) (l : List UInt8) {cs : Array Value} {n : Nat} (hc : cs = (BVs l).toArray) (hn : n = l.length) (h63 : n ≤ 65536) (hX : ¬ X w.heap.size) : Sl (w.alloc (.cells cs t)) X 1 (.slice (some ⟨w.heap.size, 0, none⟩) n n) n (BVs l) := by
  subst hc; subst hn
  refine ⟨_, _, rfl, by simp [BVs_len], Nat.le_refl _, by simp only [maxLen]; omega, fun _ => ⟨_, rfl, by simp, hX, fun j u hu => ?_⟩⟩
  have ha : (⟨w.heap.size, 0, none⟩ : Addr).add j = ⟨w.heap.size, j, none⟩ := by unfold Addr.add; split <;> simp_all
  rw [ha, Blk.cell (Blk.new w t _) j]
  simpa using hu

end Go.Proofs.YtjjfhbbaabakmaaGreatDoor.Ck
