/-
  The plain mathematics of layer 8 (request): which requests, signatures and batches may be, their bytes, and what is read of bytes; there and back. No program is named here.
-/
import Derived.Test.YtebjjkhiniccgaaGreatPp
namespace Go.Proofs.YtebjjkhiniccgaaGreat.Jm
set_option linter.unusedSimpArgs false
open Cm Pm Pk Pp
set_option linter.unusedVariables false

/-- A request. -/
structure Q where
  client : Int
  time : Int
  o : O
deriving DecidableEq
def Q.zero : Q := ⟨0, 0, O.zero⟩
/-- A signed request. -/
structure Sd where
  q : Q
  s : Int × Int
deriving DecidableEq
def Sd.zero : Sd := ⟨Q.zero, (0, 0)⟩
def isC (c : Int) : Bool := decide (0 ≤ c) && decide (c < 8)
def key (c : Int) : Int := if isC c then 13 + c else -1
def qbad (x : Q) : Bool := !isC x.client || decide (x.time < 1) || decide (9007199254740992 < x.time)
def qcheck (x : Q) : Int := if qbad x then 80 else check x.o
def sbad (s : Int × Int) : Bool := decide (s.1 < 0) || decide (21 ≤ s.1) || decide (s.2 < 1) || decide (9007199254740992 < s.2)
def scheck (s : Int × Int) : Int := if sbad s then 81 else 0
def dcheck (x : Sd) : Int := if qcheck x.q ≠ 0 then qcheck x.q else scheck x.s
def lcheck : List Sd → Int
  | [] => 0
  | x :: l => if dcheck x ≠ 0 then dcheck x else lcheck l
def mom (x : Sd) : Int × Int := (x.q.client, x.q.time)
/-- Does one of the first j have the moment of x? -/
def hasM (l : List Sd) (x : Sd) : Bool := l.any fun y => mom x == mom y
/-- Does a moment stand twice, behind the first ones? -/
def twI : List Sd → List Sd → Bool
  | _, [] => false
  | p, x :: l => hasM p x || twI (p ++ [x]) l
def twice (l : List Sd) : Bool := twI [] l
def bcheck (l : List Sd) : Int := if 4 < l.length then 3 else if lcheck l ≠ 0 then lcheck l else if twice l then 5 else 0

def qraw (x : Q) : Tx := enc x.client.toNat ++ (enc x.time.toNat ++ raw x.o)
def qform (x : Q) : Tx := if qcheck x ≠ 0 then [] else qraw x
def qparse (b : Tx) : Q × Int :=
  if doneS (take (numS (numS (b, 0) 7).2 9007199254740992).2).2 ≠ 0 then (Q.zero, doneS (take (numS (numS (b, 0) 7).2 9007199254740992).2).2)
  else if (numS (numS (b, 0) 7).2 9007199254740992).1 = 0 then (Q.zero, 80)
  else (⟨(numS (b, 0) 7).1, (numS (numS (b, 0) 7).2 9007199254740992).1, (take (numS (numS (b, 0) 7).2 9007199254740992).2).1⟩, 0)
def sraw (s : Int × Int) : Tx := enc s.1.toNat ++ enc s.2.toNat
def sform (s : Int × Int) : Tx := if scheck s ≠ 0 then [] else sraw s
def tsS (s : RS) : RS := if (numS (numS s 20).2 9007199254740992).1 = 0 then failS (numS (numS s 20).2 9007199254740992).2 81 else (numS (numS s 20).2 9007199254740992).2
def tsign (s : RS) : (Int × Int) × RS := if (tsS s).2 ≠ 0 then ((0, 0), tsS s) else (((numS s 20).1, (numS (numS s 20).2 9007199254740992).1), tsS s)
def dB (x : Sd) : Tx := encB (qraw x.q) ++ sraw x.s
def braw (l : List Sd) : Tx := enc l.length ++ l.flatMap dB
def bform (l : List Sd) : Tx := if bcheck l ≠ 0 then [] else braw l
def tsd (s : RS) : Sd × RS := (⟨(qparse (bytesS s 1024).1).1, (tsign (failS (bytesS s 1024).2 (qparse (bytesS s 1024).1).2)).1⟩, (tsign (failS (bytesS s 1024).2 (qparse (bytesS s 1024).1).2)).2)
def tl : Nat → RS → List Sd → List Sd × RS
  | 0, s, acc => (acc, s)
  | n + 1, s, acc => tl n (tsd s).2 (acc ++ [(tsd s).1])
def tbatchE (r : List Sd × RS) : List Sd × RS := if (failS r.2 (bcheck r.1)).2 ≠ 0 then ([], failS r.2 (bcheck r.1)) else (r.1, failS r.2 (bcheck r.1))
def tbatch (s : RS) : List Sd × RS := tbatchE (tl (numS s 4).1 (numS s 4).2 [])

theorem isC_iff (c : Int) : isC c = true ↔ 0 ≤ c ∧ c < 8 := by simp [isC]
theorem qcheck_ok {x : Q} (h : qcheck x = 0) : (0 ≤ x.client ∧ x.client < 8) ∧ (1 ≤ x.time ∧ x.time ≤ 9007199254740992) ∧ check x.o = 0 := by
  unfold qcheck at h
  split at h
  · cases h
  · rename_i h1
    simp only [qbad, Bool.or_eq_true, Bool.not_eq_true', decide_eq_true_eq, not_or, Bool.not_eq_false] at h1
    have := (isC_iff _).1 h1.1.1
    exact ⟨this, ⟨by omega, by omega⟩, h⟩
theorem scheck_ok {s : Int × Int} (h : scheck s = 0) : (0 ≤ s.1 ∧ s.1 < 21) ∧ (1 ≤ s.2 ∧ s.2 ≤ 9007199254740992) := by
  unfold scheck at h
  split at h
  · cases h
  · rename_i h1
    simp only [sbad, Bool.or_eq_true, decide_eq_true_eq, not_or] at h1
    omega
theorem dcheck_ok {x : Sd} (h : dcheck x = 0) : qcheck x.q = 0 ∧ scheck x.s = 0 := by
  unfold dcheck at h
  split at h
  · rename_i h1; exact absurd h h1
  · rename_i h1; exact ⟨by simpa using h1, h⟩
theorem lcheck_ok : ∀ {l : List Sd}, lcheck l = 0 → ∀ x ∈ l, dcheck x = 0
  | [], _, x, hx => absurd hx (by simp)
  | y :: l, h, x, hx => by
    unfold lcheck at h
    split at h
    · rename_i h1; exact absurd h h1
    · rename_i h1
      rcases List.mem_cons.1 hx with rfl | hx
      · simpa using h1
      · exact lcheck_ok h x hx
theorem lcheck_drop {l : List Sd} {k : Nat} (hk : k < l.length) : lcheck (l.drop k) = if dcheck l[k] ≠ 0 then dcheck l[k] else lcheck (l.drop (k + 1)) := by
  rw [List.drop_eq_getElem_cons hk, lcheck]
theorem lcheck_of {l : List Sd} (h : ∀ x ∈ l, dcheck x = 0) : lcheck l = 0 := by
  induction l with
  | nil => rfl
  | cons x l ih =>
    rw [lcheck, if_neg (by rw [h x List.mem_cons_self]; simp)]
    exact ih fun y hy => h y (List.mem_cons_of_mem _ hy)
theorem bcheck_ok {l : List Sd} (h : bcheck l = 0) : l.length ≤ 4 ∧ (∀ x ∈ l, qcheck x.q = 0 ∧ scheck x.s = 0) ∧ twice l = false := by
  unfold bcheck at h
  split at h
  · cases h
  · rename_i h1
    split at h
    · rename_i h2; exact absurd h h2
    · rename_i h2
      split at h
      · cases h
      · rename_i h3
        exact ⟨by omega, fun x hx => dcheck_ok (lcheck_ok (by simpa using h2) x hx), by simpa using h3⟩
theorem hasM_take {l : List Sd} {x : Sd} {k : Nat} (hk : k < l.length) : hasM (l.take (k + 1)) x = (hasM (l.take k) x || (mom x == mom l[k])) := by
  rw [List.take_succ_eq_append_getElem hk, hasM, hasM, List.any_append]
  simp
theorem twI_step {l : List Sd} {i : Nat} (hi : i < l.length) : twI (l.take i) (l.drop i) = (hasM (l.take i) l[i] || twI (l.take (i + 1)) (l.drop (i + 1))) := by
  rw [List.drop_eq_getElem_cons hi, twI, List.take_succ_eq_append_getElem hi]

theorem enc_pow : ∀ (k n : Nat), k ≤ 8 → n < 128 ^ (k + 1) → (enc n).length ≤ k + 1
  | 0, n, _, h => by rw [enc_small (by simpa using h)]; simp
  | k + 1, n, hk, h => by
    by_cases hn : n < 128
    · rw [enc_small hn]; simp
    · have hp : 128 ^ (k + 1 + 1) ≤ 128 ^ 9 := Nat.pow_le_pow_right (by omega) (by omega)
      rw [enc_big (by omega) (by have : 128 ^ 9 = 9223372036854775808 := by decide
                                 omega)]
      have h2 : n / 128 < 128 ^ (k + 1) := by rw [Nat.pow_succ] at h; omega
      have := enc_pow k (n / 128) (by omega) h2
      simp only [List.length_cons]; omega
theorem enc_1 {n : Nat} (h : n < 128) : (enc n).length = 1 := by rw [enc_small h]; rfl
theorem enc_2 {n : Nat} (h : n < 16384) : (enc n).length ≤ 2 := enc_pow 1 n (by omega) (by simpa using h)
theorem enc_8 {n : Nat} (h : n ≤ 9007199254740992) : (enc n).length ≤ 8 := enc_pow 7 n (by omega) (Nat.lt_of_le_of_lt h (by decide))
theorem qraw_len {x : Q} (h : qcheck x = 0) : (qraw x).length ≤ 1009 := by
  obtain ⟨h0, h1, h2⟩ := qcheck_ok h
  have h1' := raw_len h2
  have h2' := enc_1 (n := x.client.toNat) (by omega)
  have h3 := enc_8 (n := x.time.toNat) (by omega)
  simp only [qraw, List.length_append]
  omega
theorem qform_len (x : Q) : (qform x).length ≤ 1009 := by
  unfold qform
  split
  · simp
  · rename_i h; exact qraw_len (by simpa using h)
theorem qform_eq {x : Q} (h : qcheck x = 0) : qform x = qraw x := by rw [qform, if_neg (by omega)]
theorem sraw_len {s : Int × Int} (h : scheck s = 0) : (sraw s).length ≤ 9 := by
  obtain ⟨h1, h2⟩ := scheck_ok h
  have h2 := enc_1 (n := s.1.toNat) (by omega)
  have h3 := enc_8 (n := s.2.toNat) (by omega)
  simp only [sraw, List.length_append]
  omega
theorem sform_len (s : Int × Int) : (sform s).length ≤ 9 := by
  unfold sform
  split
  · simp
  · rename_i h; exact sraw_len (by simpa using h)
theorem sform_eq {s : Int × Int} (h : scheck s = 0) : sform s = sraw s := by rw [sform, if_neg (by omega)]
theorem dB_len {x : Sd} (h : qcheck x.q = 0) (hs : scheck x.s = 0) : (dB x).length ≤ 1020 := by
  have h1 := qraw_len h
  have h2 := sraw_len hs
  have h3 := enc_2 (n := (qraw x.q).length) (by omega)
  simp only [dB, encB, List.length_append]
  omega
theorem flat_dB : ∀ {l : List Sd}, (∀ x ∈ l, qcheck x.q = 0 ∧ scheck x.s = 0) → (l.flatMap dB).length ≤ 1020 * l.length
  | [], _ => by simp
  | x :: l, h => by
    have h0 := h x List.mem_cons_self
    have h1 := dB_len h0.1 h0.2
    have h2 := flat_dB fun y hy => h y (List.mem_cons_of_mem x hy)
    simp only [List.flatMap_cons, List.length_append, List.length_cons]
    omega
theorem braw_len {l : List Sd} (h : bcheck l = 0) : (braw l).length ≤ 4081 := by
  obtain ⟨h1, h2, _⟩ := bcheck_ok h
  have h3 := flat_dB h2
  have h4 := enc_1 (n := l.length) (by omega)
  simp only [braw, List.length_append]
  omega
theorem bform_len (l : List Sd) : (bform l).length ≤ 4081 := by
  unfold bform
  split
  · simp
  · rename_i h; exact braw_len (by simpa using h)
theorem bform_eq {l : List Sd} (h : bcheck l = 0) : bform l = braw l := by rw [bform, if_neg (by omega)]

/-! There and back. -/
theorem done_nil : doneS ([], 0) = 0 := rfl
theorem qparse_raw {x : Q} (h : qcheck x = 0) : qparse (qraw x) = (x, 0) := by
  obtain ⟨h1, h2, h3⟩ := qcheck_ok h
  have e1 : numS (qraw x, 0) 7 = (x.client.toNat, (enc x.time.toNat ++ raw x.o, 0)) := numS_enc (by omega) (by omega) _
  have e2 : numS (enc x.time.toNat ++ raw x.o, 0) 9007199254740992 = (x.time.toNat, (raw x.o, 0)) := numS_enc (by omega) (by omega) _
  have e3 : take (raw x.o, 0) = (x.o, ([], 0)) := by have := take_raw h3 []; rwa [List.append_nil] at this
  unfold qparse
  rw [e1]
  simp only
  rw [e2]
  simp only
  rw [e3]
  simp only [done_nil]
  rw [if_neg (by simp), if_neg (by omega)]
  have c1 : ((x.client.toNat : Nat) : Int) = x.client := Int.toNat_of_nonneg h1.1
  have c2 : ((x.time.toNat : Nat) : Int) = x.time := Int.toNat_of_nonneg (by omega)
  rw [c1, c2]
theorem qraw_inj {x y : Q} (hx : qcheck x = 0) (hy : qcheck y = 0) (h : qraw x = qraw y) : x = y := by
  have h1 := qparse_raw hx
  rw [h, qparse_raw hy] at h1
  exact (Prod.mk.inj h1).1.symm
theorem numS_one {b : Tx} {m : Nat} (h : (numS (b, 0) m).2.2 = 0) : ∃ r, numS (b, 0) m = ((numS (b, 0) m).1, (r, 0)) ∧ b = enc (numS (b, 0) m).1 ++ r ∧ (numS (b, 0) m).1 ≤ m := by
  obtain ⟨_, h1, h2, h3⟩ := numS_ok h
  obtain ⟨hv, hj, _, _⟩ := pn_one0 (v := (pn b 0 0).1) (j := (pn b 0 0).2.1) (by simp only at h1; exact Prod.ext rfl (Prod.ext rfl h1))
  simp only at h1 h2 h3 hv hj
  rw [h3]
  simp only
  refine ⟨b.drop (pn b 0 0).2.1, rfl, ?_, h2⟩
  rw [← hv, List.take_append_drop]
theorem tk_zero {s : RS} (h : (take s).2.2 = 0) : s.2 = 0 := by
  by_cases hs : s.2 = 0
  · exact hs
  · exfalso
    apply hs
    have e : (rd s).2 = s := by
      unfold rd
      simp only [numS_err hs, rdT_err hs, rdG_err hs, rdO_err hs, rdR_err hs]
    have hf : ∀ z, failS s z = s := fun z => by rw [failS, if_pos hs]
    unfold take at h
    rw [e, hf, if_pos hs] at h
    exact h
theorem numS_zero {s : RS} {m : Nat} (h : (numS s m).2.2 = 0) : s.2 = 0 := (numS_ok h).1
theorem done_zero {s : RS} (h : doneS s = 0) : s = ([], 0) := by
  obtain ⟨l, e⟩ := s
  unfold doneS at h
  simp only at h
  split at h
  · cases h
  · rename_i h1
    subst h
    simp only [true_and, ne_eq, Decidable.not_not] at h1
    rw [h1]
theorem qparse_one {b : Tx} {x : Q} (h : qparse b = (x, 0)) : qcheck x = 0 ∧ b = qraw x := by
  unfold qparse at h
  split at h
  · rename_i h1; exact absurd (Prod.mk.inj h).2 h1
  · rename_i h1
    split at h
    · exact absurd (Prod.mk.inj h).2 (by decide)
    · rename_i h2
      have h1 : doneS (take (numS (numS (b, 0) 7).2 9007199254740992).2).2 = 0 := by simpa using h1
      have d := done_zero h1
      have t0 : (take (numS (numS (b, 0) 7).2 9007199254740992).2).2.2 = 0 := by rw [d]
      have n0 := tk_zero t0
      have m0 := numS_zero n0
      obtain ⟨r1, e1, f1, l1⟩ := numS_one m0
      rw [e1] at n0 h h2 t0 d
      simp only at n0 h h2 t0 d
      obtain ⟨r2, e2, f2, l2⟩ := numS_one n0
      rw [e2] at t0 h d h2
      simp only at t0 h d h2
      obtain ⟨hc, r3, e3, f3⟩ := take_one t0
      rw [e3] at d
      have hr3 : r3 = [] := (Prod.mk.inj d).1
      subst hr3
      rw [List.append_nil] at f3
      have hx := (Prod.mk.inj h).1
      subst hx
      refine ⟨?_, ?_⟩
      · unfold qcheck
        rw [if_neg]
        · exact hc
        · simp only [qbad, Bool.or_eq_true, Bool.not_eq_true', decide_eq_true_eq, not_or, Bool.not_eq_false]
          refine ⟨⟨(isC_iff _).2 ⟨by omega, by omega⟩, by omega⟩, by omega⟩
      · unfold qraw
        simp only [Int.toNat_natCast]
        rw [← f3, ← f2, ← f1]
theorem tsign_raw {s : Int × Int} (h : scheck s = 0) (r : Tx) : tsign (sraw s ++ r, 0) = (s, (r, 0)) := by
  obtain ⟨h1, h2⟩ := scheck_ok h
  have e1 : numS (sraw s ++ r, 0) 20 = (s.1.toNat, (enc s.2.toNat ++ r, 0)) := by
    rw [sraw, List.append_assoc]
    exact numS_enc (by omega) (by omega) _
  have e2 : numS (enc s.2.toNat ++ r, 0) 9007199254740992 = (s.2.toNat, (r, 0)) := numS_enc (by omega) (by omega) _
  have e3 : tsS (sraw s ++ r, 0) = (r, 0) := by
    unfold tsS
    rw [e1]
    simp only
    rw [e2]
    simp only
    rw [if_neg (by omega)]
  unfold tsign
  rw [e3, if_neg (by simp), e1]
  simp only
  rw [e2]
  simp only
  rw [Int.toNat_of_nonneg h1.1, Int.toNat_of_nonneg (by omega)]
theorem tsign_le (s : RS) : (tsign s).1.1 ≤ 20 ∧ 0 ≤ (tsign s).1.1 ∧ (tsign s).1.2 ≤ 9007199254740992 ∧ 0 ≤ (tsign s).1.2 := by
  have h1 := numS_le s 20
  have h2 := numS_le (numS s 20).2 9007199254740992
  unfold tsign
  split <;> simp only <;> omega
theorem tsS_zero {s : RS} (h : (tsS s).2 = 0) : (numS (numS s 20).2 9007199254740992).2.2 = 0 ∧ (numS (numS s 20).2 9007199254740992).1 ≠ 0 ∧ tsS s = (numS (numS s 20).2 9007199254740992).2 := by
  by_cases h0 : (numS (numS s 20).2 9007199254740992).1 = 0
  · unfold tsS at h
    rw [if_pos h0] at h
    exact absurd (failS_zero h).2.1 (by decide)
  · unfold tsS at h ⊢
    rw [if_neg h0] at h ⊢
    exact ⟨h, h0, rfl⟩
theorem tsign_zero {s : RS} (h : (tsign s).2.2 = 0) : (tsS s).2 = 0 ∧ tsign s = ((((numS s 20).1 : Int), ((numS (numS s 20).2 9007199254740992).1 : Int)), tsS s) := by
  unfold tsign at h ⊢
  split at h
  · rename_i h1; exact absurd h h1
  · rename_i h1
    exact ⟨h, by rw [if_neg h1]⟩
theorem tsign_one {b : Tx} (h : (tsign (b, 0)).2.2 = 0) : scheck (tsign (b, 0)).1 = 0 ∧ ∃ r, (tsign (b, 0)).2 = (r, 0) ∧ b = sraw (tsign (b, 0)).1 ++ r := by
  obtain ⟨h1, h2⟩ := tsign_zero h
  obtain ⟨n0, nz, h3⟩ := tsS_zero h1
  rw [h2, h3]
  have m0 := numS_zero n0
  obtain ⟨r1, e1, f1, l1⟩ := numS_one m0
  generalize hk : (numS (b, 0) 20).1 = k at *
  rw [e1] at n0 nz ⊢
  simp only at n0 nz ⊢
  obtain ⟨r2, e2, f2, l2⟩ := numS_one n0
  generalize hd : (numS (r1, 0) 9007199254740992).1 = d at *
  rw [e2]
  simp only
  refine ⟨?_, r2, rfl, ?_⟩
  · unfold scheck
    rw [if_neg]
    simp only [sbad, Bool.or_eq_true, decide_eq_true_eq, not_or]
    omega
  · unfold sraw
    simp only [Int.toNat_natCast]
    rw [List.append_assoc, ← f2, ← f1]
theorem tsd_raw {x : Sd} (hq : qcheck x.q = 0) (hs : scheck x.s = 0) (r : Tx) : tsd (dB x ++ r, 0) = (x, (r, 0)) := by
  have hl := qraw_len hq
  have e1 : bytesS (dB x ++ r, 0) 1024 = (qraw x.q, (sraw x.s ++ r, 0)) := by
    rw [dB, List.append_assoc]
    exact bytesS_enc (by omega) (by omega) _
  unfold tsd
  rw [e1]
  simp only
  rw [qparse_raw hq]
  simp only
  have e2 : failS (sraw x.s ++ r, 0) 0 = (sraw x.s ++ r, 0) := by simp [failS]
  rw [e2, tsign_raw hs]
theorem tl_raw : ∀ (l : List Sd) (acc : List Sd) (r : Tx), (∀ x ∈ l, qcheck x.q = 0 ∧ scheck x.s = 0) → tl l.length (l.flatMap dB ++ r, 0) acc = (acc ++ l, (r, 0))
  | [], acc, r, _ => by simp [tl]
  | x :: l, acc, r, h => by
    have h0 := h x List.mem_cons_self
    rw [List.length_cons, tl, List.flatMap_cons, List.append_assoc, tsd_raw h0.1 h0.2]
    simp only
    rw [tl_raw l _ r (fun y hy => h y (List.mem_cons_of_mem _ hy)), List.append_assoc]
    rfl
theorem tbatch_raw {l : List Sd} (h : bcheck l = 0) (r : Tx) : tbatch (braw l ++ r, 0) = (l, (r, 0)) := by
  obtain ⟨h1, h2, _⟩ := bcheck_ok h
  have e1 : numS (braw l ++ r, 0) 4 = (l.length, (l.flatMap dB ++ r, 0)) := by
    rw [braw, List.append_assoc]
    exact numS_enc (by omega) (by omega) _
  have e2 : failS (r, 0) (0 : Int) = (r, 0) := by simp [failS]
  unfold tbatch
  rw [e1]
  simp only
  rw [tl_raw l [] r h2, List.nil_append, tbatchE]
  simp only
  rw [h, e2, if_neg (by simp)]
theorem braw_inj {a b : List Sd} (ha : bcheck a = 0) (hb : bcheck b = 0) (h : braw a = braw b) : a = b := by
  have h1 := tbatch_raw ha []
  rw [h, tbatch_raw hb []] at h1
  exact (Prod.mk.inj h1).1.symm
theorem failS_err {s : RS} (h : s.2 ≠ 0) (e : Int) : failS s e = s := by rw [failS, if_pos h]
theorem tsS_err {s : RS} (h : s.2 ≠ 0) : tsS s = s := by
  unfold tsS
  rw [numS_err h]
  simp only
  rw [numS_err h]
  simp only
  rw [failS_err h]
  simp
theorem tsign_err {s : RS} (h : s.2 ≠ 0) : tsign s = ((0, 0), s) := by rw [tsign, tsS_err h, if_pos h]
/-- With an error behind the bytes the rest changes nothing. -/
theorem tsd_mid {s : RS} (h : (bytesS s 1024).2.2 ≠ 0) : (tsd s).2 = (bytesS s 1024).2 := by
  unfold tsd
  simp only
  rw [failS_err h, tsign_err h]
theorem tsd_err {s : RS} (h : s.2 ≠ 0) : (tsd s).2 = s := by
  have e := bytesS_err (m := 1024) h
  rw [tsd_mid (by rw [e]; exact h), e]
theorem tl_err : ∀ (n : Nat) (s : RS) (acc : List Sd), s.2 ≠ 0 → (tl n s acc).2 = s
  | 0, s, acc, _ => rfl
  | n + 1, s, acc, h => by
    rw [tl]
    have e := tsd_err h
    rw [e]
    exact tl_err n s _ h
theorem tbatchE_err {r : List Sd × RS} (h : r.2.2 ≠ 0) : tbatchE r = ([], r.2) := by rw [tbatchE, failS_err h, if_pos h]
theorem tl_zero : ∀ {n : Nat} {s : RS} {acc : List Sd}, (tl n s acc).2.2 = 0 → s.2 = 0
  | n, s, acc, h => by
    by_cases hs : s.2 = 0
    · exact hs
    · rw [tl_err n s acc hs] at h; exact h
theorem tl_len : ∀ (n : Nat) (s : RS) (acc : List Sd), (tl n s acc).1.length = acc.length + n
  | 0, s, acc => rfl
  | n + 1, s, acc => by rw [tl, tl_len n]; simp; omega
theorem tsd_one {b : Tx} (h : (tsd (b, 0)).2.2 = 0) : ∃ r, (tsd (b, 0)).2 = (r, 0) ∧ b = dB (tsd (b, 0)).1 ++ r ∧ qcheck (tsd (b, 0)).1.q = 0 ∧ scheck (tsd (b, 0)).1.s = 0 := by
  by_cases h1 : (bytesS (b, 0) 1024).2.2 = 0
  · obtain ⟨x, r, e1, f1⟩ := bytesS_one h1
    unfold tsd at h ⊢
    rw [e1] at h ⊢
    simp only at h ⊢
    by_cases h2 : (qparse x).2 = 0
    · have hq : qparse x = ((qparse x).1, 0) := Prod.ext rfl h2
      obtain ⟨q1, q2⟩ := qparse_one hq
      have e2 : failS (r, 0) (qparse x).2 = (r, 0) := by rw [h2]; simp [failS]
      rw [e2] at h ⊢
      obtain ⟨s1, r', e3, f3⟩ := tsign_one h
      exact ⟨r', e3, by rw [dB]; simp only; rw [← q2, List.append_assoc, ← f3, ← f1], q1, s1⟩
    · exfalso
      have e2 : (failS (r, 0) (qparse x).2).2 ≠ 0 := by simp [failS, h2]
      rw [tsign_err e2] at h
      exact e2 h
  · rw [tsd_mid h1] at h
    exact absurd h h1
theorem tl_one : ∀ (n : Nat) (b : Tx) (acc : List Sd), (tl n (b, 0) acc).2.2 = 0 → ∃ l r, tl n (b, 0) acc = (acc ++ l, (r, 0)) ∧ l.length = n ∧ b = l.flatMap dB ++ r ∧ ∀ x ∈ l, qcheck x.q = 0 ∧ scheck x.s = 0
  | 0, b, acc, h => ⟨[], b, by simp [tl], rfl, by simp, fun x hx => absurd hx (by simp)⟩
  | n + 1, b, acc, h => by
    rw [tl] at h
    have h0 := tl_zero h
    obtain ⟨r, e, f, g1, g2⟩ := tsd_one h0
    rw [e] at h
    obtain ⟨l, r', e2, hl, f2, hx⟩ := tl_one n r _ h
    refine ⟨(tsd (b, 0)).1 :: l, r', by rw [tl, e, e2, List.append_assoc]; rfl, by rw [List.length_cons, hl], by rw [List.flatMap_cons, List.append_assoc, ← f2, ← f], fun x hx2 => ?_⟩
    rcases List.mem_cons.1 hx2 with rfl | h3
    · exact ⟨g1, g2⟩
    · exact hx x h3
theorem tbatchE_zero {r : List Sd × RS} (h : (tbatchE r).2.2 = 0) : r.2.2 = 0 ∧ bcheck r.1 = 0 ∧ tbatchE r = r := by
  unfold tbatchE at h ⊢
  split at h
  · rename_i h1; exact absurd h h1
  · rename_i h1
    obtain ⟨a, b, c⟩ := failS_zero h
    exact ⟨a, b, by rw [if_neg h1, c]⟩
theorem tbatch_one {b : Tx} (h : (tbatch (b, 0)).2.2 = 0) : bcheck (tbatch (b, 0)).1 = 0 ∧ ∃ r, (tbatch (b, 0)).2 = (r, 0) ∧ b = braw (tbatch (b, 0)).1 ++ r := by
  unfold tbatch at h ⊢
  obtain ⟨h1, h2, h3⟩ := tbatchE_zero h
  rw [h3]
  have n0 := tl_zero h1
  obtain ⟨r1, e1, f1, l1⟩ := numS_one n0
  generalize hk : (numS (b, 0) 4).1 = k at *
  rw [e1] at h1 h2 ⊢
  simp only at h1 h2 ⊢
  obtain ⟨l, r, e2, hl, f2, hx⟩ := tl_one k r1 [] h1
  rw [e2, List.nil_append] at h2 ⊢
  exact ⟨h2, r, rfl, by simp only [braw]; rw [hl, List.append_assoc, ← f2, ← f1]⟩
/-- A list's lengths. -/
theorem qparse_recs (b : Tx) : (qparse b).1.o.recs.length ≤ 4 := by
  unfold qparse
  split
  · simp [Q.zero, O.zero]
  · split
    · simp [Q.zero, O.zero]
    · exact take_recs _

end Go.Proofs.YtebjjkhiniccgaaGreat.Jm
