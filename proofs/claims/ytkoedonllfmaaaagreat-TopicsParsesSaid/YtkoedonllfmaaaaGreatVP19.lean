/-
  The plain mathematics of layer 7 (topics): how the program reads topics, failing as it goes, and that it comes to what the document reads.
-/
import Derived.Test.YtkoedonllfmaaaaGreatVP04
import Derived.Test.YtkoedonllfmaaaaGreatVP05
import Derived.Test.YtkoedonllfmaaaaGreatVP14
import Derived.Test.YtkoedonllfmaaaaGreatVP02
import Derived.Laws.StructEq
import Derived.Test.YtkoedonllfmaaaaGreatVP13
namespace Go.Proofs.YtkoedonllfmaaaaGreat.Te
set_option linter.unusedSimpArgs false
open Cm Pm Pz Tm Tn Tq
set_option linter.unusedVariables false

theorem num_err {s : RS} {m : Nat} (h : s.2 ≠ 0) : numS s m = (0, s) := by rw [numS, if_pos h]
theorem take_err {s : RS} {n : Int} (h : s.2 ≠ 0) : takeS s n = ([], s) := by rw [takeS, if_pos h]
theorem bytes_err {s : RS} {m : Int} (h : s.2 ≠ 0) : bytesS s m = ([], s) := by unfold bytesS; rw [num_err h, take_err h]
theorem fail_err {s : RS} {e : Int} (he : e ≠ 0) : (failS s e).2 ≠ 0 := by
  by_cases h : s.2 = 0
  · simp [failS, h, he]
  · unfold failS; rw [if_pos h]; exact h
theorem fail_keep {s : RS} {e : Int} (h : s.2 ≠ 0) : (failS s e).2 ≠ 0 := by unfold failS; rw [if_pos h]; exact h
/-- A number within a less bound; and one that is not. -/
theorem num_mono {s : RS} {m M : Nat} (hm : m ≤ M) (h : (numS s m).2.2 = 0) : numS s M = numS s m := by
  obtain ⟨h0, h1, h2, h3⟩ := numS_ok h
  rw [h3, numS, if_neg (by simpa using h0), if_neg (by simpa using h1), if_neg (by omega)]
theorem num_over {s : RS} {m M : Nat} (h : (numS s m).2.2 ≠ 0) : (numS s M).2.2 ≠ 0 ∨ m < (numS s M).1 := by
  by_cases hM : (numS s M).2.2 = 0
  · obtain ⟨h0, h1, h2, h3⟩ := numS_ok hM
    refine .inr ?_
    rw [h3]
    apply Nat.lt_of_not_le
    intro h4
    apply h
    rw [numS, if_neg (by simpa using h0), if_neg (by simpa using h1), if_neg (by omega)]
  · exact .inl hM
theorem bytes_mono {s : RS} {m M : Int} (h0 : 0 ≤ m) (hm : m ≤ M) (h : (bytesS s m).2.2 = 0) : bytesS s M = bytesS s m := by
  unfold bytesS at h ⊢
  have h1 : (numS s m.toNat).2.2 = 0 := (takeS_ok h).1
  rw [num_mono (by omega) h1]
theorem bytes_over {s : RS} {m M : Int} (h0 : 0 ≤ m) (hm : m ≤ M) (h : (bytesS s m).2.2 ≠ 0) : (bytesS s M).2.2 ≠ 0 ∨ m < ((bytesS s M).1.length : Int) := by
  by_cases hM : (bytesS s M).2.2 = 0
  · refine .inr ?_
    apply Int.lt_of_not_ge
    intro hle
    apply h
    unfold bytesS at hM hle ⊢
    obtain ⟨a0, a1, a2, a3⟩ := takeS_ok hM
    rw [a3] at hle
    simp only [List.length_take] at hle
    by_cases hn : (numS s m.toNat).2.2 = 0
    · rw [← num_mono (M := M.toNat) (by omega) hn]; exact hM
    · rcases num_over (M := M.toNat) hn with q | q
      · exact absurd a0 q
      · omega
  · exact .inl hM

section
variable {α : Type} {f : RS → α × RS}
theorem manyS_app (f : RS → α × RS) : ∀ (n : Nat) (s : RS) (acc : List α), ∃ l, (manyS f n s acc).1 = acc ++ l
  | 0, s, acc => ⟨[], by simp [manyS]⟩
  | n + 1, s, acc => by
    unfold manyS
    split
    · exact ⟨[], by simp⟩
    · obtain ⟨l, h⟩ := manyS_app f n (f s).2 (acc ++ [(f s).1])
      exact ⟨(f s).1 :: l, by rw [h]; simp⟩
theorem manyS_stop {n : Nat} {s : RS} {acc : List α} (h : s.2 ≠ 0) : (manyS f n s acc).2.2 ≠ 0 := by
  cases n with
  | zero => exact h
  | succ n => unfold manyS; rw [if_pos h]; exact h
theorem allS_err (hf : ∀ s, s.2 ≠ 0 → (f s).2.2 ≠ 0) : ∀ (n : Nat) (s : RS) (acc : List α), s.2 ≠ 0 → (allS f n s acc).2.2 ≠ 0
  | 0, s, acc, h => h
  | n + 1, s, acc, h => by unfold allS; exact allS_err hf n _ _ (hf s h)
/-- Reading on behind an error comes to the same, where there is none. -/
theorem all_many (hf : ∀ s, s.2 ≠ 0 → (f s).2.2 ≠ 0) : ∀ (n : Nat) (s : RS) (acc : List α), s.2 = 0 → ((allS f n s acc).2.2 = 0 ∧ manyS f n s acc = allS f n s acc) ∨ ((allS f n s acc).2.2 ≠ 0 ∧ (manyS f n s acc).2.2 ≠ 0)
  | 0, s, acc, h => .inl ⟨h, rfl⟩
  | n + 1, s, acc, h => by
    unfold allS manyS
    rw [if_neg (by simpa using h)]
    by_cases h1 : (f s).2.2 = 0
    · exact all_many hf n _ _ h1
    · exact .inr ⟨allS_err hf n _ _ h1, manyS_stop h1⟩
end

/-- A name that is above the one ahead. -/
def nmQ (a : Tx) (s : RS) : Tx × RS := ((bytesS s 64).1, if (name (bytesS s 64).1 && decide (a < (bytesS s 64).1)) = true then (bytesS s 64).2 else failS (bytesS s 64).2 70)
def gsQ (next : Nat) : Nat → Tx → RS → List Gp → List Gp × RS
  | 0, _, s, acc => (acc, s)
  | n + 1, a, s, acc => gsQ next n (nmQ a s).1 (numS (nmQ a s).2 next).2 (acc ++ [⟨(nmQ a s).1, (numS (nmQ a s).2 next).1⟩])
def rcQ (s : RS) : List Tx × RS := allS (fun r => bytesS r 64) (numS s 64).1 (numS s 64).2 []
def nxQ (b : Nat) (l : List Tx) (s : RS) : RS := if b + l.length ≤ 9007199254740992 then s else failS s 70
def tpQ (n : Tx) (s : RS) : Tp × RS :=
  let b := numS s 9007199254740992
  let l := rcQ b.2
  let c := numS (nxQ b.1 l.1 l.2) 8
  let g := gsQ (b.1 + l.1.length) c.1 [] c.2 []
  (⟨n, b.1, l.1, g.1⟩, g.2)
def tsQ : Nat → Tx → RS → List Tp → List Tp × RS
  | 0, _, s, acc => (acc, s)
  | n + 1, a, s, acc => tsQ n (nmQ a s).1 (tpQ (nmQ a s).1 (nmQ a s).2).2 (acc ++ [(tpQ (nmQ a s).1 (nmQ a s).2).1])
def anR (s : RS) : An × RS :=
  let t := numS s 9007199254740992
  let e := numS t.2 65536
  let f := numS e.2 9007199254740992
  (⟨t.1, e.1, f.1⟩, f.2)
def anQ (s : RS) : An × RS :=
  let x : An := if (anR s).2.2 = 0 then (anR s).1 else ⟨(anR s).1.time, 0, 0⟩
  (x, if okA x = true then (anR s).2 else failS (anR s).2 70)
def stQ (s : RS) : St × RS :=
  let l := tsQ (numS s 8).1 [] (numS s 8).2 []
  let a := allS anQ 8 l.2 []
  (⟨l.1, a.1⟩, a.2)

theorem nmQ_err {a : Tx} {s : RS} (h : s.2 ≠ 0) : (nmQ a s).2.2 ≠ 0 := by
  unfold nmQ
  rw [bytes_err h]
  simp only
  split
  · exact h
  · exact fail_keep h
/-- The name. -/
theorem nmQ_rel (a : Tx) (s : RS) : ((nmQ a s).2.2 = 0 ∧ nmQ a s = bytesS s 1024 ∧ name (bytesS s 1024).1 = true ∧ a < (bytesS s 1024).1) ∨ ((nmQ a s).2.2 ≠ 0 ∧ ((bytesS s 1024).2.2 ≠ 0 ∨ name (bytesS s 1024).1 = false ∨ ¬ a < (bytesS s 1024).1)) := by
  by_cases h : (bytesS s 64).2.2 = 0
  · rw [bytes_mono (m := 64) (M := 1024) (by decide) (by decide) h]
    unfold nmQ
    by_cases hk : (name (bytesS s 64).1 && decide (a < (bytesS s 64).1)) = true
    · rw [if_pos hk]
      simp only [Bool.and_eq_true, decide_eq_true_eq] at hk
      exact .inl ⟨h, rfl, hk.1, hk.2⟩
    · rw [if_neg hk]
      refine .inr ⟨fail_err (by decide), .inr ?_⟩
      simp only [Bool.and_eq_true, decide_eq_true_eq, not_and] at hk
      cases hn : name (bytesS s 64).1 with
      | false => exact .inl rfl
      | true => exact .inr (hk hn)
  · refine .inr ⟨?_, ?_⟩
    · unfold nmQ
      simp only
      split
      · exact h
      · exact fail_keep h
    · rcases bytes_over (m := 64) (M := 1024) (by decide) (by decide) h with q | q
      · exact .inl q
      · refine .inr (.inl ?_)
        cases hn : name (bytesS s 1024).1 with
        | false => rfl
        | true => have := (name_len hn).1; omega
theorem gsQ_err {next : Nat} : ∀ (n : Nat) (a : Tx) (s : RS) (acc : List Gp), s.2 ≠ 0 → (gsQ next n a s acc).2.2 ≠ 0
  | 0, a, s, acc, h => h
  | n + 1, a, s, acc, h => by
    unfold gsQ
    have h1 := nmQ_err (a := a) h
    rw [num_err h1]
    exact gsQ_err n _ _ _ h1
/-- The groups. -/
theorem gsQ_rel (next : Nat) (hN : next ≤ 9007199254740992) : ∀ (n : Nat) (a : Tx) (s : RS) (acc : List Gp), s.2 = 0 → ∃ l, (manyS gpS n s acc).1 = acc ++ l ∧
    (((gsQ next n a s acc).2.2 = 0 ∧ gsQ next n a s acc = manyS gpS n s acc ∧ okGs next a l = true) ∨ ((gsQ next n a s acc).2.2 ≠ 0 ∧ ((manyS gpS n s acc).2.2 ≠ 0 ∨ okGs next a l = false)))
  | 0, a, s, acc, h => ⟨[], by simp [manyS], .inl ⟨h, rfl, rfl⟩⟩
  | n + 1, a, s, acc, h => by
    have e1 : manyS gpS (n + 1) s acc = manyS gpS n (gpS s).2 (acc ++ [(gpS s).1]) := by rw [manyS, if_neg (by simpa using h)]
    have e2 : gsQ next (n + 1) a s acc = gsQ next n (nmQ a s).1 (numS (nmQ a s).2 next).2 (acc ++ [⟨(nmQ a s).1, (numS (nmQ a s).2 next).1⟩]) := rfl
    rw [e1, e2]
    -- whatever comes behind an element that is bad
    have bad : (numS (nmQ a s).2 next).2.2 ≠ 0 → ((gpS s).2.2 ≠ 0 ∨ (name (gpS s).1.n && decide (a < (gpS s).1.n) && decide ((gpS s).1.pos ≤ next)) = false) → ∃ l, (manyS gpS n (gpS s).2 (acc ++ [(gpS s).1])).1 = acc ++ l ∧
        (((gsQ next n (nmQ a s).1 (numS (nmQ a s).2 next).2 (acc ++ [⟨(nmQ a s).1, (numS (nmQ a s).2 next).1⟩])).2.2 = 0 ∧ gsQ next n (nmQ a s).1 (numS (nmQ a s).2 next).2 (acc ++ [⟨(nmQ a s).1, (numS (nmQ a s).2 next).1⟩]) = manyS gpS n (gpS s).2 (acc ++ [(gpS s).1]) ∧ okGs next a l = true) ∨ ((gsQ next n (nmQ a s).1 (numS (nmQ a s).2 next).2 (acc ++ [⟨(nmQ a s).1, (numS (nmQ a s).2 next).1⟩])).2.2 ≠ 0 ∧ ((manyS gpS n (gpS s).2 (acc ++ [(gpS s).1])).2.2 ≠ 0 ∨ okGs next a l = false))) := by
      intro hb hd
      obtain ⟨l, hl⟩ := manyS_app gpS n (gpS s).2 (acc ++ [(gpS s).1])
      refine ⟨(gpS s).1 :: l, by rw [hl]; simp, .inr ⟨gsQ_err _ _ _ _ hb, ?_⟩⟩
      rcases hd with hd | hd
      · exact .inl (manyS_stop hd)
      · exact .inr (by rw [okGs, hd]; rfl)
    rcases nmQ_rel a s with ⟨h1, h2, h3, h4⟩ | ⟨h1, h2⟩
    · by_cases hk : (numS (nmQ a s).2 next).2.2 = 0
      · have h5 : numS (bytesS s 1024).2 9007199254740992 = numS (nmQ a s).2 next := by rw [← h2]; exact num_mono hN hk
        have h6 : (gpS s).2 = (numS (nmQ a s).2 next).2 := by simp only [gpS]; rw [h5]
        have h7 : (gpS s).1 = ⟨(nmQ a s).1, (numS (nmQ a s).2 next).1⟩ := by simp only [gpS]; rw [h5, h2]
        have h8 := numS_le (nmQ a s).2 next
        rw [h6, h7]
        obtain ⟨l, hl, hr⟩ := gsQ_rel next hN n (nmQ a s).1 (numS (nmQ a s).2 next).2 (acc ++ [⟨(nmQ a s).1, (numS (nmQ a s).2 next).1⟩]) hk
        have ho : okGs next a (⟨(nmQ a s).1, (numS (nmQ a s).2 next).1⟩ :: l) = okGs next (nmQ a s).1 l := by
          rw [okGs]
          simp only [h2, h3, h4, decide_true, Bool.true_and]
          rw [← h2]
          have : decide (((numS (nmQ a s).2 next).1 : Int) ≤ (next : Int)) = true := by simpa using h8
          rw [this, Bool.true_and]
        refine ⟨⟨(nmQ a s).1, (numS (nmQ a s).2 next).1⟩ :: l, by rw [hl]; simp, ?_⟩
        rw [ho]
        exact hr
      · refine bad hk ?_
        rcases num_over (M := 9007199254740992) hk with q | q
        · exact .inl (by simp only [gpS]; rw [← h2]; exact q)
        · refine .inr ?_
          have : decide ((gpS s).1.pos ≤ (next : Int)) = false := by
            simp only [gpS, ← h2, decide_eq_false_iff_not]
            omega
          rw [this, Bool.and_false]
    · have hb : (numS (nmQ a s).2 next).2.2 ≠ 0 := by rw [num_err h1]; exact h1
      refine bad hb ?_
      rcases h2 with q | q | q
      · exact .inl (by simp only [gpS]; rw [num_err q]; exact q)
      · exact .inr (by simp only [gpS, q, Bool.false_and])
      · have q' : decide (a < (gpS s).1.n) = false := decide_eq_false q
        exact .inr (by rw [q', Bool.and_false, Bool.false_and])

theorem by64_err (s : RS) (h : s.2 ≠ 0) : (bytesS s 64).2.2 ≠ 0 := by rw [bytes_err h]; exact h
theorem rcQ_err {s : RS} (h : s.2 ≠ 0) : (rcQ s).2.2 ≠ 0 := by
  unfold rcQ
  exact allS_err by64_err _ _ _ (by rw [num_err h]; exact h)
theorem rcS_err {s : RS} (h : s.2 ≠ 0) : (rcS s).2.2 ≠ 0 := by
  unfold rcS
  exact manyS_stop (by rw [num_err h]; exact h)
theorem gpsS_err {s : RS} (h : s.2 ≠ 0) : (gpsS s).2.2 ≠ 0 := by
  unfold gpsS
  exact manyS_stop (by rw [num_err h]; exact h)
theorem rcQ_rel (s : RS) : ((rcQ s).2.2 = 0 ∧ rcS s = rcQ s) ∨ ((rcQ s).2.2 ≠ 0 ∧ (rcS s).2.2 ≠ 0) := by
  by_cases h : (numS s 64).2.2 = 0
  · exact all_many by64_err _ _ _ h
  · exact .inr ⟨allS_err by64_err _ _ _ h, manyS_stop h⟩
theorem nxQ_err {b : Nat} {l : List Tx} {s : RS} (h : s.2 ≠ 0) : (nxQ b l s).2 ≠ 0 := by
  unfold nxQ
  split
  · exact h
  · exact fail_keep h
theorem tail_err {b : Nat} {l : List Tx} {s : RS} (h : s.2 ≠ 0) (k : Nat) : (gsQ k (numS (nxQ b l s) 8).1 [] (numS (nxQ b l s) 8).2 []).2.2 ≠ 0 := by
  have h1 := nxQ_err (b := b) (l := l) h
  exact gsQ_err _ _ _ _ (by rw [num_err h1]; exact h1)
theorem tpQ_err {n : Tx} {s : RS} (h : s.2 ≠ 0) : (tpQ n s).2.2 ≠ 0 := by
  simp only [tpQ]
  exact tail_err (rcQ_err (by rw [num_err h]; exact h)) _
theorem tpS_err {s : RS} (h : (bytesS s 1024).2.2 ≠ 0) : (tpS s).2.2 ≠ 0 := by
  simp only [tpS]
  exact gpsS_err (rcS_err (by rw [num_err h]; exact h))
/-- A topic. -/
theorem tpQ_rel (a : Tx) (s : RS) : ((tpQ (nmQ a s).1 (nmQ a s).2).2.2 = 0 ∧ tpQ (nmQ a s).1 (nmQ a s).2 = tpS s ∧ okT (tpS s).1 = true ∧ a < (tpS s).1.n ∧ (nmQ a s).1 = (tpS s).1.n) ∨ ((tpQ (nmQ a s).1 (nmQ a s).2).2.2 ≠ 0 ∧ ((tpS s).2.2 ≠ 0 ∨ (okT (tpS s).1 && decide (a < (tpS s).1.n)) = false)) := by
  rcases nmQ_rel a s with ⟨h1, h2, h3, h4⟩ | ⟨h1, h2⟩
  · rw [h2]
    by_cases hb : (numS (bytesS s 1024).2 9007199254740992).2.2 = 0
    · rcases rcQ_rel (numS (bytesS s 1024).2 9007199254740992).2 with ⟨l1, l2⟩ | ⟨l1, l2⟩
      · by_cases hn : (numS (bytesS s 1024).2 9007199254740992).1 + (rcQ (numS (bytesS s 1024).2 9007199254740992).2).1.length ≤ 9007199254740992
        · have hx : nxQ (numS (bytesS s 1024).2 9007199254740992).1 (rcQ (numS (bytesS s 1024).2 9007199254740992).2).1 (rcQ (numS (bytesS s 1024).2 9007199254740992).2).2 = (rcQ (numS (bytesS s 1024).2 9007199254740992).2).2 := by rw [nxQ, if_pos hn]
          simp only [tpQ, tpS]
          rw [hx, l2]
          simp only [gpsS]
          generalize rcQ (numS (bytesS s 1024).2 9007199254740992).2 = l at *
          generalize (numS (bytesS s 1024).2 9007199254740992).1 = b at *
          by_cases hc : (numS l.2 8).2.2 = 0
          · obtain ⟨t, ht, hr⟩ := gsQ_rel (b + l.1.length) hn (numS l.2 8).1 [] (numS l.2 8).2 [] hc
            rw [List.nil_append] at ht
            have hok : okT ⟨(bytesS s 1024).1, b, l.1, t⟩ = okGs ((b + l.1.length : Nat) : Int) [] t := by
              have e : (Tp.mk (bytesS s 1024).1 b l.1 t).next = ((b + l.1.length : Nat) : Int) := by simp [Tp.next]
              simp only [okT, e, h3, Bool.true_and]
              have : decide (((b + l.1.length : Nat) : Int) ≤ maxNum) = true := by
                refine decide_eq_true ?_
                show ((b + l.1.length : Nat) : Int) ≤ 9007199254740992
                omega
              rw [this, Bool.true_and]
            rcases hr with ⟨r1, r2, r3⟩ | ⟨r1, r2⟩
            · refine .inl ⟨r1, by rw [r2], ?_, h4, trivial⟩
              rw [ht, hok]
              exact r3
            · refine .inr ⟨r1, ?_⟩
              rcases r2 with r2 | r2
              · exact .inl r2
              · exact .inr (by rw [ht, hok, r2]; rfl)
          · exact .inr ⟨gsQ_err _ _ _ _ hc, .inl (manyS_stop hc)⟩
        · refine .inr ⟨?_, .inr ?_⟩
          · simp only [tpQ]
            have hf : (nxQ (numS (bytesS s 1024).2 9007199254740992).1 (rcQ (numS (bytesS s 1024).2 9007199254740992).2).1 (rcQ (numS (bytesS s 1024).2 9007199254740992).2).2).2 ≠ 0 := by rw [nxQ, if_neg hn]; exact fail_err (by decide)
            exact gsQ_err _ _ _ _ (by rw [num_err hf]; exact hf)
          · have : okT (tpS s).1 = false := by
              simp only [okT, tpS, Tp.next, l2]
              have : decide (((numS (bytesS s 1024).2 9007199254740992).1 : Int) + ((rcQ (numS (bytesS s 1024).2 9007199254740992).2).1.length : Int) ≤ maxNum) = false := by
                refine decide_eq_false ?_
                show ¬ ((numS (bytesS s 1024).2 9007199254740992).1 : Int) + ((rcQ (numS (bytesS s 1024).2 9007199254740992).2).1.length : Int) ≤ 9007199254740992
                omega
              rw [this, Bool.and_false, Bool.false_and]
            rw [this, Bool.false_and]
      · refine .inr ⟨?_, .inl ?_⟩
        · simp only [tpQ]
          exact tail_err l1 _
        · simp only [tpS]
          exact gpsS_err l2
    · refine .inr ⟨?_, .inl ?_⟩
      · simp only [tpQ]
        exact tail_err (rcQ_err hb) _
      · simp only [tpS]
        exact gpsS_err (rcS_err hb)
  · refine .inr ⟨tpQ_err h1, ?_⟩
    rcases h2 with q | q | q
    · exact .inl (tpS_err q)
    · refine .inr ?_
      have : okT (tpS s).1 = false := by simp only [okT, tpS, q, Bool.false_and]
      rw [this, Bool.false_and]
    · refine .inr ?_
      have : decide (a < (tpS s).1.n) = false := decide_eq_false q
      rw [this, Bool.and_false]
theorem tsQ_err : ∀ (n : Nat) (a : Tx) (s : RS) (acc : List Tp), s.2 ≠ 0 → (tsQ n a s acc).2.2 ≠ 0
  | 0, a, s, acc, h => h
  | n + 1, a, s, acc, h => by
    unfold tsQ
    exact tsQ_err n _ _ _ (tpQ_err (nmQ_err h))
/-- The topics. -/
theorem tsQ_rel : ∀ (n : Nat) (a : Tx) (s : RS) (acc : List Tp), s.2 = 0 → ∃ l, (manyS tpS n s acc).1 = acc ++ l ∧
    (((tsQ n a s acc).2.2 = 0 ∧ tsQ n a s acc = manyS tpS n s acc ∧ okTs a l = true) ∨ ((tsQ n a s acc).2.2 ≠ 0 ∧ ((manyS tpS n s acc).2.2 ≠ 0 ∨ okTs a l = false)))
  | 0, a, s, acc, h => ⟨[], by simp [manyS], .inl ⟨h, rfl, rfl⟩⟩
  | n + 1, a, s, acc, h => by
    have e1 : manyS tpS (n + 1) s acc = manyS tpS n (tpS s).2 (acc ++ [(tpS s).1]) := by rw [manyS, if_neg (by simpa using h)]
    have e2 : tsQ (n + 1) a s acc = tsQ n (nmQ a s).1 (tpQ (nmQ a s).1 (nmQ a s).2).2 (acc ++ [(tpQ (nmQ a s).1 (nmQ a s).2).1]) := rfl
    rw [e1, e2]
    rcases tpQ_rel a s with ⟨h1, h2, h3, h4, h5⟩ | ⟨h1, h2⟩
    · rw [h2] at h1 ⊢
      rw [h5]
      obtain ⟨l, hl, hr⟩ := tsQ_rel n (tpS s).1.n (tpS s).2 (acc ++ [(tpS s).1]) h1
      have ho : okTs a ((tpS s).1 :: l) = okTs (tpS s).1.n l := by rw [okTs, h3, decide_eq_true h4]; rfl
      refine ⟨(tpS s).1 :: l, by rw [hl]; simp, ?_⟩
      rw [ho]
      exact hr
    · obtain ⟨l, hl⟩ := manyS_app tpS n (tpS s).2 (acc ++ [(tpS s).1])
      refine ⟨(tpS s).1 :: l, by rw [hl]; simp, .inr ⟨tsQ_err _ _ _ _ h1, ?_⟩⟩
      rcases h2 with q | q
      · exact .inl (manyS_stop q)
      · exact .inr (by rw [okTs, q]; rfl)
theorem num_least {s : RS} {m M : Nat} (h : (numS s M).2.2 = 0) (hm : (numS s M).1 ≤ m) : numS s m = numS s M := by
  obtain ⟨h0, h1, h2, h3⟩ := numS_ok h
  rw [h3] at hm
  rw [h3, numS, if_neg (by simpa using h0), if_neg (by simpa using h1), if_neg (by simp only at hm; omega)]
theorem an_eq {s : RS} (h : (numS (numS s 9007199254740992).2 1024).2.2 = 0) : anS s = anR s := by
  simp only [anS, anR]
  rw [num_mono (m := 1024) (M := 65536) (by omega) h]
theorem anS_err {s : RS} (h : (numS (numS s 9007199254740992).2 1024).2.2 ≠ 0) : (anS s).2.2 ≠ 0 := by
  simp only [anS]
  rw [num_err h]
  exact h
theorem anS_keep (s : RS) (h : s.2 ≠ 0) : (anS s).2.2 ≠ 0 := anS_err (by rw [num_err h, num_err h]; exact h)
theorem anR_keep (s : RS) (h : s.2 ≠ 0) : (anR s).2.2 ≠ 0 := by
  simp only [anR]
  rw [num_err h, num_err h, num_err h]
  exact h
theorem ite_keep {c : Prop} [Decidable c] {s : RS} {e : Int} (h : s.2 ≠ 0) : (if c then s else failS s e).2 ≠ 0 := by
  split
  · exact h
  · exact fail_keep h
theorem anQ_keep (s : RS) (h : s.2 ≠ 0) : (anQ s).2.2 ≠ 0 := by
  have h1 := anR_keep s h
  simp only [anQ]
  exact ite_keep h1
theorem told_le {e : Int} (h : told e = true) : 0 ≤ e ∧ e ≤ 1024 := by
  simp only [told, Bool.or_eq_true, beq_iff_eq] at h
  omega
/-- An answer. -/
theorem anQ_rel (s : RS) : ((anQ s).2.2 = 0 ∧ anQ s = anS s ∧ okA (anS s).1 = true) ∨ ((anQ s).2.2 ≠ 0 ∧ ((anS s).2.2 ≠ 0 ∨ okA (anS s).1 = false)) := by
  by_cases h : (anR s).2.2 = 0
  · have hq : anQ s = ((anR s).1, if okA (anR s).1 = true then (anR s).2 else failS (anR s).2 70) := by simp only [anQ]; rw [if_pos h]
    rw [hq]
    by_cases hk : okA (anR s).1 = true
    · rw [if_pos hk]
      have hm : (numS (numS s 9007199254740992).2 1024).2.2 = 0 := by
        have ht : told (anR s).1.err = true := by simp only [okA, Bool.and_eq_true] at hk; exact hk.1.1
        have hl := (told_le ht).2
        simp only [anR] at hl h
        have he : (numS (numS s 9007199254740992).2 65536).2.2 = 0 := (numS_ok h).1
        rw [num_least (M := 65536) he (by omega)]
        exact he
      rw [an_eq hm]
      exact .inl ⟨h, rfl, hk⟩
    · rw [if_neg hk]
      refine .inr ⟨fail_err (by decide), ?_⟩
      by_cases hm : (numS (numS s 9007199254740992).2 1024).2.2 = 0
      · rw [an_eq hm]; exact .inr (by simpa using hk)
      · exact .inl (anS_err hm)
  · refine .inr ⟨?_, .inl ?_⟩
    · simp only [anQ]
      exact ite_keep h
    · by_cases hm : (numS (numS s 9007199254740992).2 1024).2.2 = 0
      · rw [an_eq hm]; exact h
      · exact anS_err hm
theorem allS_app {α : Type} (f : RS → α × RS) : ∀ (n : Nat) (s : RS) (acc : List α), ∃ l, (allS f n s acc).1 = acc ++ l
  | 0, s, acc => ⟨[], by simp [allS]⟩
  | n + 1, s, acc => by
    obtain ⟨l, h⟩ := allS_app f n (f s).2 (acc ++ [(f s).1])
    exact ⟨(f s).1 :: l, by rw [allS, h]; simp⟩
/-- The answers. -/
theorem asQ_rel : ∀ (n : Nat) (s : RS) (acc : List An), ∃ l, (allS anS n s acc).1 = acc ++ l ∧
    ((s.2 = 0 ∧ (allS anQ n s acc).2.2 = 0 ∧ allS anQ n s acc = allS anS n s acc ∧ l.all okA = true) ∨ ((allS anQ n s acc).2.2 ≠ 0 ∧ ((allS anS n s acc).2.2 ≠ 0 ∨ l.all okA = false)))
  | 0, s, acc => by
    refine ⟨[], by simp [allS], ?_⟩
    by_cases h : s.2 = 0
    · exact .inl ⟨h, h, rfl, rfl⟩
    · exact .inr ⟨h, .inl h⟩
  | n + 1, s, acc => by
    by_cases h : s.2 = 0
    · rcases anQ_rel s with ⟨h1, h2, h3⟩ | ⟨h1, h2⟩
      · obtain ⟨l, hl, hr⟩ := asQ_rel n (anS s).2 (acc ++ [(anS s).1])
        refine ⟨(anS s).1 :: l, by rw [allS, hl]; simp, ?_⟩
        have e1 : allS anQ (n + 1) s acc = allS anQ n (anS s).2 (acc ++ [(anS s).1]) := by rw [allS, h2]
        have e2 : allS anS (n + 1) s acc = allS anS n (anS s).2 (acc ++ [(anS s).1]) := rfl
        have e3 : ((anS s).1 :: l).all okA = l.all okA := by rw [List.all_cons, h3, Bool.true_and]
        rw [e1, e2, e3]
        rcases hr with ⟨-, r1, r2, r3⟩ | r
        · exact .inl ⟨h, r1, r2, r3⟩
        · exact .inr r
      · obtain ⟨l, hl⟩ := allS_app anS n (anS s).2 (acc ++ [(anS s).1])
        refine ⟨(anS s).1 :: l, by rw [allS, hl]; simp, .inr ⟨?_, ?_⟩⟩
        · rw [allS]; exact allS_err anQ_keep _ _ _ h1
        · rcases h2 with q | q
          · exact .inl (by rw [allS]; exact allS_err anS_keep _ _ _ q)
          · exact .inr (by rw [List.all_cons, q, Bool.false_and])
    · obtain ⟨l, hl⟩ := allS_app anS (n + 1) s acc
      exact ⟨l, hl, .inr ⟨allS_err anQ_keep _ _ _ h, .inl (allS_err anS_keep _ _ _ h)⟩⟩
theorem done_err {s : RS} (h : s.2 ≠ 0) : doneS s ≠ 0 := by
  unfold doneS
  rw [if_neg (fun q => h q.1)]
  exact h
theorem done_ok {s : RS} (h : doneS s = 0) : s.2 = 0 := by
  by_cases h1 : s.2 = 0
  · exact h1
  · exact absurd h (done_err h1)
/-- THE PROGRAM's READING IS THE DOCUMENT's. -/
theorem stQ_rel (s : RS) : (doneS (stQ s).2 = 0 ∧ stQ s = stS s ∧ okS (stS s).1 = true) ∨ (doneS (stQ s).2 ≠ 0 ∧ ¬ (okS (stS s).1 = true ∧ doneS (stS s).2 = 0)) := by
  by_cases h : (numS s 8).2.2 = 0
  · obtain ⟨l, hl, hr⟩ := tsQ_rel (numS s 8).1 [] (numS s 8).2 [] h
    rw [List.nil_append] at hl
    rcases hr with ⟨r1, r2, r3⟩ | ⟨r1, r2⟩
    · obtain ⟨a, ha, hq⟩ := asQ_rel 8 (manyS tpS (numS s 8).1 (numS s 8).2 []).2 []
      rw [List.nil_append] at ha
      rcases hq with ⟨-, q1, q2, q3⟩ | ⟨q1, q2⟩
      · have e : stQ s = stS s := by simp only [stQ, stS]; rw [r2, q2]
        have ho : okS (stS s).1 = true := by
          simp only [okS, stS]
          rw [hl, ha, r3, q3]
          rfl
        by_cases hd : doneS (stQ s).2 = 0
        · exact .inl ⟨hd, e, ho⟩
        · exact .inr ⟨hd, fun x => hd (by rw [e]; exact x.2)⟩
      · refine .inr ⟨?_, fun x => ?_⟩
        · simp only [stQ]
          rw [r2]
          exact done_err q1
        · rcases q2 with q | q
          · exact done_err q x.2
          · have hx := x.1
            simp only [okS, stS] at hx
            rw [hl, ha, r3, q] at hx
            cases hx
    · refine .inr ⟨?_, fun x => ?_⟩
      · simp only [stQ]
        exact done_err (allS_err anQ_keep _ _ _ r1)
      · rcases r2 with q | q
        · refine done_err ?_ x.2
          simp only [stS]
          exact allS_err anS_keep _ _ _ q
        · have hx := x.1
          simp only [okS, stS] at hx
          rw [hl, q] at hx
          cases hx
  · refine .inr ⟨?_, fun x => ?_⟩
    · simp only [stQ]
      exact done_err (allS_err anQ_keep _ _ _ (tsQ_err _ _ _ _ h))
    · refine done_err ?_ x.2
      simp only [stS]
      exact allS_err anS_keep _ _ _ (manyS_stop h)
theorem stP_of (b : Tx) : stP b = if doneS (stQ (b, 0)).2 = 0 then some (stQ (b, 0)).1 else none := by
  unfold stP
  rcases stQ_rel (b, 0) with ⟨h1, h2, h3⟩ | ⟨h1, h2⟩
  · rw [if_pos h1, if_pos ⟨h3, by rw [← h2]; exact h1⟩, h2]
  · rw [if_neg h1, if_neg h2]
end Go.Proofs.YtkoedonllfmaaaaGreat.Te

/-
  Layer 7: the program's reading of topics: takeName, isAnswer, mayBe, takeAnswered.
-/
namespace Go.Proofs.YtkoedonllfmaaaaGreat.Xa
set_option linter.unusedSimpArgs false
open Go Go.RowKit Ck Kw Ca Cb Ce Cf Cg Ch Ga Kf Km Pm Pa Pz Qt Tm Tn Tq Te Aa
attribute [local go_sem ↓] Go.wp_at_zero Go.wp_at_succ
set_option linter.unusedVariables false
set_option maxRecDepth 100000

theorem less_eq (x y : List UInt8) : Op.bytesLess x y = decide (x < y) := by
  induction x generalizing y with
  | nil => cases y <;> simp [Op.bytesLess]
  | cons a x ih =>
    cases y with
    | nil => simp [Op.bytesLess]
    | cons b y =>
      rw [Op.bytesLess, ih y]
      rw [Bool.eq_iff_iff]
      simp [List.cons_lt_cons_iff]
/-- What takeName leaves. -/
def NameTaken (w : World) (X : Nat → Prop) (g : Nat) (r : Tx × Cm.RS) (e : Ending) (w' : World) : Prop := e = .returned (SV r.1) ∧ w.grownBy w' (some g) ∧ CR w' X g r.2
theorem leq_of {x a : Tx} (h : a < x) : (Op.bytesLess x a || x == a) = false := by
  rw [less_eq]
  simp only [Bool.or_eq_false_iff, decide_eq_false_iff_not, beq_eq_false_iff_ne]
  refine ⟨fun h2 => ?_, fun h2 => by rw [h2] at h; exact List.lt_irrefl _ h⟩
  exact List.lt_irrefl _ (List.lt_trans h h2)
theorem leq_not {x a : Tx} (h : ¬ a < x) : (Op.bytesLess x a || x == a) = true := by
  rw [less_eq]
  simp only [Bool.or_eq_true, decide_eq_true_eq, beq_iff_eq]
  by_cases e : x = a
  · exact .inr e
  · refine .inl ?_
    rcases List.le_total x a with h1 | h1
    · exact Classical.byContradiction fun h2 => e (List.le_antisymm h1 (List.not_lt.1 h2))
    · exact absurd (Classical.byContradiction fun h2 => e (List.le_antisymm (List.not_lt.1 h2) h1)) h
set_option maxHeartbeats 2000000 in
theorem tname_any (w : World) (X : Nat → Prop) (g : Nat) (s : Cm.RS) (a : Tx) (h : CR w X g s) (hl : s.1.length ≤ 140737488355328) :
    Calls Tryz.prog 70 #[P_ g, SV a] w (NameTaken w X g (nmQ a s)) := by
  have HB := Lib.hid (Ch.bytes_any w X g s h 64 (by omega) (by omega) hl)
  unfold Taken at HB
  have HQ : Hid (nmQ a s = ((Cm.bytesS s 64).1, if (name (Cm.bytesS s 64).1 && decide (a < (Cm.bytesS s 64).1)) = true then (Cm.bytesS s 64).2 else Cm.failS (Cm.bytesS s 64).2 70)) := Lib.hid rfl
  generalize nmQ a s = Q at *
  generalize Cm.bytesS s 64 = b at *
  obtain ⟨x, s1⟩ := b
  simp only at HB HQ
  clear h hl
  unfold SV
  go_enter Tryz.func70, Tryz.ntmps70
  go_wp2_with fail
  refine HB.out.mono ?_
  rintro e w1 ⟨v, rfl, ho, hg, hc⟩
  obtain ⟨A, c, rfl⟩ := own_shape ho
  have hcv := run_convert_sl (P := Tryz.prog) w1 (fun _ => False) 49 9 5 A c x Tryz.underlying49 Tryz.underlying5 Tryz.underlying9 (Sl.of_own ho (fun _ _ _ h => h))
  have HG := Lib.hid hg
  have HC := Lib.hid hc
  clear ho hg hc HB
  go_wp2_with fail
  refine (name_any x w1).mono ?_
  rintro e w2 ⟨rfl, hb⟩
  have HG2 := Lib.hid (grown_below HG.out hb)
  have HC2 := Lib.hid (HC.out.after hb)
  have HF := Lib.hid (fail_any w2 X g s1 HC2.out 70)
  clear hb hcv
  by_cases hn : name x = true
  · by_cases hlt : a < x
    · have hq := leq_of hlt
      have HZ : Hid (Q = (x, s1)) := Lib.hid (by rw [HQ.out, if_pos (by rw [hn, decide_eq_true hlt]; rfl)])
      simp only [Bool.or_eq_false_iff] at hq
      obtain ⟨q1, q2⟩ := hq
      clear hlt HQ
      go_wp2_with fail
      go_ret
      exact ⟨by rw [HZ.out]; rfl, HG2.out, by rw [HZ.out]; exact HC2.out⟩
    · have hq := leq_not hlt
      have HZ : Hid (Q = (x, Cm.failS s1 70)) := Lib.hid (by rw [HQ.out, if_neg (by rw [decide_eq_false hlt, Bool.and_false]; simp)])
      clear hlt HQ
      go_wp2_with fail
      refine HF.out.mono ?_
      rintro e w3 ⟨rfl, hg3, hc3⟩
      have HG3 := Lib.hid (HG2.out.trans hg3)
      have HC3 := Lib.hid hc3
      clear hg3 hc3
      go_wp2_with fail
      go_ret
      exact ⟨by rw [HZ.out]; rfl, HG3.out, by rw [HZ.out]; exact HC3.out⟩
  · have hn' : name x = false := by simpa using hn
    have HZ : Hid (Q = (x, Cm.failS s1 70)) := Lib.hid (by rw [HQ.out, if_neg (by rw [hn', Bool.false_and]; simp)])
    clear hn HQ
    go_wp2_with fail
    refine HF.out.mono ?_
    rintro e w3 ⟨rfl, hg3, hc3⟩
    have HG3 := Lib.hid (HG2.out.trans hg3)
    have HC3 := Lib.hid hc3
    clear hg3 hc3
    go_wp2_with fail
    go_ret
    exact ⟨by rw [HZ.out]; rfl, HG3.out, by rw [HZ.out]; exact HC3.out⟩

theorem told_iff (e : Int) : told e = true ↔ (e = 0 ∨ e = 4 ∨ e = 5 ∨ e = 6 ∨ e = 71 ∨ e = 72 ∨ e = 60 ∨ e = 61 ∨ e = 62) := by
  simp only [told, Bool.or_eq_true, beq_iff_eq, or_assoc]
set_option maxHeartbeats 2000000 in
theorem isanswer_any (w : World) (z : Int) : Calls Tryz.prog 123 #[.int .i64 z] w fun e w' => e = .returned (.bool (told z)) ∧ w = w' := by
  by_cases h : told z = true
  · rw [h]
    rcases (told_iff z).1 h with rfl | rfl | rfl | rfl | rfl | rfl | rfl | rfl | rfl
    all_goals
      clear h
      go_enter Tryz.func123, Tryz.ntmps123
      go_wp2
      go_ret
      exact ⟨rfl, rfl⟩
  · have hf : told z = false := by simpa using h
    rw [hf]
    rw [told_iff] at h
    simp only [not_or] at h
    obtain ⟨h0, h4, h5, h6, h71, h72, h60, h61, h62⟩ := h
    have e0 : (z == 0) = false := beq_eq_false_iff_ne.2 h0
    have e4 : (z == 4) = false := beq_eq_false_iff_ne.2 h4
    have e5 : (z == 5) = false := beq_eq_false_iff_ne.2 h5
    have e6 : (z == 6) = false := beq_eq_false_iff_ne.2 h6
    have e71 : (z == 71) = false := beq_eq_false_iff_ne.2 h71
    have e72 : (z == 72) = false := beq_eq_false_iff_ne.2 h72
    have e60 : (z == 60) = false := beq_eq_false_iff_ne.2 h60
    have e61 : (z == 61) = false := beq_eq_false_iff_ne.2 h61
    have e62 : (z == 62) = false := beq_eq_false_iff_ne.2 h62
    clear hf h0 h4 h5 h6 h71 h72 h60 h61 h62
    go_enter Tryz.func123, Tryz.ntmps123
    go_wp2
    go_ret
    exact ⟨rfl, rfl⟩

/-- Are two results the same? -/
def rsB (s t : Int × Int) : Bool := decide (s = t)
theorem stood_res : Tryz.prog.stoodInHeld 30 = false := by kernel_rfl
theorem fields_res : Tryz.prog.underlying 30 = some (.struct (Tryz.prog.fieldsOf 30)) := by kernel_rfl
theorem run_equalIn_res (W : World) (d : Nat) (a b c e : Int) : (Op.equalIn (d + 1 + 1) 30 (.agg #[.int .i64 a, .int .i64 b]) (.agg #[.int .i64 c, .int .i64 e])).run Tryz.prog W = .ok (rsB (a, b) (c, e)) W := by
  rw [run_equalIn_struct W (d + 1) 30 _ _ fields_res stood_res]
  have hf : (Tryz.prog.fieldsOf 30).toList = [{ name := "Err", type := 28, offset := 0, embedded := false, tag := "", pkgPath := "", byteOffset := 0 }, { name := "Offset", type := 2, offset := 1, embedded := false, tag := "", pkgPath := "", byteOffset := 8 }] := by kernel_rfl
  rw [hf]
  have h1 := fun (x y : Int) (W : World) => run_equalIn_int (P := Tryz.prog) W d 28 .i64 .i64 x y Tryz.underlying28
  have h2 := fun (x y : Int) (W : World) => run_equalIn_int (P := Tryz.prog) W d 2 .i64 .i64 x y Tryz.underlying2
  have p1 : ∀ (u v : Value) (W : World), (part 28 #[u, v] 0).run Tryz.prog W = .ok u W := fun u v W => by simp [part, isAgg, run_underlying Tryz.underlying28]
  have p2 : ∀ (u v : Value) (W : World), (part 2 #[u, v] 1).run Tryz.prog W = .ok v W := fun u v W => by simp [part, isAgg, run_underlying Tryz.underlying2]
  by_cases hac : a = c
  · by_cases hbe : b = e
    · subst hac; subst hbe
      simp [Op.eqFields, p1, p2, h1, h2, Result.andThen, rsB]
    · subst hac
      simp [Op.eqFields, p1, p2, h1, h2, Result.andThen, rsB, hbe]
  · simp [Op.eqFields, p1, h1, Result.andThen, rsB, hac]
theorem run_eql_rs (W : World) (a b c e : Int) : (binOp .eql 30 (.agg #[.int .i64 a, .int .i64 b]) (.agg #[.int .i64 c, .int .i64 e])).run Tryz.prog W = .ok (.bool (rsB (a, b) (c, e))) W := by
  rw [run_eql_struct, show (10000 : Nat) = 9998 + 1 + 1 from rfl, run_equalIn_res]
  rfl
end Go.Proofs.YtkoedonllfmaaaaGreat.Xa

/-
  Layer 7: plain words for the program's reading of topics: what the machine of Te keeps, element by element.
-/
namespace Go.Proofs.YtkoedonllfmaaaaGreat.Xm
set_option linter.unusedSimpArgs false
open Cm Pm Pz Tm Tn Tq Te
set_option linter.unusedVariables false

theorem anQ_eq (s : RS) : anQ s = ((⟨((numS s 9007199254740992).1 : Nat), (takeR (numS s 9007199254740992).2).1.1, (takeR (numS s 9007199254740992).2).1.2⟩ : An),
    if okA ⟨((numS s 9007199254740992).1 : Nat), (takeR (numS s 9007199254740992).2).1.1, (takeR (numS s 9007199254740992).2).1.2⟩ = true then (takeR (numS s 9007199254740992).2).2 else failS (takeR (numS s 9007199254740992).2).2 70) := by
  unfold anQ takeR
  simp only [anR]
  by_cases h : (numS (numS (numS s 9007199254740992).2 65536).2 9007199254740992).2.2 = 0 <;> simp [h]
/-- All that stand are a, or below it. -/
def Low (a : Tx) (ns : List Tx) : Prop := ∀ x ∈ ns, x = a ∨ x < a
theorem Low.nil (a : Tx) : Low a [] := fun x hx => by cases hx
theorem Low.more {a b : Tx} {ns : List Tx} (h : Low a ns) (hb : a < b) : Low b (ns ++ [b]) := by
  intro x hx
  rcases List.mem_append.1 hx with hx | hx
  · rcases h x hx with e | e
    · exact .inr (by rw [e]; exact hb)
    · exact .inr (List.lt_trans e hb)
  · exact .inl (List.mem_singleton.1 hx)
theorem Low.fresh {a b : Tx} {ns : List Tx} (h : Low a ns) (hb : a < b) : ∀ x ∈ ns, x ≠ b := by
  intro x hx e
  subst e
  rcases h x hx with e | e
  · rw [e] at hb; exact List.lt_irrefl _ hb
  · exact List.lt_irrefl _ (List.lt_trans e hb)
theorem nm_up {a : Tx} {s : RS} (h : (nmQ a s).2.2 = 0) : a < (nmQ a s).1 ∧ s.2 = 0 := by
  refine ⟨?_, ?_⟩
  · rcases nmQ_rel a s with ⟨_, h2, _, h4⟩ | ⟨h1, _⟩
    · rw [h2]; exact h4
    · exact absurd h h1
  · by_cases hs : s.2 = 0
    · exact hs
    · exact absurd h (nmQ_err hs)
theorem num_up {s : RS} {m : Nat} (h : (numS s m).2.2 = 0) : s.2 = 0 := (numS_ok h).1
/-- What is left never grows. -/
theorem fail_len (s : RS) (e : Int) : (failS s e).1.length ≤ s.1.length := by
  unfold failS
  split
  · exact Nat.le_refl _
  · split
    · simp
    · exact Nat.le_refl _
theorem nm_len (a : Tx) (s : RS) : (nmQ a s).2.1.length ≤ s.1.length := by
  have h1 := bytesS_len s 64
  have h2 := fail_len (bytesS s 64).2 70
  unfold nmQ
  simp only
  split <;> omega
theorem gs_len (next : Nat) : ∀ (n : Nat) (a : Tx) (s : RS) (acc : List Gp), (gsQ next n a s acc).2.1.length ≤ s.1.length
  | 0, a, s, acc => Nat.le_refl _
  | n + 1, a, s, acc => by
    unfold gsQ
    have h1 := gs_len next n (nmQ a s).1 (numS (nmQ a s).2 next).2 (acc ++ [⟨(nmQ a s).1, (numS (nmQ a s).2 next).1⟩])
    have h2 := numS_len (nmQ a s).2 next
    have h3 := nm_len a s
    omega
theorem all_len {α : Type} {f : RS → α × RS} (hf : ∀ s, (f s).2.1.length ≤ s.1.length) : ∀ (n : Nat) (s : RS) (acc : List α), (allS f n s acc).2.1.length ≤ s.1.length
  | 0, s, acc => Nat.le_refl _
  | n + 1, s, acc => by
    unfold allS
    have h1 := all_len hf n (f s).2 (acc ++ [(f s).1])
    have h2 := hf s
    omega
theorem rc_len (s : RS) : (rcQ s).2.1.length ≤ s.1.length := by
  unfold rcQ
  have h1 := all_len (f := fun r => bytesS r 64) (fun r => bytesS_len r 64) (numS s 64).1 (numS s 64).2 []
  have h2 := numS_len s 64
  omega
theorem nx_len (b : Nat) (l : List Tx) (s : RS) : (nxQ b l s).1.length ≤ s.1.length := by
  unfold nxQ
  split
  · exact Nat.le_refl _
  · exact fail_len _ _
theorem tp_len (n : Tx) (s : RS) : (tpQ n s).2.1.length ≤ s.1.length := by
  simp only [tpQ]
  have h1 := gs_len ((numS s 9007199254740992).1 + (rcQ (numS s 9007199254740992).2).1.length) (numS (nxQ (numS s 9007199254740992).1 (rcQ (numS s 9007199254740992).2).1 (rcQ (numS s 9007199254740992).2).2) 8).1 [] (numS (nxQ (numS s 9007199254740992).1 (rcQ (numS s 9007199254740992).2).1 (rcQ (numS s 9007199254740992).2).2) 8).2 []
  have h2 := numS_len (nxQ (numS s 9007199254740992).1 (rcQ (numS s 9007199254740992).2).1 (rcQ (numS s 9007199254740992).2).2) 8
  have h3 := nx_len (numS s 9007199254740992).1 (rcQ (numS s 9007199254740992).2).1 (rcQ (numS s 9007199254740992).2).2
  have h4 := rc_len (numS s 9007199254740992).2
  have h5 := numS_len s 9007199254740992
  omega
theorem ite_len {c : Prop} [Decidable c] {s : RS} {e : Int} : (if c then s else failS s e).1.length ≤ s.1.length := by
  split
  · exact Nat.le_refl _
  · exact fail_len _ _
theorem an_len (s : RS) : (anQ s).2.1.length ≤ s.1.length := by
  have h1 := numS_len s 9007199254740992
  have h2 := numS_len (numS s 9007199254740992).2 65536
  have h3 := numS_len (numS (numS s 9007199254740992).2 65536).2 9007199254740992
  refine Nat.le_trans (show (anQ s).2.1.length ≤ (anR s).2.1.length from ite_len) ?_
  show (numS (numS (numS s 9007199254740992).2 65536).2 9007199254740992).2.1.length ≤ _
  omega
theorem tp_up {n : Tx} {s : RS} (h : (tpQ n s).2.2 = 0) : s.2 = 0 := by
  by_cases hs : s.2 = 0
  · exact hs
  · exact absurd h (tpQ_err hs)
end Go.Proofs.YtkoedonllfmaaaaGreat.Xm
