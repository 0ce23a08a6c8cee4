/-
  Layer 6 (op): how long names and operations' bytes are; the contract of Bytes, kind by kind.
-/
import Derived.Test.YtcmknopgoiabbaaW3
import Derived.Test.YtcmknopgoiabbaaPi
import Derived.Test.YtcmknopgoiabbaaKx
import Derived.Test.YtcmknopgoiabbaaW4
namespace Go.Proofs.Ytcmknopgoiabbaa.Pk
set_option linter.unusedSimpArgs false
open Go Go.RowKit Ck Kw Ca Cb Ci Pm Pa Pe Pf Pg Ph Ppi Kx
set_option linter.unusedVariables false

theorem dec_width4 (l : Tx) : (dec l).2 ≤ 4 := by
  unfold dec Go.Lib.decodeN
  repeat' split
  all_goals simp
theorem rn_len : ∀ (j : Nat) (l : Tx), rn j l ≠ 0 → l.length ≤ 4 * j
  | 0, l, h => by
    unfold rn at h
    split at h
    · rename_i hl; subst hl; simp
    · exact absurd rfl h
  | j + 1, l, h => by
    unfold rn at h
    split at h
    · rename_i hl; subst hl; simp
    · split at h
      · exact absurd rfl h
      · have h1 := rn_len j _ h
        have h2 := dec_width4 l
        rw [List.length_drop] at h1
        omega
theorem name_len {l : Tx} (h : name l = true) : l.length ≤ 64 ∧ l ≠ [] := by
  have h1 : 0 < runes l := of_decide_eq_true h
  refine ⟨rn_len 16 l (by unfold runes at h1; omega), fun e => ?_⟩
  subst e
  exact absurd h1 (by decide)
theorem recs_len {l : List Tx} (h : areRecs l = true) : 1 ≤ l.length ∧ l.length ≤ 4 ∧ ∀ x ∈ l, x.length ≤ 64 := by
  simp only [areRecs, Bool.and_eq_true, decide_eq_true_eq, List.all_eq_true] at h
  exact ⟨h.1.1, h.1.2, h.2⟩
theorem encP_small : ∀ (l : List Tx), (∀ x ∈ l, x.length ≤ 64) → (Cm.encP l).length ≤ 74 * l.length
  | [], _ => by simp [Cm.encP]
  | x :: l, h => by
    have h1 := encP_small l (fun y hy => h y (List.mem_cons_of_mem _ hy))
    have h2 := h x List.mem_cons_self
    have h3 := Cm.enc_len x.length
    simp only [Cm.encP, List.length_append, Cm.encB_len, List.length_cons]
    omega
/-- What an operation that may be holds. -/
theorem check_lens {o : O} (h : check o = 0) : (hasT o.kind = true → o.topic.length ≤ 64) ∧ (hasG o.kind = true → o.group.length ≤ 64) ∧ (hasO o.kind = true → 0 ≤ o.off ∧ o.off ≤ 9007199254740992) ∧
    (hasR o.kind = true → 1 ≤ o.recs.length ∧ o.recs.length ≤ 4 ∧ (∀ x ∈ o.recs, x.length ≤ 64) ∧ (Cm.encP o.recs).length ≤ 296) := by
  obtain ⟨h1, h2, h3, h4, h5⟩ := check_ok h
  refine ⟨fun hT => ?_, fun hG => ?_, fun hO => ?_, fun hR => ?_⟩
  · refine (name_len (l := o.topic) ?_).1
    cases hn : name o.topic with
    | true => rfl
    | false => simp [badName, hT, hn] at h3
  · refine (name_len (l := o.group) ?_).1
    cases hn : name o.group with
    | true => rfl
    | false => simp [badName, hG, hn] at h3
  · simp only [badOff, hO, Bool.true_and, Bool.or_eq_false_iff, decide_eq_false_iff_not] at h5
    omega
  · have hr : areRecs o.recs = true := by
      cases hn : areRecs o.recs with
      | true => rfl
      | false => simp [badRecs, hR, hn] at h4
    obtain ⟨a, b, c⟩ := recs_len hr
    have := encP_small o.recs c
    exact ⟨a, b, c, by omega⟩
theorem raw_len {o : O} (h : check o = 0) : (raw o).length ≤ 1000 := by
  obtain ⟨h1, h2, h3, h4⟩ := check_lens h
  have e1 := Cm.enc_len o.kind.toNat
  have e2 := Cm.enc_len o.topic.length
  have e3 := Cm.enc_len o.group.length
  have e4 := Cm.enc_len o.off.toNat
  have e5 := Cm.enc_len o.recs.length
  have a1 : (if hasT o.kind = true then Cm.encB o.topic else []).length ≤ 74 := by
    split
    · rename_i h; have := h1 h; rw [Cm.encB_len]; omega
    · simp
  have a2 : (if hasG o.kind = true then Cm.encB o.group else []).length ≤ 74 := by
    split
    · rename_i h; have := h2 h; rw [Cm.encB_len]; omega
    · simp
  have a3 : (if hasO o.kind = true then Cm.enc o.off.toNat else []).length ≤ 10 := by
    split
    · omega
    · simp
  have a4 : (if hasR o.kind = true then Cm.encL o.recs else []).length ≤ 306 := by
    split
    · rename_i h; have := (h4 h).2.2.2; simp only [Cm.encL, List.length_append]; omega
    · simp
  unfold raw
  simp only [List.length_append]
  omega
theorem form_len (o : O) : (form o).length ≤ 1000 := by
  unfold form
  split
  · simp
  · rename_i h
    exact raw_len (by omega)

theorem wrap_u64' (z : Nat) (h : z < 18446744073709551616) : IntKind.u64.wrap (z : Int) = (z : Int) := by
  simp [IntKind.wrap, IntKind.bits, IntKind.signed]
  omega
/-- The operation and its kind's fields stand there, and a row of the call's own. -/
structure BK (w0 : World) (g1 g3 : Nat) (o : O) (A : Option Addr) (c : Nat) (v : Value) (l : Tx) (W : World) : Prop where
  ck : CK w0 g1 g3 o A c W
  row : W.ownsRow w0.heap.size 5 1 v l.length (BVs l)
theorem bk_start {w0 W : World} {g1 g3 : Nat} {o : O} {A : Option Addr} {c : Nat} (h : CK w0 g1 g3 o A c W) : BK w0 g1 g3 o A c (.slice none 0 0) [] W := ⟨h, World.ownsRow_nil _ _ _ _⟩
theorem BK.put {w0 W W1 W2 : World} {g1 g3 : Nat} {o : O} {A : Option Addr} {c : Nat} {v v' : Value} {l l' : Tx} (h : BK w0 g1 g3 o A c v l W) (b1 : Below W.heap.size W W1) (hown : W2.ownsRow W1.heap.size 5 1 v' l'.length (BVs l')) (b2 : Below W1.heap.size W1 W2) : BK w0 g1 g3 o A c v' l' W2 := by
  have b : Below W.heap.size W W2 := b1.trans (b2.mono b1.size)
  exact ⟨h.ck.later b, own_base hown (Nat.le_trans h.ck.below.size b1.size)⟩
theorem ck_of {w w3 : World} {o : O} {A : Option Addr} {c : Nat} (h : RK w w.heap.size o A c w3) :
    CK w w.heap.size w3.heap.size o A c (w3.alloc (.cells #[.bool (hasT o.kind), .bool (hasG o.kind), .bool (hasO o.kind), .bool (hasR o.kind)] 90)) :=
  ⟨h.below.alloc h.below.size _, Blk.alloc h.op _, Blk.new w3 _ _⟩
/-- What Bytes leaves of an operation that may be. -/
def Byted (w : World) (o : O) (e : Ending) (w' : World) : Prop := ∃ v, e = .returned (.tuple #[v, .int .i64 0]) ∧ w'.ownsRow w.heap.size 5 1 v (raw o).length (BVs (raw o)) ∧ Below w.heap.size w w'
theorem byted_of {w W : World} {g1 g3 : Nat} {o : O} {A : Option Addr} {c : Nat} {v : Value} {l : Tx} (h : BK w g1 g3 o A c v l W) (hl : raw o = l) : Byted w o (.returned (.tuple #[v, .int .i64 0])) W := by
  subst hl
  exact ⟨v, rfl, h.row, h.ck.below⟩

/-- What Bytes leaves. -/
def Formed (w : World) (o : O) (e : Ending) (w' : World) : Prop := ∃ v, e = .returned (.tuple #[v, .int .i64 (check o)]) ∧ w'.ownsRow w.heap.size 5 1 v (form o).length (BVs (form o)) ∧ Below w.heap.size w w'
end Go.Proofs.Ytcmknopgoiabbaa.Pk
