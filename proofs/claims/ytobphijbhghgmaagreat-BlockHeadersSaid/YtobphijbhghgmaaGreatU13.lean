/-
  Plain mathematics of layer 5 (merkle): splits, digests over leaves in a table of texts, proofs and what they come to; complete; sound; unlike lists, unlike digests. No program is named here.
-/
import Derived.Test.YtobphijbhghgmaaGreatU05
import Derived.Test.YtobphijbhghgmaaGreatU04
import Derived.Test.YtobphijbhghgmaaGreatU12
import Derived.Test.YtobphijbhghgmaaGreatU07
import Derived.Test.YtobphijbhghgmaaGreatU03
import Derived.Test.YtobphijbhghgmaaGreatShelf
import Derived.Lib.MinMax
import Derived.Lib.ItoaNum
import Derived.LoopTactic
namespace Go.Proofs.YtobphijbhghgmaaGreat.Mm
set_option linter.unusedSimpArgs false
set_option linter.unusedVariables false
open Im

/-- How many of n leaves stand in the first part. -/
def split (n : Nat) : Nat := if n < 2 then 0 else 2 ^ Nat.log2 (n - 1)
theorem split_spec {n : Nat} (h : 2 ≤ n) : 1 ≤ split n ∧ split n < n ∧ n ≤ 2 * split n := by
  unfold split
  rw [if_neg (by omega)]
  have h1 := Nat.log2_self_le (n := n - 1) (by omega)
  have h2 := Nat.lt_log2_self (n := n - 1)
  have h3 : 2 ^ ((n - 1).log2 + 1) = 2 ^ (n - 1).log2 * 2 := Nat.pow_succ 2 _
  have h4 : 1 ≤ 2 ^ (n - 1).log2 := Nat.one_le_two_pow
  omega

def leafB (b : Tx) : Tx := 0 :: b
def nodeB (a b : Int) : Tx := 1 :: (Cm.enc a.toNat ++ Cm.enc b.toNat)
def noneB : Tx := [2]

/-- The digest over leaves, and the table behind it. -/
def rootF : Nat → List Tx → List Tx → Nat × List Tx
  | 0, L, _ => (0, L)
  | f + 1, L, l =>
    if l.length = 0 then (sum L noneB, add L noneB)
    else if l.length = 1 then (sum L (leafB (l.headD [])), add L (leafB (l.headD [])))
    else
      (sum (rootF f (rootF f L (l.take (split l.length))).2 (l.drop (split l.length))).2
          (nodeB (rootF f L (l.take (split l.length))).1 (rootF f (rootF f L (l.take (split l.length))).2 (l.drop (split l.length))).1),
        add (rootF f (rootF f L (l.take (split l.length))).2 (l.drop (split l.length))).2
          (nodeB (rootF f L (l.take (split l.length))).1 (rootF f (rootF f L (l.take (split l.length))).2 (l.drop (split l.length))).1))
def root (L l : List Tx) : Nat × List Tx := rootF (l.length + 1) L l

theorem rootF_eq : ∀ (f g : Nat) (L l : List Tx), l.length < f → l.length < g → rootF f L l = rootF g L l
  | 0, _, _, _, h, _ => by omega
  | _ + 1, 0, _, _, _, h => by omega
  | f + 1, g + 1, L, l, hf, hg => by
    by_cases h0 : l.length = 0
    · simp only [rootF, if_pos h0]
    · by_cases h1 : l.length = 1
      · simp only [rootF, if_neg h0, if_pos h1]
      · obtain ⟨s1, s2, s3⟩ := split_spec (n := l.length) (by omega)
        have e1 : ∀ K, rootF f K (l.take (split l.length)) = rootF g K (l.take (split l.length)) := fun K =>
          rootF_eq f g K _ (by rw [List.length_take]; omega) (by rw [List.length_take]; omega)
        have e2 : ∀ K, rootF f K (l.drop (split l.length)) = rootF g K (l.drop (split l.length)) := fun K =>
          rootF_eq f g K _ (by rw [List.length_drop]; omega) (by rw [List.length_drop]; omega)
        simp only [rootF, if_neg h0, if_neg h1, e1, e2]
theorem rootF_root {f : Nat} {L l : List Tx} (h : l.length < f) : rootF f L l = root L l := rootF_eq f _ L l h (by omega)
theorem root_nil (L : List Tx) : root L [] = (sum L noneB, add L noneB) := rfl
theorem root_one (L : List Tx) {l : List Tx} (h : l.length = 1) : root L l = (sum L (leafB (l.headD [])), add L (leafB (l.headD []))) := by
  unfold root rootF
  rw [if_neg (by omega), if_pos h]
/-- Of more: of the first part, of the other one, and of both. -/
theorem root_more (L : List Tx) {l : List Tx} (h : 2 ≤ l.length) : root L l =
    (sum (root (root L (l.take (split l.length))).2 (l.drop (split l.length))).2
        (nodeB (root L (l.take (split l.length))).1 (root (root L (l.take (split l.length))).2 (l.drop (split l.length))).1),
      add (root (root L (l.take (split l.length))).2 (l.drop (split l.length))).2
        (nodeB (root L (l.take (split l.length))).1 (root (root L (l.take (split l.length))).2 (l.drop (split l.length))).1)) := by
  obtain ⟨s1, s2, s3⟩ := split_spec h
  have e1 : ∀ K, rootF l.length K (l.take (split l.length)) = root K (l.take (split l.length)) := fun K => rootF_root (by rw [List.length_take]; omega)
  have e2 : ∀ K, rootF l.length K (l.drop (split l.length)) = root K (l.drop (split l.length)) := fun K => rootF_root (by rw [List.length_drop]; omega)
  conv => lhs; unfold root rootF
  rw [if_neg (by omega), if_neg (by omega)]
  simp only [e1, e2]

/-- How many digests a proof has. -/
def lenF : Nat → Nat → Nat → Nat
  | 0, _, _ => 0
  | f + 1, i, n => if n ≤ 1 then 0 else if i < split n then lenF f i (split n) + 1 else lenF f (i - split n) (n - split n) + 1
def len (i n : Nat) : Nat := lenF (n + 1) i n
/-- The number that a text has already. -/
def look (L : List Tx) (s : Tx) : Option Nat := if num L s = 0 then none else some (num L s)
theorem look_some {L : List Tx} {s : Tx} {d : Nat} : look L s = some d ↔ num L s = d ∧ d ≠ 0 := by
  unfold look
  split
  · rename_i h
    constructor
    · intro e; cases e
    · rintro ⟨rfl, h2⟩; exact absurd h h2
  · rename_i h
    constructor
    · intro e; injection e with e; subst e; exact ⟨rfl, h⟩
    · rintro ⟨rfl, h2⟩; rfl
/-- The table knows the digest over these leaves, and over all parts of them. -/
def hasF : Nat → List Tx → List Tx → Nat → Prop
  | 0, _, _, _ => False
  | f + 1, L, l, d =>
    if l.length = 0 then look L noneB = some d
    else if l.length = 1 then look L (leafB (l.headD [])) = some d
    else ∃ a b, hasF f L (l.take (split l.length)) a ∧ hasF f L (l.drop (split l.length)) b ∧ look L (nodeB (a : Nat) (b : Nat)) = some d
def Has (L l : List Tx) (d : Nat) : Prop := hasF (l.length + 1) L l d
theorem hasF_eq : ∀ (f g : Nat) (L l : List Tx) (d : Nat), l.length < f → l.length < g → (hasF f L l d ↔ hasF g L l d)
  | 0, _, _, _, _, h, _ => by omega
  | _ + 1, 0, _, _, _, _, h => by omega
  | f + 1, g + 1, L, l, d, hf, hg => by
    by_cases h0 : l.length = 0
    · simp only [hasF, if_pos h0]
    · by_cases h1 : l.length = 1
      · simp only [hasF, if_neg h0, if_pos h1]
      · obtain ⟨s1, s2, s3⟩ := split_spec (n := l.length) (by omega)
        have e1 : ∀ a, hasF f L (l.take (split l.length)) a ↔ hasF g L (l.take (split l.length)) a := fun a =>
          hasF_eq f g L _ a (by rw [List.length_take]; omega) (by rw [List.length_take]; omega)
        have e2 : ∀ a, hasF f L (l.drop (split l.length)) a ↔ hasF g L (l.drop (split l.length)) a := fun a =>
          hasF_eq f g L _ a (by rw [List.length_drop]; omega) (by rw [List.length_drop]; omega)
        simp only [hasF, if_neg h0, if_neg h1, e1, e2]
theorem has_nil {L : List Tx} {d : Nat} : Has L [] d ↔ look L noneB = some d := by simp [Has, hasF]
theorem has_one {L l : List Tx} {d : Nat} (h : l.length = 1) : Has L l d ↔ look L (leafB (l.headD [])) = some d := by
  unfold Has hasF
  rw [if_neg (by omega), if_pos h]
theorem has_more {L l : List Tx} {d : Nat} (h : 2 ≤ l.length) :
    Has L l d ↔ ∃ a b, Has L (l.take (split l.length)) a ∧ Has L (l.drop (split l.length)) b ∧ look L (nodeB (a : Nat) (b : Nat)) = some d := by
  obtain ⟨s1, s2, s3⟩ := split_spec h
  have e1 : ∀ a, hasF l.length L (l.take (split l.length)) a ↔ Has L (l.take (split l.length)) a := fun a => hasF_eq _ _ L _ a (by rw [List.length_take]; omega) (by omega)
  have e2 : ∀ a, hasF l.length L (l.drop (split l.length)) a ↔ Has L (l.drop (split l.length)) a := fun a => hasF_eq _ _ L _ a (by rw [List.length_drop]; omega) (by omega)
  conv => lhs; unfold Has hasF
  rw [if_neg (by omega), if_neg (by omega)]
  simp only [e1, e2]

theorem look_grown {L : List Tx} (K : List Tx) {s : Tx} {d : Nat} (h : look L s = some d) : look (L ++ K) s = some d := by
  rw [look_some] at h ⊢
  obtain ⟨rfl, h2⟩ := h
  exact ⟨num_left L K s h2, h2⟩
/-- What is known stays so. -/
theorem Has.grown {L : List Tx} (K : List Tx) : ∀ {l : List Tx} {d : Nat}, Has L l d → Has (L ++ K) l d
  | l, d, h => by
    by_cases h0 : l.length = 0
    · have : l = [] := List.eq_nil_of_length_eq_zero h0
      subst this
      rw [has_nil] at h ⊢
      exact look_grown K h
    · by_cases h1 : l.length = 1
      · rw [has_one h1] at h ⊢
        exact look_grown K h
      · obtain ⟨s1, s2, s3⟩ := split_spec (n := l.length) (by omega)
        rw [has_more (by omega)] at h ⊢
        obtain ⟨a, b, ha, hb, hd⟩ := h
        exact ⟨a, b, ha.grown K, hb.grown K, look_grown K hd⟩
  termination_by l => l.length
  decreasing_by all_goals simp only [List.length_take, List.length_drop]; omega

theorem look_inj {L : List Tx} {s t : Tx} {d : Nat} (h : look L s = some d) (k : look L t = some d) : s = t := by
  rw [look_some] at h k
  have h1 := num_get L s (by omega)
  have h2 := num_get L t (by omega)
  rw [h.1] at h1
  rw [k.1] at h2
  rw [h1] at h2
  injection h2
theorem enc_inj {a b : Nat} {r t : List UInt8} (ha : a < 18446744073709551616) (hb : b < 18446744073709551616) (h : Cm.enc a ++ r = Cm.enc b ++ t) : a = b ∧ r = t := by
  have h1 := Cm.pn_of_enc ha r
  rw [h, Cm.pn_of_enc hb t] at h1
  simp only [Prod.mk.injEq, and_true] at h1
  obtain ⟨h1, _⟩ := h1
  subst h1
  exact ⟨rfl, List.append_cancel_left h⟩
theorem node_inj {a b c d : Int} (ha : a.toNat < 18446744073709551616) (hb : b.toNat < 18446744073709551616) (hc : c.toNat < 18446744073709551616) (hd : d.toNat < 18446744073709551616) (h : nodeB a b = nodeB c d) : a.toNat = c.toNat ∧ b.toNat = d.toNat := by
  unfold nodeB at h
  injection h with _ h
  obtain ⟨h1, h2⟩ := enc_inj ha hc h
  refine ⟨h1, (enc_inj (r := []) (t := []) hb hd ?_).1⟩
  rw [List.append_nil, List.append_nil]
  exact h2
theorem leaf_node (x : Tx) (a b : Int) : leafB x ≠ nodeB a b := by
  intro h
  injection h with h _
  exact absurd h (by decide)
theorem none_node (a b : Int) : noneB ≠ nodeB a b := by
  intro h
  injection h with h _
  exact absurd h (by decide)
theorem none_leaf (x : Tx) : noneB ≠ leafB x := by
  intro h
  injection h with h _
  exact absurd h (by decide)
theorem has_le {L l : List Tx} {d : Nat} (h : Has L l d) : d ≤ L.length := by
  have key : ∀ s, look L s = some d → d ≤ L.length := fun s hs => by
    rw [look_some] at hs
    have := num_le L s
    omega
  by_cases h0 : l.length = 0
  · have : l = [] := List.eq_nil_of_length_eq_zero h0
    subst this
    rw [has_nil] at h
    exact key _ h
  · by_cases h1 : l.length = 1
    · rw [has_one h1] at h
      exact key _ h
    · rw [has_more (by omega)] at h
      obtain ⟨a, b, _, _, h⟩ := h
      exact key _ h
theorem one_of {l : List Tx} (h : l.length = 1) : l = [l.headD []] := by
  match l, h with
  | [x], _ => rfl

/-- Unlike lists, unlike digests. -/
theorem apart : ∀ {l m L : List Tx} {d : Nat}, L.length ≤ 1048576 → Has L l d → Has L m d → l = m
  | l, m, L, d, hL, h, k => by
    by_cases h0 : l.length = 0
    · have e : l = [] := List.eq_nil_of_length_eq_zero h0
      subst e
      rw [has_nil] at h
      by_cases k0 : m.length = 0
      · exact (List.eq_nil_of_length_eq_zero k0).symm
      · by_cases k1 : m.length = 1
        · rw [has_one k1] at k
          exact absurd (look_inj h k) (none_leaf _)
        · rw [has_more (by omega)] at k
          obtain ⟨a, b, _, _, k⟩ := k
          exact absurd (look_inj h k) (none_node _ _)
    · by_cases h1 : l.length = 1
      · rw [has_one h1] at h
        by_cases k0 : m.length = 0
        · have e : m = [] := List.eq_nil_of_length_eq_zero k0
          subst e
          rw [has_nil] at k
          exact absurd (look_inj k h) (none_leaf _)
        · by_cases k1 : m.length = 1
          · rw [has_one k1] at k
            have e := look_inj h k
            injection e with _ e
            rw [one_of h1, one_of k1, e]
          · rw [has_more (by omega)] at k
            obtain ⟨a, b, _, _, k⟩ := k
            exact absurd (look_inj h k) (leaf_node _ _ _)
      · obtain ⟨s1, s2, s3⟩ := split_spec (n := l.length) (by omega)
        rw [has_more (by omega)] at h
        obtain ⟨a, b, ha, hb, h⟩ := h
        by_cases k0 : m.length = 0
        · have e : m = [] := List.eq_nil_of_length_eq_zero k0
          subst e
          rw [has_nil] at k
          exact absurd (look_inj k h) (none_node _ _)
        · by_cases k1 : m.length = 1
          · rw [has_one k1] at k
            exact absurd (look_inj k h) (leaf_node _ _ _)
          · rw [has_more (by omega)] at k
            obtain ⟨a', b', ka, kb, k⟩ := k
            have la := has_le ha
            have lb := has_le hb
            have la' := has_le ka
            have lb' := has_le kb
            obtain ⟨e1, e2⟩ := node_inj (by omega) (by omega) (by omega) (by omega) (look_inj h k)
            have e1 : a = a' := by omega
            have e2 : b = b' := by omega
            subst e1; subst e2
            have f1 := apart hL ha ka
            have f2 := apart hL hb kb
            rw [← List.take_append_drop (split l.length) l, f1, f2, List.take_append_drop]
  termination_by l => l.length
  decreasing_by all_goals simp only [List.length_take, List.length_drop]; omega
end Go.Proofs.YtobphijbhghgmaaGreat.Mm

/-
  The plain mathematics of layer 9's execution: what a batch that is executed comes to. No program is named here.
-/
namespace Go.Proofs.YtobphijbhghgmaaGreat.Zg
set_option linter.unusedSimpArgs false
open Cm Pm Jm Jn Tm Tn Tq Za
open Im (num isIn add sum)
set_option linter.unusedVariables false

/-- The bytes of a record and its place. -/
def plB (x : Tx × Int × Tx) : Tx := encB x.1 ++ enc (max x.2.1 0).toNat ++ encB x.2.2
/-- One request more. -/
def appF (a : List (Tx × Int × Tx) × St) (d : Sd) : List (Tx × Int × Tx) × St := (a.1 ++ (appS a.2 d.q.client d.q.time d.q.o).2.1, (appS a.2 d.q.client d.q.time d.q.o).2.2.2)
/-- The requests of a batch: what was put, and the topics behind them. -/
def appL (s : St) (l : List Sd) : List (Tx × Int × Tx) × St := l.foldl appF ([], s)
theorem appL_nil (s : St) : appL s [] = ([], s) := rfl
def hdigR (L : List Tx) (h : H) : Int × Int := if hcheck h ≠ 0 then (0, hcheck h) else if sum L (hraw h) = 0 then (0, 6) else ((sum L (hraw h) : Int), 0)
def hdigT (L : List Tx) (h : H) : List Tx := if hcheck h ≠ 0 then L else add L (hraw h)
/-- What a header says of what came of its batch. -/
def endT (L : List Tx) (pl : List (Tx × Int × Tx)) (s : St) : List Tx := add (Mm.root L (pl.map plB)).2 (stB s)
def endR (L : List Tx) (h : H) (pl : List (Tx × Int × Tx)) (s : St) : H × Int :=
  if (Mm.root L (pl.map plB)).1 = 0 ∨ sum (Mm.root L (pl.map plB)).2 (stB s) = 0 then (H.zero, 6)
  else (⟨h.seq, h.prev, h.batch, ((Mm.root L (pl.map plB)).1 : Int), (sum (Mm.root L (pl.map plB)).2 (stB s) : Int)⟩, 0)
/-- What a header says of what is there ahead of its batch. -/
def beginR (L : List Tx) (last : H) (b : List Sd) : H × Int :=
  if hcheck last ≠ 0 then (H.zero, hcheck last)
  else if last.seq = 9007199254740992 then (H.zero, 6)
  else if (digR L b).2 ≠ 0 then (H.zero, (digR L b).2)
  else if (hdigR (digT L b) last).2 ≠ 0 then (H.zero, (hdigR (digT L b) last).2)
  else (⟨last.seq + 1, (hdigR (digT L b) last).1, (digR L b).1, 0, 0⟩, 0)
def beginT (L : List Tx) (last : H) (b : List Sd) : List Tx :=
  if hcheck last ≠ 0 then L
  else if last.seq = 9007199254740992 then L
  else if (digR L b).2 ≠ 0 then digT L b
  else hdigT (digT L b) last
/-- A batch that is executed: the header and the error, the table, the topics. -/
def execR (L : List Tx) (s : St) (last : H) (b : List Sd) : H × Int :=
  if (beginR L last b).2 ≠ 0 then (H.zero, (beginR L last b).2)
  else if (endR (beginT L last b) (beginR L last b).1 (appL s b).1 (appL s b).2).2 ≠ 0 then (H.zero, (endR (beginT L last b) (beginR L last b).1 (appL s b).1 (appL s b).2).2)
  else ((endR (beginT L last b) (beginR L last b).1 (appL s b).1 (appL s b).2).1, 0)
def execT (L : List Tx) (s : St) (last : H) (b : List Sd) : List Tx :=
  if (beginR L last b).2 ≠ 0 then beginT L last b else endT (beginT L last b) (appL s b).1 (appL s b).2
def execS (L : List Tx) (s : St) (last : H) (b : List Sd) : St :=
  if (beginR L last b).2 ≠ 0 then s else (appL s b).2
/-- Do headers stand on each other? -/
def stands (L : List Tx) (h ahead : H) : Bool := isIn L (hform ahead) && (h.prev == (num L (hform ahead) : Int)) && (h.seq == ahead.seq + 1)
/-- A header of a chain, and the one ahead of it. -/
def chk (L : List Tx) (l : List H) (i : Nat) : Bool := (hcheck (l.getD i H.zero) == 0) && (i == 0 || stands L (l.getD i H.zero) (l.getD (i - 1) H.zero))
def chainB (L : List Tx) (l : List H) : Bool := (List.range l.length).all (chk L l)
end Go.Proofs.YtobphijbhghgmaaGreat.Zg

/-
  Contracts of the program's table: Plain, From.
-/
namespace Go.Proofs.YtobphijbhghgmaaGreat.Ie
set_option linter.unusedSimpArgs false
set_option linter.unusedVariables false
set_option maxRecDepth 100000
open Go Go.RowKit Ck Im Kw Ik Ia Ib Ic Ig

/-- v is a new list of new bytes. -/
def Pl (w : World) (base : Nat) (v : Value) (L : List Tx) : Prop :=
  ∃ vals, w.ownsRow base 25 1 v L.length vals ∧ ∀ i (h : i < L.length), ∃ u, vals[i]? = some u ∧ Out w base u L[i]
theorem Pl.ls {w : World} {base : Nat} {v : Value} {L : List Tx} {X : Nat → Prop} (h : Pl w base v L) (hX : ∀ k, base ≤ k → k < w.heap.size → ¬ X k) : Ls w X v L := by
  obtain ⟨vals, ho, hx⟩ := h
  exact ⟨vals, Sl.of_own ho hX, fun i hi => by obtain ⟨u, hu, hout⟩ := hx i hi; exact ⟨u, hu, hout.sl hX⟩⟩

theorem one_slice (A : Option Addr) (n c : Nat) : ∀ u ∈ [Value.slice A n c], u.oneCell' = true := by
  intro u hu
  simp only [List.mem_cons, List.not_mem_nil, or_false] at hu
  subst hu; rfl
end Go.Proofs.YtobphijbhghgmaaGreat.Ie

/-
  Contracts of bytes.Equal and of the document's table: Same, SameAll, Look, Open, Sum.
-/
namespace Go.Proofs.YtobphijbhghgmaaGreat.Ih
set_option linter.unusedSimpArgs false
set_option linter.unusedVariables false
set_option maxRecDepth 100000
open Go Go.RowKit Ck Im Kw Ik Ia Ib Ic Ig Ie

theorem equal_any (w : World) (X Y : Nat → Prop) (va vb : Value) (n m : Nat) (l k : List UInt8) (ha : Sl w X 1 va n (BVs l)) (hb : Sl w Y 1 vb m (BVs k)) :
    Calls Tryz.prog 15 #[va, vb] w fun e w' => e = .returned (.bool (l == k)) ∧ w = w' := by
  have hn : n = l.length := by obtain ⟨A, c, _, h, _⟩ := ha; rw [BVs_len] at h; omega
  have hm : m = k.length := by obtain ⟨A, c, _, h, _⟩ := hb; rw [BVs_len] at h; omega
  subst hn; subst hm
  have ha' := ha
  have hb' := hb
  obtain ⟨A, c, rfl, -⟩ := ha'
  obtain ⟨B, d, rfl, -⟩ := hb'
  have c1 := run_convert_sl (P := Tryz.prog) w X 25 9 5 A c l Tryz.underlying25 Tryz.underlying5 Tryz.underlying9 ha
  have c2 := run_convert_sl (P := Tryz.prog) w Y 25 9 5 B d k Tryz.underlying25 Tryz.underlying5 Tryz.underlying9 hb
  clear ha hb
  go_enter Tryz.func15, Tryz.ntmps15
  go_wp2
  go_ret
  exact ⟨rfl, rfl⟩
theorem same_any (w : World) (X Y : Nat → Prop) (va vb : Value) (n m : Nat) (l k : List UInt8) (ha : Sl w X 1 va n (BVs l)) (hb : Sl w Y 1 vb m (BVs k)) :
    Calls Tryz.prog 77 #[va, vb] w fun e w' => e = .returned (.bool (l == k)) ∧ w = w' := by
  have hn : n = l.length := by obtain ⟨A, c, _, h, _⟩ := ha; rw [BVs_len] at h; omega
  have hm : m = k.length := by obtain ⟨A, c, _, h, _⟩ := hb; rw [BVs_len] at h; omega
  subst hn; subst hm
  have ha' := ha
  have hb' := hb
  obtain ⟨A, c, rfl, -⟩ := ha'
  obtain ⟨B, d, rfl, -⟩ := hb'
  have c1 := run_convert_sl (P := Tryz.prog) w X 25 9 5 A c l Tryz.underlying25 Tryz.underlying5 Tryz.underlying9 ha
  have c2 := run_convert_sl (P := Tryz.prog) w Y 25 9 5 B d k Tryz.underlying25 Tryz.underlying5 Tryz.underlying9 hb
  clear ha hb
  go_enter Tryz.func77, Tryz.ntmps77
  go_wp2
  go_ret
  exact ⟨rfl, rfl⟩

theorem Ls.shape {w : World} {X : Nat → Prop} {v : Value} {ls : List (List UInt8)} (h : Ls w X v ls) : ∃ A c, v = .slice A ls.length c := by
  obtain ⟨vals, ⟨A, c, hv, _⟩, _⟩ := h
  exact ⟨A, c, hv⟩

set_option maxHeartbeats 400000 in
theorem rlook_any (w : World) (S X : Nat → Prop) (p : Nat) (L : List Tx) (v : Value) (n : Nat) (b : Tx) (h : Rf w S p L) (hb : Sl w X 1 v n (BVs b)) :
    Calls Tryz.prog 61 #[.pointer (some ⟨p, 0, none⟩), v] w fun e w' => e = .returned (.tuple #[.int .i64 (num L b : Int), .bool (isIn L b)]) ∧ w = w' := by
  obtain ⟨lv, h1, hp, hls, hall, hL⟩ := h
  obtain ⟨A, c, rfl⟩ := Ls.shape hls
  have c0 : w.cell? ⟨p, 0, none⟩ = some (.slice A L.length c) := h1.cell 0
  have hL2 : L.length ≤ 2000000 := by omega
  clear h1 hp hall hL
  go_enter Tryz.func61, Tryz.ntmps61
  go_wp2
  go_loop [6] (fun i => ∃ k : Nat, k ≤ L.length ∧ i = .int .i64 k ∧ num (L.take k) b = 0) (fun i => L.length - (intOf i).toNat)
  case atStart => exact ⟨0, Nat.zero_le _, rfl, rfl⟩
  case round =>
    obtain ⟨k, hk, rfl, hz⟩ := hrel
    have HZ := Lib.hid hz
    clear hz
    by_cases hlt : k < L.length
    · obtain ⟨ad, B, d, rfl, hcell, hx⟩ := hls.at_ hlt
      have hsn := num_snoc (L.take k) L[k] b
      rw [HZ.out, ← List.take_succ_eq_append_getElem hlt, if_neg (by simp)] at hsn
      by_cases heq : L[k] = b
      · have hbq : (L[k] == b) = true := by rw [heq]; exact beq_self_eq_true _
        rw [if_pos heq, List.length_take, Nat.min_eq_left hk] at hsn
        have hn := num_left (L.take (k + 1)) (L.drop (k + 1)) b (by omega)
        rw [List.take_append_drop, hsn] at hn
        have HN := Lib.hid hn
        have HQ := Lib.hid hbq
        have HX := Lib.hid hx
        clear hsn hn heq hx hbq
        go_wp2_with (go_at_call 77; refine (same_any _ _ X _ _ _ _ L[k] b HX.out hb).mono ?_; rintro e w' ⟨he, rfl⟩; rw [HQ.out] at he; subst he)
        go_ret2
        rw [HN.out, isIn_true (by rw [HN.out]; omega)]
        exact ⟨rfl, rfl⟩
      · have hbq : (L[k] == b) = false := by rw [beq_eq_false_iff_ne]; exact heq
        rw [if_neg heq] at hsn
        have HN := Lib.hid hsn
        have HQ := Lib.hid hbq
        have HX := Lib.hid hx
        clear hsn heq hx hbq
        go_wp2_with (go_at_call 77; refine (same_any _ _ X _ _ _ _ L[k] b HX.out hb).mono ?_; rintro e w' ⟨he, rfl⟩; rw [HQ.out] at he; subst he)
        go_round
        case rel => exact ⟨k + 1, by omega, by go_num, HN.out⟩
        case measure => simp [intOf]; omega
    · have hke : k = L.length := by omega
      have hz : num L b = 0 := by have := HZ.out; rw [hke, List.take_length] at this; exact this
      have H0 := Lib.hid hz
      clear hz
      go_wp2
      go_ret2
      rw [H0.out, isIn_false H0.out]
      exact ⟨rfl, rfl⟩

end Go.Proofs.YtobphijbhghgmaaGreat.Ih

/-
  Contract of the document's table: Sum.
-/
namespace Go.Proofs.YtobphijbhghgmaaGreat.Ij
set_option linter.unusedSimpArgs false
set_option linter.unusedVariables false
set_option maxRecDepth 100000
open Go Go.RowKit Ck Im Kw Ik Ia Ib Ic Ig Ie Ih

theorem own_apart {w : World} {b b' n n' s s' : Nat} {e e' : TypeId} {v v' : Value} {xs xs' : List Value} (h : w.ownsRow b e s v n xs) (h' : w.ownsRow b' e' s' v' n' xs') (he : e ≠ e') : v.ownBlock = none ∨ v.ownBlock ≠ v'.ownBlock := by
  rcases h.2 with ⟨rfl, _⟩ | ⟨g, cap, cur, rfl, _, hr, _⟩
  · exact .inl rfl
  · refine .inr ?_
    rcases h'.2 with ⟨rfl, _⟩ | ⟨g', cap', cur', rfl, _, hr', _⟩
    · simp [Value.ownBlock]
    · intro h2
      have h2 : g = g' := by simpa [Value.ownBlock] using h2
      subst h2
      rw [hr] at hr'
      injection hr' with hr'
      injection hr' with _ h3
      exact he h3

/-- What the document's table holds, behind a text more. -/
theorem rf_snoc {w w1 w2 w3 : World} {S : Nat → Prop} {p : Nat} {L : List Tx} {lv v1 v2 v3 : Value} {b : Tx} {vals : List Value} {t : TypeId} (hblk : Blk w p 40 #[lv]) (hp : S p)
    (hvl : vals.length = L.length) (hels : ∀ i (h : i < L.length), ∃ u, vals[i]? = some u ∧ Sl w (fun k => ¬ S k ∨ k = p) 1 u L[i].length (BVs L[i])) (hall : ∀ l ∈ L, l.length ≤ 140737488355328) (hL : L.length < 1048576) (hb : b.length ≤ 140737488355328)
    (h1 : w1.ownsRow w.heap.size 25 1 v1 L.length vals) (b1 : Below w.heap.size w w1) (h2 : w2.ownsRow w1.heap.size 5 1 v2 b.length (BVs b)) (b2 : Below w1.heap.size w1 w2)
    (h3 : Appended (w2.alloc (.cells #[v2] t)) w.heap.size 25 1 v1 (L.length + 1) (vals ++ [v2]) v3 w3) :
    Rf (w3.setCell ⟨p, 0, none⟩ v3) (Up S w (w3.setCell ⟨p, 0, none⟩ v3)) p (L ++ [b]) ∧ Ch S w (w3.setCell ⟨p, 0, none⟩ v3) ∧ Below w.heap.size w w3 := by
  have hpl := hblk.lt
  have b2' : Below w.heap.size w w2 := b1.trans (b2.mono b1.size)
  have b3 : Below w.heap.size w (w2.alloc (.cells #[v2] t)) := b2'.alloc b2'.size _
  have b4 : Below w.heap.size w w3 := b3.grown h3.2.1 b3.size (fun g hg => (h1.lt g hg).1)
  have c5 : Ch S w (w3.setCell ⟨p, 0, none⟩ v3) := (Ch.of_below b4 (Nat.le_refl _)).setCell (p := ⟨p, 0, none⟩) (fun _ => hp) v3
  have hs3 : (w3.setCell ⟨p, 0, none⟩ v3).heap.size = w3.heap.size := by simp [World.setCell]
  have hx : ∀ k, w.heap.size ≤ k → k < w3.heap.size → ¬ (¬ Up S w (w3.setCell ⟨p, 0, none⟩ v3) k ∨ k = p) := by
    rintro k h h' (hn | rfl)
    · exact hn (.inr ⟨h, by rw [hs3]; exact h'⟩)
    · omega
  have o2 : w3.ownsRow w.heap.size 5 1 v2 b.length (BVs b) := by
    exact own_base ((h2.alloc (.cells #[v2] t)).kept h3.2.1 (own_apart h2 (own_below h1 b2) (by decide))) b1.size
  have hw3 := b4.size
  refine ⟨⟨v3, ?_, .inl hp, ⟨vals ++ [v2], ?_, fun i hi => ?_⟩, ?_, ?_⟩, c5, b4⟩
  · have := (hblk.below b4 hpl).set_ 0 v3
    simpa using this
  · have h3' : w3.ownsRow w.heap.size 25 1 v3 (L ++ [b]).length (vals ++ [v2]) := by simpa using h3.1
    exact (Sl.of_own h3' (X := fun k => ¬ Up S w (w3.setCell ⟨p, 0, none⟩ v3) k ∨ k = p) hx).setCell (p := ⟨p, 0, none⟩) (fun _ => .inr rfl) v3
  · by_cases he : i < L.length
    · obtain ⟨u, hu, hsl⟩ := hels i he
      refine ⟨u, by rw [List.getElem?_append_left (by omega)]; exact hu, ?_⟩
      rw [List.getElem_append_left he]
      refine ((hsl.below b4 (fun k h1 h2 => absurd h1 (by omega))).weaken' (Y := fun k => ¬ Up S w (w3.setCell ⟨p, 0, none⟩ v3) k ∨ k = p) ?_).setCell (p := ⟨p, 0, none⟩) (fun _ => .inr rfl) v3
      rintro k _ hX (hn | rfl)
      · exact hX (.inl fun hs => hn (.inl hs))
      · exact hX (.inr rfl)
    · have hie : i = L.length := by simp only [List.length_append, List.length_cons, List.length_nil] at hi; omega
      subst hie
      refine ⟨v2, by rw [List.getElem?_append_right (by omega), hvl, Nat.sub_self]; rfl, ?_⟩
      rw [List.getElem_append_right (Nat.le_refl _)]
      simp only [Nat.sub_self, List.getElem_cons_zero]
      exact (Sl.of_own o2 (X := fun k => ¬ Up S w (w3.setCell ⟨p, 0, none⟩ v3) k ∨ k = p) hx).setCell (p := ⟨p, 0, none⟩) (fun _ => .inr rfl) v3
  · intro l hl
    rcases List.mem_append.1 hl with h2 | h2
    · exact hall l h2
    · simp only [List.mem_cons, List.not_mem_nil, or_false] at h2
      subst h2; exact hb
  · simp only [List.length_append, List.length_cons, List.length_nil]; omega

theorem two_size {w w1 w2 : World} (b1 : Below w.heap.size w w1) (b2 : Below w1.heap.size w1 w2) (o : Obj) : w.heap.size ≤ (w2.alloc o).heap.size := Nat.le_trans b1.size (Nat.le_trans b2.size (by simp))
theorem rf_below {w w1 w2 w3 : World} {o : Obj} {e : TypeId} {n m : Nat} {xs ys : List Value} {v1 v3 : Value} (b1 : Below w.heap.size w w1) (b2 : Below w1.heap.size w1 w2) (h1 : w1.ownsRow w.heap.size e 1 v1 n xs) (h3 : Appended (w2.alloc o) w.heap.size e 1 v1 m ys v3 w3) : Below w.heap.size w w3 := by
  have b2' : Below w.heap.size w w2 := b1.trans (b2.mono b1.size)
  have b3 : Below w.heap.size w (w2.alloc o) := b2'.alloc b2'.size _
  exact b3.grown h3.2.1 b3.size (fun g hg => (h1.lt g hg).1)

/-- What Sum leaves of the document's table. -/
def RSummed (S : Nat → Prop) (p : Nat) (L : List Tx) (b : Tx) (w : World) (e : Ending) (w' : World) : Prop :=
  e = .returned (.int .i64 (sum L b : Int)) ∧ Rf w' (Up S w w') p (add L b) ∧ Ch S w w'

theorem Rf.up {w w' : World} {S : Nat → Prop} {p : Nat} {L : List Tx} (h : Rf w' S p L) : Rf w' (Up S w w') p L := by
  obtain ⟨lv, h1, h2, h3, h4⟩ := h
  refine ⟨lv, h1, .inl h2, h3.weaken ?_, h4⟩
  rintro k _ (hn | rfl)
  · exact .inl fun hs => hn (.inl hs)
  · exact .inr rfl

theorem vals_one {w : World} {X : Nat → Prop} {L : List Tx} {vals : List Value} (hvl : vals.length = L.length) (hels : ∀ i (h : i < L.length), ∃ u, vals[i]? = some u ∧ Sl w X 1 u L[i].length (BVs L[i])) : ∀ u ∈ vals, u.oneCell' = true := by
  intro u hu
  obtain ⟨i, hi, rfl⟩ := List.getElem_of_mem hu
  obtain ⟨u, h1, ⟨A, c, rfl, _⟩⟩ := hels i (by omega)
  rw [List.getElem?_eq_getElem hi] at h1
  injection h1 with h1
  rw [h1]
  rfl

set_option maxRecDepth 100000 in
set_option maxHeartbeats 1000000 in
theorem rsum_any (w : World) (S X : Nat → Prop) (p : Nat) (L : List Tx) (A : Option Addr) (c : Nat) (b : Tx) (h : Rf w S p L) (hb : Sl w X 1 (.slice A b.length c) b.length (BVs b)) (hl : b.length ≤ 140737488355328) :
    Calls Tryz.prog 41 #[.pointer (some ⟨p, 0, none⟩), .slice A b.length c] w (RSummed S p L b w) := by
  have HL := Lib.hid (rlook_any w S X p L _ _ b h hb)
  by_cases hk : num L b = 0
  · have hin := isIn_false hk
    have HT := Lib.hid h
    obtain ⟨lv, h1, hp, hls, hall, hL⟩ := h
    obtain ⟨A', c', rfl⟩ := Ls.shape hls
    by_cases hf : 1048576 ≤ L.length
    · obtain ⟨ha, hs⟩ := add_full hk hf
      have c1 : w.cell? ⟨p, 0, none⟩ = some (.slice A' L.length c') := h1.cell 0
      have HA := Lib.hid ha
      have HS := Lib.hid hs
      have hk0 : (num L b : Int) = 0 := by omega
      have hf' : decide ((1048576 : Int) ≤ (L.length : Int)) = true := by rw [decide_eq_true_eq]; omega
      clear h1 hls hp hall ha hs hk hf hL hl hb
      go_enter Tryz.func41, Tryz.ntmps41
      go_wp2_with (go_at_call 61; refine HL.out.mono ?_; rintro e w' ⟨rfl, rfl⟩)
      go_ret
      refine ⟨by rw [HS.out]; rfl, ?_, Ch.refl S w⟩
      rw [HA.out]
      exact Rf.up HT.out
    · obtain ⟨ha, hs⟩ := add_new hk hf
      have HA := Lib.hid ha
      have HS := Lib.hid hs
      have hf' : decide ((1048576 : Int) ≤ (L.length : Int)) = false := by rw [decide_eq_false_iff_not]; omega
      have hlt : L.length ≤ 2000000 := by omega
      have hlt2 : L.length < 1048576 := by omega
      have HB := Lib.hid hl
      have HBS := Lib.hid hb
      have c1 : w.cell? ⟨p, 0, none⟩ = some (.slice A' L.length c') := h1.cell 0
      obtain ⟨i0, hi0, hz0, hz1, hz2⟩ := info_parts info_sl
      obtain ⟨j0, hj0, hy0, hy1, hy2⟩ := info_parts info_u8
      have hk0 : (num L b : Int) = 0 := by omega
      obtain ⟨vals, hsl, hels⟩ := hls
      have hvl : vals.length = L.length := by obtain ⟨_, _, _, h, _⟩ := hsl; omega
      have hone := vals_one hvl hels
      have H1 := Lib.hid h1
      have HP := Lib.hid (And.intro hp (And.intro hvl (And.intro hels (And.intro hall hlt2))))
      have HSL := Lib.hid hsl
      have HONE := Lib.hid hone
      have hfl : L.length ≤ 140737488355328 := by omega
      have hpl := h1.lt
      clear ha hs hk hf h1 hp hall hL hl hb hsl hels hvl hone hlt2
      go_enter Tryz.func41, Tryz.ntmps41
      go_wp2_with (first
        | (go_at_call 61; refine HL.out.mono ?_; rintro e w' ⟨rfl, rfl⟩)
        | (at_builtin; refine wpList_append_new _ rfl (.const (.slice none 0 0)) (.tmp 25) _ rfl 25 i0 _ 1 24 Tryz.underlying38 hi0 hz0 hz1 hz2 rfl (by omega) rfl _ _ L.length vals rfl HSL.out HONE.out (by simp only [maxLen]; omega) (by omega) ?_; intro A1 d1 w1 ho1 b1)
        | (at_builtin; refine wpList_append_new _ rfl (.const (.slice none 0 0)) (.tmp 27) _ rfl 5 j0 _ 1 1 Tryz.underlying25 hj0 hy0 hy1 hy2 rfl (by omega) rfl _ _ b.length (BVs b) rfl (HBS.out.after b1) (BVs_one _) (by have := HB.out; simp only [maxLen]; omega) (by have := HB.out; omega) ?_; intro A2 d2 w2 ho2 b2)
        | (at_builtin; refine wpList_append_sh _ rfl (.tmp 26) (.tmp 29) _ rfl w.heap.size 25 i0 _ 1 24 Tryz.underlying38 hi0 hz0 hz1 hz2 rfl (by omega) (.slice A1 L.length d1) L.length vals rfl ((own_below ho1 b2).alloc _) (fun _ => False) _ 1 [.slice A2 b.length d2] rfl (one_sv w2 _ _ _ (fun h => h)) (one_slice _ _ _) (by simp only [maxLen]; omega) (by omega) (two_size b1 b2 _) ?_; intro A3 d3 w3 happ3; have k0 := H1.out.below (rf_below b1 b2 ho1 happ3) hpl; have k1 := k0.cell 0; have k2 := k0.frozen 0; simp only [List.getElem?_toArray, List.getElem?_cons_zero] at k1))
      go_ret
      have R := rf_snoc H1.out HP.out.1 HP.out.2.1 HP.out.2.2.1 HP.out.2.2.2.1 HP.out.2.2.2.2 HB.out ho1 b1 ho2 b2 happ3
      refine ⟨by rw [HS.out]; simp, ?_, R.2.1⟩
      rw [HA.out]
      exact R.1
  · have hin := isIn_true hk
    obtain ⟨ha, hs⟩ := add_known hk
    have HT := Lib.hid h
    have HA := Lib.hid ha
    have HS := Lib.hid hs
    clear h ha hs
    go_enter Tryz.func41, Tryz.ntmps41
    go_wp2_with (go_at_call 61; refine HL.out.mono ?_; rintro e w' ⟨rfl, rfl⟩)
    go_ret
    refine ⟨by rw [HS.out]; rfl, ?_, Ch.refl S w⟩
    rw [HA.out]
    exact Rf.up HT.out

end Go.Proofs.YtobphijbhghgmaaGreat.Ij

/-
  Contracts of layer 5's small functions: leafBytes, putDigest, nodeBytes, Leaf, Node, Split, half, isPlace.
-/
namespace Go.Proofs.YtobphijbhghgmaaGreat.Ma
set_option linter.unusedSimpArgs false
open Go Go.RowKit Ck Im Kw Ik Ia Ib Ic Ig Ih Ij Mm
attribute [local go_sem ↓] Go.wp_at_zero Go.wp_at_succ
set_option linter.unusedVariables false

/-- A literal's row. -/
theorem own_lit (w : World) {base : Nat} (hb : base ≤ w.heap.size) (e : TypeId) (cs : Array Value) {n : Nat} (hn : cs.size = n) (hm : n ≤ 65536) {xs : List Value} (hx : xs = cs.toList) :
    (w.alloc (.cells cs e)).ownsRow base e 1 (.slice (some ⟨w.heap.size, 0, none⟩) n n) n xs := by
  subst hx
  refine ⟨by simp [hn], .inr ⟨w.heap.size, n, cs, rfl, hb, heap_alloc_new w _, Nat.le_refl _, by simp only [maxLen]; omega, by omega, ?_⟩⟩
  rw [List.take_of_length_le (by simp; omega)]

set_option maxHeartbeats 400000 in
theorem leafbytes_any (w : World) (X : Nat → Prop) (v : Value) (n : Nat) (b : Tx) (hb : Sl w X 1 v n (BVs b)) (hl : n ≤ 140737488355327) :
    Calls Tryz.prog 99 #[v] w fun e w' => Made w 5 (leafB b) e w' := by
  obtain ⟨i0, hi0, hz0, hz1, hz2⟩ := info_parts info_u8
  have hn : n = b.length := by obtain ⟨A, c, _, h, _⟩ := hb; rw [BVs_len] at h; omega
  subst hn
  go_enter Tryz.func99, Tryz.ntmps99
  go_wp2_with (at_builtin; refine wpList_append_sl _ rfl (.tmp 3) (.tmp 4) _ rfl w.heap.size 5 i0 _ 1 1 Tryz.underlying25 hi0 hz0 hz1 hz2 rfl (by omega) (.slice (some ⟨w.heap.size, 0, none⟩) 1 1) 1 (BVs [0]) rfl (own_lit w (Nat.le_refl _) _ _ (n := 1) rfl (by decide) rfl) X _ b.length (BVs b) rfl (hb.alloc _) (BVs_one _) (by simp only [maxLen]; omega) (by omega) (by simp) ?_; intro v2 w2 happ)
  go_ret
  refine ⟨v2, rfl, ?_, ((Below.refl _ _).alloc (Nat.le_refl _) _).grown happ.2.1 (by simp) (by simp [Value.ownBlock])⟩
  have h := happ.1
  have e : (leafB b).length = 1 + b.length := by simp [leafB]; omega
  rw [e]
  exact h
theorem max_nat (d : Int) (hd : d ≤ 9223372036854775807) : ∃ k : Nat, max d 0 = (k : Int) ∧ d.toNat = k ∧ k ≤ 9223372036854775807 := ⟨d.toNat, by omega, rfl, by omega⟩
theorem wrap_nat (k : Nat) (hk : k ≤ 9223372036854775807) : IntKind.u64.wrap (k : Int) = (k : Int) := by
  simp [IntKind.wrap, IntKind.bits, IntKind.signed]
  omega

set_option maxRecDepth 100000 in
set_option maxHeartbeats 400000 in
theorem putdigest_any (w : World) (X : Nat → Prop) (v : Value) (n : Nat) (b : Tx) (d : Int) (hv : Sl w X 1 v n (BVs b)) (hn : n ≤ 1099511627776) (hd : d ≤ 9223372036854775807) :
    Calls Tryz.prog 119 #[v, .int .i64 d] w fun e w' => Made w 5 (b ++ Cm.enc d.toNat) e w' := by
  obtain ⟨k, hk, hk2, hk3⟩ := max_nat d hd
  rw [hk2]
  have hw := wrap_nat k hk3
  have HC := Lib.hid (Cb.putnum_any X v n b k w hv (by omega) (by omega))
  clear hv hn hd hk2 hk3
  go_enter Tryz.func119, Tryz.ntmps119
  go_wp2_with fail
  refine HC.out.mono ?_
  rintro e w' ⟨v', rfl, h1, h2⟩
  go_wp2_with fail
  go_ret
  exact ⟨v', rfl, h1, h2⟩

theorem enc_two (a b : Int) : nodeB a b = [1] ++ Cm.enc a.toNat ++ Cm.enc b.toNat := by simp [nodeB]
set_option maxHeartbeats 400000 in
theorem nodebytes_any (w : World) (a b : Int) (ha : a ≤ 9223372036854775807) (hb : b ≤ 9223372036854775807) :
    Calls Tryz.prog 100 #[.int .i64 a, .int .i64 b] w fun e w' => Made w 5 (nodeB a b) e w' := by
  have hla := (Cm.enc_len a.toNat).1
  go_enter Tryz.func100, Tryz.ntmps100
  go_wp2_with fail
  have HS := Lib.hid (Cd.one_new w (fun _ => False) 5 (z := 1) (n := 1) rfl (by omega) (fun h => h))
  refine (putdigest_any _ _ _ _ _ a HS.out (by omega) ha).mono ?_
  rintro e w1 ⟨v1, rfl, ho1, hb1⟩
  have HO1 := Lib.hid ho1
  have HB1 := Lib.hid hb1
  clear ho1 hb1
  go_wp2_with fail
  refine (putdigest_any _ (fun _ => False) v1 _ ([UInt8.ofNat 1] ++ Cm.enc a.toNat) b (Sl.of_own HO1.out (fun _ _ _ h => h)) (by simp; omega) hb).mono ?_
  rintro e w2 ⟨v2, rfl, ho2, hb2⟩
  go_wp2_with fail
  go_ret
  have b0 : Below w.heap.size w (w.alloc (.cells #[.int .u8 1] 5)) := (Below.refl _ w).alloc (Nat.le_refl _) _
  have b1 : Below w.heap.size w w1 := b0.trans (HB1.out.mono b0.size)
  refine ⟨v2, rfl, ?_, b1.trans (hb2.mono b1.size)⟩
  rw [enc_two]
  exact own_base ho2 b1.size

theorem Summed.later {S : Nat → Prop} {p : Nat} {L : List Tx} {b : Tx} {w w1 w2 : World} {e : Ending} (b1 : Below w.heap.size w w1) (h : Summed S p L b w1 e w2) : Summed S p L b w e w2 := by
  obtain ⟨he, ht, hc⟩ := h
  refine ⟨he, ht.weaken fun k hk => ?_, (Ch.of_below (S := fun _ => False) b1 (Nat.le_refl _)).mono (fun _ _ h => h.elim) |>.trans hc (fun _ _ h => h)⟩
  rcases hk with hk | ⟨h1, h2⟩
  · exact .inl hk
  · exact .inr ⟨Nat.le_trans b1.size h1, h2⟩
theorem Rf.weaken {S T : Nat → Prop} {w : World} {p : Nat} {L : List Tx} (h : Rf w S p L) (hd : ∀ k, S k → T k) : Rf w T p L := by
  obtain ⟨lv, h1, h2, h3, h4⟩ := h
  exact ⟨lv, h1, hd _ h2, h3.weaken (fun k _ hk => by
    rcases hk with hk | rfl
    · exact .inl fun hs => hk (hd _ hs)
    · exact .inr rfl), h4⟩
theorem RSummed.later {S : Nat → Prop} {p : Nat} {L : List Tx} {b : Tx} {w w1 w2 : World} {e : Ending} (b1 : Below w.heap.size w w1) (h : RSummed S p L b w1 e w2) : RSummed S p L b w e w2 := by
  obtain ⟨he, ht, hc⟩ := h
  refine ⟨he, Rf.weaken ht fun k hk => ?_, (Ch.of_below (S := fun _ => False) b1 (Nat.le_refl _)).mono (fun _ _ h => h.elim) |>.trans hc (fun _ _ h => h)⟩
  rcases hk with hk | ⟨h1, h2⟩
  · exact .inl hk
  · exact .inr ⟨Nat.le_trans b1.size h1, h2⟩
theorem Tb.after {S : Nat → Prop} {w w1 : World} {p : Nat} {L : List Tx} (h : Tb w S p L) (b1 : Below w.heap.size w w1) : Tb w1 S p L := Tb.ch h (Ch.of_below (S := fun _ => False) b1 (Nat.le_refl _)) (fun _ _ h => h)
theorem Rf.after {S : Nat → Prop} {w w1 : World} {p : Nat} {L : List Tx} (h : Rf w S p L) (b1 : Below w.heap.size w w1) : Rf w1 S p L := Rf.ch h (Ch.of_below (S := fun _ => False) b1 (Nat.le_refl _)) (fun _ _ h => h)
/-- Sum at bytes of the call's own. -/
theorem sum_made (w w1 : World) (S : Nat → Prop) (p : Nat) (L : List Tx) (v : Value) (b : Tx) (h : Tb w S p L) (ho : w1.ownsRow w.heap.size 5 1 v b.length (BVs b)) (b1 : Below w.heap.size w w1) (hl : b.length ≤ 140737488355328) :
    Calls Tryz.prog 39 #[.pointer (some ⟨p, 0, none⟩), v] w1 (Summed S p L b w) := by
  obtain ⟨A, c, rfl⟩ := own_shape ho
  exact (sum_yes w1 S (fun _ => False) p L A c b (Tb.after h b1) (Sl.of_own ho (fun _ _ _ h => h)) hl).mono fun _ _ h => Summed.later b1 h
theorem leaf_len (b : Tx) : (leafB b).length = b.length + 1 := by simp [leafB]
theorem node_len (a b : Int) : (nodeB a b).length ≤ 21 := by
  have h1 := (Cm.enc_len a.toNat).1
  have h2 := (Cm.enc_len b.toNat).1
  simp [nodeB]; omega

/-- Leaf. -/
theorem leaf_any (w : World) (S X : Nat → Prop) (p : Nat) (L : List Tx) (v : Value) (n : Nat) (b : Tx) (h : Tb w S p L) (hb : Sl w X 1 v n (BVs b)) (hl : n ≤ 140737488355327) :
    Calls Tryz.prog 81 #[.pointer (some ⟨p, 0, none⟩), v] w (Summed S p L (leafB b) w) := by
  have hn : n = b.length := by obtain ⟨A, c, _, h, _⟩ := hb; rw [BVs_len] at h; omega
  have HL := Lib.hid (leafbytes_any w X v n b hb hl)
  have HT := Lib.hid h
  have hll : (leafB b).length ≤ 140737488355328 := by rw [leaf_len]; omega
  have HLL := Lib.hid hll
  clear h hb hl hn hll
  go_enter Tryz.func81, Tryz.ntmps81
  go_wp2_with fail
  refine HL.out.mono ?_
  rintro e w1 ⟨v1, rfl, ho1, hb1⟩
  have HS := Lib.hid (sum_made w w1 S p L v1 (leafB b) HT.out ho1 hb1 HLL.out)
  clear ho1 hb1
  go_wp2_with fail
  refine HS.out.mono ?_
  rintro e w2 ⟨rfl, ht, hc⟩
  have HR := Lib.hid (And.intro ht hc)
  clear ht hc
  go_wp2_with fail
  go_ret
  exact ⟨rfl, HR.out.1, HR.out.2⟩
/-- Node. -/
theorem node_any (w : World) (S : Nat → Prop) (p : Nat) (L : List Tx) (a b : Int) (h : Tb w S p L) (ha : a ≤ 9223372036854775807) (hb : b ≤ 9223372036854775807) :
    Calls Tryz.prog 82 #[.pointer (some ⟨p, 0, none⟩), .int .i64 a, .int .i64 b] w (Summed S p L (nodeB a b) w) := by
  have HL := Lib.hid (nodebytes_any w a b ha hb)
  have HT := Lib.hid h
  have HLL := Lib.hid (Nat.le_trans (node_len a b) (show 21 ≤ 140737488355328 by omega))
  clear h ha hb
  go_enter Tryz.func82, Tryz.ntmps82
  go_wp2_with fail
  refine HL.out.mono ?_
  rintro e w1 ⟨v1, rfl, ho1, hb1⟩
  have HS := Lib.hid (sum_made w w1 S p L v1 _ HT.out ho1 hb1 HLL.out)
  clear ho1 hb1
  go_wp2_with fail
  refine HS.out.mono ?_
  rintro e w2 ⟨rfl, ht, hc⟩
  have HR := Lib.hid (And.intro ht hc)
  clear ht hc
  go_wp2_with fail
  go_ret
  exact ⟨rfl, HR.out.1, HR.out.2⟩
end Go.Proofs.YtobphijbhghgmaaGreat.Ma

/-
  Contracts of layer 5: Split, half, isPlace, Length; the document's Split and Length.
-/
namespace Go.Proofs.YtobphijbhghgmaaGreat.Mb
set_option linter.unusedSimpArgs false
open Go Go.RowKit Ck Im Kw Ik Ia Ib Ic Ig Ih Ij Mm Ma
attribute [local go_sem ↓] Go.wp_at_zero Go.wp_at_succ
set_option linter.unusedVariables false

theorem split_bitlen {n : Nat} (h : 2 ≤ n) (hn : n ≤ 9223372036854775807) : ∃ k, Lib.bitLen (n - 1) = k + 1 ∧ k ≤ 62 ∧ split n = 2 ^ k := by
  obtain ⟨h1, h2, h3⟩ := Lib.bitLenAux_bounds 64 (n - 1) (by
    have : (2 : Nat) ^ 64 = 18446744073709551616 := by decide
    rw [this]; omega) (by omega)
  have hb : Lib.bitLen (n - 1) = Lib.bitLenAux 64 (n - 1) := rfl
  obtain ⟨k, hk⟩ : ∃ k, Lib.bitLenAux 64 (n - 1) = k + 1 := ⟨Lib.bitLenAux 64 (n - 1) - 1, by omega⟩
  rw [hk] at h2 h3
  simp only [Nat.add_sub_cancel] at h2
  refine ⟨k, by rw [hb, hk], ?_, ?_⟩
  · rcases Nat.lt_or_ge 62 k with h4 | h4
    · have h5 : 2 ^ 63 ≤ 2 ^ k := Nat.pow_le_pow_right (by omega) h4
      have : (2 : Nat) ^ 63 = 9223372036854775808 := by decide
      omega
    · exact h4
  · unfold split
    rw [if_neg (by omega), (Nat.log2_eq_iff (by omega)).2 ⟨h2, h3⟩]

theorem split_small {n : Int} (h : n < 2) : split n.toNat = 0 := by
  unfold split
  rw [if_pos (by omega)]
theorem pow_le62 {k : Nat} (hk : k ≤ 62) : 2 ^ k ≤ 4611686018427387904 ∧ 1 ≤ 2 ^ k := by
  have h := Nat.pow_le_pow_right (n := 2) (by omega) hk
  have : (2 : Nat) ^ 62 = 4611686018427387904 := by decide
  have := Nat.one_le_two_pow (n := k)
  omega

theorem pow_wrap {k : Nat} (hk : k ≤ 62) : wrap64 ((2 : Int) ^ k) = ((2 ^ k : Nat) : Int) := by
  have h := pow_le62 hk
  have e : ((2 : Int) ^ k) = ((2 ^ k : Nat) : Int) := by simp
  rw [e]
  generalize 2 ^ k = x at *
  unfold wrap64
  omega
set_option maxRecDepth 100000 in
set_option maxHeartbeats 400000 in
theorem split_any (w : World) (n : Int) (hn : n ≤ 9223372036854775807) :
    Calls Tryz.prog 76 #[.int .i64 n] w fun e w' => e = .returned (.int .i64 (split n.toNat : Int)) ∧ w = w' := by
  by_cases h2 : n < 2
  · rw [split_small h2]
    clear hn
    go_enter Tryz.func76, Tryz.ntmps76
    go_wp2_with fail
    go_ret
    exact ⟨rfl, rfl⟩
  · obtain ⟨m, rfl⟩ : ∃ m : Nat, n = (m : Int) := ⟨n.toNat, by omega⟩
    obtain ⟨k, hk, hk62, hs⟩ := split_bitlen (n := m) (by omega) (by omega)
    rw [show ((m : Int)).toNat = m from by omega, hs]
    have HB := Lib.hid hk
    have hm2 : 2 ≤ m := by omega
    have hm3 : m ≤ 9223372036854775807 := by omega
    clear hs hn h2 hk
    go_enter Tryz.func76, Tryz.ntmps76
    go_wp2_with fail
    have HC : Hid (∀ W, Calls Tryz.prog 96 #[.int .u64 ((m : Int) - 1)] W fun e w' => e = .returned (.int .i64 ((k : Int) + 1)) ∧ W = w') := Lib.hid fun W => by
      refine (Any.bits_Len Tryz.bitsLen ((m : Int) - 1) W (by omega) (by omega)).mono ?_
      rintro e w' ⟨rfl, rfl⟩
      rw [show ((m : Int) - 1).toNat = m - 1 from by omega, HB.out]
      exact ⟨rfl, rfl⟩
    refine (HC.out w).mono ?_
    rintro e w' ⟨rfl, rfl⟩
    go_wp2_with fail
    go_ret
    exact ⟨by rw [← pow_wrap hk62]; rfl, rfl⟩

/-- Is i a place of n? (A word of its own: the walk leaves it whole.) -/
def isPl (i n : Int) : Bool := decide (0 ≤ i ∧ i < n)
theorem isPl_yes {i n : Int} (h : 0 ≤ i) (h' : i < n) : isPl i n = true := by simp [isPl, h, h']
theorem isPl_no {i n : Int} (h : ¬ (0 ≤ i ∧ i < n)) : isPl i n = false := by simp only [isPl, decide_eq_false_iff_not]; exact h
theorem isplace_any (w : World) (i n : Int) :
    Calls Tryz.prog 73 #[.int .i64 i, .int .i64 n] w fun e w' => e = .returned (.bool (isPl i n)) ∧ w = w' := by
  by_cases h0 : 0 ≤ i
  · by_cases h1 : i < n
    · have HP := Lib.hid (isPl_yes h0 h1)
      go_enter Tryz.func73, Tryz.ntmps73
      go_wp2_with fail
      go_ret
      exact ⟨by rw [HP.out]; rfl, rfl⟩
    · have HP := Lib.hid (isPl_no (i := i) (n := n) (by omega))
      go_enter Tryz.func73, Tryz.ntmps73
      go_wp2_with fail
      go_ret
      exact ⟨by rw [HP.out]; rfl, rfl⟩
  · have HP := Lib.hid (isPl_no (i := i) (n := n) (by omega))
    go_enter Tryz.func73, Tryz.ntmps73
    go_wp2_with fail
    go_ret
    exact ⟨by rw [HP.out]; rfl, rfl⟩

end Go.Proofs.YtobphijbhghgmaaGreat.Mb
