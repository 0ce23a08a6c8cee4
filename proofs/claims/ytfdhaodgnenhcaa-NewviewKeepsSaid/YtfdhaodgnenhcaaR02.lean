/-
  Layer 6 (op): the contracts of parts and records (a row of their own, the parts shared), of slices.Clone at records, of EqualFunc and Same.
-/
import Derived.Test.YtfdhaodgnenhcaaR01
import Derived.Test.YtfdhaodgnenhcaaRCi
import Derived.Lib.SliceRun
import Derived.Lib.MinMax
import Derived.Lib.SlBytesConst
import Derived.Deep.QuietTactic
import Derived.BigQuiet
import Derived.Deep.RegionWith
import Derived.Deep.RegionHeld3
import Derived.Deep.RegionLaw
import Derived.Deep.DrawnRows
import Derived.Deep.AppendLies
import Derived.Laws.CopyOwn
import Derived.RegionTactic
import Derived.Lib.ConvBytes
import Derived.Test.YtfdhaodgnenhcaaRows
import Derived.Maps.OwnSet
import Derived.Maps.StringElems
import Derived.DeepKeys4
import Derived.Laws.StructEq
namespace Go.Proofs.Ytfdhaodgnenhcaa.Ppi
set_option linter.unusedSimpArgs false
open Go Go.RowKit Ck Kw Ca Cb Ci Pm Pa Pe Pg
set_option linter.unusedVariables false

theorem info_rec : (Try.prog.info? 86).map (fun i => (i.zero, i.size, i.bytes)) = some (some (.slice none 0 0), 1, 24) := by kernel_rfl

set_option maxHeartbeats 1000000 in
theorem rclone_any (w : World) (X : Nat → Prop) (A : Option Addr) (c : Nat) (ls : List Tx) (hls : Ls w X (.slice A ls.length c) ls) (hl : ls.length * 24 ≤ 140737488355328) :
    Calls Try.prog 44 #[.slice A ls.length c] w fun e w' => ∃ v vals, e = .returned v ∧ w'.ownsRow w.heap.size 86 1 v ls.length vals ∧ (∀ i (hi : i < ls.length), ∃ u, vals[i]? = some u ∧ Sl w X 1 u ls[i].length (BVs ls[i])) ∧ Below w.heap.size w w' := by
  obtain ⟨vals, h1, h2⟩ := hls
  have HE := Lib.hid h2
  have hvl : vals.length = ls.length := by obtain ⟨_, _, _, h, _⟩ := h1; omega
  have H1 : ∀ u ∈ vals, u.oneCell' = true := by
    intro u hu
    obtain ⟨i, hi, rfl⟩ := List.getElem_of_mem hu
    obtain ⟨u', hu', h3⟩ := h2 i (by omega)
    obtain ⟨B, d, rfl, -⟩ := h3
    rw [List.getElem?_eq_getElem hi] at hu'
    rw [Option.some.inj hu']
    rfl
  have HONE := Lib.hid H1
  have HVL := Lib.hid hvl
  obtain ⟨i0, hi0, hz0, hz1, hz2⟩ := info_parts info_rec
  have heq := fun (W : World) => Lib.run_eql_slice_nil (P := Try.prog) W 65 86 A ls.length c 0 0 Try.underlying65
  clear h2 H1 hvl
  rcases A with _ | ad
  · obtain ⟨h0, hv0⟩ := h1.none_
    have hb : ls = [] := List.eq_nil_of_length_eq_zero h0
    subst hb
    simp only [List.length_nil] at heq
    clear h1 h0 hv0
    go_enter Try.func44, Try.ntmps44
    go_wp2
    go_ret
    exact ⟨_, [], rfl, World.ownsRow_nil _ _ _ _, fun i hi => absurd hi (by simp), Below.refl _ _⟩
  · go_enter Try.func44, Try.ntmps44
    go_wp2_with (at_builtin; refine wpList_append_sl _ rfl (.tmp 5) (.tmp 6) _ rfl w.heap.size 86 i0 _ 1 24 Try.underlying65 hi0 hz0 hz1 hz2 rfl (by omega) (.slice (some ⟨w.heap.size, 0, none⟩) 0 0) 0 [] rfl (World.ownsRow_made w #[] 0 (Nat.le_refl _) (by simp only [maxLen]; omega) rfl) X _ ls.length vals rfl (h1.alloc _) HONE.out (by simp only [maxLen]; omega) (by omega) (by simp) ?_; intro v2 w2 happ)
    go_ret
    refine ⟨v2, vals, rfl, by simpa using happ.1, HE.out, ?_⟩
    exact ((Below.refl _ _).alloc (Nat.le_refl _) _).grown happ.2.1 (by simp) (by simp [Value.ownBlock])

end Go.Proofs.Ytfdhaodgnenhcaa.Ppi

/-
  Contracts of bytes.Clone and bytes.Equal; cuts of a slice of bytes; for any layer.
-/
namespace Go.Proofs.Ytfdhaodgnenhcaa.Ga
set_option linter.unusedSimpArgs false
set_option linter.unusedVariables false
open Go Go.RowKit Ck Kw

theorem info_u8 : (Try.prog.info? 5).map (fun i => (i.zero, i.size, i.bytes)) = some (some (.int .u8 0), 1, 1) := by kernel_rfl
set_option maxHeartbeats 400000 in
theorem clone_any (X : Nat → Prop) (v : Value) (n : Nat) (b : List UInt8) (w : World) (hv : Sl w X 1 v n (BVs b)) (hn : n ≤ 549755813888) :
    Calls Try.prog 45 #[v] w fun e w' => Made w 5 b e w' := by
  have hnl : n = b.length := by obtain ⟨A, c, _, h, _⟩ := hv; rw [BVs_len] at h; omega
  subst hnl
  obtain ⟨i0, hi0, hz0, hz1, hz2⟩ := info_parts info_u8
  have hv' := hv
  obtain ⟨A, c, rfl, -⟩ := hv'
  have heq := fun (W : World) => Lib.run_eql_slice_nil (P := Try.prog) W 85 5 A b.length c 0 0 Try.underlying85
  rcases A with _ | ad
  · obtain ⟨h0, _⟩ := hv.none_
    have hb : b = [] := List.eq_nil_of_length_eq_zero h0
    subst hb
    simp only [List.length_nil] at heq
    clear hv h0
    go_enter Try.func45, Try.ntmps45
    go_wp2
    go_ret
    exact ⟨_, rfl, World.ownsRow_nil _ _ _ _, Below.refl _ _⟩
  · go_enter Try.func45, Try.ntmps45
    go_wp2_with (at_builtin; refine wpList_append_sl _ rfl (.tmp 5) (.tmp 6) _ rfl w.heap.size 5 i0 _ 1 1 Try.underlying85 hi0 hz0 hz1 hz2 rfl (by omega) (.slice (some ⟨w.heap.size, 0, none⟩) 0 0) 0 [] rfl (World.ownsRow_made w #[] 0 (Nat.le_refl _) (by simp only [maxLen]; omega) rfl) X _ b.length (BVs b) rfl (hv.alloc _) (BVs_one _) (by simp only [maxLen]; omega) (by omega) (by simp) ?_; intro v2 w2 happ)
    go_ret
    refine ⟨v2, rfl, by simpa using happ.1, ?_⟩
    exact ((Below.refl _ _).alloc (Nat.le_refl _) _).grown happ.2.1 (by simp) (by simp [Value.ownBlock])

theorem below_of_drew {B : Nat} {w w2 : World} (h : Below B w.drew w2) : Below B w w2 := ⟨h.os, h.tape, h.output, h.size, h.block⟩
theorem wrap64 {z : Int} (h : -9223372036854775808 ≤ z) (h' : z ≤ 9223372036854775807) : IntKind.i64.wrap z = z := by
  simp [IntKind.wrap, IntKind.bits, IntKind.signed]
  split <;> omega

end Go.Proofs.Ytfdhaodgnenhcaa.Ga

/-
  Bytes made out of a text, for any layer.
-/
namespace Go.Proofs.Ytfdhaodgnenhcaa.Kx
set_option linter.unusedSimpArgs false
set_option linter.unusedVariables false
open Go Go.RowKit Ck Kw Ga
/-- v is new bytes, made out of a text. -/
def Out (w : World) (base : Nat) (v : Value) (l : List UInt8) : Prop :=
  ∃ (g cap : Nat) (cs : Array Value) (z : Nat), v = .slice (some ⟨g, 0, none⟩) l.length cap ∧ base ≤ g ∧ w.heap[g]? = some (.cells cs 5 (z, z + 1)) ∧ l.length ≤ z ∧ l.length ≤ cap ∧ cap ≤ maxLen ∧ ∀ (j : Nat) (u : Value), (BVs l)[j]? = some u → cs[j]? = some u
theorem Out.sl {w : World} {base : Nat} {v : Value} {l : List UInt8} {X : Nat → Prop} (h : Out w base v l) (hX : ∀ k, base ≤ k → k < w.heap.size → ¬ X k) : Sl w X 1 v l.length (BVs l) := by
  obtain ⟨g, cap, cs, z, rfl, hb, hg, hz, hc, hm, hx⟩ := h
  have hlt := (Array.getElem?_eq_some_iff.1 hg).1
  refine ⟨_, _, rfl, by simp [BVs_len], hc, hm, fun _ => ⟨_, rfl, hlt, hX g hb hlt, fun j u hu => ?_⟩⟩
  have ha : (⟨g, 0, none⟩ : Addr).add j = ⟨g, j, none⟩ := by unfold Addr.add; split <;> simp_all
  rw [ha]
  simp only [World.cell?, hg]
  exact hx j u hu
theorem Out.ch {w w' : World} {base : Nat} {v : Value} {l : List UInt8} {S : Nat → Prop} (h : Out w base v l) (c : Ch S w w') (hS : ∀ k, base ≤ k → k < w.heap.size → ¬ S k) : Out w' base v l := by
  obtain ⟨g, cap, cs, z, rfl, hb, hg, r⟩ := h
  exact ⟨g, cap, cs, z, rfl, hb, (c.block g (Array.getElem?_eq_some_iff.1 hg).1 (hS g hb (Array.getElem?_eq_some_iff.1 hg).1)).trans hg, r⟩
theorem Out.base {w : World} {base b' : Nat} {v : Value} {l : List UInt8} (h : Out w base v l) (hb : b' ≤ base) : Out w b' v l := by
  obtain ⟨g, cap, cs, z, hv, h1, r⟩ := h
  exact ⟨g, cap, cs, z, hv, Nat.le_trans hb h1, r⟩
end Go.Proofs.Ytfdhaodgnenhcaa.Kx

/-
  Layer 6 (op): there and back, in the plain mathematics: what is put is read, what is read has those bytes, no operation's bytes begin another one's; the document's loop over records reads what a list's reading does.
-/
namespace Go.Proofs.Ytfdhaodgnenhcaa.Pp
set_option linter.unusedSimpArgs false
open Cm Pm
set_option linter.unusedVariables false

theorem O_ext {a b : O} (h1 : a.kind = b.kind) (h2 : a.topic = b.topic) (h3 : a.group = b.group) (h4 : a.off = b.off) (h5 : a.recs = b.recs) : a = b := by
  cases a; cases b; simp_all
end Go.Proofs.Ytfdhaodgnenhcaa.Pp

/-
  The plain mathematics of layer 8 (request): which requests, signatures and batches may be, their bytes, and what is read of bytes; there and back. No program is named here.
-/
namespace Go.Proofs.Ytfdhaodgnenhcaa.Jm
set_option linter.unusedSimpArgs false
open Cm Pm Pp
set_option linter.unusedVariables false

/-- A request. -/
structure Q where
  client : Int
  time : Int
  o : O
deriving DecidableEq
def Q.zero : Q := ⟨0, 0, O.zero⟩
/-- A signed request. -/
structure Sd where
  q : Q
  s : Int × Int
deriving DecidableEq
def Sd.zero : Sd := ⟨Q.zero, (0, 0)⟩
def isC (c : Int) : Bool := decide (0 ≤ c) && decide (c < 8)
def key (c : Int) : Int := if isC c then 13 + c else -1
def qbad (x : Q) : Bool := !isC x.client || decide (x.time < 1) || decide (9007199254740992 < x.time)
def qcheck (x : Q) : Int := if qbad x then 80 else check x.o
def sbad (s : Int × Int) : Bool := decide (s.1 < 0) || decide (21 ≤ s.1) || decide (s.2 < 1) || decide (9007199254740992 < s.2)
def scheck (s : Int × Int) : Int := if sbad s then 81 else 0
def dcheck (x : Sd) : Int := if qcheck x.q ≠ 0 then qcheck x.q else scheck x.s
def lcheck : List Sd → Int
  | [] => 0
  | x :: l => if dcheck x ≠ 0 then dcheck x else lcheck l
def mom (x : Sd) : Int × Int := (x.q.client, x.q.time)
/-- Does one of the first j have the moment of x? -/
def hasM (l : List Sd) (x : Sd) : Bool := l.any fun y => mom x == mom y
/-- Does a moment stand twice, behind the first ones? -/
def twI : List Sd → List Sd → Bool
  | _, [] => false
  | p, x :: l => hasM p x || twI (p ++ [x]) l
def twice (l : List Sd) : Bool := twI [] l
def bcheck (l : List Sd) : Int := if 4 < l.length then 3 else if lcheck l ≠ 0 then lcheck l else if twice l then 5 else 0

def qraw (x : Q) : Tx := enc x.client.toNat ++ (enc x.time.toNat ++ raw x.o)
def sraw (s : Int × Int) : Tx := enc s.1.toNat ++ enc s.2.toNat
def dB (x : Sd) : Tx := encB (qraw x.q) ++ sraw x.s
def braw (l : List Sd) : Tx := enc l.length ++ l.flatMap dB
theorem isC_iff (c : Int) : isC c = true ↔ 0 ≤ c ∧ c < 8 := by simp [isC]
theorem qcheck_ok {x : Q} (h : qcheck x = 0) : (0 ≤ x.client ∧ x.client < 8) ∧ (1 ≤ x.time ∧ x.time ≤ 9007199254740992) ∧ check x.o = 0 := by
  unfold qcheck at h
  split at h
  · cases h
  · rename_i h1
    simp only [qbad, Bool.or_eq_true, Bool.not_eq_true', decide_eq_true_eq, not_or, Bool.not_eq_false] at h1
    have := (isC_iff _).1 h1.1.1
    exact ⟨this, ⟨by omega, by omega⟩, h⟩
/-! There and back. -/
end Go.Proofs.Ytfdhaodgnenhcaa.Jm

/-
  Plain mathematics of layer 15 (prepared): lists of certificates, what is put, let go, and told.
-/
namespace Go.Proofs.Ytfdhaodgnenhcaa.Pra
set_option linter.unusedSimpArgs false
set_option linter.unusedVariables false
open Go Jm

/-- A certificate. -/
structure Pd where
  view : Int
  seq : Int
  dig : Int
  first : Int × Int
  signs : List (Int × Int)
  batch : List Sd
deriving DecidableEq
def Pd.zero : Pd := ⟨0, 0, 0, (0, 0), [], []⟩
/-- May the number be one? -/
def okN (n : Int) : Bool := !(decide (n < 1) || decide (9007199254740992 < n))
/-- How many stand ahead of a number. -/
def kOf (l : List Pd) (n : Int) : Nat :=
  match l with
  | [] => 0
  | p :: l => if p.seq < n then kOf l n + 1 else 0
theorem kOf_le (l : List Pd) (n : Int) : kOf l n ≤ l.length := by
  induction l with
  | nil => exact Nat.le_refl _
  | cons p l ih =>
    simp only [kOf, List.length_cons]
    split <;> omega
theorem kOf_low (n : Int) : ∀ (l : List Pd) (i : Nat) (h : i < kOf l n) (hi : i < l.length), l[i].seq < n
  | p :: l, 0, h, _ => by
    simp only [kOf] at h
    split at h
    · assumption
    · omega
  | p :: l, i + 1, h, hi => by
    simp only [kOf] at h
    split at h
    · simpa using kOf_low n l i (by omega) (by simpa using hi)
    · omega
theorem kOf_at (n : Int) : ∀ (l : List Pd) (hi : kOf l n < l.length), ¬ l[kOf l n].seq < n
  | p :: l, hi => by
    simp only [kOf] at hi ⊢
    split
    · rename_i h
      rw [if_pos h] at hi
      simpa using kOf_at n l (by simpa using hi)
    · rename_i h
      simpa using h
/-- Is there one of that number where it would stand? -/
def hadP (l : List Pd) (n : Int) : Option Pd := match l[kOf l n]? with | some p => if p.seq = n then some p else none | none => none
/-- What is kept then, and whether it was put. -/
def putP (l : List Pd) (p : Pd) : List Pd × Bool :=
  if okN p.seq then
    match hadP l p.seq with
    | some q => if p.view ≤ q.view then (l, false) else (l.take (kOf l p.seq) ++ p :: l.drop (kOf l p.seq + 1), true)
    | none => (l.take (kOf l p.seq) ++ p :: l.drop (kOf l p.seq), true)
  else (l, false)
def getP (l : List Pd) (n : Int) : Option Pd := l.find? (fun p => p.seq == n)
def slideP (l : List Pd) (low : Int) : List Pd := l.filter (fun p => decide (low < p.seq))
def Rise (l : List Pd) : Prop := l.Pairwise (fun a b => a.seq < b.seq) ∧ ∀ p ∈ l, okN p.seq = true
theorem rise_nil : Rise [] := ⟨List.Pairwise.nil, fun _ h => by simp at h⟩
theorem okN_iff {n : Int} : okN n = true ↔ 1 ≤ n ∧ n ≤ 9007199254740992 := by
  simp only [okN, Bool.not_eq_true', Bool.or_eq_false_iff, decide_eq_false_iff_not]
  omega
theorem rise_at {l : List Pd} (h : Rise l) {i j : Nat} (hi : i < l.length) (hj : j < l.length) (hij : i < j) : l[i].seq < l[j].seq := List.pairwise_iff_getElem.1 h.1 i j hi hj hij
theorem rise_take {l : List Pd} (h : Rise l) (k : Nat) : Rise (l.take k) := ⟨h.1.sublist (List.take_sublist k l), fun p hp => h.2 p (List.mem_of_mem_take hp)⟩
theorem rise_drop {l : List Pd} (h : Rise l) (k : Nat) : Rise (l.drop k) := ⟨h.1.sublist (List.drop_sublist k l), fun p hp => h.2 p (List.mem_of_mem_drop hp)⟩
theorem rise_slide {l : List Pd} (h : Rise l) (n : Int) : Rise (slideP l n) := ⟨h.1.sublist (List.filter_sublist), fun p hp => h.2 p (List.mem_filter.1 hp).1⟩
theorem take_low {l : List Pd} {n : Int} : ∀ p ∈ l.take (kOf l n), p.seq < n := by
  intro p hp
  obtain ⟨i, hi, rfl⟩ := List.getElem_of_mem hp
  rw [List.length_take] at hi
  rw [List.getElem_take]
  exact kOf_low n l i (by omega) (by omega)
theorem drop_high {l : List Pd} (h : Rise l) {n : Int} : ∀ p ∈ l.drop (kOf l n), n ≤ p.seq := by
  intro p hp
  obtain ⟨i, hi, rfl⟩ := List.getElem_of_mem hp
  rw [List.length_drop] at hi
  rw [List.getElem_drop]
  have h0 := kOf_at n l (by omega)
  rcases Nat.eq_zero_or_pos i with rfl | hp
  · simp only [Nat.add_zero]
    omega
  · have := rise_at h (i := kOf l n) (j := kOf l n + i) (by omega) (by omega) (by omega)
    omega
theorem drop_above {l : List Pd} (h : Rise l) {n : Int} {q : Pd} (hq : l[kOf l n]? = some q) (hn : q.seq = n) : ∀ p ∈ l.drop (kOf l n + 1), n < p.seq := by
  intro p hp
  obtain ⟨i, hi, rfl⟩ := List.getElem_of_mem hp
  rw [List.length_drop] at hi
  rw [List.getElem_drop]
  obtain ⟨h1, h2⟩ := List.getElem?_eq_some_iff.1 hq
  have := rise_at h (i := kOf l n) (j := kOf l n + 1 + i) h1 (by omega) (by omega)
  rw [h2, hn] at this
  exact this
theorem drop_more {l : List Pd} (h : Rise l) {n : Int} (hn : ∀ q, l[kOf l n]? = some q → q.seq ≠ n) : ∀ p ∈ l.drop (kOf l n), n < p.seq := by
  intro p hp
  have h1 := drop_high h p hp
  rcases Int.lt_or_eq_of_le h1 with h2 | h2
  · exact h2
  · exfalso
    obtain ⟨i, hi, rfl⟩ := List.getElem_of_mem hp
    rw [List.length_drop] at hi
    rw [List.getElem_drop] at h2
    rcases Nat.eq_zero_or_pos i with rfl | hp
    · exact hn _ (List.getElem?_eq_getElem (by omega)) h2.symm
    · have h3 := rise_at h (i := kOf l n) (j := kOf l n + i) (by omega) (by omega) (by omega)
      have h4 := kOf_at n l (by omega)
      omega
theorem rise_mid {l r : List Pd} {p : Pd} (hl : Rise l) (hr : Rise r) (h1 : ∀ q ∈ l, q.seq < p.seq) (h2 : ∀ q ∈ r, p.seq < q.seq) (hp : okN p.seq = true) : Rise (l ++ p :: r) := by
  refine ⟨List.pairwise_append.2 ⟨hl.1, List.pairwise_cons.2 ⟨h2, hr.1⟩, fun a ha b hb => ?_⟩, fun q hq => ?_⟩
  · rcases List.mem_cons.1 hb with rfl | hb
    · exact h1 a ha
    · exact Int.lt_trans (h1 a ha) (h2 b hb)
  · rcases List.mem_append.1 hq with hq | hq
    · exact hl.2 q hq
    · rcases List.mem_cons.1 hq with rfl | hq
      · exact hp
      · exact hr.2 q hq
theorem had_some {l : List Pd} {n : Int} {q : Pd} (h : hadP l n = some q) : l[kOf l n]? = some q ∧ q.seq = n := by
  unfold hadP at h
  split at h
  · rename_i p hp
    split at h
    · rename_i e
      obtain rfl := Option.some.inj h
      exact ⟨hp, e⟩
    · cases h
  · cases h
theorem had_none {l : List Pd} {n : Int} (h : hadP l n = none) : ∀ q, l[kOf l n]? = some q → q.seq ≠ n := by
  intro q hq e
  unfold hadP at h
  rw [hq] at h
  simp [e] at h
theorem rise_put {l : List Pd} (h : Rise l) (p : Pd) : Rise (putP l p).1 := by
  unfold putP
  by_cases hp : okN p.seq = true
  · rw [if_pos hp]
    cases hh : hadP l p.seq with
    | some q =>
      simp only
      obtain ⟨h1, h2⟩ := had_some hh
      split
      · exact h
      · exact rise_mid (rise_take h _) (rise_drop h _) take_low (drop_above h h1 h2) hp
    | none => exact rise_mid (rise_take h _) (rise_drop h _) take_low (drop_more h (had_none hh)) hp
  · rw [if_neg hp]
    exact h
/-- What is told of a number behind a put. -/
theorem get_mid {l r : List Pd} {p : Pd} {n : Int} (h1 : ∀ q ∈ l, q.seq < p.seq) (h2 : ∀ q ∈ r, p.seq < q.seq) : getP (l ++ p :: r) n = if n = p.seq then some p else (getP l n).or (getP r n) := by
  unfold getP
  rw [List.find?_append, List.find?_cons]
  by_cases hn : n = p.seq
  · subst hn
    have : l.find? (fun q => q.seq == p.seq) = none := by
      rw [List.find?_eq_none]
      intro q hq
      have := h1 q hq
      simp
      omega
    rw [this, if_pos rfl]
    simp
  · rw [if_neg hn]
    have : (p.seq == n) = false := by rw [beq_eq_false_iff_ne]; omega
    rw [this]
theorem get_none {l : List Pd} {n : Int} (h : ∀ q ∈ l, q.seq ≠ n) : getP l n = none := by
  unfold getP
  rw [List.find?_eq_none]
  intro q hq
  simpa using h q hq
theorem get_app (l r : List Pd) (n : Int) : getP (l ++ r) n = (getP l n).or (getP r n) := by
  unfold getP
  exact List.find?_append
/-- In rising order one looks in one place alone. -/
theorem get_had {l : List Pd} (h : Rise l) (n : Int) : getP l n = hadP l n := by
  have e := List.take_append_drop (kOf l n) l
  have h1 : getP (l.take (kOf l n)) n = none := get_none (fun q hq => by have := take_low q hq; omega)
  have h2 : getP l n = getP (l.drop (kOf l n)) n := by
    conv => lhs; rw [← e]
    rw [get_app, h1, Option.none_or]
  rw [h2]
  cases hh : hadP l n with
  | some q =>
    obtain ⟨q1, q2⟩ := had_some hh
    obtain ⟨h3, h4⟩ := List.getElem?_eq_some_iff.1 q1
    rw [List.drop_eq_getElem_cons h3, h4]
    unfold getP
    rw [List.find?_cons_of_pos (by simp [q2])]
  | none => exact get_none (fun q hq => by have := drop_more h (had_none hh) q hq; omega)
theorem get_put {l : List Pd} (h : Rise l) (p : Pd) (n : Int) :
    getP (putP l p).1 n = if n = p.seq ∧ okN p.seq = true then (match getP l n with | some q => if p.view ≤ q.view then some q else some p | none => some p) else getP l n := by
  unfold putP
  by_cases hp : okN p.seq = true
  · rw [if_pos hp]
    cases hh : hadP l p.seq with
    | some q =>
      obtain ⟨q1, q2⟩ := had_some hh
      obtain ⟨h3, h4⟩ := List.getElem?_eq_some_iff.1 q1
      simp only
      by_cases hv : p.view ≤ q.view
      · rw [if_pos hv]
        by_cases hn : n = p.seq
        · subst hn
          rw [if_pos ⟨rfl, hp⟩, get_had h, hh]
          simp only
          rw [if_pos hv]
        · rw [if_neg (fun hx => hn hx.1)]
      · rw [if_neg hv]
        simp only
        rw [get_mid take_low (drop_above h q1 q2)]
        by_cases hn : n = p.seq
        · subst hn
          rw [if_pos rfl, if_pos ⟨rfl, hp⟩, get_had h, hh]
          simp only
          rw [if_neg hv]
        · rw [if_neg hn, if_neg (fun hx => hn hx.1)]
          have e : l = l.take (kOf l p.seq) ++ q :: l.drop (kOf l p.seq + 1) := by
            rw [← h4, ← List.drop_eq_getElem_cons h3, List.take_append_drop]
          conv => rhs; rw [e]
          rw [get_mid (p := q) (fun x hx => by have := take_low x hx; omega) (fun x hx => by have := drop_above h q1 q2 x hx; omega), if_neg (by omega)]
    | none =>
      simp only
      rw [get_mid take_low (drop_more h (had_none hh))]
      by_cases hn : n = p.seq
      · subst hn
        rw [if_pos rfl, if_pos ⟨rfl, hp⟩, get_had h, hh]
      · rw [if_neg hn, if_neg (fun hx => hn hx.1), ← get_app, List.take_append_drop]
  · rw [if_neg hp, if_neg (fun hx => hp hx.2)]
/-- The greatest view of all that were put for a number. -/
def mostP : List Pd → Int → Option Int
  | [], _ => none
  | p :: l, n => match mostP l n with   -- the list is read from its end: the last put stands first
    | some v => if n = p.seq ∧ okN p.seq = true ∧ v < p.view then some p.view else some v
    | none => if n = p.seq ∧ okN p.seq = true then some p.view else none
def putAll : List Pd → List Pd
  | [] => []
  | p :: l => (putP (putAll l) p).1
theorem rise_all : ∀ l : List Pd, Rise (putAll l)
  | [] => rise_nil
  | p :: l => rise_put (rise_all l) p
/-- The latest stays. -/
theorem latest : ∀ (l : List Pd) (n : Int), (getP (putAll l) n).map (·.view) = mostP l n
  | [], n => rfl
  | p :: l, n => by
    have ih := latest l n
    show (getP (putP (putAll l) p).1 n).map (·.view) = _
    rw [get_put (rise_all l)]
    simp only [mostP]
    rw [← ih]
    cases hg : getP (putAll l) n with
    | none =>
      simp only [Option.map_none]
      split <;> rfl
    | some q =>
      simp only [Option.map_some]
      by_cases hc : n = p.seq ∧ okN p.seq = true
      · rw [if_pos hc]
        by_cases hv : p.view ≤ q.view
        · rw [if_pos hv, if_neg (fun hx => by omega)]
          rfl
        · rw [if_neg hv, if_pos ⟨hc.1, hc.2, by omega⟩]
          rfl
      · rw [if_neg hc, if_neg (fun hx => hc ⟨hx.1, hx.2.1⟩)]
        rfl
end Go.Proofs.Ytfdhaodgnenhcaa.Pra

/-
  Plain mathematics of layer 2 (ideal): the number of a text in a list of texts; what Sum answers and leaves; lists without repeats.
-/
namespace Go.Proofs.Ytfdhaodgnenhcaa.Im
set_option linter.unusedSimpArgs false
set_option linter.unusedVariables false

abbrev Tx := List UInt8
/-- The number of a text among those, from 1 on; 0: it isn't there. -/
def num : List Tx → Tx → Nat
  | [], _ => 0
  | t :: L, s => if t = s then 1 else if num L s = 0 then 0 else num L s + 1

theorem num_cons (t : Tx) (L : List Tx) (s : Tx) : num (t :: L) s = if t = s then 1 else if num L s = 0 then 0 else num L s + 1 := rfl
theorem num_le : ∀ (L : List Tx) (s : Tx), num L s ≤ L.length
  | [], _ => Nat.le_refl _
  | t :: L, s => by
    have := num_le L s
    rw [num_cons]
    split
    · simp
    · split
      · simp
      · simp only [List.length_cons]; omega
theorem num_zero : ∀ (L : List Tx) (s : Tx), num L s = 0 ↔ s ∉ L
  | [], _ => by simp [num]
  | t :: L, s => by
    have := num_zero L s
    rw [num_cons]
    by_cases h : t = s
    · subst h; simp
    · rw [if_neg h]
      by_cases h0 : num L s = 0
      · rw [if_pos h0]
        simp only [List.mem_cons, not_or, true_iff]
        exact ⟨fun e => h e.symm, this.1 h0⟩
      · rw [if_neg h0]
        simp only [List.mem_cons, not_or]
        exact ⟨fun e => by omega, fun e => absurd (this.2 e.2) h0⟩
theorem num_left : ∀ (L K : List Tx) (s : Tx), num L s ≠ 0 → num (L ++ K) s = num L s
  | [], _, s, h => absurd rfl h
  | t :: L, K, s, h => by
    have ih := num_left L K s
    rw [List.cons_append]
    rw [num_cons] at h
    rw [num_cons, num_cons t L]
    by_cases ht : t = s
    · rw [if_pos ht, if_pos ht]
    · rw [if_neg ht] at h
      rw [if_neg ht, if_neg ht]
      by_cases h0 : num L s = 0
      · rw [if_pos h0] at h; exact absurd rfl h
      · rw [ih h0]
theorem num_right : ∀ (L K : List Tx) (s : Tx), num L s = 0 → num (L ++ K) s = if num K s = 0 then 0 else L.length + num K s
  | [], K, s, _ => by
    by_cases h : num K s = 0 <;> simp [h]
  | t :: L, K, s, h => by
    have ih := num_right L K s
    rw [List.cons_append]
    rw [num_cons] at h ⊢
    by_cases ht : t = s
    · rw [if_pos ht] at h; cases h
    · rw [if_neg ht] at h
      rw [if_neg ht]
      by_cases h0 : num L s = 0
      · rw [ih h0]
        by_cases hk : num K s = 0
        · simp [hk]
        · rw [if_neg hk, if_neg hk, if_neg (by omega)]
          simp only [List.length_cons]; omega
      · rw [if_neg h0] at h; cases h
theorem num_one (t s : Tx) : num [t] s = if t = s then 1 else 0 := by
  by_cases h : t = s <;> simp [num, h]
theorem num_snoc (L : List Tx) (t s : Tx) : num (L ++ [t]) s = if num L s ≠ 0 then num L s else if t = s then L.length + 1 else 0 := by
  by_cases h : num L s = 0
  · rw [num_right L [t] s h, num_one]
    by_cases ht : t = s <;> simp [h, ht]
  · rw [num_left L [t] s h, if_pos h]

/-- Is it there? (A word of its own: the walk leaves it whole.) -/
def isIn (L : List Tx) (s : Tx) : Bool := decide (num L s ≠ 0)
/-- What Sum leaves, and what it answers. -/
def add (L : List Tx) (s : Tx) : List Tx := if num L s ≠ 0 then L else if 1048576 ≤ L.length then L else L ++ [s]
def sum (L : List Tx) (s : Tx) : Nat := if num L s ≠ 0 then num L s else if 1048576 ≤ L.length then 0 else L.length + 1
theorem add_full {L : List Tx} {s : Tx} (h : num L s = 0) (hf : 1048576 ≤ L.length) : add L s = L ∧ sum L s = 0 := by simp [add, sum, h, hf]
theorem add_len {L : List Tx} {s : Tx} (h : L.length ≤ 1048576) : (add L s).length ≤ 1048576 := by
  unfold add
  split
  · exact h
  · split
    · exact h
    · simp only [List.length_append, List.length_cons, List.length_nil]; omega
theorem sum_le {L : List Tx} {s : Tx} (h : L.length ≤ 1048576) : sum L s ≤ 1048576 := by
  have := num_le L s
  unfold sum
  split
  · omega
  · split <;> omega
end Go.Proofs.Ytfdhaodgnenhcaa.Im

/-
  Words for memory, for layer 2 (ideal) and any layer above: a change of some blocks and new ones; a slice of strings; the program's table and the document's; the program's ledger and the document's.
-/
namespace Go.Proofs.Ytfdhaodgnenhcaa.Ik
set_option linter.unusedSimpArgs false
set_option linter.unusedVariables false
set_option maxRecDepth 100000
open Go Go.RowKit Ck Kw Im

/-- The map's datum tells each text's number. -/
def Nums (D : DataW Unit) (L : List Tx) : Prop :=
  ∀ s : Tx, Maps.has D (.string s) = isIn L s ∧ D.atKey (.string s) (.lit (.int .i64 0)) = .lit (.int .i64 (num L s : Int))
theorem Nums.empty : Nums (.map []) [] := fun _ => ⟨rfl, rfl⟩
theorem Nums.put {D : DataW Unit} {L : List Tx} {t : Tx} (h : Nums D L) (hD : Maps.IsMap D) (hk : WideAt.IsKeyLit (.string t)) (h0 : num L t = 0) : Nums (D.put (.string t) (.lit (.int .i64 ((L.length : Int) + 1)))) (L ++ [t]) := by
  intro s
  rw [num_snoc]
  by_cases hs : s = t
  · subst hs
    rw [Maps.has_put_same hD hk, Maps.atKey_put_same hD hk, isIn, num_snoc, h0]
    simp
  · have hne : (Lit.string s) ≠ Lit.string t := fun e => hs (by injection e)
    rw [Maps.has_put_other hne, Maps.atKey_put_other hne, (h s).1, (h s).2]
    have ht : ¬ t = s := fun e => hs e.symm
    rw [isIn, isIn, num_snoc]
    by_cases hn : num L s = 0 <;> simp [hn, ht]

section
end

end Go.Proofs.Ytfdhaodgnenhcaa.Ik

/-
  Words for memory, for layer 2's ledgers: signatures, slices of them, the map of them, the program's ledger and the document's.
-/
namespace Go.Proofs.Ytfdhaodgnenhcaa.Lk
set_option linter.unusedSimpArgs false
set_option linter.unusedVariables false
set_option maxRecDepth 100000
open Go Go.RowKit Ck Im Kw Ik

/-- A signature: its key, its digest. -/
abbrev Sg := Int × Int
def GV (s : Sg) : Value := .agg #[.int .i64 s.1, .int .i64 s.2]
def GVs (l : List Sg) : List Value := l.flatMap fun s => [.int .i64 s.1, .int .i64 s.2]
def wfS (s : Sg) : Prop := -9223372036854775808 ≤ s.1 ∧ s.1 ≤ 9223372036854775807 ∧ -9223372036854775808 ≤ s.2 ∧ s.2 ≤ 9223372036854775807
theorem keyLits_int {n : Nat} {t : TypeId} {a : Int} (ht : Try.prog.underlying t = some (.int .i64)) (h : (Lit.int .i64 a).wf = true) : Try.prog.keyLits (n + 1) t [.int .i64 a] = some [.int .i64 a] := by
  simp [Program.keyLits, ht, h]
theorem wf_of {a : Int} (h1 : -9223372036854775808 ≤ a) (h2 : a ≤ 9223372036854775807) : (Lit.int .i64 a).wf = true := WalkArith.wf_i64 (by omega)
theorem cells_sign : Try.prog.cellsOf 39 = 2 := by kernel_rfl
theorem cells_int : Try.prog.cellsOf 3 = 1 := by kernel_rfl
theorem cells_dig : Try.prog.cellsOf 23 = 1 := by kernel_rfl
theorem keytype_sign : Try.prog.keyType 39 = true := by kernel_rfl
def KL (s : Sg) : Lit := .string (keyBytes [.int .i64 s.1, .int .i64 s.2])
theorem key_sign (s : Sg) (h : wfS s) : keyOf Try.prog 39 (GV s) = some (KL s) := by
  obtain ⟨n, hn⟩ : ∃ n, Try.prog.types.size + 1 = n + 1 + 1 := ⟨Try.prog.types.size - 1, by have : 0 < Try.prog.types.size := of_decide_eq_true (by kernel_rfl); omega⟩
  have hf : (GV s).formed Try.prog 39 = true := by simp [GV, Value.formed, Try.underlying39, cells_sign]
  have hl : Try.prog.keyLits (n + 1 + 1) 39 [.int .i64 s.1, .int .i64 s.2] = some [.int .i64 s.1, .int .i64 s.2] := by
    have k1 := keyLits_int (n := n) (t := 3) Try.underlying3 (wf_of h.1 h.2.1)
    have k2 := keyLits_int (n := n) (t := 23) Try.underlying23 (wf_of h.2.2.1 h.2.2.2)
    unfold Program.keyLits
    simp [Try.underlying39, cells_sign, cells_int, cells_dig, k1, k2]
  unfold keyOf
  rw [Try.underlying39, keytype_sign, hf, hn]
  show (if (true && true) = true then (Try.prog.keyLits (n + 1 + 1) 39 [.int .i64 s.1, .int .i64 s.2]).map fun ls => Lit.string (keyBytes ls) else none) = _
  rw [hl]
  rfl
theorem law_sign : Maps.Keyed Try.prog 39 :=
  Maps.Keyed.of_law (deep_law_laid (by kernel_rfl) (m := 3) (by omega) (of_decide_eq_true (by kernel_rfl)) (by kernel_rfl) (by rw [Try.underlying39]))
theorem KL_inj {s t : Sg} (hs : wfS s) (ht : wfS t) (h : KL s = KL t) : s = t := by
  have := law_sign.inj (key_sign s hs) (h ▸ key_sign t ht)
  simp only [GV, Value.agg.injEq] at this
  have h1 := congrArg (fun a : Array Value => a[0]?) this
  have h2 := congrArg (fun a : Array Value => a[1]?) this
  simp only [List.getElem?_toArray, List.getElem?_cons_zero, List.getElem?_cons_succ, Option.some.injEq, Value.int.injEq, true_and] at h1 h2
  exact Prod.ext h1 h2

/-- Is it signed? (A word of its own.) -/
def isS (L : List Sg) (s : Sg) : Bool := decide (s ∈ L)
/-- What Sign answers and leaves. -/
def code (s : Sg) : Int := if s.1 < 0 ∨ 21 ≤ s.1 then 20 else if s.2 < 1 then 1 else 0
def pay (L : List Sg) (s : Sg) : List Sg := if code s = 0 then (if s ∈ L then L else L ++ [s]) else L
def ans (s : Sg) : Sg := if code s = 0 then s else (0, 0)
/-- The map's datum tells which are signed. -/
def Known (D : DataW Unit) (L : List Sg) : Prop := ∀ s, wfS s → Maps.has D (KL s) = isS L s
theorem Known.empty : Known (.map []) [] := fun _ _ => rfl
theorem Known.put {D : DataW Unit} {L : List Sg} {t : Sg} (h : Known D L) (hD : Maps.IsMap D) (ht : wfS t) (d : DataW Unit) : Known (D.put (KL t) d) (L ++ [t]) := by
  intro s hs
  by_cases he : s = t
  · subst he
    rw [Maps.has_put_same hD (law_sign.key (key_sign s hs))]
    simp [isS]
  · have hne : KL s ≠ KL t := fun e => he (KL_inj hs ht e)
    rw [Maps.has_put_other hne, h s hs]
    simp [isS, he]

end Go.Proofs.Ytfdhaodgnenhcaa.Lk

/-
  Layer 8 (request): requests and signed requests in memory; the contracts of isClient, Key, Check, CheckSign, both sides.
-/
namespace Go.Proofs.Ytfdhaodgnenhcaa.Ja
set_option linter.unusedSimpArgs false
open Go Go.RowKit Ck Kw Ga Pm Pe Pg Ph Lk Jm
attribute [local go_sem ↓] Go.wp_at_zero Go.wp_at_succ
set_option linter.unusedVariables false

/-- A request as a value: its records lie at A. -/
def QC (q : Q) (A : Option Addr) (c : Nat) : Array Value := #[.int .i64 q.client, .int .i64 q.time, .int .i64 q.o.kind, .string ⟨q.o.topic.toArray⟩, .string ⟨q.o.group.toArray⟩, .int .i64 q.o.off, .slice A q.o.recs.length c]
def QV (q : Q) (A : Option Addr) (c : Nat) : Value := .agg (QC q A c)
def QB (W : World) (g : Nat) (q : Q) (A : Option Addr) (c : Nat) : Prop := Blk W g 69 (QC q A c)
theorem QB.cells {W : World} {g : Nat} {q : Q} {A : Option Addr} {c : Nat} (h : QB W g q A c) :
    W.cell? ⟨g, 0, none⟩ = some (.int .i64 q.client) ∧ W.cell? ⟨g, 1, none⟩ = some (.int .i64 q.time) ∧ W.cell? ⟨g, 2, none⟩ = some (.int .i64 q.o.kind) ∧ W.cell? ⟨g, 3, none⟩ = some (.string ⟨q.o.topic.toArray⟩) ∧ W.cell? ⟨g, 4, none⟩ = some (.string ⟨q.o.group.toArray⟩) ∧ W.cell? ⟨g, 5, none⟩ = some (.int .i64 q.o.off) ∧ W.cell? ⟨g, 6, none⟩ = some (.slice A q.o.recs.length c) :=
  ⟨Blk.cell h 0, Blk.cell h 1, Blk.cell h 2, Blk.cell h 3, Blk.cell h 4, Blk.cell h 5, Blk.cell h 6⟩
/-- The value v is the request q, its records in no block of X. -/
def QI (w : World) (X : Nat → Prop) (v : Value) (q : Q) : Prop := ∃ A c, v = QV q A c ∧ Ls w X (.slice A q.o.recs.length c) q.o.recs
/-- A signed request as a value. -/
def DC (d : Sd) (A : Option Addr) (c : Nat) : Array Value := #[.int .i64 d.q.client, .int .i64 d.q.time, .int .i64 d.q.o.kind, .string ⟨d.q.o.topic.toArray⟩, .string ⟨d.q.o.group.toArray⟩, .int .i64 d.q.o.off, .slice A d.q.o.recs.length c, .int .i64 d.s.1, .int .i64 d.s.2]
def DV (d : Sd) (A : Option Addr) (c : Nat) : Value := .agg (DC d A c)
def DK (W : World) (g : Nat) (d : Sd) (A : Option Addr) (c : Nat) : Prop := Blk W g 71 (DC d A c)
theorem DK.cells {W : World} {g : Nat} {d : Sd} {A : Option Addr} {c : Nat} (h : DK W g d A c) :
    W.cell? ⟨g, 0, none⟩ = some (.int .i64 d.q.client) ∧ W.cell? ⟨g, 1, none⟩ = some (.int .i64 d.q.time) ∧ W.cell? ⟨g, 2, none⟩ = some (.int .i64 d.q.o.kind) ∧ W.cell? ⟨g, 3, none⟩ = some (.string ⟨d.q.o.topic.toArray⟩) ∧ W.cell? ⟨g, 4, none⟩ = some (.string ⟨d.q.o.group.toArray⟩) ∧ W.cell? ⟨g, 5, none⟩ = some (.int .i64 d.q.o.off) ∧ W.cell? ⟨g, 6, none⟩ = some (.slice A d.q.o.recs.length c) ∧ W.cell? ⟨g, 7, none⟩ = some (.int .i64 d.s.1) ∧ W.cell? ⟨g, 8, none⟩ = some (.int .i64 d.s.2) :=
  ⟨Blk.cell h 0, Blk.cell h 1, Blk.cell h 2, Blk.cell h 3, Blk.cell h 4, Blk.cell h 5, Blk.cell h 6, Blk.cell h 7, Blk.cell h 8⟩
def DI (w : World) (X : Nat → Prop) (v : Value) (d : Sd) : Prop := ∃ A c, v = DV d A c ∧ Ls w X (.slice A d.q.o.recs.length c) d.q.o.recs
section
variable {w w' : World} {X Y S : Nat → Prop} {v : Value} {q : Q} {d : Sd}
theorem QI.after (h : QI w X v q) (hb : Below w.heap.size w w') : QI w' X v q := by
  obtain ⟨A, c, hv, hl⟩ := h
  exact ⟨A, c, hv, hl.after hb⟩
theorem QI.weaken (h : QI w X v q) (hk : ∀ b, b < w.heap.size → Y b → X b) : QI w Y v q := by
  obtain ⟨A, c, hv, hl⟩ := h
  exact ⟨A, c, hv, hl.weaken hk⟩
theorem QI.ch (h : QI w X v q) (c : Ch S w w') (hd : ∀ k, k < w.heap.size → S k → X k) : QI w' X v q := by
  obtain ⟨A, c', hv, hl⟩ := h
  exact ⟨A, c', hv, hl.ch c hd⟩
theorem DI.after (h : DI w X v d) (hb : Below w.heap.size w w') : DI w' X v d := by
  obtain ⟨A, c, hv, hl⟩ := h
  exact ⟨A, c, hv, hl.after hb⟩
theorem DI.weaken (h : DI w X v d) (hk : ∀ b, b < w.heap.size → Y b → X b) : DI w Y v d := by
  obtain ⟨A, c, hv, hl⟩ := h
  exact ⟨A, c, hv, hl.weaken hk⟩
theorem DI.ch (h : DI w X v d) (c : Ch S w w') (hd : ∀ k, k < w.heap.size → S k → X k) : DI w' X v d := by
  obtain ⟨A, c', hv, hl⟩ := h
  exact ⟨A, c', hv, hl.ch c hd⟩
end
theorem op_below (w : World) (o : Obj) : Below w.heap.size w (w.alloc o) := (Below.refl _ w).alloc (Nat.le_refl _) o

theorem key_pos {c : Int} (h : isC c = true) : key c = 13 + c := by rw [key, h]; rfl

end Go.Proofs.Ytfdhaodgnenhcaa.Ja

/-
  Generic: rows of elements of several cells, laid out flat.
-/
namespace Go.Proofs.Ytfdhaodgnenhcaa.Kf
set_option linter.unusedSimpArgs false
open Go Go.RowKit Ck Kw
set_option linter.unusedVariables false

section
variable {α : Type} {m : Nat} {F : α → List Value} (hF : ∀ x, (F x).length = m)
include hF
theorem flat_len (l : List α) : (l.flatMap F).length = l.length * m := by
  induction l with
  | nil => simp
  | cons x l ih => rw [List.flatMap_cons, List.length_append, ih, List.length_cons, hF, Nat.succ_mul]; omega
theorem flat_get (l : List α) (i : Nat) (hi : i < l.length) (j : Nat) (hj : j < m) : (l.flatMap F)[i * m + j]? = (F l[i])[j]? := by
  induction l generalizing i with
  | nil => exact absurd hi (by simp)
  | cons x l ih =>
    have hx := hF x
    rw [List.flatMap_cons]
    cases i with
    | zero => rw [List.getElem?_append_left (by omega)]; simp
    | succ i =>
      rw [List.getElem?_append_right (by rw [hx, Nat.succ_mul]; omega), hx, show (i + 1) * m + j - m = i * m + j from by rw [Nat.succ_mul]; omega]
      exact ih i (by simpa using hi)
/-- One cell of one element is turned. -/
theorem flat_set (l : List α) (i : Nat) (hi : i < l.length) (x : α) (j : Nat) (hj : j < m) (u : Value) (hx : F x = (F l[i]).set j u) : (l.flatMap F).set (i * m + j) u = (l.set i x).flatMap F := by
  induction l generalizing i with
  | nil => exact absurd hi (by simp)
  | cons y l ih =>
    have hy := hF y
    cases i with
    | zero =>
      simp only [List.flatMap_cons, List.set_cons_zero, Nat.zero_mul, Nat.zero_add]
      rw [List.set_append_left _ _ (by omega), hx]
      rfl
    | succ i =>
      simp only [List.flatMap_cons, List.set_cons_succ]
      rw [List.set_append_right _ _ (by rw [Nat.succ_mul]; omega), hy, show (i + 1) * m + j - m = i * m + j from by rw [Nat.succ_mul]; omega]
      rw [ih i (by simpa using hi) hx]
end

end Go.Proofs.Ytfdhaodgnenhcaa.Kf

/-
  Layer 6 (op): the contract of read, kind by kind.
-/
namespace Go.Proofs.Ytfdhaodgnenhcaa.Qb
set_option linter.unusedSimpArgs false
open Go Go.RowKit Ck Kw Ca Cb Ci Pm Pa Pe Pg Ph Ppi Pp
set_option linter.unusedVariables false

theorem results_row1 {P : Program} {fn : Func} {p : Tmp} {ty : TypeId} (h : fn.results = #[.cell p ty]) (tmps : Array Value) (w : World) (g : Nat) (t : TypeId) (cs : Array Value) (fr : Nat × Nat) (d : TypeDesc)
    (hp : tmps.getD p undef = .pointer (some ⟨g, 0, none⟩)) (hg : w.heap[g]? = some (.cells cs t fr))
    (hu : P.underlying ty = some d) (hd : (match d with | .struct _ | .array _ _ => true | _ => false) = true) (hi : (P.info? ty).map (·.size) = some cs.size) :
    (results fn tmps).run P w = .ok (.agg cs) w := by
  have hp' : tmps[p]?.getD undef = .pointer (some ⟨g, 0, none⟩) := by simpa using hp
  simp [results, h, hp', asAddr, run_loadVar_row w g t ty cs fr d hg hu hd hi]
theorem size_op : (Try.prog.info? 67).map (·.size) = some 5 := by kernel_rfl
theorem blk5 {w : World} {g : Nat} {t : TypeId} {a b c d e x0 x1 x2 x3 x4 : Value} (h : Blk w g t #[a, b, c, d, e]) :
    Blk (((((w.setCell ⟨g, 0, none⟩ x0).setCell ⟨g, 1, none⟩ x1).setCell ⟨g, 2, none⟩ x2).setCell ⟨g, 3, none⟩ x3).setCell ⟨g, 4, none⟩ x4) g t #[x0, x1, x2, x3, x4] := by
  have := ((((h.set_ 0 x0).set_ 1 x1).set_ 2 x2).set_ 3 x3).set_ 4 x4
  simpa using this
theorem Blk.cells5 {W : World} {g : Nat} {t : TypeId} {a b c d e : Value} (h : Blk W g t #[a, b, c, d, e]) :
    (W.cell? ⟨g, 0, none⟩ = some a ∧ W.cell? ⟨g, 1, none⟩ = some b ∧ W.cell? ⟨g, 2, none⟩ = some c ∧ W.cell? ⟨g, 3, none⟩ = some d ∧ W.cell? ⟨g, 4, none⟩ = some e) ∧
    (W.frozen? ⟨g, 0, none⟩ = false ∧ W.frozen? ⟨g, 1, none⟩ = false ∧ W.frozen? ⟨g, 2, none⟩ = false ∧ W.frozen? ⟨g, 3, none⟩ = false ∧ W.frozen? ⟨g, 4, none⟩ = false) :=
  ⟨⟨h.cell 0, h.cell 1, h.cell 2, h.cell 3, h.cell 4⟩, ⟨h.frozen 0, h.frozen 1, h.frozen 2, h.frozen 3, h.frozen 4⟩⟩

/-- The cells of no operation. -/
def Z5 : Array Value := #[.int .i64 0, .string ⟨#[]⟩, .string ⟨#[]⟩, .int .i64 0, .slice none 0 0]
section
variable {w0 W W' : World} {X : Nat → Prop} {g g1 g2 g3 : Nat} {k : Int} {cs cs' : Array Value} {s s' : Cm.RS}
end
theorem res_blk {W : World} {g1 : Nat} (h : Blk W g1 67 Z5) (x0 x1 x2 x3 x4 : Value) :
    (((((W.setCell ⟨g1, 0, none⟩ x0).setCell ⟨g1, 1, none⟩ x1).setCell ⟨g1, 2, none⟩ x2).setCell ⟨g1, 3, none⟩ x3).setCell ⟨g1, 4, none⟩ x4).heap[g1]? = some (.cells #[x0, x1, x2, x3, x4] 67 (0, 0)) := blk5 h
theorem ls_nil (W : World) (X : Nat → Prop) : Ls W X (.slice none 0 0) [] := ⟨[], Sl.nil _ _ _, fun i hi => absurd hi (by simp)⟩

end Go.Proofs.Ytfdhaodgnenhcaa.Qb

/-
  Layer 8 (request): batches in memory; the contracts of momentOf, checkSigned, isTwice, CheckBatch.
-/
namespace Go.Proofs.Ytfdhaodgnenhcaa.Jb
set_option linter.unusedSimpArgs false
open Go Go.RowKit Ck Kw Ga Kf Pm Pe Pg Ph Qb Lk Jm Ja
attribute [local go_sem ↓] Go.wp_at_zero Go.wp_at_succ
set_option linter.unusedVariables false

theorem DC_len (p : Sd × (Option Addr × Nat)) : ((DC p.1 p.2.1 p.2.2).toList).length = 9 := rfl
/-- The cells of a batch: its requests' records lie where rs says. -/
def flat (l : List Sd) (rs : List (Option Addr × Nat)) : List Value := (l.zip rs).flatMap fun p => (DC p.1 p.2.1 p.2.2).toList
theorem zip_len {l : List Sd} {rs : List (Option Addr × Nat)} (h : rs.length = l.length) : (l.zip rs).length = l.length := by rw [List.length_zip]; omega
theorem flat_length {l : List Sd} {rs : List (Option Addr × Nat)} (h : rs.length = l.length) : (flat l rs).length = l.length * 9 := by rw [flat, flat_len DC_len, zip_len h]
/-- The value v is the batch l; all of it lies in no block of X. -/
def BI (w : World) (X : Nat → Prop) (v : Value) (l : List Sd) : Prop :=
  ∃ rs, rs.length = l.length ∧ Sl w X 9 v l.length (flat l rs) ∧ ∀ i (h : i < l.length), ∃ r, rs[i]? = some r ∧ Ls w X (.slice r.1 l[i].q.o.recs.length r.2) l[i].q.o.recs
section
variable {w w' : World} {X Y S : Nat → Prop} {v : Value} {l : List Sd}
theorem BI.after (h : BI w X v l) (hb : Below w.heap.size w w') : BI w' X v l := by
  obtain ⟨rs, h1, h2, h3⟩ := h
  exact ⟨rs, h1, h2.after hb, fun i hi => by obtain ⟨r, h4, h5⟩ := h3 i hi; exact ⟨r, h4, h5.after hb⟩⟩
theorem BI.weaken (h : BI w X v l) (hk : ∀ b, b < w.heap.size → Y b → X b) : BI w Y v l := by
  obtain ⟨rs, h1, h2, h3⟩ := h
  exact ⟨rs, h1, h2.weaken hk, fun i hi => by obtain ⟨r, h4, h5⟩ := h3 i hi; exact ⟨r, h4, h5.weaken hk⟩⟩
theorem BI.ch (h : BI w X v l) (c : Ch S w w') (hd : ∀ k, k < w.heap.size → S k → X k) : BI w' X v l := by
  obtain ⟨rs, h1, h2, h3⟩ := h
  exact ⟨rs, h1, h2.ch c hd, fun i hi => by obtain ⟨r, h4, h5⟩ := h3 i hi; exact ⟨r, h4, h5.ch c hd⟩⟩
theorem BI.shape (h : BI w X v l) : ∃ A c, v = .slice A l.length c ∧ l.length ≤ c := by
  obtain ⟨rs, h1, ⟨A, c, rfl, _, hc, _⟩, h3⟩ := h
  exact ⟨A, c, rfl, hc⟩
theorem bi_nil (w : World) (X : Nat → Prop) : BI w X (.slice none 0 0) [] := ⟨[], rfl, Sl.nil _ _ _, fun i hi => absurd hi (by simp)⟩
/-- What stands at a place of a batch. -/
def At9 (w : World) (ad : Addr) (d : Sd) (Ar : Option Addr) (cr : Nat) : Prop :=
  w.cell? ad = some (.int .i64 d.q.client) ∧ w.cell? ⟨ad.block, ad.off + 1, none⟩ = some (.int .i64 d.q.time) ∧ w.cell? ⟨ad.block, ad.off + 2, none⟩ = some (.int .i64 d.q.o.kind) ∧ w.cell? ⟨ad.block, ad.off + 3, none⟩ = some (.string ⟨d.q.o.topic.toArray⟩)
    ∧ w.cell? ⟨ad.block, ad.off + 4, none⟩ = some (.string ⟨d.q.o.group.toArray⟩) ∧ w.cell? ⟨ad.block, ad.off + 5, none⟩ = some (.int .i64 d.q.o.off) ∧ w.cell? ⟨ad.block, ad.off + 6, none⟩ = some (.slice Ar d.q.o.recs.length cr)
    ∧ w.cell? ⟨ad.block, ad.off + 7, none⟩ = some (.int .i64 d.s.1) ∧ w.cell? ⟨ad.block, ad.off + 8, none⟩ = some (.int .i64 d.s.2)
theorem BI.at_ {A : Option Addr} {n c i : Nat} (h : BI w X (.slice A n c) l) (hi : i < l.length) :
    ∃ ad Ar cr, A = some ad ∧ At9 w (ad.add (i * 9)) l[i] Ar cr ∧ Ls w X (.slice Ar l[i].q.o.recs.length cr) l[i].q.o.recs := by
  obtain ⟨rs, h1, ⟨A', c', hv, hl, hc, hm, hx⟩, h3⟩ := h
  injection hv with e1 e2 e3
  subst e1
  obtain ⟨⟨Ar, cr⟩, h4, h5⟩ := h3 i hi
  obtain ⟨ad, hA, hb, hX, hcell⟩ := hx (by omega)
  refine ⟨ad, Ar, cr, hA, ?_, h5⟩
  have hz : i < (l.zip rs).length := by rw [zip_len h1]; exact hi
  have hr : i < rs.length := by omega
  have he : (l.zip rs)[i] = (l[i], (Ar, cr)) := by
    rw [List.getElem_zip]
    have : rs[i] = (Ar, cr) := by have := List.getElem?_eq_getElem hr; rw [this] at h4; exact Option.some.inj h4
    rw [this]
  have hg : ∀ j, j < 9 → (flat l rs)[i * 9 + j]? = ((DC l[i] Ar cr).toList)[j]? := fun j hj => by
    rw [flat, flat_get DC_len _ _ hz j hj, he]
  have hof : ∀ j u, j < 9 → ((DC l[i] Ar cr).toList)[j]? = some u → w.cell? ((ad.add (i * 9)).add j) = some u := fun j u hj hu => by
    rw [add_add]
    exact hcell _ _ (by rw [hg j hj]; exact hu)
  generalize ad.add (i * 9) = a at hof ⊢
  have ha : ∀ j, 0 < j → a.add j = ⟨a.block, a.off + j, none⟩ := fun j hj => by unfold Addr.add; rw [if_neg (by omega)]
  have h0 : a.add 0 = a := by unfold Addr.add; rw [if_pos rfl]
  refine ⟨?_, ?_, ?_, ?_, ?_, ?_, ?_, ?_, ?_⟩
  · have := hof 0 _ (by omega) rfl; rwa [h0] at this
  · have := hof 1 _ (by omega) rfl; rwa [ha _ (by omega)] at this
  · have := hof 2 _ (by omega) rfl; rwa [ha _ (by omega)] at this
  · have := hof 3 _ (by omega) rfl; rwa [ha _ (by omega)] at this
  · have := hof 4 _ (by omega) rfl; rwa [ha _ (by omega)] at this
  · have := hof 5 _ (by omega) rfl; rwa [ha _ (by omega)] at this
  · have := hof 6 _ (by omega) rfl; rwa [ha _ (by omega)] at this
  · have := hof 7 _ (by omega) rfl; rwa [ha _ (by omega)] at this
  · have := hof 8 _ (by omega) rfl; rwa [ha _ (by omega)] at this
end

end Go.Proofs.Ytfdhaodgnenhcaa.Jb

/-
  Layer 15 (prepared): signatures, certificates in memory.
-/
namespace Go.Proofs.Ytfdhaodgnenhcaa.Prb
set_option linter.unusedSimpArgs false
open Go Go.RowKit Ck Kw Ga Kf Pm Jm Ja Jb Pra
set_option linter.unusedVariables false

def SC (s : Int × Int) : List Value := [.int .i64 s.1, .int .i64 s.2]
theorem SC_len (s : Int × Int) : (SC s).length = 2 := rfl
/-- The value v is these signatures; all of it lies in no block of X. -/
def SS (w : World) (X : Nat → Prop) (v : Value) (l : List (Int × Int)) : Prop := Sl w X 2 v l.length (l.flatMap SC)
section
variable {w w' : World} {X Y S : Nat → Prop} {v : Value} {l : List (Int × Int)}
theorem SS.after (h : SS w X v l) (hb : Below w.heap.size w w') : SS w' X v l := Sl.after h hb
theorem SS.weaken (h : SS w X v l) (hk : ∀ b, b < w.heap.size → Y b → X b) : SS w Y v l := Sl.weaken h hk
theorem SS.ch (h : SS w X v l) (c : Ch S w w') (hd : ∀ k, k < w.heap.size → S k → X k) : SS w' X v l := Sl.ch h c hd
theorem SS.at_ {A : Option Addr} {n c i : Nat} (h : SS w X (.slice A n c) l) (hi : i < l.length) : ∃ ad, A = some ad ∧ w.cell? (ad.add (i * 2)) = some (.int .i64 l[i].1) ∧ w.cell? ⟨(ad.add (i * 2)).block, (ad.add (i * 2)).off + 1, none⟩ = some (.int .i64 l[i].2) := by
  obtain ⟨A', c', hv, hl, hc, hm, hx⟩ := h
  injection hv with e1 e2 e3
  subst e1
  obtain ⟨ad, hA, hb, hX, hcell⟩ := hx (by omega)
  have h0 := hcell (i * 2 + 0) (.int .i64 l[i].1) (by rw [flat_get SC_len l i hi 0 (by omega)]; rfl)
  have h1 := hcell (i * 2 + 1) (.int .i64 l[i].2) (by rw [flat_get SC_len l i hi 1 (by omega)]; rfl)
  rw [← add_add] at h0 h1
  refine ⟨ad, hA, ?_, ?_⟩
  · generalize ad.add (i * 2) = a at *
    have e : a.add 0 = a := by unfold Addr.add; rw [if_pos rfl]
    rwa [e] at h0
  · generalize ad.add (i * 2) = a at *
    have e : a.add 1 = ⟨a.block, a.off + 1, none⟩ := by unfold Addr.add; rw [if_neg (by omega)]
    rwa [e] at h1
end
abbrev Pl2 := (Option Addr × Nat) × (Option Addr × Nat)
/-- The cells of a certificate: its signatures and its batch lie where r says. -/
def PC (p : Pd) (r : Pl2) : Array Value := #[.int .i64 p.view, .int .i64 p.seq, .int .i64 p.dig, .int .i64 p.first.1, .int .i64 p.first.2, .slice r.1.1 p.signs.length r.1.2, .slice r.2.1 p.batch.length r.2.2]
theorem PC_len (x : Pd × Pl2) : ((PC x.1 x.2).toList).length = 7 := rfl
theorem PC_one (p : Pd) (r : Pl2) : ∀ u ∈ (PC p r).toList, u.oneCell' = true := by
  intro u hu
  simp only [PC, List.mem_cons, List.not_mem_nil, or_false] at hu
  rcases hu with rfl | rfl | rfl | rfl | rfl | rfl | rfl <;> rfl
/-- What a certificate's cells point at. -/
structure PI (w : World) (X : Nat → Prop) (p : Pd) (r : Pl2) : Prop where
  signs : SS w X (.slice r.1.1 p.signs.length r.1.2) p.signs
  batch : BI w X (.slice r.2.1 p.batch.length r.2.2) p.batch
section
variable {w w' : World} {X Y S : Nat → Prop} {p : Pd} {r : Pl2}
theorem PI.after (h : PI w X p r) (hb : Below w.heap.size w w') : PI w' X p r := ⟨h.signs.after hb, h.batch.after hb⟩
theorem PI.weaken (h : PI w X p r) (hk : ∀ b, b < w.heap.size → Y b → X b) : PI w Y p r := ⟨h.signs.weaken hk, h.batch.weaken hk⟩
theorem PI.ch (h : PI w X p r) (c : Ch S w w') (hd : ∀ k, k < w.heap.size → S k → X k) : PI w' X p r := ⟨h.signs.ch c hd, h.batch.ch c hd⟩
end
def flatP (l : List Pd) (rs : List Pl2) : List Value := (l.zip rs).flatMap fun x => (PC x.1 x.2).toList
theorem zipP_len {l : List Pd} {rs : List Pl2} (h : rs.length = l.length) : (l.zip rs).length = l.length := by rw [List.length_zip]; omega
theorem flatP_app {l m : List Pd} {rs qs : List Pl2} (h : rs.length = l.length) : flatP (l ++ m) (rs ++ qs) = flatP l rs ++ flatP m qs := by
  unfold flatP
  rw [List.zip_append h.symm, List.flatMap_append]
theorem flatP_single (p : Pd) (r : Pl2) : flatP [p] [r] = (PC p r).toList := by simp [flatP]
/-- What stands at the places that rs says. -/
def Pts (w : World) (X : Nat → Prop) (l : List Pd) (rs : List Pl2) : Prop := rs.length = l.length ∧ ∀ i (h : i < l.length), ∃ r, rs[i]? = some r ∧ PI w X l[i] r
/-- The value v is these certificates; all of it lies in no block of X. -/
def PL (w : World) (X : Nat → Prop) (v : Value) (l : List Pd) : Prop := ∃ rs, Pts w X l rs ∧ Sl w X 7 v l.length (flatP l rs)
section
variable {w w' : World} {X Y S : Nat → Prop} {v : Value} {l m : List Pd} {rs qs : List Pl2}
theorem Pts.after (h : Pts w X l rs) (hb : Below w.heap.size w w') : Pts w' X l rs := ⟨h.1, fun i hi => by obtain ⟨r, h1, h2⟩ := h.2 i hi; exact ⟨r, h1, h2.after hb⟩⟩
theorem Pts.weaken (h : Pts w X l rs) (hk : ∀ b, b < w.heap.size → Y b → X b) : Pts w Y l rs := ⟨h.1, fun i hi => by obtain ⟨r, h1, h2⟩ := h.2 i hi; exact ⟨r, h1, h2.weaken hk⟩⟩
theorem Pts.ch (h : Pts w X l rs) (c : Ch S w w') (hd : ∀ k, k < w.heap.size → S k → X k) : Pts w' X l rs := ⟨h.1, fun i hi => by obtain ⟨r, h1, h2⟩ := h.2 i hi; exact ⟨r, h1, h2.ch c hd⟩⟩
theorem Pts.nil : Pts w X [] [] := ⟨rfl, fun i h => absurd h (by simp)⟩
theorem Pts.one {p : Pd} {r : Pl2} (h : PI w X p r) : Pts w X [p] [r] := ⟨rfl, fun i hi => by
  have : i = 0 := by simpa using hi
  subst this
  exact ⟨r, rfl, h⟩⟩
theorem Pts.take (h : Pts w X l rs) (k : Nat) : Pts w X (l.take k) (rs.take k) := by
  refine ⟨by rw [List.length_take, List.length_take, h.1], fun i hi => ?_⟩
  rw [List.length_take] at hi
  obtain ⟨r, h1, h2⟩ := h.2 i (by omega)
  refine ⟨r, by rw [List.getElem?_take, if_pos (by omega)]; exact h1, ?_⟩
  rw [List.getElem_take]
  exact h2
theorem Pts.drop (h : Pts w X l rs) (k : Nat) : Pts w X (l.drop k) (rs.drop k) := by
  refine ⟨by rw [List.length_drop, List.length_drop, h.1], fun i hi => ?_⟩
  rw [List.length_drop] at hi
  obtain ⟨r, h1, h2⟩ := h.2 (k + i) (by omega)
  refine ⟨r, by rw [List.getElem?_drop]; exact h1, ?_⟩
  rw [List.getElem_drop]
  exact h2
theorem Pts.app (h : Pts w X l rs) (k : Pts w X m qs) : Pts w X (l ++ m) (rs ++ qs) := by
  refine ⟨by rw [List.length_append, List.length_append, h.1, k.1], fun i hi => ?_⟩
  by_cases hlt : i < l.length
  · obtain ⟨r, h1, h2⟩ := h.2 i hlt
    refine ⟨r, by rw [List.getElem?_append_left (by rw [h.1]; exact hlt)]; exact h1, ?_⟩
    rw [List.getElem_append_left hlt]
    exact h2
  · rw [List.length_append] at hi
    obtain ⟨r, h1, h2⟩ := k.2 (i - l.length) (by omega)
    refine ⟨r, by rw [List.getElem?_append_right (by rw [h.1]; omega), h.1]; exact h1, ?_⟩
    rw [List.getElem_append_right (by omega)]
    exact h2
theorem PL.after (h : PL w X v l) (hb : Below w.heap.size w w') : PL w' X v l := by
  obtain ⟨rs, h1, h2⟩ := h
  exact ⟨rs, h1.after hb, h2.after hb⟩
theorem PL.weaken (h : PL w X v l) (hk : ∀ b, b < w.heap.size → Y b → X b) : PL w Y v l := by
  obtain ⟨rs, h1, h2⟩ := h
  exact ⟨rs, h1.weaken hk, h2.weaken hk⟩
theorem PL.ch (h : PL w X v l) (c : Ch S w w') (hd : ∀ k, k < w.heap.size → S k → X k) : PL w' X v l := by
  obtain ⟨rs, h1, h2⟩ := h
  exact ⟨rs, h1.ch c hd, h2.ch c hd⟩
theorem PL.shape (h : PL w X v l) : ∃ A c, v = .slice A l.length c ∧ l.length ≤ c := by
  obtain ⟨rs, h1, ⟨A, c, rfl, _, hc, _⟩⟩ := h
  exact ⟨A, c, rfl, hc⟩
theorem PL.nil (w : World) (X : Nat → Prop) : PL w X (.slice none 0 0) [] := ⟨[], Pts.nil, Sl.nil _ _ _⟩
/-- What stands at a place. -/
def At7 (w : World) (a : Addr) (p : Pd) (r : Pl2) : Prop :=
  w.cell? a = some (.int .i64 p.view) ∧ w.cell? ⟨a.block, a.off + 1, none⟩ = some (.int .i64 p.seq) ∧ w.cell? ⟨a.block, a.off + 2, none⟩ = some (.int .i64 p.dig) ∧ w.cell? ⟨a.block, a.off + 3, none⟩ = some (.int .i64 p.first.1) ∧ w.cell? ⟨a.block, a.off + 4, none⟩ = some (.int .i64 p.first.2)
    ∧ w.cell? ⟨a.block, a.off + 5, none⟩ = some (.slice r.1.1 p.signs.length r.1.2) ∧ w.cell? ⟨a.block, a.off + 6, none⟩ = some (.slice r.2.1 p.batch.length r.2.2)
theorem At7.later {w w' : World} {a : Addr} {p : Pd} {r : Pl2} (h : At7 w a p r) (b : Below w.heap.size w w') : At7 w' a p r := by
  have k : ∀ {a : Addr} {v : Value}, w.cell? a = some v → w'.cell? a = some v := fun {a v} hc => by rw [b.cell (World.block_lt_of_cell? w _ hc)]; exact hc
  obtain ⟨a0, a1, a2, a3, a4, a5, a6⟩ := h
  exact ⟨k a0, k a1, k a2, k a3, k a4, k a5, k a6⟩
theorem PL.at_ {A : Option Addr} {n c i : Nat} (h : PL w X (.slice A n c) l) (hi : i < l.length) : ∃ ad r, A = some ad ∧ At7 w (ad.add (i * 7)) l[i] r ∧ PI w X l[i] r := by
  obtain ⟨rs, ⟨h1, h3⟩, ⟨A', c', hv, hl, hc, hm, hx⟩⟩ := h
  injection hv with e1 e2 e3
  subst e1
  obtain ⟨r, h4, h5⟩ := h3 i hi
  obtain ⟨ad, hA, hb, hX, hcell⟩ := hx (by omega)
  refine ⟨ad, r, hA, ?_, h5⟩
  have hz : i < (l.zip rs).length := by rw [zipP_len h1]; exact hi
  have hr : i < rs.length := by omega
  have he : (l.zip rs)[i] = (l[i], r) := by
    rw [List.getElem_zip]
    have : rs[i] = r := by have := List.getElem?_eq_getElem hr; rw [this] at h4; exact Option.some.inj h4
    rw [this]
  have hof : ∀ j u, j < 7 → ((PC l[i] r).toList)[j]? = some u → w.cell? ((ad.add (i * 7)).add j) = some u := fun j u hj hu => by
    rw [add_add]
    refine hcell _ _ ?_
    rw [flatP, flat_get PC_len _ _ hz j hj, he]
    exact hu
  generalize ad.add (i * 7) = a at hof ⊢
  have ha : ∀ j, 0 < j → a.add j = ⟨a.block, a.off + j, none⟩ := fun j hj => by unfold Addr.add; rw [if_neg (by omega)]
  have h0 : a.add 0 = a := by unfold Addr.add; rw [if_pos rfl]
  refine ⟨?_, ?_, ?_, ?_, ?_, ?_, ?_⟩
  · have := hof 0 _ (by omega) rfl; rwa [h0] at this
  · have := hof 1 _ (by omega) rfl; rwa [ha _ (by omega)] at this
  · have := hof 2 _ (by omega) rfl; rwa [ha _ (by omega)] at this
  · have := hof 3 _ (by omega) rfl; rwa [ha _ (by omega)] at this
  · have := hof 4 _ (by omega) rfl; rwa [ha _ (by omega)] at this
  · have := hof 5 _ (by omega) rfl; rwa [ha _ (by omega)] at this
  · have := hof 6 _ (by omega) rfl; rwa [ha _ (by omega)] at this
end
end Go.Proofs.Ytfdhaodgnenhcaa.Prb
