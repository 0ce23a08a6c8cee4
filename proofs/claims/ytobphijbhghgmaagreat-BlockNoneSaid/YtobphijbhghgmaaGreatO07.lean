/-
  Generic: maps by strings: of pointers (each reads as its block's number), of numbers.
-/
import Derived.Test.YtobphijbhghgmaaGreatO01
import Derived.Maps.RangeWalk
import Derived.Sort.KeysCollected
import Derived.Test.YtobphijbhghgmaaGreatO05
import Derived.Test.YtobphijbhghgmaaGreatO03
import Derived.Outline
namespace Go.Proofs.YtobphijbhghgmaaGreat.Km
set_option linter.unusedSimpArgs false
open Go Go.RowKit Go.Maps Ck Kw
set_option linter.unusedVariables false

theorem strKey (x : List UInt8) : WideAt.IsKeyLit (.string x) := trivial
theorem strKey_ne {s t : List UInt8} (h : s ≠ t) : (Lit.string s) ≠ Lit.string t := fun e => h (by injection e)
/-- How a pointer to a block reads: that block's number. -/
def ptrElem (v : Value) : Option (DataW Unit × List MemPlace) :=
  match v with
  | .pointer none => some (.nil, [])
  | .pointer (some ⟨g, 0, none⟩) => some (.lit (.int .i64 (g : Int)), [])
  | _ => none
theorem ptrElem_mk (g : Nat) : ptrElem (.pointer (some ⟨g, 0, none⟩)) = some (.lit (.int .i64 (g : Int)), []) := rfl
theorem ptrElem_nil : ptrElem (.pointer none) = some (.nil, []) := rfl
/-- Any pointer that reads. -/
def PV (o : Option Nat) : Value := .pointer (o.map fun g => ⟨g, 0, none⟩)
theorem ptrElem_inv {v : Value} {z : DataW Unit × List MemPlace} (h : ptrElem v = some z) : ∃ o, v = PV o ∧ z = ((match o with | none => .nil | some g => .lit (.int .i64 ((g : Nat) : Int))), []) := by
  unfold ptrElem at h
  split at h
  · injection h with h
    exact ⟨none, rfl, h.symm⟩
  · rename_i g
    injection h with h
    exact ⟨some g, rfl, h.symm⟩
  · cases h
theorem ptrElem_at {v : Value} {g : Nat} {ps : List MemPlace} (h : ptrElem v = some (.lit (.int .i64 (g : Int)), ps)) : v = .pointer (some ⟨g, 0, none⟩) := by
  obtain ⟨o, rfl, hz⟩ := ptrElem_inv h
  have h1 := congrArg Prod.fst hz
  cases o with
  | none => simp at h1
  | some k =>
    simp at h1
    have : k = g := by omega
    subst this
    rfl
/-- How a number reads. -/
def inElem (v : Value) : Option (DataW Unit × List MemPlace) :=
  match v with
  | .int .i64 z => some (.lit (.int .i64 z), [])
  | _ => none
theorem inElem_mk (z : Int) : inElem (.int .i64 z) = some (.lit (.int .i64 z), []) := rfl
theorem inElem_at {v : Value} {z : Int} {ps : List MemPlace} (h : inElem v = some (.lit (.int .i64 z), ps)) : v = .int .i64 z := by
  unfold inElem at h
  split at h <;> simp at h
  rw [h.1]
theorem law_str : Maps.Keyed Tryz.prog 9 := Maps.string_keyed Tryz.underlying9
theorem key_str (s : List UInt8) (h : s.length ≤ maxLen) : keyOf Tryz.prog 9 (.string ⟨s.toArray⟩) = some (.string s) := by
  have := _root_.Go.WideMaps.keyOf_string_mk (P := Tryz.prog) Tryz.underlying9 (s := ⟨s.toArray⟩) (show s.toArray.size ≤ maxLen by simpa using h)
  simpa using this
theorem has_atKey {H : Type} {D : DataW H} {kl : Lit} (h : Maps.has D kl = false) (zd : DataW H) : D.atKey kl zd = zd := by
  cases D <;> first | rfl | skip
  rename_i es
  simp only [Maps.has] at h
  simp only [DataW.atKey]
  cases hf : es.find? (fun e => e.1.sameKey kl) with
  | none => simp
  | some x =>
    have h1 := List.find?_some hf
    have h2 := List.mem_of_find?_eq_some hf
    rw [List.any_eq_false] at h
    exact absurd h1 (h x h2)
section
variable {w : World} {m n : Nat} {D : DataW Unit} {R : Value → Option (DataW Unit × List MemPlace)}
/-- The keys of a map of which the names are told. -/
theorem names_perm (h : w.ownsMap Tryz.prog 9 R m n D) {ns : List (List UInt8)} (hn : ns.Nodup) (hT : ∀ s, Maps.has D (.string s) = true ↔ s ∈ ns) : ns.Perm (strKeys D) := by
  obtain ⟨es, hD, hpw, _⟩ := h.entries law_str
  obtain ⟨es', hD', hko⟩ := h.keysOf
  obtain rfl : es = es' := by rw [hD] at hD'; simpa using hD'
  subst hD
  refine perm_strKeys hpw (fun p hp => by obtain ⟨v, hv⟩ := hko p hp; obtain ⟨x, _, hx, _⟩ := Maps.keyOf_str Tryz.underlying9 hv; exact ⟨x, hx⟩) hn (fun x => (hT x).symm)
theorem size_names (h : w.ownsMap Tryz.prog 9 R m n D) {ns : List (List UInt8)} (hn : ns.Nodup) (hT : ∀ s, Maps.has D (.string s) = true ↔ s ∈ ns) : Maps.size D = ns.length := by
  have hp := (names_perm h hn hT).length_eq
  obtain ⟨es, rfl, _⟩ := h.entries law_str
  rw [hp]
  show es.length = (es.map _).length
  rw [List.length_map]
theorem own_tight (h : w.ownsMap Tryz.prog 9 R m n D) : w.ownsMap Tryz.prog 9 R m (Maps.size D) D := by
  obtain ⟨es, clock, hb, F, hs, rfl⟩ := h
  exact ⟨es, clock, hb, F, by simp [Maps.size, length_sorted], rfl⟩
end
/-- A key more. -/
theorem has_put {D : DataW Unit} (hD : Maps.IsMap D) (t s : List UInt8) (d : DataW Unit) : Maps.has (D.put (.string t) d) (.string s) = (t == s || Maps.has D (.string s)) := by
  by_cases e : s = t
  · subst e
    rw [Maps.has_put_same hD (strKey s)]
    simp
  · rw [Maps.has_put_other (strKey_ne e)]
    have : (t == s) = false := by rw [beq_eq_false_iff_ne]; exact fun h => e h.symm
    rw [this, Bool.false_or]
theorem at_put_same {D : DataW Unit} (hD : Maps.IsMap D) (s : List UInt8) (d zd : DataW Unit) : (D.put (.string s) d).atKey (.string s) zd = d := Maps.atKey_put_same hD (strKey s) d zd
theorem at_put_other {D : DataW Unit} {s t : List UInt8} (h : s ≠ t) (d zd : DataW Unit) : (D.put (.string t) d).atKey (.string s) zd = D.atKey (.string s) zd := Maps.atKey_put_other (strKey_ne h) d zd
end Go.Proofs.YtobphijbhghgmaaGreat.Km

/-
  Layer 6 (op), plain mathematics of what an operation that may be holds (as in Pk, for the layers that stand on op).
-/
namespace Go.Proofs.YtobphijbhghgmaaGreat.Pz
set_option linter.unusedSimpArgs false
open Pm
set_option linter.unusedVariables false

theorem dec_width4 (l : Tx) : (dec l).2 ≤ 4 := by
  unfold dec Go.Lib.decodeN
  repeat' split
  all_goals simp
theorem rn_len : ∀ (j : Nat) (l : Tx), rn j l ≠ 0 → l.length ≤ 4 * j
  | 0, l, h => by
    unfold rn at h
    split at h
    · rename_i hl; subst hl; simp
    · exact absurd rfl h
  | j + 1, l, h => by
    unfold rn at h
    split at h
    · rename_i hl; subst hl; simp
    · split at h
      · exact absurd rfl h
      · have h1 := rn_len j _ h
        have h2 := dec_width4 l
        rw [List.length_drop] at h1
        omega
theorem name_len {l : Tx} (h : name l = true) : l.length ≤ 64 ∧ l ≠ [] := by
  have h1 : 0 < runes l := of_decide_eq_true h
  refine ⟨rn_len 16 l (by unfold runes at h1; omega), fun e => ?_⟩
  subst e
  exact absurd h1 (by decide)
theorem recs_len {l : List Tx} (h : areRecs l = true) : 1 ≤ l.length ∧ l.length ≤ 4 ∧ ∀ x ∈ l, x.length ≤ 64 := by
  simp only [areRecs, Bool.and_eq_true, decide_eq_true_eq, List.all_eq_true] at h
  exact ⟨h.1.1, h.1.2, h.2⟩
theorem encP_small : ∀ (l : List Tx), (∀ x ∈ l, x.length ≤ 64) → (Cm.encP l).length ≤ 74 * l.length
  | [], _ => by simp [Cm.encP]
  | x :: l, h => by
    have h1 := encP_small l (fun y hy => h y (List.mem_cons_of_mem _ hy))
    have h2 := h x List.mem_cons_self
    have h3 := Cm.enc_len x.length
    simp only [Cm.encP, List.length_append, Cm.encB_len, List.length_cons]
    omega
/-- What an operation that may be holds. -/
theorem check_lens {o : O} (h : check o = 0) : (hasT o.kind = true → o.topic.length ≤ 64) ∧ (hasG o.kind = true → o.group.length ≤ 64) ∧ (hasO o.kind = true → 0 ≤ o.off ∧ o.off ≤ 9007199254740992) ∧
    (hasR o.kind = true → 1 ≤ o.recs.length ∧ o.recs.length ≤ 4 ∧ (∀ x ∈ o.recs, x.length ≤ 64) ∧ (Cm.encP o.recs).length ≤ 296) := by
  obtain ⟨h1, h2, h3, h4, h5⟩ := check_ok h
  refine ⟨fun hT => ?_, fun hG => ?_, fun hO => ?_, fun hR => ?_⟩
  · refine (name_len (l := o.topic) ?_).1
    cases hn : name o.topic with
    | true => rfl
    | false => simp [badName, hT, hn] at h3
  · refine (name_len (l := o.group) ?_).1
    cases hn : name o.group with
    | true => rfl
    | false => simp [badName, hG, hn] at h3
  · simp only [badOff, hO, Bool.true_and, Bool.or_eq_false_iff, decide_eq_false_iff_not] at h5
    omega
  · have hr : areRecs o.recs = true := by
      cases hn : areRecs o.recs with
      | true => rfl
      | false => simp [badRecs, hR, hn] at h4
    obtain ⟨a, b, c⟩ := recs_len hr
    have := encP_small o.recs c
    exact ⟨a, b, c, by omega⟩

end Go.Proofs.YtobphijbhghgmaaGreat.Pz

/-
  The plain mathematics of layer 7 (topics): the machine, its stB, what is read of stB. No program is named here.
-/
namespace Go.Proofs.YtobphijbhghgmaaGreat.Tm
set_option linter.unusedSimpArgs false
open Cm Pm Pz
set_option linter.unusedVariables false

/-- A group and its offset. -/
structure Gp where
  n : Tx
  pos : Int
deriving DecidableEq
/-- A topic. -/
structure Tp where
  n : Tx
  base : Int
  recs : List Tx
  gs : List Gp
deriving DecidableEq
/-- What a client was answered last. -/
structure An where
  time : Int
  err : Int
  off : Int
deriving DecidableEq
/-- The machine: topics, rising by names, and eight clients' answers. -/
structure St where
  L : List Tp
  last : List An
deriving DecidableEq
def An.zero : An := ⟨0, 0, 0⟩
def St.zero : St := ⟨[], List.replicate 8 An.zero⟩
def Tp.next (t : Tp) : Int := t.base + (t.recs.length : Int)

def findT (L : List Tp) (s : Tx) : Option Tp := L.find? fun t => decide (t.n = s)
def updT (L : List Tp) (s : Tx) (g : Tp → Tp) : List Tp := L.map fun t => if t.n = s then g t else t
def insT (x : Tp) : List Tp → List Tp
  | [] => [x]
  | t :: L => if t.n < x.n then t :: insT x L else x :: t :: L
/-- A group's offset is noted. -/
def insG (n : Tx) (k : Int) : List Gp → List Gp
  | [] => [⟨n, k⟩]
  | g :: L => if g.n < n then g :: insG n k L else if g.n = n then ⟨n, k⟩ :: L else ⟨n, k⟩ :: g :: L
def pos (gs : List Gp) (n : Tx) : Option Int := (gs.find? fun g => decide (g.n = n)).map (·.pos)
/-- Where records are put. -/
def placed (n : Tx) : Int → List Tx → List (Tx × Int × Tx)
  | _, [] => []
  | k, r :: rs => (n, k, r) :: placed n (k + 1) rs

def maxNum : Int := 9007199254740992
/-- The result of an operation, the places of its records, the topics behind it. -/
def doesS (L : List Tp) (o : O) : (Int × Int) × List (Tx × Int × Tx) × List Tp :=
  if check o ≠ 0 then ((check o, 0), [], L)
  else if o.kind = 0 then ((0, 0), [], L)
  else if o.kind = 1 then
    if (findT L o.topic).isSome then ((5, 0), [], L)
    else if 8 ≤ L.length then ((6, 0), [], L)
    else ((0, 0), [], insT ⟨o.topic, 0, [], []⟩ L)
  else match findT L o.topic with
    | none => ((4, 0), [], L)
    | some x =>
      if o.kind = 2 then
        if 64 < x.recs.length + o.recs.length ∨ maxNum - (o.recs.length : Int) < x.next then ((71, 0), [], L)
        else ((0, x.next), placed o.topic x.next o.recs, updT L o.topic fun t => { t with recs := t.recs ++ o.recs })
      else if o.kind = 3 then
        if o.off < (pos x.gs o.group).getD 0 ∨ x.next < o.off then ((72, 0), [], L)
        else if pos x.gs o.group = none ∧ 8 ≤ x.gs.length then ((6, 0), [], L)
        else ((0, o.off), [], updT L o.topic fun t => { t with gs := insG o.group o.off t.gs })
      else
        if o.off < x.base ∨ x.next < o.off then ((72, 0), [], L)
        else ((0, o.off), [], updT L o.topic fun t => { t with base := o.off, recs := t.recs.drop (o.off - t.base).toNat })
/-- May a client's request be at all? -/
def badArg (client time : Int) : Bool := decide (client < 0) || decide (8 ≤ client) || decide (time < 1) || decide (maxNum < time)
def appS (s : St) (client time : Int) (o : O) : (Int × Int) × List (Tx × Int × Tx) × Bool × St :=
  if badArg client time then ((1, 0), [], false, s)
  else
    let a := s.last.getD client.toNat An.zero
    if time = a.time then ((a.err, a.off), [], false, s)
    else if time < a.time then ((7, 0), [], false, s)
    else
      let d := doesS s.L o
      (d.1, d.2.1, true, ⟨d.2.2, s.last.set client.toNat ⟨time, d.1.1, d.1.2⟩⟩)

/-- Bytes. -/
def gpB (g : Gp) : Tx := encB g.n ++ enc g.pos.toNat
def tpB (t : Tp) : Tx := encB t.n ++ (enc t.base.toNat ++ (encL t.recs ++ (enc t.gs.length ++ t.gs.flatMap gpB)))
def anB (a : An) : Tx := enc a.time.toNat ++ (enc a.err.toNat ++ enc a.off.toNat)
def stB (s : St) : Tx := enc s.L.length ++ (s.L.flatMap tpB ++ s.last.flatMap anB)

def okGs (next : Int) : Tx → List Gp → Bool
  | _, [] => true
  | last, g :: gs => name g.n && decide (last < g.n) && decide (g.pos ≤ next) && okGs next g.n gs
def okT (t : Tp) : Bool := name t.n && decide (t.next ≤ maxNum) && okGs t.next [] t.gs
def okTs : Tx → List Tp → Bool
  | _, [] => true
  | last, t :: L => okT t && decide (last < t.n) && okTs t.n L
def told (e : Int) : Bool := e == 0 || e == 4 || e == 5 || e == 6 || e == 71 || e == 72 || e == 60 || e == 61 || e == 62
def okA (a : An) : Bool := told a.err && (a.err == 0 || a.off == 0) && (decide (0 < a.time) || (a.err == 0 && a.off == 0))
def okS (s : St) : Bool := okTs [] s.L && s.last.all okA
/-- What may be written down. -/
structure FitG (g : Gp) : Prop where
  n : g.n.length ≤ 64
  pos : 0 ≤ g.pos ∧ g.pos ≤ maxNum
structure FitT (t : Tp) : Prop where
  n : t.n.length ≤ 64
  base : 0 ≤ t.base
  next : t.next ≤ maxNum
  few : t.recs.length ≤ 64
  each : ∀ r ∈ t.recs, r.length ≤ 64
  groups : t.gs.length ≤ 8
  g : ∀ g ∈ t.gs, FitG g
structure FitA (a : An) : Prop where
  time : 0 ≤ a.time ∧ a.time ≤ maxNum
  err : 0 ≤ a.err ∧ a.err ≤ 1024
  off : 0 ≤ a.off ∧ a.off ≤ maxNum
structure Fit (s : St) : Prop where
  few : s.L.length ≤ 8
  t : ∀ t ∈ s.L, FitT t
  eight : s.last.length = 8
  a : ∀ a ∈ s.last, FitA a

end Go.Proofs.YtobphijbhghgmaaGreat.Tm

/-
  The plain mathematics of layer 7 (topics): what every request keeps.
-/
namespace Go.Proofs.YtobphijbhghgmaaGreat.Tn
set_option linter.unusedSimpArgs false
open Cm Pm Pz Tm
set_option linter.unusedVariables false

theorem lt_tri {a b : Tx} (h : ¬ a < b) (hne : a ≠ b) : b < a := by
  rcases Classical.em (b < a) with h' | h'
  · exact h'
  · exact absurd (List.le_antisymm (show a ≤ b from h') (show b ≤ a from h)) hne
theorem nil_lt {a : Tx} (h : a ≠ []) : ([] : Tx) < a := by
  cases a with
  | nil => exact absurd rfl h
  | cons x l => exact List.nil_lt_cons x l
theorem name_ne {a : Tx} (h : name a = true) : a ≠ [] := by
  rintro rfl
  revert h
  decide +kernel
/-- Rising names. -/
def RG (gs : List Gp) : Prop := gs.Pairwise fun a b => a.n < b.n
def RT (L : List Tp) : Prop := L.Pairwise fun a b => a.n < b.n
theorem okGs_iff (next : Int) : ∀ (gs : List Gp) (last : Tx), okGs next last gs = true ↔ (∀ g ∈ gs, name g.n = true ∧ g.pos ≤ next ∧ last < g.n) ∧ RG gs
  | [], last => by simp [okGs, RG]
  | g :: gs, last => by
    simp only [okGs, Bool.and_eq_true, decide_eq_true_eq, okGs_iff next gs g.n, RG, List.pairwise_cons, List.forall_mem_cons]
    constructor
    · rintro ⟨⟨⟨h1, h2⟩, h3⟩, h4, h5⟩
      exact ⟨⟨⟨h1, h3, h2⟩, fun x hx => ⟨(h4 x hx).1, (h4 x hx).2.1, List.lt_trans h2 (h4 x hx).2.2⟩⟩, fun x hx => (h4 x hx).2.2, h5⟩
    · rintro ⟨⟨⟨h1, h3, h2⟩, h4⟩, h5, h6⟩
      exact ⟨⟨⟨h1, h2⟩, h3⟩, fun x hx => ⟨(h4 x hx).1, (h4 x hx).2.1, h5 x hx⟩, h6⟩
theorem okTs_iff : ∀ (L : List Tp) (last : Tx), okTs last L = true ↔ (∀ t ∈ L, okT t = true ∧ last < t.n) ∧ RT L
  | [], last => by simp [okTs, RT]
  | t :: L, last => by
    simp only [okTs, Bool.and_eq_true, decide_eq_true_eq, okTs_iff L t.n, RT, List.pairwise_cons, List.forall_mem_cons]
    constructor
    · rintro ⟨⟨h1, h2⟩, h4, h5⟩
      exact ⟨⟨⟨h1, h2⟩, fun x hx => ⟨(h4 x hx).1, List.lt_trans h2 (h4 x hx).2⟩⟩, fun x hx => (h4 x hx).2, h5⟩
    · rintro ⟨⟨⟨h1, h2⟩, h4⟩, h5, h6⟩
      exact ⟨⟨h1, h2⟩, fun x hx => ⟨(h4 x hx).1, h5 x hx⟩, h6⟩
theorem mem_insT {x t : Tp} {L : List Tp} (h : t ∈ insT x L) : t = x ∨ t ∈ L := by
  induction L with
  | nil => simpa [insT] using h
  | cons f L ih =>
    unfold insT at h
    split at h
    · rcases List.mem_cons.1 h with rfl | h
      · exact .inr (List.mem_cons_self ..)
      · exact (ih h).imp id (List.mem_cons_of_mem _)
    · rcases List.mem_cons.1 h with rfl | h
      · exact .inl rfl
      · exact .inr h
theorem len_insT (x : Tp) (L : List Tp) : (insT x L).length = L.length + 1 := by
  induction L with
  | nil => rfl
  | cons f L ih => unfold insT; split <;> simp [ih]
theorem rt_insT {x : Tp} {L : List Tp} (h : RT L) (hx : ∀ t ∈ L, t.n ≠ x.n) : RT (insT x L) := by
  induction L with
  | nil => simp [insT, RT]
  | cons f L ih =>
    have hc := List.pairwise_cons.1 h
    unfold insT
    split
    · rename_i hlt
      refine List.pairwise_cons.2 ⟨fun t ht => ?_, ih hc.2 (fun t ht => hx t (List.mem_cons_of_mem _ ht))⟩
      rcases mem_insT ht with rfl | ht
      · exact hlt
      · exact hc.1 t ht
    · rename_i hlt
      have hf : x.n < f.n := lt_tri hlt (hx f (List.mem_cons_self ..))
      refine List.pairwise_cons.2 ⟨fun t ht => ?_, h⟩
      rcases List.mem_cons.1 ht with rfl | ht
      · exact hf
      · exact List.lt_trans hf (hc.1 t ht)
theorem mem_insG {n : Tx} {k : Int} {g : Gp} {L : List Gp} (h : g ∈ insG n k L) : g = ⟨n, k⟩ ∨ g ∈ L := by
  induction L with
  | nil => simpa [insG] using h
  | cons f L ih =>
    unfold insG at h
    split at h
    · rcases List.mem_cons.1 h with rfl | h
      · exact .inr (List.mem_cons_self ..)
      · exact (ih h).imp id (List.mem_cons_of_mem _)
    · split at h
      · rcases List.mem_cons.1 h with rfl | h
        · exact .inl rfl
        · exact .inr (List.mem_cons_of_mem _ h)
      · rcases List.mem_cons.1 h with rfl | h
        · exact .inl rfl
        · exact .inr h
theorem rg_insG {n : Tx} {k : Int} {L : List Gp} (h : RG L) : RG (insG n k L) := by
  induction L with
  | nil => simp [insG, RG]
  | cons f L ih =>
    have hc := List.pairwise_cons.1 h
    unfold insG
    split
    · rename_i hlt
      refine List.pairwise_cons.2 ⟨fun t ht => ?_, ih hc.2⟩
      rcases mem_insG ht with rfl | ht
      · exact hlt
      · exact hc.1 t ht
    · rename_i hlt
      split
      · rename_i he
        exact List.pairwise_cons.2 ⟨fun t ht => by have := hc.1 t ht; rw [he] at this; exact this, hc.2⟩
      · rename_i hne
        have hf : n < f.n := lt_tri hlt hne
        refine List.pairwise_cons.2 ⟨fun t ht => ?_, h⟩
        rcases List.mem_cons.1 ht with rfl | ht
        · exact hf
        · exact List.lt_trans hf (hc.1 t ht)
theorem pos_none {gs : List Gp} {n : Tx} : pos gs n = none ↔ ∀ g ∈ gs, g.n ≠ n := by simp [pos]
theorem len_insG {n : Tx} {k : Int} {L : List Gp} (h : RG L) : (insG n k L).length ≤ L.length + 1 ∧ (pos L n ≠ none → (insG n k L).length = L.length) := by
  induction L with
  | nil => exact ⟨by simp [insG], fun h => absurd (by simp [pos]) h⟩
  | cons f L ih =>
    have hc := List.pairwise_cons.1 h
    obtain ⟨i1, i2⟩ := ih hc.2
    unfold insG
    split
    · rename_i hlt
      have hne : f.n ≠ n := fun e => by rw [e] at hlt; exact List.lt_irrefl _ hlt
      refine ⟨by simp only [List.length_cons]; omega, fun hp => ?_⟩
      simp only [List.length_cons]
      rw [i2 (fun h0 => hp (by
        rw [pos_none] at h0 ⊢
        intro g hg
        rcases List.mem_cons.1 hg with rfl | hg
        · exact hne
        · exact h0 g hg))]
    · rename_i hlt
      split
      · exact ⟨by simp, fun _ => rfl⟩
      · rename_i hne
        refine ⟨by simp, fun hp => absurd ?_ hp⟩
        have hf : n < f.n := lt_tri hlt hne
        rw [pos_none]
        intro g hg
        rcases List.mem_cons.1 hg with rfl | hg
        · exact hne
        · intro e
          have := List.lt_trans hf (hc.1 g hg)
          rw [e] at this
          exact List.lt_irrefl _ this
theorem findT_some {L : List Tp} {s : Tx} {x : Tp} (h : findT L s = some x) : x ∈ L ∧ x.n = s := ⟨List.mem_of_find?_eq_some h, by simpa using List.find?_some h⟩
theorem findT_none {L : List Tp} {s : Tx} (h : findT L s = none) : ∀ t ∈ L, t.n ≠ s := by simpa [findT] using h
theorem rt_one {L : List Tp} (h : RT L) {t x : Tp} (ht : t ∈ L) (hx : x ∈ L) (e : t.n = x.n) : t = x := by
  induction L with
  | nil => simp at ht
  | cons f L ih =>
    have hc := List.pairwise_cons.1 h
    rcases List.mem_cons.1 ht with h1 | h1 <;> rcases List.mem_cons.1 hx with h2 | h2
    · rw [h1, h2]
    · have := hc.1 x h2; rw [← h1, e] at this; exact absurd this (List.lt_irrefl _)
    · have := hc.1 t h1; rw [← h2, e] at this; exact absurd this (List.lt_irrefl _)
    · exact ih hc.2 h1 h2

/-- Topics that may be. -/
structure GoodL (L : List Tp) : Prop where
  few : L.length ≤ 8
  fit : ∀ t ∈ L, FitT t
  ok : ∀ t ∈ L, okT t = true
  rises : RT L
theorem GoodL.nil : GoodL [] := ⟨by simp, by simp, by simp, List.Pairwise.nil⟩
/-- An answer that may be: no error, or an offset of 0. -/
def GoodR (r : Int × Int) : Prop := told r.1 = true ∧ 0 ≤ r.1 ∧ r.1 ≤ 1024 ∧ 0 ≤ r.2 ∧ r.2 ≤ maxNum ∧ (r.1 = 0 ∨ r.2 = 0)
theorem good_err {e : Int} (h : told e = true) (h0 : 0 ≤ e) (h1 : e ≤ 1024) : GoodR (e, 0) := ⟨h, h0, h1, by simp, by simp [maxNum], .inr rfl⟩
theorem good_off {k : Int} (h0 : 0 ≤ k) (h1 : k ≤ maxNum) : GoodR (0, k) := ⟨rfl, by simp, by simp, h0, h1, .inl rfl⟩
theorem check_told (o : O) : told (check o) = true ∧ 0 ≤ check o ∧ check o ≤ 1024 := by
  unfold check
  repeat' split
  all_goals decide
/-- One topic is turned, and the others stay. -/
theorem GoodL.upd {L : List Tp} (h : GoodL L) {x : Tp} (hx : x ∈ L) (g : Tp → Tp) (hn : (g x).n = x.n) (hf : FitT (g x)) (ho : okT (g x) = true) : GoodL (updT L x.n g) := by
  have key : ∀ t ∈ updT L x.n g, (∃ t' ∈ L, t = t' ∧ t'.n ≠ x.n) ∨ t = g x := by
    intro t ht
    simp only [updT, List.mem_map] at ht
    obtain ⟨t', ht', rfl⟩ := ht
    by_cases e : t'.n = x.n
    · rw [if_pos e]
      rw [rt_one h.rises ht' hx e]
      exact .inr rfl
    · rw [if_neg e]
      exact .inl ⟨t', ht', rfl, e⟩
  have names : ∀ t ∈ L, (if t.n = x.n then g t else t).n = t.n := by
    intro t ht
    split
    · rename_i e
      rw [rt_one h.rises ht hx e, hn]
    · rfl
  refine ⟨by simp only [updT, List.length_map]; exact h.few, fun t ht => ?_, fun t ht => ?_, ?_⟩
  · rcases key t ht with ⟨t', ht', rfl, _⟩ | rfl
    · exact h.fit _ ht'
    · exact hf
  · rcases key t ht with ⟨t', ht', rfl, _⟩ | rfl
    · exact h.ok _ ht'
    · exact ho
  · have : (updT L x.n g).map (·.n) = L.map (·.n) := by
      simp only [updT, List.map_map]
      exact List.map_congr_left fun t ht => names t ht
    have h1 : (L.map (·.n)).Pairwise (· < ·) := List.pairwise_map.2 h.rises
    rw [← this] at h1
    exact List.pairwise_map.1 h1
theorem okT_iff (t : Tp) : okT t = true ↔ name t.n = true ∧ t.next ≤ maxNum ∧ (∀ g ∈ t.gs, name g.n = true ∧ g.pos ≤ t.next) ∧ RG t.gs := by
  simp only [okT, Bool.and_eq_true, decide_eq_true_eq, okGs_iff]
  constructor
  · rintro ⟨⟨h1, h2⟩, h3, h4⟩
    exact ⟨h1, h2, fun g hg => ⟨(h3 g hg).1, (h3 g hg).2.1⟩, h4⟩
  · rintro ⟨h1, h2, h3, h4⟩
    exact ⟨⟨h1, h2⟩, fun g hg => ⟨(h3 g hg).1, (h3 g hg).2, nil_lt (name_ne (h3 g hg).1)⟩, h4⟩

/-- What a request keeps: the topics stay such as may be, and the answer is one that may be. -/
theorem doesS_good {L : List Tp} (h : GoodL L) (o : O) : GoodL (doesS L o).2.2 ∧ GoodR (doesS L o).1 := by
  unfold doesS
  split
  · exact ⟨h, good_err (check_told o).1 (check_told o).2.1 (check_told o).2.2⟩
  · rename_i hc0
    have hc : check o = 0 := Classical.byContradiction hc0
    obtain ⟨l1, l2, l3, l4⟩ := check_lens hc
    obtain ⟨hk, _, hbn, hbr, hbo⟩ := check_ok hc
    split
    · exact ⟨h, good_off (by decide) (by decide)⟩
    · rename_i k0
      have hT : hasT o.kind = true := by
        rcases kind_cases hk with e | e | e | e | e
        · exact absurd e k0
        all_goals (rw [e]; rfl)
      have hnm : name o.topic = true := by
        have := hbn
        simp only [badName, hT, Bool.true_and, Bool.or_eq_false_iff, Bool.not_eq_false'] at this
        exact this.1
      split
      · rename_i k1
        split
        · exact ⟨h, good_err rfl (by decide) (by decide)⟩
        · rename_i hf
          split
          · exact ⟨h, good_err rfl (by decide) (by decide)⟩
          · rename_i h8
            have hno := findT_none (L := L) (s := o.topic) (by simpa using hf)
            refine ⟨⟨by rw [len_insT]; omega, fun t ht => ?_, fun t ht => ?_, rt_insT h.rises hno⟩, good_off (by decide) (by decide)⟩
            · rcases mem_insT ht with rfl | ht
              · exact ⟨by have := l1 hT; simp only; omega, by simp, by simp [Tp.next, maxNum], by simp, by simp, by simp, by simp⟩
              · exact h.fit t ht
            · rcases mem_insT ht with rfl | ht
              · rw [okT_iff]
                exact ⟨hnm, by simp [Tp.next, maxNum], by simp, List.Pairwise.nil⟩
              · exact h.ok t ht
      · rename_i k1
        split
        · exact ⟨h, good_err rfl (by decide) (by decide)⟩
        · rename_i x hfx
          obtain ⟨hxm, hxn⟩ := findT_some hfx
          have fx := h.fit x hxm
          obtain ⟨o1, o2, o3, o4⟩ := (okT_iff x).1 (h.ok x hxm)
          have hb := fx.base
          rw [← hxn]
          split
          · rename_i k2
            split
            · exact ⟨h, good_err rfl (by decide) (by decide)⟩
            · rename_i hq
              have hR : hasR o.kind = true := by rw [k2]; rfl
              obtain ⟨_, q4, qx, _⟩ := l4 hR
              have hnx : ({ x with recs := x.recs ++ o.recs } : Tp).next = x.next + o.recs.length := by simp only [Tp.next, List.length_append]; omega
              refine ⟨h.upd hxm _ rfl ⟨fx.n, fx.base, by rw [hnx]; omega, by simp only [List.length_append]; omega, fun r hr => ?_, fx.groups, fx.g⟩ ?_, good_off (by simp only [Tp.next]; omega) o2⟩
              · rcases List.mem_append.1 hr with hr | hr
                · exact fx.each r hr
                · have := qx r hr; omega
              · rw [okT_iff]
                refine ⟨o1, by rw [hnx]; omega, fun g hg => ⟨(o3 g hg).1, ?_⟩, o4⟩
                have := (o3 g hg).2
                rw [hnx]; omega
          · rename_i k2
            have hO : hasO o.kind = true := by
              rcases kind_cases hk with e | e | e | e | e
              · exact absurd e k0
              · exact absurd e k1
              · exact absurd e k2
              all_goals (rw [e]; rfl)
            have hoff := l3 hO
            split
            · rename_i k3
              have hG : hasG o.kind = true := by rw [k3]; rfl
              have hgn : name o.group = true := by
                have := hbn
                simp only [badName, hG, Bool.true_and, Bool.or_eq_false_iff, Bool.not_eq_false'] at this
                exact this.2
              split
              · exact ⟨h, good_err rfl (by decide) (by decide)⟩
              · rename_i hq
                split
                · exact ⟨h, good_err rfl (by decide) (by decide)⟩
                · rename_i hg8
                  have hlen := len_insG (n := o.group) (k := o.off) o4
                  have fg := fx.groups
                  refine ⟨h.upd hxm _ rfl ⟨fx.n, fx.base, fx.next, fx.few, fx.each, ?_, fun g hg => ?_⟩ ?_, good_off hoff.1 (by simp only [maxNum]; omega)⟩
                  · show (insG o.group o.off x.gs).length ≤ 8
                    by_cases hp : pos x.gs o.group = none
                    · have := hlen.1
                      have : ¬ 8 ≤ x.gs.length := fun h8 => hg8 ⟨hp, h8⟩
                      omega
                    · rw [hlen.2 hp]; exact fg
                  · rcases mem_insG hg with rfl | hg
                    · exact ⟨by have := l2 hG; simp only; omega, hoff.1, by simp only [maxNum]; omega⟩
                    · exact fx.g g hg
                  · rw [okT_iff]
                    refine ⟨o1, o2, fun g hg => ?_, rg_insG o4⟩
                    rcases mem_insG hg with rfl | hg
                    · exact ⟨hgn, by show o.off ≤ x.next; omega⟩
                    · exact o3 g hg
            · split
              · exact ⟨h, good_err rfl (by decide) (by decide)⟩
              · rename_i hq
                have hnx : ({ x with base := o.off, recs := x.recs.drop (o.off - x.base).toNat } : Tp).next = x.next := by
                  simp only [Tp.next, List.length_drop] at hq ⊢
                  omega
                refine ⟨h.upd hxm _ rfl ⟨fx.n, hoff.1, by rw [hnx]; exact o2, by have := fx.few; simp only [List.length_drop]; omega, fun r hr => fx.each r (List.mem_of_mem_drop hr), fx.groups, fx.g⟩ ?_, good_off hoff.1 (by simp only [maxNum]; omega)⟩
                rw [okT_iff]
                exact ⟨o1, by rw [hnx]; exact o2, fun g hg => ⟨(o3 g hg).1, by rw [hnx]; exact (o3 g hg).2⟩, o4⟩

end Go.Proofs.YtobphijbhghgmaaGreat.Tn

/-
  The plain mathematics of layer 7 (topics): the whole machine: what a request keeps, what is read of stB, at most once, what stays.
-/
namespace Go.Proofs.YtobphijbhghgmaaGreat.Tq
set_option linter.unusedSimpArgs false
open Cm Pm Pz Tm Tn
set_option linter.unusedVariables false

/-- A machine that may be. -/
structure GoodS (s : St) : Prop where
  L : GoodL s.L
  eight : s.last.length = 8
  a : ∀ a ∈ s.last, FitA a ∧ okA a = true
theorem GoodS.zero : GoodS St.zero := ⟨GoodL.nil, by simp [St.zero], fun a ha => by
  have : a = An.zero := by simpa [St.zero] using ha
  subst this
  exact ⟨⟨⟨by decide, by decide⟩, ⟨by decide, by decide⟩, ⟨by decide, by decide⟩⟩, by decide⟩⟩
theorem badArg_no {c t : Int} (h : ¬ badArg c t = true) : 0 ≤ c ∧ c < 8 ∧ 1 ≤ t ∧ t ≤ maxNum := by
  simp only [badArg, Bool.or_eq_true, decide_eq_true_eq, not_or] at h
  omega
theorem appS_good {s : St} (h : GoodS s) (c t : Int) (o : O) : GoodS (appS s c t o).2.2.2 := by
  unfold appS
  split
  · exact h
  · rename_i hb
    obtain ⟨c0, c1, t0, t1⟩ := badArg_no hb
    simp only
    split
    · exact h
    · split
      · exact h
      · obtain ⟨g1, g2⟩ := doesS_good h.L o
        refine ⟨g1, by simp only [List.length_set]; exact h.eight, fun a ha => ?_⟩
        rcases List.mem_or_eq_of_mem_set ha with ha | rfl
        · exact h.a a ha
        · obtain ⟨r1, r2, r3, r4, r5, r6⟩ := g2
          refine ⟨⟨⟨by simp only; omega, t1⟩, ⟨r2, r3⟩, ⟨r4, r5⟩⟩, ?_⟩
          have hz : (0 : Int) < t := by omega
          simp only [okA, r1, Bool.true_and, hz, decide_true, Bool.true_or, Bool.and_true, Bool.or_eq_true, beq_iff_eq]
          exact r6
theorem GoodS.fit {s : St} (h : GoodS s) : Fit s := ⟨h.L.few, h.L.fit, h.eight, fun a ha => (h.a a ha).1⟩
theorem GoodS.ok {s : St} (h : GoodS s) : okS s = true := by
  simp only [okS, Bool.and_eq_true, List.all_eq_true]
  refine ⟨(okTs_iff _ _).2 ⟨fun t ht => ⟨h.L.ok t ht, nil_lt (name_ne ((okT_iff t).1 (h.L.ok t ht)).1)⟩, h.L.rises⟩, fun a ha => (h.a a ha).2⟩
/-- The time of a client's last request. -/
def tm (s : St) (c : Int) : Int := (s.last.getD c.toNat An.zero).time
/-- Which records were given, topic by topic. -/
abbrev Log := Tx → List Tx
/-- The topics hold what was given, from their bases on. -/
structure LogOk (L : List Tp) (f : Log) : Prop where
  held : ∀ t ∈ L, ((f t.n).length : Int) = t.next ∧ t.recs = (f t.n).drop t.base.toNat
  none : ∀ n, (∀ t ∈ L, t.n ≠ n) → f n = []
theorem LogOk.nil : LogOk [] fun _ => [] := ⟨by simp, fun _ _ => rfl⟩
theorem LogOk.upd {L : List Tp} {f f' : Log} (hl : LogOk L f) (h : GoodL L) {x : Tp} (hx : x ∈ L) (g : Tp → Tp) (hn : (g x).n = x.n) (hf : ∀ m, m ≠ x.n → f' m = f m) (hg : ((f' x.n).length : Int) = (g x).next ∧ (g x).recs = (f' x.n).drop (g x).base.toNat) : LogOk (updT L x.n g) f' := by
  refine ⟨fun t ht => ?_, fun n hno => ?_⟩
  · simp only [updT, List.mem_map] at ht
    obtain ⟨t', ht', rfl⟩ := ht
    by_cases e : t'.n = x.n
    · rw [if_pos e, rt_one h.rises ht' hx e, hn]
      exact hg
    · rw [if_neg e, hf _ e]
      exact hl.held t' ht'
  · have hno' : ∀ t ∈ L, t.n ≠ n := by
      intro t ht e
      have hm := hno (if t.n = x.n then g t else t) (List.mem_map_of_mem ht)
      by_cases e2 : t.n = x.n
      · rw [if_pos e2, rt_one h.rises ht hx e2, hn] at hm
        exact hm (by rw [← e2]; exact e)
      · rw [if_neg e2] at hm
        exact hm e
    rw [hf n (fun e => hno' x hx e.symm)]
    exact hl.none n hno'
end Go.Proofs.YtobphijbhghgmaaGreat.Tq

/-
  Words for memory of the program's topics; New, made, find, isClient, next.
-/
namespace Go.Proofs.YtobphijbhghgmaaGreat.Aa
set_option linter.unusedSimpArgs false
open Go Go.RowKit Ck Kw Ga Kf Km Pm Pz Tm Tn Tq
attribute [local go_sem ↓] Go.wp_at_zero Go.wp_at_succ
set_option linter.unusedVariables false

/-- An answer's cells. -/
def AC (a : An) : List Value := [.int .i64 a.time, .int .i64 a.err, .int .i64 a.off]
def ACs (l : List An) : List Value := l.flatMap AC
theorem AC_len (x : An) : (AC x).length = 3 := rfl
/-- Records: a row whose elements lie in R. -/
def Rs (w : World) (R : Nat → Prop) (v : Value) (rs : List Tx) : Prop :=
  ∃ vals, w.ownsRow 0 145 1 v rs.length vals ∧ ∀ i (hi : i < rs.length), ∃ u, vals[i]? = some u ∧ Sl w (fun k => ¬ R k) 1 u rs[i].length (BVs rs[i])
/-- What a map of groups tells. -/
def TellsG (D : DataW Unit) (gs : List Gp) : Prop :=
  (∀ s : Tx, Maps.has D (.string s) = (pos gs s).isSome) ∧ ∀ s k, pos gs s = some k → ∀ zd, D.atKey (.string s) zd = .lit (.int .i64 k)
def Gs (w : World) (m : Nat) (gs : List Gp) : Prop := ∃ D, w.ownsMap Tryz.prog 9 inElem m (Maps.size D) D ∧ TellsG D gs
/-- Block g is a topic: v its records, mg its groups; what may be written of it lies in T. -/
structure Tg (w : World) (T R : Nat → Prop) (g : Nat) (t : Tp) (v : Value) (mg : Nat) : Prop where
  blk : Blk w g 158 #[.int .i64 t.base, v, .map (some mg)]
  recs : Rs w R v t.recs
  gs : Gs w mg t.gs
  tg : T g
  tv : ∀ k, v.ownBlock = some k → T k
  tm : T mg
/-- What the map of topics tells: where each lies. -/
def TellsT (D : DataW Unit) (L : List Tp) (G : Tx → Nat) : Prop :=
  (∀ s : Tx, Maps.has D (.string s) = (findT L s).isSome) ∧ ∀ t ∈ L, ∀ zd, D.atKey (.string t.n) zd = .lit (.int .i64 (G t.n : Int))
/-- Topics, laid open. -/
structure TP (w : World) (S R : Nat → Prop) (p m : Nat) (s : St) (D : DataW Unit) (G : Tx → Nat) (V : Tx → Value) (M : Tx → Nat) (T : Tx → Nat → Prop) : Prop where
  blk : Blk w p 74 (.map (some m) :: ACs s.last).toArray
  sp : S p
  own : w.ownsMap Tryz.prog 9 ptrElem m (Maps.size D) D
  tells : TellsT D s.L G
  sm : S m ∧ m ≠ p
  top : ∀ t ∈ s.L, Tg w (T t.n) R (G t.n) t (V t.n) (M t.n)
  sub : ∀ t ∈ s.L, ∀ k, T t.n k → S k ∧ k ≠ p ∧ k ≠ m ∧ k < w.heap.size
  apart : ∀ t ∈ s.L, ∀ u ∈ s.L, t.n ≠ u.n → ∀ k, T t.n k → T u.n k → False
  rs : ∀ k, R k → ¬ S k ∧ k < w.heap.size
  good : GoodS s
/-- Block p is topics: what may be written of them lies in S, the bytes of their records in R. -/
def Tz (w : World) (S R : Nat → Prop) (p : Nat) (s : St) : Prop := ∃ m D G V M T, TP w S R p m s D G V M T
section
variable {w w' : World} {S R T X : Nat → Prop} {p m g mg : Nat} {s : St} {t : Tp} {v : Value} {D : DataW Unit} {G : Tx → Nat} {V : Tx → Value} {M : Tx → Nat} {F : Tx → Nat → Prop} {rs : List Tx} {gs : List Gp}
theorem Rs.ch (h : Rs w R v rs) (c : Ch X w w') (hv : ∀ k, v.ownBlock = some k → ¬ X k) (hr : ∀ k, R k → ¬ X k) : Rs w' R v rs := by
  obtain ⟨vals, h1, h2⟩ := h
  refine ⟨vals, own_ch h1 c hv, fun i hi => ?_⟩
  obtain ⟨u, hu, h3⟩ := h2 i hi
  exact ⟨u, hu, h3.ch c (fun k _ hk hR => hr k hR hk)⟩
theorem Rs.more {R' : Nat → Prop} (h : Rs w R v rs) (hr : ∀ k, R k → R' k) : Rs w R' v rs := by
  obtain ⟨vals, h1, h2⟩ := h
  refine ⟨vals, h1, fun i hi => ?_⟩
  obtain ⟨u, hu, h3⟩ := h2 i hi
  exact ⟨u, hu, h3.weaken (fun k _ hk hR => hk (hr k hR))⟩
theorem Rs.nil (w : World) (R : Nat → Prop) : Rs w R (.slice none 0 0) [] := ⟨[], World.ownsRow_nil _ _ _ _, fun i hi => absurd hi (by simp)⟩
theorem Gs.ch (h : Gs w m gs) (c : Ch X w w') (hm : ¬ X m) : Gs w' m gs := by
  obtain ⟨D, h1, h2⟩ := h
  exact ⟨D, map_ch h1 c hm, h2⟩
theorem Tg.ch (h : Tg w T R g t v mg) (c : Ch X w w') (hd : ∀ k, T k → ¬ X k) (hr : ∀ k, R k → ¬ X k) : Tg w' T R g t v mg :=
  ⟨h.blk.ch c (hd _ h.tg), h.recs.ch c (fun k hk => hd _ (h.tv k hk)) hr, h.gs.ch c (hd _ h.tm), h.tg, h.tv, h.tm⟩
theorem Tg.more {R' T' : Nat → Prop} (h : Tg w T R g t v mg) (hr : ∀ k, R k → R' k) (ht : ∀ k, T k → T' k) : Tg w T' R' g t v mg :=
  ⟨h.blk, h.recs.more hr, h.gs, ht _ h.tg, fun k hk => ht _ (h.tv k hk), ht _ h.tm⟩
theorem TP.shut (h : TP w S R p m s D G V M F) : Tz w S R p s := ⟨m, D, G, V, M, F, h⟩
theorem TP.ch (h : TP w S R p m s D G V M F) (c : Ch X w w') (hd : ∀ k, S k → ¬ X k) (hr : ∀ k, R k → ¬ X k) : TP w' S R p m s D G V M F :=
  ⟨h.blk.ch c (hd _ h.sp), h.sp, map_ch h.own c (hd _ h.sm.1), h.tells, h.sm, fun t ht => (h.top t ht).ch c (fun k hk => hd _ (h.sub t ht k hk).1) hr,
    fun t ht k hk => ⟨(h.sub t ht k hk).1, (h.sub t ht k hk).2.1, (h.sub t ht k hk).2.2.1, Nat.lt_of_lt_of_le (h.sub t ht k hk).2.2.2 c.size⟩, h.apart, fun k hk => ⟨(h.rs k hk).1, Nat.lt_of_lt_of_le (h.rs k hk).2 c.size⟩, h.good⟩
theorem TP.later (h : TP w S R p m s D G V M F) (b : Below w.heap.size w w') : TP w' S R p m s D G V M F :=
  h.ch (Ch.of_below (S := fun _ => False) b (Nat.le_refl _)) (fun _ _ h => h) (fun _ _ h => h)
theorem Tz.ch (h : Tz w S R p s) (c : Ch X w w') (hd : ∀ k, S k → ¬ X k) (hr : ∀ k, R k → ¬ X k) : Tz w' S R p s := by
  obtain ⟨m, D, G, V, M, F, h⟩ := h
  exact (h.ch c hd hr).shut
theorem Tz.later (h : Tz w S R p s) (b : Below w.heap.size w w') : Tz w' S R p s := by
  obtain ⟨m, D, G, V, M, F, h⟩ := h
  exact (h.later b).shut
theorem Tz.good (h : Tz w S R p s) : GoodS s := by
  obtain ⟨m, D, G, V, M, F, h⟩ := h
  exact h.good
theorem TP.names (h : TP w S R p m s D G V M F) : (s.L.map (·.n)).Nodup := by
  have h1 : (s.L.map (·.n)).Pairwise (· < ·) := List.pairwise_map.2 h.good.L.rises
  exact h1.imp (fun {a b} hab e => by rw [e] at hab; exact List.lt_irrefl _ hab)
theorem isSome_find {L : List Tp} {x : Tx} : (findT L x).isSome = true ↔ x ∈ L.map (·.n) := by
  rw [List.mem_map]
  constructor
  · intro h
    obtain ⟨t, ht⟩ := Option.isSome_iff_exists.1 h
    exact ⟨t, (findT_some ht).1, (findT_some ht).2⟩
  · rintro ⟨t, ht, rfl⟩
    cases hf : findT L t.n with
    | none => exact absurd rfl (findT_none hf t ht)
    | some _ => rfl
theorem TP.size (h : TP w S R p m s D G V M F) : Maps.size D = s.L.length := by
  rw [size_names h.own h.names (fun x => by rw [h.tells.1, isSome_find]), List.length_map]
theorem zero_ptr (w : World) : (zeroValue 153).run Tryz.prog w = .ok (.pointer none) w := by kernel_rfl
/-- The map's look-up. -/
theorem TP.look (h : TP w S R p m s D G V M F) (x : Tx) (hx : x.length ≤ 140737488355328) :
    (Instr.lookup 67 (.map (some m)) (.string ⟨x.toArray⟩) true).run Tryz.prog w = .ok (.tuple #[PV ((findT s.L x).map fun t => G t.n), .bool (findT s.L x).isSome]) w := by
  obtain ⟨v, ps, hrun, hv⟩ := h.own.look_ok law_str Tryz.underlying67 (zero_ptr w) (zd := .nil) (zp := []) ptrElem_nil (key_str x (by simp only [maxLen]; omega))
  rw [h.tells.1 x] at hrun
  rw [hrun]
  cases hf : findT s.L x with
  | some t =>
    obtain ⟨ht, rfl⟩ := findT_some hf
    rw [h.tells.2 t ht] at hv
    rw [ptrElem_at hv]
    rfl
  | none =>
    rw [has_atKey (by rw [h.tells.1, hf]; rfl)] at hv
    obtain ⟨o, rfl, hz⟩ := ptrElem_inv hv
    cases o with
    | none => rfl
    | some g =>
      have h1 := congrArg Prod.fst hz
      cases h1
theorem TP.cell0 (h : TP w S R p m s D G V M F) : w.cell? ⟨p, 0, none⟩ = some (.map (some m)) := by
  have := h.blk.cell 0
  simpa using this
theorem TP.len8 (h : TP w S R p m s D G V M F) : s.last.length = 8 := h.good.eight
/-- A client's cells. -/
theorem TP.cellA (h : TP w S R p m s D G V M F) {i : Nat} (hi : i < s.last.length) : w.cell? ⟨p, 1 + i * 3, none⟩ = some (.int .i64 s.last[i].time) ∧ w.cell? ⟨p, 1 + i * 3 + 1, none⟩ = some (.int .i64 s.last[i].err) ∧ w.cell? ⟨p, 1 + i * 3 + 2, none⟩ = some (.int .i64 s.last[i].off) := by
  have key : ∀ j, j < 3 → w.cell? ⟨p, 1 + i * 3 + j, none⟩ = (AC s.last[i])[j]? := fun j hj => by
    have := h.blk.cell (1 + i * 3 + j)
    rw [this, List.getElem?_toArray, show 1 + i * 3 + j = (i * 3 + j) + 1 from by omega, List.getElem?_cons_succ]
    exact flat_get AC_len s.last i hi j hj
  exact ⟨key 0 (by omega), key 1 (by omega), key 2 (by omega)⟩
end

/-- Topics that no call made. -/
def Un (w : World) (v : Value) : Prop := v = .pointer none ∨ ∃ p l, v = .pointer (some ⟨p, 0, none⟩) ∧ Blk w p 74 (.map none :: l).toArray
theorem Un.later {w w' : World} {v : Value} (h : Un w v) (b : Below w.heap.size w w') : Un w' v := by
  rcases h with h | ⟨p, l, h, hb⟩
  · exact .inl h
  · exact .inr ⟨p, l, h, hb.below b hb.lt⟩
theorem made_un (w : World) (v : Value) (h : Un w v) : Calls Tryz.prog 84 #[v] w fun e w' => e = .returned (.bool false) ∧ w = w' := by
  rcases h with rfl | ⟨p, l, rfl, h⟩
  · go_enter Tryz.func84, Tryz.ntmps84
    go_wp2
    go_ret
    exact ⟨rfl, rfl⟩
  · have c0 : w.cell? ⟨p, 0, none⟩ = some (.map none) := by have := h.cell 0; simpa using this
    have hq := fun W => run_neq_map_nil (P := Tryz.prog) W 67 9 153 none Tryz.underlying67
    clear h
    go_enter Tryz.func84, Tryz.ntmps84
    go_wp2
    go_ret
    exact ⟨rfl, rfl⟩
theorem made_on (w : World) (S R : Nat → Prop) (p : Nat) (s : St) (h : Tz w S R p s) :
    Calls Tryz.prog 84 #[.pointer (some ⟨p, 0, none⟩)] w fun e w' => e = .returned (.bool true) ∧ w = w' := by
  obtain ⟨m, D, G, V, M, F, hP⟩ := h
  have c0 := hP.cell0
  have hq := fun W => run_neq_map_nil (P := Tryz.prog) W 67 9 153 (some m) Tryz.underlying67
  clear hP
  go_enter Tryz.func84, Tryz.ntmps84
  go_wp2
  go_ret
  exact ⟨rfl, rfl⟩
theorem find_un (w : World) (v : Value) (s : ByteArray) (h : Un w v) : Calls Tryz.prog 86 #[v, .string s] w fun e w' => e = .returned (.tuple #[.pointer none, .int .i64 2]) ∧ w = w' := by
  have H := Lib.hid h
  clear h
  go_enter Tryz.func86, Tryz.ntmps86
  go_wp2_with (go_at_call 84; refine (made_un _ _ H.out).mono ?_; rintro e w' ⟨rfl, rfl⟩)
  go_ret2
  exact ⟨rfl, rfl⟩
set_option maxRecDepth 100000 in
theorem find_on (w : World) (S R : Nat → Prop) (p m : Nat) (s : St) (D : DataW Unit) (G : Tx → Nat) (V : Tx → Value) (M : Tx → Nat) (F : Tx → Nat → Prop) (x : Tx) (hx : x.length ≤ 140737488355328) (h : TP w S R p m s D G V M F) :
    Calls Tryz.prog 86 #[.pointer (some ⟨p, 0, none⟩), .string ⟨x.toArray⟩] w fun e w' => e = .returned (.tuple #[PV ((findT s.L x).map fun t => G t.n), .int .i64 (if (findT s.L x).isSome then 0 else 4)]) ∧ w = w' := by
  have HM := Lib.hid (made_on w S R p s h.shut)
  have c0 := h.cell0
  have e2 := h.look x hx
  clear h hx
  cases hf : findT s.L x with
  | some t =>
    rw [hf] at e2
    unfold PV at e2 ⊢
    simp only [Option.map_some, Option.isSome_some] at e2 ⊢
    clear hf
    go_enter Tryz.func86, Tryz.ntmps86
    go_wp2_with (go_at_call 84; refine HM.out.mono ?_; rintro e w' ⟨rfl, rfl⟩)
    go_ret2
    exact ⟨rfl, rfl⟩
  | none =>
    rw [hf] at e2
    unfold PV at e2 ⊢
    simp only [Option.map_none, Option.isSome_none] at e2 ⊢
    clear hf
    go_enter Tryz.func86, Tryz.ntmps86
    go_wp2_with (go_at_call 84; refine HM.out.mono ?_; rintro e w' ⟨rfl, rfl⟩)
    go_ret2
    exact ⟨rfl, rfl⟩
theorem client_any (w : World) (c : Int) : Calls Tryz.prog 91 #[.int .i64 c] w fun e w' => e = .returned (.bool (decide (0 ≤ c) && decide (c < 8))) ∧ w = w' := by
  by_cases h0 : 0 ≤ c
  · have h1 : decide (0 ≤ c) = true := decide_eq_true h0
    go_enter Tryz.func91, Tryz.ntmps91
    go_wp2
    go_ret
    exact ⟨by simp [h0], rfl⟩
  · have h1 : decide (0 ≤ c) = false := decide_eq_false h0
    have h2 : c < 0 := by omega
    go_enter Tryz.func91, Tryz.ntmps91
    go_wp2
    go_ret
    exact ⟨by simp [h0], rfl⟩
theorem wrap_next {t : Tp} (h0 : 0 ≤ t.base) (h1 : t.next ≤ maxNum) : IntKind.i64.wrap (t.base + (t.recs.length : Int)) = t.next := by
  simp only [Tp.next, maxNum] at h1
  rw [Tp.next]
  exact Ga.wrap64 (by omega) (by omega)
theorem next_any (w : World) (T R : Nat → Prop) (g : Nat) (t : Tp) (v : Value) (mg : Nat) (h : Tg w T R g t v mg) (h0 : 0 ≤ t.base) (h1 : t.next ≤ maxNum) :
    Calls Tryz.prog 87 #[.pointer (some ⟨g, 0, none⟩)] w fun e w' => e = .returned (.int .i64 t.next) ∧ Below w.heap.size w w' := by
  have b := h.blk
  obtain ⟨vals, hr, -⟩ := h.recs
  obtain ⟨A, c, rfl⟩ := own_shape hr
  have c0 : w.cell? ⟨g, 0, none⟩ = some (.int .i64 t.base) := b.cell 0
  have c1 : w.cell? ⟨g, 1, none⟩ = some (.slice A t.recs.length c) := b.cell 1
  have hw := wrap_next h0 h1
  clear h b hr
  go_enter Tryz.func87, Tryz.ntmps87
  go_wp2_with fail
  go_quiet (fail)
  go_wp2_with fail
  go_ret
  exact ⟨by first | rfl | (rw [← hw]; rfl), below_drewN (Below.refl _ _) _⟩
end Go.Proofs.YtobphijbhghgmaaGreat.Aa

/-
  Contracts of the program's topics: newTopic, New, create.
-/
namespace Go.Proofs.YtobphijbhghgmaaGreat.Ab
set_option linter.unusedSimpArgs false
open Go Go.RowKit Ck Kw Ga Kf Km Pm Pz Tm Tn Tq Aa
attribute [local go_sem ↓] Go.wp_at_zero Go.wp_at_succ
set_option linter.unusedVariables false

theorem gs_nil {w : World} {m : Nat} (h : w.ownsMap Tryz.prog 9 inElem m 0 (.map [])) : Gs w m [] := ⟨.map [], h.mono (Nat.zero_le _), fun _ => rfl, fun s k h => by simp [pos] at h⟩
theorem newtopic_any (w : World) : Calls Tryz.prog 160 #[] w fun e w' => ∃ g mg, e = .returned (.pointer (some ⟨g, 0, none⟩)) ∧ (∀ (n : Tx) (R : Nat → Prop), Tg w' (New w w') R g ⟨n, 0, [], []⟩ (.slice none 0 0) mg) ∧ Below w.heap.size w w' := by
  have hmm := @run_makeMap Tryz.prog
  go_enter Tryz.func160, Tryz.ntmps160
  go_wp2
  go_ret
  refine ⟨_, w.heap.size, rfl, fun n R => ?_, ?_⟩
  · exact ⟨Blk.new_at (by simp) rfl, Rs.nil _ _, gs_nil (((World.ownsMap_made w _ _ _).alloc _).mono (by omega)), ⟨by simp, by simp⟩, fun k hk => by simp [Value.ownBlock] at hk, ⟨Nat.le_refl _, by simp; omega⟩⟩
  · exact ((Below.refl _ w).alloc (Nat.le_refl _) _).alloc (by simp) _
theorem tz_none {W : World} {S : Nat → Prop} {p m : Nat} (hb : Blk W p 74 (.map (some m) :: ACs St.zero.last).toArray) (ho : W.ownsMap Tryz.prog 9 ptrElem m 0 (.map [])) (hp : S p) (hm : S m) (hne : m ≠ p) : Tz W S (fun _ => False) p St.zero :=
  TP.shut (m := m) (D := .map []) (G := fun _ => 0) (V := fun _ => .slice none 0 0) (M := fun _ => 0) (F := fun _ _ => False) ⟨hb, hp, ho, ⟨fun _ => rfl, (fun f hf => (nomatch hf))⟩, ⟨hm, hne⟩, (fun f hf => (nomatch hf)), (fun f hf => (nomatch hf)), (fun f hf => (nomatch hf)), fun k h => h.elim, GoodS.zero⟩
theorem new_any (w : World) : Calls Tryz.prog 25 #[] w fun e w' => ∃ p, e = .returned (.pointer (some ⟨p, 0, none⟩)) ∧ Tz w' (New w w') (fun _ => False) p St.zero ∧ Below w.heap.size w w' := by
  have hmm := @run_makeMap Tryz.prog
  go_enter Tryz.func25, Tryz.ntmps25
  go_wp2
  go_ret
  refine ⟨_, rfl, ?_, ?_⟩
  · exact tz_none (m := w.heap.size) (Blk.new_at (by simp) rfl) (((World.ownsMap_made w _ _ _).alloc _).mono (by omega)) ⟨by simp, by simp⟩ ⟨Nat.le_refl _, by simp; omega⟩ (by simp)
  · exact ((Below.refl _ w).alloc (Nat.le_refl _) _).alloc (by simp) _

theorem find_ins {L : List Tp} {x : Tp} (h : findT L x.n = none) (s : Tx) : findT (insT x L) s = if s = x.n then some x else findT L s := by
  have hno := findT_none h
  clear h
  induction L with
  | nil =>
    simp only [insT, findT, List.find?_cons, List.find?_nil]
    by_cases e : s = x.n
    · subst e; simp
    · rw [if_neg e, decide_eq_false (fun h => e h.symm)]
  | cons f L ih =>
    have hf := hno f (List.mem_cons_self ..)
    have ih := ih (fun t ht => hno t (List.mem_cons_of_mem _ ht))
    unfold findT at ih ⊢
    rw [insT]
    split
    · rw [List.find?_cons, List.find?_cons]
      by_cases e : f.n = s
      · have : s ≠ x.n := fun h => hf (e.trans h)
        simp [e, this]
      · rw [decide_eq_false e]
        exact ih
    · rw [List.find?_cons]
      by_cases e : s = x.n
      · subst e; simp
      · rw [if_neg e, decide_eq_false (fun h => e h.symm)]
theorem mem_ins_iff {x t : Tp} {L : List Tp} : t ∈ insT x L ↔ t = x ∨ t ∈ L := by
  refine ⟨mem_insT, fun h => ?_⟩
  induction L with
  | nil => rcases h with rfl | h; · simp [insT]
           · cases h
  | cons f L ih =>
    unfold insT
    split
    · rcases h with rfl | h
      · exact List.mem_cons_of_mem _ (ih (.inl rfl))
      · rcases List.mem_cons.1 h with rfl | h
        · exact List.mem_cons_self ..
        · exact List.mem_cons_of_mem _ (ih (.inr h))
    · rcases h with rfl | h
      · exact List.mem_cons_self ..
      · exact List.mem_cons_of_mem _ h
/-- What create answers, and the topics behind it. -/
def crS (L : List Tp) (x : Tx) : Int × List Tp := if (findT L x).isSome then (5, L) else if 8 ≤ L.length then (6, L) else (0, insT ⟨x, 0, [], []⟩ L)
/-- One topic more. -/
theorem tp_add {w w1 w2 : World} {S R : Nat → Prop} {p m g mg : Nat} {s : St} {D : DataW Unit} {G : Tx → Nat} {V : Tx → Value} {M : Tx → Nat} {F : Tx → Nat → Prop} {x : Tx} (h : TP w S R p m s D G V M F) (hf : findT s.L x = none)
    (hg : GoodS ⟨insT ⟨x, 0, [], []⟩ s.L, s.last⟩) (b : Below w.heap.size w w1) (ht : Tg w1 (New w w1) R g ⟨x, 0, [], []⟩ (.slice none 0 0) mg) (c : Ch (fun k => k = m) w1 w2) (ho : w2.ownsMap Tryz.prog 9 ptrElem m (Maps.size (D.put (.string x) (.lit (.int .i64 (g : Int))))) (D.put (.string x) (.lit (.int .i64 (g : Int))))) :
    TP w2 (Up S w w2) R p m ⟨insT ⟨x, 0, [], []⟩ s.L, s.last⟩ (D.put (.string x) (.lit (.int .i64 (g : Int)))) (fun t => if t = x then g else G t) (fun t => if t = x then .slice none 0 0 else V t) (fun t => if t = x then mg else M t) (fun t => if t = x then New w w1 else F t) := by
  have h1 := h.later b
  have hs1 := b.size
  have hs2 := c.size
  have hml : m < w.heap.size := h.own.lt
  have hpl : p < w.heap.size := h.blk.lt
  have hne := findT_none hf
  refine ⟨h1.blk.ch c (fun e => h.sm.2 e.symm), .inl h.sp, ho, ⟨fun t => ?_, fun t ht' zd => ?_⟩, ⟨.inl h.sm.1, h.sm.2⟩, fun t ht' => ?_, fun t ht' k hk => ?_, fun t ht' u hu hn k hk hk' => ?_, fun k hk => ?_, hg⟩
  · rw [has_put h.own.isMap, find_ins (x := ⟨x, 0, [], []⟩) hf, h.tells.1]
    by_cases e : t = x
    · subst e; simp
    · rw [if_neg e]
      have : (x == t) = false := by rw [beq_eq_false_iff_ne]; exact fun h => e h.symm
      rw [this, Bool.false_or]
  · rcases mem_ins_iff.1 ht' with rfl | ht'
    · rw [at_put_same h.own.isMap]
      simp
    · rw [at_put_other (hne t ht')]
      simp only [if_neg (hne t ht')]
      exact h.tells.2 t ht' zd
  · rcases mem_ins_iff.1 ht' with rfl | ht'
    · simp only [if_pos]
      exact ht.ch c (fun k hk e => by have := hk.1; omega) (fun k hk e => (h.rs k hk).1 (by rw [e]; exact h.sm.1))
    · simp only [if_neg (hne t ht')]
      exact (h1.top t ht').ch c (fun k hk e => (h1.sub t ht' k hk).2.2.1 e) (fun k hk e => (h.rs k hk).1 (by rw [e]; exact h.sm.1))
  · rcases mem_ins_iff.1 ht' with rfl | ht'
    · simp only [if_pos] at hk
      obtain ⟨k1, k2⟩ := hk
      exact ⟨.inr ⟨by omega, by omega⟩, by omega, by omega, by omega⟩
    · simp only [if_neg (hne t ht')] at hk
      have := h.sub t ht' k hk
      exact ⟨.inl this.1, this.2.1, this.2.2.1, by omega⟩
  · rcases mem_ins_iff.1 ht' with rfl | ht'
    · rcases mem_ins_iff.1 hu with rfl | hu
      · exact hn rfl
      · simp only [if_pos] at hk
        simp only [if_neg (hne u hu)] at hk'
        have := (h.sub u hu k hk').2.2.2
        have := hk.1
        omega
    · simp only [if_neg (hne t ht')] at hk
      rcases mem_ins_iff.1 hu with rfl | hu
      · simp only [if_pos] at hk'
        have := (h.sub t ht' k hk).2.2.2
        have := hk'.1
        omega
      · simp only [if_neg (hne u hu)] at hk'
        exact h.apart t ht' u hu hn k hk hk'
  · obtain ⟨r1, r2⟩ := h.rs k hk
    refine ⟨fun hu => ?_, by omega⟩
    rcases hu with hu | hu
    · exact r1 hu
    · omega

/-- Topics s' behind a call that may write S and new blocks. -/
def Did (S R : Nat → Prop) (p : Nat) (s' : St) (w w' : World) : Prop := Tz w' (Up S w w') R p s' ∧ Ch S w w'
theorem up_refl {S : Nat → Prop} {w : World} {k : Nat} : Up S w w k ↔ S k := ⟨fun h => by rcases h with h | h; exact h; omega, .inl⟩
theorem Tz.same {w : World} {S S' R : Nat → Prop} {p : Nat} {s : St} (h : Tz w S R p s) (hs : ∀ k, S' k ↔ S k) : Tz w S' R p s := by
  have : S' = S := funext fun k => propext (hs k)
  rw [this]; exact h
theorem did_refl {w : World} {S R : Nat → Prop} {p : Nat} {s : St} (h : Tz w S R p s) : Did S R p s w w := ⟨Tz.same h (fun _ => up_refl), Ch.refl _ _⟩

set_option maxRecDepth 100000 in
set_option maxHeartbeats 1000000 in
theorem create_any (w : World) (S R : Nat → Prop) (p : Nat) (s : St) (x : Tx) (hx : x.length ≤ 140737488355328) (h : Tz w S R p s) (hg : findT s.L x = none → s.L.length < 8 → GoodS ⟨insT ⟨x, 0, [], []⟩ s.L, s.last⟩) :
    Calls Tryz.prog 139 #[.pointer (some ⟨p, 0, none⟩), .string ⟨x.toArray⟩] w fun e w' => e = .returned (.int .i64 (crS s.L x).1) ∧ Did S R p ⟨(crS s.L x).2, s.last⟩ w w' := by
  have HZ := Lib.hid h
  obtain ⟨m, D, G, V, M, F, hP⟩ := h
  have c0 := hP.cell0
  have e2 := hP.look x hx
  have hsz := hP.size
  have HP := Lib.hid hP
  have HK := Lib.hid (key_str x (by simp only [maxLen]; omega))
  have hfew := hP.good.L.few
  cases hf : findT s.L x with
  | some t =>
    have e : crS s.L x = (5, s.L) := by rw [crS, hf]; rfl
    rw [e]
    rw [hf] at e2
    unfold PV at e2
    simp only [Option.map_some, Option.isSome_some] at e2
    clear hP hf e hsz hx hg
    go_enter Tryz.func139, Tryz.ntmps139
    go_wp2
    go_ret
    exact ⟨rfl, did_refl HZ.out⟩
  | none =>
    rw [hf] at e2
    unfold PV at e2
    simp only [Option.map_none, Option.isSome_none] at e2
    by_cases h8 : 8 ≤ s.L.length
    · have e : crS s.L x = (6, s.L) := by rw [crS, hf, if_neg (by simp), if_pos h8]
      rw [e]
      have hll : (8 : Int) ≤ (s.L.length : Int) := by omega
      have HSZ := Lib.hid hsz
      clear hP hf e hsz hx hg h8
      go_enter Tryz.func139, Tryz.ntmps139
      go_wp2_with (at_len; refine wpList_len_own _ rfl _ 67 rfl 9 153 Tryz.underlying67 ptrElem m _ D rfl HP.out.own ?_; rw [HSZ.out])
      go_ret
      exact ⟨rfl, did_refl HZ.out⟩
    · have e : crS s.L x = (0, insT ⟨x, 0, [], []⟩ s.L) := by rw [crS, hf, if_neg (by simp), if_neg h8]
      rw [e]
      have hll : (s.L.length : Int) < (8 : Int) := by omega
      have HG := Lib.hid (hg hf (by omega))
      have HSZ := Lib.hid hsz
      have HF := Lib.hid hf
      have HDL : Hid (Maps.size D < maxLen) := Lib.hid (by rw [hsz]; simp only [maxLen]; omega)
      clear hP hf e hsz hx hg h8
      go_enter Tryz.func139, Tryz.ntmps139
      go_wp2_with (first
        | (at_len; refine wpList_len_own _ rfl _ 67 rfl 9 153 Tryz.underlying67 ptrElem m _ D rfl HP.out.own ?_; rw [HSZ.out]))
      go_region_held3 (fun w' => w'.cell? ⟨p, 0, none⟩ = some (.map (some m))) (first | exact c0 | exact j0 | exact j1)
        (first
          | (go_at_call 160; refine (newtopic_any _).mono ?_; rintro e w2 ⟨g, mg, rfl, hT2, hb2⟩; have hb2' : Below w.heap.size w w2 := below_of_drew hb2; have hT2' : ∀ (n : Tx) (R : Nat → Prop), Tg w2 (New w w2) R g ⟨n, 0, [], []⟩ (.slice none 0 0) mg := hT2; have j0 := (HP.out.later hb2').cell0; obtain ⟨w3, hst, hmap3, hturn3⟩ := (HP.out.later hb2').own.store law_str Tryz.underlying67 HDL.out HK.out (ptrElem_mk g); have j1 := ((HP.out.later hb2').blk.ch (Ch.of_grown hturn3.grown (fun g hg _ => (Option.some.inj hg).symm) : Ch (fun k => k = m) w2 w3) (fun e => HP.out.sm.2 e.symm)).cell 0; simp only [List.getElem?_toArray, List.getElem?_cons_zero] at j1))
      all_goals
        go_wp2
        go_ret
        have hc3 : Ch (fun k => k = m) w2 w3 := Ch.of_grown hturn3.grown (fun g hg _ => (Option.some.inj hg).symm)
        have hP3 := tp_add HP.out HF.out HG.out hb2' (hT2' x R) hc3 (own_tight hmap3)
        exact ⟨rfl, hP3.shut, (Ch.of_below hb2' (Nat.le_refl _)).trans (hc3.mono (T := S) (fun k _ hk => by rw [hk]; exact HP.out.sm.1)) (fun _ _ h => h)⟩
end Go.Proofs.YtobphijbhghgmaaGreat.Ab
