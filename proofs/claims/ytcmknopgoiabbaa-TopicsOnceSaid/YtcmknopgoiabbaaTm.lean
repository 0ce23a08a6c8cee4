/-
  The plain mathematics of layer 7 (topics): the machine, its stB, what is read of stB. No program is named here.
-/
import Derived.Test.YtcmknopgoiabbaaPz
namespace Go.Proofs.Ytcmknopgoiabbaa.Tm
set_option linter.unusedSimpArgs false
open Cm Pm Pz
set_option linter.unusedVariables false

/-- A group and its offset. -/
structure Gp where
  n : Tx
  pos : Int
deriving DecidableEq
/-- A topic. -/
structure Tp where
  n : Tx
  base : Int
  recs : List Tx
  gs : List Gp
deriving DecidableEq
/-- What a client was answered last. -/
structure An where
  time : Int
  err : Int
  off : Int
deriving DecidableEq
/-- The machine: topics, rising by names, and eight clients' answers. -/
structure St where
  L : List Tp
  last : List An
deriving DecidableEq
def An.zero : An := ⟨0, 0, 0⟩
def St.zero : St := ⟨[], List.replicate 8 An.zero⟩
def Tp.next (t : Tp) : Int := t.base + (t.recs.length : Int)

def findT (L : List Tp) (s : Tx) : Option Tp := L.find? fun t => decide (t.n = s)
def updT (L : List Tp) (s : Tx) (g : Tp → Tp) : List Tp := L.map fun t => if t.n = s then g t else t
def insT (x : Tp) : List Tp → List Tp
  | [] => [x]
  | t :: L => if t.n < x.n then t :: insT x L else x :: t :: L
/-- A group's offset is noted. -/
def insG (n : Tx) (k : Int) : List Gp → List Gp
  | [] => [⟨n, k⟩]
  | g :: L => if g.n < n then g :: insG n k L else if g.n = n then ⟨n, k⟩ :: L else ⟨n, k⟩ :: g :: L
def pos (gs : List Gp) (n : Tx) : Option Int := (gs.find? fun g => decide (g.n = n)).map (·.pos)
/-- Where records are put. -/
def placed (n : Tx) : Int → List Tx → List (Tx × Int × Tx)
  | _, [] => []
  | k, r :: rs => (n, k, r) :: placed n (k + 1) rs

def maxNum : Int := 9007199254740992
/-- The result of an operation, the places of its records, the topics behind it. -/
def doesS (L : List Tp) (o : O) : (Int × Int) × List (Tx × Int × Tx) × List Tp :=
  if check o ≠ 0 then ((check o, 0), [], L)
  else if o.kind = 0 then ((0, 0), [], L)
  else if o.kind = 1 then
    if (findT L o.topic).isSome then ((5, 0), [], L)
    else if 8 ≤ L.length then ((6, 0), [], L)
    else ((0, 0), [], insT ⟨o.topic, 0, [], []⟩ L)
  else match findT L o.topic with
    | none => ((4, 0), [], L)
    | some x =>
      if o.kind = 2 then
        if 64 < x.recs.length + o.recs.length ∨ maxNum - (o.recs.length : Int) < x.next then ((71, 0), [], L)
        else ((0, x.next), placed o.topic x.next o.recs, updT L o.topic fun t => { t with recs := t.recs ++ o.recs })
      else if o.kind = 3 then
        if o.off < (pos x.gs o.group).getD 0 ∨ x.next < o.off then ((72, 0), [], L)
        else if pos x.gs o.group = none ∧ 8 ≤ x.gs.length then ((6, 0), [], L)
        else ((0, o.off), [], updT L o.topic fun t => { t with gs := insG o.group o.off t.gs })
      else
        if o.off < x.base ∨ x.next < o.off then ((72, 0), [], L)
        else ((0, o.off), [], updT L o.topic fun t => { t with base := o.off, recs := t.recs.drop (o.off - t.base).toNat })
/-- May a client's request be at all? -/
def badArg (client time : Int) : Bool := decide (client < 0) || decide (8 ≤ client) || decide (time < 1) || decide (maxNum < time)
def appS (s : St) (client time : Int) (o : O) : (Int × Int) × List (Tx × Int × Tx) × Bool × St :=
  if badArg client time then ((1, 0), [], false, s)
  else
    let a := s.last.getD client.toNat An.zero
    if time = a.time then ((a.err, a.off), [], false, s)
    else if time < a.time then ((7, 0), [], false, s)
    else
      let d := doesS s.L o
      (d.1, d.2.1, true, ⟨d.2.2, s.last.set client.toNat ⟨time, d.1.1, d.1.2⟩⟩)

/-- Bytes. -/
def gpB (g : Gp) : Tx := encB g.n ++ enc g.pos.toNat
def tpB (t : Tp) : Tx := encB t.n ++ (enc t.base.toNat ++ (encL t.recs ++ (enc t.gs.length ++ t.gs.flatMap gpB)))
def anB (a : An) : Tx := enc a.time.toNat ++ (enc a.err.toNat ++ enc a.off.toNat)
def stB (s : St) : Tx := enc s.L.length ++ (s.L.flatMap tpB ++ s.last.flatMap anB)

/-- So manyS of a kind are read, as long as there is no error. -/
def manyS {α : Type} (f : RS → α × RS) : Nat → RS → List α → List α × RS
  | 0, s, acc => (acc, s)
  | n + 1, s, acc => if s.2 ≠ 0 then (acc, s) else manyS f n (f s).2 (acc ++ [(f s).1])
def gpS (s : RS) : Gp × RS := (⟨(bytesS s 1024).1, (numS (bytesS s 1024).2 9007199254740992).1⟩, (numS (bytesS s 1024).2 9007199254740992).2)
def rcS (s : RS) : List Tx × RS := manyS (fun r => bytesS r 64) (numS s 64).1 (numS s 64).2 []
def gpsS (s : RS) : List Gp × RS := manyS gpS (numS s 8).1 (numS s 8).2 []
def tpS (s : RS) : Tp × RS :=
  let n := bytesS s 1024
  let b := numS n.2 9007199254740992
  let l := rcS b.2
  let g := gpsS l.2
  (⟨n.1, b.1, l.1, g.1⟩, g.2)
def anS (s : RS) : An × RS :=
  let t := numS s 9007199254740992
  let e := numS t.2 1024
  let f := numS e.2 9007199254740992
  (⟨t.1, e.1, f.1⟩, f.2)
/-- So manyS are read, whatever is there. -/
def allS {α : Type} (f : RS → α × RS) : Nat → RS → List α → List α × RS
  | 0, s, acc => (acc, s)
  | n + 1, s, acc => allS f n (f s).2 (acc ++ [(f s).1])
def stS (s : RS) : St × RS :=
  let l := manyS tpS (numS s 8).1 (numS s 8).2 []
  let a := allS anS 8 l.2 []
  (⟨l.1, a.1⟩, a.2)

def okGs (next : Int) : Tx → List Gp → Bool
  | _, [] => true
  | last, g :: gs => name g.n && decide (last < g.n) && decide (g.pos ≤ next) && okGs next g.n gs
def okT (t : Tp) : Bool := name t.n && decide (t.next ≤ maxNum) && okGs t.next [] t.gs
def okTs : Tx → List Tp → Bool
  | _, [] => true
  | last, t :: L => okT t && decide (last < t.n) && okTs t.n L
def told (e : Int) : Bool := e == 0 || e == 4 || e == 5 || e == 6 || e == 71 || e == 72 || e == 60 || e == 61 || e == 62
def okA (a : An) : Bool := told a.err && (a.err == 0 || a.off == 0) && (decide (0 < a.time) || (a.err == 0 && a.off == 0))
def okS (s : St) : Bool := okTs [] s.L && s.last.all okA
def stP (b : Tx) : Option St := if okS (stS (b, 0)).1 = true ∧ doneS (stS (b, 0)).2 = 0 then some (stS (b, 0)).1 else none

/-- What may be written down. -/
structure FitG (g : Gp) : Prop where
  n : g.n.length ≤ 64
  pos : 0 ≤ g.pos ∧ g.pos ≤ maxNum
structure FitT (t : Tp) : Prop where
  n : t.n.length ≤ 64
  base : 0 ≤ t.base
  next : t.next ≤ maxNum
  few : t.recs.length ≤ 64
  each : ∀ r ∈ t.recs, r.length ≤ 64
  groups : t.gs.length ≤ 8
  g : ∀ g ∈ t.gs, FitG g
structure FitA (a : An) : Prop where
  time : 0 ≤ a.time ∧ a.time ≤ maxNum
  err : 0 ≤ a.err ∧ a.err ≤ 1024
  off : 0 ≤ a.off ∧ a.off ≤ maxNum
structure Fit (s : St) : Prop where
  few : s.L.length ≤ 8
  t : ∀ t ∈ s.L, FitT t
  eight : s.last.length = 8
  a : ∀ a ∈ s.last, FitA a

theorem manyS_flat {α : Type} (f : RS → α × RS) (e : α → Tx) : ∀ (l : List α) (acc : List α) (r : Tx), (∀ x ∈ l, ∀ r, f (e x ++ r, 0) = (x, (r, 0))) → manyS f l.length (l.flatMap e ++ r, 0) acc = (acc ++ l, (r, 0))
  | [], acc, r, _ => by simp [manyS]
  | x :: l, acc, r, h => by
    have hx := h x (List.mem_cons_self ..) (l.flatMap e ++ r)
    have ih := manyS_flat f e l (acc ++ [x]) r (fun y hy => h y (List.mem_cons_of_mem _ hy))
    simp only [List.length_cons, manyS, List.flatMap_cons, List.append_assoc, hx]
    simpa using ih
theorem allS_flat {α : Type} (f : RS → α × RS) (e : α → Tx) : ∀ (l : List α) (acc : List α) (r : Tx), (∀ x ∈ l, ∀ r, f (e x ++ r, 0) = (x, (r, 0))) → allS f l.length (l.flatMap e ++ r, 0) acc = (acc ++ l, (r, 0))
  | [], acc, r, _ => by simp [allS]
  | x :: l, acc, r, h => by
    have hx := h x (List.mem_cons_self ..) (l.flatMap e ++ r)
    have ih := allS_flat f e l (acc ++ [x]) r (fun y hy => h y (List.mem_cons_of_mem _ hy))
    simp only [List.length_cons, allS, List.flatMap_cons, List.append_assoc, hx]
    simpa using ih
theorem num_back {z : Int} {m : Nat} (h0 : 0 ≤ z) (h1 : z ≤ (m : Int)) (hm : m ≤ 9007199254740992) (r : Tx) : numS (enc z.toNat ++ r, 0) m = (z.toNat, (r, 0)) :=
  numS_enc (by omega) (by omega) r
theorem gpS_back {g : Gp} (h : FitG g) (r : Tx) : gpS (gpB g ++ r, 0) = (g, (r, 0)) := by
  have h1 := h.n
  have h2 := h.pos
  simp only [maxNum] at h2
  have hb := bytesS_enc (x := g.n) (m := 1024) (by omega) (by omega) (enc g.pos.toNat ++ r)
  have hn := num_back (z := g.pos) (m := 9007199254740992) h2.1 (by omega) (Nat.le_refl _) r
  unfold gpS gpB
  simp only [List.append_assoc, hb, hn]
  rw [Int.toNat_of_nonneg h2.1]
theorem encP_flat : ∀ l : List Tx, encP l = l.flatMap encB
  | [] => rfl
  | x :: l => by rw [encP, encP_flat l]; rfl
theorem rcS_back {l : List Tx} (hl : l.length ≤ 64) (he : ∀ x ∈ l, x.length ≤ 64) (r : Tx) : rcS (encL l ++ r, 0) = (l, (r, 0)) := by
  have hn := numS_enc (n := l.length) (m := 64) (by omega) (by omega) (l.flatMap encB ++ r)
  have hm := manyS_flat (fun r => bytesS r 64) encB l [] r (fun x hx r => bytesS_enc (by have := he x hx; omega) (by have := he x hx; omega) r)
  unfold rcS encL
  rw [encP_flat, List.append_assoc, hn]
  simpa using hm
theorem gpsS_back {gs : List Gp} (hl : gs.length ≤ 8) (he : ∀ g ∈ gs, FitG g) (r : Tx) : gpsS (enc gs.length ++ gs.flatMap gpB ++ r, 0) = (gs, (r, 0)) := by
  have hn := numS_enc (n := gs.length) (m := 8) (by omega) (by omega) (gs.flatMap gpB ++ r)
  have hm := manyS_flat gpS gpB gs [] r (fun g hg r => gpS_back (he g hg) r)
  unfold gpsS
  rw [List.append_assoc, hn]
  simpa using hm
theorem tpS_back {t : Tp} (h : FitT t) (r : Tx) : tpS (tpB t ++ r, 0) = (t, (r, 0)) := by
  have h1 := h.n
  have h2 := h.base
  have h3 := h.next
  simp only [maxNum, Tp.next] at h3
  have hb := bytesS_enc (x := t.n) (m := 1024) (by omega) (by omega) (enc t.base.toNat ++ (encL t.recs ++ (enc t.gs.length ++ t.gs.flatMap gpB) ++ r))
  have hn := num_back (z := t.base) (m := 9007199254740992) h2 (by omega) (Nat.le_refl _) (encL t.recs ++ (enc t.gs.length ++ t.gs.flatMap gpB) ++ r)
  have hl := rcS_back h.few h.each (enc t.gs.length ++ t.gs.flatMap gpB ++ r)
  have hg := gpsS_back h.groups h.g r
  unfold tpS tpB
  simp only [List.append_assoc] at hb hn hl hg ⊢
  simp only [hb, hn, hl, hg]
  rw [Int.toNat_of_nonneg h2]
theorem anS_back {a : An} (h : FitA a) (r : Tx) : anS (anB a ++ r, 0) = (a, (r, 0)) := by
  obtain ⟨⟨t0, t1⟩, ⟨e0, e1⟩, ⟨f0, f1⟩⟩ := h
  simp only [maxNum] at t1 f1
  have ht := num_back (z := a.time) (m := 9007199254740992) t0 (by omega) (Nat.le_refl _) (enc a.err.toNat ++ (enc a.off.toNat ++ r))
  have he := num_back (z := a.err) (m := 1024) e0 (by omega) (by omega) (enc a.off.toNat ++ r)
  have hf := num_back (z := a.off) (m := 9007199254740992) f0 (by omega) (Nat.le_refl _) r
  unfold anS anB
  simp only [List.append_assoc, ht, he, hf]
  rw [Int.toNat_of_nonneg t0, Int.toNat_of_nonneg e0, Int.toNat_of_nonneg f0]
theorem stS_back {s : St} (h : Fit s) (r : Tx) : stS (stB s ++ r, 0) = (s, (r, 0)) := by
  have hn := numS_enc (n := s.L.length) (m := 8) (by have := h.few; omega) h.few (s.L.flatMap tpB ++ (s.last.flatMap anB ++ r))
  have hm := manyS_flat tpS tpB s.L [] (s.last.flatMap anB ++ r) (fun t ht r => tpS_back (h.t t ht) r)
  have ha := allS_flat anS anB s.last [] r (fun a ha r => anS_back (h.a a ha) r)
  rw [h.eight] at ha
  unfold stS stB
  simp only [List.append_assoc, hn, hm, ha, List.nil_append]
/-- There and back. -/
theorem stP_stB {s : St} (h : Fit s) (hk : okS s = true) : stP (stB s) = some s := by
  have := stS_back h []
  rw [List.append_nil] at this
  rw [stP, this, if_pos ⟨hk, by simp [doneS]⟩]

end Go.Proofs.Ytcmknopgoiabbaa.Tm
