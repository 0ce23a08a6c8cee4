/-
  Layer 15 (prepared): the document's Check, Brokers, Primary (layer 12), num, may (layer 11).
-/
import Derived.Test.YtfdhaodgnenhcaaR02
import Derived.Maps.OwnSet
import Derived.Maps.Views
import Derived.Maps.RangeWalk
import Derived.BigQuiet
namespace Go.Proofs.Ytfdhaodgnenhcaa.Prh
set_option linter.unusedSimpArgs false
open Go Go.RowKit Ck Kw Ga Pra
attribute [local go_sem ↓] Go.wp_at_zero Go.wp_at_succ
set_option linter.unusedVariables false

/-- May so many be faulty? -/
def okF (f : Int) : Bool := decide (1 ≤ f) && decide (f ≤ 4)
theorem okF_yes {f : Int} (h : okF f = true) : 1 ≤ f ∧ f ≤ 4 := by simpa [okF] using h
def brokersP (f : Int) : Int := if okF f then 3 * f + 1 else 0
def checkP (f : Int) : Int := if okF f then 0 else 120
theorem checkP_no {f : Int} (h : f < 1 ∨ 4 < f) : checkP f = 120 := by
  have : okF f = false := by
    simp only [okF, Bool.and_eq_false_iff, decide_eq_false_iff_not]
    omega
  simp [checkP, this]
theorem checkP_yes {f : Int} (h : ¬ f < 1) (h' : ¬ 4 < f) : checkP f = 0 := by
  have : okF f = true := by
    simp only [okF, Bool.and_eq_true, decide_eq_true_eq]
    omega
  simp [checkP, this]
theorem rcheck_any (w : World) (f : Int) : Calls Try.prog 11 #[.int .i64 f] w fun e w' => e = .returned (.int .i64 (checkP f)) ∧ w = w' := by
  by_cases h1 : f < 1
  · have HO : Hid (checkP f = 120) := Lib.hid (checkP_no (by omega))
    go_enter Try.func11, Try.ntmps11
    go_wp2_with fail
    go_ret
    exact ⟨by rw [HO.out]; rfl, rfl⟩
  · by_cases h2 : 4 < f
    · have HO : Hid (checkP f = 120) := Lib.hid (checkP_no (by omega))
      go_enter Try.func11, Try.ntmps11
      go_wp2_with fail
      go_ret
      exact ⟨by rw [HO.out]; rfl, rfl⟩
    · have HO : Hid (checkP f = 0) := Lib.hid (checkP_yes h1 h2)
      go_enter Try.func11, Try.ntmps11
      go_wp2_with fail
      go_ret
      exact ⟨by rw [HO.out]; rfl, rfl⟩
theorem rbrokers_any (w : World) (f : Int) : Calls Try.prog 13 #[.int .i64 f] w fun e w' => e = .returned (.int .i64 (brokersP f)) ∧ w = w' := by
  have HC := rcheck_any w f
  cases h : okF f with
  | true =>
    obtain ⟨h1, h2⟩ := okF_yes h
    have hcp : checkP f = 0 := by simp [checkP, h]
    rw [hcp] at HC
    have HC := Lib.hid HC
    clear hcp
    have w1 : IntKind.i64.wrap (3 * f) = 3 * f := wrap64 (by omega) (by omega)
    have w2 : IntKind.i64.wrap (3 * f + 1) = 3 * f + 1 := wrap64 (by omega) (by omega)
    have HB : Hid (brokersP f = 3 * f + 1) := Lib.hid (by simp [brokersP, h])
    clear h h1 h2
    go_enter Try.func13, Try.ntmps13
    go_wp2_with fail
    refine HC.out.mono ?_
    rintro e w1 ⟨rfl, rfl⟩
    go_wp2_with fail
    go_ret
    exact ⟨by rw [HB.out]; rfl, rfl⟩
  | false =>
    have hcp : checkP f = 120 := by simp [checkP, h]
    rw [hcp] at HC
    have HC := Lib.hid HC
    clear hcp
    have HB : Hid (brokersP f = 0) := Lib.hid (by simp [brokersP, h])
    clear h
    go_enter Try.func13, Try.ntmps13
    go_wp2_with fail
    refine HC.out.mono ?_
    rintro e w1 ⟨rfl, rfl⟩
    go_wp2_with fail
    go_ret
    exact ⟨by rw [HB.out]; rfl, rfl⟩
end Go.Proofs.Ytfdhaodgnenhcaa.Prh

/-
  Plain mathematics of layer 16 (newview): what a new view goes on with; no gaps; what was committed stays.
-/
namespace Go.Proofs.Ytfdhaodgnenhcaa.Nva
set_option linter.unusedSimpArgs false
open Go Jm Pra Prh
set_option linter.unusedVariables false

/-- A checkpoint's certificate, a view-change, an entry. -/
structure Ce where
  seq : Int
  dig : Int
  signs : List (Int × Int)
deriving DecidableEq
structure Cg where
  view : Int
  from_ : Int
  cert : Ce
  above : List Pd
  sign : Int × Int
deriving DecidableEq
structure En where
  view : Int
  seq : Int
  batch : List Sd
  sign : Int × Int
deriving DecidableEq
def Ce.zero : Ce := ⟨0, 0, []⟩
/-- Brokers that rise, each of them one. -/
def frB (B : Int) : Int → List Cg → Bool
  | _, [] => true
  | last, c :: l => (decide (last < c.from_) && decide (c.from_ < B)) && frB B c.from_ l
/-- The certificate with the greatest number, of several the first one. -/
def bestC (b : Ce) (l : List Cg) : Ce := l.foldl (fun b c => if b.seq < c.cert.seq then c.cert else b) b
/-- The greatest number that is told. -/
def topP (m : Int) (l : List Pd) : Int := l.foldl (fun m p => max m p.seq) m
def topC (m : Int) (l : List Cg) : Int := l.foldl (fun m c => topP m c.above) m
theorem topP_le (l : List Pd) : ∀ m, m ≤ topP m l ∧ ∀ p ∈ l, p.seq ≤ topP m l := by
  induction l with
  | nil => exact fun m => ⟨Int.le_refl _, fun p hp => absurd hp (by simp)⟩
  | cons q l ih =>
    intro m
    have h := ih (max m q.seq)
    simp only [topP, List.foldl_cons] at h ⊢
    refine ⟨by omega, fun p hp => ?_⟩
    rcases List.mem_cons.1 hp with rfl | hp
    · omega
    · exact h.2 p hp
theorem topC_le (l : List Cg) : ∀ m, m ≤ topC m l ∧ ∀ c ∈ l, ∀ p ∈ c.above, p.seq ≤ topC m l := by
  induction l with
  | nil => exact fun m => ⟨Int.le_refl _, fun p hp => absurd hp (by simp)⟩
  | cons q l ih =>
    intro m
    have h := ih (topP m q.above)
    have k := topP_le q.above m
    simp only [topC, List.foldl_cons] at h ⊢
    refine ⟨by omega, fun c hc p hp => ?_⟩
    rcases List.mem_cons.1 hc with rfl | hc
    · have := k.2 p hp
      omega
    · exact h.2 c hc p hp
/-- What was prepared last for a number: of several the first one. -/
def latS (s : Int) (o : Option Pd) (p : Pd) : Option Pd := if p.seq = s then match o with | none => some p | some q => if q.view < p.view then some p else some q else o
def latP (s : Int) (o : Option Pd) (l : List Pd) : Option Pd := l.foldl (latS s) o
def latC (s : Int) (o : Option Pd) (l : List Cg) : Option Pd := l.foldl (fun o c => latP s o c.above) o
def batchO : Option Pd → List Sd | some p => p.batch | none => []
/-- At least so late a one is among them. -/
def atLeast (v : Int) (o : Option Pd) : Prop := ∃ q, o = some q ∧ v ≤ q.view
theorem latS_keep {s v : Int} {o : Option Pd} (p : Pd) (h : atLeast v o) : atLeast v (latS s o p) := by
  obtain ⟨q, rfl, h2⟩ := h
  unfold latS
  split
  · simp only
    split
    · exact ⟨p, rfl, by omega⟩
    · exact ⟨q, rfl, h2⟩
  · exact ⟨q, rfl, h2⟩
theorem latS_new {s : Int} {o : Option Pd} (p : Pd) (hp : p.seq = s) : atLeast p.view (latS s o p) := by
  unfold latS
  rw [if_pos hp]
  cases o with
  | none => exact ⟨p, rfl, Int.le_refl _⟩
  | some q =>
    simp only
    split
    · exact ⟨p, rfl, Int.le_refl _⟩
    · exact ⟨q, rfl, by omega⟩
theorem latP_keep {s v : Int} (l : List Pd) : ∀ {o : Option Pd}, atLeast v o → atLeast v (latP s o l) := by
  induction l with
  | nil => exact fun h => h
  | cons p l ih => exact fun h => ih (latS_keep p h)
theorem latP_new {s : Int} {l : List Pd} {p : Pd} (hm : p ∈ l) (hp : p.seq = s) : ∀ o : Option Pd, atLeast p.view (latP s o l) := by
  induction l with
  | nil => exact absurd hm (by simp)
  | cons q l ih =>
    intro o
    rcases List.mem_cons.1 hm with rfl | hm
    · exact latP_keep l (latS_new p hp)
    · exact ih hm _
theorem latC_keep {s v : Int} (l : List Cg) : ∀ {o : Option Pd}, atLeast v o → atLeast v (latC s o l) := by
  induction l with
  | nil => exact fun h => h
  | cons p l ih => exact fun h => ih (latP_keep p.above h)
theorem latC_new {s : Int} {l : List Cg} {c : Cg} {p : Pd} (hc : c ∈ l) (hm : p ∈ c.above) (hp : p.seq = s) : ∀ o : Option Pd, atLeast p.view (latC s o l) := by
  induction l with
  | nil => exact absurd hc (by simp)
  | cons q l ih =>
    intro o
    rcases List.mem_cons.1 hc with rfl | hc
    · exact latC_keep l (latP_new hm hp o)
    · exact ih hc _
theorem latS_mem {s : Int} {o : Option Pd} {p q : Pd} (h : latS s o p = some q) : o = some q ∨ (q.seq = s ∧ q = p) := by
  unfold latS at h
  split at h
  · rename_i hp
    cases o with
    | none => exact .inr (by obtain rfl := Option.some.inj h; exact ⟨hp, rfl⟩)
    | some r =>
      simp only at h
      split at h
      · exact .inr (by obtain rfl := Option.some.inj h; exact ⟨hp, rfl⟩)
      · exact .inl h
  · exact .inl h
theorem latP_mem {s : Int} (l : List Pd) : ∀ {o : Option Pd} {q : Pd}, latP s o l = some q → o = some q ∨ (q.seq = s ∧ q ∈ l) := by
  induction l with
  | nil => exact fun h => .inl h
  | cons p l ih =>
    intro o q h
    rcases ih h with h | h
    · rcases latS_mem h with h | ⟨h1, rfl⟩
      · exact .inl h
      · exact .inr ⟨h1, List.mem_cons_self⟩
    · exact .inr ⟨h.1, List.mem_cons_of_mem _ h.2⟩
theorem latC_mem {s : Int} (l : List Cg) : ∀ {o : Option Pd} {q : Pd}, latC s o l = some q → o = some q ∨ (q.seq = s ∧ ∃ c ∈ l, q ∈ c.above) := by
  induction l with
  | nil => exact fun h => .inl h
  | cons p l ih =>
    intro o q h
    rcases ih h with h | ⟨h1, c, h2, h3⟩
    · rcases latP_mem p.above h with h | ⟨h1, h2⟩
      · exact .inl h
      · exact .inr ⟨h1, p, List.mem_cons_self, h2⟩
    · exact .inr ⟨h1, c, List.mem_cons_of_mem _ h2, h3⟩
/-- How many entries there are. -/
def manyE (b last : Int) : Nat := if b < 0 ∨ last ≤ b then 0 else min 8 (last - b).toNat
def entE (view b : Int) (l : List Cg) (i : Nat) : En := ⟨view, b + i + 1, batchO (latC (b + i + 1) none l), (0, 0)⟩
def entriesE (view : Int) (b last : Int) (l : List Cg) : List En := (List.range (manyE b last)).map (entE view b l)
theorem entries_len (view b last : Int) (l : List Cg) : (entriesE view b last l).length = manyE b last := by simp [entriesE]
theorem many_le (b last : Int) : manyE b last ≤ 8 := by
  unfold manyE
  split <;> omega
/-- What keeps a new view from being made. -/
def errS (f view : Int) (l : List Cg) : Int :=
  if okF f then if decide (view < 1) || decide (9007199254740992 < view) then 1 else if frB (brokersP f) (-1) l then if (l.length : Int) < 2 * f + 1 then 160 else 0 else 1 else 120
def firstC (l : List Cg) : Ce := match l with | c :: _ => c.cert | [] => Ce.zero
/-- What a new view goes on with. -/
def certS (f view : Int) (l : List Cg) : Ce := if errS f view l = 0 then bestC (firstC l) l else Ce.zero
def entS (f view : Int) (l : List Cg) : List En := if errS f view l = 0 then entriesE view (certS f view l).seq (topC 0 l) l else []
/-- No gaps. -/
theorem gaps {f view : Int} {l : List Cg} {i : Nat} (hi : i < (entS f view l).length) : ((entS f view l)[i]).seq = (certS f view l).seq + i + 1 ∧ ((entS f view l)[i]).view = view ∧ ((entS f view l)[i]).sign = (0, 0) := by
  unfold entS at hi ⊢
  split
  · simp [entriesE, entE]
  · rename_i h
    simp [h] at hi
theorem gaps_len (f view : Int) (l : List Cg) : (entS f view l).length ≤ 8 := by
  unfold entS
  split
  · rw [entries_len]
    exact many_le _ _
  · simp
/-- What is told of a number, with the greatest view. -/
theorem tells_mem {c : Cg} {s : Int} {q : Pd} (h : latP s none c.above = some q) : q.seq = s ∧ q ∈ c.above := by
  rcases latP_mem c.above h with h | h
  · exact absurd h (by simp)
  · exact h
/-- Does one that is not faulty tell it? -/
def toldC (bad : Int → Bool) (s v : Int) (c : Cg) : Bool := !bad c.from_ && match latP s none c.above with | some q => decide (v ≤ q.view) | none => false
/-- May a certificate that is told be, beside that of p? -/
def fineP (bad : Int → Bool) (p : Pd) (c : Cg) (q : Pd) : Prop := q.seq = p.seq → p.view ≤ q.view → q.batch = p.batch
theorem count_split {α : Type} (l : List α) (t pick : α → Bool) {n : Nat} (h1 : l.length - (l.filter t).length < n) (h2 : n ≤ (l.filter pick).length) : ∃ c ∈ l, t c = true ∧ pick c = true := by
  apply Classical.byContradiction
  intro hno
  have hle : (l.filter pick).length ≤ (l.filter fun c => !t c).length := by
    clear h1 h2
    induction l with
    | nil => simp
    | cons c l ih =>
      have ih := ih (fun ⟨c, hc, h⟩ => hno ⟨c, List.mem_cons_of_mem _ hc, h⟩)
      have hc : ¬ (t c = true ∧ pick c = true) := fun h => hno ⟨c, List.mem_cons_self, h⟩
      cases ht : t c <;> cases hp : pick c
      · simp [ht, hp]; omega
      · simp [ht, hp]; omega
      · simp [ht, hp]; omega
      · exact absurd ⟨ht, hp⟩ hc
  have hs : (l.filter t).length + (l.filter fun c => !t c).length = l.length := by
    clear h1 h2 hno hle
    induction l with
    | nil => rfl
    | cons c l ih =>
      cases ht : t c <;> simp [ht] <;> omega
  omega
/-- What was committed stays. -/
theorem keeps {f view : Int} {l : List Cg} {bad pick : Int → Bool} {p : Pd} (hf : okF f = true)
    (hfine : ∀ c ∈ l, ∀ q ∈ c.above, fineP bad p c q)
    (htold : ((l.length - (l.filter (toldC bad p.seq p.view)).length : Nat) : Int) < 2 * f + 1)
    (he : errS f view (l.filter fun c => pick c.from_) = 0)
    (h0 : 0 ≤ (certS f view (l.filter fun c => pick c.from_)).seq) (h1 : (certS f view (l.filter fun c => pick c.from_)).seq < p.seq) (h2 : p.seq - (certS f view (l.filter fun c => pick c.from_)).seq ≤ 8) :
    ∃ i, ∃ h : i < (entS f view (l.filter fun c => pick c.from_)).length, ((i : Int) = p.seq - (certS f view (l.filter fun c => pick c.from_)).seq - 1) ∧ ((entS f view (l.filter fun c => pick c.from_))[i]).seq = p.seq ∧ ((entS f view (l.filter fun c => pick c.from_))[i]).batch = p.batch := by
  have hlen : 2 * f + 1 ≤ ((l.filter fun c => pick c.from_).length : Int) := by
    have := he
    unfold errS at this
    rw [if_pos hf] at this
    split at this
    · omega
    · split at this
      · split at this <;> omega
      · omega
  obtain ⟨c, hc, ht, hp⟩ := count_split l (toldC bad p.seq p.view) (fun c => pick c.from_) (n := (2 * f + 1).toNat) (by omega) (by omega)
  have hcs : c ∈ l.filter fun c => pick c.from_ := List.mem_filter.2 ⟨hc, hp⟩
  obtain ⟨q, hq, hqv⟩ : ∃ q, latP p.seq none c.above = some q ∧ p.view ≤ q.view := by
    simp only [toldC, Bool.and_eq_true] at ht
    obtain ⟨-, ht⟩ := ht
    cases hl : latP p.seq none c.above with
    | none => rw [hl] at ht; exact absurd ht (by simp)
    | some q => rw [hl] at ht; exact ⟨q, rfl, by simpa using ht⟩
  obtain ⟨hqs, hqm⟩ := tells_mem hq
  have hsub : ∀ x ∈ l.filter (fun c => pick c.from_), x ∈ l := fun x hx => (List.mem_filter.1 hx).1
  generalize (l.filter fun c => pick c.from_) = some_ at he h0 h1 h2 hcs hsub ⊢
  have hlast := (topC_le some_ 0).2 c hcs q hqm
  rw [hqs] at hlast
  have hent : entS f view some_ = entriesE view (certS f view some_).seq (topC 0 some_) some_ := by unfold entS; rw [if_pos he]
  generalize (certS f view some_).seq = b at h0 h1 h2 hent ⊢
  rw [hent]
  have hm : manyE b (topC 0 some_) = min 8 (topC 0 some_ - b).toNat := by
    unfold manyE
    rw [if_neg (by omega)]
  refine ⟨(p.seq - b - 1).toNat, by rw [entries_len, hm]; omega, by omega, ?_, ?_⟩
  · simp only [entriesE, List.getElem_map, List.getElem_range, entE]
    omega
  · simp only [entriesE, List.getElem_map, List.getElem_range, entE]
    have hs : b + ((p.seq - b - 1).toNat : Int) + 1 = p.seq := by omega
    rw [hs]
    obtain ⟨r, hr, hrv⟩ := latC_new hcs hqm hqs none
    rw [hr]
    rcases latC_mem some_ hr with h | ⟨h3, d, h4, h5⟩
    · exact absurd h (by simp)
    · exact hfine d (hsub d h4) r h5 h3 (by omega)
end Go.Proofs.Ytfdhaodgnenhcaa.Nva

/-
  Generic: lists of structs in memory, of any kind of struct (its cells, and what they point at).
-/
namespace Go.Proofs.Ytfdhaodgnenhcaa.Ky
set_option linter.unusedSimpArgs false
open Go Go.RowKit Ck Kw Kf
set_option linter.unusedVariables false

/-- A kind of struct: its cells, where r says what they point at, and what that is. -/
structure Kd (α ρ : Type) where
  K : Nat
  C : α → ρ → Array Value
  len : ∀ a r, (C a r).size = K
  one : ∀ a r, ∀ u ∈ (C a r).toList, u.oneCell' = true
  I : World → (Nat → Prop) → α → ρ → Prop
  weaken : ∀ {w X Y a r}, I w X a r → (∀ b, b < w.heap.size → Y b → X b) → I w Y a r
  ch : ∀ {w w' X S a r}, I w X a r → Ch S w w' → (∀ k, k < w.heap.size → S k → X k) → I w' X a r
section
variable {α ρ : Type} {κ : Kd α ρ} {w w' : World} {X Y S : Nat → Prop} {v : Value} {l m : List α} {rs qs : List ρ} {a : α} {r : ρ}
theorem Kd.after (h : κ.I w X a r) (hb : Below w.heap.size w w') : κ.I w' X a r := κ.ch h (Ch.of_below (S := fun _ => False) hb (Nat.le_refl _)) (fun _ _ h => h.elim)
theorem Kd.len' (κ : Kd α ρ) (x : α × ρ) : ((κ.C x.1 x.2).toList).length = κ.K := by rw [Array.length_toList, κ.len]
/-- The cells of all of them. -/
def flatG (κ : Kd α ρ) (l : List α) (rs : List ρ) : List Value := (l.zip rs).flatMap fun x => (κ.C x.1 x.2).toList
theorem zipG_len (h : rs.length = l.length) : (l.zip rs).length = l.length := by rw [List.length_zip]; omega
theorem flatG_app (h : rs.length = l.length) : flatG κ (l ++ m) (rs ++ qs) = flatG κ l rs ++ flatG κ m qs := by
  unfold flatG
  rw [List.zip_append h.symm, List.flatMap_append]
theorem flatG_single (a : α) (r : ρ) : flatG κ [a] [r] = (κ.C a r).toList := by simp [flatG]
/-- What stands at the places that rs says. -/
def Gts (κ : Kd α ρ) (w : World) (X : Nat → Prop) (l : List α) (rs : List ρ) : Prop := rs.length = l.length ∧ ∀ i (h : i < l.length), ∃ r, rs[i]? = some r ∧ κ.I w X l[i] r
/-- The value v is these; all of it lies in no block of X. -/
def GL (κ : Kd α ρ) (w : World) (X : Nat → Prop) (v : Value) (l : List α) : Prop := ∃ rs, Gts κ w X l rs ∧ Sl w X κ.K v l.length (flatG κ l rs)
theorem Gts.weaken (h : Gts κ w X l rs) (hk : ∀ b, b < w.heap.size → Y b → X b) : Gts κ w Y l rs := ⟨h.1, fun i hi => by obtain ⟨r, h1, h2⟩ := h.2 i hi; exact ⟨r, h1, κ.weaken h2 hk⟩⟩
theorem Gts.ch (h : Gts κ w X l rs) (c : Ch S w w') (hd : ∀ k, k < w.heap.size → S k → X k) : Gts κ w' X l rs := ⟨h.1, fun i hi => by obtain ⟨r, h1, h2⟩ := h.2 i hi; exact ⟨r, h1, κ.ch h2 c hd⟩⟩
theorem Gts.after (h : Gts κ w X l rs) (hb : Below w.heap.size w w') : Gts κ w' X l rs := h.ch (Ch.of_below (S := fun _ => False) hb (Nat.le_refl _)) (fun _ _ h => h.elim)
theorem Gts.nil : Gts κ w X [] [] := ⟨rfl, fun i h => absurd h (by simp)⟩
theorem Gts.one (h : κ.I w X a r) : Gts κ w X [a] [r] := ⟨rfl, fun i hi => by
  have : i = 0 := by simpa using hi
  subst this
  exact ⟨r, rfl, h⟩⟩
theorem Gts.take (h : Gts κ w X l rs) (k : Nat) : Gts κ w X (l.take k) (rs.take k) := by
  refine ⟨by rw [List.length_take, List.length_take, h.1], fun i hi => ?_⟩
  rw [List.length_take] at hi
  obtain ⟨r, h1, h2⟩ := h.2 i (by omega)
  refine ⟨r, by rw [List.getElem?_take, if_pos (by omega)]; exact h1, ?_⟩
  rw [List.getElem_take]
  exact h2
theorem Gts.drop (h : Gts κ w X l rs) (k : Nat) : Gts κ w X (l.drop k) (rs.drop k) := by
  refine ⟨by rw [List.length_drop, List.length_drop, h.1], fun i hi => ?_⟩
  rw [List.length_drop] at hi
  obtain ⟨r, h1, h2⟩ := h.2 (k + i) (by omega)
  refine ⟨r, by rw [List.getElem?_drop]; exact h1, ?_⟩
  rw [List.getElem_drop]
  exact h2
theorem Gts.app (h : Gts κ w X l rs) (k : Gts κ w X m qs) : Gts κ w X (l ++ m) (rs ++ qs) := by
  refine ⟨by rw [List.length_append, List.length_append, h.1, k.1], fun i hi => ?_⟩
  by_cases hlt : i < l.length
  · obtain ⟨r, h1, h2⟩ := h.2 i hlt
    refine ⟨r, by rw [List.getElem?_append_left (by rw [h.1]; exact hlt)]; exact h1, ?_⟩
    rw [List.getElem_append_left hlt]
    exact h2
  · rw [List.length_append] at hi
    obtain ⟨r, h1, h2⟩ := k.2 (i - l.length) (by omega)
    refine ⟨r, by rw [List.getElem?_append_right (by rw [h.1]; omega), h.1]; exact h1, ?_⟩
    rw [List.getElem_append_right (by omega)]
    exact h2
theorem GL.weaken (h : GL κ w X v l) (hk : ∀ b, b < w.heap.size → Y b → X b) : GL κ w Y v l := by
  obtain ⟨rs, h1, h2⟩ := h
  exact ⟨rs, h1.weaken hk, h2.weaken hk⟩
theorem GL.ch (h : GL κ w X v l) (c : Ch S w w') (hd : ∀ k, k < w.heap.size → S k → X k) : GL κ w' X v l := by
  obtain ⟨rs, h1, h2⟩ := h
  exact ⟨rs, h1.ch c hd, h2.ch c hd⟩
theorem GL.after (h : GL κ w X v l) (hb : Below w.heap.size w w') : GL κ w' X v l := by
  obtain ⟨rs, h1, h2⟩ := h
  exact ⟨rs, h1.after hb, h2.after hb⟩
theorem GL.shape (h : GL κ w X v l) : ∃ A c, v = .slice A l.length c ∧ l.length ≤ c := by
  obtain ⟨rs, h1, ⟨A, c, rfl, _, hc, _⟩⟩ := h
  exact ⟨A, c, rfl, hc⟩
theorem GL.nil (κ : Kd α ρ) (w : World) (X : Nat → Prop) : GL κ w X (.slice none 0 0) [] := ⟨[], Gts.nil, Sl.nil _ _ _⟩
/-- What stands at a place: its cells lie there. -/
def AtG (κ : Kd α ρ) (w : World) (ad : Addr) (a : α) (r : ρ) : Prop := ∀ j (u : Value), (κ.C a r)[j]? = some u → w.cell? (if j = 0 then ad else ⟨ad.block, ad.off + j, none⟩) = some u
theorem AtG.later {ad : Addr} (h : AtG κ w ad a r) (b : Below w.heap.size w w') : AtG κ w' ad a r := fun j u hj => by
  have := h j u hj
  rw [b.cell (World.block_lt_of_cell? w _ this)]
  exact this
theorem AtG.ch {ad : Addr} (h : AtG κ w ad a r) (c : Ch S w w') (hd : ¬ S ad.block) : AtG κ w' ad a r := fun j u hj => by
  refine c.cell (h j u hj) ?_
  split <;> exact hd
theorem GL.at_ {A : Option Addr} {n c i : Nat} (h : GL κ w X (.slice A n c) l) (hi : i < l.length) (hK : 0 < κ.K) : ∃ ad r, A = some ad ∧ AtG κ w (ad.add (i * κ.K)) l[i] r ∧ κ.I w X l[i] r ∧ ad.block < w.heap.size ∧ ¬ X ad.block := by
  obtain ⟨rs, ⟨h1, h3⟩, ⟨A', c', hv, hl, hc, hm, hx⟩⟩ := h
  injection hv with e1 e2 e3
  subst e1
  obtain ⟨r, h4, h5⟩ := h3 i hi
  obtain ⟨ad, hA, hb, hX, hcell⟩ := hx (by omega)
  refine ⟨ad, r, hA, ?_, h5, hb, hX⟩
  have hz : i < (l.zip rs).length := by rw [zipG_len h1]; exact hi
  have hr : i < rs.length := by omega
  have he : (l.zip rs)[i] = (l[i], r) := by
    rw [List.getElem_zip]
    have : rs[i] = r := by have := List.getElem?_eq_getElem hr; rw [this] at h4; exact Option.some.inj h4
    rw [this]
  intro j u hj
  have hjK : j < κ.K := by
    have := (Array.getElem?_eq_some_iff.1 hj).1
    rwa [κ.len] at this
  have hu : w.cell? ((ad.add (i * κ.K)).add j) = some u := by
    rw [add_add]
    refine hcell _ _ ?_
    rw [flatG, flat_get κ.len' _ _ hz j hjK, he]
    simpa using hj
  generalize ad.add (i * κ.K) = a at hu ⊢
  unfold Addr.add at hu
  exact hu
/-- A row of one's own is these. -/
structure OG (κ : Kd α ρ) (w : World) (B : Nat) (t : TypeId) (X : Nat → Prop) (v : Value) (l : List α) : Prop where
  ex : ∃ rs, Gts κ w X l rs ∧ w.ownsRow B t κ.K v l.length (flatG κ l rs)
theorem OG.nil (κ : Kd α ρ) (w : World) (B : Nat) (t : TypeId) (X : Nat → Prop) : OG κ w B t X (.slice none 0 0) [] := ⟨[], Gts.nil, World.ownsRow_nil _ _ _ _⟩
theorem OG.below {B : Nat} {t : TypeId} (h : OG κ w B t X v l) (b : Below w.heap.size w w') : OG κ w' B t X v l := by
  obtain ⟨rs, h1, h2⟩ := h.ex
  exact ⟨rs, h1.after b, own_below h2 b⟩
theorem OG.gl {B : Nat} {t : TypeId} (h : OG κ w B t X v l) (hX : ∀ k, Y k → X k) (hB : ∀ k, B ≤ k → ¬ Y k) : GL κ w Y v l := by
  obtain ⟨rs, h1, h2⟩ := h.ex
  exact ⟨rs, h1.weaken (fun b _ hy => hX b hy), Sl.of_own h2 (fun k hk _ => hB k hk)⟩
/-- One more. -/
theorem OG.snoc {B : Nat} {t : TypeId} {v' : Value} (h : Gts κ w X l rs) (hp : κ.I w X a r) (ha : Appended w B t κ.K v (l.length + 1) (flatG κ l rs ++ (κ.C a r).toList) v' w') (c : Ch (fun k => v.ownBlock = some k) w w') (hX : ∀ k, v.ownBlock = some k → X k) : OG κ w' B t X v' (l ++ [a]) := by
  refine ⟨rs ++ [r], (h.app (Gts.one hp)).ch c (fun k _ hk => hX k hk), ?_⟩
  rw [flatG_app h.1, flatG_single, List.length_append, List.length_singleton]
  exact ha.1
/-- One alone, laid anew. -/
theorem lit_one (κ : Kd α ρ) (w : World) (X : Nat → Prop) (t : TypeId) (a : α) (r : ρ) (hX : ¬ X w.heap.size) : Sl (w.alloc (.cells (κ.C a r) t)) X κ.K (.slice (some ⟨w.heap.size, 0, none⟩) 1 1) 1 (κ.C a r).toList := by
  refine ⟨_, _, rfl, by rw [Array.length_toList, κ.len, Nat.one_mul], Nat.le_refl _, by simp only [maxLen]; omega, fun _ => ⟨_, rfl, by simp, hX, fun j x hx => ?_⟩⟩
  have ha : (⟨w.heap.size, 0, none⟩ : Addr).add j = ⟨w.heap.size, j, none⟩ := by unfold Addr.add; split <;> simp_all
  rw [ha, Blk.cell (Blk.new w t _) j]
  simpa using hx
end
end Go.Proofs.Ytfdhaodgnenhcaa.Ky

/-
  Layer 16 (newview): view-changes, entries in memory.
-/
namespace Go.Proofs.Ytfdhaodgnenhcaa.Nvb
set_option linter.unusedSimpArgs false
open Go Go.RowKit Ck Kw Kf Jm Jb Pra Prb Ky Nva
set_option linter.unusedVariables false

/-- Certificates. -/
def kP : Kd Pd Pl2 where
  K := 7
  C := PC
  len _ _ := rfl
  one := PC_one
  I := PI
  weaken h hk := h.weaken hk
  ch h c hd := h.ch c hd
theorem PL.gl {w : World} {X : Nat → Prop} {v : Value} {l : List Pd} : PL w X v l ↔ GL kP w X v l := Iff.rfl
/-- The cells of a view-change: its certificate's signatures and its Above lie where r says. -/
def CC (c : Cg) (r : Pl2) : Array Value := #[.int .i64 c.view, .int .i64 c.from_, .int .i64 c.cert.seq, .int .i64 c.cert.dig, .slice r.1.1 c.cert.signs.length r.1.2, .slice r.2.1 c.above.length r.2.2, .int .i64 c.sign.1, .int .i64 c.sign.2]
theorem CC_one (p : Cg) (r : Pl2) : ∀ u ∈ (CC p r).toList, u.oneCell' = true := by
  intro u hu
  simp only [CC, List.mem_cons, List.not_mem_nil, or_false] at hu
  rcases hu with rfl | rfl | rfl | rfl | rfl | rfl | rfl | rfl <;> rfl
structure CgI (w : World) (X : Nat → Prop) (c : Cg) (r : Pl2) : Prop where
  signs : SS w X (.slice r.1.1 c.cert.signs.length r.1.2) c.cert.signs
  above : PL w X (.slice r.2.1 c.above.length r.2.2) c.above
def kC : Kd Cg Pl2 where
  K := 8
  C := CC
  len _ _ := rfl
  one := CC_one
  I := CgI
  weaken h hk := ⟨h.signs.weaken hk, h.above.weaken hk⟩
  ch h c hd := ⟨h.signs.ch c hd, h.above.ch c hd⟩
/-- The cells of an entry. -/
def EC (e : En) (r : Option Addr × Nat) : Array Value := #[.int .i64 e.view, .int .i64 e.seq, .slice r.1 e.batch.length r.2, .int .i64 e.sign.1, .int .i64 e.sign.2]
theorem EC_one (p : En) (r : Option Addr × Nat) : ∀ u ∈ (EC p r).toList, u.oneCell' = true := by
  intro u hu
  simp only [EC, List.mem_cons, List.not_mem_nil, or_false] at hu
  rcases hu with rfl | rfl | rfl | rfl | rfl <;> rfl
def EnI (w : World) (X : Nat → Prop) (e : En) (r : Option Addr × Nat) : Prop := BI w X (.slice r.1 e.batch.length r.2) e.batch
def kE : Kd En (Option Addr × Nat) where
  K := 5
  C := EC
  len _ _ := rfl
  one := EC_one
  I := EnI
  weaken h hk := BI.weaken h hk
  ch h c hd := BI.ch h c hd
/-- View-changes, entries. -/
abbrev CgL := GL kC
abbrev EnL := GL kE
/-- What stands at a place of a list of view-changes. -/
theorem at_change {w : World} {ad : Addr} {c : Cg} {r : Pl2} (h : AtG kC w ad c r) :
    w.cell? ad = some (.int .i64 c.view) ∧ w.cell? ⟨ad.block, ad.off + 1, none⟩ = some (.int .i64 c.from_) ∧ w.cell? ⟨ad.block, ad.off + 2, none⟩ = some (.int .i64 c.cert.seq) ∧ w.cell? ⟨ad.block, ad.off + 3, none⟩ = some (.int .i64 c.cert.dig)
    ∧ w.cell? ⟨ad.block, ad.off + 4, none⟩ = some (.slice r.1.1 c.cert.signs.length r.1.2) ∧ w.cell? ⟨ad.block, ad.off + 5, none⟩ = some (.slice r.2.1 c.above.length r.2.2) ∧ w.cell? ⟨ad.block, ad.off + 6, none⟩ = some (.int .i64 c.sign.1) ∧ w.cell? ⟨ad.block, ad.off + 7, none⟩ = some (.int .i64 c.sign.2) :=
  ⟨h 0 _ rfl, h 1 _ rfl, h 2 _ rfl, h 3 _ rfl, h 4 _ rfl, h 5 _ rfl, h 6 _ rfl, h 7 _ rfl⟩
theorem at_entry {w : World} {ad : Addr} {e : En} {r : Option Addr × Nat} (h : AtG kE w ad e r) :
    w.cell? ad = some (.int .i64 e.view) ∧ w.cell? ⟨ad.block, ad.off + 1, none⟩ = some (.int .i64 e.seq) ∧ w.cell? ⟨ad.block, ad.off + 2, none⟩ = some (.slice r.1 e.batch.length r.2) ∧ w.cell? ⟨ad.block, ad.off + 3, none⟩ = some (.int .i64 e.sign.1) ∧ w.cell? ⟨ad.block, ad.off + 4, none⟩ = some (.int .i64 e.sign.2) :=
  ⟨h 0 _ rfl, h 1 _ rfl, h 2 _ rfl, h 3 _ rfl, h 4 _ rfl⟩
end Go.Proofs.Ytfdhaodgnenhcaa.Nvb

/-
  Plain mathematics of layer 16 (newview): the loops' steps.
-/
namespace Go.Proofs.Ytfdhaodgnenhcaa.Nve
set_option linter.unusedSimpArgs false
open Jm Pra Prh Nva
set_option linter.unusedVariables false

theorem foldl_take {α β : Type} (g : β → α → β) (b : β) (l : List α) (k : Nat) (h : k < l.length) : (l.take (k + 1)).foldl g b = g ((l.take k).foldl g b) l[k] := by
  rw [List.take_succ_eq_append_getElem h, List.foldl_append]
  rfl
theorem best_step (b : Ce) {l : List Cg} {k : Nat} (h : k < l.length) : bestC b (l.take (k + 1)) = if (bestC b (l.take k)).seq < l[k].cert.seq then l[k].cert else bestC b (l.take k) := foldl_take _ b l k h
theorem latP_step (s : Int) (o : Option Pd) {l : List Pd} {k : Nat} (h : k < l.length) : latP s o (l.take (k + 1)) = latS s (latP s o (l.take k)) l[k] := foldl_take _ o l k h
theorem latC_step (s : Int) (o : Option Pd) {l : List Cg} {k : Nat} (h : k < l.length) : latC s o (l.take (k + 1)) = latP s (latC s o (l.take k)) l[k].above := foldl_take _ o l k h
theorem latS_other {s : Int} {o : Option Pd} {p : Pd} (h : ¬ p.seq = s) : latS s o p = o := by unfold latS; rw [if_neg h]
theorem latS_first {s : Int} {p : Pd} (h : p.seq = s) : latS s none p = some p := by unfold latS; rw [if_pos h]
theorem latS_more {s : Int} {p q : Pd} (h : p.seq = s) (hv : q.view < p.view) : latS s (some q) p = some p := by unfold latS; rw [if_pos h]; simp [hv]
theorem latS_less {s : Int} {p q : Pd} (hv : ¬ q.view < p.view) : latS s (some q) p = some q := by
  unfold latS
  split
  · simp [hv]
  · rfl
theorem ents_step (view b : Int) (l : List Cg) (n : Nat) : (List.range (n + 1)).map (entE view b l) = (List.range n).map (entE view b l) ++ [entE view b l n] := by rw [List.range_succ, List.map_append, List.map_singleton]
/-- The certificates' numbers stay in what a number can be. -/
theorem best_mem {b : Ce} (l : List Cg) {P : Ce → Prop} (hb : P b) (hl : ∀ c ∈ l, P c.cert) : P (bestC b l) := by
  induction l generalizing b with
  | nil => exact hb
  | cons c l ih =>
    show P (bestC (if b.seq < c.cert.seq then c.cert else b) l)
    refine ih ?_ (fun d hd => hl d (List.mem_cons_of_mem _ hd))
    split
    · exact hl c List.mem_cons_self
    · exact hb
theorem topP_range {N : Int} (l : List Pd) : ∀ {m : Int}, m ≤ N → (∀ p ∈ l, p.seq ≤ N) → topP m l ≤ N := by
  induction l with
  | nil => exact fun h _ => h
  | cons p l ih =>
    intro m h hl
    have := hl p List.mem_cons_self
    exact ih (m := max m p.seq) (by omega) (fun q hq => hl q (List.mem_cons_of_mem _ hq))
theorem topC_range {N : Int} (l : List Cg) : ∀ {m : Int}, m ≤ N → (∀ c ∈ l, ∀ p ∈ c.above, p.seq ≤ N) → topC m l ≤ N := by
  induction l with
  | nil => exact fun h _ => h
  | cons c l ih =>
    intro m h hl
    exact ih (topP_range c.above h (hl c List.mem_cons_self)) (fun d hd => hl d (List.mem_cons_of_mem _ hd))
end Go.Proofs.Ytfdhaodgnenhcaa.Nve

/-
  Layer 16 (newview): words for the program's Select: what is told of each number, in a map.
-/
namespace Go.Proofs.Ytfdhaodgnenhcaa.Nxa
set_option linter.unusedSimpArgs false
open Go Go.RowKit Ck Kw Ga Kf Jm Jb Pra Prb Ky Nva Nvb Nve
set_option linter.unusedVariables false
set_option maxRecDepth 100000

/-- A map's element reads as itself. -/
abbrev RV (v : Value) : Option (DataW Value × List MemPlace) := some (.held v, [])
theorem law_i64 : Maps.Keyed Try.prog 2 := Maps.int_keyed Try.underlying2
/-- A number of 64 bits. -/
def I64 (n : Int) : Prop := -9223372036854775808 ≤ n ∧ n ≤ 9223372036854775807
theorem key_i64 {n : Int} (h : I64 n) : keyOf Try.prog 2 (.int .i64 n) = some (.int .i64 n) := by
  refine Maps.keyOf_int_mk Try.underlying2 ?_
  simp only [Lit.wf]
  rw [Bool.and_eq_true, decide_eq_true_eq, decide_eq_true_eq]
  have h1 : IntKind.i64.min = -9223372036854775808 := by decide
  have h2 : IntKind.i64.max = 9223372036854775807 := by decide
  obtain ⟨h3, h4⟩ := h
  omega
/-- The datum D tells the function g: the certificate of a number is where the map's element says, in no block of X. -/
structure DF (w : World) (X : Nat → Prop) (D : DataW Value) (g : Int → Option Pd) : Prop where
  has : ∀ n : Int, Maps.has D (.int .i64 n) = (g n).isSome
  at_ : ∀ (n : Int) (p : Pd), g n = some p → p.seq = n ∧ ∃ r, (∀ zd, D.atKey (.int .i64 n) zd = .held (.agg (PC p r))) ∧ PI w X p r
section
variable {w w' : World} {X Y S T : Nat → Prop} {D : DataW Value} {g g' : Int → Option Pd} {m n : Nat}
theorem DF.empty : DF w X (.map []) (fun _ => none) := ⟨fun _ => rfl, fun n p h => by cases h⟩
theorem DF.after (h : DF w X D g) (b : Below w.heap.size w w') : DF w' X D g := ⟨h.has, fun n p hp => by obtain ⟨h0, r, h1, h2⟩ := h.at_ n p hp; exact ⟨h0, r, h1, h2.after b⟩⟩
theorem DF.same (h : DF w X D g) (e : ∀ n, g' n = g n) : DF w X D g' := by
  have : g' = g := funext e
  rw [this]
  exact h
/-- What is told of each number behind one more certificate. -/
def putG (g : Int → Option Pd) (p : Pd) : Int → Option Pd := fun s => latS s (g s) p
theorem putG_new {g : Int → Option Pd} {p : Pd} (h : ∀ q, g p.seq = some q → q.view < p.view) (n : Int) : putG g p n = if n = p.seq then some p else g n := by
  unfold putG
  by_cases hn : n = p.seq
  · subst hn
    rw [if_pos rfl]
    cases hg : g p.seq with
    | none => exact latS_first rfl
    | some q => exact latS_more rfl (h q hg)
  · rw [if_neg hn, latS_other (fun e => hn e.symm)]
theorem putG_old {g : Int → Option Pd} {p q : Pd} (h : g p.seq = some q) (hv : ¬ q.view < p.view) (n : Int) : putG g p n = g n := by
  unfold putG
  by_cases hn : n = p.seq
  · subst hn
    rw [h, latS_less hv]
  · rw [latS_other (fun e => hn e.symm)]
theorem DF.put {p : Pd} {r : Pl2} (h : DF w X D g) (ht : Maps.Tidy D) (hp : I64 p.seq) (hg : ∀ q, g p.seq = some q → q.view < p.view) (hi : PI w X p r) : DF w X (D.put (.int .i64 p.seq) (.held (.agg (PC p r)))) (putG g p) := by
  have hD : Maps.IsMap D := ht.isMap
  have hk : WideAt.IsKeyLit (.int .i64 p.seq) := law_i64.key (key_i64 hp)
  refine ⟨fun n => ?_, fun n q hq => ?_⟩
  · rw [putG_new hg]
    by_cases hn : n = p.seq
    · subst hn
      rw [if_pos rfl, Maps.has_put_same hD hk]
      rfl
    · have hne : (Lit.int .i64 n) ≠ Lit.int .i64 p.seq := fun e => hn (by injection e)
      rw [if_neg hn, Maps.has_put_other hne]
      exact h.has n
  · rw [putG_new hg] at hq
    by_cases hn : n = p.seq
    · subst hn
      rw [if_pos rfl] at hq
      obtain rfl := Option.some.inj hq
      exact ⟨rfl, r, fun zd => Maps.atKey_put_same hD hk _ _, hi⟩
    · have hne : (Lit.int .i64 n) ≠ Lit.int .i64 p.seq := fun e => hn (by injection e)
      rw [if_neg hn] at hq
      obtain ⟨h0, r', h1, h2⟩ := h.at_ n q hq
      exact ⟨h0, r', fun zd => by rw [Maps.atKey_put_other hne]; exact h1 zd, h2⟩
end
theorem zero_prep (W : World) : (zeroValue 43).run Try.prog W = .ok (.agg #[.int .i64 0, .int .i64 0, .int .i64 0, .int .i64 0, .int .i64 0, .slice none 0 0, .slice none 0 0]) W := by kernel_rfl
theorem PI_zero (w : World) (X : Nat → Prop) : PI w X Pd.zero ((none, 0), (none, 0)) := ⟨Sl.nil _ _ _, bi_nil _ _⟩
/-- What a look-up of any number tells. -/
theorem look_df {w0 : World} {X : Nat → Prop} {D : DataW Value} {g : Int → Option Pd} (hd : DF w0 X D g) {k : Int} (hk : I64 k) :
    ∃ r, PI w0 X ((g k).getD Pd.zero) r ∧ ∀ (w : World) (m n : Nat), w.ownsMap Try.prog 2 RV m n D → (Instr.lookup 78 (.map (some m)) (.int .i64 k) true).run Try.prog w = .ok (.tuple #[.agg (PC ((g k).getD Pd.zero) r), .bool (g k).isSome]) w ∧ (Instr.lookup 78 (.map (some m)) (.int .i64 k) false).run Try.prog w = .ok (.agg (PC ((g k).getD Pd.zero) r)) w := by
  cases hg : g k with
  | none =>
    refine ⟨((none, 0), (none, 0)), PI_zero _ _, fun w m n ho => ⟨?_, ?_⟩⟩
    · obtain ⟨v, ps, hrun, hv⟩ := ho.look_ok law_i64 Try.underlying78 (zero_prep w) (zd := .held (.agg #[.int .i64 0, .int .i64 0, .int .i64 0, .int .i64 0, .int .i64 0, .slice none 0 0, .slice none 0 0])) (zp := []) rfl (key_i64 hk)
      rw [hd.has, hg] at hrun
      have hn : Maps.has D (.int .i64 k) = false := by rw [hd.has, hg]; rfl
      rw [Maps.atKey_of_not_has hn] at hv
      simp only [RV, Option.some.injEq, Prod.mk.injEq, DataW.held.injEq] at hv
      rw [hrun, hv.1]
      rfl
    · obtain ⟨v, ps, hrun, hv⟩ := ho.lookup law_i64 Try.underlying78 (zero_prep w) (zd := .held (.agg #[.int .i64 0, .int .i64 0, .int .i64 0, .int .i64 0, .int .i64 0, .slice none 0 0, .slice none 0 0])) (zp := []) rfl (key_i64 hk)
      have hn : Maps.has D (.int .i64 k) = false := by rw [hd.has, hg]; rfl
      rw [Maps.atKey_of_not_has hn] at hv
      simp only [RV, Option.some.injEq, Prod.mk.injEq, DataW.held.injEq] at hv
      rw [hrun, hv.1]
      rfl
  | some p =>
    obtain ⟨h0, r, h1, h2⟩ := hd.at_ k p hg
    refine ⟨r, h2, fun w m n ho => ⟨?_, ?_⟩⟩
    · obtain ⟨v, ps, hrun, hv⟩ := ho.look_ok law_i64 Try.underlying78 (zero_prep w) (zd := .held (.agg #[.int .i64 0, .int .i64 0, .int .i64 0, .int .i64 0, .int .i64 0, .slice none 0 0, .slice none 0 0])) (zp := []) rfl (key_i64 hk)
      rw [hd.has, hg] at hrun
      rw [h1] at hv
      simp only [RV, Option.some.injEq, Prod.mk.injEq, DataW.held.injEq] at hv
      rw [hrun, hv.1]
      rfl
    · obtain ⟨v, ps, hrun, hv⟩ := ho.lookup law_i64 Try.underlying78 (zero_prep w) (zd := .held (.agg #[.int .i64 0, .int .i64 0, .int .i64 0, .int .i64 0, .int .i64 0, .slice none 0 0, .slice none 0 0])) (zp := []) rfl (key_i64 hk)
      rw [h1] at hv
      simp only [RV, Option.some.injEq, Prod.mk.injEq, DataW.held.injEq] at hv
      rw [hrun, hv.1]
      rfl
/-- The next step of a loop over the map: its keys. -/
theorem wpList_next_told (w : World) {ops : Array Oper} {rest : List Oper} {o : Oper} {a : Act} {Q : Exit → Act → World → Prop} (hg : o.guard = none) (it : Operand) (hop : o.op = Op.next it false)
    (b r n : Nat) (D : DataW Value) (left : Lit → Bool) (cnt : Nat) {w0 : World} {X : Nat → Prop} {g : Int → Option Pd} (hd : DF w0 X D g)
    (hit : a.eval it = .pointer (some ⟨r, 0, none⟩)) (h : w.ranges Try.prog 2 RV b r n D left cnt)
    (hDone : (∀ z, left z = false) → wpList Try.prog ops Q rest (a.put o.dst (.tuple #[.bool false])) w)
    (hMore : ∀ (s : Int) (v : Value) (w' : World) (cnt' : Nat), (g s).isSome = true → left (.int .i64 s) = true → w'.ranges Try.prog 2 RV b r n D (fun z => left z && !z.sameKey (.int .i64 s)) cnt' → cnt' < cnt →
      w.grownBy w' (some r) → w'.heap.size = w.heap.size → (Instr.entry (.pointer (some ⟨r, 0, none⟩))).run Try.prog w' = .ok (.tuple #[.int .i64 s, v]) w' → wpList Try.prog ops Q rest (a.put o.dst (.tuple #[.bool true, .int .i64 s, v])) w') :
    wpList Try.prog ops Q (o :: rest) a w :=
  wpList_next_ranges w hg it hop 2 law_i64 RV (Value.int .i64) id (fun key kl hkey => by obtain ⟨x, rfl, _⟩ := Maps.keyOf_int_inv Try.underlying2 hkey; exact ⟨x, rfl⟩) (fun v _ _ => ⟨v, rfl⟩) b r n D left cnt hit h (fun _ h0 => hDone h0)
    (fun x c kl y w' cnt' hkey hlk hv hat hrg hlt hgr hsz hen => by
      obtain ⟨x', ex, rfl, hwx⟩ := Maps.keyOf_int_inv Try.underlying2 hkey
      cases ex
      simp only [RV, id, Option.some.injEq] at hv
      subst hv
      have h1 := Maps.has_true_of_atKey hat
      rw [hd.has] at h1
      exact hMore x _ w' cnt' h1 hlk hrg hlt hgr hsz hen)
theorem same_int (n m : Int) : (Lit.int .i64 n).sameKey (.int .i64 m) = (n == m) := by
  by_cases h : n = m
  · subst h
    have : (Lit.int .i64 n).sameKey (.int .i64 n) = true := by simp [Lit.sameKey]
    rw [this]
    simp
  · have h1 : (n == m) = false := by rw [beq_eq_false_iff_ne]; exact h
    rw [h1]
    simp [Lit.sameKey, h]
/-! ### The greatest number that is told. -/
theorem topP_at (l : List Pd) : ∀ m, topP m l = m ∨ ∃ p ∈ l, topP m l = p.seq := by
  induction l with
  | nil => exact fun m => .inl rfl
  | cons q l ih =>
    intro m
    show topP (max m q.seq) l = m ∨ ∃ p ∈ q :: l, topP (max m q.seq) l = p.seq
    rcases ih (max m q.seq) with h | ⟨p, hp, h⟩
    · rcases Int.le_total m q.seq with h' | h'
      · exact .inr ⟨q, List.mem_cons_self, by rw [h]; omega⟩
      · exact .inl (by rw [h]; omega)
    · exact .inr ⟨p, List.mem_cons_of_mem _ hp, h⟩
theorem topC_at (l : List Cg) : ∀ m, topC m l = m ∨ ∃ c ∈ l, ∃ p ∈ c.above, topC m l = p.seq := by
  induction l with
  | nil => exact fun m => .inl rfl
  | cons q l ih =>
    intro m
    show topC (topP m q.above) l = m ∨ ∃ c ∈ q :: l, ∃ p ∈ c.above, topC (topP m q.above) l = p.seq
    rcases ih (topP m q.above) with h | ⟨c, hc, p, hp, h⟩
    · rcases topP_at q.above m with h' | ⟨p, hp, h'⟩
      · exact .inl (by rw [h, h'])
      · exact .inr ⟨q, List.mem_cons_self, p, hp, by rw [h, h']⟩
    · exact .inr ⟨c, List.mem_cons_of_mem _ hc, p, hp, h⟩
/-- A number is told just if it stands in one of them. -/
theorem told_iff (l : List Cg) (s : Int) : (latC s none l).isSome = true ↔ ∃ c ∈ l, ∃ p ∈ c.above, p.seq = s := by
  constructor
  · intro h
    obtain ⟨q, hq⟩ := Option.isSome_iff_exists.1 h
    rcases latC_mem l hq with h | ⟨h1, c, h2, h3⟩
    · cases h
    · exact ⟨c, h2, q, h3, h1⟩
  · rintro ⟨c, hc, p, hp, hs⟩
    obtain ⟨q, hq, -⟩ := latC_new hc hp hs none
    rw [hq]
    rfl
/-- Where a search over the numbers ends. -/
structure TopAt (g : Int → Option Pd) (low : Int) (left : Lit → Bool) (t : Int) : Prop where
  ge : low ≤ t
  is : t = low ∨ (g t).isSome = true
  all : ∀ n : Int, (g n).isSome = true → left (.int .i64 n) = false → n ≤ t
theorem TopAt.step {g : Int → Option Pd} {low t s : Int} {left : Lit → Bool} (h : TopAt g low left t) (hs : (g s).isSome = true) : TopAt g low (fun z => left z && !z.sameKey (.int .i64 s)) (max t s) := by
  refine ⟨by have := h.ge; omega, ?_, fun n hn hl => ?_⟩
  · rcases Int.le_total t s with h1 | h1
    · exact .inr (by rw [Int.max_eq_right h1]; exact hs)
    · rw [Int.max_eq_left h1]
      exact h.is
  · simp only [same_int] at hl
    cases hx : left (.int .i64 n) with
    | false => have := h.all n hn hx; omega
    | true =>
      rw [hx] at hl
      simp only [Bool.true_and, Bool.not_eq_false'] at hl
      have : n = s := by simpa using hl
      omega
theorem TopAt.done {l : List Cg} {low t : Int} {left : Lit → Bool} (h : TopAt (fun s => latC s none l) low left t) (h0 : ∀ z, left z = false) : t = topC low l := by
  have h1 := topC_le l low
  have h2 : t ≤ topC low l := by
    rcases h.is with h3 | h3
    · omega
    · obtain ⟨c, hc, p, hp, hs⟩ := (told_iff l t).1 h3
      have := h1.2 c hc p hp
      omega
  have h3 : topC low l ≤ t := by
    rcases topC_at l low with h4 | ⟨c, hc, p, hp, h4⟩
    · have := h.ge; omega
    · rw [h4]
      exact h.all _ ((told_iff l p.seq).2 ⟨c, hc, p, hp, rfl⟩) (h0 _)
  omega
/-- How many entries there are, as the program reckons it. -/
theorem many_prog {low : Int} (l : List Cg) (h : 0 ≤ low) : (manyE low (topC 0 l) : Int) = min (topC low l - low) 8 := by
  have h1 := topC_le l low
  have h2 := topC_le l 0
  have key : topC low l = max low (topC 0 l) := by
    rcases topC_at l low with h3 | ⟨c, hc, p, hp, h3⟩
    · rcases topC_at l 0 with h4 | ⟨c, hc, p, hp, h4⟩
      · omega
      · have := h1.2 c hc p hp; omega
    · have h5 := h2.2 c hc p hp
      rcases topC_at l 0 with h4 | ⟨c', hc', p', hp', h4⟩
      · omega
      · have := h1.2 c' hc' p' hp'; omega
  rw [key]
  unfold manyE
  split <;> omega
theorem none_prog {low : Int} (l : List Cg) (h : low < 0) : manyE low (topC 0 l) = 0 := by
  unfold manyE
  rw [if_pos (.inl h)]
/-- Which brokers stand there: they are so few. -/
theorem fr_len {B : Int} : ∀ {l : List Cg} {last : Int}, frB B last l = true → -1 ≤ last → last < B → (l.length : Int) ≤ B - 1 - last
  | [], last, _, _, h => by simp; omega
  | c :: l, last, h, h0, h1 => by
    simp only [frB, Bool.and_eq_true, decide_eq_true_eq] at h
    have := fr_len h.2 (by omega) (by omega)
    simp only [List.length_cons]
    omega
end Go.Proofs.Ytfdhaodgnenhcaa.Nxa

/-
  Layer 16 (newview): the document's Big (layer 12).
-/
namespace Go.Proofs.Ytfdhaodgnenhcaa.Nwb
set_option linter.unusedSimpArgs false
open Go Go.RowKit Ck Kw Ga Pra Prh
attribute [local go_sem ↓] Go.wp_at_zero Go.wp_at_succ
set_option linter.unusedVariables false

def bigP (f : Int) : Int := if okF f then 2 * f + 1 else 0
theorem rbig_any (w : World) (f : Int) : Calls Try.prog 18 #[.int .i64 f] w fun e w' => e = .returned (.int .i64 (bigP f)) ∧ w = w' := by
  have HC := rcheck_any w f
  cases h : okF f with
  | true =>
    obtain ⟨h1, h2⟩ := okF_yes h
    have hcp : checkP f = 0 := by simp [checkP, h]
    rw [hcp] at HC
    have HC := Lib.hid HC
    clear hcp
    have w1 : IntKind.i64.wrap (2 * f) = 2 * f := wrap64 (by omega) (by omega)
    have w2 : IntKind.i64.wrap (2 * f + 1) = 2 * f + 1 := wrap64 (by omega) (by omega)
    have HB : Hid (bigP f = 2 * f + 1) := Lib.hid (by simp [bigP, h])
    clear h h1 h2
    go_enter Try.func18, Try.ntmps18
    go_wp2_with fail
    refine HC.out.mono ?_
    rintro e w1 ⟨rfl, rfl⟩
    go_wp2_with fail
    go_ret
    exact ⟨by rw [HB.out]; rfl, rfl⟩
  | false =>
    have hcp : checkP f = 120 := by simp [checkP, h]
    rw [hcp] at HC
    have HC := Lib.hid HC
    clear hcp
    have HB : Hid (bigP f = 0) := Lib.hid (by simp [bigP, h])
    clear h
    go_enter Try.func18, Try.ntmps18
    go_wp2_with fail
    refine HC.out.mono ?_
    rintro e w1 ⟨rfl, rfl⟩
    go_wp2_with fail
    go_ret
    exact ⟨by rw [HB.out]; rfl, rfl⟩
end Go.Proofs.Ytfdhaodgnenhcaa.Nwb

/-
  Layer 15 (prepared): the document's num and may (layer 11).
-/
namespace Go.Proofs.Ytfdhaodgnenhcaa.Pri
set_option linter.unusedSimpArgs false
open Go Go.RowKit Ck Kw Ga Pra Prh
attribute [local go_sem ↓] Go.wp_at_zero Go.wp_at_succ
set_option linter.unusedVariables false

def numP (n : Int) : Bool := decide (0 ≤ n) && decide (n ≤ 9007199254740992)
def mayP (k v s d : Int) : Bool := numP k && numP v && numP s && numP d
end Go.Proofs.Ytfdhaodgnenhcaa.Pri

/-
  Layer 15 (prepared): the program's quorum.Check, Brokers, Primary, and auth's isNum, mayVote.
-/
namespace Go.Proofs.Ytfdhaodgnenhcaa.Prs
set_option linter.unusedSimpArgs false
open Go Go.RowKit Ck Kw Ga Pra Prh Pri
attribute [local go_sem ↓] Go.wp_at_zero Go.wp_at_succ
set_option linter.unusedVariables false

theorem qcheck_any (w : World) (f : Int) : Calls Try.prog 30 #[.int .i64 f] w fun e w' => e = .returned (.int .i64 (checkP f)) ∧ w = w' := by
  by_cases h1 : f < 1
  · have HO : Hid (checkP f = 120) := Lib.hid (checkP_no (by omega))
    go_enter Try.func30, Try.ntmps30
    go_wp2_with fail
    go_ret
    exact ⟨by rw [HO.out]; rfl, rfl⟩
  · by_cases h2 : 4 < f
    · have HO : Hid (checkP f = 120) := Lib.hid (checkP_no (by omega))
      go_enter Try.func30, Try.ntmps30
      go_wp2_with fail
      go_ret
      exact ⟨by rw [HO.out]; rfl, rfl⟩
    · have HO : Hid (checkP f = 0) := Lib.hid (checkP_yes h1 h2)
      go_enter Try.func30, Try.ntmps30
      go_wp2_with fail
      go_ret
      exact ⟨by rw [HO.out]; rfl, rfl⟩
theorem qone_any (w : World) (f : Int) : Calls Try.prog 38 #[.int .i64 3, .int .i64 f] w fun e w' => e = .returned (.int .i64 (brokersP f)) ∧ w = w' := by
  have HC := qcheck_any w f
  cases h : okF f with
  | true =>
    obtain ⟨h1, h2⟩ := okF_yes h
    have hcp : checkP f = 0 := by simp [checkP, h]
    rw [hcp] at HC
    have HC := Lib.hid HC
    clear hcp
    have w1 : IntKind.i64.wrap (3 * f) = 3 * f := wrap64 (by omega) (by omega)
    have w2 : IntKind.i64.wrap (3 * f + 1) = 3 * f + 1 := wrap64 (by omega) (by omega)
    have HB : Hid (brokersP f = 3 * f + 1) := Lib.hid (by simp [brokersP, h])
    clear h h1 h2
    go_enter Try.func38, Try.ntmps38
    go_wp2_with fail
    refine HC.out.mono ?_
    rintro e w1 ⟨rfl, rfl⟩
    go_wp2_with fail
    go_ret
    exact ⟨by rw [HB.out]; rfl, rfl⟩
  | false =>
    have hcp : checkP f = 120 := by simp [checkP, h]
    rw [hcp] at HC
    have HC := Lib.hid HC
    clear hcp
    have HB : Hid (brokersP f = 0) := Lib.hid (by simp [brokersP, h])
    clear h
    go_enter Try.func38, Try.ntmps38
    go_wp2_with fail
    refine HC.out.mono ?_
    rintro e w1 ⟨rfl, rfl⟩
    go_wp2_with fail
    go_ret
    exact ⟨by rw [HB.out]; rfl, rfl⟩
theorem qbrokers_any (w : World) (f : Int) : Calls Try.prog 37 #[.int .i64 f] w fun e w' => e = .returned (.int .i64 (brokersP f)) ∧ w = w' := by
  have HC := Lib.hid (qone_any w f)
  go_enter Try.func37, Try.ntmps37
  go_wp2_with fail
  refine HC.out.mono ?_
  rintro e w1 ⟨rfl, rfl⟩
  go_wp2_with fail
  go_ret
  exact ⟨rfl, rfl⟩
end Go.Proofs.Ytfdhaodgnenhcaa.Prs

/-
  Layer 16 (newview): the program's Big, areBrokers.
-/
namespace Go.Proofs.Ytfdhaodgnenhcaa.Nxb
set_option linter.unusedSimpArgs false
open Go Go.RowKit Ck Kw Ga Kf Jm Jb Pra Prb Prh Prs Ky Nva Nvb Nve Nwb
attribute [local go_sem ↓] Go.wp_at_zero Go.wp_at_succ
set_option linter.unusedVariables false
set_option maxRecDepth 100000

theorem qone2_any (w : World) (f : Int) : Calls Try.prog 38 #[.int .i64 2, .int .i64 f] w fun e w' => e = .returned (.int .i64 (bigP f)) ∧ w = w' := by
  have HC := qcheck_any w f
  cases h : okF f with
  | true =>
    obtain ⟨h1, h2⟩ := okF_yes h
    have hcp : checkP f = 0 := by simp [checkP, h]
    rw [hcp] at HC
    have HC := Lib.hid HC
    clear hcp
    have w1 : IntKind.i64.wrap (2 * f) = 2 * f := wrap64 (by omega) (by omega)
    have w2 : IntKind.i64.wrap (2 * f + 1) = 2 * f + 1 := wrap64 (by omega) (by omega)
    have HB : Hid (bigP f = 2 * f + 1) := Lib.hid (by simp [bigP, h])
    clear h h1 h2
    go_enter Try.func38, Try.ntmps38
    go_wp2_with fail
    refine HC.out.mono ?_
    rintro e w1 ⟨rfl, rfl⟩
    go_wp2_with fail
    go_ret
    exact ⟨by rw [HB.out]; rfl, rfl⟩
  | false =>
    have hcp : checkP f = 120 := by simp [checkP, h]
    rw [hcp] at HC
    have HC := Lib.hid HC
    clear hcp
    have HB : Hid (bigP f = 0) := Lib.hid (by simp [bigP, h])
    clear h
    go_enter Try.func38, Try.ntmps38
    go_wp2_with fail
    refine HC.out.mono ?_
    rintro e w1 ⟨rfl, rfl⟩
    go_wp2_with fail
    go_ret
    exact ⟨by rw [HB.out]; rfl, rfl⟩
theorem qbig_any (w : World) (f : Int) : Calls Try.prog 32 #[.int .i64 f] w fun e w' => e = .returned (.int .i64 (bigP f)) ∧ w = w' := by
  have HC := Lib.hid (qone2_any w f)
  go_enter Try.func32, Try.ntmps32
  go_wp2_with fail
  refine HC.out.mono ?_
  rintro e w1 ⟨rfl, rfl⟩
  go_wp2_with fail
  go_ret
  exact ⟨rfl, rfl⟩
theorem fr_step (B : Int) {l : List Cg} {k : Nat} (h : k < l.length) (last : Int) : frB B last (l.drop k) = ((decide (last < l[k].from_) && decide (l[k].from_ < B)) && frB B l[k].from_ (l.drop (k + 1))) := by
  rw [List.drop_eq_getElem_cons h]
  rfl
set_option maxHeartbeats 4000000 in
theorem areB_any (w : World) (X : Nat → Prop) (f : Int) (v : Value) (l : List Cg) (h : CgL w X v l) (hl : l.length ≤ 140737488355328) :
    Calls Try.prog 31 #[.int .i64 f, v] w fun e w' => e = .returned (.bool (frB (brokersP f) (-1) l)) ∧ Below w.heap.size w w' := by
  obtain ⟨A, c, rfl, hc⟩ := h.shape
  have HP := Lib.hid h
  have HB := Lib.hid (fun W => qbrokers_any W f)
  clear h hc
  obtain ⟨nb, hnb⟩ : ∃ nb, nb = brokersP f := ⟨_, rfl⟩
  rw [← hnb] at HB ⊢
  clear hnb
  go_enter Try.func31, Try.ntmps31
  go_wp2_with fail
  go_loopw [5, 10] (fun a i wr => ∃ (k : Nat) (last : Int), k ≤ l.length ∧ i = .int .i64 k ∧ a = .int .i64 last ∧ frB nb (-1) l = frB nb last (l.drop k) ∧ Below w.heap.size w wr) (fun _ i _ => l.length - (intOf i).toNat)
  case atStart => exact ⟨0, -1, Nat.zero_le _, rfl, rfl, rfl, Below.refl _ _⟩
  case round =>
    obtain ⟨k, last, hk, rfl, rfl, hfr, hb⟩ := hrel
    by_cases hlt : k < l.length
    · obtain ⟨ad, r, rfl, hat, hci, hbl, hXb⟩ := HP.out.at_ hlt (by decide)
      have hat : AtG kC w (ad.add (k * 8)) l[k] r := hat
      obtain ⟨a0, a1, a2, a3, a4, a5, a6, a7⟩ := at_change (hat.later hb)
      have hkp : (0 : Int) ≤ (k : Int) := by omega
      have hkl : (k : Int) < (l.length : Int) := by omega
      have HS := Lib.hid (fr_step nb hlt last)
      have HFR := Lib.hid hfr
      have hb2 : Below w.heap.size w (wr.alloc (.cells (CC l[k] r) 49)) := hb.alloc hb.size _
      have HB2 := Lib.hid hb2
      have HK2 : Hid (Blk (wr.alloc (.cells (CC l[k] r) 49)) wr.heap.size 49 (CC l[k] r)) := Lib.hid (Blk.new wr _ _)
      generalize l[k] = p at *
      clear hat hci hbl hXb hb hb2 hfr
      unfold CC at HB2 HK2
      go_wp2_with fail
      have HBQ : Hid (∀ n, Calls Try.prog 37 #[.int .i64 f] ((wr.alloc (.cells #[.int .i64 p.view, .int .i64 p.from_, .int .i64 p.cert.seq, .int .i64 p.cert.dig, .slice r.1.1 p.cert.signs.length r.1.2, .slice r.2.1 p.above.length r.2.2, .int .i64 p.sign.1, .int .i64 p.sign.2] 49)).drewN n) fun e w' => e = .returned (.int .i64 nb) ∧ ∃ m, w' = (wr.alloc (.cells #[.int .i64 p.view, .int .i64 p.from_, .int .i64 p.cert.seq, .int .i64 p.cert.dig, .slice r.1.1 p.cert.signs.length r.1.2, .slice r.2.1 p.above.length r.2.2, .int .i64 p.sign.1, .int .i64 p.sign.2] 49)).drewN m) := Lib.hid fun n => Calls.quiet_of_same ((HB.out _).mono fun _ _ h => ⟨h.1, h.2.symm⟩)
      generalize (wr.alloc (.cells #[.int .i64 p.view, .int .i64 p.from_, .int .i64 p.cert.seq, .int .i64 p.cert.dig, .slice r.1.1 p.cert.signs.length r.1.2, .slice r.2.1 p.above.length r.2.2, .int .i64 p.sign.1, .int .i64 p.sign.2] 49)) = w2 at *
      generalize wr.heap.size = g at *
      have b1 := HK2.out.cell 1
      simp only [List.getElem?_toArray, List.getElem?_cons_zero, List.getElem?_cons_succ] at b1
      clear a0 a1 a2 a3 a4 a5 a6 a7
      by_cases h1 : p.from_ ≤ last
      · have HF : Hid (frB nb (-1) l = false) := Lib.hid (by rw [HFR.out, HS.out, decide_eq_false (by omega)]; rfl)
        clear HBQ
        go_quiet (fail)
        all_goals
          go_wp2_with fail
          go_ret
          exact ⟨by rw [HF.out]; rfl, below_drewN HB2.out _⟩
      have h1' : decide (p.from_ ≤ last) = false := decide_eq_false h1
      have HNL : Hid (last < p.from_) := Lib.hid (by omega)
      clear h1
      by_cases h2 : nb ≤ p.from_
      · have HF : Hid (frB nb (-1) l = false) := Lib.hid (by rw [HFR.out, HS.out, decide_eq_false (show ¬ p.from_ < nb by omega)]; simp)
        go_quiet ((go_at_call 37; exact HBQ.out _))
        all_goals
          go_wp2_with fail
          go_ret
          exact ⟨by rw [HF.out]; rfl, below_drewN HB2.out _⟩
      have h2' : decide (nb ≤ p.from_) = false := decide_eq_false h2
      have HF : Hid (frB nb (-1) l = frB nb p.from_ (l.drop (k + 1))) := Lib.hid (by rw [HFR.out, HS.out, decide_eq_true HNL.out, decide_eq_true (show p.from_ < nb by omega)]; simp)
      clear h2
      go_quiet ((go_at_call 37; exact HBQ.out _))
      have HB3 := Lib.hid (below_drewN HB2.out nq)
      have HK3 := Lib.hid (HK2.out.below (below_drewN (Below.refl _ _) nq) HK2.out.lt)
      generalize w2.drewN nq = w3 at *
      have b1 := HK3.out.cell 1
      simp only [List.getElem?_toArray, List.getElem?_cons_zero, List.getElem?_cons_succ] at b1
      go_wp2_with fail
      go_roundw
      case rel => exact ⟨k + 1, p.from_, by omega, by go_num, rfl, HF.out, HB3.out⟩
      case measure => simp [intOf]; omega
    · have hke : k = l.length := by omega
      subst hke
      have HF : Hid (frB nb (-1) l = true) := Lib.hid (by rw [hfr, List.drop_length]; rfl)
      have HB3 := Lib.hid hb
      clear hfr hb
      go_wp2_with fail
      go_ret
      exact ⟨by rw [HF.out]; rfl, HB3.out⟩
end Go.Proofs.Ytfdhaodgnenhcaa.Nxb
