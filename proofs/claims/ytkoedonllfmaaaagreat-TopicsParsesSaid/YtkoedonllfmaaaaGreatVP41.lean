/-
  Layer 7: the program's reading of topics: the state of take.
-/
import Derived.Test.YtkoedonllfmaaaaGreatVP40
import Derived.Test.YtkoedonllfmaaaaGreatVP16
import Derived.Deep.RegionLaw
import Derived.Test.YtkoedonllfmaaaaGreatVP08
import Derived.Test.YtkoedonllfmaaaaGreatVP35
import Derived.Test.YtkoedonllfmaaaaGreatVP39
import Derived.Test.YtkoedonllfmaaaaGreatVP17
namespace Go.Proofs.YtkoedonllfmaaaaGreat.Xe
set_option linter.unusedSimpArgs false
open Go Go.RowKit Ck Kw Ca Cb Ce Cf Cg Ch Ci Ga Kf Km Pm Pa Pp Pz Qb Qt Tm Tn Tq Te Aa Ab Ac Ad Aj Xa Xb Xm Xc Xd
attribute [local go_sem ↓] Go.wp_at_zero Go.wp_at_succ
set_option linter.unusedVariables false
set_option maxRecDepth 100000

theorem find_snoc (L : List Tp) (x : Tp) (s : Tx) : findT (L ++ [x]) s = (findT L s).or (if x.n = s then some x else none) := by
  unfold findT
  rw [List.find?_append, List.find?_cons, List.find?_nil]
  by_cases e : x.n = s
  · simp [e]
  · simp [e]
theorem findT_nil_of {L : List Tp} {s : Tx} (h : ∀ t ∈ L, t.n ≠ s) : findT L s = none := by
  unfold findT
  rw [List.find?_eq_none]
  intro t ht
  simpa using h t ht
/-- Topics that were read, and where they lie. -/
structure Held (W : World) (B p m : Nat) (D : DataW Unit) (L : List Tp) (G : Tx → Nat) (V : Tx → Value) (M : Tx → Nat) (T : Tx → Nat → Prop) (R : Nat → Prop) : Prop where
  tells : TellsT D L G
  top : ∀ t ∈ L, Tg W (T t.n) R (G t.n) t (V t.n) (M t.n)
  sub : ∀ t ∈ L, ∀ k, T t.n k → B ≤ k ∧ k ≠ p ∧ k ≠ m ∧ k < W.heap.size
  apart : ∀ t ∈ L, ∀ u ∈ L, t.n ≠ u.n → ∀ k, T t.n k → T u.n k → False
  rs : ∀ k, R k → B ≤ k ∧ k ≠ p ∧ k ≠ m ∧ k < W.heap.size ∧ ∀ t ∈ L, ¬ T t.n k
section
variable {W W' : World} {B p m : Nat} {D : DataW Unit} {L : List Tp} {G : Tx → Nat} {V : Tx → Value} {M : Tx → Nat} {T : Tx → Nat → Prop} {R X : Nat → Prop}
theorem Held.ch (h : Held W B p m D L G V M T R) (c : Ch X W W') (hd : ∀ k, X k → k < B ∨ k = p ∨ k = m) : Held W' B p m D L G V M T R := by
  have hs := c.size
  refine ⟨h.tells, fun t ht => (h.top t ht).ch c (fun k hk hX => ?_) (fun k hk hX => ?_), fun t ht k hk => ?_, h.apart, fun k hk => ?_⟩
  · have := h.sub t ht k hk
    rcases hd k hX with q | q | q <;> omega
  · have := h.rs k hk
    rcases hd k hX with q | q | q <;> omega
  · have := h.sub t ht k hk
    exact ⟨this.1, this.2.1, this.2.2.1, by omega⟩
  · obtain ⟨r1, r2, r3, r4, r5⟩ := h.rs k hk
    exact ⟨r1, r2, r3, by omega, r5⟩
/-- A topic more. -/
theorem Held.more {w1 : World} {n gt mg : Nat} {v : Value} {x : Tp} {T1 R1 : Nat → Prop} (h : Held W B p m D L G V M T R) (hm : W.ownsMap Tryz.prog 9 ptrElem m n D) (hx : ∀ t ∈ L, t.n ≠ x.n) (hB : B ≤ W.heap.size) (hpm : p < W.heap.size)
    (c1 : Ch (fun k => k < B) W w1) (ht : Tg w1 T1 R1 gt x v mg) (hT : ∀ k, T1 k → W.heap.size ≤ k ∧ k < w1.heap.size) (hR : ∀ k, R1 k → W.heap.size ≤ k ∧ k < w1.heap.size ∧ ¬ T1 k) (c2 : Ch (fun k => k = m) w1 W') :
    Held W' B p m (D.put (.string x.n) (.lit (.int .i64 (gt : Int)))) (L ++ [x]) (fun t => if t = x.n then gt else G t) (fun t => if t = x.n then v else V t) (fun t => if t = x.n then mg else M t) (fun t => if t = x.n then T1 else T t) (fun k => R k ∨ R1 k) := by
  have h1 := h.ch c1 (fun k hk => .inl hk)
  have h2 := h1.ch c2 (fun k hk => .inr (.inr hk))
  have hml := hm.lt
  have s1 := c1.size
  have s2 := c2.size
  have hno := findT_nil_of hx
  refine ⟨⟨fun t => ?_, fun t ht' zd => ?_⟩, fun t ht' => ?_, fun t ht' k hk => ?_, fun t ht' u hu hn k hk hk' => ?_, fun k hk => ?_⟩
  · rw [has_put hm.isMap, find_snoc, h.tells.1]
    by_cases e : x.n = t
    · subst e; rw [hno]; simp
    · have : (x.n == t) = false := beq_eq_false_iff_ne.2 e
      rw [this, if_neg e, Bool.false_or]
      cases findT L t <;> rfl
  · rcases List.mem_append.1 ht' with ht' | ht'
    · rw [at_put_other (hx t ht')]
      simp only [if_neg (hx t ht')]
      exact h.tells.2 t ht' zd
    · rw [List.mem_singleton] at ht'
      subst ht'
      rw [at_put_same hm.isMap]
      simp
  · rcases List.mem_append.1 ht' with ht' | ht'
    · simp only [if_neg (hx t ht')]
      exact (h2.top t ht').more (fun k hk => .inl hk) (fun _ h => h)
    · rw [List.mem_singleton] at ht'
      subst ht'
      simp only [if_pos]
      refine (ht.ch c2 (fun k hk e => ?_) (fun k hk e => ?_)).more (fun k hk => .inr hk) (fun _ h => h)
      · have := hT k hk; omega
      · have := hR k hk; omega
  · rcases List.mem_append.1 ht' with ht' | ht'
    · simp only [if_neg (hx t ht')] at hk
      exact h2.sub t ht' k hk
    · rw [List.mem_singleton] at ht'
      subst ht'
      simp only [if_pos] at hk
      have := hT k hk
      exact ⟨by omega, by omega, by omega, by omega⟩
  · rcases List.mem_append.1 ht' with ht2 | ht2
    · simp only [if_neg (hx t ht2)] at hk
      rcases List.mem_append.1 hu with hu2 | hu2
      · simp only [if_neg (hx u hu2)] at hk'
        exact h.apart t ht2 u hu2 hn k hk hk'
      · rw [List.mem_singleton] at hu2
        subst hu2
        simp only [if_pos] at hk'
        have := hT k hk'
        have := (h.sub t ht2 k hk).2.2.2
        omega
    · rw [List.mem_singleton] at ht2
      subst ht2
      simp only [if_pos] at hk
      rcases List.mem_append.1 hu with hu2 | hu2
      · simp only [if_neg (hx u hu2)] at hk'
        have := hT k hk
        have := (h.sub u hu2 k hk').2.2.2
        omega
      · rw [List.mem_singleton] at hu2
        subst hu2
        exact hn rfl
  · rcases hk with hk | hk
    · obtain ⟨r1, r2, r3, r4, r5⟩ := h2.rs k hk
      refine ⟨r1, r2, r3, r4, fun t ht' hT' => ?_⟩
      rcases List.mem_append.1 ht' with ht' | ht'
      · simp only [if_neg (hx t ht')] at hT'
        exact r5 t ht' hT'
      · rw [List.mem_singleton] at ht'
        subst ht'
        simp only [if_pos] at hT'
        have := hT k hT'
        have := (h.rs k hk).2.2.2.1
        omega
    · obtain ⟨r1, r2, r3⟩ := hR k hk
      refine ⟨by omega, by omega, by omega, by omega, fun t ht' hT' => ?_⟩
      rcases List.mem_append.1 ht' with ht' | ht'
      · simp only [if_neg (hx t ht')] at hT'
        have := (h.sub t ht' k hT').2.2.2
        omega
      · rw [List.mem_singleton] at ht'
        subst ht'
        simp only [if_pos] at hT'
        exact r3 hT'
theorem Held.tp {n : Nat} {l : List An} (h : Held W B p m D L G V M T R) (hm : W.ownsMap Tryz.prog 9 ptrElem m n D) (hb : Blk W p 66 (.map (some m) :: ACs l).toArray) (hne : m ≠ p) (hg : GoodS ⟨L, l⟩) :
    TP W (fun k => k = p ∨ k = m ∨ ∃ t ∈ L, T t.n k) R p m ⟨L, l⟩ D G V M T :=
  ⟨hb, .inl rfl, own_tight hm, h.tells, ⟨.inr (.inl rfl), hne⟩, h.top, fun t ht k hk => ⟨.inr (.inr ⟨t, ht, hk⟩), (h.sub t ht k hk).2.1, (h.sub t ht k hk).2.2.1, (h.sub t ht k hk).2.2.2⟩, h.apart, fun k hk => by
    obtain ⟨r1, r2, r3, r4, r5⟩ := h.rs k hk
    refine ⟨fun hS => ?_, r4⟩
    rcases hS with q | q | ⟨t, ht, q⟩
    · exact r2 q
    · exact r3 q
    · exact r5 t ht q, hg⟩
end
theorem Held.nil (W : World) (B p m : Nat) {D : DataW Unit} {G : Tx → Nat} (h : TellsT D [] G) : Held W B p m D [] G (fun _ => .slice none 0 0) (fun _ => 0) (fun _ _ => False) (fun _ => False) :=
  ⟨h, fun t ht => (nomatch ht), fun t ht => (nomatch ht), fun t ht => (nomatch ht), fun k hk => hk.elim⟩
/-- While topics are read. -/
structure TK (w0 : World) (X : Nat → Prop) (g p m : Nat) (L : List Tp) (l : List An) (n : Nat) (s : Cm.RS) (W : World) : Prop where
  grown : w0.grownBy W (some g)
  old : g < w0.heap.size
  hp : w0.heap.size ≤ p ∧ p < W.heap.size
  hm : w0.heap.size ≤ m ∧ m ≠ p
  blk : Blk W p 66 (.map (some m) :: ACs l).toArray
  rd : CR W (fun k => X k ∨ w0.heap.size ≤ k) g s
  own : ∃ D, W.ownsMap Tryz.prog 9 ptrElem m n D ∧ (s.2 = 0 → ∃ G V M T R, Held W w0.heap.size p m D L G V M T R)
section
variable {w0 W W' : World} {X : Nat → Prop} {g p m n : Nat} {L : List Tp} {l : List An} {s s' : Cm.RS}
theorem TK.next (h : TK w0 X g p m L l n s W) (hg : W.grownBy W' (some g)) (hc : CR W' (fun k => X k ∨ w0.heap.size ≤ k) g s') (hs : s'.2 = 0 → s.2 = 0) : TK w0 X g p m L l n s' W' := by
  have o := h.old
  have h1 := h.hp
  have h2 := h.hm
  have c : Ch (fun k => k = g) W W' := Ch.of_grown hg (fun q hq _ => by injection hq with hq; exact hq.symm)
  obtain ⟨D, d1, d2⟩ := h.own
  have := c.size
  refine ⟨h.grown.trans hg, o, ⟨h1.1, by omega⟩, h2, h.blk.ch c (by omega), hc, D, map_ch d1 c (by omega), fun hz => ?_⟩
  obtain ⟨G, V, M, T, R, hh⟩ := d2 (hs hz)
  exact ⟨G, V, M, T, R, hh.ch c (fun k hk => .inl (by omega))⟩
theorem TK.later (h : TK w0 X g p m L l n s W) (hb : Below W.heap.size W W') : TK w0 X g p m L l n s W' := h.next (grown_of_below hb _) (h.rd.after hb) (fun h => h)
/-- A topic more. -/
theorem TK.one {w1 : World} {x : Tp} {s1 : Cm.RS} {gt mg : Nat} {v : Value} {T1 R1 : Nat → Prop} {D : DataW Unit} (h : TK w0 X g p m L l n s W) (hm : W.ownsMap Tryz.prog 9 ptrElem m n D) (hh : s.2 = 0 → ∃ G V M T R, Held W w0.heap.size p m D L G V M T R)
    (hg : W.grownBy w1 (some g)) (hc : CR w1 (fun k => X k ∨ w0.heap.size ≤ k) g s1) (hs : s1.2 = 0 → s.2 = 0 ∧ ∀ t ∈ L, t.n ≠ x.n) (ht : s1.2 = 0 → Tg w1 T1 R1 gt x v mg)
    (hT : ∀ k, T1 k → W.heap.size ≤ k ∧ k < w1.heap.size) (hR : ∀ k, R1 k → W.heap.size ≤ k ∧ k < w1.heap.size ∧ ¬ T1 k) (c2 : Ch (fun k => k = m) w1 W') (ho : W'.ownsMap Tryz.prog 9 ptrElem m (n + 1) (D.put (.string x.n) (.lit (.int .i64 (gt : Int))))) :
    TK w0 X g p m (L ++ [x]) l (n + 1) s1 W' := by
  have o := h.old
  have h1 := h.hp
  have h2 := h.hm
  have c1 : Ch (fun k => k = g) W w1 := Ch.of_grown hg (fun q hq _ => by injection hq with hq; exact hq.symm)
  have s1' := c1.size
  have s2' := c2.size
  have s0 := h.grown.size
  have gr2 : w1.grownBy W' (some m) := ⟨c2.os, c2.tape, c2.output, c2.size, fun i hi hne => c2.block i hi (fun e => hne (by rw [e]))⟩
  refine ⟨grown_step (h.grown.trans hg) gr2 (.inr fun k hk => by injection hk with hk; omega), o, ⟨h1.1, by omega⟩, h2, (h.blk.ch c1 (by omega)).ch c2 (fun e => h2.2 e.symm), hc.grown gr2 (fun e => by injection e with e; omega) (fun k hk _ => by injection hk with hk; exact .inr (by omega)), _, ho, fun hz => ?_⟩
  obtain ⟨z1, z2⟩ := hs hz
  obtain ⟨G, V, M, T, R, hh⟩ := hh z1
  exact ⟨_, _, _, _, _, hh.more hm z2 s0 h1.2 (c1.mono (fun k _ hk => by omega)) (ht hz) hT hR c2⟩
theorem cells_A {W : World} {l : List An} {p m : Nat} (h : Blk W p 66 (.map (some m) :: ACs l).toArray) {i : Nat} (hi : i < l.length) : W.cell? ⟨p, 1 + i * 3, none⟩ = some (.int .i64 l[i].time) ∧ W.cell? ⟨p, 1 + i * 3 + 1, none⟩ = some (.int .i64 l[i].err) ∧ W.cell? ⟨p, 1 + i * 3 + 2, none⟩ = some (.int .i64 l[i].off) := by
  have key : ∀ j, j < 3 → W.cell? ⟨p, 1 + i * 3 + j, none⟩ = (AC l[i])[j]? := fun j hj => by
    have := h.cell (1 + i * 3 + j)
    rw [this, List.getElem?_toArray, show 1 + i * 3 + j = (i * 3 + j) + 1 from by omega, List.getElem?_cons_succ]
    exact flat_get AC_len l i hi j hj
  exact ⟨key 0 (by omega), key 1 (by omega), key 2 (by omega)⟩
/-- An answer is put. -/
theorem TK.answer (h : TK w0 X g p m L l n s W) {i : Nat} (hi : i < l.length) (a : An) :
    TK w0 X g p m L (l.set i a) n s (((W.setCell ⟨p, 1 + i * 3, none⟩ (.int .i64 a.time)).setCell ⟨p, 1 + i * 3 + 1, none⟩ (.int .i64 a.err)).setCell ⟨p, 1 + i * 3 + 2, none⟩ (.int .i64 a.off)) := by
  have o := h.old
  have h1 := h.hp
  have h2 := h.hm
  have c : Ch (fun k => k = p) W (((W.setCell ⟨p, 1 + i * 3, none⟩ (.int .i64 a.time)).setCell ⟨p, 1 + i * 3 + 1, none⟩ (.int .i64 a.err)).setCell ⟨p, 1 + i * 3 + 2, none⟩ (.int .i64 a.off)) :=
    (((Ch.refl (fun k => k = p) W).setCell (p := ⟨p, 1 + i * 3, none⟩) (fun _ => rfl) _).setCell (p := ⟨p, 1 + i * 3 + 1, none⟩) (fun _ => rfl) _).setCell (p := ⟨p, 1 + i * 3 + 2, none⟩) (fun _ => rfl) _
  have hb := ((h.blk.set_ (1 + i * 3) (.int .i64 a.time)).set_ (1 + i * 3 + 1) (.int .i64 a.err)).set_ (1 + i * 3 + 2) (.int .i64 a.off)
  have e : ((((Value.map (some m) :: ACs l).toArray.setIfInBounds (1 + i * 3) (.int .i64 a.time)).setIfInBounds (1 + i * 3 + 1) (.int .i64 a.err)).setIfInBounds (1 + i * 3 + 2) (.int .i64 a.off)) = (Value.map (some m) :: ACs (l.set i a)).toArray := by
    rw [← acs_set l i hi a]
    simp only [List.setIfInBounds_toArray]
    rw [show 1 + i * 3 + 2 = (i * 3 + 2) + 1 by omega, show 1 + i * 3 + 1 = (i * 3 + 1) + 1 by omega, show 1 + i * 3 = i * 3 + 1 by omega]
    simp only [List.set_cons_succ]
  rw [e] at hb
  have gr : W.grownBy (((W.setCell ⟨p, 1 + i * 3, none⟩ (.int .i64 a.time)).setCell ⟨p, 1 + i * 3 + 1, none⟩ (.int .i64 a.err)).setCell ⟨p, 1 + i * 3 + 2, none⟩ (.int .i64 a.off)) (some p) := ⟨c.os, c.tape, c.output, c.size, fun i hi hne => c.block i hi (fun e => hne (by rw [e]))⟩
  obtain ⟨D, d1, d2⟩ := h.own
  have sz := c.size
  refine ⟨grown_step h.grown gr (.inr fun k hk => by injection hk with hk; omega), o, ⟨h1.1, by omega⟩, h2, hb, h.rd.grown gr (fun e => by injection e with e; omega) (fun k hk _ => by injection hk with hk; exact .inr (by omega)), D, map_ch d1 c (fun e => h2.2 e), fun hz => ?_⟩
  obtain ⟨G, V, M, T, R, hh⟩ := d2 hz
  exact ⟨G, V, M, T, R, hh.ch c (fun k hk => .inr (.inl hk))⟩
end
/-- What take leaves. -/
def TopicsTaken (w : World) (X : Nat → Prop) (g : Nat) (r : St × Cm.RS) (e : Ending) (w' : World) : Prop :=
  ∃ p, e = .returned (.pointer (some ⟨p, 0, none⟩)) ∧ w.grownBy w' (some g) ∧ CR w' X g r.2 ∧ (r.2.2 = 0 → GoodS r.1 → ∃ S R, Tz w' S R p r.1 ∧ (∀ k, S k → w.heap.size ≤ k ∧ k < w'.heap.size) ∧ ∀ k, R k → w.heap.size ≤ k)
theorem TK.done {w W : World} {X : Nat → Prop} {g p m n : Nat} {L : List Tp} {l : List An} {s : Cm.RS} {r : St × Cm.RS} (h : TK w X g p m L l n s W) (hr : r = (⟨L, l⟩, s)) : TopicsTaken w X g r (.returned (.pointer (some ⟨p, 0, none⟩))) W := by
  subst hr
  refine ⟨p, rfl, h.grown, h.rd.weaken (fun k _ hk => .inl hk), fun hz hg => ?_⟩
  obtain ⟨D, d1, d2⟩ := h.own
  obtain ⟨G, V, M, T, R, hh⟩ := d2 hz
  refine ⟨_, _, (hh.tp d1 h.blk h.hm.2 hg).shut, fun k hk => ?_, fun k hk => (hh.rs k hk).1⟩
  rcases hk with rfl | rfl | ⟨t, ht, hk⟩
  · exact h.hp
  · exact ⟨h.hm.1, d1.lt⟩
  · exact ⟨(hh.sub t ht k hk).1, (hh.sub t ht k hk).2.2.2⟩
theorem tk_first {w w1 : World} {X : Nat → Prop} {g p : Nat} {s : Cm.RS} (h : CR w X g s) (hz : Tz w1 (New w w1) (fun _ => False) p St.zero) (hb : Below w.heap.size w w1) : ∃ m, TK w X g p m [] (List.replicate 8 An.zero) 0 s w1 := by
  obtain ⟨m, D, G, V, M, F, hP⟩ := hz
  have h0 := hP.size
  have ho := hP.own
  rw [h0] at ho
  exact ⟨m, grown_of_below hb _, h.lt, hP.sp, ⟨hP.sm.1.1, hP.sm.2⟩, hP.blk, (h.old (Nat.le_refl _)).after hb, D, ho, fun _ => ⟨_, _, _, _, _, Held.nil _ _ _ _ hP.tells⟩⟩
end Go.Proofs.YtkoedonllfmaaaaGreat.Xe

/-
  Layer 7: the program's take and Parse of topics.
-/
namespace Go.Proofs.YtkoedonllfmaaaaGreat.Xf
set_option linter.unusedSimpArgs false
open Go Go.RowKit Ck Kw Ca Cb Ce Cf Cg Ch Ci Ga Kf Km Pm Pa Pp Pz Qb Qt Tm Tn Tq Te Aa Ab Ac Ad Aj Xa Xb Xm Xc Xd Xe
attribute [local go_sem ↓] Go.wp_at_zero Go.wp_at_succ
set_option linter.unusedVariables false
set_option maxRecDepth 100000

theorem tsQ_succ (n : Nat) (a : Tx) (s : Cm.RS) (acc : List Tp) : tsQ (n + 1) a s acc = tsQ n (nmQ a s).1 (tpQ (nmQ a s).1 (nmQ a s).2).2 (acc ++ [(tpQ (nmQ a s).1 (nmQ a s).2).1]) := rfl
theorem set_rep (done : List An) (i : Nat) (hi : i < 8) (hl : done.length = i) (a : An) : (done ++ List.replicate (8 - i) An.zero).set i a = (done ++ [a]) ++ List.replicate (8 - (i + 1)) An.zero := by
  rw [List.set_append_right _ _ (by omega), hl, Nat.sub_self, show 8 - i = (8 - (i + 1)) + 1 by omega, List.replicate_succ, List.set_cons_zero, List.append_assoc]
  rfl
set_option maxHeartbeats 8000000 in
theorem ttopics_any (w : World) (X : Nat → Prop) (g : Nat) (s : Cm.RS) (h : CR w X g s) (hl : s.1.length ≤ 140737488355328) :
    Calls Tryz.prog 32 #[P_ g] w (TopicsTaken w X g (stQ s)) := by
  have HH := Lib.hid h
  have HT : Hid (stQ s = (⟨(tsQ (Cm.numS s 8).1 [] (Cm.numS s 8).2 []).1, (allS anQ 8 (tsQ (Cm.numS s 8).1 [] (Cm.numS s 8).2 []).2 []).1⟩, (allS anQ 8 (tsQ (Cm.numS s 8).1 [] (Cm.numS s 8).2 []).2 []).2)) := Lib.hid rfl
  have hm1 := Cm.numS_le s 8
  have hl1 := Cm.numS_len s 8
  have HU1 : Hid ((Cm.numS s 8).2.2 = 0 → s.2 = 0) := Lib.hid num_up
  clear h
  generalize stQ s = TQ at *
  go_enter Tryz.func32, Tryz.ntmps32
  go_wp2_with fail
  refine (new_any w).mono ?_
  rintro e w1 ⟨p, rfl, hz1, hb1⟩
  obtain ⟨m, ht1⟩ := tk_first HH.out hz1 hb1
  have HS1 := Lib.hid ht1
  have HN1 := Lib.hid (num_any w1 _ g s HS1.out.rd 8)
  unfold Numed at HN1
  generalize Cm.numS s 8 = n1 at *
  obtain ⟨k1, s1⟩ := n1
  simp only at HN1 HT hm1 hl1 HU1
  clear hz1 hb1 ht1 HH
  go_wp2_with fail
  refine HN1.out.mono ?_
  rintro e w2 ⟨rfl, hg2, hc2⟩
  have HS2 := Lib.hid (HS1.out.next hg2 hc2 HU1.out)
  clear hg2 hc2 HN1 HS1 HU1
  go_wp2_with fail
  go_loopw [4, 9] (fun nmv j wr => ∃ (i : Nat) (a : Tx) (acc : List Tp) (s3 : Cm.RS), i ≤ k1 ∧ nmv = .string ⟨a.toArray⟩ ∧ j = .int .u64 i ∧ TK w X g p m acc (List.replicate 8 An.zero) i s3 wr ∧ tsQ k1 [] s1 [] = tsQ (k1 - i) a s3 acc ∧ (s3.2 = 0 → Low a (acc.map (·.n))) ∧ s3.1.length ≤ s.1.length) (fun _ j _ => k1 - (intOf j).toNat)
  case atStart => exact ⟨0, [], [], s1, Nat.zero_le _, rfl, rfl, HS2.out, rfl, fun _ => Low.nil _, by omega⟩
  case round =>
    obtain ⟨i, a, acc, s3, hi, rfl, rfl, hst, hts, hlow, hsl⟩ := hrel
    clear HS2
    have HST := Lib.hid hst
    have HLOW := Lib.hid hlow
    have HSL := Lib.hid hsl
    by_cases hlt : i < k1
    · have HTS : Hid (tsQ k1 [] s1 [] = tsQ (k1 - (i + 1)) (nmQ a s3).1 (tpQ (nmQ a s3).1 (nmQ a s3).2).2 (acc ++ [(tpQ (nmQ a s3).1 (nmQ a s3).2).1])) := Lib.hid (by rw [hts, show k1 - i = (k1 - (i + 1)) + 1 by omega, tsQ_succ])
      have HUP : Hid ((nmQ a s3).2.2 = 0 → a < (nmQ a s3).1 ∧ s3.2 = 0) := Lib.hid nm_up
      have HUQ : Hid ((tpQ (nmQ a s3).1 (nmQ a s3).2).2.2 = 0 → (nmQ a s3).2.2 = 0) := Lib.hid tp_up
      have HNM : Hid ((tpQ (nmQ a s3).1 (nmQ a s3).2).1.n = (nmQ a s3).1) := Lib.hid rfl
      have HL1 := Lib.hid (nm_len a s3)
      have HL2 := Lib.hid (tp_len (nmQ a s3).1 (nmQ a s3).2)
      have HL4 := Lib.hid (nm64 a s3)
      have HTN := Lib.hid (tname_any wr _ g s3 a hst.rd (by omega))
      have HLI : Hid (i < maxLen) := Lib.hid (by simp only [maxLen]; omega)
      clear hst hts hlow hsl
      generalize nmQ a s3 = q at *
      obtain ⟨y, s4⟩ := q
      simp only at HTS HUP HUQ HNM HL1 HL2 HL4 HTN
      have HTT := fun W (hc : CR W (fun k => X k ∨ w.heap.size ≤ k) g s4) => Lib.hid (ttopic_any W _ g s4 y hc (by have := HL1.out; have := HSL.out; omega))
      generalize tpQ y s4 = q at *
      obtain ⟨x, s5⟩ := q
      simp only at HTS HUQ HNM HL2 HTT
      unfold SV at HTN
      go_wp2_with fail
      refine HTN.out.mono ?_
      rintro e w4 ⟨rfl, hg4, hc4⟩
      have HS4 := Lib.hid (HST.out.next hg4 hc4 (fun hz => (HUP.out hz).2))
      clear hg4 hc4 HTN
      obtain ⟨D, hD, hH⟩ := HS4.out.own
      have HD := Lib.hid (And.intro hD hH)
      clear hD hH
      have q0 := HS4.out.blk.cell 0
      simp only [List.getElem?_toArray, List.getElem?_cons_zero, List.getElem?_cons_succ] at q0
      have HKEY := Lib.hid (key_str y (by have := HL4.out; simp only [maxLen]; omega))
      have HTC := Lib.hid (HTT w4.drew HS4.out.rd).out
      unfold TopicTaken at HTC
      unfold SV
      go_wp2_with fail
      --CUT1
      go_region_held3 (fun w' => w'.cell? ⟨p, 0, none⟩ = some (.map (some m))) (first | exact q0 | exact q5 | exact q6)
        (first
          | (go_at_call 71; refine HTC.out.mono ?_; rintro e w5 ⟨gt, mg, v5, T5, R5, rfl, hg5, hc5, ht5, hT5, hR5⟩; have hg5 : w4.grownBy w5 (some g) := ⟨hg5.os, hg5.tape, hg5.output, hg5.size, hg5.block⟩; have hT5 : ∀ k, T5 k → w4.heap.size ≤ k ∧ k < w5.heap.size := hT5; have hR5 : ∀ k, R5 k → w4.heap.size ≤ k ∧ k < w5.heap.size ∧ ¬ T5 k := hR5; have HF5 := Lib.hid (And.intro hg5 (And.intro hc5 (And.intro ht5 (And.intro hT5 hR5)))); have b5 := HS4.out.blk.grown hg5 (by have := HS4.out.old; have := HS4.out.hp; simp; omega); have q5 := b5.cell 0; simp only [List.getElem?_toArray, List.getElem?_cons_zero, List.getElem?_cons_succ] at q5; have hm5 := map_ch HD.out.1 (Ch.of_grown hg5 (fun q hq _ => by injection hq with hq; exact hq.symm) : Ch (fun k => k = g) w4 w5) (by have := HS4.out.old; have := HS4.out.hm; omega); obtain ⟨w6, hst6, hmap6, hturn6⟩ := hm5.store law_str Tryz.underlying61 HLI.out HKEY.out (ptrElem_mk gt); have hc6 : Ch (fun k => k = m) w5 w6 := Ch.of_grown hturn6.grown (fun q hq _ => (Option.some.inj hq).symm); have q6 := (b5.ch hc6 (fun e => HS4.out.hm.2 e.symm)).cell 0; simp only [List.getElem?_toArray, List.getElem?_cons_zero, List.getElem?_cons_succ] at q6; have HM6 := Lib.hid (And.intro hmap6 hc6); clear hg5 hc5 ht5 hT5 hR5 b5 hm5 hmap6 hturn6 hc6))
      all_goals
        go_wp2
        have HS6 := Lib.hid (HS4.out.one (x := x) HD.out.1 HD.out.2 HF5.out.1 HF5.out.2.1 (fun hz => by
          have z1 := HUQ.out hz
          obtain ⟨z2, z3⟩ := HUP.out z1
          exact ⟨z1, fun t ht => by rw [HNM.out]; exact (HLOW.out z3).fresh z2 _ (List.mem_map_of_mem ht)⟩) HF5.out.2.2.1 HF5.out.2.2.2.1 HF5.out.2.2.2.2 HM6.out.2 (by rw [HNM.out]; exact HM6.out.1))
        have HLOW2 : Hid (s5.2 = 0 → Low y ((acc ++ [x]).map (·.n))) := Lib.hid (fun hz => by
          obtain ⟨z2, z3⟩ := HUP.out (HUQ.out hz)
          have h1 := (HLOW.out z3).more z2
          rw [List.map_append, List.map_cons, List.map_nil, HNM.out]
          exact h1)
        go_roundw
        case rel => exact ⟨i + 1, y, acc ++ [x], s5, by omega, rfl, by go_num, HS6.out, HTS.out, HLOW2.out, by have := HL1.out; have := HL2.out; have := HSL.out; omega⟩
        case measure => simp [intOf]; omega
    · have hin : k1 - i = 0 := by omega
      rw [hin] at hts
      have HTQ : Hid (TQ = (⟨acc, (allS anQ 8 s3 []).1⟩, (allS anQ 8 s3 []).2)) := Lib.hid (by rw [HT.out, hts]; rfl)
      clear hst hts hlow hsl hin HT
      generalize wr = wo at *
      go_wp2_with fail
      --CUT2
      go_loopw [22] (fun j wr => ∃ (i : Nat) (done : List An) (n : Nat) (s4 : Cm.RS), i ≤ 8 ∧ j = .int .i64 i ∧ done.length = i ∧ TK w X g p m acc (done ++ List.replicate (8 - i) An.zero) n s4 wr ∧ allS anQ 8 s3 [] = allS anQ (8 - i) s4 done ∧ s4.1.length ≤ s.1.length) (fun j _ => 8 - (intOf j).toNat)
      case atStart => exact ⟨0, [], _, s3, by omega, rfl, rfl, HST.out, rfl, HSL.out⟩
      case round =>
        obtain ⟨j, done, n, s4, hj, rfl, hdl, hst, hall, hsl⟩ := hrel
        have HST4 := Lib.hid hst
        have HDL := Lib.hid hdl
        have HSL4 := Lib.hid hsl
        by_cases hj8 : j < 8
        · have HALL : Hid (allS anQ 8 s3 [] = allS anQ (8 - (j + 1)) (anQ s4).2 (done ++ [(anQ s4).1])) := Lib.hid (by rw [hall, show 8 - j = (8 - (j + 1)) + 1 by omega]; rfl)
          have HLN := Lib.hid (an_len s4)
          have HUP : Hid ((anQ s4).2.2 = 0 → s4.2 = 0) := Lib.hid (fun hz => Classical.byContradiction fun hs => anQ_keep s4 hs hz)
          have HTA := Lib.hid (tans_any wr.drew _ g s4 (show CR wr.drew (fun k => X k ∨ w.heap.size ≤ k) g s4 from hst.rd))
          unfold AnsTaken at HTA
          generalize anQ s4 = q at *
          obtain ⟨x, s5⟩ := q
          simp only at HALL HLN HUP HTA
          have hlen : j < (done ++ List.replicate (8 - j) An.zero).length := by simp; omega
          have HLEN := Lib.hid hlen
          clear hst hall hsl hdl hlen
          have hj0 : (0 : Int) ≤ (j : Int) := by omega
          have hj8' : (j : Int) < 8 := by omega
          go_wp2_with fail
          --CUT3
          go_region_law (first
            | (go_simp; go_at_call 72; refine HTA.out.mono ?_; rintro e w5 ⟨rfl, hg5, hc5⟩; have hg5 : wr.grownBy w5 (some g) := ⟨hg5.os, hg5.tape, hg5.output, hg5.size, hg5.block⟩; have HS5 := Lib.hid (HST4.out.next hg5 hc5 HUP.out); obtain ⟨q0, q1, q2⟩ := cells_A HS5.out.blk HLEN.out; have f0 := HS5.out.blk.frozen (1 + j * 3); have f1 := HS5.out.blk.frozen (1 + j * 3 + 1); have f2 := HS5.out.blk.frozen (1 + j * 3 + 2); clear hg5 hc5))
          all_goals
            have HS6 := HS5.out.answer HLEN.out x
            rw [set_rep done j hj8 HDL.out x] at HS6
            have HS7 := Lib.hid HS6
            clear HS6
            go_wp2
            go_roundw
            case rel => exact ⟨j + 1, done ++ [x], n, s5, by omega, by go_num, by have := HDL.out; simp; omega, HS7.out, HALL.out, by have := HLN.out; have := HSL4.out; omega⟩
            case measure => simp [intOf]; omega
        · have hje : j = 8 := by omega
          subst hje
          have HZ : Hid (TQ = (⟨acc, done ++ List.replicate (8 - 8) An.zero⟩, s4)) := Lib.hid (by rw [HTQ.out, hall]; simp [allS])
          clear hst hall hsl hdl
          go_wp2_with fail
          go_ret
          exact TK.done HST4.out HZ.out
end Go.Proofs.YtkoedonllfmaaaaGreat.Xf

/-
  Layer 7: the program's Parse of topics; the document's SamePlaced, of lists that are the same.
-/
namespace Go.Proofs.YtkoedonllfmaaaaGreat.Xg
set_option linter.unusedSimpArgs false
open Go Go.RowKit Ck Kw Ca Cb Ce Cf Cg Ch Ci Ga Kf Km Pm Pa Pp Pz Qb Qt Tm Tn Tq Te Aa Ab Ac Ad Ah Aj Xa Xb Xm Xc Xd Xe Xf
attribute [local go_sem ↓] Go.wp_at_zero Go.wp_at_succ
set_option linter.unusedVariables false
set_option maxRecDepth 100000

/-- What Parse leaves. -/
def ParsedT (w : World) (b : Tx) (e : Ending) (w' : World) : Prop :=
  Below w.heap.size w w' ∧ ((stP b = none ∧ e = .returned (.tuple #[.pointer none, .int .i64 70])) ∨ ∃ s p S R, stP b = some s ∧ e = .returned (.tuple #[.pointer (some ⟨p, 0, none⟩), .int .i64 0]) ∧ Tz w' S R p s ∧ (∀ k, S k → w.heap.size ≤ k ∧ k < w'.heap.size) ∧ ∀ k, R k → w.heap.size ≤ k)
set_option maxHeartbeats 2000000 in
theorem tparse_any (w : World) (X : Nat → Prop) (v : Value) (n : Nat) (b : Tx) (hv : Sl w X 1 v n (BVs b)) (hn : n ≤ 140737488355328) :
    Calls Tryz.prog 13 #[v] w (ParsedT w b) := by
  have hnb : n = b.length := by obtain ⟨A, c, _, h, _⟩ := hv; rw [BVs_len] at h; omega
  subst hnb
  have HRD := Lib.hid (Ch.read_any w X v b.length b hv hn)
  have HST := Lib.hid (stP_of b)
  have HGD : Hid (∀ s, stP b = some s → GoodS s) := Lib.hid (fun s h => stP_good h)
  obtain ⟨A, c, rfl, -⟩ := hv
  go_enter Tryz.func13, Tryz.ntmps13
  go_wp2_with fail
  refine HRD.out.mono ?_
  rintro e w1 ⟨g, rfl, hc1, hg1, hb1⟩
  have HC1 := Lib.hid (And.intro hc1 (And.intro hg1 hb1))
  have HTT := Lib.hid (ttopics_any w1 _ g (b, 0) hc1 (by simpa using hn))
  unfold TopicsTaken at HTT
  generalize stQ (b, 0) = q at *
  obtain ⟨st, s1⟩ := q
  simp only at HTT HST
  clear hc1 hg1 hb1 HRD
  go_wp2_with fail
  refine HTT.out.mono ?_
  rintro e w2 ⟨p, rfl, hg2, hc2, hz2⟩
  have HC2 := Lib.hid (And.intro hg2 (And.intro hc2 hz2))
  have HDN := Lib.hid (done_any w2 _ g s1 hc2)
  have HB2 : Hid (Below w.heap.size w w2) := Lib.hid (HC1.out.2.2.grown hg2 HC1.out.2.2.size (fun q hq => by injection hq with hq; have := HC1.out.2.1; omega))
  clear hg2 hc2 hz2 HTT
  go_wp2_with fail
  refine HDN.out.mono ?_
  rintro e w3 ⟨rfl, rfl⟩
  by_cases hd : Cm.doneS s1 = 0
  · have HZ : Hid (stP b = some st) := Lib.hid (by rw [HST.out, if_pos hd])
    have HD := Lib.hid (done_ok hd)
    rw [hd]
    clear hd HST HDN
    go_wp2_with fail
    go_ret2
    obtain ⟨S, R, z1, z2, z3⟩ := HC2.out.2.2 HD.out (HGD.out _ HZ.out)
    have hs := HC1.out.2.2.size
    exact ⟨HB2.out, .inr ⟨st, p, S, R, HZ.out, rfl, z1, fun k hk => ⟨by have := z2 k hk; omega, (z2 k hk).2⟩, fun k hk => by have := z3 k hk; omega⟩⟩
  · have e1 : (Cm.doneS s1 == 0) = false := beq_eq_false_iff_ne.2 hd
    have e2 : (Cm.doneS s1 != 0) = true := by rw [bne, e1]; rfl
    have HZ : Hid (stP b = none) := Lib.hid (by rw [HST.out, if_neg hd])
    clear hd HST HDN
    generalize Cm.doneS s1 = z at *
    go_wp2_with fail
    go_ret2
    exact ⟨HB2.out, .inl ⟨HZ.out, rfl⟩⟩

end Go.Proofs.YtkoedonllfmaaaaGreat.Xg

/-
  Layer 7: TopicsParses' walk.
-/
namespace Go.Proofs.YtkoedonllfmaaaaGreat.Xag
set_option linter.unusedSimpArgs false
open Go Go.RowKit Ck Kw Ga Kf Km Pm Pe Pz Py Tm Tn Tq To Aa Ag Ah Ai Aj Ta Xa Xr Xg Xy Xab Xaf
attribute [local go_sem ↓] Go.wp_at_zero Go.wp_at_succ
set_option linter.unusedVariables false
set_option maxRecDepth 100000

theorem cells7 {W : World} {g : Nat} {t : TypeId} {x0 x1 x2 x3 x4 x5 x6 : Value} (h : Blk W g t #[x0, x1, x2, x3, x4, x5, x6]) : W.cell? ⟨g, 0, none⟩ = some x0 ∧ W.cell? ⟨g, 1, none⟩ = some x1 ∧ W.cell? ⟨g, 2, none⟩ = some x2 ∧ W.cell? ⟨g, 3, none⟩ = some x3 ∧ W.cell? ⟨g, 4, none⟩ = some x4 ∧ W.cell? ⟨g, 5, none⟩ = some x5 ∧ W.cell? ⟨g, 6, none⟩ = some x6 :=
  ⟨h.cell 0, h.cell 1, h.cell 2, h.cell 3, h.cell 4, h.cell 5, h.cell 6⟩
set_option maxHeartbeats 4000000 in
theorem parses_any (w : World) (X : Nat → Prop) (A : Option Addr) (c : Nat) (b : Tx) (hv : Sl w X 1 (.slice A b.length c) b.length (BVs b)) (hb : b.length ≤ 140737488355328) (client time : Int) (o : O) (A0 : Option Addr) (c0 : Nat) (hls : Ls w (fun k => w.heap.size ≤ k) (.slice A0 o.recs.length c0) o.recs)
    (ht : o.topic.length ≤ 140737488355328) (hgr : o.group.length ≤ 140737488355328) (hrl : o.recs.length ≤ 140737488355328) :
    Calls Tryz.prog 4 #[.slice A b.length c, RV client time o A0 c0] w fun e w' => e = .returned (.bool true) ∧ Below w.heap.size w w' := by
  unfold RV RC
  have HV := Lib.hid (hv.weaken (Y := fun _ => False) (fun _ _ h => h.elim))
  have HLS := Lib.hid hls
  have HX := Lib.hid (And.intro hb (And.intro ht (And.intro hgr hrl)))
  have hb0 := Xr.op_below w (.cells #[.int .i64 client, .int .i64 time, .int .i64 o.kind, .string ⟨o.topic.toArray⟩, .string ⟨o.group.toArray⟩, .int .i64 o.off, .slice A0 o.recs.length c0] 40)
  have hp0 : Blk (w.alloc (.cells #[.int .i64 client, .int .i64 time, .int .i64 o.kind, .string ⟨o.topic.toArray⟩, .string ⟨o.group.toArray⟩, .int .i64 o.off, .slice A0 o.recs.length c0] 40)) w.heap.size 40 #[.int .i64 client, .int .i64 time, .int .i64 o.kind, .string ⟨o.topic.toArray⟩, .string ⟨o.group.toArray⟩, .int .i64 o.off, .slice A0 o.recs.length c0] := Blk.new w _ _
  have HB0 := Lib.hid hb0
  have HP0 := Lib.hid hp0
  clear hv hls hb ht hgr hrl hb0 hp0
  go_enter Tryz.func4, Tryz.ntmps4
  go_wp2_with fail
  generalize w.alloc (.cells #[.int .i64 client, .int .i64 time, .int .i64 o.kind, .string ⟨o.topic.toArray⟩, .string ⟨o.group.toArray⟩, .int .i64 o.off, .slice A0 o.recs.length c0] 40) = w0 at *
  refine (An.live_any w0).mono ?_
  rintro e w1 ⟨rfl, hb1⟩
  have HB1 := Lib.hid (HB0.out.trans (hb1.mono HB0.out.size))
  have HP1 := Lib.hid (HP0.out.below hb1 HP0.out.lt)
  have HPT := Lib.hid (tparse_any w1 _ _ b.length b (HV.out.after HB1.out) HX.out.1)
  clear hb1
  go_wp2_with fail
  refine HPT.out.mono ?_
  rintro e w2 ⟨hb2, hcase⟩
  have HB2 := Lib.hid hb2
  have HB02 := Lib.hid (HB1.out.trans (hb2.mono HB1.out.size))
  have HP2 := Lib.hid (HP1.out.below hb2 HP1.out.lt)
  have HRT := Lib.hid (rtparse_any w2 _ b.length b (HV.out.after HB02.out) HX.out.1)
  clear hb2 HPT
  rcases hcase with ⟨hn, rfl⟩ | ⟨s, p, S, R, hs, rfl, htz, hS, hR⟩
  · have HN := Lib.hid hn
    clear hn
    go_wp2_with fail
    refine HRT.out.mono ?_
    rintro e w3 ⟨hb3, hcase⟩
    rcases hcase with ⟨-, rfl⟩ | ⟨s, q, hs, -, -⟩
    · have HB3 := Lib.hid (HB02.out.trans (hb3.mono HB02.out.size))
      clear hb3
      go_wp2_with fail
      go_ret
      exact ⟨rfl, HB3.out⟩
    · rw [HN.out] at hs
      cases hs
  · have HS := Lib.hid hs
    have HTZ := Lib.hid htz
    have HSR := Lib.hid (And.intro hS (fun k (hk : R k) => And.intro (hR k hk) (Tz.rlt htz k hk).2))
    clear hs htz hS hR
    go_wp2_with fail
    refine HRT.out.mono ?_
    rintro e w3 ⟨hb3, hcase⟩
    rcases hcase with ⟨hn, -⟩ | ⟨s', q, hs, rfl, htk⟩
    · rw [HS.out] at hn
      cases hn
    · rw [HS.out] at hs
      injection hs with hs
      subst hs
      have HB3 := Lib.hid (HB02.out.trans (hb3.mono HB02.out.size))
      have HB23 := Lib.hid hb3
      have HP3 := Lib.hid (HP2.out.below hb3 HP2.out.lt)
      have HTK := Lib.hid htk
      have HTZ3 := Lib.hid (HTZ.out.later hb3)
      obtain ⟨a0, a1, a2, a3, a4, a5, a6⟩ := cells7 HP3.out
      have HAP := Lib.hid (Al.apply_any w3 S R p s client time o _ A0 c0 HTZ3.out (HLS.out.after HB3.out) HX.out.2.2.2)
      unfold RV RC at HAP
      have HGD := Lib.hid HTZ.out.good
      clear htk hb3 HRT
      go_wp2_with fail
      refine HAP.out.mono ?_
      rintro e w4 ⟨v4, B4, rfl, hB4, -, S2, R2, htz4, hS2, hR2, hc4⟩
      have hc := HSR.out
      have s0 := HB0.out.size
      have s1 := HB1.out.size
      have s02 := HB02.out.size
      have s12 := HB2.out.size
      have s23 := HB23.out.size
      have s34 := hc4.size
      have hlt0 := HP0.out.lt
      have hw01 : w.heap.size < w1.heap.size := HP1.out.lt
      have hp4 := HP3.out.ch hc4 (fun h => by have := (hc.1 _ h).1; omega)
      have htk4 := HTK.out.ch hc4 (fun k hk h => by have := (hc.1 k h).2; omega)
      have hls4 := (HLS.out.after HB3.out).ch hc4 (fun k _ h => by have := (hc.1 k h).1; show w.heap.size ≤ k; omega)
      have hbw4 : Below w.heap.size w w4 := HB3.out.trans (hc4.below (B := w.heap.size) (fun k hk h => by have := (hc.1 k h).1; omega) HB3.out.size)
      obtain ⟨rr, hrr⟩ : ∃ z, z = appS s client time o := ⟨_, rfl⟩
      rw [← hrr] at htz4 ⊢
      have HRR := Lib.hid hrr
      have hbx := Xr.op_below w4 (.cells #[.int .i64 rr.1.1, .int .i64 rr.1.2] 30)
      have hk5 : Blk (w4.alloc (.cells #[.int .i64 rr.1.1, .int .i64 rr.1.2] 30)) w4.heap.size 30 #[.int .i64 rr.1.1, .int .i64 rr.1.2] := Blk.new w4 _ _
      have HK5 := Lib.hid hk5
      have HP5 := Lib.hid (hp4.below hbx hp4.lt)
      have HTZ5 := Lib.hid (htz4.later hbx)
      have HTK5 := Lib.hid (htk4.later hbx)
      have HLS5 := Lib.hid (hls4.after hbx)
      have HBW5 := Lib.hid (hbw4.trans (hbx.mono hbw4.size))
      have hdis : ∀ k, (w2.heap.size ≤ k ∧ k < w3.heap.size) → ¬ S2 k ∧ ¬ R2 k := fun k hk => ⟨fun h => by
        rcases (hS2 k h).1 with h | h
        · have := (hc.1 k h).2; omega
        · have := h.1; omega, fun h => by
        rcases (hR2 k h).1 with h | h
        · have := (hc.2 k h).2; omega
        · have := h.1; omega⟩
      have HDIS := Lib.hid hdis
      have HSZ := Lib.hid (And.intro s34 (And.intro hbx.size (And.intro s23 (And.intro hw01 s12))))
      clear a0 a1 a2 a3 a4 a5 a6 hB4 htz4 hS2 hR2 hc4 hc s0 s1 s02 s12 s23 s34 hlt0 hw01 hp4 htk4 hls4 hbw4 hbx hk5 hdis hrr HAP
      obtain ⟨a0, a1, a2, a3, a4, a5, a6⟩ := cells7 HP5.out
      have HAR := Lib.hid (rapply_any (w4.alloc (.cells #[.int .i64 rr.1.1, .int .i64 rr.1.2] 30)) _ q s client time o _ A0 c0 HTK5.out HGD.out HLS5.out HX.out.2.2.2)
      unfold RV RC at HAR
      unfold RAsked at HAR
      rw [← HRR.out] at HAR
      go_wp2_with fail
      generalize w4.alloc (.cells #[.int .i64 rr.1.1, .int .i64 rr.1.2] 30) = w5 at *
      generalize w4.heap.size = g1 at *
      refine HAR.out.mono ?_
      rintro e w6 ⟨v6, rfl, -, htk6, hc6⟩
      have s56 := hc6.size
      have hk6 := HK5.out.ch hc6 (fun h => by have := HSZ.out; omega)
      have hp6 := HP5.out.ch hc6 (fun h => by have := HSZ.out; have := h.1; omega)
      have htz6 := HTZ5.out.ch hc6 (fun k hk h => (HDIS.out k h).1 hk) (fun k hk h => (HDIS.out k h).2 hk)
      have hbw6 : Below w.heap.size w w6 := HBW5.out.trans (hc6.below (B := w.heap.size) (fun k hk h => by have := HSZ.out; have := h.1; omega) HBW5.out.size)
      have hbx := Xr.op_below w6 (.cells #[.int .i64 rr.1.1, .int .i64 rr.1.2] 30)
      have hk7 : Blk (w6.alloc (.cells #[.int .i64 rr.1.1, .int .i64 rr.1.2] 30)) w6.heap.size 30 #[.int .i64 rr.1.1, .int .i64 rr.1.2] := Blk.new w6 _ _
      have hk67 := hk6.below hbx hk6.lt
      have hp7 := hp6.below hbx hp6.lt
      have HTZ7 := Lib.hid (htz6.later hbx)
      have HTK7 := Lib.hid (htk6.later hbx)
      have HBW7 := Lib.hid (hbw6.trans (hbx.mono hbw6.size))
      clear a0 a1 a2 a3 a4 a5 a6 htk6 hc6 hk6 hp6 htz6 hbw6 hbx HAR s56
      obtain ⟨a0, a1, a2, a3, a4, a5, a6⟩ := cells7 hp7
      have k0 := hk67.cell 0
      have k1 := hk67.cell 1
      have m0 := hk7.cell 0
      have m1 := hk7.cell 1
      simp only [List.getElem?_toArray, List.getElem?_cons_zero, List.getElem?_cons_succ] at k0 k1 m0 m1
      have hrs : ∀ W, (binOp .eql 30 (.agg #[.int .i64 rr.1.1, .int .i64 rr.1.2]) (.agg #[.int .i64 rr.1.1, .int .i64 rr.1.2])).run Tryz.prog W = .ok (.bool true) W := fun W => by rw [Xa.run_eql_rs W]; simp [Xa.rsB]
      clear hk67 hp7 hk7
      go_wp2_with fail
      generalize w6.alloc (.cells #[.int .i64 rr.1.1, .int .i64 rr.1.2] 30) = w7 at *
      refine (same_any w7 _ _ _ p q rr.2.2.2 o A0 c0 HX.out.2.1 HX.out.2.2.1 HTZ7.out HTK7.out).mono ?_
      rintro e w8 ⟨rfl, hb8⟩
      have HB8 := Lib.hid (HBW7.out.trans (hb8.mono HBW7.out.size))
      clear hb8
      go_wp2_with fail
      go_ret
      exact ⟨rfl, HB8.out⟩
end Go.Proofs.YtkoedonllfmaaaaGreat.Xag
