/-
  Layer 7: the program's reading of topics: the state of take.
-/
import Derived.Test.YtkoedonllfmaaaaGreatVD33
import Derived.Test.YtkoedonllfmaaaaGreatVD14
import Derived.Test.YtkoedonllfmaaaaGreatVD08
import Derived.Test.YtkoedonllfmaaaaGreatVD18
import Derived.Test.YtkoedonllfmaaaaGreatVD27
import Derived.Test.YtkoedonllfmaaaaGreatVD31
import Derived.Test.YtkoedonllfmaaaaGreatVD15
import Derived.Test.YtkoedonllfmaaaaGreatVD16
namespace Go.Proofs.YtkoedonllfmaaaaGreat.Xe
set_option linter.unusedSimpArgs false
open Go Go.RowKit Ck Kw Ca Cb Ce Ch Ci Ga Kf Km Pm Pa Pp Pz Qb Qt Tm Tn Tq Aa Ab Ac Ad Aj Xa Xb Xm Xc Xd
attribute [local go_sem ↓] Go.wp_at_zero Go.wp_at_succ
set_option linter.unusedVariables false
set_option maxRecDepth 100000

theorem find_snoc (L : List Tp) (x : Tp) (s : Tx) : findT (L ++ [x]) s = (findT L s).or (if x.n = s then some x else none) := by
  unfold findT
  rw [List.find?_append, List.find?_cons, List.find?_nil]
  by_cases e : x.n = s
  · simp [e]
  · simp [e]
theorem findT_nil_of {L : List Tp} {s : Tx} (h : ∀ t ∈ L, t.n ≠ s) : findT L s = none := by
  unfold findT
  rw [List.find?_eq_none]
  intro t ht
  simpa using h t ht
/-- Topics that were read, and where they lie. -/
structure Held (W : World) (B p m : Nat) (D : DataW Unit) (L : List Tp) (G : Tx → Nat) (V : Tx → Value) (M : Tx → Nat) (T : Tx → Nat → Prop) (R : Nat → Prop) : Prop where
  tells : TellsT D L G
  top : ∀ t ∈ L, Tg W (T t.n) R (G t.n) t (V t.n) (M t.n)
  sub : ∀ t ∈ L, ∀ k, T t.n k → B ≤ k ∧ k ≠ p ∧ k ≠ m ∧ k < W.heap.size
  apart : ∀ t ∈ L, ∀ u ∈ L, t.n ≠ u.n → ∀ k, T t.n k → T u.n k → False
  rs : ∀ k, R k → B ≤ k ∧ k ≠ p ∧ k ≠ m ∧ k < W.heap.size ∧ ∀ t ∈ L, ¬ T t.n k
section
variable {W W' : World} {B p m : Nat} {D : DataW Unit} {L : List Tp} {G : Tx → Nat} {V : Tx → Value} {M : Tx → Nat} {T : Tx → Nat → Prop} {R X : Nat → Prop}
theorem Held.ch (h : Held W B p m D L G V M T R) (c : Ch X W W') (hd : ∀ k, X k → k < B ∨ k = p ∨ k = m) : Held W' B p m D L G V M T R := by
  have hs := c.size
  refine ⟨h.tells, fun t ht => (h.top t ht).ch c (fun k hk hX => ?_) (fun k hk hX => ?_), fun t ht k hk => ?_, h.apart, fun k hk => ?_⟩
  · have := h.sub t ht k hk
    rcases hd k hX with q | q | q <;> omega
  · have := h.rs k hk
    rcases hd k hX with q | q | q <;> omega
  · have := h.sub t ht k hk
    exact ⟨this.1, this.2.1, this.2.2.1, by omega⟩
  · obtain ⟨r1, r2, r3, r4, r5⟩ := h.rs k hk
    exact ⟨r1, r2, r3, by omega, r5⟩
/-- A topic more. -/
theorem Held.more {w1 : World} {n gt mg : Nat} {v : Value} {x : Tp} {T1 R1 : Nat → Prop} (h : Held W B p m D L G V M T R) (hm : W.ownsMap Tryz.prog 9 ptrElem m n D) (hx : ∀ t ∈ L, t.n ≠ x.n) (hB : B ≤ W.heap.size) (hpm : p < W.heap.size)
    (c1 : Ch (fun k => k < B) W w1) (ht : Tg w1 T1 R1 gt x v mg) (hT : ∀ k, T1 k → W.heap.size ≤ k ∧ k < w1.heap.size) (hR : ∀ k, R1 k → W.heap.size ≤ k ∧ k < w1.heap.size ∧ ¬ T1 k) (c2 : Ch (fun k => k = m) w1 W') :
    Held W' B p m (D.put (.string x.n) (.lit (.int .i64 (gt : Int)))) (L ++ [x]) (fun t => if t = x.n then gt else G t) (fun t => if t = x.n then v else V t) (fun t => if t = x.n then mg else M t) (fun t => if t = x.n then T1 else T t) (fun k => R k ∨ R1 k) := by
  have h1 := h.ch c1 (fun k hk => .inl hk)
  have h2 := h1.ch c2 (fun k hk => .inr (.inr hk))
  have hml := hm.lt
  have s1 := c1.size
  have s2 := c2.size
  have hno := findT_nil_of hx
  refine ⟨⟨fun t => ?_, fun t ht' zd => ?_⟩, fun t ht' => ?_, fun t ht' k hk => ?_, fun t ht' u hu hn k hk hk' => ?_, fun k hk => ?_⟩
  · rw [has_put hm.isMap, find_snoc, h.tells.1]
    by_cases e : x.n = t
    · subst e; rw [hno]; simp
    · have : (x.n == t) = false := beq_eq_false_iff_ne.2 e
      rw [this, if_neg e, Bool.false_or]
      cases findT L t <;> rfl
  · rcases List.mem_append.1 ht' with ht' | ht'
    · rw [at_put_other (hx t ht')]
      simp only [if_neg (hx t ht')]
      exact h.tells.2 t ht' zd
    · rw [List.mem_singleton] at ht'
      subst ht'
      rw [at_put_same hm.isMap]
      simp
  · rcases List.mem_append.1 ht' with ht' | ht'
    · simp only [if_neg (hx t ht')]
      exact (h2.top t ht').more (fun k hk => .inl hk) (fun _ h => h)
    · rw [List.mem_singleton] at ht'
      subst ht'
      simp only [if_pos]
      refine (ht.ch c2 (fun k hk e => ?_) (fun k hk e => ?_)).more (fun k hk => .inr hk) (fun _ h => h)
      · have := hT k hk; omega
      · have := hR k hk; omega
  · rcases List.mem_append.1 ht' with ht' | ht'
    · simp only [if_neg (hx t ht')] at hk
      exact h2.sub t ht' k hk
    · rw [List.mem_singleton] at ht'
      subst ht'
      simp only [if_pos] at hk
      have := hT k hk
      exact ⟨by omega, by omega, by omega, by omega⟩
  · rcases List.mem_append.1 ht' with ht2 | ht2
    · simp only [if_neg (hx t ht2)] at hk
      rcases List.mem_append.1 hu with hu2 | hu2
      · simp only [if_neg (hx u hu2)] at hk'
        exact h.apart t ht2 u hu2 hn k hk hk'
      · rw [List.mem_singleton] at hu2
        subst hu2
        simp only [if_pos] at hk'
        have := hT k hk'
        have := (h.sub t ht2 k hk).2.2.2
        omega
    · rw [List.mem_singleton] at ht2
      subst ht2
      simp only [if_pos] at hk
      rcases List.mem_append.1 hu with hu2 | hu2
      · simp only [if_neg (hx u hu2)] at hk'
        have := hT k hk
        have := (h.sub u hu2 k hk').2.2.2
        omega
      · rw [List.mem_singleton] at hu2
        subst hu2
        exact hn rfl
  · rcases hk with hk | hk
    · obtain ⟨r1, r2, r3, r4, r5⟩ := h2.rs k hk
      refine ⟨r1, r2, r3, r4, fun t ht' hT' => ?_⟩
      rcases List.mem_append.1 ht' with ht' | ht'
      · simp only [if_neg (hx t ht')] at hT'
        exact r5 t ht' hT'
      · rw [List.mem_singleton] at ht'
        subst ht'
        simp only [if_pos] at hT'
        have := hT k hT'
        have := (h.rs k hk).2.2.2.1
        omega
    · obtain ⟨r1, r2, r3⟩ := hR k hk
      refine ⟨by omega, by omega, by omega, by omega, fun t ht' hT' => ?_⟩
      rcases List.mem_append.1 ht' with ht' | ht'
      · simp only [if_neg (hx t ht')] at hT'
        have := (h.sub t ht' k hT').2.2.2
        omega
      · rw [List.mem_singleton] at ht'
        subst ht'
        simp only [if_pos] at hT'
        exact r3 hT'
theorem Held.tp {n : Nat} {l : List An} (h : Held W B p m D L G V M T R) (hm : W.ownsMap Tryz.prog 9 ptrElem m n D) (hb : Blk W p 66 (.map (some m) :: ACs l).toArray) (hne : m ≠ p) (hg : GoodS ⟨L, l⟩) :
    TP W (fun k => k = p ∨ k = m ∨ ∃ t ∈ L, T t.n k) R p m ⟨L, l⟩ D G V M T :=
  ⟨hb, .inl rfl, own_tight hm, h.tells, ⟨.inr (.inl rfl), hne⟩, h.top, fun t ht k hk => ⟨.inr (.inr ⟨t, ht, hk⟩), (h.sub t ht k hk).2.1, (h.sub t ht k hk).2.2.1, (h.sub t ht k hk).2.2.2⟩, h.apart, fun k hk => by
    obtain ⟨r1, r2, r3, r4, r5⟩ := h.rs k hk
    refine ⟨fun hS => ?_, r4⟩
    rcases hS with q | q | ⟨t, ht, q⟩
    · exact r2 q
    · exact r3 q
    · exact r5 t ht q, hg⟩
end
theorem Held.nil (W : World) (B p m : Nat) {D : DataW Unit} {G : Tx → Nat} (h : TellsT D [] G) : Held W B p m D [] G (fun _ => .slice none 0 0) (fun _ => 0) (fun _ _ => False) (fun _ => False) :=
  ⟨h, fun t ht => (nomatch ht), fun t ht => (nomatch ht), fun t ht => (nomatch ht), fun k hk => hk.elim⟩
/-- While topics are read. -/
structure TK (w0 : World) (X : Nat → Prop) (g p m : Nat) (L : List Tp) (l : List An) (n : Nat) (s : Cm.RS) (W : World) : Prop where
  grown : w0.grownBy W (some g)
  old : g < w0.heap.size
  hp : w0.heap.size ≤ p ∧ p < W.heap.size
  hm : w0.heap.size ≤ m ∧ m ≠ p
  blk : Blk W p 66 (.map (some m) :: ACs l).toArray
  rd : CR W (fun k => X k ∨ w0.heap.size ≤ k) g s
  own : ∃ D, W.ownsMap Tryz.prog 9 ptrElem m n D ∧ (s.2 = 0 → ∃ G V M T R, Held W w0.heap.size p m D L G V M T R)
section
variable {w0 W W' : World} {X : Nat → Prop} {g p m n : Nat} {L : List Tp} {l : List An} {s s' : Cm.RS}
theorem TK.next (h : TK w0 X g p m L l n s W) (hg : W.grownBy W' (some g)) (hc : CR W' (fun k => X k ∨ w0.heap.size ≤ k) g s') (hs : s'.2 = 0 → s.2 = 0) : TK w0 X g p m L l n s' W' := by
  have o := h.old
  have h1 := h.hp
  have h2 := h.hm
  have c : Ch (fun k => k = g) W W' := Ch.of_grown hg (fun q hq _ => by injection hq with hq; exact hq.symm)
  obtain ⟨D, d1, d2⟩ := h.own
  have := c.size
  refine ⟨h.grown.trans hg, o, ⟨h1.1, by omega⟩, h2, h.blk.ch c (by omega), hc, D, map_ch d1 c (by omega), fun hz => ?_⟩
  obtain ⟨G, V, M, T, R, hh⟩ := d2 (hs hz)
  exact ⟨G, V, M, T, R, hh.ch c (fun k hk => .inl (by omega))⟩
theorem TK.later (h : TK w0 X g p m L l n s W) (hb : Below W.heap.size W W') : TK w0 X g p m L l n s W' := h.next (grown_of_below hb _) (h.rd.after hb) (fun h => h)
/-- A topic more. -/
theorem TK.one {w1 : World} {x : Tp} {s1 : Cm.RS} {gt mg : Nat} {v : Value} {T1 R1 : Nat → Prop} {D : DataW Unit} (h : TK w0 X g p m L l n s W) (hm : W.ownsMap Tryz.prog 9 ptrElem m n D) (hh : s.2 = 0 → ∃ G V M T R, Held W w0.heap.size p m D L G V M T R)
    (hg : W.grownBy w1 (some g)) (hc : CR w1 (fun k => X k ∨ w0.heap.size ≤ k) g s1) (hs : s1.2 = 0 → s.2 = 0 ∧ ∀ t ∈ L, t.n ≠ x.n) (ht : s1.2 = 0 → Tg w1 T1 R1 gt x v mg)
    (hT : ∀ k, T1 k → W.heap.size ≤ k ∧ k < w1.heap.size) (hR : ∀ k, R1 k → W.heap.size ≤ k ∧ k < w1.heap.size ∧ ¬ T1 k) (c2 : Ch (fun k => k = m) w1 W') (ho : W'.ownsMap Tryz.prog 9 ptrElem m (n + 1) (D.put (.string x.n) (.lit (.int .i64 (gt : Int))))) :
    TK w0 X g p m (L ++ [x]) l (n + 1) s1 W' := by
  have o := h.old
  have h1 := h.hp
  have h2 := h.hm
  have c1 : Ch (fun k => k = g) W w1 := Ch.of_grown hg (fun q hq _ => by injection hq with hq; exact hq.symm)
  have s1' := c1.size
  have s2' := c2.size
  have s0 := h.grown.size
  have gr2 : w1.grownBy W' (some m) := ⟨c2.os, c2.tape, c2.output, c2.size, fun i hi hne => c2.block i hi (fun e => hne (by rw [e]))⟩
  refine ⟨grown_step (h.grown.trans hg) gr2 (.inr fun k hk => by injection hk with hk; omega), o, ⟨h1.1, by omega⟩, h2, (h.blk.ch c1 (by omega)).ch c2 (fun e => h2.2 e.symm), hc.grown gr2 (fun e => by injection e with e; omega) (fun k hk _ => by injection hk with hk; exact .inr (by omega)), _, ho, fun hz => ?_⟩
  obtain ⟨z1, z2⟩ := hs hz
  obtain ⟨G, V, M, T, R, hh⟩ := hh z1
  exact ⟨_, _, _, _, _, hh.more hm z2 s0 h1.2 (c1.mono (fun k _ hk => by omega)) (ht hz) hT hR c2⟩
end
/-- What take leaves. -/
def TopicsTaken (w : World) (X : Nat → Prop) (g : Nat) (r : St × Cm.RS) (e : Ending) (w' : World) : Prop :=
  ∃ p, e = .returned (.pointer (some ⟨p, 0, none⟩)) ∧ w.grownBy w' (some g) ∧ CR w' X g r.2 ∧ (r.2.2 = 0 → GoodS r.1 → ∃ S R, Tz w' S R p r.1 ∧ (∀ k, S k → w.heap.size ≤ k ∧ k < w'.heap.size) ∧ ∀ k, R k → w.heap.size ≤ k)
theorem TK.done {w W : World} {X : Nat → Prop} {g p m n : Nat} {L : List Tp} {l : List An} {s : Cm.RS} {r : St × Cm.RS} (h : TK w X g p m L l n s W) (hr : r = (⟨L, l⟩, s)) : TopicsTaken w X g r (.returned (.pointer (some ⟨p, 0, none⟩))) W := by
  subst hr
  refine ⟨p, rfl, h.grown, h.rd.weaken (fun k _ hk => .inl hk), fun hz hg => ?_⟩
  obtain ⟨D, d1, d2⟩ := h.own
  obtain ⟨G, V, M, T, R, hh⟩ := d2 hz
  refine ⟨_, _, (hh.tp d1 h.blk h.hm.2 hg).shut, fun k hk => ?_, fun k hk => (hh.rs k hk).1⟩
  rcases hk with rfl | rfl | ⟨t, ht, hk⟩
  · exact h.hp
  · exact ⟨h.hm.1, d1.lt⟩
  · exact ⟨(hh.sub t ht k hk).1, (hh.sub t ht k hk).2.2.2⟩
end Go.Proofs.YtkoedonllfmaaaaGreat.Xe

/-
  Layer 7: the program's Parse of topics; the document's SamePlaced, of lists that are the same.
-/
namespace Go.Proofs.YtkoedonllfmaaaaGreat.Xg
set_option linter.unusedSimpArgs false
open Go Go.RowKit Ck Kw Ca Cb Ce Ch Ci Ga Kf Km Pm Pa Pp Pz Qb Qt Tm Tn Tq Aa Ab Ac Ad Ah Aj Xa Xb Xm Xc Xd Xe
attribute [local go_sem ↓] Go.wp_at_zero Go.wp_at_succ
set_option linter.unusedVariables false
set_option maxRecDepth 100000

/-- The j-th place. -/
theorem place_at {w : World} {B : Nat} {Av : Option Addr} {cv : Nat} {pl : List (Tx × Int × Tx)} (h : Ps w B (.slice Av pl.length cv) pl) {j : Nat} (hj : j < pl.length) :
    ∃ g A c, Av = some ⟨g, 0, none⟩ ∧ w.cell? ⟨g, j * 3, none⟩ = some (.string ⟨pl[j].1.toArray⟩) ∧ w.cell? ⟨g, j * 3 + 1, none⟩ = some (.int .i64 pl[j].2.1) ∧ w.cell? ⟨g, j * 3 + 2, none⟩ = some (.slice A pl[j].2.2.length c) ∧ Sl w (fun _ => False) 1 (.slice A pl[j].2.2.length c) pl[j].2.2.length (BVs pl[j].2.2) := by
  obtain ⟨l, hl, hr, he⟩ := h
  have hll : l.length = pl.length := by rw [← hl, List.length_map]
  have hjl : j < l.length := by omega
  have hx : l[j].1 = pl[j] := by
    have : (l.map (·.1))[j]? = pl[j]? := by rw [hl]
    rw [List.getElem?_map, List.getElem?_eq_getElem hjl, List.getElem?_eq_getElem hj] at this
    exact Option.some.inj this
  obtain ⟨g, c, hv, hb, hlt⟩ := hr.form (by omega)
  obtain ⟨rfl, _, rfl⟩ := Value.slice.inj hv
  have key : ∀ i, i < 3 → w.cell? ⟨g, j * 3 + i, none⟩ = (PC l[j])[i]? := fun i hi => by
    obtain ⟨u, hu⟩ : ∃ u, (PC l[j])[i]? = some u := ⟨_, List.getElem?_eq_getElem (l := PC l[j]) (by rw [PC_len l[j]]; exact hi)⟩
    rw [hu]
    have hc := hr.cells (g := g) rfl (j * 3 + i) u (by rw [show PCs l = l.flatMap PC from rfl, flat_get PC_len l j hjl i hi]; exact hu)
    have ha : (⟨g, 0, none⟩ : Addr).add (j * 3 + i) = ⟨g, j * 3 + i, none⟩ := by unfold Addr.add; split <;> simp_all
    rw [ha] at hc
    exact hc
  have k0 := key 0 (by omega)
  have k1 := key 1 (by omega)
  have k2 := key 2 (by omega)
  have hy := he _ (List.getElem_mem hjl)
  rw [hx] at hy
  obtain ⟨A, c2, e⟩ := own_shape hy
  rw [e] at hy
  refine ⟨g, A, c2, rfl, ?_, ?_, ?_, Sl.of_own hy (fun _ _ _ h => h)⟩
  · rw [Nat.add_zero] at k0; rw [k0, ← hx]; rfl
  · rw [k1, ← hx]; rfl
  · rw [k2, ← e]; rfl
set_option maxHeartbeats 2000000 in
theorem samep_any (w : World) (B1 B2 : Nat) (A1 A2 : Option Addr) (c1 c2 : Nat) (pl : List (Tx × Int × Tx)) (h1 : Ps w B1 (.slice A1 pl.length c1) pl) (h2 : Ps w B2 (.slice A2 pl.length c2) pl) (hl : pl.length ≤ 549755813888) :
    Calls Tryz.prog 9 #[.slice A1 pl.length c1, .slice A2 pl.length c2] w fun e w' => e = .returned (.bool true) ∧ Below w.heap.size w w' := by
  have H1 := Lib.hid h1
  have H2 := Lib.hid h2
  clear h1 h2
  go_enter Tryz.func9, Tryz.ntmps9
  go_wp2_with fail
  go_loopw [5] (fun i wr => ∃ k : Nat, k ≤ pl.length ∧ i = .int .i64 k ∧ ∃ n, wr = w.drewN n) (fun i _ => pl.length - (intOf i).toNat)
  case atStart => exact ⟨0, Nat.zero_le _, rfl, 0, rfl⟩
  case round =>
    obtain ⟨k, hk, rfl, nd, rfl⟩ := hrel
    by_cases hlt : k < pl.length
    · obtain ⟨g1, D1, d1, rfl, a0, a1, a2, ha⟩ := place_at H1.out hlt
      obtain ⟨g2, D2, d2, rfl, b0, b1, b2, hb⟩ := place_at H2.out hlt
      have e1 := fun nq : Nat => run_convert_sl (P := Tryz.prog) ((w.drewN nd).drewN nq) (fun _ => False) 55 9 5 D1 d1 pl[k].2.2 Tryz.underlying55 Tryz.underlying5 Tryz.underlying9 ((ha.drewN nd).drewN nq)
      have e2 := fun nq : Nat => run_convert_sl (P := Tryz.prog) ((w.drewN nd).drewN nq) (fun _ => False) 55 9 5 D2 d2 pl[k].2.2 Tryz.underlying55 Tryz.underlying5 Tryz.underlying9 ((hb.drewN nd).drewN nq)
      have a0 : (w.drewN nd).cell? ⟨g1, k * 3, none⟩ = some (.string ⟨pl[k].1.toArray⟩) := a0
      have a1 : (w.drewN nd).cell? ⟨g1, k * 3 + 1, none⟩ = some (.int .i64 pl[k].2.1) := a1
      have a2 : (w.drewN nd).cell? ⟨g1, k * 3 + 2, none⟩ = some (.slice D1 pl[k].2.2.length d1) := a2
      have b0 : (w.drewN nd).cell? ⟨g2, k * 3, none⟩ = some (.string ⟨pl[k].1.toArray⟩) := b0
      have b1 : (w.drewN nd).cell? ⟨g2, k * 3 + 1, none⟩ = some (.int .i64 pl[k].2.1) := b1
      have b2 : (w.drewN nd).cell? ⟨g2, k * 3 + 2, none⟩ = some (.slice D2 pl[k].2.2.length d2) := b2
      generalize pl[k] = x at *
      obtain ⟨x0, x1, x2⟩ := x
      simp only at a0 a1 a2 b0 b1 b2 e1 e2
      generalize hW : w.drewN nd = wr at *
      have HW := Lib.hid hW
      clear hW ha hb
      have q0 : (x0 == x0) = true := beq_self_eq_true _
      have q1 : (x2 == x2) = true := beq_self_eq_true _
      have q2 : (x1 == x1) = true := beq_self_eq_true _
      have p0 : (x0 != x0) = false := by rw [bne, q0]; rfl
      have p1 : (x2 != x2) = false := by rw [bne, q1]; rfl
      have p2 : (x1 != x1) = false := by rw [bne, q2]; rfl
      go_wp2_with fail
      go_quiet (fail)
      go_wp2_with fail
      go_roundw
      case rel => exact ⟨k + 1, by omega, by go_num, ⟨_, by rw [← HW.out, World.drewN_drewN]⟩⟩
      case measure => simp [intOf]; omega
    · go_wp2_with fail
      go_ret
      exact ⟨rfl, below_drewN (Below.refl _ _) _⟩
end Go.Proofs.YtkoedonllfmaaaaGreat.Xg

/-
  Layer 7: words for TopicsDoes: the program's topics beside the document's.
-/
namespace Go.Proofs.YtkoedonllfmaaaaGreat.Xai
set_option linter.unusedSimpArgs false
open Go Go.RowKit Ck Kw Ga Kf Km Pm Pe Pz Py Tm Tn Tq To Aa Ag Ah Ai Aj Ta Xa Xr Xg Xy Xab Xah An Ao
attribute [local go_sem ↓] Go.wp_at_zero Go.wp_at_succ
set_option linter.unusedVariables false
set_option maxRecDepth 100000

/-- The program's topics p, s, and the document's q, t, side by side, in none of the blocks N. -/
def Tw (N : Nat → Prop) (w : World) (p q : Nat) (s t : St) : Prop := ∃ T, Tk w T q t ∧ (∀ k, T k → ¬ N k ∧ k < w.heap.size) ∧ On (fun k => N k ∨ T k) w p s
section
variable {N N' X : Nat → Prop} {p q : Nat} {w w' : World} {s t : St}
theorem on_skipc (h : On N w p s) (c : Ch X w w') (hx : ∀ k, X k → N k) : On (fun k => N k ∨ (w.heap.size ≤ k ∧ k < w'.heap.size)) w' p s := by
  obtain ⟨S, R, h1, h2, h3⟩ := h
  refine ⟨S, R, h1.ch c (fun k hk hX => (h2 k hk).1 (hx k hX)) (fun k hk hX => h3 k hk (hx k hX)), fun k hk => ⟨fun h => ?_, Nat.lt_of_lt_of_le (h2 k hk).2 c.size⟩, fun k hk h => ?_⟩
  · rcases h with h | h
    · exact (h2 k hk).1 h
    · have := (h2 k hk).2; omega
  · rcases h with h | h
    · exact h3 k hk h
    · have := (Tz.rlt h1 k hk).2; omega
theorem Tw.ch (h : Tw N w p q s t) (c : Ch X w w') (hx : ∀ k, X k → N k) : Tw N w' p q s t := by
  obtain ⟨T, h1, h2, h3⟩ := h
  exact ⟨T, h1.ch c (fun k hk hX => (h2 k hk).1 (hx k hX)), fun k hk => ⟨(h2 k hk).1, Nat.lt_of_lt_of_le (h2 k hk).2 c.size⟩, h3.ch c (fun k hk => .inl (hx k hk))⟩
theorem Tw.later (h : Tw N w p q s t) (b : Below w.heap.size w w') : Tw N w' p q s t := h.ch (Ch.of_below (S := fun _ => False) b (Nat.le_refl _)) (fun _ h => h.elim)
theorem Tw.weaken (h : Tw N w p q s t) (hn : ∀ k, N' k → N k) : Tw N' w p q s t := by
  obtain ⟨T, h1, h2, h3⟩ := h
  exact ⟨T, h1, fun k hk => ⟨fun h => (h2 k hk).1 (hn k h), (h2 k hk).2⟩, h3.weaken (fun k hk => hk.imp (hn k) id)⟩
theorem Tw.skip (h : Tw N w p q s t) (b : Below w.heap.size w w') : Tw (fun k => N k ∨ (w.heap.size ≤ k ∧ k < w'.heap.size)) w' p q s t := by
  obtain ⟨T, h1, h2, h3⟩ := h
  have hs := b.size
  refine ⟨T, h1.later b, fun k hk => ⟨fun h => ?_, by have := (h2 k hk).2; omega⟩, (h3.skip b).weaken (fun k hk => ?_)⟩
  · rcases h with h | h
    · exact (h2 k hk).1 h
    · have := (h2 k hk).2; omega
  · rcases hk with (hk | hk) | hk
    · exact .inl (.inl hk)
    · exact .inr hk
    · exact .inl (.inr hk)
theorem Tw.good (h : Tw N w p q s t) : GoodS s := by
  obtain ⟨T, h1, h2, h3⟩ := h
  exact h3.good
theorem Tw.lt (h : Tw N w p q s t) : q < w.heap.size := by
  obtain ⟨T, ⟨l, lv, e, h1⟩, h2, h3⟩ := h
  exact h1.blk.lt
/-- The program is asked. -/
theorem Tw.ask1 {client time : Int} {o : O} {A : Option Addr} {c : Nat} {k off : Int} {b : Bool} {pl : List (Tx × Int × Tx)} {s' : St} (h : Tw N w p q s t) (hN : ∀ k, N k → k < w.heap.size) (hls : Ls w X (.slice A o.recs.length c) o.recs) (hl : o.recs.length ≤ 140737488355328) (ha : appS s client time o = ((k, off), pl, b, s')) :
    Calls Tryz.prog 7 #[.pointer (some ⟨p, 0, none⟩), RV client time o A c] w fun e w' => ∃ v B, e = .returned (.tuple #[.agg #[.int .i64 k, .int .i64 off], v, .bool b]) ∧ w.heap.size ≤ B ∧ B ≤ w'.heap.size ∧ Ps w' B v pl ∧ Tw (fun k => N k ∨ (B ≤ k ∧ k < w'.heap.size)) w' p q s' t ∧ Ch (fun k => ¬ N k ∧ k < w.heap.size) w w' := by
  obtain ⟨T, h1, h2, h3⟩ := h
  refine (h3.asked (fun k hk => hk.elim (hN k) (fun hk => (h2 k hk).2)) hls hl ha).mono ?_
  rintro e w' ⟨v, B, rfl, hB, hp, ho, hc⟩
  have hs := hc.size
  have htw : Tw (fun k => N k ∨ (B ≤ k ∧ k < w'.heap.size)) w' p q s' t := by
    refine ⟨T, h1.ch hc (fun k hk hX => hX.1 (.inr hk)), fun k hk => ⟨fun h => ?_, by have := (h2 k hk).2; omega⟩, ho.weaken (fun k hk => ?_)⟩
    · rcases h with h | h
      · exact (h2 k hk).1 h
      · have := (h2 k hk).2; omega
    · rcases hk with (hk | hk) | hk
      · exact .inl (.inl hk)
      · exact .inr hk
      · exact .inl (.inr hk)
  have hcc : Ch (fun k => ¬ N k ∧ k < w.heap.size) w w' := hc.mono (fun k _ hk => ⟨fun h => hk.1 (.inl h), hk.2⟩)
  by_cases hBw : B ≤ w'.heap.size
  · exact ⟨v, B, rfl, hB, hBw, hp, htw, hcc⟩
  · exact ⟨v, w'.heap.size, rfl, hs, Nat.le_refl _, hp.base (by omega), htw.weaken (fun k hk => by
      rcases hk with hk | hk
      · exact .inl hk
      · omega), hcc⟩
/-- The document is asked. -/
theorem Tw.ask2 {client time : Int} {o : O} {A : Option Addr} {c : Nat} {k off : Int} {b : Bool} {pl : List (Tx × Int × Tx)} {t' : St} (h : Tw N w p q s t) (hN : ∀ k, N k → k < w.heap.size) (hg : GoodS t) (hls : Ls w X (.slice A o.recs.length c) o.recs) (hl : o.recs.length ≤ 140737488355328) (ha : appS t client time o = ((k, off), pl, b, t')) :
    Calls Tryz.prog 8 #[.pointer (some ⟨q, 0, none⟩), RV client time o A c] w fun e w' => ∃ v, e = .returned (.tuple #[.agg #[.int .i64 k, .int .i64 off], v, .bool b]) ∧ Ps w' w.heap.size v pl ∧ Tw N w' p q s t' ∧ Ch (fun k => ¬ N k ∧ k < w.heap.size) w w' := by
  obtain ⟨T, h1, h2, h3⟩ := h
  refine (rapply_any w T q t client time o X A c h1 hg hls hl).mono ?_
  intro e w' he
  unfold RAsked at he
  rw [ha] at he
  obtain ⟨v, hv, hp, hk, hc⟩ := he
  have hs := hc.size
  refine ⟨v, hv, hp, ⟨_, hk.bound, fun k hk => ⟨fun h => ?_, hk.2⟩, (on_skipc h3 hc (fun k hk => .inr hk)).weaken (fun k hk => ?_)⟩, hc.mono (fun k _ hk => h2 k hk)⟩
  · rcases hk.1 with hk | hk
    · exact (h2 k hk).1 h
    · have := hN k h; omega
  · rcases hk with hk | hk
    · exact .inl (.inl hk)
    · rcases hk.1 with hk | hk
      · exact .inl (.inr hk)
      · exact .inr hk
/-- The two are the same. -/
theorem Tw.same {o : O} {A : Option Addr} {c : Nat} (h : Tw N w p q s s) (ht : o.topic.length ≤ 140737488355328) (hg : o.group.length ≤ 140737488355328) :
    Calls Tryz.prog 10 #[.pointer (some ⟨p, 0, none⟩), .pointer (some ⟨q, 0, none⟩), .agg #[.int .i64 o.kind, .string ⟨o.topic.toArray⟩, .string ⟨o.group.toArray⟩, .int .i64 o.off, .slice A o.recs.length c]] w fun e w' => e = .returned (.bool true) ∧ Below w.heap.size w w' := by
  obtain ⟨T, h1, h2, S, R, h3, -⟩ := h
  exact same_any w S R T p q s o A c ht hg h3 h1
theorem Tw.last (h : Tw N w p q s t) {i : Nat} (hi : i < 8) :
    Calls Tryz.prog 11 #[.pointer (some ⟨p, 0, none⟩), .int .i64 (i : Int)] w fun e w' => e = .returned (.tuple #[.int .i64 (s.last.getD i An.zero).time, .agg #[.int .i64 (s.last.getD i An.zero).err, .int .i64 (s.last.getD i An.zero).off]]) ∧ Below w.heap.size w w' := by
  obtain ⟨T, h1, h2, S, R, h3, -⟩ := h
  exact Xt.last_on w S R p i s hi h3
theorem Tw.cells (h : Tw N w p q s t) (h8 : t.last.length = 8) {i : Nat} (hi : i < 8) : w.cell? ⟨q, 1 + i * 3, none⟩ = some (.int .i64 (t.last.getD i An.zero).time) ∧ w.cell? ⟨q, 1 + i * 3 + 1, none⟩ = some (.int .i64 (t.last.getD i An.zero).err) ∧ w.cell? ⟨q, 1 + i * 3 + 2, none⟩ = some (.int .i64 (t.last.getD i An.zero).off) := by
  obtain ⟨T, h1, h2, h3⟩ := h
  have hi' : i < t.last.length := by omega
  have hg : t.last.getD i An.zero = t.last[i] := by rw [List.getD_eq_getElem?_getD, List.getElem?_eq_getElem hi']; rfl
  rw [hg]
  exact (tk_cellA h1 hi').1
theorem last_out (w : World) (S R : Nat → Prop) (p : Nat) (s : St) (c : Int) (hc : (decide (0 ≤ c) && decide (c < 8)) = false) (h : Tz w S R p s) :
    Calls Tryz.prog 11 #[.pointer (some ⟨p, 0, none⟩), .int .i64 c] w fun e w' => e = .returned (.tuple #[.int .i64 0, .agg #[.int .i64 0, .int .i64 0]]) ∧ Below w.heap.size w w' := by
  have hb := Xj.op_below w (.cells #[.int .i64 0, .int .i64 0] 30)
  have hr : Blk (w.alloc (.cells #[.int .i64 0, .int .i64 0] 30)) w.heap.size 30 #[.int .i64 0, .int .i64 0] := Blk.new _ _ _
  have h1 := h.later hb
  have HM := Lib.hid (made_on _ S R p s h1)
  have HCN : ∀ W : World, Hid (Calls Tryz.prog 18 #[.int .i64 c] W fun e w' => e = .returned (.bool false) ∧ W = w') := fun W => Lib.hid (by rw [← hc]; exact client_any W c)
  have r0 := hr.cell 0
  have r1 := hr.cell 1
  have fr0 := hr.frozen 0
  have fr1 := hr.frozen 1
  simp only [List.getElem?_toArray, List.getElem?_cons_zero, List.getElem?_cons_succ] at r0 r1
  have HB := Lib.hid hb
  clear hb hr h h1 hc
  go_enter Tryz.func11, Tryz.ntmps11
  go_wp2_with fail
  refine HM.out.mono ?_
  rintro e w1 ⟨rfl, rfl⟩
  go_wp2_with fail
  refine (HCN _).out.mono ?_
  rintro e w1 ⟨rfl, rfl⟩
  go_wp2_with fail
  refine bodyPost_ret (Xn.results_tmp_row rfl _ _ w.heap.size 30 #[.int .i64 0, .int .i64 0] (0, 0) _ rfl (Blk.new_at rfl rfl) Tryz.underlying30 rfl Ai.size_res) rfl ?_
  exact ⟨rfl, HB.out⟩
theorem Tw.lastout (h : Tw N w p q s t) {c : Int} (hc : (decide (0 ≤ c) && decide (c < 8)) = false) :
    Calls Tryz.prog 11 #[.pointer (some ⟨p, 0, none⟩), .int .i64 c] w fun e w' => e = .returned (.tuple #[.int .i64 0, .agg #[.int .i64 0, .int .i64 0]]) ∧ Below w.heap.size w w' := by
  obtain ⟨T, h1, h2, S, R, h3, -⟩ := h
  exact last_out w S R p s c hc h3
/-- A clone takes the topics' place. -/
theorem Tw.clone (h : Tw N w p q s t) (hN : ∀ k, N k → k < w.heap.size) :
    Calls Tryz.prog 12 #[.pointer (some ⟨p, 0, none⟩)] w fun e w' => ∃ p', e = .returned (.pointer (some ⟨p', 0, none⟩)) ∧ Below w.heap.size w w' ∧
      ∀ (client time : Int) (o : O) (A : Option Addr) (c : Nat) (X : Nat → Prop) (W : World), Below w'.heap.size w' W → Ls W X (.slice A o.recs.length c) o.recs → o.recs.length ≤ 140737488355328 →
        Calls Tryz.prog 7 #[.pointer (some ⟨p, 0, none⟩), RV client time o A c] W fun e w2 => ∃ v, e = .returned v ∧ Tw N w2 p' q s t ∧ Ch (fun k => ¬ N k ∧ k < w.heap.size) W w2 := by
  obtain ⟨T, h1, h2, S, R, h3, h4, h5⟩ := h
  refine (clones_any w S R p s h3).mono ?_
  rintro e w' ⟨p', rfl, hz', hb⟩
  refine ⟨p', rfl, hb, fun client time o A c X W hW hls hl => ?_⟩
  have hs := hb.size
  have hs' := hW.size
  have hzW := (h3.later hb).later hW
  refine (Al.apply_any W S R p s client time o X A c hzW hls hl).mono ?_
  rintro e w2 ⟨v, B, rfl, -, -, S', R', -, -, -, hc⟩
  have hs2 := hc.size
  refine ⟨_, rfl, ⟨T, ((h1.later hb).later hW).ch hc (fun k hk hS => (h4 k hS).1 (.inr hk)), fun k hk => ⟨(h2 k hk).1, by have := (h2 k hk).2; omega⟩, _, R, (hz'.later hW).ch hc (fun k hk hS => by have := (h4 k hS).2; have := hk.1; omega) (fun k hk hS => (Tz.rlt h3 k hk).1 hS), fun k hk => ⟨fun h => ?_, by have := hk.2; omega⟩, fun k hk h => h5 k hk h⟩, hc.mono (fun k _ hk => ⟨fun h => (h4 k hk).1 (.inl h), (h4 k hk).2⟩)⟩
  rcases h with h | h
  · have := hN k h; have := hk.1; omega
  · have := (h2 k h).2; have := hk.1; omega
end
theorem tk_zero {W : World} {q : Nat} (hb : Blk W q 35 (.slice none 0 0 :: Ta.ACs St.zero.last).toArray) : Tk W (fun k => k = q) q St.zero :=
  ⟨[], .slice none 0 0, rfl, hb, World.ownsRow_nil _ _ _ _, rfl, fun k hk => by simp [Value.ownBlock] at hk, (fun f hf => (nomatch hf))⟩
theorem tw_new {w w1 w2 : World} {p q : Nat} (b1 : Below w.heap.size w w1) (hz : Tz w2 (New w1 w2) (fun _ => False) p St.zero) (b2 : Below w1.heap.size w1 w2) {w3 : World} (hq : q = w2.heap.size) (b3 : Below w2.heap.size w2 w3) (hk : Blk w3 q 35 (.slice none 0 0 :: Ta.ACs St.zero.last).toArray) :
    Tw (fun k => k < w.heap.size) w3 p q St.zero St.zero := by
  have s1 := b1.size
  have s2 := b2.size
  have s3 := b3.size
  have hl := hk.lt
  refine ⟨_, tk_zero hk, fun k hk => ⟨by omega, by omega⟩, _, _, hz.later b3, fun k hk => ⟨fun h => ?_, by have := hk.2; omega⟩, fun k hk => hk.elim⟩
  rcases h with h | h
  · have := hk.1; omega
  · have := hk.2; omega
/-- While both go on. -/
structure D2 (w : World) (p q : Nat) (s : St) (wr : World) : Prop where
  below : Below w.heap.size w wr
  tw : Tw (fun k => k < w.heap.size) wr p q s s
end Go.Proofs.YtkoedonllfmaaaaGreat.Xai
