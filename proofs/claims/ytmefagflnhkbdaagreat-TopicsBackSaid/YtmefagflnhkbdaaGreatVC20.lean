/-
  Layer 7: the program's reading of topics: takeTopic's own state.
-/
import Derived.Test.YtmefagflnhkbdaaGreatVC19
import Derived.Test.YtmefagflnhkbdaaGreatVC07
import Derived.Test.YtmefagflnhkbdaaGreatVC12
namespace Go.Proofs.YtmefagflnhkbdaaGreat.Xc
set_option linter.unusedSimpArgs false
open Go Go.RowKit Ck Kw Ca Cb Ce Cf Cg Ch Ga Kf Km Pm Pa Pz Qb Qt Tm Tn Tq Te Aa Ab Ac Ad Xa Xb Xm
attribute [local go_sem ↓] Go.wp_at_zero Go.wp_at_succ
set_option linter.unusedVariables false
set_option maxRecDepth 100000

/-- While a topic is read: its block, its map of groups, its records, the reader. -/
structure TT (w0 : World) (X : Nat → Prop) (g gt mg B : Nat) (b : Nat) (v : Value) (rs : List Tx) (n : Nat) (D : DataW Unit) (s : Cm.RS) (W : World) : Prop where
  grown : w0.grownBy W (some g)
  old : g < w0.heap.size
  size : B ≤ W.heap.size
  hgt : w0.heap.size ≤ gt ∧ gt < B
  hmg : w0.heap.size ≤ mg ∧ mg < B ∧ mg ≠ gt
  blk : Blk W gt 128 #[.int .i64 (b : Int), v, .map (some mg)]
  map : W.ownsMap Tryz.prog 9 inElem mg n D
  row : ∃ vals, W.ownsRow B 67 1 v rs.length vals ∧ ∀ i (hi : i < rs.length), ∃ u, vals[i]? = some u ∧ Sl W (fun k => k < B ∨ v.ownBlock = some k) 1 u rs[i].length (BVs rs[i])
  rd : CR W (fun k => X k ∨ w0.heap.size ≤ k) g s
section
variable {w0 W W' : World} {X : Nat → Prop} {g gt mg B b n : Nat} {v : Value} {rs : List Tx} {D : DataW Unit} {s s' : Cm.RS}
/-- Only the reader goes on. -/
theorem TT.next (h : TT w0 X g gt mg B b v rs n D s W) (hg : W.grownBy W' (some g)) (hc : CR W' (fun k => X k ∨ w0.heap.size ≤ k) g s') : TT w0 X g gt mg B b v rs n D s' W' := by
  have o := h.old
  have h1 := h.hgt
  have h2 := h.hmg
  have c : Ch (fun k => k = g) W W' := Ch.of_grown hg (fun q hq _ => by injection hq with hq; exact hq.symm)
  obtain ⟨vals, r1, r2⟩ := h.row
  refine ⟨h.grown.trans hg, o, Nat.le_trans h.size hg.size, h1, h2, h.blk.ch c (by omega), map_ch h.map c (by omega), ⟨vals, own_ch r1 c (fun q hq e => ?_), fun i hi => ?_⟩, hc⟩
  · have := (r1.lt q hq).1; omega
  · obtain ⟨u, hu, hs⟩ := r2 i hi
    exact ⟨u, hu, hs.ch c (fun k _ hk => .inl (by omega))⟩
theorem TT.later (h : TT w0 X g gt mg B b v rs n D s W) (hb : Below W.heap.size W W') : TT w0 X g gt mg B b v rs n D s W' := h.next (grown_of_below hb _) (h.rd.after hb)
theorem TT.bare (h : TT w0 X g gt mg B b v rs n D s W) : CR W X g s := h.rd.weaken (fun k _ hk => .inl hk)
/-- A block of its own turns. -/
theorem TT.turn {q : Nat} (h : TT w0 X g gt mg B b v rs n D s W) (c : Ch (fun k => k = q) W W') (hq : q = gt ∨ q = mg) {b' n' : Nat} {D' : DataW Unit} (hb : Blk W' gt 128 #[.int .i64 (b' : Int), v, .map (some mg)]) (hm : W'.ownsMap Tryz.prog 9 inElem mg n' D') : TT w0 X g gt mg B b' v rs n' D' s W' := by
  have o := h.old
  have h1 := h.hgt
  have h2 := h.hmg
  obtain ⟨vals, r1, r2⟩ := h.row
  have hgr : W.grownBy W' (some q) := ⟨c.os, c.tape, c.output, c.size, fun i hi hne => c.block i hi (fun e => hne (by rw [e]))⟩
  have hq0 : w0.heap.size ≤ q ∧ q < B := by rcases hq with rfl | rfl <;> omega
  refine ⟨grown_step h.grown hgr (.inr fun k hk => by injection hk with hk; omega), o, Nat.le_trans h.size c.size, h1, h2, hb, hm, ⟨vals, own_ch r1 c (fun k hk e => ?_), fun i hi => ?_⟩, ?_⟩
  · have := (r1.lt k hk).1; omega
  · obtain ⟨u, hu, hs⟩ := r2 i hi
    exact ⟨u, hu, hs.ch c (fun k _ hk => .inl (by omega))⟩
  · exact h.rd.grown hgr (fun e => by injection e with e; omega) (fun k hk _ => by injection hk with hk; exact .inr (by omega))
/-- The base is set. -/
theorem TT.base (h : TT w0 X g gt mg B b v rs n D s W) (b' : Nat) : TT w0 X g gt mg B b' v rs n D s (W.setCell ⟨gt, 0, none⟩ (.int .i64 (b' : Int))) := by
  have c : Ch (fun k => k = gt) W (W.setCell ⟨gt, 0, none⟩ (.int .i64 (b' : Int))) := (Ch.refl (fun k => k = gt) W).setCell (p := ⟨gt, 0, none⟩) (fun _ => rfl) _
  exact h.turn c (.inl rfl) (by have := h.blk.set_ 0 (.int .i64 (b' : Int)); simpa using this) (map_ch h.map c h.hmg.2.2)
/-- A group is noted. -/
theorem TT.put {D' : DataW Unit} (h : TT w0 X g gt mg B b v rs n D s W) (c : Ch (fun k => k = mg) W W') (hm : W'.ownsMap Tryz.prog 9 inElem mg (n + 1) D') : TT w0 X g gt mg B b v rs (n + 1) D' s W' :=
  h.turn c (.inr rfl) (h.blk.ch c (fun e => h.hmg.2.2 e.symm)) hm
/-- A record more. -/
theorem TT.one {w1 w2 : World} {vals : List Value} {u v2 : Value} {x : Tx} {s1 : Cm.RS} (h : TT w0 X g gt mg B b v rs n D s W) (hr : W.ownsRow B 67 1 v rs.length vals)
    (he : ∀ i (hi : i < rs.length), ∃ u, vals[i]? = some u ∧ Sl W (fun k => k < B ∨ v.ownBlock = some k) 1 u rs[i].length (BVs rs[i]))
    (hu : w1.ownsRow W.heap.size 5 1 u x.length (BVs x)) (hg : W.grownBy w1 (some g)) (hc : CR w1 (fun k => X k ∨ w0.heap.size ≤ k) g s1)
    (happ : Appended (w1.alloc (.cells #[u] 67)) B 67 1 v (rs.length + 1) (vals ++ [u]) v2 w2) :
    TT w0 X g gt mg B b v2 (rs ++ [x]) n D s1 (w2.setCell ⟨gt, 1, none⟩ v2) := by
  have o := h.old
  have h1 := h.hgt
  have h2 := h.hmg
  have hsz := h.size
  have c1 : Ch (fun k => k = g) W w1 := Ch.of_grown hg (fun q hq _ => by injection hq with hq; exact hq.symm)
  have b2 : Below w1.heap.size w1 (w1.alloc (.cells #[u] 67)) := op_below _ _
  have hrow1 : (w1.alloc (.cells #[u] 67)).ownsRow B 67 1 v rs.length vals := own_below (own_ch hr c1 (fun q hq e => by have := (hr.lt q hq).1; omega)) b2
  have hblk1 : Blk (w1.alloc (.cells #[u] 67)) gt 128 #[.int .i64 (b : Int), v, .map (some mg)] := (h.blk.ch c1 (by omega)).alloc _
  have hmap1 := map_ch (map_ch h.map c1 (by omega)) (Ch.of_below (S := fun _ => False) b2 (Nat.le_refl _)) (fun h => h)
  have hff := own_far hrow1 hblk1 (by decide)
  have hmf := map_row hmap1 hrow1
  obtain ⟨ha, hgr, hv⟩ := happ
  have c3 : Ch (fun k => v.ownBlock = some k) (w1.alloc (.cells #[u] 67)) w2 := Ch.of_grown hgr (fun q hq _ => hq)
  have s1 := hg.size
  have s2 := b2.size
  have s3 := hgr.size
  have c4 : Ch (fun k => k = gt) w2 (w2.setCell ⟨gt, 1, none⟩ v2) := (Ch.refl (fun k => k = gt) w2).setCell (p := ⟨gt, 1, none⟩) (fun _ => rfl) _
  have s4 := c4.size
  have hvB : ∀ q, v.ownBlock = some q → B ≤ q ∧ q < W.heap.size := fun q hq => hr.lt q hq
  have hrd1 := (hc.after b2).grown hgr (fun e => by have := (hvB g e.symm).1; omega) (fun k hk _ => .inr (by have := (hvB k hk).1; omega))
  have gr4 : w2.grownBy (w2.setCell ⟨gt, 1, none⟩ v2) (some gt) := ⟨c4.os, c4.tape, c4.output, c4.size, fun i hi hne => c4.block i hi (fun e => hne (by rw [e]))⟩
  refine ⟨?_, o, by omega, h1, h2, ?_, map_ch (map_ch hmap1 c3 (fun e => hmf e)) c4 (by omega), ⟨vals ++ [u], ?_, fun i hi => ?_⟩, ?_⟩
  · exact grown_step (grown_step (grown_below (h.grown.trans hg) b2) hgr (.inr fun k hk => by have := (hvB k hk).1; omega)) gr4 (.inr fun k hk => by injection hk with hk; omega)
  · have := (hblk1.ch c3 hff).set_ 1 v2
    simpa using this
  · have := own_ch ha c4 (fun q hq e => by
      have := (ha.lt q hq).1; omega)
    simpa using this
  · by_cases hlt : i < rs.length
    · obtain ⟨y, hy, hs⟩ := he i hlt
      refine ⟨y, by rw [List.getElem?_append_left (by have := hr.1; omega)]; exact hy, ?_⟩
      have e : (rs ++ [x])[i] = rs[i] := List.getElem_append_left hlt
      simp only [e]
      have hs1 := (((hs.ch c1 (fun k _ hk => .inl (by omega))).after b2).old (Nat.le_refl _)).ch c3 (fun k _ hk => .inl (.inr hk))
      refine (hs1.weaken (Y := fun k => k < B ∨ v2.ownBlock = some k) (fun k _ hk => ?_)).ch c4 (fun k _ hk => .inl (by omega))
      rcases hk with hk | hk
      · exact .inl (.inl hk)
      · rcases hv with hv | hv
        · exact .inl (.inr (by rw [← hv]; exact hk))
        · rw [hv] at hk; injection hk with hk; exact .inr (by omega)
    · have hi' : i = rs.length := by simp only [List.length_append, List.length_singleton] at hi; omega
      subst hi'
      refine ⟨u, by rw [List.getElem?_append_right (by have := hr.1; omega), show rs.length - vals.length = 0 by have := hr.1; omega]; rfl, ?_⟩
      have e : (rs ++ [x])[rs.length] = x := by simp
      simp only [e]
      have hu2 := own_ch (own_below hu b2) c3 (fun q hq e => by have := (hu.lt q hq).1; have := (hvB q e).2; omega)
      refine (Sl.of_own' hu2 (X := fun k => k < B ∨ v2.ownBlock = some k) (fun q hq hX => ?_)).ch c4 (fun k _ hk => .inl (by omega))
      have hq1 := hu.lt q hq
      rcases hX with hX | hX
      · omega
      · rcases hv with hv | hv
        · have := (hvB q (by rw [← hv]; exact hX)).2; omega
        · rw [hv] at hX; injection hX with hX; have hz : (w1.alloc (.cells #[u] 67)).heap.size = w1.heap.size + 1 := by simp
          omega
  · exact hrd1.grown gr4 (fun e => by injection e with e; omega) (fun k hk _ => by injection hk with hk; exact .inr (by omega))
end
/-- At the start. -/
theorem tt_first {w w1 : World} {X : Nat → Prop} {g gt mg : Nat} {s : Cm.RS} (h : CR w X g s) (hT : ∀ (n : Tx) (R : Nat → Prop), Tg w1 (New w w1) R gt ⟨n, 0, [], []⟩ (.slice none 0 0) mg) (hb : Below w.heap.size w w1) :
    ∃ D, TT w X g gt mg w1.heap.size 0 (.slice none 0 0) [] 0 D s w1 ∧ TellsG D [] := by
  have hT := hT [] (fun _ => False)
  obtain ⟨D, hD, ht⟩ := hT.gs
  have hz : Maps.size D = 0 := gs_size hD ht List.Pairwise.nil
  rw [hz] at hD
  refine ⟨D, ⟨grown_of_below hb _, h.lt, Nat.le_refl _, hT.tg, ⟨hT.tm.1, hT.tm.2, map_far hD hT.blk⟩, hT.blk, hD, ⟨[], World.ownsRow_nil _ _ _ _, fun i hi => absurd hi (by simp)⟩, (h.old (Nat.le_refl _)).after hb⟩, ht⟩
/-- A group more, above all that are there. -/
theorem pos_snoc (acc : List Gp) (x : Gp) (s : Tx) : pos (acc ++ [x]) s = if (pos acc s).isSome then pos acc s else if x.n = s then some x.pos else none := by
  induction acc with
  | nil =>
    simp only [List.nil_append]
    rw [pos_cons]
    rfl
  | cons y acc ih =>
    rw [List.cons_append, pos_cons, pos_cons, ih]
    by_cases e : y.n = s
    · simp [e]
    · simp [e]
theorem tells_snoc {W : World} {mg n : Nat} {D : DataW Unit} {acc : List Gp} {x : Gp} (hm : W.ownsMap Tryz.prog 9 inElem mg n D) (h : TellsG D acc) (hx : ∀ y ∈ acc, y.n ≠ x.n) : TellsG (D.put (.string x.n) (.lit (.int .i64 x.pos))) (acc ++ [x]) := by
  have hno : pos acc x.n = none := pos_none.2 hx
  refine ⟨fun s => ?_, fun s j hj zd => ?_⟩
  · rw [has_put hm.isMap, pos_snoc, h.1]
    by_cases e : x.n = s
    · subst e; rw [hno]; simp
    · have : (x.n == s) = false := beq_eq_false_iff_ne.2 e
      rw [this, if_neg e, Bool.false_or]
      cases pos acc s <;> rfl
  · rw [pos_snoc] at hj
    by_cases e : x.n = s
    · subst e
      rw [hno] at hj
      simp only [Option.isSome_none, Bool.false_eq_true, if_false, if_true, Option.some.injEq] at hj
      subst hj
      exact at_put_same hm.isMap _ _ _
    · rw [if_neg e] at hj
      rw [at_put_other (fun q => e q.symm)]
      refine h.2 s j ?_ zd
      cases hp : pos acc s with
      | none => rw [hp] at hj; cases hj
      | some k => rw [hp] at hj; exact hj
end Go.Proofs.YtmefagflnhkbdaaGreat.Xc
