/-
  Layer 7: the program's reading of topics: takeTopic's own state.
-/
import Derived.Test.YtkoedonllfmaaaaGreatVP20
import Derived.Test.YtkoedonllfmaaaaGreatVP06
import Derived.Test.YtkoedonllfmaaaaGreatVPCi
import Derived.Deep.RegionLaw
namespace Go.Proofs.YtkoedonllfmaaaaGreat.Xc
set_option linter.unusedSimpArgs false
open Go Go.RowKit Ck Kw Ca Cb Ce Cf Cg Ch Ga Kf Km Pm Pa Pp Pz Qb Qt Tm Tn Tq Te Aa Ab Ac Ad Xa Xb Xm
attribute [local go_sem ↓] Go.wp_at_zero Go.wp_at_succ
set_option linter.unusedVariables false
set_option maxRecDepth 100000

/-- While a topic is read: its block, its map of groups, its records, the reader. -/
structure TT (w0 : World) (X : Nat → Prop) (g gt mg B : Nat) (b : Nat) (v : Value) (rs : List Tx) (n : Nat) (D : DataW Unit) (s : Cm.RS) (W : World) : Prop where
  grown : w0.grownBy W (some g)
  old : g < w0.heap.size
  size : B ≤ W.heap.size
  hgt : w0.heap.size ≤ gt ∧ gt < B
  hmg : w0.heap.size ≤ mg ∧ mg < B ∧ mg ≠ gt
  blk : Blk W gt 102 #[.int .i64 (b : Int), v, .map (some mg)]
  map : W.ownsMap Tryz.prog 9 inElem mg n D
  row : ∃ vals, W.ownsRow B 55 1 v rs.length vals ∧ ∀ i (hi : i < rs.length), ∃ u, vals[i]? = some u ∧ Sl W (fun k => k < B ∨ v.ownBlock = some k) 1 u rs[i].length (BVs rs[i])
  rd : CR W (fun k => X k ∨ w0.heap.size ≤ k) g s
section
variable {w0 W W' : World} {X : Nat → Prop} {g gt mg B b n : Nat} {v : Value} {rs : List Tx} {D : DataW Unit} {s s' : Cm.RS}
/-- Only the reader goes on. -/
theorem TT.next (h : TT w0 X g gt mg B b v rs n D s W) (hg : W.grownBy W' (some g)) (hc : CR W' (fun k => X k ∨ w0.heap.size ≤ k) g s') : TT w0 X g gt mg B b v rs n D s' W' := by
  have o := h.old
  have h1 := h.hgt
  have h2 := h.hmg
  have c : Ch (fun k => k = g) W W' := Ch.of_grown hg (fun q hq _ => by injection hq with hq; exact hq.symm)
  obtain ⟨vals, r1, r2⟩ := h.row
  refine ⟨h.grown.trans hg, o, Nat.le_trans h.size hg.size, h1, h2, h.blk.ch c (by omega), map_ch h.map c (by omega), ⟨vals, own_ch r1 c (fun q hq e => ?_), fun i hi => ?_⟩, hc⟩
  · have := (r1.lt q hq).1; omega
  · obtain ⟨u, hu, hs⟩ := r2 i hi
    exact ⟨u, hu, hs.ch c (fun k _ hk => .inl (by omega))⟩
theorem TT.later (h : TT w0 X g gt mg B b v rs n D s W) (hb : Below W.heap.size W W') : TT w0 X g gt mg B b v rs n D s W' := h.next (grown_of_below hb _) (h.rd.after hb)
theorem TT.bare (h : TT w0 X g gt mg B b v rs n D s W) : CR W X g s := h.rd.weaken (fun k _ hk => .inl hk)
/-- A block of its own turns. -/
theorem TT.turn {q : Nat} (h : TT w0 X g gt mg B b v rs n D s W) (c : Ch (fun k => k = q) W W') (hq : q = gt ∨ q = mg) {b' n' : Nat} {D' : DataW Unit} (hb : Blk W' gt 102 #[.int .i64 (b' : Int), v, .map (some mg)]) (hm : W'.ownsMap Tryz.prog 9 inElem mg n' D') : TT w0 X g gt mg B b' v rs n' D' s W' := by
  have o := h.old
  have h1 := h.hgt
  have h2 := h.hmg
  obtain ⟨vals, r1, r2⟩ := h.row
  have hgr : W.grownBy W' (some q) := ⟨c.os, c.tape, c.output, c.size, fun i hi hne => c.block i hi (fun e => hne (by rw [e]))⟩
  have hq0 : w0.heap.size ≤ q ∧ q < B := by rcases hq with rfl | rfl <;> omega
  refine ⟨grown_step h.grown hgr (.inr fun k hk => by injection hk with hk; omega), o, Nat.le_trans h.size c.size, h1, h2, hb, hm, ⟨vals, own_ch r1 c (fun k hk e => ?_), fun i hi => ?_⟩, ?_⟩
  · have := (r1.lt k hk).1; omega
  · obtain ⟨u, hu, hs⟩ := r2 i hi
    exact ⟨u, hu, hs.ch c (fun k _ hk => .inl (by omega))⟩
  · exact h.rd.grown hgr (fun e => by injection e with e; omega) (fun k hk _ => by injection hk with hk; exact .inr (by omega))
/-- The base is set. -/
theorem TT.base (h : TT w0 X g gt mg B b v rs n D s W) (b' : Nat) : TT w0 X g gt mg B b' v rs n D s (W.setCell ⟨gt, 0, none⟩ (.int .i64 (b' : Int))) := by
  have c : Ch (fun k => k = gt) W (W.setCell ⟨gt, 0, none⟩ (.int .i64 (b' : Int))) := (Ch.refl (fun k => k = gt) W).setCell (p := ⟨gt, 0, none⟩) (fun _ => rfl) _
  exact h.turn c (.inl rfl) (by have := h.blk.set_ 0 (.int .i64 (b' : Int)); simpa using this) (map_ch h.map c h.hmg.2.2)
/-- A group is noted. -/
theorem TT.put {D' : DataW Unit} (h : TT w0 X g gt mg B b v rs n D s W) (c : Ch (fun k => k = mg) W W') (hm : W'.ownsMap Tryz.prog 9 inElem mg (n + 1) D') : TT w0 X g gt mg B b v rs (n + 1) D' s W' :=
  h.turn c (.inr rfl) (h.blk.ch c (fun e => h.hmg.2.2 e.symm)) hm
/-- A record more. -/
theorem TT.one {w1 w2 : World} {vals : List Value} {u v2 : Value} {x : Tx} {s1 : Cm.RS} (h : TT w0 X g gt mg B b v rs n D s W) (hr : W.ownsRow B 55 1 v rs.length vals)
    (he : ∀ i (hi : i < rs.length), ∃ u, vals[i]? = some u ∧ Sl W (fun k => k < B ∨ v.ownBlock = some k) 1 u rs[i].length (BVs rs[i]))
    (hu : w1.ownsRow W.heap.size 5 1 u x.length (BVs x)) (hg : W.grownBy w1 (some g)) (hc : CR w1 (fun k => X k ∨ w0.heap.size ≤ k) g s1)
    (happ : Appended (w1.alloc (.cells #[u] 55)) B 55 1 v (rs.length + 1) (vals ++ [u]) v2 w2) :
    TT w0 X g gt mg B b v2 (rs ++ [x]) n D s1 (w2.setCell ⟨gt, 1, none⟩ v2) := by
  have o := h.old
  have h1 := h.hgt
  have h2 := h.hmg
  have hsz := h.size
  have c1 : Ch (fun k => k = g) W w1 := Ch.of_grown hg (fun q hq _ => by injection hq with hq; exact hq.symm)
  have b2 : Below w1.heap.size w1 (w1.alloc (.cells #[u] 55)) := op_below _ _
  have hrow1 : (w1.alloc (.cells #[u] 55)).ownsRow B 55 1 v rs.length vals := own_below (own_ch hr c1 (fun q hq e => by have := (hr.lt q hq).1; omega)) b2
  have hblk1 : Blk (w1.alloc (.cells #[u] 55)) gt 102 #[.int .i64 (b : Int), v, .map (some mg)] := (h.blk.ch c1 (by omega)).alloc _
  have hmap1 := map_ch (map_ch h.map c1 (by omega)) (Ch.of_below (S := fun _ => False) b2 (Nat.le_refl _)) (fun h => h)
  have hff := own_far hrow1 hblk1 (by decide)
  have hmf := map_row hmap1 hrow1
  obtain ⟨ha, hgr, hv⟩ := happ
  have c3 : Ch (fun k => v.ownBlock = some k) (w1.alloc (.cells #[u] 55)) w2 := Ch.of_grown hgr (fun q hq _ => hq)
  have s1 := hg.size
  have s2 := b2.size
  have s3 := hgr.size
  have c4 : Ch (fun k => k = gt) w2 (w2.setCell ⟨gt, 1, none⟩ v2) := (Ch.refl (fun k => k = gt) w2).setCell (p := ⟨gt, 1, none⟩) (fun _ => rfl) _
  have s4 := c4.size
  have hvB : ∀ q, v.ownBlock = some q → B ≤ q ∧ q < W.heap.size := fun q hq => hr.lt q hq
  have hrd1 := (hc.after b2).grown hgr (fun e => by have := (hvB g e.symm).1; omega) (fun k hk _ => .inr (by have := (hvB k hk).1; omega))
  have gr4 : w2.grownBy (w2.setCell ⟨gt, 1, none⟩ v2) (some gt) := ⟨c4.os, c4.tape, c4.output, c4.size, fun i hi hne => c4.block i hi (fun e => hne (by rw [e]))⟩
  refine ⟨?_, o, by omega, h1, h2, ?_, map_ch (map_ch hmap1 c3 (fun e => hmf e)) c4 (by omega), ⟨vals ++ [u], ?_, fun i hi => ?_⟩, ?_⟩
  · exact grown_step (grown_step (grown_below (h.grown.trans hg) b2) hgr (.inr fun k hk => by have := (hvB k hk).1; omega)) gr4 (.inr fun k hk => by injection hk with hk; omega)
  · have := (hblk1.ch c3 hff).set_ 1 v2
    simpa using this
  · have := own_ch ha c4 (fun q hq e => by
      have := (ha.lt q hq).1; omega)
    simpa using this
  · by_cases hlt : i < rs.length
    · obtain ⟨y, hy, hs⟩ := he i hlt
      refine ⟨y, by rw [List.getElem?_append_left (by have := hr.1; omega)]; exact hy, ?_⟩
      have e : (rs ++ [x])[i] = rs[i] := List.getElem_append_left hlt
      simp only [e]
      have hs1 := (((hs.ch c1 (fun k _ hk => .inl (by omega))).after b2).old (Nat.le_refl _)).ch c3 (fun k _ hk => .inl (.inr hk))
      refine (hs1.weaken (Y := fun k => k < B ∨ v2.ownBlock = some k) (fun k _ hk => ?_)).ch c4 (fun k _ hk => .inl (by omega))
      rcases hk with hk | hk
      · exact .inl (.inl hk)
      · rcases hv with hv | hv
        · exact .inl (.inr (by rw [← hv]; exact hk))
        · rw [hv] at hk; injection hk with hk; exact .inr (by omega)
    · have hi' : i = rs.length := by simp only [List.length_append, List.length_singleton] at hi; omega
      subst hi'
      refine ⟨u, by rw [List.getElem?_append_right (by have := hr.1; omega), show rs.length - vals.length = 0 by have := hr.1; omega]; rfl, ?_⟩
      have e : (rs ++ [x])[rs.length] = x := by simp
      simp only [e]
      have hu2 := own_ch (own_below hu b2) c3 (fun q hq e => by have := (hu.lt q hq).1; have := (hvB q e).2; omega)
      refine (Sl.of_own' hu2 (X := fun k => k < B ∨ v2.ownBlock = some k) (fun q hq hX => ?_)).ch c4 (fun k _ hk => .inl (by omega))
      have hq1 := hu.lt q hq
      rcases hX with hX | hX
      · omega
      · rcases hv with hv | hv
        · have := (hvB q (by rw [← hv]; exact hX)).2; omega
        · rw [hv] at hX; injection hX with hX; have hz : (w1.alloc (.cells #[u] 55)).heap.size = w1.heap.size + 1 := by simp
          omega
  · exact hrd1.grown gr4 (fun e => by injection e with e; omega) (fun k hk _ => by injection hk with hk; exact .inr (by omega))
end
/-- At the start. -/
theorem tt_first {w w1 : World} {X : Nat → Prop} {g gt mg : Nat} {s : Cm.RS} (h : CR w X g s) (hT : ∀ (n : Tx) (R : Nat → Prop), Tg w1 (New w w1) R gt ⟨n, 0, [], []⟩ (.slice none 0 0) mg) (hb : Below w.heap.size w w1) :
    ∃ D, TT w X g gt mg w1.heap.size 0 (.slice none 0 0) [] 0 D s w1 ∧ TellsG D [] := by
  have hT := hT [] (fun _ => False)
  obtain ⟨D, hD, ht⟩ := hT.gs
  have hz : Maps.size D = 0 := gs_size hD ht List.Pairwise.nil
  rw [hz] at hD
  refine ⟨D, ⟨grown_of_below hb _, h.lt, Nat.le_refl _, hT.tg, ⟨hT.tm.1, hT.tm.2, map_far hD hT.blk⟩, hT.blk, hD, ⟨[], World.ownsRow_nil _ _ _ _, fun i hi => absurd hi (by simp)⟩, (h.old (Nat.le_refl _)).after hb⟩, ht⟩
/-- A group more, above all that are there. -/
theorem pos_snoc (acc : List Gp) (x : Gp) (s : Tx) : pos (acc ++ [x]) s = if (pos acc s).isSome then pos acc s else if x.n = s then some x.pos else none := by
  induction acc with
  | nil =>
    simp only [List.nil_append]
    rw [pos_cons]
    rfl
  | cons y acc ih =>
    rw [List.cons_append, pos_cons, pos_cons, ih]
    by_cases e : y.n = s
    · simp [e]
    · simp [e]
theorem tells_snoc {W : World} {mg n : Nat} {D : DataW Unit} {acc : List Gp} {x : Gp} (hm : W.ownsMap Tryz.prog 9 inElem mg n D) (h : TellsG D acc) (hx : ∀ y ∈ acc, y.n ≠ x.n) : TellsG (D.put (.string x.n) (.lit (.int .i64 x.pos))) (acc ++ [x]) := by
  have hno : pos acc x.n = none := pos_none.2 hx
  refine ⟨fun s => ?_, fun s j hj zd => ?_⟩
  · rw [has_put hm.isMap, pos_snoc, h.1]
    by_cases e : x.n = s
    · subst e; rw [hno]; simp
    · have : (x.n == s) = false := beq_eq_false_iff_ne.2 e
      rw [this, if_neg e, Bool.false_or]
      cases pos acc s <;> rfl
  · rw [pos_snoc] at hj
    by_cases e : x.n = s
    · subst e
      rw [hno] at hj
      simp only [Option.isSome_none, Bool.false_eq_true, if_false, if_true, Option.some.injEq] at hj
      subst hj
      exact at_put_same hm.isMap _ _ _
    · rw [if_neg e] at hj
      rw [at_put_other (fun q => e q.symm)]
      refine h.2 s j ?_ zd
      cases hp : pos acc s with
      | none => rw [hp] at hj; cases hj
      | some k => rw [hp] at hj; exact hj
end Go.Proofs.YtkoedonllfmaaaaGreat.Xc

/-
  Layer 7: the program's reading of topics: takeTopic.
-/
namespace Go.Proofs.YtkoedonllfmaaaaGreat.Xd
set_option linter.unusedSimpArgs false
open Go Go.RowKit Ck Kw Ca Cb Ce Cf Cg Ch Ci Ga Kf Km Pm Pa Pp Pz Qb Qt Tm Tn Tq Te Aa Ab Ac Ad Xa Xb Xm Xc
attribute [local go_sem ↓] Go.wp_at_zero Go.wp_at_succ
set_option linter.unusedVariables false
set_option maxRecDepth 100000

/-- What takeTopic leaves. -/
def TopicTaken (w : World) (X : Nat → Prop) (g : Nat) (r : Tp × Cm.RS) (e : Ending) (w' : World) : Prop :=
  ∃ gt mg v T R, e = .returned (.pointer (some ⟨gt, 0, none⟩)) ∧ w.grownBy w' (some g) ∧ CR w' X g r.2 ∧ (r.2.2 = 0 → Tg w' T R gt r.1 v mg) ∧ (∀ k, T k → w.heap.size ≤ k ∧ k < w'.heap.size) ∧ ∀ k, R k → w.heap.size ≤ k ∧ k < w'.heap.size ∧ ¬ T k
theorem TT.done {w W : World} {X : Nat → Prop} {g gt mg B b n : Nat} {v : Value} {rs : List Tx} {D : DataW Unit} {s : Cm.RS} {r : Tp × Cm.RS} {gs : List Gp} {nm : Tx} (h : TT w X g gt mg B b v rs n D s W) (ht : s.2 = 0 → TellsG D gs) (hr : r = (⟨nm, b, rs, gs⟩, s)) : TopicTaken w X g r (.returned (.pointer (some ⟨gt, 0, none⟩))) W := by
  subst hr
  have h1 := h.hgt
  have h2 := h.hmg
  have hsz := h.size
  obtain ⟨vals, r1, r2⟩ := h.row
  refine ⟨gt, mg, v, (fun k => k = gt ∨ k = mg ∨ v.ownBlock = some k), (fun k => B ≤ k ∧ k < W.heap.size ∧ v.ownBlock ≠ some k), rfl, h.grown, h.bare, fun hs => ⟨h.blk, ⟨vals, own_base r1 (Nat.zero_le _), fun i hi => ?_⟩, ⟨D, own_tight h.map, ht hs⟩, .inl rfl, fun k hk => .inr (.inr hk), .inr (.inl rfl)⟩, fun k hk => ?_, fun k hk => ⟨by omega, hk.2.1, fun hT => ?_⟩⟩
  · obtain ⟨u, hu, hs⟩ := r2 i hi
    refine ⟨u, hu, hs.weaken (fun k hk hR => ?_)⟩
    rcases Classical.em (v.ownBlock = some k) with e | e
    · exact .inr e
    · rcases Nat.lt_or_ge k B with q | q
      · exact .inl q
      · exact absurd ⟨q, hk, e⟩ hR
  · rcases hk with rfl | rfl | hk
    · omega
    · omega
    · have := r1.lt k hk; omega
  · rcases hT with rfl | rfl | hT
    · omega
    · omega
    · exact hk.2.2 hT
theorem gsQ_succ (next n : Nat) (a : Tx) (s : Cm.RS) (acc : List Gp) : gsQ next (n + 1) a s acc = gsQ next n (nmQ a s).1 (Cm.numS (nmQ a s).2 next).2 (acc ++ [⟨(nmQ a s).1, (Cm.numS (nmQ a s).2 next).1⟩]) := rfl
theorem wrap_u64n (z : Nat) (h : z ≤ 9007199254740992 + 64) : IntKind.u64.wrap (z : Int) = (z : Int) := by
  simp [IntKind.wrap, IntKind.bits, IntKind.signed]
  omega
theorem nm64 (a : Tx) (s : Cm.RS) : (nmQ a s).1.length ≤ 64 := by
  show (Cm.bytesS s 64).1.length ≤ 64
  by_cases h : (Cm.bytesS s 64).2.2 = 0
  · have h1 : (Cm.takeS (Cm.numS s (64 : Int).toNat).2 ((Cm.numS s (64 : Int).toNat).1 : Int)).2.2 = 0 := h
    obtain ⟨a0, a1, a2, a3⟩ := Cm.takeS_ok h1
    have h3 := Cm.numS_le s (64 : Int).toNat
    show (Cm.takeS (Cm.numS s (64 : Int).toNat).2 ((Cm.numS s (64 : Int).toNat).1 : Int)).1.length ≤ 64
    rw [a3]
    simp only [List.length_take]
    have : ((64 : Int).toNat) = 64 := rfl
    omega
  · have h1 : (Cm.takeS (Cm.numS s (64 : Int).toNat).2 ((Cm.numS s (64 : Int).toNat).1 : Int)).2.2 ≠ 0 := h
    show (Cm.takeS (Cm.numS s (64 : Int).toNat).2 ((Cm.numS s (64 : Int).toNat).1 : Int)).1.length ≤ 64
    revert h1
    unfold Cm.takeS
    repeat' split
    all_goals first | (intro _; simp; done) | (intro h; exact absurd rfl h) | (intro h; simp_all)

set_option maxHeartbeats 8000000 in
theorem ttopic_any (w : World) (X : Nat → Prop) (g : Nat) (s : Cm.RS) (nm : Tx) (h : CR w X g s) (hl : s.1.length ≤ 140737488355328) :
    Calls Tryz.prog 71 #[P_ g] w (TopicTaken w X g (tpQ nm s)) := by
  have HH := Lib.hid h
  have HT : Hid (tpQ nm s = (⟨nm, (Cm.numS s 9007199254740992).1, (rcQ (Cm.numS s 9007199254740992).2).1, (gsQ ((Cm.numS s 9007199254740992).1 + (rcQ (Cm.numS s 9007199254740992).2).1.length) (Cm.numS (nxQ (Cm.numS s 9007199254740992).1 (rcQ (Cm.numS s 9007199254740992).2).1 (rcQ (Cm.numS s 9007199254740992).2).2) 8).1 [] (Cm.numS (nxQ (Cm.numS s 9007199254740992).1 (rcQ (Cm.numS s 9007199254740992).2).1 (rcQ (Cm.numS s 9007199254740992).2).2) 8).2 []).1⟩, (gsQ ((Cm.numS s 9007199254740992).1 + (rcQ (Cm.numS s 9007199254740992).2).1.length) (Cm.numS (nxQ (Cm.numS s 9007199254740992).1 (rcQ (Cm.numS s 9007199254740992).2).1 (rcQ (Cm.numS s 9007199254740992).2).2) 8).1 [] (Cm.numS (nxQ (Cm.numS s 9007199254740992).1 (rcQ (Cm.numS s 9007199254740992).2).1 (rcQ (Cm.numS s 9007199254740992).2).2) 8).2 []).2)) := Lib.hid rfl
  have hm1 := Cm.numS_le s 9007199254740992
  have hl1 := Cm.numS_len s 9007199254740992
  obtain ⟨i0, hi0, hy0, hy1, hy2⟩ := info_parts info_rec
  clear h
  generalize tpQ nm s = TQ at *
  go_enter Tryz.func71, Tryz.ntmps71
  go_wp2_with fail
  refine (newtopic_any w).mono ?_
  rintro e w1 ⟨gt, mg, rfl, hT1, hb1⟩
  obtain ⟨D, ht1, htg⟩ := tt_first HH.out hT1 hb1
  have HS1 := Lib.hid ht1
  have HTG := Lib.hid htg
  obtain ⟨B, hB⟩ : ∃ B, B = w1.heap.size := ⟨_, rfl⟩
  rw [← hB] at HS1
  have HN1 := Lib.hid (num_any w1 _ g s HS1.out.rd 9007199254740992)
  unfold Numed at HN1
  generalize Cm.numS s 9007199254740992 = n1 at *
  obtain ⟨b, s1⟩ := n1
  simp only at HN1 HT hm1 hl1
  clear hT1 hb1 ht1 htg hB HH
  have hw1 := wrap_i64n b (by omega)
  go_wp2_with fail
  refine HN1.out.mono ?_
  rintro e w2 ⟨rfl, hg2, hc2⟩
  have HS2 := Lib.hid (HS1.out.next hg2 hc2)
  have a0 := HS2.out.blk.cell 0
  have f0 := HS2.out.blk.frozen 0
  simp only [List.getElem?_toArray, List.getElem?_cons_zero, List.getElem?_cons_succ] at a0
  clear hg2 hc2 HN1 HS1
  have HRC : Hid (rcQ s1 = allS (fun r => Cm.bytesS r 64) (Cm.numS s1 64).1 (Cm.numS s1 64).2 []) := Lib.hid rfl
  have hm2 := Cm.numS_le s1 64
  have hl2 := Cm.numS_len s1 64
  have HN2 := Lib.hid (num_any (w2.setCell ⟨gt, 0, none⟩ (.int .i64 (b : Int))) _ g s1 (HS2.out.base b).rd 64)
  unfold Numed at HN2
  generalize Cm.numS s1 64 = n2 at *
  obtain ⟨k2, s2⟩ := n2
  simp only at HN2 HRC hm2 hl2
  go_wp2_with fail
  have HS3 := Lib.hid (HS2.out.base b)
  clear HS2 a0 f0
  generalize w2.setCell ⟨gt, 0, none⟩ (.int .i64 (b : Int)) = w3 at *
  refine HN2.out.mono ?_
  rintro e w4 ⟨rfl, hg4, hc4⟩
  have HS4 := Lib.hid (HS3.out.next hg4 hc4)
  clear hg4 hc4 HN2 HS3
  go_wp2_with fail
  --CUT1
  go_loopw [14] (fun j wr => ∃ (i : Nat) (v : Value) (acc : List Tx) (s3 : Cm.RS), i ≤ k2 ∧ j = .int .u64 i ∧ acc.length = i ∧ TT w X g gt mg B b v acc 0 D s3 wr ∧ allS (fun r => Cm.bytesS r 64) k2 s2 [] = allS (fun r => Cm.bytesS r 64) (k2 - i) s3 acc ∧ s3.1.length ≤ s.1.length) (fun j _ => k2 - (intOf j).toNat)
  case atStart => exact ⟨0, _, [], s2, Nat.zero_le _, rfl, rfl, HS4.out, rfl, by omega⟩
  case round =>
    obtain ⟨i, v, acc, s3, hi, rfl, hal, hst, hall, hsl⟩ := hrel
    clear HS4
    have HST := Lib.hid hst
    have HAL := Lib.hid hal
    have HSL := Lib.hid hsl
    obtain ⟨vals, hr1, hr2⟩ := hst.row
    obtain ⟨Av, cv, rfl⟩ := own_shape hr1
    by_cases hlt : i < k2
    · have HALL : Hid (allS (fun r => Cm.bytesS r 64) k2 s2 [] = allS (fun r => Cm.bytesS r 64) (k2 - (i + 1)) (Cm.bytesS s3 64).2 (acc ++ [(Cm.bytesS s3 64).1])) := Lib.hid (by rw [hall, show k2 - i = (k2 - (i + 1)) + 1 by omega]; rfl)
      have HLN := Lib.hid (Cm.bytesS_len s3 64)
      have HB := Lib.hid (Ch.bytes_any wr.drew _ g s3 (show CR wr.drew (fun k => X k ∨ w.heap.size ≤ k) g s3 from hst.rd) 64 (by omega) (by omega) (by omega))
      unfold Taken at HB
      generalize Cm.bytesS s3 64 = q at *
      obtain ⟨x, s4⟩ := q
      simp only at HALL HLN HB
      have HR := Lib.hid (And.intro hr1 hr2)
      have q1 := hst.blk.cell 1
      simp only [List.getElem?_toArray, List.getElem?_cons_zero, List.getElem?_cons_succ] at q1
      have hge := HST.out.old
      have hgt := HST.out.hgt
      have hne : gt ≠ g := by omega
      clear hst hr1 hr2 hall hal hsl
      go_wp2_with fail
      --CUT2
      go_region_law (first
        | (go_simp; go_at_call 100; refine HB.out.mono ?_; rintro e w5 ⟨v5, rfl, ho5, hg5, hc5⟩; obtain ⟨A5, c5, rfl⟩ := own_shape ho5; have hg5 : wr.grownBy w5 (some g) := ⟨hg5.os, hg5.tape, hg5.output, hg5.size, hg5.block⟩; have ho5 : w5.ownsRow wr.heap.size 5 1 (.slice A5 x.length c5) x.length (BVs x) := ho5; have HO5 := Lib.hid (And.intro ho5 (And.intro hg5 hc5)); have HR5 := Lib.hid (own_ch HR.out.1 (Ch.of_grown hg5 (fun q hq _ => by injection hq with hq; exact hq.symm) : Ch (fun k => k = g) wr w5) (fun q hq e => by have := (HR.out.1.lt q hq).1; have := HST.out.old; have := HST.out.hgt; omega)); have q5 := (HST.out.blk.grown hg5 (by simp; exact hne)).cell 1; simp only [List.getElem?_toArray, List.getElem?_cons_zero, List.getElem?_cons_succ] at q5; have HBK5 := Lib.hid ((HST.out.blk.grown hg5 (by simp; exact hne)).alloc (.cells #[.slice A5 x.length c5] 55)); have q6 := HBK5.out.cell 1; simp only [List.getElem?_toArray, List.getElem?_cons_zero, List.getElem?_cons_succ] at q6; clear ho5 hg5 hc5)
        | (refine step_append_sh (by rfl) (.tmp 20) (.tmp 23) _ (by rfl) B 55 i0 _ 1 24 Tryz.underlying36 hi0 hy0 hy1 hy2 rfl (by omega) (.slice Av acc.length cv) acc.length vals (by rfl) (show (w5.alloc (.cells #[.slice A5 x.length c5] 55)).ownsRow B 55 1 (.slice Av acc.length cv) acc.length vals from HR5.out.alloc _) (fun _ => False) _ 1 [.slice A5 x.length c5] (by rfl) (show Sl (w5.alloc (.cells #[.slice A5 x.length c5] 55)) (fun _ => False) _ _ _ _ from one_newv w5 (fun _ => False) _ _ (fun h => h)) (by intro u hu; rw [List.mem_singleton] at hu; subst hu; rfl) (by have := HAL.out; simp only [maxLen]; omega) (by have := HAL.out; omega) (by have := HST.out.size; have := HO5.out.2.1.size; simp; omega) ?_; intro A6 c6 w6 happ; have HAP := Lib.hid happ; have b6 := HBK5.out.grown happ.2.1 (Ne.symm (own_far (HR5.out.alloc _) HBK5.out (by decide))); have g1 := b6.cell 1; have f1 := b6.frozen 1; simp only [List.getElem?_toArray, List.getElem?_cons_zero, List.getElem?_cons_succ] at g1; clear b6 happ))
      --CUT3
      all_goals
        have HS6 := Lib.hid (HST.out.one HR.out.1 HR.out.2 HO5.out.1 HO5.out.2.1 HO5.out.2.2 HAP.out)
        go_wp2
        go_roundw
        case rel => exact ⟨i + 1, _, acc ++ [x], s4, by omega, by go_num, by have := HAL.out; simp; omega, HS6.out, HALL.out, by have := HLN.out; have := HSL.out; omega⟩
        case measure => simp [intOf]; omega
    · have hin : k2 - i = 0 := by omega
      have hik : i = k2 := by omega
      rw [hin] at hall
      have HRQ : Hid (rcQ s1 = (acc, s3)) := Lib.hid (by rw [HRC.out, hall]; rfl)
      have hac : acc.length ≤ 64 := by omega
      have HTQ : Hid (TQ = (⟨nm, b, acc, (gsQ (b + acc.length) (Cm.numS (nxQ b acc s3) 8).1 [] (Cm.numS (nxQ b acc s3) 8).2 []).1⟩, (gsQ (b + acc.length) (Cm.numS (nxQ b acc s3) 8).1 [] (Cm.numS (nxQ b acc s3) 8).2 []).2)) := Lib.hid (by rw [HT.out, HRQ.out])
      have HNX := Lib.hid (next_raw wr gt mg b Av cv acc.length hst.blk (by omega) hac)
      have HNB : Hid (b + acc.length ≤ 9007199254740992 + 64) := Lib.hid (by omega)
      clear hst hr1 hr2 hall hal hsl HT HRC HRQ hin
      obtain ⟨nx, hnx⟩ : ∃ nx, nx = b + acc.length := ⟨_, rfl⟩
      rw [← hnx] at HNX HTQ HNB
      have HNE := Lib.hid hnx
      clear hnx
      go_wp2_with fail
      refine HNX.out.mono ?_
      rintro e w5 ⟨rfl, hb5⟩
      have HS5 := Lib.hid (HST.out.later hb5)
      clear hb5 HNX HST
      generalize wr = wo at *
      by_cases hov : nx ≤ 9007199254740992
      · have hov' : (nx : Int) ≤ 9007199254740992 := by omega
        have hnxq : nxQ b acc s3 = s3 := by rw [nxQ, if_pos (by have := HNE.out; omega)]
        rw [hnxq] at HTQ
        clear hov hnxq
        have hs6 := HS5.out
        have hsl5 := HSL.out
        clear HS5 HSL
        generalize s3 = s5 at *
        generalize w5 = w6 at *
        have HS6 := Lib.hid hs6
        have HSL5 := Lib.hid hsl5
        have hm8 := Cm.numS_le s5 8
        have hl8 := Cm.numS_len s5 8
        have HN8 := Lib.hid (num_any w6 _ g s5 HS6.out.rd 8)
        unfold Numed at HN8
        clear hs6 hsl5
        generalize Cm.numS s5 8 = n8 at *
        obtain ⟨k8, s8⟩ := n8
        simp only at hm8 hl8 HN8 HTQ
        go_wp2_with fail
        refine HN8.out.mono ?_
        rintro e w8 ⟨rfl, hg8, hc8⟩
        have HS8 := Lib.hid (HS6.out.next hg8 hc8)
        clear hg8 hc8 HN8 HS6
        go_wp2_with fail
        go_loopw [4, 35] (fun nmv j wr => ∃ (i : Nat) (a : Tx) (ac : List Gp) (D' : DataW Unit) (s9 : Cm.RS), i ≤ k8 ∧ nmv = .string ⟨a.toArray⟩ ∧ j = .int .u64 i ∧ TT w X g gt mg B b (.slice Av acc.length cv) acc i D' s9 wr ∧ gsQ nx k8 [] s8 [] = gsQ nx (k8 - i) a s9 ac ∧ (s9.2 = 0 → TellsG D' ac ∧ Low a (ac.map (·.n))) ∧ s9.1.length ≤ s.1.length) (fun _ j _ => k8 - (intOf j).toNat)
        case atStart => exact ⟨0, [], [], D, s8, Nat.zero_le _, rfl, rfl, HS8.out, rfl, fun _ => ⟨HTG.out, Low.nil _⟩, by have := HSL5.out; omega⟩
        case round =>
          obtain ⟨i, a, ac, D', s9, hi, rfl, rfl, hst, hgs, hok, hsl⟩ := hrel
          clear HS8
          have HST := Lib.hid hst
          have HOK := Lib.hid hok
          have HSL := Lib.hid hsl
          by_cases hlt : i < k8
          · have HGS : Hid (gsQ nx k8 [] s8 [] = gsQ nx (k8 - (i + 1)) (nmQ a s9).1 (Cm.numS (nmQ a s9).2 nx).2 (ac ++ [⟨(nmQ a s9).1, (Cm.numS (nmQ a s9).2 nx).1⟩])) := Lib.hid (by rw [hgs, show k8 - i = (k8 - (i + 1)) + 1 by omega, gsQ_succ])
            have HUP : Hid ((Cm.numS (nmQ a s9).2 nx).2.2 = 0 → s9.2 = 0 ∧ a < (nmQ a s9).1) := Lib.hid (fun hz => by
              have h1 := num_up hz
              have h2 := nm_up h1
              exact ⟨h2.2, h2.1⟩)
            have HL1 := Lib.hid (nm_len a s9)
            have HL2 := Lib.hid (Cm.numS_len (nmQ a s9).2 nx)
            have HL3 := Lib.hid (Cm.numS_le (nmQ a s9).2 nx)
            have HL4 := Lib.hid (nm64 a s9)
            have HTN := Lib.hid (tname_any wr _ g s9 a hst.rd (by omega))
            have HLI : Hid (i < maxLen) := Lib.hid (by simp only [maxLen]; omega)
            clear hst hgs hok hsl
            generalize nmQ a s9 = q at *
            obtain ⟨y, s10⟩ := q
            simp only at HGS HUP HL1 HL2 HL3 HL4 HTN
            have HNU := fun W (hc : CR W (fun k => X k ∨ w.heap.size ≤ k) g s10) => Lib.hid (num_any W _ g s10 hc nx)
            unfold Numed at HNU
            generalize Cm.numS s10 nx = q at *
            obtain ⟨kk, s11⟩ := q
            simp only at HGS HUP HL2 HL3 HNU
            unfold SV at HTN
            go_wp2_with fail
            refine HTN.out.mono ?_
            rintro e w10 ⟨rfl, hg10, hc10⟩
            have HS10 := Lib.hid (HST.out.next hg10 hc10)
            clear hg10 hc10 HTN HST
            have q2 := HS10.out.blk.cell 2
            simp only [List.getElem?_toArray, List.getElem?_cons_zero, List.getElem?_cons_succ] at q2
            have HKEY := Lib.hid (key_str y (by have := HL4.out; simp only [maxLen]; omega))
            have HNX := Lib.hid (next_raw w10.drew gt mg b Av cv acc.length HS10.out.blk (by omega) hac)
            rw [← HNE.out] at HNX
            have hwu := wrap_u64n nx HNB.out
            have hwi : IntKind.i64.wrap (kk : Int) = (kk : Int) := Ga.wrap64 (by omega) (by have := HL3.out; have := HNB.out; omega)
            unfold SV
            go_wp2_with fail
            go_region_held3 (fun w' => w'.cell? ⟨gt, 2, none⟩ = some (.map (some mg))) (first | exact q2 | exact q3 | exact q4 | exact q6)
              (first
                | (go_at_call 40; refine HNX.out.mono ?_; rintro e w11 ⟨rfl, hb11⟩; have hb11 : Below w10.heap.size w10 w11 := below_of_drew hb11; have HS11 := Lib.hid (HS10.out.later hb11); have q3 := HS11.out.blk.cell 2; simp only [List.getElem?_toArray, List.getElem?_cons_zero, List.getElem?_cons_succ] at q3; clear hb11)
                | (go_at_call 69; refine (HNU _ HS11.out.rd).out.mono ?_; rintro e w12 ⟨rfl, hg12, hc12⟩; have HS12 := Lib.hid (HS11.out.next hg12 hc12); have q4 := HS12.out.blk.cell 2; simp only [List.getElem?_toArray, List.getElem?_cons_zero, List.getElem?_cons_succ] at q4; obtain ⟨w13, hst13, hmap13, hturn13⟩ := HS12.out.map.store law_str Tryz.underlying100 HLI.out HKEY.out (inElem_mk (kk : Int)); have HM13 := Lib.hid (And.intro hmap13 hturn13.grown); have q6 := (HS12.out.put (Ch.of_grown hturn13.grown (fun q hq _ => (Option.some.inj hq).symm) : Ch (fun k => k = mg) w12 w13) hmap13).blk.cell 2; simp only [List.getElem?_toArray, List.getElem?_cons_zero, List.getElem?_cons_succ] at q6; clear hg12 hc12 hmap13 hturn13))
            all_goals
              go_wp2
              have HS13 := Lib.hid (HS12.out.put (Ch.of_grown HM13.out.2 (fun q hq _ => (Option.some.inj hq).symm) : Ch (fun k => k = mg) w12 w13) HM13.out.1)
              have HOK2 : Hid (s11.2 = 0 → TellsG (D'.put (.string y) (.lit (.int .i64 (kk : Int)))) (ac ++ [⟨y, (kk : Int)⟩]) ∧ Low y ((ac ++ [(⟨y, (kk : Int)⟩ : Gp)]).map (·.n))) := Lib.hid (fun hz => by
                obtain ⟨z1, z2⟩ := HUP.out hz
                obtain ⟨t1, t2⟩ := HOK.out z1
                refine ⟨tells_snoc (x := ⟨y, (kk : Int)⟩) HS10.out.map t1 (fun z hz => t2.fresh z2 _ (List.mem_map_of_mem hz)), ?_⟩
                rw [List.map_append]
                exact t2.more z2)
              go_roundw
              case rel => exact ⟨i + 1, y, ac ++ [⟨y, (kk : Int)⟩], _, s11, by omega, rfl, by go_num, HS13.out, HGS.out, HOK2.out, by have := HL1.out; have := HL2.out; have := HSL.out; omega⟩
              case measure => simp [intOf]; omega
          · have hin : k8 - i = 0 := by omega
            rw [hin] at hgs
            have HZ : Hid (TQ = (⟨nm, b, acc, ac⟩, s9)) := Lib.hid (by rw [HTQ.out, hgs]; rfl)
            clear hst hgs hok hsl hin
            go_wp2_with fail
            go_ret
            exact TT.done HST.out (fun hz => (HOK.out hz).1) HZ.out
      · have hov' : (9007199254740992 : Int) < (nx : Int) := by omega
        have hnxq : nxQ b acc s3 = Cm.failS s3 70 := by rw [nxQ, if_neg (by have := HNE.out; omega)]
        rw [hnxq] at HTQ
        have HF := Lib.hid (fail_any w5 _ g s3 HS5.out.rd 70)
        clear hov hnxq
        go_wp2_with fail
        refine HF.out.mono ?_
        rintro e w6 ⟨rfl, hg6, hc6⟩
        have hs6 := HS5.out.next hg6 hc6
        have hsl5 := Nat.le_trans (fail_len s3 70) HSL.out
        clear HS5 HSL HF hg6 hc6
        generalize Cm.failS s3 70 = s5 at *
        have HS6 := Lib.hid hs6
        have HSL5 := Lib.hid hsl5
        have hm8 := Cm.numS_le s5 8
        have hl8 := Cm.numS_len s5 8
        have HN8 := Lib.hid (num_any w6 _ g s5 HS6.out.rd 8)
        unfold Numed at HN8
        clear hs6 hsl5
        generalize Cm.numS s5 8 = n8 at *
        obtain ⟨k8, s8⟩ := n8
        simp only at hm8 hl8 HN8 HTQ
        go_wp2_with fail
        refine HN8.out.mono ?_
        rintro e w8 ⟨rfl, hg8, hc8⟩
        have HS8 := Lib.hid (HS6.out.next hg8 hc8)
        clear hg8 hc8 HN8 HS6
        go_wp2_with fail
        go_loopw [4, 35] (fun nmv j wr => ∃ (i : Nat) (a : Tx) (ac : List Gp) (D' : DataW Unit) (s9 : Cm.RS), i ≤ k8 ∧ nmv = .string ⟨a.toArray⟩ ∧ j = .int .u64 i ∧ TT w X g gt mg B b (.slice Av acc.length cv) acc i D' s9 wr ∧ gsQ nx k8 [] s8 [] = gsQ nx (k8 - i) a s9 ac ∧ (s9.2 = 0 → TellsG D' ac ∧ Low a (ac.map (·.n))) ∧ s9.1.length ≤ s.1.length) (fun _ j _ => k8 - (intOf j).toNat)
        case atStart => exact ⟨0, [], [], D, s8, Nat.zero_le _, rfl, rfl, HS8.out, rfl, fun _ => ⟨HTG.out, Low.nil _⟩, by have := HSL5.out; omega⟩
        case round =>
          obtain ⟨i, a, ac, D', s9, hi, rfl, rfl, hst, hgs, hok, hsl⟩ := hrel
          clear HS8
          have HST := Lib.hid hst
          have HOK := Lib.hid hok
          have HSL := Lib.hid hsl
          by_cases hlt : i < k8
          · have HGS : Hid (gsQ nx k8 [] s8 [] = gsQ nx (k8 - (i + 1)) (nmQ a s9).1 (Cm.numS (nmQ a s9).2 nx).2 (ac ++ [⟨(nmQ a s9).1, (Cm.numS (nmQ a s9).2 nx).1⟩])) := Lib.hid (by rw [hgs, show k8 - i = (k8 - (i + 1)) + 1 by omega, gsQ_succ])
            have HUP : Hid ((Cm.numS (nmQ a s9).2 nx).2.2 = 0 → s9.2 = 0 ∧ a < (nmQ a s9).1) := Lib.hid (fun hz => by
              have h1 := num_up hz
              have h2 := nm_up h1
              exact ⟨h2.2, h2.1⟩)
            have HL1 := Lib.hid (nm_len a s9)
            have HL2 := Lib.hid (Cm.numS_len (nmQ a s9).2 nx)
            have HL3 := Lib.hid (Cm.numS_le (nmQ a s9).2 nx)
            have HL4 := Lib.hid (nm64 a s9)
            have HTN := Lib.hid (tname_any wr _ g s9 a hst.rd (by omega))
            have HLI : Hid (i < maxLen) := Lib.hid (by simp only [maxLen]; omega)
            clear hst hgs hok hsl
            generalize nmQ a s9 = q at *
            obtain ⟨y, s10⟩ := q
            simp only at HGS HUP HL1 HL2 HL3 HL4 HTN
            have HNU := fun W (hc : CR W (fun k => X k ∨ w.heap.size ≤ k) g s10) => Lib.hid (num_any W _ g s10 hc nx)
            unfold Numed at HNU
            generalize Cm.numS s10 nx = q at *
            obtain ⟨kk, s11⟩ := q
            simp only at HGS HUP HL2 HL3 HNU
            unfold SV at HTN
            go_wp2_with fail
            refine HTN.out.mono ?_
            rintro e w10 ⟨rfl, hg10, hc10⟩
            have HS10 := Lib.hid (HST.out.next hg10 hc10)
            clear hg10 hc10 HTN HST
            have q2 := HS10.out.blk.cell 2
            simp only [List.getElem?_toArray, List.getElem?_cons_zero, List.getElem?_cons_succ] at q2
            have HKEY := Lib.hid (key_str y (by have := HL4.out; simp only [maxLen]; omega))
            have HNX := Lib.hid (next_raw w10.drew gt mg b Av cv acc.length HS10.out.blk (by omega) hac)
            rw [← HNE.out] at HNX
            have hwu := wrap_u64n nx HNB.out
            have hwi : IntKind.i64.wrap (kk : Int) = (kk : Int) := Ga.wrap64 (by omega) (by have := HL3.out; have := HNB.out; omega)
            unfold SV
            go_wp2_with fail
            go_region_held3 (fun w' => w'.cell? ⟨gt, 2, none⟩ = some (.map (some mg))) (first | exact q2 | exact q3 | exact q4 | exact q6)
              (first
                | (go_at_call 40; refine HNX.out.mono ?_; rintro e w11 ⟨rfl, hb11⟩; have hb11 : Below w10.heap.size w10 w11 := below_of_drew hb11; have HS11 := Lib.hid (HS10.out.later hb11); have q3 := HS11.out.blk.cell 2; simp only [List.getElem?_toArray, List.getElem?_cons_zero, List.getElem?_cons_succ] at q3; clear hb11)
                | (go_at_call 69; refine (HNU _ HS11.out.rd).out.mono ?_; rintro e w12 ⟨rfl, hg12, hc12⟩; have HS12 := Lib.hid (HS11.out.next hg12 hc12); have q4 := HS12.out.blk.cell 2; simp only [List.getElem?_toArray, List.getElem?_cons_zero, List.getElem?_cons_succ] at q4; obtain ⟨w13, hst13, hmap13, hturn13⟩ := HS12.out.map.store law_str Tryz.underlying100 HLI.out HKEY.out (inElem_mk (kk : Int)); have HM13 := Lib.hid (And.intro hmap13 hturn13.grown); have q6 := (HS12.out.put (Ch.of_grown hturn13.grown (fun q hq _ => (Option.some.inj hq).symm) : Ch (fun k => k = mg) w12 w13) hmap13).blk.cell 2; simp only [List.getElem?_toArray, List.getElem?_cons_zero, List.getElem?_cons_succ] at q6; clear hg12 hc12 hmap13 hturn13))
            all_goals
              go_wp2
              have HS13 := Lib.hid (HS12.out.put (Ch.of_grown HM13.out.2 (fun q hq _ => (Option.some.inj hq).symm) : Ch (fun k => k = mg) w12 w13) HM13.out.1)
              have HOK2 : Hid (s11.2 = 0 → TellsG (D'.put (.string y) (.lit (.int .i64 (kk : Int)))) (ac ++ [⟨y, (kk : Int)⟩]) ∧ Low y ((ac ++ [(⟨y, (kk : Int)⟩ : Gp)]).map (·.n))) := Lib.hid (fun hz => by
                obtain ⟨z1, z2⟩ := HUP.out hz
                obtain ⟨t1, t2⟩ := HOK.out z1
                refine ⟨tells_snoc (x := ⟨y, (kk : Int)⟩) HS10.out.map t1 (fun z hz => t2.fresh z2 _ (List.mem_map_of_mem hz)), ?_⟩
                rw [List.map_append]
                exact t2.more z2)
              go_roundw
              case rel => exact ⟨i + 1, y, ac ++ [⟨y, (kk : Int)⟩], _, s11, by omega, rfl, by go_num, HS13.out, HGS.out, HOK2.out, by have := HL1.out; have := HL2.out; have := HSL.out; omega⟩
              case measure => simp [intOf]; omega
          · have hin : k8 - i = 0 := by omega
            rw [hin] at hgs
            have HZ : Hid (TQ = (⟨nm, b, acc, ac⟩, s9)) := Lib.hid (by rw [HTQ.out, hgs]; rfl)
            clear hst hgs hok hsl hin
            go_wp2_with fail
            go_ret
            exact TT.done HST.out (fun hz => (HOK.out hz).1) HZ.out
end Go.Proofs.YtkoedonllfmaaaaGreat.Xd
