/-
  Layer 6 (op): the contract of Clone.
-/
import Derived.Test.YtkoedonllfmaaaaGreatVP14
import Derived.Test.YtkoedonllfmaaaaGreatVP13
import Derived.Outline
import Derived.Test.YtkoedonllfmaaaaGreatVP08
namespace Go.Proofs.YtkoedonllfmaaaaGreat.Qg
set_option linter.unusedSimpArgs false
open Go Go.RowKit Ck Kw Ca Cb Ce Cf Cg Ch Ci Cj Cn Co Kx Pm Pa Pe Pf Pg Ph Ppi Pj Pk Pl Pp Py Qb Qs Qd
attribute [local go_sem ↓] Go.wp_at_zero Go.wp_at_succ
set_option linter.unusedVariables false

/-- A row of records of one's own: the first k of them clones, the others as they were. -/
structure CL (w0 : World) (v : Value) (recs : List Tx) (vals : List Value) (k : Nat) (W : World) : Prop where
  below : Below w0.heap.size w0 W
  row : W.ownsRow w0.heap.size 55 1 v recs.length vals
  mine : ∀ i (hi : i < recs.length), i < k → ∃ u, vals[i]? = some u ∧ W.ownsRow w0.heap.size 5 1 u recs[i].length (BVs recs[i])
  rest : ∀ i (hi : i < recs.length), k ≤ i → ∃ u, vals[i]? = some u ∧ Sl W (fun q => w0.heap.size ≤ q) 1 u recs[i].length (BVs recs[i])
variable {w0 W W' : World} {v : Value} {recs : List Tx} {vals : List Value} {k : Nat}
theorem CL.later (h : CL w0 v recs vals k W) (hb : Below W.heap.size W W') : CL w0 v recs vals k W' :=
  ⟨h.below.trans (hb.mono h.below.size), own_below h.row hb, fun i hi hk => by
    obtain ⟨u, hu, ho⟩ := h.mine i hi hk
    exact ⟨u, hu, own_below ho hb⟩, fun i hi hk => by
    obtain ⟨u, hu, ho⟩ := h.rest i hi hk
    exact ⟨u, hu, ho.after hb⟩⟩
/-- The row's value, and the record at k. -/
theorem CL.at_ (h : CL w0 v recs vals k W) (hk : k < recs.length) :
    ∃ g c u, v = .slice (some ⟨g, 0, none⟩) recs.length c ∧ vals[k]? = some u ∧ W.cell? ⟨g, k, none⟩ = some u ∧ W.frozen? ⟨g, k, none⟩ = false ∧ Sl W (fun q => w0.heap.size ≤ q) 1 u recs[k].length (BVs recs[k]) := by
  obtain ⟨g, c, rfl, hb, hlt⟩ := h.row.form (by omega)
  obtain ⟨u, hu, hs⟩ := h.rest k hk (Nat.le_refl _)
  exact ⟨g, c, u, rfl, hu, by rw [h.row.cellAt k (by omega), hu], h.row.frozenAt k, hs⟩
theorem own_types {g c n : Nat} {xs : List Value} {t : TypeId} {base m : Nat} {u : Value} {ys : List Value} {t' : TypeId} (h : W.ownsRow base t 1 (.slice (some ⟨g, 0, none⟩) n c) n xs) (h' : W.ownsRow base t' 1 u m ys) (ht : t ≠ t') : u.ownBlock ≠ some g := by
  rcases h'.2 with ⟨rfl, _⟩ | ⟨g', cap', cur', rfl, _, hg', _⟩
  · simp [Value.ownBlock]
  · rcases h.2 with ⟨hn, _⟩ | ⟨g2, cap2, cur2, hv, _, hg2, _⟩
    · simp at hn
    · simp only [Value.slice.injEq, Option.some.injEq, Addr.mk.injEq, and_true] at hv
      obtain ⟨rfl, _⟩ := hv
      simp only [Value.ownBlock, ne_eq, Option.some.injEq]
      rintro rfl
      rw [hg2] at hg'
      simp only [Option.some.injEq, Obj.cells.injEq] at hg'
      exact ht hg'.2.1
theorem CL.step {g c : Nat} {u : Value} (h : CL w0 (.slice (some ⟨g, 0, none⟩) recs.length c) recs vals k W) (hk : k < recs.length) (hu : W.ownsRow w0.heap.size 5 1 u recs[k].length (BVs recs[k])) :
    CL w0 (.slice (some ⟨g, 0, none⟩) recs.length c) recs (vals.set k u) (k + 1) (W.setCell ⟨g, k, none⟩ u) := by
  have hst := h.row.stored k u
  have hvl : vals.length = recs.length := by have := h.row.1; omega
  have hgb : w0.heap.size ≤ g := by
    obtain ⟨g', c', hv, hb, _⟩ := h.row.form (by omega)
    simp only [Value.slice.injEq, Option.some.injEq, Addr.mk.injEq, and_true] at hv
    omega
  refine ⟨h.below.grown hst.2 h.below.size (fun q hq => by injection hq with hq; omega), hst.1, fun i hi hik => ?_, fun i hi hik => ?_⟩
  · by_cases he : i = k
    · subst he
      exact ⟨u, by rw [List.getElem?_set_self (by omega)], hu.kept hst.2 (by
        have := own_types h.row hu (by decide)
        first | exact this | (intro h1; exact this h1) | (cases hq : u.ownBlock <;> simp_all))⟩
    · obtain ⟨u', hu', ho⟩ := h.mine i hi (by omega)
      exact ⟨u', by rw [List.getElem?_set_ne (fun q => he q.symm)]; exact hu', ho.kept hst.2 (by
        have := own_types h.row ho (by decide)
        first | exact this | (intro h1; exact this h1) | (cases hq : u'.ownBlock <;> simp_all))⟩
  · obtain ⟨u', hu', ho⟩ := h.rest i hi (by omega)
    exact ⟨u', by rw [List.getElem?_set_ne (by omega)]; exact hu', ho.grown hst.2 (fun q hq _ => by injection hq with hq; show w0.heap.size ≤ q; omega)⟩
/-- A clone, and what is one's own of it. -/
def Cloned (w : World) (o : O) (e : Ending) (w' : World) : Prop := ∃ A c vals, e = .returned (OV o A c) ∧ CL w (.slice A o.recs.length c) o.recs vals o.recs.length w'
theorem CL.ls {A : Option Addr} {c : Nat} (h : CL w0 (.slice A recs.length c) recs vals recs.length W) : Ls W (fun q => q < w0.heap.size) (.slice A recs.length c) recs :=
  ⟨vals, Sl.of_own h.row (fun q h1 _ h2 => by omega), fun i hi => by
    obtain ⟨u, hu, ho⟩ := h.mine i hi hi
    exact ⟨u, hu, Sl.of_own ho (fun q h1 _ h2 => by omega)⟩⟩

theorem own_blk {g g' c n : Nat} {xs : List Value} {t t' : TypeId} {base : Nat} {cs : Array Value} (h : W.ownsRow base t 1 (.slice (some ⟨g, 0, none⟩) n c) n xs) (h' : Blk W g' t' cs) (ht : t ≠ t') : g' ≠ g := by
  rcases h.2 with ⟨hn, _⟩ | ⟨g2, cap2, cur2, hv, _, hg2, _⟩
  · simp at hn
  · simp only [Value.slice.injEq, Option.some.injEq, Addr.mk.injEq, and_true] at hv
    obtain ⟨rfl, _⟩ := hv
    rintro rfl
    have hb : W.heap[g']? = some (.cells cs t' (0, 0)) := h'
    rw [hg2] at hb
    simp only [Option.some.injEq, Obj.cells.injEq] at hb
    exact ht hb.2.1
/-- The operation's own copy. -/
structure SK (w0 : World) (o : O) (A : Option Addr) (c : Nat) (W : World) : Prop where
  below : Below w0.heap.size w0 W
  op : OB W w0.heap.size o A c
  res : Blk W (w0.heap.size + 1) 38 Z5
  ls : Ls W (fun k => w0.heap.size ≤ k) (.slice A o.recs.length c) o.recs
variable {o : O} {A : Option Addr} {c : Nat}
theorem SK.later (h : SK w0 o A c W) (hb : Below W.heap.size W W') : SK w0 o A c W' := ⟨h.below.trans (hb.mono h.below.size), Blk.below h.op hb (Blk.lt h.op), Blk.below h.res hb (Blk.lt h.res), h.ls.after hb⟩
theorem sk_new {X : Nat → Prop} (hls : Ls w0 X (.slice A o.recs.length c) o.recs) : SK w0 o A c ((w0.alloc (.cells (OC o A c) 38)).alloc (.cells Z5 38)) := by
  have hz : (w0.alloc (.cells (OC o A c) 38)).heap.size = w0.heap.size + 1 := by simp
  refine ⟨(al_below _ _).trans ((al_below _ _).mono (by omega)), Blk.below (Blk.new _ _ _) (al_below _ _) (by omega), by rw [← hz]; exact Blk.new _ _ _, ((hls.old' (Nat.le_refl _)).after (al_below _ _)).after (al_below _ _)⟩
theorem SK.put (h : SK w0 o A c W) (i : Nat) (u : Value) (hcs : (OC o A c).setIfInBounds i u = OC o A c) : SK w0 o A c (W.setCell ⟨w0.heap.size, i, none⟩ u) := by
  have n0 := h.below.size
  have cg : W.grownBy (W.setCell ⟨w0.heap.size, i, none⟩ u) (some w0.heap.size) := grown_setCell (World.grownBy.refl W (some w0.heap.size)) (p := ⟨w0.heap.size, i, none⟩) (.inl rfl) u
  refine ⟨h.below.grown cg n0 (fun q hq => by injection hq with hq; omega), ?_, Blk.grown h.res cg (by simp), h.ls.grown cg (fun q hq _ => by injection hq with hq; show w0.heap.size ≤ q; omega)⟩
  have := Blk.set_ h.op i u
  rw [hcs] at this
  exact this
/-- The copy, and the row of its records. -/
structure LP (w0 : World) (o : O) (A : Option Addr) (c : Nat) (vals : List Value) (k : Nat) (W : World) : Prop where
  op : OB W w0.heap.size o A c
  res : Blk W (w0.heap.size + 1) 38 Z5
  cl : CL w0 (.slice A o.recs.length c) o.recs vals k W
theorem LP.later (h : LP w0 o A c vals k W) (hb : Below W.heap.size W W') : LP w0 o A c vals k W' := ⟨Blk.below h.op hb (Blk.lt h.op), Blk.below h.res hb (Blk.lt h.res), h.cl.later hb⟩
theorem lp_start {A' : Option Addr} {c' : Nat} (h : SK w0 o A c W) (hrow : W'.ownsRow W.heap.size 55 1 (.slice A' o.recs.length c') o.recs.length vals) (hv : ∀ i (hi : i < o.recs.length), ∃ u, vals[i]? = some u ∧ Sl W (fun k => w0.heap.size ≤ k) 1 u o.recs[i].length (BVs o.recs[i])) (hb : Below W.heap.size W W') :
    LP w0 o A' c' vals 0 (W'.setCell ⟨w0.heap.size, 4, none⟩ (.slice A' o.recs.length c')) := by
  have n0 := h.below.size
  have h' := h.later hb
  have n1 := Blk.lt h.op
  have cg : W'.grownBy (W'.setCell ⟨w0.heap.size, 4, none⟩ (.slice A' o.recs.length c')) (some w0.heap.size) := grown_setCell (World.grownBy.refl W' (some w0.heap.size)) (p := ⟨w0.heap.size, 4, none⟩) (.inl rfl) _
  refine ⟨Blk.set_ h'.op 4 _, Blk.grown h'.res cg (by simp), h'.below.grown cg h'.below.size (fun q hq => by injection hq with hq; omega), own_base (ownsRow_setCell_below hrow (a := ⟨w0.heap.size, 4, none⟩) n1 _) n0, fun i hi hk => absurd hk (by omega), fun i hi _ => ?_⟩
  obtain ⟨u, hu, hs⟩ := hv i hi
  exact ⟨u, hu, (hs.after hb).grown cg (fun q hq _ => by injection hq with hq; show w0.heap.size ≤ q; omega)⟩
theorem LP.slot {g : Nat} (h : LP w0 o (some ⟨g, 0, none⟩) c vals k W) (hk : k < o.recs.length) : (∃ u, W.cell? ⟨g, k, none⟩ = some u) ∧ W.frozen? ⟨g, k, none⟩ = false := by
  obtain ⟨g', cc, u, hv, hu, hc, hf, hs⟩ := h.cl.at_ hk
  simp only [Value.slice.injEq, Option.some.injEq, Addr.mk.injEq, and_true, true_and] at hv
  obtain ⟨rfl, rfl⟩ := hv
  exact ⟨⟨u, hc⟩, hf⟩
theorem LP.step {g : Nat} {u : Value} (h : LP w0 o (some ⟨g, 0, none⟩) c vals k W) (hk : k < o.recs.length) (hu : W.ownsRow w0.heap.size 5 1 u o.recs[k].length (BVs o.recs[k])) :
    LP w0 o (some ⟨g, 0, none⟩) c (vals.set k u) (k + 1) (W.setCell ⟨g, k, none⟩ u) := by
  have hne := own_blk h.cl.row h.op (by decide)
  have hne2 := own_blk h.cl.row h.res (by decide)
  have cg : W.grownBy (W.setCell ⟨g, k, none⟩ u) (some g) := grown_setCell (World.grownBy.refl W (some g)) (p := ⟨g, k, none⟩) (.inl rfl) _
  exact ⟨Blk.grown h.op cg (by simp; exact hne), Blk.grown h.res cg (by simp; exact hne2), h.cl.step hk hu⟩

theorem own_blk' {g' n : Nat} {u : Value} {xs : List Value} {t t' : TypeId} {base : Nat} {cs : Array Value} (h : W.ownsRow base t 1 u n xs) (h' : Blk W g' t' cs) (ht : t ≠ t') : u.ownBlock ≠ some g' := by
  rcases h.2 with ⟨rfl, _⟩ | ⟨g2, cap2, cur2, rfl, _, hg2, _⟩
  · simp [Value.ownBlock]
  · simp only [Value.ownBlock, ne_eq, Option.some.injEq]
    rintro rfl
    have hb : W.heap[g2]? = some (.cells cs t' (0, 0)) := h'
    rw [hg2] at hb
    simp only [Option.some.injEq, Obj.cells.injEq] at hb
    exact ht hb.2.1
theorem LP.fin (h : LP w0 o A c vals o.recs.length W) (x0 x1 x2 x3 x4 : Value) :
    Cloned w0 o (.returned (.agg #[.int .i64 o.kind, .string ⟨o.topic.toArray⟩, .string ⟨o.group.toArray⟩, .int .i64 o.off, .slice A o.recs.length c])) (((((W.setCell ⟨w0.heap.size + 1, 0, none⟩ x0).setCell ⟨w0.heap.size + 1, 1, none⟩ x1).setCell ⟨w0.heap.size + 1, 2, none⟩ x2).setCell ⟨w0.heap.size + 1, 3, none⟩ x3).setCell ⟨w0.heap.size + 1, 4, none⟩ x4) := by
  have cg : W.grownBy (((((W.setCell ⟨w0.heap.size + 1, 0, none⟩ x0).setCell ⟨w0.heap.size + 1, 1, none⟩ x1).setCell ⟨w0.heap.size + 1, 2, none⟩ x2).setCell ⟨w0.heap.size + 1, 3, none⟩ x3).setCell ⟨w0.heap.size + 1, 4, none⟩ x4) (some (w0.heap.size + 1)) :=
    grown_setCell (grown_setCell (grown_setCell (grown_setCell (grown_setCell (World.grownBy.refl W (some (w0.heap.size + 1))) (p := ⟨w0.heap.size + 1, 0, none⟩) (.inl rfl) x0) (p := ⟨w0.heap.size + 1, 1, none⟩) (.inl rfl) x1) (p := ⟨w0.heap.size + 1, 2, none⟩) (.inl rfl) x2) (p := ⟨w0.heap.size + 1, 3, none⟩) (.inl rfl) x3) (p := ⟨w0.heap.size + 1, 4, none⟩) (.inl rfl) x4
  refine ⟨A, c, vals, rfl, h.cl.below.grown cg h.cl.below.size (fun q hq => by injection hq with hq; omega), h.cl.row.kept cg (by
        have := own_blk' h.cl.row h.res (by decide)
        first | exact this | (intro h1; exact this h1) | (cases hq : (Value.slice A o.recs.length c).ownBlock <;> simp_all)), fun i hi hk => ?_, fun i hi hk => absurd hi (by omega)⟩
  obtain ⟨u, hu, ho⟩ := h.cl.mine i hi hk
  exact ⟨u, hu, ho.kept cg (by
        have := own_blk' ho h.res (by decide)
        first | exact this | (intro h1; exact this h1) | (cases hq : u.ownBlock <;> simp_all))⟩

set_option maxRecDepth 100000 in
set_option maxHeartbeats 8000000 in
theorem clone_any (w : World) (o : O) (X : Nat → Prop) (A : Option Addr) (c : Nat) (hls : Ls w X (.slice A o.recs.length c) o.recs) (hlo : far o 140737488351232) :
    Calls Tryz.prog 43 #[OV o A c] w (Cloned w o) := by
  have HK0 := Lib.hid (sk_new hls)
  have HLO := Lib.hid hlo
  have LT : Hid (o.topic.length ≤ 140737488355328) := Lib.hid (by have := hlo.1; omega)
  have LG : Hid (o.group.length ≤ 140737488355328) := Lib.hid (by have := hlo.2.1; omega)
  have LR : Hid (o.recs.length * 24 ≤ 140737488355328) := Lib.hid (by have := hlo.2.2.1; omega)
  have LE : Hid (∀ i (hi : i < o.recs.length), o.recs[i].length ≤ 140737488355328) := Lib.hid (fun i hi => by have := hlo.2.2.2 _ (List.getElem_mem hi); omega)
  clear hls hlo
  have HS1 : Hid (∀ W : World, Calls Tryz.prog 82 #[.string ⟨o.topic.toArray⟩] W fun e w' => e = .returned (.string ⟨o.topic.toArray⟩) ∧ Below W.heap.size W w') := Lib.hid fun W => sclone_any o.topic W LT.out
  have HS2 : Hid (∀ W : World, Calls Tryz.prog 82 #[.string ⟨o.group.toArray⟩] W fun e w' => e = .returned (.string ⟨o.group.toArray⟩) ∧ Below W.heap.size W w') := Lib.hid fun W => sclone_any o.group W LG.out
  unfold OV
  unfold OC Z5 at HK0
  go_enter Tryz.func43, Tryz.ntmps43
  obtain ⟨a0, a1, a2, a3, a4⟩ := OB.cells' HK0.out.op
  go_wp2_with fail
  refine (HS1.out _).mono ?_
  rintro e w1 ⟨rfl, hb1⟩
  have HK1 := Lib.hid (HK0.out.later hb1)
  have HK1' := Lib.hid (HK1.out.put 1 (.string ⟨o.topic.toArray⟩) rfl)
  clear hb1 a0 a1 a2 a3 a4
  obtain ⟨a0, a1, a2, a3, a4⟩ := OB.cells' HK1.out.op
  have f1 := Blk.frozen HK1.out.op 1
  obtain ⟨b0, b1, b2, b3, b4⟩ := OB.cells' HK1'.out.op
  go_wp2_with fail
  refine (HS2.out _).mono ?_
  rintro e w2 ⟨rfl, hb2⟩
  have HK2 := Lib.hid (HK1'.out.later hb2)
  have HK2' := Lib.hid (HK2.out.put 2 (.string ⟨o.group.toArray⟩) rfl)
  clear hb2 a0 a1 a2 a3 a4 b0 b1 b2 b3 b4 f1
  obtain ⟨a0, a1, a2, a3, a4⟩ := OB.cells' HK2.out.op
  have f2 := Blk.frozen HK2.out.op 2
  obtain ⟨b0, b1, b2, b3, b4⟩ := OB.cells' HK2'.out.op
  have HRC := Lib.hid (rclone_any _ _ A c o.recs HK2'.out.ls LR.out)
  go_wp2_with fail
  refine HRC.out.mono ?_
  rintro e w3 ⟨v3, vals, rfl, hown3, hvs3, hb3⟩
  obtain ⟨A3, c3, rfl⟩ := own_shape hown3
  have HK3 := Lib.hid (HK2'.out.later hb3)
  have HL3 := Lib.hid (lp_start HK2'.out hown3 hvs3 hb3)
  clear hown3 hvs3 hb3 a0 a1 a2 a3 a4 b0 b1 b2 b3 b4 f2
  obtain ⟨a0, a1, a2, a3, a4⟩ := OB.cells' HK3.out.op
  have f4 := Blk.frozen HK3.out.op 4
  obtain ⟨b0, b1, b2, b3, b4⟩ := OB.cells' HL3.out.op
  go_wp2_with fail
  clear a0 a1 a2 a3 a4 b0 b1 b2 b3 b4 f4 HK3 HRC HK2' HK2 HK1' HK1 HK0 HS1 HS2
  have hnl : o.recs.length ≤ 140737488355328 := by have := LR.out; omega
  (try go_frame)
  go_loopw [20] (fun i wr => ∃ (k : Nat) (vs : List Value), k ≤ o.recs.length ∧ i = .int .i64 k ∧ LP w o A3 c3 vs k wr) (fun i _ => o.recs.length - (intOf i).toNat)
  case atStart => exact ⟨0, vals, Nat.zero_le _, rfl, HL3.out⟩
  case round =>
    obtain ⟨k, vs, hk, rfl, hl⟩ := hrel
    clear HL3
    by_cases hlt : k < o.recs.length
    · have HLT := Lib.hid hlt
      obtain ⟨g, cc, u, hv, hu, hc, hf, hs⟩ := hl.cl.at_ hlt
      simp only [Value.slice.injEq, true_and] at hv
      obtain ⟨rfl, rfl⟩ := hv
      have HLd := Lib.hid (hl.later (below_drewN (Below.refl _ _) 1))
      have HSd := Lib.hid (hs.after (below_drewN (Below.refl _ _) 1))
      have hle := LE.out k hlt
      have HLE := Lib.hid hle
      have q4 := (OB.cells' HLd.out.op).2.2.2.2
      obtain ⟨A5, d5, rfl, -⟩ := id hs
      clear hl hs hle hu
      go_wp2_with fail
      go_region_held3 (fun w' => w'.cell? ⟨w.heap.size, 4, none⟩ = some (.slice (some ⟨g, 0, none⟩) o.recs.length c3)) (first | exact q4 | exact j4 | exact n4)
        (first
        | (go_at_call 41; refine (Cd.clone_any _ _ _ o.recs[k] _ HSd.out HLE.out).mono ?_; rintro e w4 ⟨v4, rfl, hown4, hb4⟩; obtain ⟨A4, c4, rfl⟩ := own_shape hown4; have HL4 := Lib.hid (HLd.out.later hb4); have HO4 := Lib.hid (own_base hown4 HLd.out.cl.below.size); have j4 := (OB.cells' HL4.out.op).2.2.2.2; obtain ⟨⟨u4, hc4⟩, hf4⟩ := HL4.out.slot HLT.out; have HN := Lib.hid (HL4.out.step HLT.out HO4.out); have n4 := (OB.cells' HN.out.op).2.2.2.2; clear hown4 hb4))
      all_goals
        go_wp2_with fail
        go_roundw
      all_goals first
        | exact ⟨k + 1, _, by have := HLT.out; omega, by go_num, HN.out⟩
        | (simp [intOf]; omega)
    · have hke : k = o.recs.length := by omega
      subst hke
      have HL := Lib.hid hl
      obtain ⟨b0, b1, b2, b3, b4⟩ := OB.cells' hl.op
      obtain ⟨⟨r0, r1, r2, r3, r4⟩, ⟨q0, q1, q2, q3, q4⟩⟩ := Blk.cells5 hl.res
      clear hl
      go_wp2_with fail
      refine bodyPost_ret (results_row1 rfl _ _ (w.heap.size + 1) 38 #[.int .i64 o.kind, .string ⟨o.topic.toArray⟩, .string ⟨o.group.toArray⟩, .int .i64 o.off, .slice A3 o.recs.length c3] (0, 0) _ rfl (res_blk HL.out.res _ _ _ _ _) Tryz.underlying38 rfl size_op) rfl ?_
      exact HL.out.fin _ _ _ _ _
end Go.Proofs.YtkoedonllfmaaaaGreat.Qg

/-
  Contract of the program's topics: do.
-/
namespace Go.Proofs.YtkoedonllfmaaaaGreat.Ai
set_option linter.unusedSimpArgs false
open Go Go.RowKit Ck Kw Ga Kf Km Kd Pm Pz Pe Pg Py Qb Qg Tm Tn Tq Aa Ab Ac Ad Ae Af Ag Ah
attribute [local go_sem ↓] Go.wp_at_zero Go.wp_at_succ
set_option linter.unusedVariables false

theorem small_of {o : O} (h : check o = 0) : o.topic.length ≤ 64 ∧ o.group.length ≤ 64 ∧ o.recs.length ≤ 4 ∧ (∀ x ∈ o.recs, x.length ≤ 64) ∧ (hasR o.kind = false → o.recs = []) := by
  obtain ⟨h1, h2, h3, h4⟩ := check_lens h
  obtain ⟨_, hm, _, _, _⟩ := check_ok h
  simp only [more, Bool.or_eq_false_iff, Bool.and_eq_false_iff, Bool.not_eq_false'] at hm
  obtain ⟨⟨⟨m1, m2⟩, _⟩, m4⟩ := hm
  refine ⟨?_, ?_, ?_, ?_, ?_⟩
  · rcases m1 with m | m
    · exact h1 (by simpa using m)
    · have e : o.topic = [] := List.isEmpty_iff.1 (by simpa using m)
      simp [e]
  · rcases m2 with m | m
    · exact h2 (by simpa using m)
    · have e : o.group = [] := List.isEmpty_iff.1 (by simpa using m)
      simp [e]
  · rcases m4 with m | m
    · exact (h4 (by simpa using m)).2.1
    · have e : o.recs = [] := List.isEmpty_iff.1 (by simpa using m)
      simp [e]
  · rcases m4 with m | m
    · exact (h4 (by simpa using m)).2.2.1
    · have e : o.recs = [] := List.isEmpty_iff.1 (by simpa using m)
      simp [e]
  · intro hR
    rcases m4 with m | m
    · rw [hR] at m; cases m
    · exact List.isEmpty_iff.1 (by simpa using m)
theorem far_of {o : O} (h : check o = 0) : far o 140737488351232 := by
  obtain ⟨h1, h2, h3, h4, _⟩ := small_of h
  exact ⟨by omega, by omega, by omega, fun l hl => by have := h4 l hl; omega⟩
/-- What an error leaves. -/
theorem does_err {L : List Tp} (hL : GoodL L) {o : O} (h : (doesS L o).1.1 ≠ 0) : (doesS L o).1.2 = 0 ∧ (doesS L o).2.1 = [] := by
  refine ⟨?_, ?_⟩
  · rcases (doesS_good hL o).2.2.2.2.2.2 with h' | h'
    · exact absurd h' h
    · exact h'
  · revert h
    unfold doesS
    repeat' split
    all_goals first
      | (intro h; rfl)
      | (intro h; exact absurd rfl h)
theorem does_placed {L : List Tp} {o : O} (hc : check o = 0) (h : (doesS L o).1.1 = 0) : (doesS L o).2.1 = placed o.topic (doesS L o).1.2 o.recs := by
  have hr := (small_of hc).2.2.2.2
  have e0 : o.kind ≠ 2 → o.recs = [] := fun hk => hr (by simp only [hasR, beq_eq_false_iff_ne]; exact hk)
  revert h
  unfold doesS
  split
  · rename_i h0; exact absurd hc h0
  · split
    · rename_i hk; intro _; rw [e0 (by omega)]; rfl
    · split
      · rename_i hk
        rw [e0 (by omega)]
        repeat' split
        all_goals (intro _; rfl)
      · split
        · intro h; exact absurd h (by simp)
        · split
          · split
            · intro h; exact absurd h (by simp)
            · intro _; rfl
          · rename_i hk2
            rw [e0 hk2]
            repeat' split
            all_goals (intro _; rfl)
/-- Topics s' behind a request. -/
def Applied (S R : Nat → Prop) (p : Nat) (s' : St) (B : Nat) (w w' : World) : Prop :=
  ∃ S' R', Tz w' S' R' p s' ∧ (∀ k, S' k → Up S w w' k ∧ k < B) ∧ (∀ k, R' k → Up R w w' k ∧ k < B) ∧ Ch S w w'
theorem Tz.bound {w : World} {S R : Nat → Prop} {p : Nat} {s : St} (h : Tz w S R p s) : Tz w (fun k => S k ∧ k < w.heap.size) R p s := by
  obtain ⟨m, D, G, V, M, F, h⟩ := h
  exact ⟨m, D, G, V, M, F, h.blk, ⟨h.sp, h.blk.lt⟩, h.own, h.tells, ⟨⟨h.sm.1, h.own.lt⟩, h.sm.2⟩, h.top, fun t ht k hk => ⟨⟨(h.sub t ht k hk).1, (h.sub t ht k hk).2.2.2⟩, (h.sub t ht k hk).2⟩, h.apart, fun k hk => ⟨fun hs => (h.rs k hk).1 hs.1, (h.rs k hk).2⟩, h.good⟩
theorem Tz.moreR {w : World} {S R R' : Nat → Prop} {p : Nat} {s : St} (h : Tz w S R p s) (hr : ∀ k, R k → R' k) (hs : ∀ k, R' k → ¬ S k ∧ k < w.heap.size) : Tz w S R' p s := by
  obtain ⟨m, D, G, V, M, F, h⟩ := h
  exact ⟨m, D, G, V, M, F, h.blk, h.sp, h.own, h.tells, h.sm, fun t ht => (h.top t ht).more hr (fun _ h => h), h.sub, h.apart, hs, h.good⟩
theorem applied_refl {w w' : World} {S R : Nat → Prop} {p : Nat} {s : St} (h : Tz w S R p s) (b : Below w.heap.size w w') : Applied S R p s w.heap.size w w' :=
  ⟨_, R, (Tz.bound h).later b, fun _ h => ⟨.inl h.1, h.2⟩, fun k hk => ⟨.inl hk, (Tz.rlt h k hk).2⟩, Ch.of_below b (Nat.le_refl _)⟩
/-- What do leaves. -/
def Done (S R : Nat → Prop) (p : Nat) (s : St) (o : O) (w : World) (e : Ending) (w' : World) : Prop :=
  ∃ v B, e = .returned (.tuple #[.agg #[.int .i64 (doesS s.L o).1.1, .int .i64 (doesS s.L o).1.2], v]) ∧ w.heap.size ≤ B ∧ Ps w' B v (doesS s.L o).2.1 ∧ Applied S R p ⟨(doesS s.L o).2.2, s.last⟩ B w w'
/-- do's own blocks: the operation, and the result. -/
structure DK (w : World) (o : O) (A : Option Addr) (c : Nat) (W : World) : Prop where
  below : Below w.heap.size w W
  op : OB W w.heap.size o A c
  res : Blk W (w.heap.size + 1) 30 #[.int .i64 0, .int .i64 0]
theorem DK.later {w W W' : World} {o : O} {A : Option Addr} {c : Nat} (h : DK w o A c W) (b : Below W.heap.size W W') : DK w o A c W' := ⟨h.below.trans (b.mono h.below.size), Blk.below h.op b (Blk.lt h.op), h.res.below b h.res.lt⟩
theorem DK.ch {w W W' : World} {o : O} {A : Option Addr} {c : Nat} {S : Nat → Prop} (h : DK w o A c W) (k : Ch S W W') (hs : ∀ k, S k → k < w.heap.size) : Blk W' w.heap.size 38 (OC o A c) ∧ Blk W' (w.heap.size + 1) 30 #[.int .i64 0, .int .i64 0] :=
  ⟨Blk.ch h.op k (fun e => by have := hs _ e; omega), h.res.ch k (fun e => by have := hs _ e; omega)⟩
theorem dk_new (w : World) (o : O) (A : Option Addr) (c : Nat) : DK w o A c ((w.alloc (.cells (OC o A c) 38)).alloc (.cells #[.int .i64 0, .int .i64 0] 30)) := by
  have hz : (w.alloc (.cells (OC o A c) 38)).heap.size = w.heap.size + 1 := by simp
  exact ⟨(op_below w _).trans ((op_below _ _).mono (by omega)), Blk.below (op_new w o A c) (op_below _ _) (by omega), by rw [← hz]; exact Blk.new _ _ _⟩
theorem size_res : (Tryz.prog.info? 30).map (·.size) = some 2 := by kernel_rfl
theorem blk2 {W : World} {g : Nat} {t : TypeId} {x y : Value} (h : Blk W g t #[x, y]) (u v : Value) : Blk ((W.setCell ⟨g, 0, none⟩ u).setCell ⟨g, 1, none⟩ v) g t #[u, v] := (h.set_ 0 u).set_ 1 v
theorem below2 {B : Nat} {w W : World} {g : Nat} (h : Below B w W) (hg : B ≤ g) (u v : Value) : Below B w ((W.setCell ⟨g, 0, none⟩ u).setCell ⟨g, 1, none⟩ v) := (h.setCell hg _).setCell hg _
set_option maxRecDepth 100000 in
set_option maxHeartbeats 1000000 in
theorem do_bad (w : World) (S R : Nat → Prop) (p : Nat) (s : St) (o : O) (X : Nat → Prop) (A : Option Addr) (c : Nat) (hc : check o ≠ 0) (h : Tz w S R p s) (hls : Ls w X (.slice A o.recs.length c) o.recs) (hl : o.recs.length ≤ 140737488355328) :
    Calls Tryz.prog 19 #[.pointer (some ⟨p, 0, none⟩), OV o A c] w (Done S R p s o w) := by
  have hdk := dk_new w o A c
  have HDK := Lib.hid hdk
  have HZ := Lib.hid h
  obtain ⟨a0, a1, a2, a3, a4⟩ := hdk.op.cells
  have HC := Lib.hid (check_any o _ X _ ⟨A, c, rfl, (hls.after (op_below w (.cells (OC o A c) 38))).after (op_below _ (.cells #[.int .i64 0, .int .i64 0] 30))⟩ hl)
  have HD : Hid (doesS s.L o = ((check o, 0), [], s.L)) := Lib.hid (by rw [doesS, if_pos hc])
  have hcb : (check o == 0) = false := beq_eq_false_iff_ne.2 hc
  clear hdk h hls hl hc
  unfold Done
  rw [HD.out]
  unfold OV at HC ⊢
  unfold OC at HDK HC a0 a1 a2 a3 a4
  generalize check o = k at *
  go_enter Tryz.func19, Tryz.ntmps19
  go_wp2_with fail
  refine HC.out.mono ?_
  rintro e w1 ⟨rfl, hb1⟩
  have HDK1 := Lib.hid (HDK.out.later hb1)
  have r0 := HDK1.out.res.cell 0
  have r1 := HDK1.out.res.cell 1
  have fr0 := HDK1.out.res.frozen 0
  have fr1 := HDK1.out.res.frozen 1
  simp only [List.getElem?_toArray, List.getElem?_cons_zero, List.getElem?_cons_succ] at r0 r1
  clear hb1
  go_wp2_with fail
  refine bodyPost_ret (results_row_tmp rfl _ _ (w.heap.size + 1) 30 #[.int .i64 k, .int .i64 0] (0, 0) _ rfl (blk2 HDK1.out.res _ _) Tryz.underlying30 rfl size_res) rfl ?_
  exact ⟨_, _, rfl, Nat.le_refl _, Ps.nil _ _, applied_refl HZ.out (below2 HDK1.out.below (by omega) _ _)⟩

theorem ins_ch {w0 W W' : World} {R S : Nat → Prop} {A : Option Addr} {c : Nat} {recs : List Tx} {vals : List Value} (h : CL w0 (.slice A recs.length c) recs vals recs.length W) (k : Ch S W W') (hs : ∀ k, S k → k < w0.heap.size) : Ins W' (fun k => R k ∨ (w0.heap.size ≤ k ∧ k < W.heap.size)) A c recs :=
  ⟨vals, Sl.of_own (own_ch h.row k (fun g hg e => by have := (h.row.lt g hg).1; have := hs _ e; omega)) (fun _ _ _ h => h), fun i hi => by
    obtain ⟨u, hu, ho⟩ := h.mine i hi hi
    exact ⟨u, hu, Sl.of_own' (own_ch ho k (fun g hg e => by have := (ho.lt g hg).1; have := hs _ e; omega)) (fun q h1 h2 => h2 (.inr (ho.lt q h1)))⟩⟩
theorem applied_fin {w w1 w2 w3 w4 w5 : World} {S R : Nat → Prop} {p : Nat} {s' : St} (s1 : w.heap.size ≤ w1.heap.size) (s2 : w1.heap.size ≤ w2.heap.size) (s3 : w2.heap.size ≤ w3.heap.size) (b : Below w.heap.size w w3)
    (hR : ∀ k, R k → k < w.heap.size) (hd : Did (fun k => S k ∧ k < w.heap.size) (fun k => R k ∨ (w1.heap.size ≤ k ∧ k < w2.heap.size)) p s' w3 w4) (c : Ch (fun k => w.heap.size ≤ k ∧ k < w1.heap.size) w4 w5) : Applied S R p s' w4.heap.size w w5 := by
  have s4 := hd.2.size
  have s5 := c.size
  refine ⟨_, _, hd.1.ch c (fun k hk h => ?_) (fun k hk h => ?_), fun k hk => ?_, fun k hk => ?_, ?_⟩
  · rcases hk with hk | ⟨h1, h2⟩
    · have := hk.2; omega
    · omega
  · rcases hk with hk | ⟨h1, h2⟩
    · have := hR k hk; omega
    · omega
  · rcases hk with hk | ⟨h1, h2⟩
    · exact ⟨.inl hk.1, by have := hk.2; have := b.size; omega⟩
    · exact ⟨.inr ⟨by omega, by omega⟩, h2⟩
  · rcases hk with hk | ⟨h1, h2⟩
    · exact ⟨.inl hk, by have := hR k hk; have := b.size; omega⟩
    · exact ⟨.inr ⟨by omega, by omega⟩, by omega⟩
  · have c3 : Ch S w w4 := (Ch.of_below (S := S) b (Nat.le_refl _)).trans (hd.2.mono (T := S) (fun k _ hk => hk.1)) (fun _ _ h => h)
    exact c3.trans c (fun k h1 h2 => by omega)
theorem done_of {w w' : World} {S R : Nat → Prop} {p : Nat} {s : St} {o : O} {k off : Int} {v : Value} {pl : List (Tx × Int × Tx)} (h1 : (doesS s.L o).1.1 = k) (h2 : (doesS s.L o).1.2 = off) (h3 : (doesS s.L o).2.1 = pl) {B : Nat} (hB : w.heap.size ≤ B) (h4 : Ps w' B v pl) (h5 : Applied S R p ⟨(doesS s.L o).2.2, s.last⟩ B w w') :
    Done S R p s o w (.returned (.tuple #[.agg #[.int .i64 k, .int .i64 off], v])) w' := by
  subst h1; subst h2; subst h3
  exact ⟨v, B, rfl, hB, h4, h5⟩
theorem own_cells {w w1 W W' : World} {g : Nat} (h : w.heap.size ≤ g) (h' : g < w1.heap.size) (c : Ch (fun k => w.heap.size ≤ k ∧ k < w1.heap.size) W W') (u v : Value) : Ch (fun k => w.heap.size ≤ k ∧ k < w1.heap.size) W ((W'.setCell ⟨g, 0, none⟩ u).setCell ⟨g, 1, none⟩ v) :=
  (c.setCell (p := ⟨g, 0, none⟩) (fun _ => ⟨h, h'⟩) _).setCell (p := ⟨g, 1, none⟩) (fun _ => ⟨h, h'⟩) _
theorem five {W : World} {g : Nat} {o : O} {A A2 : Option Addr} {c c2 : Nat} (h : OB W g o A c) :
    OB (((((W.setCell ⟨g, 0, none⟩ (.int .i64 o.kind)).setCell ⟨g, 1, none⟩ (.string ⟨o.topic.toArray⟩)).setCell ⟨g, 2, none⟩ (.string ⟨o.group.toArray⟩)).setCell ⟨g, 3, none⟩ (.int .i64 o.off)).setCell ⟨g, 4, none⟩ (.slice A2 o.recs.length c2)) g o A2 c2 :=
  ((((Blk.set_ h 0 _).set_ 1 _).set_ 2 _).set_ 3 _).set_ 4 _
theorem five_ch (W : World) (g : Nat) (x0 x1 x2 x3 x4 : Value) : Ch (fun k => k = g) W (((((W.setCell ⟨g, 0, none⟩ x0).setCell ⟨g, 1, none⟩ x1).setCell ⟨g, 2, none⟩ x2).setCell ⟨g, 3, none⟩ x3).setCell ⟨g, 4, none⟩ x4) :=
  (((((Ch.refl (fun k => k = g) W).setCell (p := ⟨g, 0, none⟩) (fun _ => rfl) _).setCell (p := ⟨g, 1, none⟩) (fun _ => rfl) _).setCell (p := ⟨g, 2, none⟩) (fun _ => rfl) _).setCell (p := ⟨g, 3, none⟩) (fun _ => rfl) _).setCell (p := ⟨g, 4, none⟩) (fun _ => rfl) _
set_option maxRecDepth 100000 in
set_option maxHeartbeats 2000000 in
theorem do_ok (w : World) (S R : Nat → Prop) (p : Nat) (s : St) (o : O) (X : Nat → Prop) (A : Option Addr) (c : Nat) (hc : check o = 0) (h : Tz w S R p s) (hls : Ls w X (.slice A o.recs.length c) o.recs) :
    Calls Tryz.prog 19 #[.pointer (some ⟨p, 0, none⟩), OV o A c] w (Done S R p s o w) := by
  have hdk := dk_new w o A c
  have HDK := Lib.hid hdk
  have HZ := Lib.hid h
  have hsm := small_of hc
  have hls2 := (hls.after (op_below w (.cells (OC o A c) 38))).after (op_below _ (.cells #[.int .i64 0, .int .i64 0] 30))
  obtain ⟨a0, a1, a2, a3, a4⟩ := hdk.op.cells
  have HC := Lib.hid (check_any o _ X _ ⟨A, c, rfl, hls2⟩ (by omega))
  have HLS := Lib.hid hls2
  have HCK := Lib.hid hc
  have HSM := Lib.hid hsm
  have HDE := Lib.hid (fun h => does_err h.good.L (L := s.L) (o := o) : Tz w S R p s → _)
  clear hdk h hls hls2 hsm hc
  unfold OV at HC ⊢
  unfold OC at HDK HC HLS a0 a1 a2 a3 a4
  rw [HCK.out] at HC
  go_enter Tryz.func19, Tryz.ntmps19
  go_wp2_with fail
  refine HC.out.mono ?_
  rintro e w1 ⟨rfl, hb1⟩
  have HDK1 := Lib.hid (HDK.out.later hb1)
  have HCL := Lib.hid (clone_any w1 o X A c (HLS.out.after hb1) (far_of HCK.out))
  clear hb1 a0 a1 a2 a3 a4
  obtain ⟨a0, a1, a2, a3, a4⟩ := HDK1.out.op.cells
  unfold OV at HCL
  go_wp2_with fail
  refine HCL.out.mono ?_
  rintro e w2 ⟨A2, c2, vals, rfl, hcl⟩
  have HDK2 := Lib.hid (HDK1.out.later hcl.below)
  have HCL2 := Lib.hid hcl
  clear hcl a0 a1 a2 a3 a4
  obtain ⟨a0, a1, a2, a3, a4⟩ := HDK2.out.op.cells
  have f0 := Blk.frozen HDK2.out.op 0
  have f1 := Blk.frozen HDK2.out.op 1
  have f2 := Blk.frozen HDK2.out.op 2
  have f3 := Blk.frozen HDK2.out.op 3
  have f4 := Blk.frozen HDK2.out.op 4
  unfold OV
  go_wp2_with fail
  have hop3 := five (A2 := A2) (c2 := c2) HDK2.out.op
  have hch3 := five_ch w2 w.heap.size (.int .i64 o.kind) (.string ⟨o.topic.toArray⟩) (.string ⟨o.group.toArray⟩) (.int .i64 o.off) (.slice A2 o.recs.length c2)
  generalize (((((w2.setCell ⟨w.heap.size, 0, none⟩ (.int .i64 o.kind)).setCell ⟨w.heap.size, 1, none⟩ (.string ⟨o.topic.toArray⟩)).setCell ⟨w.heap.size, 2, none⟩ (.string ⟨o.group.toArray⟩)).setCell ⟨w.heap.size, 3, none⟩ (.int .i64 o.off)).setCell ⟨w.heap.size, 4, none⟩ (.slice A2 o.recs.length c2)) = w3 at hop3 hch3 ⊢
  have z1 : w.heap.size + 2 ≤ w1.heap.size := by have := HDK1.out.res.lt; omega
  have z2 := HCL2.out.below.size
  have z3 := hch3.size
  have HZS := Lib.hid (And.intro z1 (And.intro z2 z3))
  have hres3 := HDK2.out.res.ch hch3 (by omega)
  have b3 : Below w.heap.size w w3 := ⟨hch3.os.trans HDK2.out.below.os, hch3.tape.trans HDK2.out.below.tape, hch3.output.trans HDK2.out.below.output, Nat.le_trans HDK2.out.below.size hch3.size, fun i hi => (hch3.block i (by omega) (by omega)).trans (HDK2.out.below.block i hi)⟩
  have HB3 := Lib.hid b3
  have hz3 : Tz w3 (fun k => S k ∧ k < w.heap.size) (fun k => R k ∨ (w1.heap.size ≤ k ∧ k < w2.heap.size)) p s := by
    refine Tz.moreR ((Tz.bound HZ.out).ch (Ch.of_below (S := fun k => w.heap.size ≤ k) b3 (Nat.le_refl _)) (fun k hk h => by have := hk.2; omega) (fun k hk h => by have := (Tz.rlt HZ.out k hk).2; omega)) (fun _ h => .inl h) (fun k hk => ?_)
    rcases hk with hk | ⟨h1, h2⟩
    · have := Tz.rlt HZ.out k hk
      exact ⟨fun h => this.1 h.1, by omega⟩
    · exact ⟨fun h => by have := h.2; omega, by omega⟩
  have HRN := Lib.hid (run_any w3 _ _ p s o A2 c2 HCK.out hz3 (ins_ch (R := R) HCL2.out hch3 (fun k hk => by omega)))
  have HL3 := Lib.hid ((CL.ls HCL2.out).ch hch3 (fun k _ hk => by show k < w1.heap.size; omega))
  have HO3 := Lib.hid (And.intro hop3 hres3)
  clear a0 a1 a2 a3 a4 f0 f1 f2 f3 f4 hch3 hres3 b3 hz3 z1 z2 z3 hop3
  unfold OV at HRN
  refine HRN.out.mono ?_
  rintro e w4 ⟨rfl, hd⟩
  have HD4 := Lib.hid hd
  have hop4 : OB w4 w.heap.size o A2 c2 := Blk.ch HO3.out.1 hd.2 (fun h => by have := h.2; omega)
  have hres4 := HO3.out.2.ch hd.2 (fun h => by have := h.2; omega)
  have HL4 := Lib.hid (HL3.out.ch hd.2 (fun k _ hk => by have := hk.2; have := HZS.out.1; show k < w1.heap.size; omega))
  have HO4 := Lib.hid (And.intro hop4 hres4)
  have hgr := (doesS_good HZ.out.good.L o).2
  obtain ⟨a0, a1, a2, a3, a4⟩ := hop4.cells
  have r0 := hres4.cell 0
  have r1 := hres4.cell 1
  have fr0 := hres4.frozen 0
  have fr1 := hres4.frozen 1
  simp only [List.getElem?_toArray, List.getElem?_cons_zero, List.getElem?_cons_succ] at r0 r1
  have HGR := Lib.hid hgr
  clear hd hop4 hres4 hgr
  by_cases he : (doesS s.L o).1.1 = 0
  · have HP := Lib.hid (does_placed HCK.out he)
    have HEE := Lib.hid he
    have q0 := HGR.out.2.2.2.1
    have q1 := HGR.out.2.2.2.2.1
    simp only [maxNum] at q1
    rw [he]
    clear he
    generalize hoff : (doesS s.L o).1.2 = off at q0 q1 HP ⊢
    have HOF := Lib.hid hoff
    have HPL := Lib.hid (places_any w4 o _ A2 c2 off HL4.out (by have := HSM.out.2.2.1; omega) HSM.out.2.2.2.1 q0 q1)
    unfold OV at HPL
    clear hoff
    go_wp2_with fail
    refine HPL.out.mono ?_
    rintro e w5 ⟨v5, rfl, hps, hb5⟩
    have HB5 := Lib.hid hb5
    have HPS := Lib.hid hps
    have hres5 := HO4.out.2.below hb5 HO4.out.2.lt
    have HR5 := Lib.hid hres5
    clear r0 r1 fr0 fr1
    have r0 := hres5.cell 0
    have r1 := hres5.cell 1
    have fr0 := hres5.frozen 0
    have fr1 := hres5.frozen 1
    simp only [List.getElem?_toArray, List.getElem?_cons_zero, List.getElem?_cons_succ] at r0 r1
    clear hb5 hps hres5
    go_wp2_with fail
    refine bodyPost_ret (results_row_tmp rfl _ _ (w.heap.size + 1) 30 #[.int .i64 0, .int .i64 off] (0, 0) _ rfl (blk2 HR5.out _ _) Tryz.underlying30 rfl size_res) rfl ?_
    have hz4 := HD4.out.2.size
    have hzs := HZS.out
    have c5 := own_cells (w := w) (w1 := w1) (g := w.heap.size + 1) (by omega) (by omega) (Ch.of_below HB5.out (Nat.le_refl _)) (.int .i64 0) (.int .i64 off)
    refine done_of HEE.out HOF.out HP.out (by omega) ?_ (applied_fin (by omega) hzs.2.1 hzs.2.2 HB3.out (fun k hk => (Tz.rlt HZ.out k hk).2) HD4.out c5)
    exact (HPS.out.ch (((Ch.refl (fun k => k = w.heap.size + 1) w5).setCell (p := ⟨w.heap.size + 1, 0, none⟩) (fun _ => rfl) _).setCell (p := ⟨w.heap.size + 1, 1, none⟩) (fun _ => rfl) _) (fun k hk => by omega))
  · obtain ⟨e2, e3⟩ := HDE.out HZ.out he
    have hcb : ((doesS s.L o).1.1 == 0) = false := beq_eq_false_iff_ne.2 he
    rw [e2]
    have HE2 := Lib.hid (And.intro e2 e3)
    generalize hk : (doesS s.L o).1.1 = k at hcb ⊢
    have HK := Lib.hid hk
    clear he e3 e2 hk
    go_wp2_with fail
    refine bodyPost_ret (results_row_tmp rfl _ _ (w.heap.size + 1) 30 #[.int .i64 k, .int .i64 0] (0, 0) _ rfl (blk2 HO4.out.2 _ _) Tryz.underlying30 rfl size_res) rfl ?_
    have hz4 := HD4.out.2.size
    have hzs := HZS.out
    have c5 := own_cells (w := w) (w1 := w1) (g := w.heap.size + 1) (by omega) (by omega) (Ch.refl _ w4) (.int .i64 k) (.int .i64 0)
    exact done_of HK.out HE2.out.1 HE2.out.2 (by omega) (Ps.nil _ _) (applied_fin (by omega) hzs.2.1 hzs.2.2 HB3.out (fun k hk => (Tz.rlt HZ.out k hk).2) HD4.out c5)
theorem do_any (w : World) (S R : Nat → Prop) (p : Nat) (s : St) (o : O) (X : Nat → Prop) (A : Option Addr) (c : Nat) (h : Tz w S R p s) (hls : Ls w X (.slice A o.recs.length c) o.recs) (hl : o.recs.length ≤ 140737488355328) :
    Calls Tryz.prog 19 #[.pointer (some ⟨p, 0, none⟩), OV o A c] w (Done S R p s o w) := by
  by_cases hc : check o = 0
  · exact do_ok w S R p s o X A c hc h hls
  · exact do_bad w S R p s o X A c hc h hls hl
end Go.Proofs.YtkoedonllfmaaaaGreat.Ai
