/-
  Layer 6 (op): the contracts of Take, Parse and TakeResult.
-/
import Derived.Test.YtebjjkhiniccgaaGreatQb
namespace Go.Proofs.YtebjjkhiniccgaaGreat.Qt
set_option linter.unusedSimpArgs false
open Go Go.RowKit Ck Kw Ca Cb Ce Cf Cg Ch Ci Pm Pa Pe Pf Pg Ph Ppi Pk Pp Qb
set_option linter.unusedVariables false

/-- Within the call: the result's cells, a thing's cells, the reader. -/
structure RC (w0 : World) (X : Nat → Prop) (g g1 g2 : Nat) (t : TypeId) (zs cs : Array Value) (s : Cm.RS) (W : World) : Prop where
  grown : w0.grownBy W (some g)
  old : g < w0.heap.size
  new1 : w0.heap.size ≤ g1
  new2 : w0.heap.size ≤ g2
  far : g1 ≠ g2
  res : Blk W g1 t zs
  op : Blk W g2 t cs
  rd : CR W (fun k => X k ∨ w0.heap.size ≤ k) g s
section
variable {w0 W W' : World} {X : Nat → Prop} {g g1 g2 : Nat} {t : TypeId} {zs cs cs' : Array Value} {s s' : Cm.RS}
theorem RC.next (h : RC w0 X g g1 g2 t zs cs s W) (hg : W.grownBy W' (some g)) (hc : CR W' (fun k => X k ∨ w0.heap.size ≤ k) g s') : RC w0 X g g1 g2 t zs cs s' W' := by
  have o := h.old; have n1 := h.new1; have n2 := h.new2
  exact ⟨h.grown.trans hg, h.old, h.new1, h.new2, h.far, h.res.grown hg (by simp; omega), h.op.grown hg (by simp; omega), hc⟩
theorem RC.later (h : RC w0 X g g1 g2 t zs cs s W) (hb : Below W.heap.size W W') : RC w0 X g g1 g2 t zs cs s W' := h.next (grown_of_below hb _) (h.rd.after hb)
theorem RC.put (h : RC w0 X g g1 g2 t zs cs s W) (i : Nat) (u : Value) (hcs : cs.setIfInBounds i u = cs') : RC w0 X g g1 g2 t zs cs' s (W.setCell ⟨g2, i, none⟩ u) := by
  subst hcs
  have o := h.old; have n2 := h.new2; have f1 := h.far
  exact ⟨grown_setCell h.grown (.inr n2) u, h.old, h.new1, h.new2, h.far, h.res.far f1 u, h.op.set_ i u,
    h.rd.grown (row := some g2) (grown_setCell (World.grownBy.refl W (some g2)) (.inl rfl) u) (by simp; omega) (fun q hq _ => by injection hq with hq; exact .inr (by omega))⟩
end
theorem rc_first {w w1 : World} {X : Nat → Prop} {g : Nat} {t : TypeId} {s s' : Cm.RS} {zs cs : Array Value} (h : CR w X g s) (hg1 : (w.alloc (.cells zs t)).grownBy w1 (some g)) (hc1 : CR w1 (fun k => X k ∨ w.heap.size ≤ k) g s') :
    RC w X g w.heap.size w1.heap.size t zs cs s' (w1.alloc (.cells cs t)) := by
  have hlt := h.lt
  have b0 : Below w.heap.size w (w.alloc (.cells zs t)) := (Below.refl _ w).alloc (Nat.le_refl _) _
  have s0 : (w.alloc (.cells zs t)).heap.size = w.heap.size + 1 := by simp
  have s1 := hg1.size
  have r0 : Blk (w.alloc (.cells zs t)) w.heap.size t zs := Blk.new _ _ _
  have r1 : Blk w1 w.heap.size t zs := r0.grown hg1 (by simp; omega)
  have b2 : Below w1.heap.size w1 (w1.alloc (.cells cs t)) := (Below.refl _ w1).alloc (Nat.le_refl _) _
  have gr : w.grownBy w1 (some g) := (grown_of_below b0 (some g)).trans hg1
  exact ⟨grown_below gr b2, hlt, Nat.le_refl _, by omega, by omega, r1.alloc _, Blk.new _ _ _, hc1.after b2⟩
theorem creaded_of {w W : World} {X : Nat → Prop} {g g1 g2 : Nat} {zs cs : Array Value} {s : Cm.RS} {o : O} {A : Option Addr} {c : Nat} {r : O × Cm.RS} (h : RC w X g g1 g2 25 zs cs s W) (x0 x1 x2 x3 x4 : Value) (hv : Value.agg #[x0, x1, x2, x3, x4] = OV o A c)
    (hls : Ls W (fun k => k < w.heap.size ∨ k = g1) (.slice A o.recs.length c) o.recs) (hr : r = (o, s)) :
    Readed w X g r (.returned (.agg #[x0, x1, x2, x3, x4])) (((((W.setCell ⟨g1, 0, none⟩ x0).setCell ⟨g1, 1, none⟩ x1).setCell ⟨g1, 2, none⟩ x2).setCell ⟨g1, 3, none⟩ x3).setCell ⟨g1, 4, none⟩ x4) := by
  subst hr
  have n1 := h.new1
  have o1 := h.old
  have cg : W.grownBy (((((W.setCell ⟨g1, 0, none⟩ x0).setCell ⟨g1, 1, none⟩ x1).setCell ⟨g1, 2, none⟩ x2).setCell ⟨g1, 3, none⟩ x3).setCell ⟨g1, 4, none⟩ x4) (some g1) :=
    grown_setCell (grown_setCell (grown_setCell (grown_setCell (grown_setCell (World.grownBy.refl W (some g1)) (p := ⟨g1, 0, none⟩) (.inl rfl) x0) (p := ⟨g1, 1, none⟩) (.inl rfl) x1) (p := ⟨g1, 2, none⟩) (.inl rfl) x2) (p := ⟨g1, 3, none⟩) (.inl rfl) x3) (p := ⟨g1, 4, none⟩) (.inl rfl) x4
  refine ⟨_, rfl, ⟨A, c, hv, (hls.grown cg (fun q hq _ => by injection hq with hq; exact .inr hq.symm)).weaken (fun k _ hk => .inl hk)⟩, ?_, ?_⟩
  · exact grown_step h.grown cg (.inr fun q hq => by injection hq with hq; omega)
  · exact (h.rd.grown cg (by simp; omega) (fun q hq _ => by injection hq with hq; exact .inr (by omega))).weaken (fun k _ hk => .inl hk)

set_option maxRecDepth 100000 in
set_option maxHeartbeats 4000000 in
theorem take_any (w : World) (X : Nat → Prop) (g : Nat) (s : Cm.RS) (h : CR w X g s) (hl : s.1.length ≤ 140737488355328) :
    Calls Tryz.prog 28 #[P_ g] w (Readed w X g (take s)) := by
  have hcr : CR (w.alloc (.cells Z5 25)) (fun k => X k ∨ w.heap.size ≤ k) g s := (h.old (Nat.le_refl _)).after ((Below.refl _ w).alloc (Nat.le_refl _) _)
  have HRE := Lib.hid (read_any _ _ g s hcr hl)
  have HH := Lib.hid h
  have RL := Lib.hid (rd_recs s)
  have HT : Hid (take s = if (Cm.failS (rd s).2 (check (rd s).1)).2 ≠ 0 then (O.zero, Cm.failS (rd s).2 (check (rd s).1)) else ((rd s).1, Cm.failS (rd s).2 (check (rd s).1))) := Lib.hid rfl
  clear h hcr hl
  generalize rd s = D at *
  generalize take s = TK at *
  obtain ⟨o, sF⟩ := D
  unfold Z5 at HRE
  go_enter Tryz.func28, Tryz.ntmps28
  go_wp2_with fail
  refine HRE.out.mono ?_
  rintro e w1 ⟨v, rfl, hoi, hg1, hc1⟩
  obtain ⟨A, c, rfl, hls⟩ := hoi
  simp only at hls hc1
  have HD := Lib.hid (rc_first (cs := OC o A c) HH.out hg1 hc1)
  have HLS : Hid (Ls (w1.alloc (.cells (OC o A c) 25)) (fun k => k < w.heap.size ∨ k = w.heap.size) (.slice A o.recs.length c) o.recs) := Lib.hid ((hls.after ((Below.refl _ w1).alloc (Nat.le_refl _) _)).weaken (fun k _ hk => by
    have h0 : (w.alloc (.cells Z5 25)).heap.size = w.heap.size + 1 := by simp
    rcases hk with hk | hk <;> (show k < (w.alloc (.cells Z5 25)).heap.size; omega)))
  have n12 : ¬ (w.heap.size = w1.heap.size) := HD.out.far
  have n21 : ¬ (w1.heap.size = w.heap.size) := fun h => HD.out.far h.symm
  clear hls hg1 hc1
  unfold OV
  obtain ⟨⟨a0, a1, a2, a3, a4⟩, -⟩ := Blk.cells5 HD.out.op
  have HCK := Lib.hid (check_any o (OV o A c) _ _ ⟨A, c, rfl, HLS.out⟩ (by have : o.recs.length ≤ 4 := RL.out; omega))
  unfold OV OC at HCK
  go_wp2_with fail
  refine HCK.out.mono ?_
  rintro e w3 ⟨rfl, hb3⟩
  have HD3 := Lib.hid (HD.out.later hb3)
  have HLS3 := Lib.hid (HLS.out.after hb3)
  have HFA := Lib.hid (fail_any _ _ g _ HD3.out.rd (check o))
  clear hb3
  go_wp2_with fail
  refine HFA.out.mono ?_
  rintro e w4 ⟨rfl, hg4, hc4⟩
  have HD4 := Lib.hid (HD3.out.next hg4 hc4)
  have zo := HD3.out.old
  have HLS4 := Lib.hid (HLS3.out.grown hg4 (fun q hq _ => by injection hq with hq; exact .inl (by omega)))
  clear hg4 hc4 zo
  have HT : Hid (TK = if (Cm.failS sF (check o)).2 ≠ 0 then (O.zero, Cm.failS sF (check o)) else (o, Cm.failS sF (check o))) := HT
  generalize Cm.failS sF (check o) = F at *
  obtain ⟨A4, n4, c4, hb4, -⟩ := HD4.out.rd
  have HB4 := Lib.hid hb4
  clear hb4 a0 a1 a2 a3 a4
  obtain ⟨⟨a0, a1, a2, a3, a4⟩, -⟩ := Blk.cells5 HD4.out.op
  obtain ⟨⟨r0, r1, r2, r3, r4⟩, ⟨q0, q1, q2, q3, q4⟩⟩ := Blk.cells5 HD4.out.res
  by_cases hz : F.2 = 0
  · have HZ := Lib.hid hz
    have HER := Lib.hid (err_blk w4 g _ _ HB4.out)
    rw [hz] at HER
    clear hz
    go_wp2_with fail
    refine HER.out.mono ?_
    rintro e w5 ⟨rfl, rfl⟩
    go_wp2_with fail
    refine bodyPost_ret (results_row1 rfl _ _ w.heap.size 25 #[.int .i64 o.kind, .string ⟨o.topic.toArray⟩, .string ⟨o.group.toArray⟩, .int .i64 o.off, .slice A o.recs.length c] (0, 0) _ rfl (res_blk HD4.out.res _ _ _ _ _) Tryz.underlying25 rfl size_op) rfl ?_
    exact creaded_of (o := o) HD4.out _ _ _ _ _ rfl HLS4.out (by rw [HT.out, if_neg (by rw [HZ.out]; decide)])
  · have HZ := Lib.hid hz
    have e1 : (F.2 == 0) = false := beq_eq_false_iff_ne.2 hz
    have e2 : (F.2 != 0) = true := by rw [bne, e1]; rfl
    clear hz
    go_wp2_with fail
    refine (err_blk w4 g _ _ HB4.out).mono ?_
    rintro e w5 ⟨rfl, rfl⟩
    go_wp2_with fail
    refine bodyPost_ret (results_row1 rfl _ _ w.heap.size 25 #[.int .i64 0, .string ⟨#[]⟩, .string ⟨#[]⟩, .int .i64 0, .slice none 0 0] (0, 0) _ rfl (res_blk HD4.out.res _ _ _ _ _) Tryz.underlying25 rfl size_op) rfl ?_
    exact creaded_of (o := O.zero) HD4.out _ _ _ _ _ rfl (ls_nil _ _) (by rw [HT.out, if_pos HZ.out])

/-- What Parse leaves. -/
def Parsed (w : World) (r : O × Int) (e : Ending) (w' : World) : Prop := ∃ v, e = .returned (.tuple #[v, .int .i64 r.2]) ∧ OI w' (fun k => k < w.heap.size) v r.1 ∧ Below w.heap.size w w'
theorem parsed_of {w W : World} {o : O} {A : Option Addr} {c : Nat} {r : O × Int} {z : Int} (hB : Below w.heap.size w W) (x0 x1 x2 x3 x4 : Value) (hv : Value.agg #[x0, x1, x2, x3, x4] = OV o A c)
    (hls : Ls W (fun k => k < w.heap.size ∨ k = w.heap.size) (.slice A o.recs.length c) o.recs) (hr : r = (o, z)) :
    Parsed w r (.returned (.tuple #[.agg #[x0, x1, x2, x3, x4], .int .i64 z])) (((((W.setCell ⟨w.heap.size, 0, none⟩ x0).setCell ⟨w.heap.size, 1, none⟩ x1).setCell ⟨w.heap.size, 2, none⟩ x2).setCell ⟨w.heap.size, 3, none⟩ x3).setCell ⟨w.heap.size, 4, none⟩ x4) := by
  subst hr
  have cg : W.grownBy (((((W.setCell ⟨w.heap.size, 0, none⟩ x0).setCell ⟨w.heap.size, 1, none⟩ x1).setCell ⟨w.heap.size, 2, none⟩ x2).setCell ⟨w.heap.size, 3, none⟩ x3).setCell ⟨w.heap.size, 4, none⟩ x4) (some w.heap.size) :=
    grown_setCell (grown_setCell (grown_setCell (grown_setCell (grown_setCell (World.grownBy.refl W (some w.heap.size)) (p := ⟨w.heap.size, 0, none⟩) (.inl rfl) x0) (p := ⟨w.heap.size, 1, none⟩) (.inl rfl) x1) (p := ⟨w.heap.size, 2, none⟩) (.inl rfl) x2) (p := ⟨w.heap.size, 3, none⟩) (.inl rfl) x3) (p := ⟨w.heap.size, 4, none⟩) (.inl rfl) x4
  exact ⟨_, rfl, ⟨A, c, hv, (hls.grown cg (fun q hq _ => by injection hq with hq; exact .inr hq.symm)).weaken (fun k _ hk => .inl hk)⟩, hB.grown cg hB.size (fun q hq => by injection hq with hq; omega)⟩

theorem blk2 {w : World} {g : Nat} {t : TypeId} {x y u v : Value} (h : Blk w g t #[u, v]) : Blk ((w.setCell ⟨g, 0, none⟩ x).setCell ⟨g, 1, none⟩ y) g t #[x, y] := by
  have := (h.set_ 0 x).set_ 1 y
  simpa using this
/-- What TakeResult leaves. -/
def TookR (w : World) (X : Nat → Prop) (g : Nat) (r : (Int × Int) × Cm.RS) (e : Ending) (w' : World) : Prop := e = .returned (.agg #[.int .i64 r.1.1, .int .i64 r.1.2]) ∧ w.grownBy w' (some g) ∧ CR w' X g r.2
theorem tookr_of {w W : World} {X : Nat → Prop} {g g1 g2 : Nat} {t : TypeId} {zs cs : Array Value} {s : Cm.RS} {r : (Int × Int) × Cm.RS} {x y : Int} (h : RC w X g g1 g2 t zs cs s W) (hr : r = ((x, y), s)) :
    TookR w X g r (.returned (.agg #[.int .i64 x, .int .i64 y])) ((W.setCell ⟨g1, 0, none⟩ (.int .i64 x)).setCell ⟨g1, 1, none⟩ (.int .i64 y)) := by
  subst hr
  have n1 := h.new1
  have o1 := h.old
  have cg : W.grownBy ((W.setCell ⟨g1, 0, none⟩ (.int .i64 x)).setCell ⟨g1, 1, none⟩ (.int .i64 y)) (some g1) :=
    grown_setCell (grown_setCell (World.grownBy.refl W (some g1)) (p := ⟨g1, 0, none⟩) (.inl rfl) _) (p := ⟨g1, 1, none⟩) (.inl rfl) _
  exact ⟨rfl, grown_step h.grown cg (.inr fun q hq => by injection hq with hq; omega), (h.rd.grown cg (by simp; omega) (fun q hq _ => by injection hq with hq; exact .inr (by omega))).weaken (fun k _ hk => .inl hk)⟩

end Go.Proofs.YtebjjkhiniccgaaGreat.Qt
