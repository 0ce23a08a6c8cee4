/-
  Layer 6 (op): the contract of read, kind by kind.
-/
import Derived.Test.YtebjjkhiniccgaaGreatPp
import Derived.Test.YtebjjkhiniccgaaGreatPi
namespace Go.Proofs.YtebjjkhiniccgaaGreat.Qb
set_option linter.unusedSimpArgs false
open Go Go.RowKit Ck Kw Ca Cb Ce Cf Cg Ch Ci Pm Pa Pe Pf Pg Ph Ppi Pk Pp
set_option linter.unusedVariables false

theorem results_row1 {P : Program} {fn : Func} {p : Tmp} {ty : TypeId} (h : fn.results = #[.cell p ty]) (tmps : Array Value) (w : World) (g : Nat) (t : TypeId) (cs : Array Value) (fr : Nat × Nat) (d : TypeDesc)
    (hp : tmps.getD p undef = .pointer (some ⟨g, 0, none⟩)) (hg : w.heap[g]? = some (.cells cs t fr))
    (hu : P.underlying ty = some d) (hd : (match d with | .struct _ | .array _ _ => true | _ => false) = true) (hi : (P.info? ty).map (·.size) = some cs.size) :
    (results fn tmps).run P w = .ok (.agg cs) w := by
  have hp' : tmps[p]?.getD undef = .pointer (some ⟨g, 0, none⟩) := by simpa using hp
  simp [results, h, hp', asAddr, run_loadVar_row w g t ty cs fr d hg hu hd hi]
theorem size_op : (Tryz.prog.info? 25).map (·.size) = some 5 := by kernel_rfl
theorem blk5 {w : World} {g : Nat} {t : TypeId} {a b c d e x0 x1 x2 x3 x4 : Value} (h : Blk w g t #[a, b, c, d, e]) :
    Blk (((((w.setCell ⟨g, 0, none⟩ x0).setCell ⟨g, 1, none⟩ x1).setCell ⟨g, 2, none⟩ x2).setCell ⟨g, 3, none⟩ x3).setCell ⟨g, 4, none⟩ x4) g t #[x0, x1, x2, x3, x4] := by
  have := ((((h.set_ 0 x0).set_ 1 x1).set_ 2 x2).set_ 3 x3).set_ 4 x4
  simpa using this
theorem Blk.cells5 {W : World} {g : Nat} {t : TypeId} {a b c d e : Value} (h : Blk W g t #[a, b, c, d, e]) :
    (W.cell? ⟨g, 0, none⟩ = some a ∧ W.cell? ⟨g, 1, none⟩ = some b ∧ W.cell? ⟨g, 2, none⟩ = some c ∧ W.cell? ⟨g, 3, none⟩ = some d ∧ W.cell? ⟨g, 4, none⟩ = some e) ∧
    (W.frozen? ⟨g, 0, none⟩ = false ∧ W.frozen? ⟨g, 1, none⟩ = false ∧ W.frozen? ⟨g, 2, none⟩ = false ∧ W.frozen? ⟨g, 3, none⟩ = false ∧ W.frozen? ⟨g, 4, none⟩ = false) :=
  ⟨⟨h.cell 0, h.cell 1, h.cell 2, h.cell 3, h.cell 4⟩, ⟨h.frozen 0, h.frozen 1, h.frozen 2, h.frozen 3, h.frozen 4⟩⟩

/-- The cells of no operation. -/
def Z5 : Array Value := #[.int .i64 0, .string ⟨#[]⟩, .string ⟨#[]⟩, .int .i64 0, .slice none 0 0]
/-- Within the call: the result's cells, the operation's, its kind's fields, the reader. -/
structure RD (w0 : World) (X : Nat → Prop) (g g1 g2 g3 : Nat) (k : Int) (cs : Array Value) (s : Cm.RS) (W : World) : Prop where
  grown : w0.grownBy W (some g)
  old : g < w0.heap.size
  new1 : w0.heap.size ≤ g1
  new2 : w0.heap.size ≤ g2
  new3 : w0.heap.size ≤ g3
  far : g1 ≠ g2
  far3 : g3 ≠ g2
  far4 : g3 ≠ g1
  res : Blk W g1 25 Z5
  op : Blk W g2 25 cs
  fld : FB W g3 k
  rd : CR W (fun k => X k ∨ w0.heap.size ≤ k) g s
section
variable {w0 W W' : World} {X : Nat → Prop} {g g1 g2 g3 : Nat} {k : Int} {cs cs' : Array Value} {s s' : Cm.RS}
theorem RD.next (h : RD w0 X g g1 g2 g3 k cs s W) (hg : W.grownBy W' (some g)) (hc : CR W' (fun k => X k ∨ w0.heap.size ≤ k) g s') : RD w0 X g g1 g2 g3 k cs s' W' := by
  have o := h.old; have n1 := h.new1; have n2 := h.new2; have n3 := h.new3
  exact ⟨h.grown.trans hg, h.old, h.new1, h.new2, h.new3, h.far, h.far3, h.far4, h.res.grown hg (by simp; omega), h.op.grown hg (by simp; omega), Blk.grown h.fld hg (by simp; omega), hc⟩
theorem RD.later (h : RD w0 X g g1 g2 g3 k cs s W) (hb : Below W.heap.size W W') : RD w0 X g g1 g2 g3 k cs s W' :=
  h.next (grown_of_below hb _) (h.rd.after hb)
theorem RD.put (h : RD w0 X g g1 g2 g3 k cs s W) (i : Nat) (u : Value) (hcs : cs.setIfInBounds i u = cs') : RD w0 X g g1 g2 g3 k cs' s (W.setCell ⟨g2, i, none⟩ u) := by
  subst hcs
  have o := h.old; have n1 := h.new1; have n2 := h.new2; have n3 := h.new3; have f1 := h.far; have f3 := h.far3
  exact ⟨grown_setCell h.grown (.inr n2) u, h.old, h.new1, h.new2, h.new3, h.far, h.far3, h.far4, h.res.far f1 u, h.op.set_ i u, Blk.far h.fld f3 u,
    h.rd.grown (row := some g2) (grown_setCell (World.grownBy.refl W (some g2)) (.inl rfl) u) (by simp; omega) (fun q hq _ => by injection hq with hq; exact .inr (by omega))⟩
end
theorem rd_first {w w1 w3 : World} {X : Nat → Prop} {g : Nat} {s s' : Cm.RS} {k : Int} {cs : Array Value} (h : CR w X g s) (hg1 : (w.alloc (.cells Z5 25)).grownBy w1 (some g)) (hc1 : CR w1 (fun k => X k ∨ w.heap.size ≤ k) g s')
    (hb3 : Below (w1.alloc (.cells cs 25)).heap.size (w1.alloc (.cells cs 25)) w3) :
    RD w X g w.heap.size w1.heap.size w3.heap.size k cs s' (w3.alloc (.cells #[.bool (hasT k), .bool (hasG k), .bool (hasO k), .bool (hasR k)] 135)) := by
  have hlt := h.lt
  have b0 : Below w.heap.size w (w.alloc (.cells Z5 25)) := (Below.refl _ w).alloc (Nat.le_refl _) _
  have s0 : (w.alloc (.cells Z5 25)).heap.size = w.heap.size + 1 := by simp
  have s1 := hg1.size
  have s2 : (w1.alloc (.cells cs 25)).heap.size = w1.heap.size + 1 := by simp
  have s3 := hb3.size
  have r0 : Blk (w.alloc (.cells Z5 25)) w.heap.size 25 Z5 := Blk.new _ _ _
  have r1 : Blk w1 w.heap.size 25 Z5 := r0.grown hg1 (by simp; omega)
  have r2 := r1.alloc (.cells cs 25)
  have o2 : Blk (w1.alloc (.cells cs 25)) w1.heap.size 25 cs := Blk.new _ _ _
  have b2 : Below w1.heap.size w1 (w1.alloc (.cells cs 25)) := (Below.refl _ w1).alloc (Nat.le_refl _) _
  have b3 : Below w1.heap.size w1 w3 := b2.trans (hb3.mono b2.size)
  have b4 : Below w1.heap.size w1 (w3.alloc (.cells #[.bool (hasT k), .bool (hasG k), .bool (hasO k), .bool (hasR k)] 135)) := b3.alloc b3.size _
  have gr : w.grownBy w1 (some g) := (grown_of_below b0 (some g)).trans hg1
  refine ⟨grown_below gr b4, hlt, Nat.le_refl _, by omega, by omega, by omega, by omega, by omega, (r2.below hb3 r2.lt).alloc _, (o2.below hb3 o2.lt).alloc _, Blk.new w3 _ _, hc1.after b4⟩
/-- What a reading of an operation leaves. -/
def Readed (w : World) (X : Nat → Prop) (g : Nat) (r : O × Cm.RS) (e : Ending) (w' : World) : Prop := ∃ v, e = .returned v ∧ OI w' (fun k => k < w.heap.size) v r.1 ∧ w.grownBy w' (some g) ∧ CR w' X g r.2
theorem readed_of {w W : World} {X : Nat → Prop} {g g1 g2 g3 : Nat} {k : Int} {cs : Array Value} {s : Cm.RS} {o : O} {A : Option Addr} {c : Nat} {r : O × Cm.RS} (h : RD w X g g1 g2 g3 k cs s W) (x0 x1 x2 x3 x4 : Value) (hv : Value.agg #[x0, x1, x2, x3, x4] = OV o A c)
    (hls : Ls W (fun k => k < w.heap.size ∨ k = g1) (.slice A o.recs.length c) o.recs) (hr : r = (o, s)) :
    Readed w X g r (.returned (.agg #[x0, x1, x2, x3, x4])) (((((W.setCell ⟨g1, 0, none⟩ x0).setCell ⟨g1, 1, none⟩ x1).setCell ⟨g1, 2, none⟩ x2).setCell ⟨g1, 3, none⟩ x3).setCell ⟨g1, 4, none⟩ x4) := by
  subst hr
  have n1 := h.new1
  have o1 := h.old
  have cg : W.grownBy (((((W.setCell ⟨g1, 0, none⟩ x0).setCell ⟨g1, 1, none⟩ x1).setCell ⟨g1, 2, none⟩ x2).setCell ⟨g1, 3, none⟩ x3).setCell ⟨g1, 4, none⟩ x4) (some g1) :=
    grown_setCell (grown_setCell (grown_setCell (grown_setCell (grown_setCell (World.grownBy.refl W (some g1)) (p := ⟨g1, 0, none⟩) (.inl rfl) x0) (p := ⟨g1, 1, none⟩) (.inl rfl) x1) (p := ⟨g1, 2, none⟩) (.inl rfl) x2) (p := ⟨g1, 3, none⟩) (.inl rfl) x3) (p := ⟨g1, 4, none⟩) (.inl rfl) x4
  refine ⟨_, rfl, ⟨A, c, hv, (hls.grown cg (fun q hq _ => by injection hq with hq; exact .inr hq.symm)).weaken (fun k _ hk => .inl hk)⟩, ?_, ?_⟩
  · exact grown_step h.grown cg (.inr fun q hq => by injection hq with hq; omega)
  · exact (h.rd.grown cg (by simp; omega) (fun q hq _ => by injection hq with hq; exact .inr (by omega))).weaken (fun k _ hk => .inl hk)
theorem res_blk {W : World} {g1 : Nat} (h : Blk W g1 25 Z5) (x0 x1 x2 x3 x4 : Value) :
    (((((W.setCell ⟨g1, 0, none⟩ x0).setCell ⟨g1, 1, none⟩ x1).setCell ⟨g1, 2, none⟩ x2).setCell ⟨g1, 3, none⟩ x3).setCell ⟨g1, 4, none⟩ x4).heap[g1]? = some (.cells #[x0, x1, x2, x3, x4] 25 (0, 0)) := blk5 h
theorem wrap_i64n (z : Nat) (h : z ≤ 9223372036854775807) : IntKind.i64.wrap (z : Int) = (z : Int) := by
  simp [IntKind.wrap, IntKind.bits, IntKind.signed]
  omega
theorem ls_nil (W : World) (X : Nat → Prop) : Ls W X (.slice none 0 0) [] := ⟨[], Sl.nil _ _ _, fun i hi => absurd hi (by simp)⟩

set_option maxRecDepth 100000 in
set_option maxHeartbeats 4000000 in
theorem read_0 (w : World) (X : Nat → Prop) (g : Nat) (s : Cm.RS) (h : CR w X g s) (hl : s.1.length ≤ 140737488355328) (hk : (Cm.numS s 4).1 = 0) :
    Calls Tryz.prog 62 #[P_ g] w (Readed w X g (rd s)) := by
  have hcr : CR (w.alloc (.cells Z5 25)) (fun k => X k ∨ w.heap.size ≤ k) g s := (h.old (Nat.le_refl _)).after ((Below.refl _ w).alloc (Nat.le_refl _) _)
  have HN := Lib.hid (num_any _ _ g s hcr 4)
  have HH := Lib.hid h
  have l1 := Cm.numS_len s 4
  have HRD : Hid (rd s = ((⟨0, [], [], ((0 : Nat) : Nat), []⟩ : O), (Cm.numS s 4).2)) := Lib.hid (by
    unfold rd rdT rdG rdO rdR
    simp only [hk]
    rfl)
  have HK := Lib.hid hk
  clear h hcr hk
  generalize hS1 : Cm.numS s 4 = n1 at *
  clear hS1
  unfold Z5 at HN
  go_enter Tryz.func62, Tryz.ntmps62
  go_wp2_with fail
  refine HN.out.mono ?_
  rintro e w1 ⟨he, hg1, hc1⟩
  rw [HK.out] at he
  have he : e = .returned (.int .u64 0) := he
  subst he
  have HG1 := Lib.hid hg1
  have HC1 := Lib.hid hc1
  clear hg1 hc1
  go_wp2_with fail
  refine (fields_any 0 _).mono ?_
  rintro e w3 ⟨he, hb3⟩
  have he : e = .returned (.tuple #[.agg #[.bool false, .bool false, .bool false, .bool false], .bool true]) := he
  subst he
  have HD3 := Lib.hid (rd_first (k := 0) (cs := #[.int .i64 0, .string ⟨#[]⟩, .string ⟨#[]⟩, .int .i64 0, .slice none 0 0]) HH.out HG1.out HC1.out hb3)
  have HD3 : Hid (RD w X g w.heap.size w1.heap.size w3.heap.size 0 #[.int .i64 0, .string ⟨#[]⟩, .string ⟨#[]⟩, .int .i64 0, .slice none 0 0] n1.2 (w3.alloc (.cells #[.bool false, .bool false, .bool false, .bool false] 135))) := HD3
  clear hb3
  have n12 : ¬ (w.heap.size = w1.heap.size) := HD3.out.far
  have n21 : ¬ (w1.heap.size = w.heap.size) := fun h => HD3.out.far h.symm
  have n32 : ¬ (w3.heap.size = w1.heap.size) := HD3.out.far3
  have n31 : ¬ (w3.heap.size = w.heap.size) := HD3.out.far4
  obtain ⟨⟨a0, a1, a2, a3, a4⟩, ⟨f0, f1, f2, f3, f4⟩⟩ := Blk.cells5 HD3.out.op
  obtain ⟨⟨r0, r1, r2, r3, r4⟩, ⟨q0, q1, q2, q3, q4⟩⟩ := Blk.cells5 HD3.out.res
  obtain ⟨b0, b1, b2, b3⟩ := HD3.out.fld.cells
  have b0 : World.cell? _ _ = some (.bool false) := b0
  have b1 : World.cell? _ _ = some (.bool false) := b1
  have b2 : World.cell? _ _ = some (.bool false) := b2
  have b3 : World.cell? _ _ = some (.bool false) := b3
  go_wp2_with fail
  refine bodyPost_ret (results_row1 rfl _ _ w.heap.size 25 #[.int .i64 0, .string ⟨#[]⟩, .string ⟨#[]⟩, .int .i64 0, .slice none 0 0] (0, 0) _ rfl (res_blk HD3.out.res _ _ _ _ _) Tryz.underlying25 rfl size_op) rfl ?_
  exact readed_of (o := ⟨0, [], [], (0 : Nat), []⟩) HD3.out _ _ _ _ _ rfl (ls_nil _ _) HRD.out

set_option maxRecDepth 100000 in
set_option maxHeartbeats 4000000 in
theorem read_1 (w : World) (X : Nat → Prop) (g : Nat) (s : Cm.RS) (h : CR w X g s) (hl : s.1.length ≤ 140737488355328) (hk : (Cm.numS s 4).1 = 1) :
    Calls Tryz.prog 62 #[P_ g] w (Readed w X g (rd s)) := by
  have hcr : CR (w.alloc (.cells Z5 25)) (fun k => X k ∨ w.heap.size ≤ k) g s := (h.old (Nat.le_refl _)).after ((Below.refl _ w).alloc (Nat.le_refl _) _)
  have HN := Lib.hid (num_any _ _ g s hcr 4)
  have HH := Lib.hid h
  have l1 := Cm.numS_len s 4
  have HRD : Hid (rd s = ((⟨1, (Cm.bytesS (Cm.numS s 4).2 64).1, [], ((0 : Nat) : Nat), []⟩ : O), (Cm.bytesS (Cm.numS s 4).2 64).2)) := Lib.hid (by
    unfold rd rdT rdG rdO rdR
    simp only [hk]
    rfl)
  have HK := Lib.hid hk
  clear h hcr hk
  generalize hS1 : Cm.numS s 4 = n1 at *
  clear hS1
  unfold Z5 at HN
  go_enter Tryz.func62, Tryz.ntmps62
  go_wp2_with fail
  refine HN.out.mono ?_
  rintro e w1 ⟨he, hg1, hc1⟩
  rw [HK.out] at he
  have he : e = .returned (.int .u64 1) := he
  subst he
  have HG1 := Lib.hid hg1
  have HC1 := Lib.hid hc1
  clear hg1 hc1
  go_wp2_with fail
  refine (fields_any 1 _).mono ?_
  rintro e w3 ⟨he, hb3⟩
  have he : e = .returned (.tuple #[.agg #[.bool true, .bool false, .bool false, .bool false], .bool true]) := he
  subst he
  have HD3 := Lib.hid (rd_first (k := 1) (cs := #[.int .i64 1, .string ⟨#[]⟩, .string ⟨#[]⟩, .int .i64 0, .slice none 0 0]) HH.out HG1.out HC1.out hb3)
  have HD3 : Hid (RD w X g w.heap.size w1.heap.size w3.heap.size 1 #[.int .i64 1, .string ⟨#[]⟩, .string ⟨#[]⟩, .int .i64 0, .slice none 0 0] n1.2 (w3.alloc (.cells #[.bool true, .bool false, .bool false, .bool false] 135))) := HD3
  clear hb3
  have n12 : ¬ (w.heap.size = w1.heap.size) := HD3.out.far
  have n21 : ¬ (w1.heap.size = w.heap.size) := fun h => HD3.out.far h.symm
  have n32 : ¬ (w3.heap.size = w1.heap.size) := HD3.out.far3
  have n31 : ¬ (w3.heap.size = w.heap.size) := HD3.out.far4
  obtain ⟨⟨a0, a1, a2, a3, a4⟩, ⟨f0, f1, f2, f3, f4⟩⟩ := Blk.cells5 HD3.out.op
  obtain ⟨⟨r0, r1, r2, r3, r4⟩, ⟨q0, q1, q2, q3, q4⟩⟩ := Blk.cells5 HD3.out.res
  obtain ⟨b0, b1, b2, b3⟩ := HD3.out.fld.cells
  have b0 : World.cell? _ _ = some (.bool true) := b0
  have b1 : World.cell? _ _ = some (.bool false) := b1
  have b2 : World.cell? _ _ = some (.bool false) := b2
  have b3 : World.cell? _ _ = some (.bool false) := b3
  have lxT := Cm.bytesS_len n1.2 64
  have HC4 := Lib.hid (bytes_any _ _ g n1.2 HD3.out.rd 64 (by omega) (by omega) (by omega))
  generalize hxT : Cm.bytesS n1.2 64 = xT at *
  clear hxT
  go_wp2_with fail
  refine HC4.out.mono ?_
  rintro e u4 ⟨v4, rfl, hown, hg, hc⟩
  obtain ⟨A4, c4, rfl⟩ := own_shape hown
  have kc4 := run_convert_sl (P := Tryz.prog) u4 (fun _ => False) 22 9 5 A4 c4 xT.1 Tryz.underlying22 Tryz.underlying5 Tryz.underlying9 (Sl.of_own hown (fun _ _ _ h => h))
  have HE4 := Lib.hid (HD3.out.next hg hc)
  clear hown hg hc
  clear a0 a1 a2 a3 a4 f0 f1 f2 f3 f4 r0 r1 r2 r3 r4 q0 q1 q2 q3 q4 b0 b1 b2 b3
  obtain ⟨⟨a0, a1, a2, a3, a4⟩, ⟨f0, f1, f2, f3, f4⟩⟩ := Blk.cells5 HE4.out.op
  obtain ⟨⟨r0, r1, r2, r3, r4⟩, ⟨q0, q1, q2, q3, q4⟩⟩ := Blk.cells5 HE4.out.res
  obtain ⟨b0, b1, b2, b3⟩ := HE4.out.fld.cells
  have b0 : World.cell? _ _ = some (.bool true) := b0
  have b1 : World.cell? _ _ = some (.bool false) := b1
  have b2 : World.cell? _ _ = some (.bool false) := b2
  have b3 : World.cell? _ _ = some (.bool false) := b3
  have HD4 := Lib.hid (HE4.out.put 1 (.string ⟨xT.1.toArray⟩) (cs' := #[.int .i64 1, .string ⟨xT.1.toArray⟩, .string ⟨#[]⟩, .int .i64 0, .slice none 0 0]) rfl)
  go_wp2_with fail
  refine bodyPost_ret (results_row1 rfl _ _ w.heap.size 25 #[.int .i64 1, .string ⟨xT.1.toArray⟩, .string ⟨#[]⟩, .int .i64 0, .slice none 0 0] (0, 0) _ rfl (res_blk HD4.out.res _ _ _ _ _) Tryz.underlying25 rfl size_op) rfl ?_
  exact readed_of (o := ⟨1, xT.1, [], (0 : Nat), []⟩) HD4.out _ _ _ _ _ rfl (ls_nil _ _) HRD.out

set_option maxRecDepth 100000 in
set_option maxHeartbeats 4000000 in
theorem read_2 (w : World) (X : Nat → Prop) (g : Nat) (s : Cm.RS) (h : CR w X g s) (hl : s.1.length ≤ 140737488355328) (hk : (Cm.numS s 4).1 = 2) :
    Calls Tryz.prog 62 #[P_ g] w (Readed w X g (rd s)) := by
  have hcr : CR (w.alloc (.cells Z5 25)) (fun k => X k ∨ w.heap.size ≤ k) g s := (h.old (Nat.le_refl _)).after ((Below.refl _ w).alloc (Nat.le_refl _) _)
  have HN := Lib.hid (num_any _ _ g s hcr 4)
  have HH := Lib.hid h
  have l1 := Cm.numS_len s 4
  have HRD : Hid (rd s = ((⟨2, (Cm.bytesS (Cm.numS s 4).2 64).1, [], ((0 : Nat) : Nat), (Cm.listS (Cm.bytesS (Cm.numS s 4).2 64).2 4 64).1⟩ : O), (Cm.listS (Cm.bytesS (Cm.numS s 4).2 64).2 4 64).2)) := Lib.hid (by
    unfold rd rdT rdG rdO rdR
    simp only [hk]
    rfl)
  have HK := Lib.hid hk
  clear h hcr hk
  generalize hS1 : Cm.numS s 4 = n1 at *
  clear hS1
  unfold Z5 at HN
  go_enter Tryz.func62, Tryz.ntmps62
  go_wp2_with fail
  refine HN.out.mono ?_
  rintro e w1 ⟨he, hg1, hc1⟩
  rw [HK.out] at he
  have he : e = .returned (.int .u64 2) := he
  subst he
  have HG1 := Lib.hid hg1
  have HC1 := Lib.hid hc1
  clear hg1 hc1
  go_wp2_with fail
  refine (fields_any 2 _).mono ?_
  rintro e w3 ⟨he, hb3⟩
  have he : e = .returned (.tuple #[.agg #[.bool true, .bool false, .bool false, .bool true], .bool true]) := he
  subst he
  have HD3 := Lib.hid (rd_first (k := 2) (cs := #[.int .i64 2, .string ⟨#[]⟩, .string ⟨#[]⟩, .int .i64 0, .slice none 0 0]) HH.out HG1.out HC1.out hb3)
  have HD3 : Hid (RD w X g w.heap.size w1.heap.size w3.heap.size 2 #[.int .i64 2, .string ⟨#[]⟩, .string ⟨#[]⟩, .int .i64 0, .slice none 0 0] n1.2 (w3.alloc (.cells #[.bool true, .bool false, .bool false, .bool true] 135))) := HD3
  clear hb3
  have n12 : ¬ (w.heap.size = w1.heap.size) := HD3.out.far
  have n21 : ¬ (w1.heap.size = w.heap.size) := fun h => HD3.out.far h.symm
  have n32 : ¬ (w3.heap.size = w1.heap.size) := HD3.out.far3
  have n31 : ¬ (w3.heap.size = w.heap.size) := HD3.out.far4
  obtain ⟨⟨a0, a1, a2, a3, a4⟩, ⟨f0, f1, f2, f3, f4⟩⟩ := Blk.cells5 HD3.out.op
  obtain ⟨⟨r0, r1, r2, r3, r4⟩, ⟨q0, q1, q2, q3, q4⟩⟩ := Blk.cells5 HD3.out.res
  obtain ⟨b0, b1, b2, b3⟩ := HD3.out.fld.cells
  have b0 : World.cell? _ _ = some (.bool true) := b0
  have b1 : World.cell? _ _ = some (.bool false) := b1
  have b2 : World.cell? _ _ = some (.bool false) := b2
  have b3 : World.cell? _ _ = some (.bool true) := b3
  have lxT := Cm.bytesS_len n1.2 64
  have HC4 := Lib.hid (bytes_any _ _ g n1.2 HD3.out.rd 64 (by omega) (by omega) (by omega))
  generalize hxT : Cm.bytesS n1.2 64 = xT at *
  clear hxT
  go_wp2_with fail
  refine HC4.out.mono ?_
  rintro e u4 ⟨v4, rfl, hown, hg, hc⟩
  obtain ⟨A4, c4, rfl⟩ := own_shape hown
  have kc4 := run_convert_sl (P := Tryz.prog) u4 (fun _ => False) 22 9 5 A4 c4 xT.1 Tryz.underlying22 Tryz.underlying5 Tryz.underlying9 (Sl.of_own hown (fun _ _ _ h => h))
  have HE4 := Lib.hid (HD3.out.next hg hc)
  clear hown hg hc
  clear a0 a1 a2 a3 a4 f0 f1 f2 f3 f4 r0 r1 r2 r3 r4 q0 q1 q2 q3 q4 b0 b1 b2 b3
  obtain ⟨⟨a0, a1, a2, a3, a4⟩, ⟨f0, f1, f2, f3, f4⟩⟩ := Blk.cells5 HE4.out.op
  obtain ⟨⟨r0, r1, r2, r3, r4⟩, ⟨q0, q1, q2, q3, q4⟩⟩ := Blk.cells5 HE4.out.res
  obtain ⟨b0, b1, b2, b3⟩ := HE4.out.fld.cells
  have b0 : World.cell? _ _ = some (.bool true) := b0
  have b1 : World.cell? _ _ = some (.bool false) := b1
  have b2 : World.cell? _ _ = some (.bool false) := b2
  have b3 : World.cell? _ _ = some (.bool true) := b3
  have HD4 := Lib.hid (HE4.out.put 1 (.string ⟨xT.1.toArray⟩) (cs' := #[.int .i64 2, .string ⟨xT.1.toArray⟩, .string ⟨#[]⟩, .int .i64 0, .slice none 0 0]) rfl)
  have HC5 := Lib.hid (list_gen _ _ g xT.2 HD4.out.rd 4 64 (by omega) (by omega) (by omega) (by omega) (by omega) (.inr (by omega)))
  have h4 := listS_len4 xT.2
  generalize hxR : Cm.listS xT.2 4 64 = xR at *
  clear hxR
  go_wp2_with fail
  refine HC5.out.mono ?_
  rintro e u5 ⟨v5, rfl, hlist, hg, hc⟩
  obtain ⟨A5, c5, rfl⟩ : ∃ A c, v5 = .slice A xR.1.length c := by
    obtain ⟨vals, ⟨A, c, hv, _⟩, _⟩ := id hlist
    exact ⟨A, c, hv⟩
  have HF5 := Lib.hid (HD4.out.next hg hc)
  have HLI := Lib.hid hlist
  have HSZ := Lib.hid (HD4.out.op.lt)
  have HSZ1 := Lib.hid (HD4.out.res.lt)
  have HSZ0 := Lib.hid (HD4.out.grown.size)
  have HSZ3 := Lib.hid hg.size
  clear hlist hg hc
  go_wp2_with fail
  refine (recs_any _ _ A5 c5 xR.1 HLI.out (by omega)).mono ?_
  rintro e t5 ⟨A9, c9, rfl, hrow, hb9⟩
  have HE5 := Lib.hid (HF5.out.later hb9)
  have HROW := Lib.hid hrow
  clear hrow hb9
  clear a0 a1 a2 a3 a4 f0 f1 f2 f3 f4 r0 r1 r2 r3 r4 q0 q1 q2 q3 q4 b0 b1 b2 b3
  obtain ⟨⟨a0, a1, a2, a3, a4⟩, ⟨f0, f1, f2, f3, f4⟩⟩ := Blk.cells5 HE5.out.op
  obtain ⟨⟨r0, r1, r2, r3, r4⟩, ⟨q0, q1, q2, q3, q4⟩⟩ := Blk.cells5 HE5.out.res
  obtain ⟨b0, b1, b2, b3⟩ := HE5.out.fld.cells
  have b0 : World.cell? _ _ = some (.bool true) := b0
  have b1 : World.cell? _ _ = some (.bool false) := b1
  have b2 : World.cell? _ _ = some (.bool false) := b2
  have b3 : World.cell? _ _ = some (.bool true) := b3
  have HD5 := Lib.hid (HE5.out.put 4 (.slice A9 xR.1.length c9) (cs' := #[.int .i64 2, .string ⟨xT.1.toArray⟩, .string ⟨#[]⟩, .int .i64 0, .slice A9 xR.1.length c9]) rfl)
  have HLS : Hid (Ls (t5.setCell ⟨w1.heap.size, 4, none⟩ (.slice A9 xR.1.length c9)) (fun k => k < w.heap.size ∨ k = w.heap.size) (.slice A9 xR.1.length c9) xR.1) := Lib.hid (by
    have z1 := HSZ.out
    have z2 := HSZ1.out
    have z3 := HSZ0.out
    have z4 := HSZ3.out
    have cg := grown_setCell (World.grownBy.refl t5 (some w1.heap.size)) (p := ⟨w1.heap.size, 4, none⟩) (.inl rfl) (.slice A9 xR.1.length c9)
    refine (HROW.out.grown cg (fun q hq hlt => ?_)).weaken (fun k _ hk => ?_)
    · injection hq with hq
      subst hq
      exact ⟨z1, by omega⟩
    · rcases hk with hk | hk
      · exact ⟨by omega, by omega⟩
      · subst hk; exact ⟨z2, by omega⟩)
  go_wp2_with fail
  refine bodyPost_ret (results_row1 rfl _ _ w.heap.size 25 #[.int .i64 2, .string ⟨xT.1.toArray⟩, .string ⟨#[]⟩, .int .i64 0, .slice A9 xR.1.length c9] (0, 0) _ rfl (res_blk HD5.out.res _ _ _ _ _) Tryz.underlying25 rfl size_op) rfl ?_
  exact readed_of (o := ⟨2, xT.1, [], (0 : Nat), xR.1⟩) HD5.out _ _ _ _ _ rfl HLS.out HRD.out

set_option maxRecDepth 100000 in
set_option maxHeartbeats 4000000 in
theorem read_3 (w : World) (X : Nat → Prop) (g : Nat) (s : Cm.RS) (h : CR w X g s) (hl : s.1.length ≤ 140737488355328) (hk : (Cm.numS s 4).1 = 3) :
    Calls Tryz.prog 62 #[P_ g] w (Readed w X g (rd s)) := by
  have hcr : CR (w.alloc (.cells Z5 25)) (fun k => X k ∨ w.heap.size ≤ k) g s := (h.old (Nat.le_refl _)).after ((Below.refl _ w).alloc (Nat.le_refl _) _)
  have HN := Lib.hid (num_any _ _ g s hcr 4)
  have HH := Lib.hid h
  have l1 := Cm.numS_len s 4
  have HRD : Hid (rd s = ((⟨3, (Cm.bytesS (Cm.numS s 4).2 64).1, (Cm.bytesS (Cm.bytesS (Cm.numS s 4).2 64).2 64).1, ((Cm.numS (Cm.bytesS (Cm.bytesS (Cm.numS s 4).2 64).2 64).2 9007199254740992).1 : Nat), []⟩ : O), (Cm.numS (Cm.bytesS (Cm.bytesS (Cm.numS s 4).2 64).2 64).2 9007199254740992).2)) := Lib.hid (by
    unfold rd rdT rdG rdO rdR
    simp only [hk]
    rfl)
  have HK := Lib.hid hk
  clear h hcr hk
  generalize hS1 : Cm.numS s 4 = n1 at *
  clear hS1
  unfold Z5 at HN
  go_enter Tryz.func62, Tryz.ntmps62
  go_wp2_with fail
  refine HN.out.mono ?_
  rintro e w1 ⟨he, hg1, hc1⟩
  rw [HK.out] at he
  have he : e = .returned (.int .u64 3) := he
  subst he
  have HG1 := Lib.hid hg1
  have HC1 := Lib.hid hc1
  clear hg1 hc1
  go_wp2_with fail
  refine (fields_any 3 _).mono ?_
  rintro e w3 ⟨he, hb3⟩
  have he : e = .returned (.tuple #[.agg #[.bool true, .bool true, .bool true, .bool false], .bool true]) := he
  subst he
  have HD3 := Lib.hid (rd_first (k := 3) (cs := #[.int .i64 3, .string ⟨#[]⟩, .string ⟨#[]⟩, .int .i64 0, .slice none 0 0]) HH.out HG1.out HC1.out hb3)
  have HD3 : Hid (RD w X g w.heap.size w1.heap.size w3.heap.size 3 #[.int .i64 3, .string ⟨#[]⟩, .string ⟨#[]⟩, .int .i64 0, .slice none 0 0] n1.2 (w3.alloc (.cells #[.bool true, .bool true, .bool true, .bool false] 135))) := HD3
  clear hb3
  have n12 : ¬ (w.heap.size = w1.heap.size) := HD3.out.far
  have n21 : ¬ (w1.heap.size = w.heap.size) := fun h => HD3.out.far h.symm
  have n32 : ¬ (w3.heap.size = w1.heap.size) := HD3.out.far3
  have n31 : ¬ (w3.heap.size = w.heap.size) := HD3.out.far4
  obtain ⟨⟨a0, a1, a2, a3, a4⟩, ⟨f0, f1, f2, f3, f4⟩⟩ := Blk.cells5 HD3.out.op
  obtain ⟨⟨r0, r1, r2, r3, r4⟩, ⟨q0, q1, q2, q3, q4⟩⟩ := Blk.cells5 HD3.out.res
  obtain ⟨b0, b1, b2, b3⟩ := HD3.out.fld.cells
  have b0 : World.cell? _ _ = some (.bool true) := b0
  have b1 : World.cell? _ _ = some (.bool true) := b1
  have b2 : World.cell? _ _ = some (.bool true) := b2
  have b3 : World.cell? _ _ = some (.bool false) := b3
  have lxT := Cm.bytesS_len n1.2 64
  have HC4 := Lib.hid (bytes_any _ _ g n1.2 HD3.out.rd 64 (by omega) (by omega) (by omega))
  generalize hxT : Cm.bytesS n1.2 64 = xT at *
  clear hxT
  go_wp2_with fail
  refine HC4.out.mono ?_
  rintro e u4 ⟨v4, rfl, hown, hg, hc⟩
  obtain ⟨A4, c4, rfl⟩ := own_shape hown
  have kc4 := run_convert_sl (P := Tryz.prog) u4 (fun _ => False) 22 9 5 A4 c4 xT.1 Tryz.underlying22 Tryz.underlying5 Tryz.underlying9 (Sl.of_own hown (fun _ _ _ h => h))
  have HE4 := Lib.hid (HD3.out.next hg hc)
  clear hown hg hc
  clear a0 a1 a2 a3 a4 f0 f1 f2 f3 f4 r0 r1 r2 r3 r4 q0 q1 q2 q3 q4 b0 b1 b2 b3
  obtain ⟨⟨a0, a1, a2, a3, a4⟩, ⟨f0, f1, f2, f3, f4⟩⟩ := Blk.cells5 HE4.out.op
  obtain ⟨⟨r0, r1, r2, r3, r4⟩, ⟨q0, q1, q2, q3, q4⟩⟩ := Blk.cells5 HE4.out.res
  obtain ⟨b0, b1, b2, b3⟩ := HE4.out.fld.cells
  have b0 : World.cell? _ _ = some (.bool true) := b0
  have b1 : World.cell? _ _ = some (.bool true) := b1
  have b2 : World.cell? _ _ = some (.bool true) := b2
  have b3 : World.cell? _ _ = some (.bool false) := b3
  have HD4 := Lib.hid (HE4.out.put 1 (.string ⟨xT.1.toArray⟩) (cs' := #[.int .i64 3, .string ⟨xT.1.toArray⟩, .string ⟨#[]⟩, .int .i64 0, .slice none 0 0]) rfl)
  have lxG := Cm.bytesS_len xT.2 64
  have HC5 := Lib.hid (bytes_any _ _ g xT.2 HD4.out.rd 64 (by omega) (by omega) (by omega))
  generalize hxG : Cm.bytesS xT.2 64 = xG at *
  clear hxG
  go_wp2_with fail
  refine HC5.out.mono ?_
  rintro e u5 ⟨v5, rfl, hown, hg, hc⟩
  obtain ⟨A5, c5, rfl⟩ := own_shape hown
  have kc5 := run_convert_sl (P := Tryz.prog) u5 (fun _ => False) 22 9 5 A5 c5 xG.1 Tryz.underlying22 Tryz.underlying5 Tryz.underlying9 (Sl.of_own hown (fun _ _ _ h => h))
  have HE5 := Lib.hid (HD4.out.next hg hc)
  clear hown hg hc
  clear a0 a1 a2 a3 a4 f0 f1 f2 f3 f4 r0 r1 r2 r3 r4 q0 q1 q2 q3 q4 b0 b1 b2 b3
  obtain ⟨⟨a0, a1, a2, a3, a4⟩, ⟨f0, f1, f2, f3, f4⟩⟩ := Blk.cells5 HE5.out.op
  obtain ⟨⟨r0, r1, r2, r3, r4⟩, ⟨q0, q1, q2, q3, q4⟩⟩ := Blk.cells5 HE5.out.res
  obtain ⟨b0, b1, b2, b3⟩ := HE5.out.fld.cells
  have b0 : World.cell? _ _ = some (.bool true) := b0
  have b1 : World.cell? _ _ = some (.bool true) := b1
  have b2 : World.cell? _ _ = some (.bool true) := b2
  have b3 : World.cell? _ _ = some (.bool false) := b3
  have HD5 := Lib.hid (HE5.out.put 2 (.string ⟨xG.1.toArray⟩) (cs' := #[.int .i64 3, .string ⟨xT.1.toArray⟩, .string ⟨xG.1.toArray⟩, .int .i64 0, .slice none 0 0]) rfl)
  have lxF := Cm.numS_len xG.2 9007199254740992
  have mxF := Cm.numS_le xG.2 9007199254740992
  have HC6 := Lib.hid (num_any _ _ g xG.2 HD5.out.rd 9007199254740992)
  generalize hxF : Cm.numS xG.2 9007199254740992 = xF at *
  clear hxF
  have hw6 := wrap_i64n xF.1 (by omega)
  have HM6 := Lib.hid mxF
  clear mxF
  go_wp2_with fail
  refine HC6.out.mono ?_
  rintro e u6 ⟨rfl, hg, hc⟩
  have HE6 := Lib.hid (HD5.out.next hg hc)
  clear hg hc
  clear a0 a1 a2 a3 a4 f0 f1 f2 f3 f4 r0 r1 r2 r3 r4 q0 q1 q2 q3 q4 b0 b1 b2 b3
  obtain ⟨⟨a0, a1, a2, a3, a4⟩, ⟨f0, f1, f2, f3, f4⟩⟩ := Blk.cells5 HE6.out.op
  obtain ⟨⟨r0, r1, r2, r3, r4⟩, ⟨q0, q1, q2, q3, q4⟩⟩ := Blk.cells5 HE6.out.res
  obtain ⟨b0, b1, b2, b3⟩ := HE6.out.fld.cells
  have b0 : World.cell? _ _ = some (.bool true) := b0
  have b1 : World.cell? _ _ = some (.bool true) := b1
  have b2 : World.cell? _ _ = some (.bool true) := b2
  have b3 : World.cell? _ _ = some (.bool false) := b3
  have HD6 := Lib.hid (HE6.out.put 3 (.int .i64 (xF.1 : Nat)) (cs' := #[.int .i64 3, .string ⟨xT.1.toArray⟩, .string ⟨xG.1.toArray⟩, .int .i64 (xF.1 : Nat), .slice none 0 0]) rfl)
  go_wp2_with fail
  refine bodyPost_ret (results_row1 rfl _ _ w.heap.size 25 #[.int .i64 3, .string ⟨xT.1.toArray⟩, .string ⟨xG.1.toArray⟩, .int .i64 (xF.1 : Nat), .slice none 0 0] (0, 0) _ rfl (res_blk HD6.out.res _ _ _ _ _) Tryz.underlying25 rfl size_op) rfl ?_
  exact readed_of (o := ⟨3, xT.1, xG.1, (xF.1 : Nat), []⟩) HD6.out _ _ _ _ _ rfl (ls_nil _ _) HRD.out

set_option maxRecDepth 100000 in
set_option maxHeartbeats 4000000 in
theorem read_4 (w : World) (X : Nat → Prop) (g : Nat) (s : Cm.RS) (h : CR w X g s) (hl : s.1.length ≤ 140737488355328) (hk : (Cm.numS s 4).1 = 4) :
    Calls Tryz.prog 62 #[P_ g] w (Readed w X g (rd s)) := by
  have hcr : CR (w.alloc (.cells Z5 25)) (fun k => X k ∨ w.heap.size ≤ k) g s := (h.old (Nat.le_refl _)).after ((Below.refl _ w).alloc (Nat.le_refl _) _)
  have HN := Lib.hid (num_any _ _ g s hcr 4)
  have HH := Lib.hid h
  have l1 := Cm.numS_len s 4
  have HRD : Hid (rd s = ((⟨4, (Cm.bytesS (Cm.numS s 4).2 64).1, [], ((Cm.numS (Cm.bytesS (Cm.numS s 4).2 64).2 9007199254740992).1 : Nat), []⟩ : O), (Cm.numS (Cm.bytesS (Cm.numS s 4).2 64).2 9007199254740992).2)) := Lib.hid (by
    unfold rd rdT rdG rdO rdR
    simp only [hk]
    rfl)
  have HK := Lib.hid hk
  clear h hcr hk
  generalize hS1 : Cm.numS s 4 = n1 at *
  clear hS1
  unfold Z5 at HN
  go_enter Tryz.func62, Tryz.ntmps62
  go_wp2_with fail
  refine HN.out.mono ?_
  rintro e w1 ⟨he, hg1, hc1⟩
  rw [HK.out] at he
  have he : e = .returned (.int .u64 4) := he
  subst he
  have HG1 := Lib.hid hg1
  have HC1 := Lib.hid hc1
  clear hg1 hc1
  go_wp2_with fail
  refine (fields_any 4 _).mono ?_
  rintro e w3 ⟨he, hb3⟩
  have he : e = .returned (.tuple #[.agg #[.bool true, .bool false, .bool true, .bool false], .bool true]) := he
  subst he
  have HD3 := Lib.hid (rd_first (k := 4) (cs := #[.int .i64 4, .string ⟨#[]⟩, .string ⟨#[]⟩, .int .i64 0, .slice none 0 0]) HH.out HG1.out HC1.out hb3)
  have HD3 : Hid (RD w X g w.heap.size w1.heap.size w3.heap.size 4 #[.int .i64 4, .string ⟨#[]⟩, .string ⟨#[]⟩, .int .i64 0, .slice none 0 0] n1.2 (w3.alloc (.cells #[.bool true, .bool false, .bool true, .bool false] 135))) := HD3
  clear hb3
  have n12 : ¬ (w.heap.size = w1.heap.size) := HD3.out.far
  have n21 : ¬ (w1.heap.size = w.heap.size) := fun h => HD3.out.far h.symm
  have n32 : ¬ (w3.heap.size = w1.heap.size) := HD3.out.far3
  have n31 : ¬ (w3.heap.size = w.heap.size) := HD3.out.far4
  obtain ⟨⟨a0, a1, a2, a3, a4⟩, ⟨f0, f1, f2, f3, f4⟩⟩ := Blk.cells5 HD3.out.op
  obtain ⟨⟨r0, r1, r2, r3, r4⟩, ⟨q0, q1, q2, q3, q4⟩⟩ := Blk.cells5 HD3.out.res
  obtain ⟨b0, b1, b2, b3⟩ := HD3.out.fld.cells
  have b0 : World.cell? _ _ = some (.bool true) := b0
  have b1 : World.cell? _ _ = some (.bool false) := b1
  have b2 : World.cell? _ _ = some (.bool true) := b2
  have b3 : World.cell? _ _ = some (.bool false) := b3
  have lxT := Cm.bytesS_len n1.2 64
  have HC4 := Lib.hid (bytes_any _ _ g n1.2 HD3.out.rd 64 (by omega) (by omega) (by omega))
  generalize hxT : Cm.bytesS n1.2 64 = xT at *
  clear hxT
  go_wp2_with fail
  refine HC4.out.mono ?_
  rintro e u4 ⟨v4, rfl, hown, hg, hc⟩
  obtain ⟨A4, c4, rfl⟩ := own_shape hown
  have kc4 := run_convert_sl (P := Tryz.prog) u4 (fun _ => False) 22 9 5 A4 c4 xT.1 Tryz.underlying22 Tryz.underlying5 Tryz.underlying9 (Sl.of_own hown (fun _ _ _ h => h))
  have HE4 := Lib.hid (HD3.out.next hg hc)
  clear hown hg hc
  clear a0 a1 a2 a3 a4 f0 f1 f2 f3 f4 r0 r1 r2 r3 r4 q0 q1 q2 q3 q4 b0 b1 b2 b3
  obtain ⟨⟨a0, a1, a2, a3, a4⟩, ⟨f0, f1, f2, f3, f4⟩⟩ := Blk.cells5 HE4.out.op
  obtain ⟨⟨r0, r1, r2, r3, r4⟩, ⟨q0, q1, q2, q3, q4⟩⟩ := Blk.cells5 HE4.out.res
  obtain ⟨b0, b1, b2, b3⟩ := HE4.out.fld.cells
  have b0 : World.cell? _ _ = some (.bool true) := b0
  have b1 : World.cell? _ _ = some (.bool false) := b1
  have b2 : World.cell? _ _ = some (.bool true) := b2
  have b3 : World.cell? _ _ = some (.bool false) := b3
  have HD4 := Lib.hid (HE4.out.put 1 (.string ⟨xT.1.toArray⟩) (cs' := #[.int .i64 4, .string ⟨xT.1.toArray⟩, .string ⟨#[]⟩, .int .i64 0, .slice none 0 0]) rfl)
  have lxF := Cm.numS_len xT.2 9007199254740992
  have mxF := Cm.numS_le xT.2 9007199254740992
  have HC5 := Lib.hid (num_any _ _ g xT.2 HD4.out.rd 9007199254740992)
  generalize hxF : Cm.numS xT.2 9007199254740992 = xF at *
  clear hxF
  have hw5 := wrap_i64n xF.1 (by omega)
  have HM5 := Lib.hid mxF
  clear mxF
  go_wp2_with fail
  refine HC5.out.mono ?_
  rintro e u5 ⟨rfl, hg, hc⟩
  have HE5 := Lib.hid (HD4.out.next hg hc)
  clear hg hc
  clear a0 a1 a2 a3 a4 f0 f1 f2 f3 f4 r0 r1 r2 r3 r4 q0 q1 q2 q3 q4 b0 b1 b2 b3
  obtain ⟨⟨a0, a1, a2, a3, a4⟩, ⟨f0, f1, f2, f3, f4⟩⟩ := Blk.cells5 HE5.out.op
  obtain ⟨⟨r0, r1, r2, r3, r4⟩, ⟨q0, q1, q2, q3, q4⟩⟩ := Blk.cells5 HE5.out.res
  obtain ⟨b0, b1, b2, b3⟩ := HE5.out.fld.cells
  have b0 : World.cell? _ _ = some (.bool true) := b0
  have b1 : World.cell? _ _ = some (.bool false) := b1
  have b2 : World.cell? _ _ = some (.bool true) := b2
  have b3 : World.cell? _ _ = some (.bool false) := b3
  have HD5 := Lib.hid (HE5.out.put 3 (.int .i64 (xF.1 : Nat)) (cs' := #[.int .i64 4, .string ⟨xT.1.toArray⟩, .string ⟨#[]⟩, .int .i64 (xF.1 : Nat), .slice none 0 0]) rfl)
  go_wp2_with fail
  refine bodyPost_ret (results_row1 rfl _ _ w.heap.size 25 #[.int .i64 4, .string ⟨xT.1.toArray⟩, .string ⟨#[]⟩, .int .i64 (xF.1 : Nat), .slice none 0 0] (0, 0) _ rfl (res_blk HD5.out.res _ _ _ _ _) Tryz.underlying25 rfl size_op) rfl ?_
  exact readed_of (o := ⟨4, xT.1, [], (xF.1 : Nat), []⟩) HD5.out _ _ _ _ _ rfl (ls_nil _ _) HRD.out

theorem read_any (w : World) (X : Nat → Prop) (g : Nat) (s : Cm.RS) (h : CR w X g s) (hl : s.1.length ≤ 140737488355328) :
    Calls Tryz.prog 62 #[P_ g] w (Readed w X g (rd s)) := by
  have h4 := Cm.numS_le s 4
  have : (Cm.numS s 4).1 = 0 ∨ (Cm.numS s 4).1 = 1 ∨ (Cm.numS s 4).1 = 2 ∨ (Cm.numS s 4).1 = 3 ∨ (Cm.numS s 4).1 = 4 := by omega
  rcases this with hk | hk | hk | hk | hk
  · exact read_0 w X g s h hl hk
  · exact read_1 w X g s h hl hk
  · exact read_2 w X g s h hl hk
  · exact read_3 w X g s h hl hk
  · exact read_4 w X g s h hl hk

end Go.Proofs.YtebjjkhiniccgaaGreat.Qb
