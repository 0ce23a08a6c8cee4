/-
  Layer 6 (op): the contract of read, kind by kind.
-/
import Derived.Test.YtebjjkhiniccgaaGreatZ06
import Derived.Test.YtebjjkhiniccgaaGreatZ05
import Derived.Test.YtebjjkhiniccgaaGreatZ07
import Derived.Laws.StructEq
import Derived.Deep.RegionHeld3
import Derived.Test.YtebjjkhiniccgaaGreatZ02
import Derived.Test.YtebjjkhiniccgaaGreatBulk
namespace Go.Proofs.YtebjjkhiniccgaaGreat.Qb
set_option linter.unusedSimpArgs false
open Go Go.RowKit Ck Kw Ca Cb Ce Cf Cg Ch Ci Pm Pa Pe Pf Pg Ph Ppi Pk Pp
set_option linter.unusedVariables false

theorem results_row1 {P : Program} {fn : Func} {p : Tmp} {ty : TypeId} (h : fn.results = #[.cell p ty]) (tmps : Array Value) (w : World) (g : Nat) (t : TypeId) (cs : Array Value) (fr : Nat × Nat) (d : TypeDesc)
    (hp : tmps.getD p undef = .pointer (some ⟨g, 0, none⟩)) (hg : w.heap[g]? = some (.cells cs t fr))
    (hu : P.underlying ty = some d) (hd : (match d with | .struct _ | .array _ _ => true | _ => false) = true) (hi : (P.info? ty).map (·.size) = some cs.size) :
    (results fn tmps).run P w = .ok (.agg cs) w := by
  have hp' : tmps[p]?.getD undef = .pointer (some ⟨g, 0, none⟩) := by simpa using hp
  simp [results, h, hp', asAddr, run_loadVar_row w g t ty cs fr d hg hu hd hi]
theorem size_op : (Tryz.prog.info? 25).map (·.size) = some 5 := by kernel_rfl
theorem blk5 {w : World} {g : Nat} {t : TypeId} {a b c d e x0 x1 x2 x3 x4 : Value} (h : Blk w g t #[a, b, c, d, e]) :
    Blk (((((w.setCell ⟨g, 0, none⟩ x0).setCell ⟨g, 1, none⟩ x1).setCell ⟨g, 2, none⟩ x2).setCell ⟨g, 3, none⟩ x3).setCell ⟨g, 4, none⟩ x4) g t #[x0, x1, x2, x3, x4] := by
  have := ((((h.set_ 0 x0).set_ 1 x1).set_ 2 x2).set_ 3 x3).set_ 4 x4
  simpa using this
theorem Blk.cells5 {W : World} {g : Nat} {t : TypeId} {a b c d e : Value} (h : Blk W g t #[a, b, c, d, e]) :
    (W.cell? ⟨g, 0, none⟩ = some a ∧ W.cell? ⟨g, 1, none⟩ = some b ∧ W.cell? ⟨g, 2, none⟩ = some c ∧ W.cell? ⟨g, 3, none⟩ = some d ∧ W.cell? ⟨g, 4, none⟩ = some e) ∧
    (W.frozen? ⟨g, 0, none⟩ = false ∧ W.frozen? ⟨g, 1, none⟩ = false ∧ W.frozen? ⟨g, 2, none⟩ = false ∧ W.frozen? ⟨g, 3, none⟩ = false ∧ W.frozen? ⟨g, 4, none⟩ = false) :=
  ⟨⟨h.cell 0, h.cell 1, h.cell 2, h.cell 3, h.cell 4⟩, ⟨h.frozen 0, h.frozen 1, h.frozen 2, h.frozen 3, h.frozen 4⟩⟩

/-- The cells of no operation. -/
def Z5 : Array Value := #[.int .i64 0, .string ⟨#[]⟩, .string ⟨#[]⟩, .int .i64 0, .slice none 0 0]
/-- Within the call: the result's cells, the operation's, its kind's fields, the reader. -/
structure RD (w0 : World) (X : Nat → Prop) (g g1 g2 g3 : Nat) (k : Int) (cs : Array Value) (s : Cm.RS) (W : World) : Prop where
  grown : w0.grownBy W (some g)
  old : g < w0.heap.size
  new1 : w0.heap.size ≤ g1
  new2 : w0.heap.size ≤ g2
  new3 : w0.heap.size ≤ g3
  far : g1 ≠ g2
  far3 : g3 ≠ g2
  far4 : g3 ≠ g1
  res : Blk W g1 25 Z5
  op : Blk W g2 25 cs
  fld : FB W g3 k
  rd : CR W (fun k => X k ∨ w0.heap.size ≤ k) g s
section
variable {w0 W W' : World} {X : Nat → Prop} {g g1 g2 g3 : Nat} {k : Int} {cs cs' : Array Value} {s s' : Cm.RS}
theorem RD.next (h : RD w0 X g g1 g2 g3 k cs s W) (hg : W.grownBy W' (some g)) (hc : CR W' (fun k => X k ∨ w0.heap.size ≤ k) g s') : RD w0 X g g1 g2 g3 k cs s' W' := by
  have o := h.old; have n1 := h.new1; have n2 := h.new2; have n3 := h.new3
  exact ⟨h.grown.trans hg, h.old, h.new1, h.new2, h.new3, h.far, h.far3, h.far4, h.res.grown hg (by simp; omega), h.op.grown hg (by simp; omega), Blk.grown h.fld hg (by simp; omega), hc⟩
theorem RD.later (h : RD w0 X g g1 g2 g3 k cs s W) (hb : Below W.heap.size W W') : RD w0 X g g1 g2 g3 k cs s W' :=
  h.next (grown_of_below hb _) (h.rd.after hb)
theorem RD.put (h : RD w0 X g g1 g2 g3 k cs s W) (i : Nat) (u : Value) (hcs : cs.setIfInBounds i u = cs') : RD w0 X g g1 g2 g3 k cs' s (W.setCell ⟨g2, i, none⟩ u) := by
  subst hcs
  have o := h.old; have n1 := h.new1; have n2 := h.new2; have n3 := h.new3; have f1 := h.far; have f3 := h.far3
  exact ⟨grown_setCell h.grown (.inr n2) u, h.old, h.new1, h.new2, h.new3, h.far, h.far3, h.far4, h.res.far f1 u, h.op.set_ i u, Blk.far h.fld f3 u,
    h.rd.grown (row := some g2) (grown_setCell (World.grownBy.refl W (some g2)) (.inl rfl) u) (by simp; omega) (fun q hq _ => by injection hq with hq; exact .inr (by omega))⟩
end
theorem rd_first {w w1 w3 : World} {X : Nat → Prop} {g : Nat} {s s' : Cm.RS} {k : Int} {cs : Array Value} (h : CR w X g s) (hg1 : (w.alloc (.cells Z5 25)).grownBy w1 (some g)) (hc1 : CR w1 (fun k => X k ∨ w.heap.size ≤ k) g s')
    (hb3 : Below (w1.alloc (.cells cs 25)).heap.size (w1.alloc (.cells cs 25)) w3) :
    RD w X g w.heap.size w1.heap.size w3.heap.size k cs s' (w3.alloc (.cells #[.bool (hasT k), .bool (hasG k), .bool (hasO k), .bool (hasR k)] 135)) := by
  have hlt := h.lt
  have b0 : Below w.heap.size w (w.alloc (.cells Z5 25)) := (Below.refl _ w).alloc (Nat.le_refl _) _
  have s0 : (w.alloc (.cells Z5 25)).heap.size = w.heap.size + 1 := by simp
  have s1 := hg1.size
  have s2 : (w1.alloc (.cells cs 25)).heap.size = w1.heap.size + 1 := by simp
  have s3 := hb3.size
  have r0 : Blk (w.alloc (.cells Z5 25)) w.heap.size 25 Z5 := Blk.new _ _ _
  have r1 : Blk w1 w.heap.size 25 Z5 := r0.grown hg1 (by simp; omega)
  have r2 := r1.alloc (.cells cs 25)
  have o2 : Blk (w1.alloc (.cells cs 25)) w1.heap.size 25 cs := Blk.new _ _ _
  have b2 : Below w1.heap.size w1 (w1.alloc (.cells cs 25)) := (Below.refl _ w1).alloc (Nat.le_refl _) _
  have b3 : Below w1.heap.size w1 w3 := b2.trans (hb3.mono b2.size)
  have b4 : Below w1.heap.size w1 (w3.alloc (.cells #[.bool (hasT k), .bool (hasG k), .bool (hasO k), .bool (hasR k)] 135)) := b3.alloc b3.size _
  have gr : w.grownBy w1 (some g) := (grown_of_below b0 (some g)).trans hg1
  refine ⟨grown_below gr b4, hlt, Nat.le_refl _, by omega, by omega, by omega, by omega, by omega, (r2.below hb3 r2.lt).alloc _, (o2.below hb3 o2.lt).alloc _, Blk.new w3 _ _, hc1.after b4⟩
/-- What a reading of an operation leaves. -/
def Readed (w : World) (X : Nat → Prop) (g : Nat) (r : O × Cm.RS) (e : Ending) (w' : World) : Prop := ∃ v, e = .returned v ∧ OI w' (fun k => k < w.heap.size) v r.1 ∧ w.grownBy w' (some g) ∧ CR w' X g r.2
theorem readed_of {w W : World} {X : Nat → Prop} {g g1 g2 g3 : Nat} {k : Int} {cs : Array Value} {s : Cm.RS} {o : O} {A : Option Addr} {c : Nat} {r : O × Cm.RS} (h : RD w X g g1 g2 g3 k cs s W) (x0 x1 x2 x3 x4 : Value) (hv : Value.agg #[x0, x1, x2, x3, x4] = OV o A c)
    (hls : Ls W (fun k => k < w.heap.size ∨ k = g1) (.slice A o.recs.length c) o.recs) (hr : r = (o, s)) :
    Readed w X g r (.returned (.agg #[x0, x1, x2, x3, x4])) (((((W.setCell ⟨g1, 0, none⟩ x0).setCell ⟨g1, 1, none⟩ x1).setCell ⟨g1, 2, none⟩ x2).setCell ⟨g1, 3, none⟩ x3).setCell ⟨g1, 4, none⟩ x4) := by
  subst hr
  have n1 := h.new1
  have o1 := h.old
  have cg : W.grownBy (((((W.setCell ⟨g1, 0, none⟩ x0).setCell ⟨g1, 1, none⟩ x1).setCell ⟨g1, 2, none⟩ x2).setCell ⟨g1, 3, none⟩ x3).setCell ⟨g1, 4, none⟩ x4) (some g1) :=
    grown_setCell (grown_setCell (grown_setCell (grown_setCell (grown_setCell (World.grownBy.refl W (some g1)) (p := ⟨g1, 0, none⟩) (.inl rfl) x0) (p := ⟨g1, 1, none⟩) (.inl rfl) x1) (p := ⟨g1, 2, none⟩) (.inl rfl) x2) (p := ⟨g1, 3, none⟩) (.inl rfl) x3) (p := ⟨g1, 4, none⟩) (.inl rfl) x4
  refine ⟨_, rfl, ⟨A, c, hv, (hls.grown cg (fun q hq _ => by injection hq with hq; exact .inr hq.symm)).weaken (fun k _ hk => .inl hk)⟩, ?_, ?_⟩
  · exact grown_step h.grown cg (.inr fun q hq => by injection hq with hq; omega)
  · exact (h.rd.grown cg (by simp; omega) (fun q hq _ => by injection hq with hq; exact .inr (by omega))).weaken (fun k _ hk => .inl hk)
theorem res_blk {W : World} {g1 : Nat} (h : Blk W g1 25 Z5) (x0 x1 x2 x3 x4 : Value) :
    (((((W.setCell ⟨g1, 0, none⟩ x0).setCell ⟨g1, 1, none⟩ x1).setCell ⟨g1, 2, none⟩ x2).setCell ⟨g1, 3, none⟩ x3).setCell ⟨g1, 4, none⟩ x4).heap[g1]? = some (.cells #[x0, x1, x2, x3, x4] 25 (0, 0)) := blk5 h
theorem wrap_i64n (z : Nat) (h : z ≤ 9223372036854775807) : IntKind.i64.wrap (z : Int) = (z : Int) := by
  simp [IntKind.wrap, IntKind.bits, IntKind.signed]
  omega
theorem ls_nil (W : World) (X : Nat → Prop) : Ls W X (.slice none 0 0) [] := ⟨[], Sl.nil _ _ _, fun i hi => absurd hi (by simp)⟩

set_option maxRecDepth 100000 in
set_option maxHeartbeats 4000000 in
theorem read_0 (w : World) (X : Nat → Prop) (g : Nat) (s : Cm.RS) (h : CR w X g s) (hl : s.1.length ≤ 140737488355328) (hk : (Cm.numS s 4).1 = 0) :
    Calls Tryz.prog 62 #[P_ g] w (Readed w X g (rd s)) := by
  have hcr : CR (w.alloc (.cells Z5 25)) (fun k => X k ∨ w.heap.size ≤ k) g s := (h.old (Nat.le_refl _)).after ((Below.refl _ w).alloc (Nat.le_refl _) _)
  have HN := Lib.hid (num_any _ _ g s hcr 4)
  have HH := Lib.hid h
  have l1 := Cm.numS_len s 4
  have HRD : Hid (rd s = ((⟨0, [], [], ((0 : Nat) : Nat), []⟩ : O), (Cm.numS s 4).2)) := Lib.hid (by
    unfold rd rdT rdG rdO rdR
    simp only [hk]
    rfl)
  have HK := Lib.hid hk
  clear h hcr hk
  generalize hS1 : Cm.numS s 4 = n1 at *
  clear hS1
  unfold Z5 at HN
  go_enter Tryz.func62, Tryz.ntmps62
  go_wp2_with fail
  refine HN.out.mono ?_
  rintro e w1 ⟨he, hg1, hc1⟩
  rw [HK.out] at he
  have he : e = .returned (.int .u64 0) := he
  subst he
  have HG1 := Lib.hid hg1
  have HC1 := Lib.hid hc1
  clear hg1 hc1
  go_wp2_with fail
  refine (fields_any 0 _).mono ?_
  rintro e w3 ⟨he, hb3⟩
  have he : e = .returned (.tuple #[.agg #[.bool false, .bool false, .bool false, .bool false], .bool true]) := he
  subst he
  have HD3 := Lib.hid (rd_first (k := 0) (cs := #[.int .i64 0, .string ⟨#[]⟩, .string ⟨#[]⟩, .int .i64 0, .slice none 0 0]) HH.out HG1.out HC1.out hb3)
  have HD3 : Hid (RD w X g w.heap.size w1.heap.size w3.heap.size 0 #[.int .i64 0, .string ⟨#[]⟩, .string ⟨#[]⟩, .int .i64 0, .slice none 0 0] n1.2 (w3.alloc (.cells #[.bool false, .bool false, .bool false, .bool false] 135))) := HD3
  clear hb3
  have n12 : ¬ (w.heap.size = w1.heap.size) := HD3.out.far
  have n21 : ¬ (w1.heap.size = w.heap.size) := fun h => HD3.out.far h.symm
  have n32 : ¬ (w3.heap.size = w1.heap.size) := HD3.out.far3
  have n31 : ¬ (w3.heap.size = w.heap.size) := HD3.out.far4
  obtain ⟨⟨a0, a1, a2, a3, a4⟩, ⟨f0, f1, f2, f3, f4⟩⟩ := Blk.cells5 HD3.out.op
  obtain ⟨⟨r0, r1, r2, r3, r4⟩, ⟨q0, q1, q2, q3, q4⟩⟩ := Blk.cells5 HD3.out.res
  obtain ⟨b0, b1, b2, b3⟩ := HD3.out.fld.cells
  have b0 : World.cell? _ _ = some (.bool false) := b0
  have b1 : World.cell? _ _ = some (.bool false) := b1
  have b2 : World.cell? _ _ = some (.bool false) := b2
  have b3 : World.cell? _ _ = some (.bool false) := b3
  go_wp2_with fail
  refine bodyPost_ret (results_row1 rfl _ _ w.heap.size 25 #[.int .i64 0, .string ⟨#[]⟩, .string ⟨#[]⟩, .int .i64 0, .slice none 0 0] (0, 0) _ rfl (res_blk HD3.out.res _ _ _ _ _) Tryz.underlying25 rfl size_op) rfl ?_
  exact readed_of (o := ⟨0, [], [], (0 : Nat), []⟩) HD3.out _ _ _ _ _ rfl (ls_nil _ _) HRD.out

set_option maxRecDepth 100000 in
set_option maxHeartbeats 4000000 in
theorem read_1 (w : World) (X : Nat → Prop) (g : Nat) (s : Cm.RS) (h : CR w X g s) (hl : s.1.length ≤ 140737488355328) (hk : (Cm.numS s 4).1 = 1) :
    Calls Tryz.prog 62 #[P_ g] w (Readed w X g (rd s)) := by
  have hcr : CR (w.alloc (.cells Z5 25)) (fun k => X k ∨ w.heap.size ≤ k) g s := (h.old (Nat.le_refl _)).after ((Below.refl _ w).alloc (Nat.le_refl _) _)
  have HN := Lib.hid (num_any _ _ g s hcr 4)
  have HH := Lib.hid h
  have l1 := Cm.numS_len s 4
  have HRD : Hid (rd s = ((⟨1, (Cm.bytesS (Cm.numS s 4).2 64).1, [], ((0 : Nat) : Nat), []⟩ : O), (Cm.bytesS (Cm.numS s 4).2 64).2)) := Lib.hid (by
    unfold rd rdT rdG rdO rdR
    simp only [hk]
    rfl)
  have HK := Lib.hid hk
  clear h hcr hk
  generalize hS1 : Cm.numS s 4 = n1 at *
  clear hS1
  unfold Z5 at HN
  go_enter Tryz.func62, Tryz.ntmps62
  go_wp2_with fail
  refine HN.out.mono ?_
  rintro e w1 ⟨he, hg1, hc1⟩
  rw [HK.out] at he
  have he : e = .returned (.int .u64 1) := he
  subst he
  have HG1 := Lib.hid hg1
  have HC1 := Lib.hid hc1
  clear hg1 hc1
  go_wp2_with fail
  refine (fields_any 1 _).mono ?_
  rintro e w3 ⟨he, hb3⟩
  have he : e = .returned (.tuple #[.agg #[.bool true, .bool false, .bool false, .bool false], .bool true]) := he
  subst he
  have HD3 := Lib.hid (rd_first (k := 1) (cs := #[.int .i64 1, .string ⟨#[]⟩, .string ⟨#[]⟩, .int .i64 0, .slice none 0 0]) HH.out HG1.out HC1.out hb3)
  have HD3 : Hid (RD w X g w.heap.size w1.heap.size w3.heap.size 1 #[.int .i64 1, .string ⟨#[]⟩, .string ⟨#[]⟩, .int .i64 0, .slice none 0 0] n1.2 (w3.alloc (.cells #[.bool true, .bool false, .bool false, .bool false] 135))) := HD3
  clear hb3
  have n12 : ¬ (w.heap.size = w1.heap.size) := HD3.out.far
  have n21 : ¬ (w1.heap.size = w.heap.size) := fun h => HD3.out.far h.symm
  have n32 : ¬ (w3.heap.size = w1.heap.size) := HD3.out.far3
  have n31 : ¬ (w3.heap.size = w.heap.size) := HD3.out.far4
  obtain ⟨⟨a0, a1, a2, a3, a4⟩, ⟨f0, f1, f2, f3, f4⟩⟩ := Blk.cells5 HD3.out.op
  obtain ⟨⟨r0, r1, r2, r3, r4⟩, ⟨q0, q1, q2, q3, q4⟩⟩ := Blk.cells5 HD3.out.res
  obtain ⟨b0, b1, b2, b3⟩ := HD3.out.fld.cells
  have b0 : World.cell? _ _ = some (.bool true) := b0
  have b1 : World.cell? _ _ = some (.bool false) := b1
  have b2 : World.cell? _ _ = some (.bool false) := b2
  have b3 : World.cell? _ _ = some (.bool false) := b3
  have lxT := Cm.bytesS_len n1.2 64
  have HC4 := Lib.hid (bytes_any _ _ g n1.2 HD3.out.rd 64 (by omega) (by omega) (by omega))
  generalize hxT : Cm.bytesS n1.2 64 = xT at *
  clear hxT
  go_wp2_with fail
  refine HC4.out.mono ?_
  rintro e u4 ⟨v4, rfl, hown, hg, hc⟩
  obtain ⟨A4, c4, rfl⟩ := own_shape hown
  have kc4 := run_convert_sl (P := Tryz.prog) u4 (fun _ => False) 22 9 5 A4 c4 xT.1 Tryz.underlying22 Tryz.underlying5 Tryz.underlying9 (Sl.of_own hown (fun _ _ _ h => h))
  have HE4 := Lib.hid (HD3.out.next hg hc)
  clear hown hg hc
  clear a0 a1 a2 a3 a4 f0 f1 f2 f3 f4 r0 r1 r2 r3 r4 q0 q1 q2 q3 q4 b0 b1 b2 b3
  obtain ⟨⟨a0, a1, a2, a3, a4⟩, ⟨f0, f1, f2, f3, f4⟩⟩ := Blk.cells5 HE4.out.op
  obtain ⟨⟨r0, r1, r2, r3, r4⟩, ⟨q0, q1, q2, q3, q4⟩⟩ := Blk.cells5 HE4.out.res
  obtain ⟨b0, b1, b2, b3⟩ := HE4.out.fld.cells
  have b0 : World.cell? _ _ = some (.bool true) := b0
  have b1 : World.cell? _ _ = some (.bool false) := b1
  have b2 : World.cell? _ _ = some (.bool false) := b2
  have b3 : World.cell? _ _ = some (.bool false) := b3
  have HD4 := Lib.hid (HE4.out.put 1 (.string ⟨xT.1.toArray⟩) (cs' := #[.int .i64 1, .string ⟨xT.1.toArray⟩, .string ⟨#[]⟩, .int .i64 0, .slice none 0 0]) rfl)
  go_wp2_with fail
  refine bodyPost_ret (results_row1 rfl _ _ w.heap.size 25 #[.int .i64 1, .string ⟨xT.1.toArray⟩, .string ⟨#[]⟩, .int .i64 0, .slice none 0 0] (0, 0) _ rfl (res_blk HD4.out.res _ _ _ _ _) Tryz.underlying25 rfl size_op) rfl ?_
  exact readed_of (o := ⟨1, xT.1, [], (0 : Nat), []⟩) HD4.out _ _ _ _ _ rfl (ls_nil _ _) HRD.out

set_option maxRecDepth 100000 in
set_option maxHeartbeats 4000000 in
theorem read_2 (w : World) (X : Nat → Prop) (g : Nat) (s : Cm.RS) (h : CR w X g s) (hl : s.1.length ≤ 140737488355328) (hk : (Cm.numS s 4).1 = 2) :
    Calls Tryz.prog 62 #[P_ g] w (Readed w X g (rd s)) := by
  have hcr : CR (w.alloc (.cells Z5 25)) (fun k => X k ∨ w.heap.size ≤ k) g s := (h.old (Nat.le_refl _)).after ((Below.refl _ w).alloc (Nat.le_refl _) _)
  have HN := Lib.hid (num_any _ _ g s hcr 4)
  have HH := Lib.hid h
  have l1 := Cm.numS_len s 4
  have HRD : Hid (rd s = ((⟨2, (Cm.bytesS (Cm.numS s 4).2 64).1, [], ((0 : Nat) : Nat), (Cm.listS (Cm.bytesS (Cm.numS s 4).2 64).2 4 64).1⟩ : O), (Cm.listS (Cm.bytesS (Cm.numS s 4).2 64).2 4 64).2)) := Lib.hid (by
    unfold rd rdT rdG rdO rdR
    simp only [hk]
    rfl)
  have HK := Lib.hid hk
  clear h hcr hk
  generalize hS1 : Cm.numS s 4 = n1 at *
  clear hS1
  unfold Z5 at HN
  go_enter Tryz.func62, Tryz.ntmps62
  go_wp2_with fail
  refine HN.out.mono ?_
  rintro e w1 ⟨he, hg1, hc1⟩
  rw [HK.out] at he
  have he : e = .returned (.int .u64 2) := he
  subst he
  have HG1 := Lib.hid hg1
  have HC1 := Lib.hid hc1
  clear hg1 hc1
  go_wp2_with fail
  refine (fields_any 2 _).mono ?_
  rintro e w3 ⟨he, hb3⟩
  have he : e = .returned (.tuple #[.agg #[.bool true, .bool false, .bool false, .bool true], .bool true]) := he
  subst he
  have HD3 := Lib.hid (rd_first (k := 2) (cs := #[.int .i64 2, .string ⟨#[]⟩, .string ⟨#[]⟩, .int .i64 0, .slice none 0 0]) HH.out HG1.out HC1.out hb3)
  have HD3 : Hid (RD w X g w.heap.size w1.heap.size w3.heap.size 2 #[.int .i64 2, .string ⟨#[]⟩, .string ⟨#[]⟩, .int .i64 0, .slice none 0 0] n1.2 (w3.alloc (.cells #[.bool true, .bool false, .bool false, .bool true] 135))) := HD3
  clear hb3
  have n12 : ¬ (w.heap.size = w1.heap.size) := HD3.out.far
  have n21 : ¬ (w1.heap.size = w.heap.size) := fun h => HD3.out.far h.symm
  have n32 : ¬ (w3.heap.size = w1.heap.size) := HD3.out.far3
  have n31 : ¬ (w3.heap.size = w.heap.size) := HD3.out.far4
  obtain ⟨⟨a0, a1, a2, a3, a4⟩, ⟨f0, f1, f2, f3, f4⟩⟩ := Blk.cells5 HD3.out.op
  obtain ⟨⟨r0, r1, r2, r3, r4⟩, ⟨q0, q1, q2, q3, q4⟩⟩ := Blk.cells5 HD3.out.res
  obtain ⟨b0, b1, b2, b3⟩ := HD3.out.fld.cells
  have b0 : World.cell? _ _ = some (.bool true) := b0
  have b1 : World.cell? _ _ = some (.bool false) := b1
  have b2 : World.cell? _ _ = some (.bool false) := b2
  have b3 : World.cell? _ _ = some (.bool true) := b3
  have lxT := Cm.bytesS_len n1.2 64
  have HC4 := Lib.hid (bytes_any _ _ g n1.2 HD3.out.rd 64 (by omega) (by omega) (by omega))
  generalize hxT : Cm.bytesS n1.2 64 = xT at *
  clear hxT
  go_wp2_with fail
  refine HC4.out.mono ?_
  rintro e u4 ⟨v4, rfl, hown, hg, hc⟩
  obtain ⟨A4, c4, rfl⟩ := own_shape hown
  have kc4 := run_convert_sl (P := Tryz.prog) u4 (fun _ => False) 22 9 5 A4 c4 xT.1 Tryz.underlying22 Tryz.underlying5 Tryz.underlying9 (Sl.of_own hown (fun _ _ _ h => h))
  have HE4 := Lib.hid (HD3.out.next hg hc)
  clear hown hg hc
  clear a0 a1 a2 a3 a4 f0 f1 f2 f3 f4 r0 r1 r2 r3 r4 q0 q1 q2 q3 q4 b0 b1 b2 b3
  obtain ⟨⟨a0, a1, a2, a3, a4⟩, ⟨f0, f1, f2, f3, f4⟩⟩ := Blk.cells5 HE4.out.op
  obtain ⟨⟨r0, r1, r2, r3, r4⟩, ⟨q0, q1, q2, q3, q4⟩⟩ := Blk.cells5 HE4.out.res
  obtain ⟨b0, b1, b2, b3⟩ := HE4.out.fld.cells
  have b0 : World.cell? _ _ = some (.bool true) := b0
  have b1 : World.cell? _ _ = some (.bool false) := b1
  have b2 : World.cell? _ _ = some (.bool false) := b2
  have b3 : World.cell? _ _ = some (.bool true) := b3
  have HD4 := Lib.hid (HE4.out.put 1 (.string ⟨xT.1.toArray⟩) (cs' := #[.int .i64 2, .string ⟨xT.1.toArray⟩, .string ⟨#[]⟩, .int .i64 0, .slice none 0 0]) rfl)
  have HC5 := Lib.hid (list_gen _ _ g xT.2 HD4.out.rd 4 64 (by omega) (by omega) (by omega) (by omega) (by omega) (.inr (by omega)))
  have h4 := listS_len4 xT.2
  generalize hxR : Cm.listS xT.2 4 64 = xR at *
  clear hxR
  go_wp2_with fail
  refine HC5.out.mono ?_
  rintro e u5 ⟨v5, rfl, hlist, hg, hc⟩
  obtain ⟨A5, c5, rfl⟩ : ∃ A c, v5 = .slice A xR.1.length c := by
    obtain ⟨vals, ⟨A, c, hv, _⟩, _⟩ := id hlist
    exact ⟨A, c, hv⟩
  have HF5 := Lib.hid (HD4.out.next hg hc)
  have HLI := Lib.hid hlist
  have HSZ := Lib.hid (HD4.out.op.lt)
  have HSZ1 := Lib.hid (HD4.out.res.lt)
  have HSZ0 := Lib.hid (HD4.out.grown.size)
  have HSZ3 := Lib.hid hg.size
  clear hlist hg hc
  go_wp2_with fail
  refine (recs_any _ _ A5 c5 xR.1 HLI.out (by omega)).mono ?_
  rintro e t5 ⟨A9, c9, rfl, hrow, hb9⟩
  have HE5 := Lib.hid (HF5.out.later hb9)
  have HROW := Lib.hid hrow
  clear hrow hb9
  clear a0 a1 a2 a3 a4 f0 f1 f2 f3 f4 r0 r1 r2 r3 r4 q0 q1 q2 q3 q4 b0 b1 b2 b3
  obtain ⟨⟨a0, a1, a2, a3, a4⟩, ⟨f0, f1, f2, f3, f4⟩⟩ := Blk.cells5 HE5.out.op
  obtain ⟨⟨r0, r1, r2, r3, r4⟩, ⟨q0, q1, q2, q3, q4⟩⟩ := Blk.cells5 HE5.out.res
  obtain ⟨b0, b1, b2, b3⟩ := HE5.out.fld.cells
  have b0 : World.cell? _ _ = some (.bool true) := b0
  have b1 : World.cell? _ _ = some (.bool false) := b1
  have b2 : World.cell? _ _ = some (.bool false) := b2
  have b3 : World.cell? _ _ = some (.bool true) := b3
  have HD5 := Lib.hid (HE5.out.put 4 (.slice A9 xR.1.length c9) (cs' := #[.int .i64 2, .string ⟨xT.1.toArray⟩, .string ⟨#[]⟩, .int .i64 0, .slice A9 xR.1.length c9]) rfl)
  have HLS : Hid (Ls (t5.setCell ⟨w1.heap.size, 4, none⟩ (.slice A9 xR.1.length c9)) (fun k => k < w.heap.size ∨ k = w.heap.size) (.slice A9 xR.1.length c9) xR.1) := Lib.hid (by
    have z1 := HSZ.out
    have z2 := HSZ1.out
    have z3 := HSZ0.out
    have z4 := HSZ3.out
    have cg := grown_setCell (World.grownBy.refl t5 (some w1.heap.size)) (p := ⟨w1.heap.size, 4, none⟩) (.inl rfl) (.slice A9 xR.1.length c9)
    refine (HROW.out.grown cg (fun q hq hlt => ?_)).weaken (fun k _ hk => ?_)
    · injection hq with hq
      subst hq
      exact ⟨z1, by omega⟩
    · rcases hk with hk | hk
      · exact ⟨by omega, by omega⟩
      · subst hk; exact ⟨z2, by omega⟩)
  go_wp2_with fail
  refine bodyPost_ret (results_row1 rfl _ _ w.heap.size 25 #[.int .i64 2, .string ⟨xT.1.toArray⟩, .string ⟨#[]⟩, .int .i64 0, .slice A9 xR.1.length c9] (0, 0) _ rfl (res_blk HD5.out.res _ _ _ _ _) Tryz.underlying25 rfl size_op) rfl ?_
  exact readed_of (o := ⟨2, xT.1, [], (0 : Nat), xR.1⟩) HD5.out _ _ _ _ _ rfl HLS.out HRD.out

set_option maxRecDepth 100000 in
set_option maxHeartbeats 4000000 in
theorem read_3 (w : World) (X : Nat → Prop) (g : Nat) (s : Cm.RS) (h : CR w X g s) (hl : s.1.length ≤ 140737488355328) (hk : (Cm.numS s 4).1 = 3) :
    Calls Tryz.prog 62 #[P_ g] w (Readed w X g (rd s)) := by
  have hcr : CR (w.alloc (.cells Z5 25)) (fun k => X k ∨ w.heap.size ≤ k) g s := (h.old (Nat.le_refl _)).after ((Below.refl _ w).alloc (Nat.le_refl _) _)
  have HN := Lib.hid (num_any _ _ g s hcr 4)
  have HH := Lib.hid h
  have l1 := Cm.numS_len s 4
  have HRD : Hid (rd s = ((⟨3, (Cm.bytesS (Cm.numS s 4).2 64).1, (Cm.bytesS (Cm.bytesS (Cm.numS s 4).2 64).2 64).1, ((Cm.numS (Cm.bytesS (Cm.bytesS (Cm.numS s 4).2 64).2 64).2 9007199254740992).1 : Nat), []⟩ : O), (Cm.numS (Cm.bytesS (Cm.bytesS (Cm.numS s 4).2 64).2 64).2 9007199254740992).2)) := Lib.hid (by
    unfold rd rdT rdG rdO rdR
    simp only [hk]
    rfl)
  have HK := Lib.hid hk
  clear h hcr hk
  generalize hS1 : Cm.numS s 4 = n1 at *
  clear hS1
  unfold Z5 at HN
  go_enter Tryz.func62, Tryz.ntmps62
  go_wp2_with fail
  refine HN.out.mono ?_
  rintro e w1 ⟨he, hg1, hc1⟩
  rw [HK.out] at he
  have he : e = .returned (.int .u64 3) := he
  subst he
  have HG1 := Lib.hid hg1
  have HC1 := Lib.hid hc1
  clear hg1 hc1
  go_wp2_with fail
  refine (fields_any 3 _).mono ?_
  rintro e w3 ⟨he, hb3⟩
  have he : e = .returned (.tuple #[.agg #[.bool true, .bool true, .bool true, .bool false], .bool true]) := he
  subst he
  have HD3 := Lib.hid (rd_first (k := 3) (cs := #[.int .i64 3, .string ⟨#[]⟩, .string ⟨#[]⟩, .int .i64 0, .slice none 0 0]) HH.out HG1.out HC1.out hb3)
  have HD3 : Hid (RD w X g w.heap.size w1.heap.size w3.heap.size 3 #[.int .i64 3, .string ⟨#[]⟩, .string ⟨#[]⟩, .int .i64 0, .slice none 0 0] n1.2 (w3.alloc (.cells #[.bool true, .bool true, .bool true, .bool false] 135))) := HD3
  clear hb3
  have n12 : ¬ (w.heap.size = w1.heap.size) := HD3.out.far
  have n21 : ¬ (w1.heap.size = w.heap.size) := fun h => HD3.out.far h.symm
  have n32 : ¬ (w3.heap.size = w1.heap.size) := HD3.out.far3
  have n31 : ¬ (w3.heap.size = w.heap.size) := HD3.out.far4
  obtain ⟨⟨a0, a1, a2, a3, a4⟩, ⟨f0, f1, f2, f3, f4⟩⟩ := Blk.cells5 HD3.out.op
  obtain ⟨⟨r0, r1, r2, r3, r4⟩, ⟨q0, q1, q2, q3, q4⟩⟩ := Blk.cells5 HD3.out.res
  obtain ⟨b0, b1, b2, b3⟩ := HD3.out.fld.cells
  have b0 : World.cell? _ _ = some (.bool true) := b0
  have b1 : World.cell? _ _ = some (.bool true) := b1
  have b2 : World.cell? _ _ = some (.bool true) := b2
  have b3 : World.cell? _ _ = some (.bool false) := b3
  have lxT := Cm.bytesS_len n1.2 64
  have HC4 := Lib.hid (bytes_any _ _ g n1.2 HD3.out.rd 64 (by omega) (by omega) (by omega))
  generalize hxT : Cm.bytesS n1.2 64 = xT at *
  clear hxT
  go_wp2_with fail
  refine HC4.out.mono ?_
  rintro e u4 ⟨v4, rfl, hown, hg, hc⟩
  obtain ⟨A4, c4, rfl⟩ := own_shape hown
  have kc4 := run_convert_sl (P := Tryz.prog) u4 (fun _ => False) 22 9 5 A4 c4 xT.1 Tryz.underlying22 Tryz.underlying5 Tryz.underlying9 (Sl.of_own hown (fun _ _ _ h => h))
  have HE4 := Lib.hid (HD3.out.next hg hc)
  clear hown hg hc
  clear a0 a1 a2 a3 a4 f0 f1 f2 f3 f4 r0 r1 r2 r3 r4 q0 q1 q2 q3 q4 b0 b1 b2 b3
  obtain ⟨⟨a0, a1, a2, a3, a4⟩, ⟨f0, f1, f2, f3, f4⟩⟩ := Blk.cells5 HE4.out.op
  obtain ⟨⟨r0, r1, r2, r3, r4⟩, ⟨q0, q1, q2, q3, q4⟩⟩ := Blk.cells5 HE4.out.res
  obtain ⟨b0, b1, b2, b3⟩ := HE4.out.fld.cells
  have b0 : World.cell? _ _ = some (.bool true) := b0
  have b1 : World.cell? _ _ = some (.bool true) := b1
  have b2 : World.cell? _ _ = some (.bool true) := b2
  have b3 : World.cell? _ _ = some (.bool false) := b3
  have HD4 := Lib.hid (HE4.out.put 1 (.string ⟨xT.1.toArray⟩) (cs' := #[.int .i64 3, .string ⟨xT.1.toArray⟩, .string ⟨#[]⟩, .int .i64 0, .slice none 0 0]) rfl)
  have lxG := Cm.bytesS_len xT.2 64
  have HC5 := Lib.hid (bytes_any _ _ g xT.2 HD4.out.rd 64 (by omega) (by omega) (by omega))
  generalize hxG : Cm.bytesS xT.2 64 = xG at *
  clear hxG
  go_wp2_with fail
  refine HC5.out.mono ?_
  rintro e u5 ⟨v5, rfl, hown, hg, hc⟩
  obtain ⟨A5, c5, rfl⟩ := own_shape hown
  have kc5 := run_convert_sl (P := Tryz.prog) u5 (fun _ => False) 22 9 5 A5 c5 xG.1 Tryz.underlying22 Tryz.underlying5 Tryz.underlying9 (Sl.of_own hown (fun _ _ _ h => h))
  have HE5 := Lib.hid (HD4.out.next hg hc)
  clear hown hg hc
  clear a0 a1 a2 a3 a4 f0 f1 f2 f3 f4 r0 r1 r2 r3 r4 q0 q1 q2 q3 q4 b0 b1 b2 b3
  obtain ⟨⟨a0, a1, a2, a3, a4⟩, ⟨f0, f1, f2, f3, f4⟩⟩ := Blk.cells5 HE5.out.op
  obtain ⟨⟨r0, r1, r2, r3, r4⟩, ⟨q0, q1, q2, q3, q4⟩⟩ := Blk.cells5 HE5.out.res
  obtain ⟨b0, b1, b2, b3⟩ := HE5.out.fld.cells
  have b0 : World.cell? _ _ = some (.bool true) := b0
  have b1 : World.cell? _ _ = some (.bool true) := b1
  have b2 : World.cell? _ _ = some (.bool true) := b2
  have b3 : World.cell? _ _ = some (.bool false) := b3
  have HD5 := Lib.hid (HE5.out.put 2 (.string ⟨xG.1.toArray⟩) (cs' := #[.int .i64 3, .string ⟨xT.1.toArray⟩, .string ⟨xG.1.toArray⟩, .int .i64 0, .slice none 0 0]) rfl)
  have lxF := Cm.numS_len xG.2 9007199254740992
  have mxF := Cm.numS_le xG.2 9007199254740992
  have HC6 := Lib.hid (num_any _ _ g xG.2 HD5.out.rd 9007199254740992)
  generalize hxF : Cm.numS xG.2 9007199254740992 = xF at *
  clear hxF
  have hw6 := wrap_i64n xF.1 (by omega)
  have HM6 := Lib.hid mxF
  clear mxF
  go_wp2_with fail
  refine HC6.out.mono ?_
  rintro e u6 ⟨rfl, hg, hc⟩
  have HE6 := Lib.hid (HD5.out.next hg hc)
  clear hg hc
  clear a0 a1 a2 a3 a4 f0 f1 f2 f3 f4 r0 r1 r2 r3 r4 q0 q1 q2 q3 q4 b0 b1 b2 b3
  obtain ⟨⟨a0, a1, a2, a3, a4⟩, ⟨f0, f1, f2, f3, f4⟩⟩ := Blk.cells5 HE6.out.op
  obtain ⟨⟨r0, r1, r2, r3, r4⟩, ⟨q0, q1, q2, q3, q4⟩⟩ := Blk.cells5 HE6.out.res
  obtain ⟨b0, b1, b2, b3⟩ := HE6.out.fld.cells
  have b0 : World.cell? _ _ = some (.bool true) := b0
  have b1 : World.cell? _ _ = some (.bool true) := b1
  have b2 : World.cell? _ _ = some (.bool true) := b2
  have b3 : World.cell? _ _ = some (.bool false) := b3
  have HD6 := Lib.hid (HE6.out.put 3 (.int .i64 (xF.1 : Nat)) (cs' := #[.int .i64 3, .string ⟨xT.1.toArray⟩, .string ⟨xG.1.toArray⟩, .int .i64 (xF.1 : Nat), .slice none 0 0]) rfl)
  go_wp2_with fail
  refine bodyPost_ret (results_row1 rfl _ _ w.heap.size 25 #[.int .i64 3, .string ⟨xT.1.toArray⟩, .string ⟨xG.1.toArray⟩, .int .i64 (xF.1 : Nat), .slice none 0 0] (0, 0) _ rfl (res_blk HD6.out.res _ _ _ _ _) Tryz.underlying25 rfl size_op) rfl ?_
  exact readed_of (o := ⟨3, xT.1, xG.1, (xF.1 : Nat), []⟩) HD6.out _ _ _ _ _ rfl (ls_nil _ _) HRD.out

set_option maxRecDepth 100000 in
set_option maxHeartbeats 4000000 in
theorem read_4 (w : World) (X : Nat → Prop) (g : Nat) (s : Cm.RS) (h : CR w X g s) (hl : s.1.length ≤ 140737488355328) (hk : (Cm.numS s 4).1 = 4) :
    Calls Tryz.prog 62 #[P_ g] w (Readed w X g (rd s)) := by
  have hcr : CR (w.alloc (.cells Z5 25)) (fun k => X k ∨ w.heap.size ≤ k) g s := (h.old (Nat.le_refl _)).after ((Below.refl _ w).alloc (Nat.le_refl _) _)
  have HN := Lib.hid (num_any _ _ g s hcr 4)
  have HH := Lib.hid h
  have l1 := Cm.numS_len s 4
  have HRD : Hid (rd s = ((⟨4, (Cm.bytesS (Cm.numS s 4).2 64).1, [], ((Cm.numS (Cm.bytesS (Cm.numS s 4).2 64).2 9007199254740992).1 : Nat), []⟩ : O), (Cm.numS (Cm.bytesS (Cm.numS s 4).2 64).2 9007199254740992).2)) := Lib.hid (by
    unfold rd rdT rdG rdO rdR
    simp only [hk]
    rfl)
  have HK := Lib.hid hk
  clear h hcr hk
  generalize hS1 : Cm.numS s 4 = n1 at *
  clear hS1
  unfold Z5 at HN
  go_enter Tryz.func62, Tryz.ntmps62
  go_wp2_with fail
  refine HN.out.mono ?_
  rintro e w1 ⟨he, hg1, hc1⟩
  rw [HK.out] at he
  have he : e = .returned (.int .u64 4) := he
  subst he
  have HG1 := Lib.hid hg1
  have HC1 := Lib.hid hc1
  clear hg1 hc1
  go_wp2_with fail
  refine (fields_any 4 _).mono ?_
  rintro e w3 ⟨he, hb3⟩
  have he : e = .returned (.tuple #[.agg #[.bool true, .bool false, .bool true, .bool false], .bool true]) := he
  subst he
  have HD3 := Lib.hid (rd_first (k := 4) (cs := #[.int .i64 4, .string ⟨#[]⟩, .string ⟨#[]⟩, .int .i64 0, .slice none 0 0]) HH.out HG1.out HC1.out hb3)
  have HD3 : Hid (RD w X g w.heap.size w1.heap.size w3.heap.size 4 #[.int .i64 4, .string ⟨#[]⟩, .string ⟨#[]⟩, .int .i64 0, .slice none 0 0] n1.2 (w3.alloc (.cells #[.bool true, .bool false, .bool true, .bool false] 135))) := HD3
  clear hb3
  have n12 : ¬ (w.heap.size = w1.heap.size) := HD3.out.far
  have n21 : ¬ (w1.heap.size = w.heap.size) := fun h => HD3.out.far h.symm
  have n32 : ¬ (w3.heap.size = w1.heap.size) := HD3.out.far3
  have n31 : ¬ (w3.heap.size = w.heap.size) := HD3.out.far4
  obtain ⟨⟨a0, a1, a2, a3, a4⟩, ⟨f0, f1, f2, f3, f4⟩⟩ := Blk.cells5 HD3.out.op
  obtain ⟨⟨r0, r1, r2, r3, r4⟩, ⟨q0, q1, q2, q3, q4⟩⟩ := Blk.cells5 HD3.out.res
  obtain ⟨b0, b1, b2, b3⟩ := HD3.out.fld.cells
  have b0 : World.cell? _ _ = some (.bool true) := b0
  have b1 : World.cell? _ _ = some (.bool false) := b1
  have b2 : World.cell? _ _ = some (.bool true) := b2
  have b3 : World.cell? _ _ = some (.bool false) := b3
  have lxT := Cm.bytesS_len n1.2 64
  have HC4 := Lib.hid (bytes_any _ _ g n1.2 HD3.out.rd 64 (by omega) (by omega) (by omega))
  generalize hxT : Cm.bytesS n1.2 64 = xT at *
  clear hxT
  go_wp2_with fail
  refine HC4.out.mono ?_
  rintro e u4 ⟨v4, rfl, hown, hg, hc⟩
  obtain ⟨A4, c4, rfl⟩ := own_shape hown
  have kc4 := run_convert_sl (P := Tryz.prog) u4 (fun _ => False) 22 9 5 A4 c4 xT.1 Tryz.underlying22 Tryz.underlying5 Tryz.underlying9 (Sl.of_own hown (fun _ _ _ h => h))
  have HE4 := Lib.hid (HD3.out.next hg hc)
  clear hown hg hc
  clear a0 a1 a2 a3 a4 f0 f1 f2 f3 f4 r0 r1 r2 r3 r4 q0 q1 q2 q3 q4 b0 b1 b2 b3
  obtain ⟨⟨a0, a1, a2, a3, a4⟩, ⟨f0, f1, f2, f3, f4⟩⟩ := Blk.cells5 HE4.out.op
  obtain ⟨⟨r0, r1, r2, r3, r4⟩, ⟨q0, q1, q2, q3, q4⟩⟩ := Blk.cells5 HE4.out.res
  obtain ⟨b0, b1, b2, b3⟩ := HE4.out.fld.cells
  have b0 : World.cell? _ _ = some (.bool true) := b0
  have b1 : World.cell? _ _ = some (.bool false) := b1
  have b2 : World.cell? _ _ = some (.bool true) := b2
  have b3 : World.cell? _ _ = some (.bool false) := b3
  have HD4 := Lib.hid (HE4.out.put 1 (.string ⟨xT.1.toArray⟩) (cs' := #[.int .i64 4, .string ⟨xT.1.toArray⟩, .string ⟨#[]⟩, .int .i64 0, .slice none 0 0]) rfl)
  have lxF := Cm.numS_len xT.2 9007199254740992
  have mxF := Cm.numS_le xT.2 9007199254740992
  have HC5 := Lib.hid (num_any _ _ g xT.2 HD4.out.rd 9007199254740992)
  generalize hxF : Cm.numS xT.2 9007199254740992 = xF at *
  clear hxF
  have hw5 := wrap_i64n xF.1 (by omega)
  have HM5 := Lib.hid mxF
  clear mxF
  go_wp2_with fail
  refine HC5.out.mono ?_
  rintro e u5 ⟨rfl, hg, hc⟩
  have HE5 := Lib.hid (HD4.out.next hg hc)
  clear hg hc
  clear a0 a1 a2 a3 a4 f0 f1 f2 f3 f4 r0 r1 r2 r3 r4 q0 q1 q2 q3 q4 b0 b1 b2 b3
  obtain ⟨⟨a0, a1, a2, a3, a4⟩, ⟨f0, f1, f2, f3, f4⟩⟩ := Blk.cells5 HE5.out.op
  obtain ⟨⟨r0, r1, r2, r3, r4⟩, ⟨q0, q1, q2, q3, q4⟩⟩ := Blk.cells5 HE5.out.res
  obtain ⟨b0, b1, b2, b3⟩ := HE5.out.fld.cells
  have b0 : World.cell? _ _ = some (.bool true) := b0
  have b1 : World.cell? _ _ = some (.bool false) := b1
  have b2 : World.cell? _ _ = some (.bool true) := b2
  have b3 : World.cell? _ _ = some (.bool false) := b3
  have HD5 := Lib.hid (HE5.out.put 3 (.int .i64 (xF.1 : Nat)) (cs' := #[.int .i64 4, .string ⟨xT.1.toArray⟩, .string ⟨#[]⟩, .int .i64 (xF.1 : Nat), .slice none 0 0]) rfl)
  go_wp2_with fail
  refine bodyPost_ret (results_row1 rfl _ _ w.heap.size 25 #[.int .i64 4, .string ⟨xT.1.toArray⟩, .string ⟨#[]⟩, .int .i64 (xF.1 : Nat), .slice none 0 0] (0, 0) _ rfl (res_blk HD5.out.res _ _ _ _ _) Tryz.underlying25 rfl size_op) rfl ?_
  exact readed_of (o := ⟨4, xT.1, [], (xF.1 : Nat), []⟩) HD5.out _ _ _ _ _ rfl (ls_nil _ _) HRD.out

theorem read_any (w : World) (X : Nat → Prop) (g : Nat) (s : Cm.RS) (h : CR w X g s) (hl : s.1.length ≤ 140737488355328) :
    Calls Tryz.prog 62 #[P_ g] w (Readed w X g (rd s)) := by
  have h4 := Cm.numS_le s 4
  have : (Cm.numS s 4).1 = 0 ∨ (Cm.numS s 4).1 = 1 ∨ (Cm.numS s 4).1 = 2 ∨ (Cm.numS s 4).1 = 3 ∨ (Cm.numS s 4).1 = 4 := by omega
  rcases this with hk | hk | hk | hk | hk
  · exact read_0 w X g s h hl hk
  · exact read_1 w X g s h hl hk
  · exact read_2 w X g s h hl hk
  · exact read_3 w X g s h hl hk
  · exact read_4 w X g s h hl hk

end Go.Proofs.YtebjjkhiniccgaaGreat.Qb

/-
  Layer 8 (request): batches in memory; the contracts of momentOf, checkSigned, isTwice, CheckBatch.
-/
namespace Go.Proofs.YtebjjkhiniccgaaGreat.Jb
set_option linter.unusedSimpArgs false
open Go Go.RowKit Ck Kw Ga Kf Pm Pe Pg Ph Qb Lk Jm Ja
attribute [local go_sem ↓] Go.wp_at_zero Go.wp_at_succ
set_option linter.unusedVariables false

theorem DC_len (p : Sd × (Option Addr × Nat)) : ((DC p.1 p.2.1 p.2.2).toList).length = 9 := rfl
/-- The cells of a batch: its requests' records lie where rs says. -/
def flat (l : List Sd) (rs : List (Option Addr × Nat)) : List Value := (l.zip rs).flatMap fun p => (DC p.1 p.2.1 p.2.2).toList
theorem zip_len {l : List Sd} {rs : List (Option Addr × Nat)} (h : rs.length = l.length) : (l.zip rs).length = l.length := by rw [List.length_zip]; omega
theorem flat_length {l : List Sd} {rs : List (Option Addr × Nat)} (h : rs.length = l.length) : (flat l rs).length = l.length * 9 := by rw [flat, flat_len DC_len, zip_len h]
/-- The value v is the batch l; all of it lies in no block of X. -/
def BI (w : World) (X : Nat → Prop) (v : Value) (l : List Sd) : Prop :=
  ∃ rs, rs.length = l.length ∧ Sl w X 9 v l.length (flat l rs) ∧ ∀ i (h : i < l.length), ∃ r, rs[i]? = some r ∧ Ls w X (.slice r.1 l[i].q.o.recs.length r.2) l[i].q.o.recs
section
variable {w w' : World} {X Y S : Nat → Prop} {v : Value} {l : List Sd}
theorem BI.after (h : BI w X v l) (hb : Below w.heap.size w w') : BI w' X v l := by
  obtain ⟨rs, h1, h2, h3⟩ := h
  exact ⟨rs, h1, h2.after hb, fun i hi => by obtain ⟨r, h4, h5⟩ := h3 i hi; exact ⟨r, h4, h5.after hb⟩⟩
theorem BI.weaken (h : BI w X v l) (hk : ∀ b, b < w.heap.size → Y b → X b) : BI w Y v l := by
  obtain ⟨rs, h1, h2, h3⟩ := h
  exact ⟨rs, h1, h2.weaken hk, fun i hi => by obtain ⟨r, h4, h5⟩ := h3 i hi; exact ⟨r, h4, h5.weaken hk⟩⟩
theorem BI.ch (h : BI w X v l) (c : Ch S w w') (hd : ∀ k, k < w.heap.size → S k → X k) : BI w' X v l := by
  obtain ⟨rs, h1, h2, h3⟩ := h
  exact ⟨rs, h1, h2.ch c hd, fun i hi => by obtain ⟨r, h4, h5⟩ := h3 i hi; exact ⟨r, h4, h5.ch c hd⟩⟩
theorem BI.shape (h : BI w X v l) : ∃ A c, v = .slice A l.length c ∧ l.length ≤ c := by
  obtain ⟨rs, h1, ⟨A, c, rfl, _, hc, _⟩, h3⟩ := h
  exact ⟨A, c, rfl, hc⟩
theorem bi_nil (w : World) (X : Nat → Prop) : BI w X (.slice none 0 0) [] := ⟨[], rfl, Sl.nil _ _ _, fun i hi => absurd hi (by simp)⟩
/-- What stands at a place of a batch. -/
def At9 (w : World) (ad : Addr) (d : Sd) (Ar : Option Addr) (cr : Nat) : Prop :=
  w.cell? ad = some (.int .i64 d.q.client) ∧ w.cell? ⟨ad.block, ad.off + 1, none⟩ = some (.int .i64 d.q.time) ∧ w.cell? ⟨ad.block, ad.off + 2, none⟩ = some (.int .i64 d.q.o.kind) ∧ w.cell? ⟨ad.block, ad.off + 3, none⟩ = some (.string ⟨d.q.o.topic.toArray⟩)
    ∧ w.cell? ⟨ad.block, ad.off + 4, none⟩ = some (.string ⟨d.q.o.group.toArray⟩) ∧ w.cell? ⟨ad.block, ad.off + 5, none⟩ = some (.int .i64 d.q.o.off) ∧ w.cell? ⟨ad.block, ad.off + 6, none⟩ = some (.slice Ar d.q.o.recs.length cr)
    ∧ w.cell? ⟨ad.block, ad.off + 7, none⟩ = some (.int .i64 d.s.1) ∧ w.cell? ⟨ad.block, ad.off + 8, none⟩ = some (.int .i64 d.s.2)
theorem BI.at_ {A : Option Addr} {n c i : Nat} (h : BI w X (.slice A n c) l) (hi : i < l.length) :
    ∃ ad Ar cr, A = some ad ∧ At9 w (ad.add (i * 9)) l[i] Ar cr ∧ Ls w X (.slice Ar l[i].q.o.recs.length cr) l[i].q.o.recs := by
  obtain ⟨rs, h1, ⟨A', c', hv, hl, hc, hm, hx⟩, h3⟩ := h
  injection hv with e1 e2 e3
  subst e1
  obtain ⟨⟨Ar, cr⟩, h4, h5⟩ := h3 i hi
  obtain ⟨ad, hA, hb, hX, hcell⟩ := hx (by omega)
  refine ⟨ad, Ar, cr, hA, ?_, h5⟩
  have hz : i < (l.zip rs).length := by rw [zip_len h1]; exact hi
  have hr : i < rs.length := by omega
  have he : (l.zip rs)[i] = (l[i], (Ar, cr)) := by
    rw [List.getElem_zip]
    have : rs[i] = (Ar, cr) := by have := List.getElem?_eq_getElem hr; rw [this] at h4; exact Option.some.inj h4
    rw [this]
  have hg : ∀ j, j < 9 → (flat l rs)[i * 9 + j]? = ((DC l[i] Ar cr).toList)[j]? := fun j hj => by
    rw [flat, flat_get DC_len _ _ hz j hj, he]
  have hof : ∀ j u, j < 9 → ((DC l[i] Ar cr).toList)[j]? = some u → w.cell? ((ad.add (i * 9)).add j) = some u := fun j u hj hu => by
    rw [add_add]
    exact hcell _ _ (by rw [hg j hj]; exact hu)
  generalize ad.add (i * 9) = a at hof ⊢
  have ha : ∀ j, 0 < j → a.add j = ⟨a.block, a.off + j, none⟩ := fun j hj => by unfold Addr.add; rw [if_neg (by omega)]
  have h0 : a.add 0 = a := by unfold Addr.add; rw [if_pos rfl]
  refine ⟨?_, ?_, ?_, ?_, ?_, ?_, ?_, ?_, ?_⟩
  · have := hof 0 _ (by omega) rfl; rwa [h0] at this
  · have := hof 1 _ (by omega) rfl; rwa [ha _ (by omega)] at this
  · have := hof 2 _ (by omega) rfl; rwa [ha _ (by omega)] at this
  · have := hof 3 _ (by omega) rfl; rwa [ha _ (by omega)] at this
  · have := hof 4 _ (by omega) rfl; rwa [ha _ (by omega)] at this
  · have := hof 5 _ (by omega) rfl; rwa [ha _ (by omega)] at this
  · have := hof 6 _ (by omega) rfl; rwa [ha _ (by omega)] at this
  · have := hof 7 _ (by omega) rfl; rwa [ha _ (by omega)] at this
  · have := hof 8 _ (by omega) rfl; rwa [ha _ (by omega)] at this
end

/-- A moment. -/
theorem size_moment : (Tryz.prog.info? 144).map (·.size) = some 2 := by kernel_rfl
def MV (d : Sd) : Value := .agg #[.int .i64 d.q.client, .int .i64 d.q.time]
set_option maxRecDepth 100000 in
set_option maxHeartbeats 1000000 in
theorem moment_any (d : Sd) (A : Option Addr) (c : Nat) (w : World) :
    Calls Tryz.prog 100 #[DV d A c] w fun e w' => e = .returned (MV d) ∧ Below w.heap.size w w' := by
  have b1 := op_below w (.cells (DC d A c) 53)
  have b2 : Below w.heap.size w ((w.alloc (.cells (DC d A c) 53)).alloc (.cells #[.int .i64 0, .int .i64 0] 144)) := b1.alloc b1.size _
  have k0 : DK ((w.alloc (.cells (DC d A c) 53)).alloc (.cells #[.int .i64 0, .int .i64 0] 144)) w.heap.size d A c := Blk.alloc (Blk.new w _ _) _
  obtain ⟨a0, a1, -⟩ := k0.cells
  clear b1 b2 k0
  unfold DV MV
  unfold DC at *
  go_enter Tryz.func100, Tryz.ntmps100
  go_wp2_with fail
  refine bodyPost_ret (results_row1 rfl _ _ (w.heap.size + 1) 144 #[.int .i64 d.q.client, .int .i64 d.q.time] (0, 0) _ rfl (Blk.new_at (by simp) rfl) Tryz.underlying144 rfl size_moment) rfl ?_
  exact ⟨rfl, (op_below w _).trans ((op_below _ _).mono (by simp))⟩
theorem guard_moment : Tryz.prog.eqGuardType Tryz.prog.depth 144 = false := by kernel_rfl
theorem stood_moment : Tryz.prog.stoodInHeld 144 = false := by kernel_rfl
theorem fields_moment : Tryz.prog.underlying 144 = some (.struct (Tryz.prog.fieldsOf 144)) := by kernel_rfl
theorem pair_beq (a b c e : Int) : ((a, b) == (c, e)) = (decide (a = c) && decide (b = e)) := by
  rw [Bool.eq_iff_iff]
  simp
theorem run_eql_moment (W : World) (x y : Sd) : (binOp .eql 144 (MV x) (MV y)).run Tryz.prog W = .ok (.bool (mom x == mom y)) W := by
  unfold MV mom
  obtain ⟨a, ha⟩ : ∃ a, a = x.q.client := ⟨_, rfl⟩
  obtain ⟨b, hb⟩ : ∃ b, b = x.q.time := ⟨_, rfl⟩
  obtain ⟨c, hc⟩ : ∃ c, c = y.q.client := ⟨_, rfl⟩
  obtain ⟨e, he⟩ : ∃ e, e = y.q.time := ⟨_, rfl⟩
  rw [← ha, ← hb, ← hc, ← he, pair_beq]
  rw [run_eql_struct, show (10000 : Nat) = 9998 + 1 + 1 from rfl, run_equalIn_struct W (9998 + 1) 144 _ _ fields_moment stood_moment]
  have hf : (Tryz.prog.fieldsOf 144).toList = [{ name := "client", type := 3, offset := 0, embedded := false, tag := "", pkgPath := "bulla/request", byteOffset := 0 }, { name := "time", type := 2, offset := 1, embedded := false, tag := "", pkgPath := "bulla/request", byteOffset := 8 }] := by kernel_rfl
  rw [hf]
  have h1 := fun (x y : Int) (W : World) => run_equalIn_int (P := Tryz.prog) W 9998 3 .i64 .i64 x y Tryz.underlying3
  have h2 := fun (x y : Int) (W : World) => run_equalIn_int (P := Tryz.prog) W 9998 2 .i64 .i64 x y Tryz.underlying2
  have p1 : ∀ (u v : Value) (W : World), (part 3 #[u, v] 0).run Tryz.prog W = .ok u W := fun u v W => by simp [part, isAgg, run_underlying Tryz.underlying3]
  have p2 : ∀ (u v : Value) (W : World), (part 2 #[u, v] 1).run Tryz.prog W = .ok v W := fun u v W => by simp [part, isAgg, run_underlying Tryz.underlying2]
  clear ha hb hc he
  by_cases hac : a = c
  · by_cases hbe : b = e
    · subst hac; subst hbe
      simp [Op.eqFields, p1, p2, h1, h2, Result.andThen]
    · subst hac
      simp [Op.eqFields, p1, p2, h1, h2, Result.andThen, hbe]
  · simp [Op.eqFields, p1, h1, Result.andThen, hac]

set_option maxHeartbeats 1000000 in
theorem signed_any (d : Sd) (A : Option Addr) (c : Nat) (X : Nat → Prop) (w : World) (hls : Ls w X (.slice A d.q.o.recs.length c) d.q.o.recs) (hl : d.q.o.recs.length ≤ 140737488355328) :
    Calls Tryz.prog 67 #[DV d A c] w fun e w' => e = .returned (.int .i64 (dcheck d)) ∧ Below w.heap.size w w' := by
  have b1 := op_below w (.cells (DC d A c) 53)
  have k0 : DK (w.alloc (.cells (DC d A c) 53)) w.heap.size d A c := Blk.new w _ _
  have HC := Lib.hid (check_any d.q (QV d.q A c) X _ ⟨A, c, rfl, hls.after b1⟩ hl)
  obtain ⟨a0, a1, a2, a3, a4, a5, a6, a7, a8⟩ := k0.cells
  have HB := Lib.hid b1
  have HK := Lib.hid k0
  have HQ : Hid (dcheck d = if qcheck d.q ≠ 0 then qcheck d.q else scheck d.s) := Lib.hid rfl
  clear b1 k0 hls
  unfold QV QC at HC
  unfold DV
  unfold DC at a0 a1 a2 a3 a4 a5 a6 a7 a8 HC HB ⊢
  go_enter Tryz.func67, Tryz.ntmps67
  go_wp2_with fail
  refine HC.out.mono ?_
  rintro e w1 ⟨he, hb1⟩
  have HB1 := Lib.hid (HB.out.trans (hb1.mono HB.out.size))
  obtain ⟨-, -, -, -, -, -, -, b7, b8⟩ := DK.cells (HK.out.below hb1 HK.out.lt)
  clear a0 a1 a2 a3 a4 a5 a6 a7 a8 hb1
  by_cases hq : qcheck d.q = 0
  · rw [hq] at he HQ
    subst he
    go_wp2_with fail
    refine (csign_any d.s _).mono ?_
    rintro e w2 ⟨rfl, hb2⟩
    have HB2 := Lib.hid (HB1.out.trans (hb2.mono HB1.out.size))
    clear hb2 hq
    go_wp2_with fail
    go_ret
    exact ⟨by rw [HQ.out]; rfl, HB2.out⟩
  · have hd : (qcheck d.q != 0) = true := by simpa using hq
    rw [if_pos hq] at HQ
    subst he
    have hd2 : (qcheck d.q == 0) = false := by simpa using hq
    clear hq
    go_wp2_with fail
    go_ret
    exact ⟨by rw [HQ.out]; rfl, HB1.out⟩
end Go.Proofs.YtebjjkhiniccgaaGreat.Jb

/-
  Layer 8: opening requests, signatures, signed requests, batches and lists of requests under the form's own reach.
-/
namespace Go.Proofs.YtebjjkhiniccgaaGreat.Jo
set_option linter.unusedSimpArgs false
open Go Go.RowKit Go.ChangeShapes Go.WideShapes Go.ChangeAt Go.Deep Ck Kf Kp Pm Pe Py Lk Jm Ja Jb
set_option linter.unusedVariables false
set_option maxRecDepth 100000

section
variable {H : Type} {enc : TypeId × Value → H}
theorem cells_req : Tryz.prog.cellsOf 27 = 7 := by kernel_rfl
theorem bytes_req : Tryz.prog.bytesOf 27 = 88 := by kernel_rfl
theorem cells_sgn : Tryz.prog.cellsOf 47 = 2 := by kernel_rfl
theorem cells_dig : Tryz.prog.cellsOf 45 = 1 := by kernel_rfl
theorem cells_sd : Tryz.prog.cellsOf 53 = 9 := by kernel_rfl
theorem bytes_sd : Tryz.prog.bytesOf 53 = 104 := by kernel_rfl
def wfQ (q : Q) : Prop := (-9223372036854775808 ≤ q.client ∧ q.client ≤ 9223372036854775807) ∧ (-9223372036854775808 ≤ q.time ∧ q.time ≤ 9223372036854775807)
theorem open_q {w : World} {base : Nat} {fuel : Nat} {cs : List Value} {x : DataW H × List MemPlace} (h : DataW.trod enc Tryz.prog w base (fun _ => true) true fuel 27 cs = some x) :
    ∃ (q : Q) (A : Option Addr) (c : Nat), cs = (QC q A c).toList ∧ Ls w (fun k => w.heap.size ≤ k) (.slice A q.o.recs.length c) q.o.recs
      ∧ wfQ q ∧ ∀ R, (∀ n ∈ x.1.weights Tryz.prog 27, n ≤ R) → far q.o R := by
  obtain ⟨xs, n', _, hx, hl, hxl, hf⟩ := DataW.trod_struct Tryz.underlying27 h
  rw [cells_req] at hl
  have hxl' : xs.length = 3 := hxl
  match cs, hl with
  | [v0, v1, v2, v3, v4, v5, v6], _ =>
    have f0 : DataW.trod enc Tryz.prog w base (fun _ => true) true n' 3 (([v0, v1, v2, v3, v4, v5, v6].drop 0).take (Tryz.prog.cellsOf 3)) = xs[0]? := hf 0 _ rfl
    have f1 : DataW.trod enc Tryz.prog w base (fun _ => true) true n' 2 (([v0, v1, v2, v3, v4, v5, v6].drop 1).take (Tryz.prog.cellsOf 2)) = xs[1]? := hf 1 _ rfl
    have f2 : DataW.trod enc Tryz.prog w base (fun _ => true) true n' 25 (([v0, v1, v2, v3, v4, v5, v6].drop 2).take (Tryz.prog.cellsOf 25)) = xs[2]? := hf 2 _ rfl
    rw [Py.cells_int] at f0
    rw [Py.cells_i64] at f1
    rw [Py.cells_op] at f2
    simp only [List.drop_zero, List.drop_succ_cons, List.take_succ_cons, List.take_zero] at f0 f1 f2
    obtain ⟨z0, e0, w0⟩ := one_int Tryz.underlying3 (by omega) f0
    obtain ⟨z1, e1, w1⟩ := one_int Tryz.underlying2 (by omega) f1
    rw [List.getElem?_eq_getElem (by omega)] at f2
    obtain ⟨o, A, c, e2, hls, _, hfar⟩ := open_op f2
    have b0 : -9223372036854775808 ≤ z0 ∧ z0 ≤ 9223372036854775807 := by simpa [Lit.wf, IntKind.min, IntKind.max, IntKind.signed, IntKind.bits] using w0
    have b1 : -9223372036854775808 ≤ z1 ∧ z1 ≤ 9223372036854775807 := by simpa [Lit.wf, IntKind.min, IntKind.max, IntKind.signed, IntKind.bits] using w1
    simp only [List.cons.injEq, and_true] at e0 e1 e2
    obtain ⟨rfl, rfl, rfl, rfl, rfl⟩ := e2
    refine ⟨⟨z0, z1, o⟩, A, c, by rw [e0, e1]; rfl, hls, ⟨b0, b1⟩, fun R hR => hfar R fun n hn => ?_⟩
    refine hR n ?_
    rw [hx]
    simp only [DataW.weights, Tryz.underlying27]
    exact DataW.weights_mem_each (ts := [3, 2, 25]) (j := 2) (t := 25) rfl (by simp [List.getElem?_eq_getElem (show 2 < xs.length by omega)]) n hn
theorem open_sg {w : World} {base : Nat} {sp : Nat → Bool} {held : Bool} {n : Nat} {cs : List Value} {x : DataW H × List MemPlace} (h : DataW.trod enc Tryz.prog w base sp held n 47 cs = some x) :
    ∃ s : Sg, cs = [.int .i64 s.1, .int .i64 s.2] ∧ wfS s := by
  obtain ⟨xs, n', _, _, hl, hxl, hf⟩ := DataW.trod_struct Tryz.underlying47 h
  rw [cells_sgn] at hl
  have hxl' : xs.length = 2 := hxl
  match cs, hl with
  | [v0, v1], _ =>
    have f0 : DataW.trod enc Tryz.prog w base sp held n' 3 (([v0, v1].drop 0).take (Tryz.prog.cellsOf 3)) = xs[0]? := hf 0 _ rfl
    have f1 : DataW.trod enc Tryz.prog w base sp held n' 45 (([v0, v1].drop 1).take (Tryz.prog.cellsOf 45)) = xs[1]? := hf 1 _ rfl
    rw [Py.cells_int] at f0
    rw [cells_dig] at f1
    simp only [List.drop_zero, List.drop_succ_cons, List.take_succ_cons, List.take_zero] at f0 f1
    obtain ⟨z0, e0, w0⟩ := one_int Tryz.underlying3 (by omega) f0
    obtain ⟨z1, e1, w1⟩ := one_int Tryz.underlying45 (by omega) f1
    have b0 : -9223372036854775808 ≤ z0 ∧ z0 ≤ 9223372036854775807 := by simpa [Lit.wf, IntKind.min, IntKind.max, IntKind.signed, IntKind.bits] using w0
    have b1 : -9223372036854775808 ≤ z1 ∧ z1 ≤ 9223372036854775807 := by simpa [Lit.wf, IntKind.min, IntKind.max, IntKind.signed, IntKind.bits] using w1
    simp only [List.cons.injEq, and_true] at e0 e1
    exact ⟨(z0, z1), by rw [e0, e1], b0.1, b0.2, b1.1, b1.2⟩
theorem open_sd {w : World} {base : Nat} {fuel : Nat} {cs : List Value} {x : DataW H × List MemPlace} (h : DataW.trod enc Tryz.prog w base (fun _ => true) true fuel 53 cs = some x) :
    ∃ (d : Sd) (A : Option Addr) (c : Nat), cs = (DC d A c).toList ∧ Ls w (fun k => w.heap.size ≤ k) (.slice A d.q.o.recs.length c) d.q.o.recs
      ∧ wfS d.s ∧ wfQ d.q ∧ ∀ R, (∀ n ∈ x.1.weights Tryz.prog 53, n ≤ R) → far d.q.o R := by
  obtain ⟨xs, n', _, hx, hl, hxl, hf⟩ := DataW.trod_struct Tryz.underlying53 h
  rw [cells_sd] at hl
  have hxl' : xs.length = 2 := hxl
  match cs, hl with
  | [v0, v1, v2, v3, v4, v5, v6, v7, v8], _ =>
    have f0 : DataW.trod enc Tryz.prog w base (fun _ => true) true n' 27 (([v0, v1, v2, v3, v4, v5, v6, v7, v8].drop 0).take (Tryz.prog.cellsOf 27)) = xs[0]? := hf 0 _ rfl
    have f1 : DataW.trod enc Tryz.prog w base (fun _ => true) true n' 47 (([v0, v1, v2, v3, v4, v5, v6, v7, v8].drop 7).take (Tryz.prog.cellsOf 47)) = xs[1]? := hf 1 _ rfl
    rw [cells_req] at f0
    rw [cells_sgn] at f1
    simp only [List.drop_zero, List.drop_succ_cons, List.take_succ_cons, List.take_zero] at f0 f1
    rw [List.getElem?_eq_getElem (by omega)] at f0 f1
    obtain ⟨q, A, c, e0, hls, hwq, hfar⟩ := open_q f0
    obtain ⟨s, e1, hws⟩ := open_sg f1
    simp only [QC, List.cons.injEq, and_true] at e0 e1
    obtain ⟨rfl, rfl, rfl, rfl, rfl, rfl, rfl⟩ := e0
    obtain ⟨rfl, rfl⟩ := e1
    refine ⟨⟨q, s⟩, A, c, rfl, hls, hws, hwq, fun R hR => hfar R fun n hn => ?_⟩
    refine hR n ?_
    rw [hx]
    simp only [DataW.weights, Tryz.underlying53]
    exact DataW.weights_mem_each (ts := [27, 47]) (j := 0) (t := 27) rfl (by simp [List.getElem?_eq_getElem (show 0 < xs.length by omega)]) n hn
theorem open_batch {w : World} {fuel : Nat} {base : Nat} {v : Value} {x : DataW H × List MemPlace} (h : DataW.trod enc Tryz.prog w base (fun _ => true) true fuel 39 [v] = some x) (hR : ∀ n ∈ x.1.weights Tryz.prog 39, n ≤ 140737488351232) :
    ∃ (l : List Sd), BI w (fun k => w.heap.size ≤ k) v l ∧ l.length * 104 ≤ 140737488351232 ∧ ∀ y ∈ l, far y.q.o 140737488351232 ∧ wfS y.s := by
  rcases open_slice Tryz.underlying39 h with ⟨hcs, rfl⟩ | ⟨a, len, cap, m, n, D, Pl, hcs, _, hl, hm, hmm, rfl, hx⟩
  · obtain rfl : v = .slice none 0 0 := by simpa using hcs
    exact ⟨[], bi_nil _ _, by simp, fun y hy => absurd hy (by simp)⟩
  · obtain rfl : v = .slice (some a) len cap := by simpa using hcs
    simp only [if_true] at hmm
    have each : ∀ i, ∃ r : Sd × (Option Addr × Nat), i < len → (∀ j u, (DC r.1 r.2.1 r.2.2).toList[j]? = some u → w.cell? (a.add (i * 9 + j)) = some u) ∧ Ls w (fun k => w.heap.size ≤ k) (.slice r.2.1 r.1.q.o.recs.length r.2.2) r.1.q.o.recs ∧ far r.1.q.o 140737488351232 ∧ wfS r.1.s := by
      intro i
      by_cases hi : i < len
      · obtain ⟨cs', hc, ht⟩ := hx i (by omega)
        obtain ⟨d, Ar, cr, rfl, hb, hws, _, hr⟩ := open_sd ht
        rw [cells_sd] at hc
        obtain ⟨_, _, hcell⟩ := World.cells?_some hc
        have hw := hr 140737488351232 (fun n hn => hR n (by
          simp only [DataW.weights, Tryz.underlying39, List.mem_cons, List.mem_append]
          exact .inr (.inl (all_mem hn (List.mem_map.2 ⟨i, by simpa using hi, rfl⟩)))))
        refine ⟨(d, (Ar, cr)), fun _ => ⟨fun j u hu => ?_, hb, hw, hws⟩⟩
        have hj : j < 9 := (List.getElem?_eq_some_iff.1 hu).1
        have h1 := hcell j hj
        rw [Ck.add_add] at h1
        rw [h1, ← hu, List.getElem?_eq_getElem (show j < (DC d Ar cr).toList.length from hj)]
      · exact ⟨(Sd.zero, (none, 0)), fun h => absurd h hi⟩
    obtain ⟨f, hf⟩ := Classical.axiomOfChoice each
    have hlen : ((List.range len).map fun i => (f i).1).length = len := by simp
    have hrl : ((List.range len).map fun i => (f i).2).length = ((List.range len).map fun i => (f i).1).length := by simp
    refine ⟨(List.range len).map fun i => (f i).1, ⟨(List.range len).map fun i => (f i).2, hrl, ?_, fun i hi => ?_⟩, ?_, fun y hy => ?_⟩
    · refine ⟨some a, cap, by rw [hlen], by rw [flat_length hrl], by rw [hlen]; exact hl, hm, fun hn => ?_⟩
      rw [hlen] at hn
      have h0 := (hf 0 hn).1 0 _ rfl
      refine ⟨a, rfl, by have := World.block_lt_of_cell? w _ h0; rw [Ck.add_block] at this; exact this, by have := World.block_lt_of_cell? w _ h0; rw [Ck.add_block] at this; omega, fun j u hu => ?_⟩
      have hj : j < len * 9 := by
        have := (List.getElem?_eq_some_iff.1 hu).1
        rw [flat_length hrl, hlen] at this
        exact this
      have hi : j / 9 < len := by omega
      have hz : j / 9 < (((List.range len).map fun i => (f i).1).zip ((List.range len).map fun i => (f i).2)).length := by rw [zip_len hrl, hlen]; exact hi
      have hg := flat_get DC_len (((List.range len).map fun i => (f i).1).zip ((List.range len).map fun i => (f i).2)) (j / 9) hz (j % 9) (by omega)
      rw [show j / 9 * 9 + j % 9 = j by omega] at hg
      rw [flat, hg] at hu
      have := (hf (j / 9) hi).1 (j % 9) u (by
        rw [← hu]
        congr 1
        simp)
      rwa [show j / 9 * 9 + j % 9 = j by omega] at this
    · have hi' : i < len := by simpa using hi
      refine ⟨(f i).2, by simp [hi'], ?_⟩
      have := (hf i hi').2.1
      simpa using this
    · have := hR _ (by simp only [DataW.weights, Tryz.underlying39]; exact List.mem_cons_self)
      rw [bytes_sd] at this
      simp only [List.length_map, List.length_range] at this ⊢
      omega
    · obtain ⟨i, hi, rfl⟩ := List.mem_map.1 hy
      have hi' : i < len := by simpa using hi
      exact (hf i hi').2.2
end
end Go.Proofs.YtebjjkhiniccgaaGreat.Jo
