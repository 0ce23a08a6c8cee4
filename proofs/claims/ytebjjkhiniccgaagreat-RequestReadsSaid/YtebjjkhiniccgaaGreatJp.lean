/-
  Layer 8 (request): the contracts of Parse and TakeSign.
-/
import Derived.Test.YtebjjkhiniccgaaGreatJf
import Derived.Test.YtebjjkhiniccgaaGreatQt
namespace Go.Proofs.YtebjjkhiniccgaaGreat.Jp
set_option linter.unusedSimpArgs false
open Go Go.RowKit Ck Kw Ca Cb Ce Cf Cg Ch Ci Ga Kf Pm Pe Pk Pp Qb Qt Lk Jm Ja Jb Jd Jf
attribute [local go_sem ↓] Go.wp_at_zero Go.wp_at_succ
set_option linter.unusedVariables false
set_option maxRecDepth 100000

/-- What Parse leaves. -/
def ParsedQ (w : World) (r : Q × Int) (e : Ending) (w' : World) : Prop := ∃ A c, e = .returned (.tuple #[QV r.1 A c, .int .i64 r.2]) ∧ Ls w' (fun k => k < w.heap.size) (.slice A r.1.o.recs.length c) r.1.o.recs ∧ Below w.heap.size w w'
/-- Within Parse: the result's block, the reader, the request. -/
structure PS (w0 : World) (M g gx : Nat) (cs : Array Value) (s : Cm.RS) (W : World) : Prop where
  below : Below w0.heap.size w0 W
  res : Blk W w0.heap.size 27 Z7
  op : Blk W gx 27 cs
  rd : CR W (fun k => k < w0.heap.size + 1 ∨ M ≤ k) g s
  lo : w0.heap.size + 1 ≤ g
  hi : g < M
  gx : M ≤ gx
section
variable {w0 W W' : World} {M g gx : Nat} {cs cs' : Array Value} {s s' : Cm.RS}
theorem PS.next (h : PS w0 M g gx cs s W) (hg : W.grownBy W' (some g)) (hc : CR W' (fun k => k < w0.heap.size + 1 ∨ M ≤ k) g s') : PS w0 M g gx cs s' W' := by
  have l := h.lo; have u := h.hi; have x := h.gx
  exact ⟨h.below.grown hg h.below.size (fun q hq => by injection hq with hq; omega), h.res.grown hg (by simp; omega), h.op.grown hg (by simp; omega), hc, l, u, x⟩
theorem PS.later (h : PS w0 M g gx cs s W) (hb : Below W.heap.size W W') : PS w0 M g gx cs s W' := h.next (grown_of_below hb _) (h.rd.after hb)
theorem PS.put (h : PS w0 M g gx cs s W) (i : Nat) (u : Value) (hcs : cs.setIfInBounds i u = cs') : PS w0 M g gx cs' s (W.setCell ⟨gx, i, none⟩ u) := by
  subst hcs
  have l := h.lo; have o := h.hi; have x := h.gx
  have b := h.below.size
  exact ⟨h.below.setCell (by show w0.heap.size ≤ gx; omega) u, h.res.far (by show w0.heap.size ≠ gx; omega) u, h.op.set_ i u, h.rd.grown (row := some gx) (grown_setCell (World.grownBy.refl W (some gx)) (.inl rfl) u) (by simp; omega) (fun q hq _ => by injection hq with hq; exact .inr (by omega)), l, o, x⟩
end
theorem ps_first {w w1 : World} {g : Nat} {s : Cm.RS} (hc : CR w1 (fun k => k < (w.alloc (.cells Z7 27)).heap.size) g s) (hg : (w.alloc (.cells Z7 27)).heap.size ≤ g) (hb : Below (w.alloc (.cells Z7 27)).heap.size (w.alloc (.cells Z7 27)) w1) :
    PS w w1.heap.size g w1.heap.size Z7 s (w1.alloc (.cells Z7 27)) := by
  have s0 : (w.alloc (.cells Z7 27)).heap.size = w.heap.size + 1 := by simp
  have b0 := op_below w (.cells Z7 27)
  have r0 : Blk (w.alloc (.cells Z7 27)) w.heap.size 27 Z7 := Blk.new _ _ _
  have hlt := hc.lt
  rw [s0] at hc hg
  have b2 := op_below w1 (.cells Z7 27)
  exact ⟨(b0.trans (hb.mono (by omega))).trans (b2.mono (by have := hb.size; omega)), (r0.below hb (by omega)).alloc _, Blk.new _ _ _, (hc.old (Nat.le_refl _)).after b2, hg, hlt, Nat.le_refl _⟩
theorem parsedq_of {w W : World} {q : Q} {A : Option Addr} {c : Nat} {r : Q × Int} {z : Int} {M g gx : Nat} {cs : Array Value} {s : Cm.RS} (h : PS w M g gx cs s W) (hls : Ls W (fun k => k < w.heap.size + 1) (.slice A q.o.recs.length c) q.o.recs) (hr : r = (q, z)) {W' : World} (hc : Ch (fun k => k = w.heap.size) W W') :
    ParsedQ w r (.returned (.tuple #[QV q A c, .int .i64 z])) W' := by
  subst hr
  exact ⟨A, c, rfl, (hls.ch hc (fun k _ hk => by omega)).weaken (fun k _ hk => by omega), h.below.trans (hc.below (fun k hk h => by omega) h.below.size)⟩
theorem nat_i64 (z : Nat) (h : z ≤ 9007199254740992) : IntKind.i64.wrap (z : Int) = (z : Int) := wrap_i64n z (by omega)

set_option maxHeartbeats 8000000 in
theorem qparse_any (w : World) (X : Nat → Prop) (v : Value) (n : Nat) (b : List UInt8) (hv : Sl w X 1 v n (BVs b)) (hn : n ≤ 140737488355328) :
    Calls Tryz.prog 5 #[v] w (ParsedQ w (qparse b)) := by
  have hnb := sl_len hv
  subst hnb
  have HRD := Lib.hid (Ch.read_any (w.alloc (.cells Z7 27)) X v b.length b (hv.after (op_below w _)) hn)
  have hl1 := Cm.numS_len (b, 0) 7
  have hl2 := Cm.numS_len (Cm.numS (b, 0) 7).2 9007199254740992
  have hm1 := Cm.numS_le (b, 0) 7
  have hm2 := Cm.numS_le (Cm.numS (b, 0) 7).2 9007199254740992
  have HP : Hid (qparse b = if Cm.doneS (take (Cm.numS (Cm.numS (b, 0) 7).2 9007199254740992).2).2 ≠ 0 then (Q.zero, Cm.doneS (take (Cm.numS (Cm.numS (b, 0) 7).2 9007199254740992).2).2) else if (Cm.numS (Cm.numS (b, 0) 7).2 9007199254740992).1 = 0 then (Q.zero, 80) else (⟨(Cm.numS (b, 0) 7).1, (Cm.numS (Cm.numS (b, 0) 7).2 9007199254740992).1, (take (Cm.numS (Cm.numS (b, 0) 7).2 9007199254740992).2).1⟩, 0)) := Lib.hid rfl
  have HRL := Lib.hid (take_recs (Cm.numS (Cm.numS (b, 0) 7).2 9007199254740992).2)
  obtain ⟨A, c, rfl, -⟩ := hv
  generalize qparse b = QP at *
  unfold Z7 at HRD
  go_enter Tryz.func5, Tryz.ntmps5
  go_wp2_with fail
  refine HRD.out.mono ?_
  rintro e w1 ⟨g, rfl, hc1, hg1, hb1⟩
  have HS1 := Lib.hid (ps_first hc1 hg1 hb1)
  have hop := HS1.out.op
  clear hc1 hg1 hb1 HRD
  unfold Z7 at HS1 hop
  go_wp2_with fail
  have hM : w1.heap.size = w1.heap.size := rfl
  generalize hW : w1.alloc (.cells #[.int .i64 0, .int .i64 0, .int .i64 0, .string ⟨#[]⟩, .string ⟨#[]⟩, .int .i64 0, .slice none 0 0] 27) = w2 at *
  generalize w1.heap.size = gx at *
  clear hM hW
  have HN1 := Lib.hid (num_any w2 _ g (b, 0) HS1.out.rd 7)
  obtain ⟨⟨x0, x1, x2, x3, x4, x5, x6⟩, ⟨f0, f1, f2, f3, f4, f5, f6⟩⟩ := Blk.cells7 hop
  clear hop x0 x1 x2 x3 x4 x5 x6 f0 f1 f2 f3 f4 f5 f6
  unfold Numed at HN1
  generalize Cm.numS (b, 0) 7 = n1 at *
  obtain ⟨k1, s1⟩ := n1
  simp only at hl1 hl2 hm1 hm2 HN1 HRL HP
  have hw1 := nat_i64 k1 (by omega)
  refine HN1.out.mono ?_
  rintro e w3 ⟨rfl, hg3, hc3⟩
  have HS3 := Lib.hid (HS1.out.next hg3 hc3)
  clear hg3 hc3 HN1
  obtain ⟨⟨x0, x1, x2, x3, x4, x5, x6⟩, ⟨f0, f1, f2, f3, f4, f5, f6⟩⟩ := Blk.cells7 HS3.out.op
  go_wp2_with fail
  have HS4 : Hid (PS w gx g gx #[.int .i64 (k1 : Int), .int .i64 0, .int .i64 0, .string ⟨#[]⟩, .string ⟨#[]⟩, .int .i64 0, .slice none 0 0] s1 (w3.setCell ⟨gx, 0, none⟩ (.int .i64 (k1 : Int)))) := Lib.hid (HS3.out.put 0 _ rfl)
  generalize w3.setCell ⟨gx, 0, none⟩ (.int .i64 (k1 : Int)) = w4 at *
  clear x0 x1 x2 x3 x4 x5 x6 f0 f1 f2 f3 f4 f5 f6
  have HN2 := Lib.hid (num_any w4 _ g s1 HS4.out.rd 9007199254740992)
  unfold Numed at HN2
  generalize Cm.numS s1 9007199254740992 = n2 at *
  obtain ⟨k2, s2⟩ := n2
  simp only at hl2 hm2 HN2 HRL HP
  have hw2 := nat_i64 k2 (by omega)
  refine HN2.out.mono ?_
  rintro e w5 ⟨rfl, hg5, hc5⟩
  have HS5 := Lib.hid (HS4.out.next hg5 hc5)
  clear hg5 hc5 HN2
  obtain ⟨⟨x0, x1, x2, x3, x4, x5, x6⟩, ⟨f0, f1, f2, f3, f4, f5, f6⟩⟩ := Blk.cells7 HS5.out.op
  go_wp2_with fail
  have HS6 : Hid (PS w gx g gx #[.int .i64 (k1 : Int), .int .i64 (k2 : Int), .int .i64 0, .string ⟨#[]⟩, .string ⟨#[]⟩, .int .i64 0, .slice none 0 0] s2 (w5.setCell ⟨gx, 1, none⟩ (.int .i64 (k2 : Int)))) := Lib.hid (HS5.out.put 1 _ rfl)
  generalize w5.setCell ⟨gx, 1, none⟩ (.int .i64 (k2 : Int)) = w6 at *
  clear x0 x1 x2 x3 x4 x5 x6 f0 f1 f2 f3 f4 f5 f6
  have HTK := Lib.hid (Qt.take_any w6 _ g s2 HS6.out.rd (by omega))
  unfold Readed at HTK
  generalize take s2 = t3 at *
  obtain ⟨o, s3⟩ := t3
  simp only at HTK HRL HP
  refine HTK.out.mono ?_
  rintro e w7 ⟨v7, rfl, hoi, hg7, hc7⟩
  obtain ⟨A7, c7, rfl, hls⟩ := hoi
  have HS7 := Lib.hid (HS6.out.next hg7 hc7)
  have HLS7 : Hid (Ls w7 (fun k => k < w.heap.size + 1 ∨ k = gx) (.slice A7 o.recs.length c7) o.recs) := Lib.hid (hls.weaken (fun k _ hk => by
    have h1 := HS6.out.op.lt
    have h2 := HS6.out.res.lt
    show k < w6.heap.size
    rcases hk with hk | hk <;> omega))
  clear hg7 hc7 hls HTK
  unfold OV
  obtain ⟨⟨x0, x1, x2, x3, x4, x5, x6⟩, ⟨f0, f1, f2, f3, f4, f5, f6⟩⟩ := Blk.cells7 HS7.out.op
  go_wp2_with fail
  have HS8 : Hid (PS w gx g gx #[.int .i64 (k1 : Int), .int .i64 (k2 : Int), .int .i64 o.kind, .string ⟨o.topic.toArray⟩, .string ⟨o.group.toArray⟩, .int .i64 o.off, .slice A7 o.recs.length c7] s3 (((((w7.setCell ⟨gx, 2, none⟩ (.int .i64 o.kind)).setCell ⟨gx, 3, none⟩ (.string ⟨o.topic.toArray⟩)).setCell ⟨gx, 4, none⟩ (.string ⟨o.group.toArray⟩)).setCell ⟨gx, 5, none⟩ (.int .i64 o.off)).setCell ⟨gx, 6, none⟩ (.slice A7 o.recs.length c7))) :=
    Lib.hid (((((HS7.out.put 2 _ rfl).put 3 _ rfl).put 4 _ rfl).put 5 _ rfl).put 6 _ rfl)
  have HLS8 : Hid (Ls (((((w7.setCell ⟨gx, 2, none⟩ (.int .i64 o.kind)).setCell ⟨gx, 3, none⟩ (.string ⟨o.topic.toArray⟩)).setCell ⟨gx, 4, none⟩ (.string ⟨o.group.toArray⟩)).setCell ⟨gx, 5, none⟩ (.int .i64 o.off)).setCell ⟨gx, 6, none⟩ (.slice A7 o.recs.length c7)) (fun k => k < w.heap.size + 1) (.slice A7 o.recs.length c7) o.recs) := Lib.hid ((HLS7.out.ch (ch5 (g := gx) (Ch.refl _ w7)) (fun k _ hk => .inr hk)).weaken (fun k _ hk => .inl hk))
  generalize (((((w7.setCell ⟨gx, 2, none⟩ (.int .i64 o.kind)).setCell ⟨gx, 3, none⟩ (.string ⟨o.topic.toArray⟩)).setCell ⟨gx, 4, none⟩ (.string ⟨o.group.toArray⟩)).setCell ⟨gx, 5, none⟩ (.int .i64 o.off)).setCell ⟨gx, 6, none⟩ (.slice A7 o.recs.length c7)) = w8 at *
  clear x0 x1 x2 x3 x4 x5 x6 f0 f1 f2 f3 f4 f5 f6 HS7 HLS7
  have HDN := Lib.hid (done_any w8 _ g s3 HS8.out.rd)
  generalize Cm.doneS s3 = dz at *
  refine HDN.out.mono ?_
  rintro e w9 ⟨rfl, rfl⟩
  have hres : Blk w8 w.heap.size 27 #[.int .i64 0, .int .i64 0, .int .i64 0, .string ⟨#[]⟩, .string ⟨#[]⟩, .int .i64 0, .slice none 0 0] := HS8.out.res
  obtain ⟨⟨r0, r1, r2, r3, r4, r5, r6⟩, ⟨y0, y1, y2, y3, y4, y5, y6⟩⟩ := Blk.cells7 hres
  obtain ⟨⟨x0, x1, x2, x3, x4, x5, x6⟩, -⟩ := Blk.cells7 HS8.out.op
  have HRS := Lib.hid hres
  clear hres HDN
  by_cases hd : dz = 0
  · subst hd
    by_cases ht : k2 = 0
    · have ht1 : ((k2 : Int) == 0) = true := by rw [ht]; rfl
      have HR : Hid (QP = (Q.zero, 80)) := Lib.hid (by rw [HP.out, if_neg (by simp), if_pos ht])
      clear ht
      generalize (k2 : Int) = z2 at *
      go_wp2_with fail
      refine bodyPost_ret (results_row_tmp rfl _ _ w.heap.size 27 #[.int .i64 0, .int .i64 0, .int .i64 0, .string ⟨#[]⟩, .string ⟨#[]⟩, .int .i64 0, .slice none 0 0] (0, 0) _ rfl (blk7 HRS.out) Tryz.underlying27 rfl size_req) rfl ?_
      exact parsedq_of (q := Q.zero) (A := none) (c := 0) HS8.out (ls_nil _ _) HR.out (ch7 (Ch.refl _ _))
    · have ht1 : ((k2 : Int) == 0) = false := by rw [beq_eq_false_iff_ne]; omega
      have HR : Hid (QP = (⟨(k1 : Int), (k2 : Int), o⟩, 0)) := Lib.hid (by rw [HP.out, if_neg (by simp), if_neg ht])
      clear ht HP
      generalize (k2 : Int) = z2 at *
      go_wp2_with fail
      refine bodyPost_ret (results_row_tmp rfl _ _ w.heap.size 27 #[.int .i64 (k1 : Int), .int .i64 z2, .int .i64 o.kind, .string ⟨o.topic.toArray⟩, .string ⟨o.group.toArray⟩, .int .i64 o.off, .slice A7 o.recs.length c7] (0, 0) _ rfl (blk7 HRS.out) Tryz.underlying27 rfl size_req) rfl ?_
      exact parsedq_of (q := ⟨(k1 : Int), z2, o⟩) (A := A7) (c := c7) HS8.out HLS8.out HR.out (ch7 (Ch.refl _ _))
  · have e1 : (dz == 0) = false := beq_eq_false_iff_ne.2 hd
    have e2 : (dz != 0) = true := by rw [bne, e1]; rfl
    have HR : Hid (QP = (Q.zero, dz)) := Lib.hid (by rw [HP.out, if_pos hd])
    clear hd
    go_wp2_with fail
    refine bodyPost_ret (results_row_tmp rfl _ _ w.heap.size 27 #[.int .i64 0, .int .i64 0, .int .i64 0, .string ⟨#[]⟩, .string ⟨#[]⟩, .int .i64 0, .slice none 0 0] (0, 0) _ rfl (blk7 HRS.out) Tryz.underlying27 rfl size_req) rfl ?_
    exact parsedq_of (q := Q.zero) (A := none) (c := 0) HS8.out (ls_nil _ _) HR.out (ch7 (Ch.refl _ _))

/-- What TakeSign leaves. -/
def TookS (w : World) (X : Nat → Prop) (g : Nat) (r : (Int × Int) × Cm.RS) (e : Ending) (w' : World) : Prop := e = .returned (.agg #[.int .i64 r.1.1, .int .i64 r.1.2]) ∧ w.grownBy w' (some g) ∧ CR w' X g r.2
theorem tooks_of {w W : World} {X : Nat → Prop} {g g1 g2 : Nat} {t : TypeId} {zs cs : Array Value} {s : Cm.RS} {r : (Int × Int) × Cm.RS} {x y : Int} (h : RC w X g g1 g2 t zs cs s W) (hr : r = ((x, y), s)) :
    TookS w X g r (.returned (.agg #[.int .i64 x, .int .i64 y])) ((W.setCell ⟨g1, 0, none⟩ (.int .i64 x)).setCell ⟨g1, 1, none⟩ (.int .i64 y)) := by
  subst hr
  have n1 := h.new1
  have o1 := h.old
  have cg : W.grownBy ((W.setCell ⟨g1, 0, none⟩ (.int .i64 x)).setCell ⟨g1, 1, none⟩ (.int .i64 y)) (some g1) := grown_setCell (grown_setCell (World.grownBy.refl W (some g1)) (p := ⟨g1, 0, none⟩) (.inl rfl) _) (p := ⟨g1, 1, none⟩) (.inl rfl) _
  exact ⟨rfl, grown_step h.grown cg (.inr fun q hq => by injection hq with hq; omega), (h.rd.grown cg (by simp; omega) (fun q hq _ => by injection hq with hq; exact .inr (by omega))).weaken (fun k _ hk => .inl hk)⟩
theorem size_sign : (Tryz.prog.info? 47).map (·.size) = some 2 := by kernel_rfl
theorem Blk.cells2 {W : World} {g : Nat} {t : TypeId} {a b : Value} (h : Blk W g t #[a, b]) : (W.cell? ⟨g, 0, none⟩ = some a ∧ W.cell? ⟨g, 1, none⟩ = some b) ∧ (W.frozen? ⟨g, 0, none⟩ = false ∧ W.frozen? ⟨g, 1, none⟩ = false) :=
  ⟨⟨h.cell 0, h.cell 1⟩, ⟨h.frozen 0, h.frozen 1⟩⟩

def tsign_tail (k1 k2 : Nat) (s2 : Cm.RS) : (Int × Int) × Cm.RS := if (if k2 = 0 then Cm.failS s2 81 else s2).2 ≠ 0 then ((0, 0), if k2 = 0 then Cm.failS s2 81 else s2) else (((k1 : Int), (k2 : Int)), if k2 = 0 then Cm.failS s2 81 else s2)
set_option maxHeartbeats 8000000 in
theorem tsign_any (w : World) (X : Nat → Prop) (g : Nat) (s : Cm.RS) (h : CR w X g s) :
    Calls Tryz.prog 15 #[P_ g] w (TookS w X g (tsign s)) := by
  have hlt := h.lt
  have b0 : Below w.heap.size w ((w.alloc (.cells #[.int .i64 0, .int .i64 0] 47)).alloc (.cells #[.int .i64 0, .int .i64 0] 47)) := (op_below w _).trans ((op_below _ _).mono (by simp))
  have hrc : RC w X g w.heap.size (w.heap.size + 1) 47 #[.int .i64 0, .int .i64 0] #[.int .i64 0, .int .i64 0] s ((w.alloc (.cells #[.int .i64 0, .int .i64 0] 47)).alloc (.cells #[.int .i64 0, .int .i64 0] 47)) :=
    ⟨grown_of_below b0 _, hlt, Nat.le_refl _, by omega, by omega, Blk.alloc (Blk.new _ _ _) _, Blk.new_at (by simp) rfl, (h.old (Nat.le_refl _)).after b0⟩
  have HR0 := Lib.hid hrc
  have hm1 := Cm.numS_le s 20
  have hm2 := Cm.numS_le (Cm.numS s 20).2 9007199254740992
  have HT : Hid (tsign s = if (if (Cm.numS (Cm.numS s 20).2 9007199254740992).1 = 0 then Cm.failS (Cm.numS (Cm.numS s 20).2 9007199254740992).2 81 else (Cm.numS (Cm.numS s 20).2 9007199254740992).2).2 ≠ 0 then ((0, 0), if (Cm.numS (Cm.numS s 20).2 9007199254740992).1 = 0 then Cm.failS (Cm.numS (Cm.numS s 20).2 9007199254740992).2 81 else (Cm.numS (Cm.numS s 20).2 9007199254740992).2) else ((((Cm.numS s 20).1 : Int), ((Cm.numS (Cm.numS s 20).2 9007199254740992).1 : Int)), if (Cm.numS (Cm.numS s 20).2 9007199254740992).1 = 0 then Cm.failS (Cm.numS (Cm.numS s 20).2 9007199254740992).2 81 else (Cm.numS (Cm.numS s 20).2 9007199254740992).2)) := Lib.hid rfl
  generalize tsign s = TS at *
  clear h b0 hrc
  go_enter Tryz.func15, Tryz.ntmps15
  go_wp2_with fail
  generalize ((w.alloc (.cells #[.int .i64 0, .int .i64 0] 47)).alloc (.cells #[.int .i64 0, .int .i64 0] 47)) = w1 at *
  have HN1 := Lib.hid (num_any w1 _ g s HR0.out.rd 20)
  unfold Numed at HN1
  generalize Cm.numS s 20 = n1 at *
  obtain ⟨k1, s1⟩ := n1
  simp only at hm1 hm2 HN1 HT
  have hw1 := nat_i64 k1 (by omega)
  refine HN1.out.mono ?_
  rintro e w2 ⟨rfl, hg2, hc2⟩
  have HR2 := Lib.hid (HR0.out.next hg2 hc2)
  clear hg2 hc2 HN1
  obtain ⟨⟨x0, x1⟩, ⟨f0, f1⟩⟩ := Blk.cells2 HR2.out.op
  go_wp2_with fail
  have HR3 : Hid (RC w X g w.heap.size (w.heap.size + 1) 47 #[.int .i64 0, .int .i64 0] #[.int .i64 (k1 : Int), .int .i64 0] s1 (w2.setCell ⟨w.heap.size + 1, 0, none⟩ (.int .i64 (k1 : Int)))) := Lib.hid (HR2.out.put 0 _ rfl)
  generalize w2.setCell ⟨w.heap.size + 1, 0, none⟩ (.int .i64 (k1 : Int)) = w3 at *
  clear x0 x1 f0 f1
  have HN2 := Lib.hid (num_any w3 _ g s1 HR3.out.rd 9007199254740992)
  unfold Numed at HN2
  generalize Cm.numS s1 9007199254740992 = n2 at *
  obtain ⟨k2, s2⟩ := n2
  simp only at hm2 HN2 HT
  have hw2 := nat_i64 k2 (by omega)
  refine HN2.out.mono ?_
  rintro e w4 ⟨rfl, hg4, hc4⟩
  have HR4 := Lib.hid (HR3.out.next hg4 hc4)
  clear hg4 hc4 HN2
  have HZK : Hid ((tsign_tail k1 k2 s2) = TS) := Lib.hid HT.out.symm
  obtain ⟨⟨x0, x1⟩, ⟨f0, f1⟩⟩ := Blk.cells2 HR4.out.op
  clear HT
  by_cases hz : k2 = 0
  · have e0 : ((k2 : Int) == 0) = true := by rw [hz]; rfl
    have HZ : Hid (TS = if (Cm.failS s2 81).2 ≠ 0 then ((0, 0), Cm.failS s2 81) else (((k1 : Int), (k2 : Int)), Cm.failS s2 81)) := Lib.hid (by rw [← HZK.out, tsign_tail, if_pos hz])
    clear hz HZK
    generalize (k2 : Int) = z2 at *
    go_wp2_with fail
    have HR5 : Hid (RC w X g w.heap.size (w.heap.size + 1) 47 #[.int .i64 0, .int .i64 0] #[.int .i64 (k1 : Int), .int .i64 z2] s2 (w4.setCell ⟨w.heap.size + 1, 1, none⟩ (.int .i64 z2))) := Lib.hid (HR4.out.put 1 _ rfl)
    generalize w4.setCell ⟨w.heap.size + 1, 1, none⟩ (.int .i64 z2) = w5 at *
    have HF := Lib.hid (fail_any w5 _ g s2 HR5.out.rd 81)
    generalize Cm.failS s2 81 = s3 at *
    refine HF.out.mono ?_
    rintro e w6 ⟨rfl, hg6, hc6⟩
    have HR6 := Lib.hid (HR5.out.next hg6 hc6)
    clear hg6 hc6 HF x0 x1 f0 f1
    obtain ⟨⟨x0, x1⟩, ⟨f0, f1⟩⟩ := Blk.cells2 HR6.out.op
    obtain ⟨⟨r0, r1⟩, ⟨y0, y1⟩⟩ := Blk.cells2 HR6.out.res
    obtain ⟨A6, n6, c6, hb6, -⟩ := id HR6.out.rd
    have HER := Lib.hid (err_blk w6 g _ _ hb6)
    clear hb6
    by_cases hs : s3.2 = 0
    · have HZ2 : Hid (TS = (((k1 : Int), z2), s3)) := Lib.hid (by rw [HZ.out, if_neg (by rw [hs]; simp)])
      rw [hs] at HER
      clear hs HZ
      go_wp2_with fail
      refine HER.out.mono ?_
      rintro e w7 ⟨rfl, rfl⟩
      go_wp2_with fail
      refine bodyPost_ret (results_row1 rfl _ _ w.heap.size 47 #[.int .i64 (k1 : Int), .int .i64 z2] (0, 0) _ rfl (Jb.blk2 HR6.out.res) Tryz.underlying47 rfl size_sign) rfl ?_
      exact tooks_of HR6.out HZ2.out
    · have e1 : (s3.2 == 0) = false := beq_eq_false_iff_ne.2 hs
      have e2 : (s3.2 != 0) = true := by rw [bne, e1]; rfl
      have HZ2 : Hid (TS = ((0, 0), s3)) := Lib.hid (by rw [HZ.out, if_pos hs])
      clear hs HZ
      go_wp2_with fail
      refine HER.out.mono ?_
      rintro e w7 ⟨rfl, rfl⟩
      go_wp2_with fail
      refine bodyPost_ret (results_row1 rfl _ _ w.heap.size 47 #[.int .i64 0, .int .i64 0] (0, 0) _ rfl (Jb.blk2 HR6.out.res) Tryz.underlying47 rfl size_sign) rfl ?_
      exact tooks_of HR6.out HZ2.out
  · have e0 : ((k2 : Int) == 0) = false := by rw [beq_eq_false_iff_ne]; omega
    have HZ : Hid (TS = if s2.2 ≠ 0 then ((0, 0), s2) else (((k1 : Int), (k2 : Int)), s2)) := Lib.hid (by rw [← HZK.out, tsign_tail, if_neg hz])
    clear hz HZK
    generalize (k2 : Int) = z2 at *
    go_wp2_with fail
    have HR6 : Hid (RC w X g w.heap.size (w.heap.size + 1) 47 #[.int .i64 0, .int .i64 0] #[.int .i64 (k1 : Int), .int .i64 z2] s2 (w4.setCell ⟨w.heap.size + 1, 1, none⟩ (.int .i64 z2))) := Lib.hid (HR4.out.put 1 _ rfl)
    generalize w4.setCell ⟨w.heap.size + 1, 1, none⟩ (.int .i64 z2) = w6 at *
    generalize s2 = s3 at *
    clear x0 x1 f0 f1
    obtain ⟨⟨x0, x1⟩, ⟨f0, f1⟩⟩ := Blk.cells2 HR6.out.op
    obtain ⟨⟨r0, r1⟩, ⟨y0, y1⟩⟩ := Blk.cells2 HR6.out.res
    obtain ⟨A6, n6, c6, hb6, -⟩ := id HR6.out.rd
    have HER := Lib.hid (err_blk w6 g _ _ hb6)
    clear hb6
    by_cases hs : s3.2 = 0
    · have HZ2 : Hid (TS = (((k1 : Int), z2), s3)) := Lib.hid (by rw [HZ.out, if_neg (by rw [hs]; simp)])
      rw [hs] at HER
      clear hs HZ
      refine HER.out.mono ?_
      rintro e w7 ⟨rfl, rfl⟩
      go_wp2_with fail
      refine bodyPost_ret (results_row1 rfl _ _ w.heap.size 47 #[.int .i64 (k1 : Int), .int .i64 z2] (0, 0) _ rfl (Jb.blk2 HR6.out.res) Tryz.underlying47 rfl size_sign) rfl ?_
      exact tooks_of HR6.out HZ2.out
    · have e1 : (s3.2 == 0) = false := beq_eq_false_iff_ne.2 hs
      have e2 : (s3.2 != 0) = true := by rw [bne, e1]; rfl
      have HZ2 : Hid (TS = ((0, 0), s3)) := Lib.hid (by rw [HZ.out, if_pos hs])
      clear hs HZ
      refine HER.out.mono ?_
      rintro e w7 ⟨rfl, rfl⟩
      go_wp2_with fail
      refine bodyPost_ret (results_row1 rfl _ _ w.heap.size 47 #[.int .i64 0, .int .i64 0] (0, 0) _ rfl (Jb.blk2 HR6.out.res) Tryz.underlying47 rfl size_sign) rfl ?_
      exact tooks_of HR6.out HZ2.out
end Go.Proofs.YtebjjkhiniccgaaGreat.Jp
