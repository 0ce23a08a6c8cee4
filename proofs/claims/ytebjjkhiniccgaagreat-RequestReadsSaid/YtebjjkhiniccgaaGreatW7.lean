import Derived.Test.YtebjjkhiniccgaaGreatJp
import Derived.Test.YtebjjkhiniccgaaGreatQu
/-
  Layer 8: the document's own Parse of requests, over its reader.
-/
namespace Go.Proofs.YtebjjkhiniccgaaGreat.Jz
set_option linter.unusedSimpArgs false
open Go Go.RowKit Ck Kw Ca Cb Ce Cf Cg Ch Ci Cj Cn Co Ga Pm Pe Pf Pg Ph Ppi Pk Pp Py Qb Qc Qt Qu Lk Jm Ja Jd Jf Jp
attribute [local go_sem ↓] Go.wp_at_zero Go.wp_at_succ
set_option linter.unusedVariables false
set_option maxRecDepth 100000

structure RP (w0 : World) (X : Nat → Prop) (g : Nat) (s : Cm.RS) (W : World) : Prop where
  below : Below w0.heap.size w0 W
  res : Blk W w0.heap.size 27 Z7
  new : w0.heap.size < g
  rd : RR W X g s
theorem RP.next {w0 W W' : World} {X : Nat → Prop} {g : Nat} {s s' : Cm.RS} (h : RP w0 X g s W) (hg : W.grownBy W' (some g)) (hc : RR W' X g s') : RP w0 X g s' W' := by
  have := h.new
  exact ⟨h.below.grown hg h.below.size (fun q hq => by injection hq with hq; omega), Blk.grown h.res hg (by simp; omega), h.new, hc⟩
theorem RP.later {w0 W W' : World} {X : Nat → Prop} {g : Nat} {s : Cm.RS} (h : RP w0 X g s W) (b : Below W.heap.size W W') : RP w0 X g s W' := ⟨h.below.trans (b.mono h.below.size), h.res.below b h.res.lt, h.new, h.rd.after b⟩
theorem rfin {w W W' : World} {q : Q} {A : Option Addr} {c : Nat} {r : Q × Int} {z : Int} (hb : Below w.heap.size w W) (hls : Ls W (fun k => k < w.heap.size + 1) (.slice A q.o.recs.length c) q.o.recs) (hr : r = (q, z)) (hc : Ch (fun k => k = w.heap.size) W W') : ParsedQ w r (.returned (.tuple #[QV q A c, .int .i64 z])) W' := by
  subst hr
  exact ⟨A, c, rfl, (hls.ch hc (fun k _ hk => by show k < w.heap.size + 1; omega)).weaken (fun k _ hk => by show k < w.heap.size + 1; have : k < w.heap.size := hk; omega), hb.trans (hc.below (fun k hk e => by omega) hb.size)⟩

set_option maxHeartbeats 8000000 in
theorem rqparse_any (w : World) (X : Nat → Prop) (v : Value) (n : Nat) (b : List UInt8) (hv : Sl w X 1 v n (BVs b)) (hn : n ≤ 140737488355328) :
    Calls Tryz.prog 6 #[v] w (ParsedQ w (qparse b)) := by
  have hnb := sl_len hv
  subst hnb
  have HRD := Lib.hid (rread_any (w.alloc (.cells Z7 27)) X v b.length b (hv.after (op_below w _)))
  have HZ0 : Hid ((w.alloc (.cells Z7 27)).heap.size = w.heap.size + 1) := Lib.hid (by simp)
  have HK0 : Hid (Blk (w.alloc (.cells Z7 27)) w.heap.size 27 Z7) := Lib.hid (Blk.new w _ _)
  have HB0 := Lib.hid (op_below w (.cells Z7 27))
  have hl1 := Cm.numS_len (b, 0) 7
  have hl2 := Cm.numS_len (Cm.numS (b, 0) 7).2 9007199254740992
  have hm1 := Cm.numS_le (b, 0) 7
  have hm2 := Cm.numS_le (Cm.numS (b, 0) 7).2 9007199254740992
  have HP : Hid (qparse b = if Cm.doneS (take (Cm.numS (Cm.numS (b, 0) 7).2 9007199254740992).2).2 ≠ 0 then (Q.zero, Cm.doneS (take (Cm.numS (Cm.numS (b, 0) 7).2 9007199254740992).2).2) else if (Cm.numS (Cm.numS (b, 0) 7).2 9007199254740992).1 = 0 then (Q.zero, 80) else (⟨(Cm.numS (b, 0) 7).1, (Cm.numS (Cm.numS (b, 0) 7).2 9007199254740992).1, (take (Cm.numS (Cm.numS (b, 0) 7).2 9007199254740992).2).1⟩, 0)) := Lib.hid rfl
  have HRL := Lib.hid (take_recs (Cm.numS (Cm.numS (b, 0) 7).2 9007199254740992).2)
  obtain ⟨A, c, rfl, -⟩ := hv
  generalize qparse b = QP at *
  unfold Z7 at HRD HZ0 HK0 HB0
  go_enter Tryz.func6, Tryz.ntmps6
  go_wp2_with fail
  refine HRD.out.mono ?_
  rintro e w1 ⟨he, hc1, hb1⟩
  obtain ⟨g, hgg⟩ : ∃ g, g = (w.alloc (.cells #[.int .i64 0, .int .i64 0, .int .i64 0, .string ⟨#[]⟩, .string ⟨#[]⟩, .int .i64 0, .slice none 0 0] 27)).heap.size := ⟨_, rfl⟩
  have he : e = .returned (P_ (w.alloc (.cells #[.int .i64 0, .int .i64 0, .int .i64 0, .string ⟨#[]⟩, .string ⟨#[]⟩, .int .i64 0, .slice none 0 0] 27)).heap.size) := he
  have hc1 : RR w1 X (w.alloc (.cells #[.int .i64 0, .int .i64 0, .int .i64 0, .string ⟨#[]⟩, .string ⟨#[]⟩, .int .i64 0, .slice none 0 0] 27)).heap.size (b, 0) := hc1
  rw [← hgg] at he hc1
  subst he
  have HS1 : Hid (RP w X g (b, 0) w1) := Lib.hid ⟨HB0.out.trans (hb1.mono HB0.out.size), HK0.out.below hb1 HK0.out.lt, by have := HZ0.out; omega, hc1⟩
  clear hgg hb1 hc1 HRD
  have HN1 := Lib.hid (rnum_any w1 _ g (b, 0) HS1.out.rd 7)
  unfold RNumed at HN1
  generalize Cm.numS (b, 0) 7 = n1 at *
  obtain ⟨k1, s1⟩ := n1
  simp only at hl1 hl2 hm1 hm2 HN1 HRL HP
  have hw1 := nat_i64 k1 (by omega)
  go_wp2_with fail
  refine HN1.out.mono ?_
  rintro e w2 ⟨rfl, hg2, hc2⟩
  have HS2 := Lib.hid (HS1.out.next hg2 hc2)
  clear hg2 hc2 HN1
  have HN2 := Lib.hid (rnum_any w2 _ g s1 HS2.out.rd 9007199254740992)
  unfold RNumed at HN2
  generalize Cm.numS s1 9007199254740992 = n2 at *
  obtain ⟨k2, s2⟩ := n2
  simp only at hl2 hm2 HN2 HRL HP
  have hw2 := nat_i64 k2 (by omega)
  go_wp2_with fail
  refine HN2.out.mono ?_
  rintro e w3 ⟨rfl, hg3, hc3⟩
  have HS3 := Lib.hid (HS2.out.next hg3 hc3)
  clear hg3 hc3 HN2
  have HTK := Lib.hid (Qu.rtake_any w3 _ g s2 HS3.out.rd (by omega))
  unfold RReaded at HTK
  generalize take s2 = t3 at *
  obtain ⟨o, s3⟩ := t3
  simp only at HTK HRL HP
  go_wp2_with fail
  refine HTK.out.mono ?_
  rintro e w4 ⟨v7, rfl, hoi, hg4, hc4⟩
  obtain ⟨A7, c7, rfl, hls⟩ := hoi
  have HS4 := Lib.hid (HS3.out.next hg4 hc4)
  have HLS4 : Hid (Ls w4 (fun k => k < w.heap.size + 1) (.slice A7 o.recs.length c7) o.recs) := Lib.hid (hls.weaken (fun k _ hk => by
    have h2 := HS3.out.res.lt
    show k < w3.heap.size
    have hk : k < w.heap.size + 1 := hk
    omega))
  clear hg4 hc4 hls HTK
  unfold OV
  have HS5 := Lib.hid (HS4.out.later (op_below w4 (.cells #[.int .i64 (k1 : Int), .int .i64 (k2 : Int), .int .i64 o.kind, .string ⟨o.topic.toArray⟩, .string ⟨o.group.toArray⟩, .int .i64 o.off, .slice A7 o.recs.length c7] 27)))
  have HLS5 := Lib.hid (HLS4.out.after (op_below w4 (.cells #[.int .i64 (k1 : Int), .int .i64 (k2 : Int), .int .i64 o.kind, .string ⟨o.topic.toArray⟩, .string ⟨o.group.toArray⟩, .int .i64 o.off, .slice A7 o.recs.length c7] 27)))
  have hx5 : Blk (w4.alloc (.cells #[.int .i64 (k1 : Int), .int .i64 (k2 : Int), .int .i64 o.kind, .string ⟨o.topic.toArray⟩, .string ⟨o.group.toArray⟩, .int .i64 o.off, .slice A7 o.recs.length c7] 27)) w4.heap.size 27 #[.int .i64 (k1 : Int), .int .i64 (k2 : Int), .int .i64 o.kind, .string ⟨o.topic.toArray⟩, .string ⟨o.group.toArray⟩, .int .i64 o.off, .slice A7 o.recs.length c7] := Blk.new w4 _ _
  have HDN := Lib.hid (rdone_any _ _ g s3 HS5.out.rd)
  generalize Cm.doneS s3 = dz at *
  go_wp2_with fail
  generalize w4.alloc (.cells #[.int .i64 (k1 : Int), .int .i64 (k2 : Int), .int .i64 o.kind, .string ⟨o.topic.toArray⟩, .string ⟨o.group.toArray⟩, .int .i64 o.off, .slice A7 o.recs.length c7] 27) = w5 at *
  have hgx : w.heap.size < w4.heap.size := HS4.out.res.lt
  generalize w4.heap.size = gx at *
  refine HDN.out.mono ?_
  rintro e w6 ⟨rfl, rfl⟩
  have hres : Blk w5 w.heap.size 27 #[.int .i64 0, .int .i64 0, .int .i64 0, .string ⟨#[]⟩, .string ⟨#[]⟩, .int .i64 0, .slice none 0 0] := HS5.out.res
  obtain ⟨⟨r0, r1, r2, r3, r4, r5, r6⟩, ⟨y0, y1, y2, y3, y4, y5, y6⟩⟩ := Blk.cells7 hres
  obtain ⟨⟨x0, x1, x2, x3, x4, x5, x6⟩, -⟩ := Blk.cells7 hx5
  have HRS := Lib.hid hres
  have n12 : ¬ (w.heap.size = gx) := by omega
  have n21 : ¬ (gx = w.heap.size) := by omega
  clear hres HDN hx5
  by_cases hd : dz = 0
  · subst hd
    by_cases ht : k2 = 0
    · have ht1 : ((k2 : Int) == 0) = true := by rw [ht]; rfl
      have HR : Hid (QP = (Q.zero, 80)) := Lib.hid (by rw [HP.out, if_neg (by simp), if_pos ht])
      clear ht
      generalize (k2 : Int) = z2 at *
      go_wp2_with fail
      refine bodyPost_ret (results_row_tmp rfl _ _ w.heap.size 27 #[.int .i64 0, .int .i64 0, .int .i64 0, .string ⟨#[]⟩, .string ⟨#[]⟩, .int .i64 0, .slice none 0 0] (0, 0) _ rfl (blk7 HRS.out) Tryz.underlying27 rfl size_req) rfl ?_
      exact rfin (q := Q.zero) (A := none) (c := 0) HS5.out.below (ls_nil _ _) HR.out (ch7 (Ch.refl _ _))
    · have ht1 : ((k2 : Int) == 0) = false := by rw [beq_eq_false_iff_ne]; omega
      have HR : Hid (QP = (⟨(k1 : Int), (k2 : Int), o⟩, 0)) := Lib.hid (by rw [HP.out, if_neg (by simp), if_neg ht])
      clear ht HP
      generalize (k2 : Int) = z2 at *
      go_wp2_with fail
      refine bodyPost_ret (results_row_tmp rfl _ _ w.heap.size 27 #[.int .i64 (k1 : Int), .int .i64 z2, .int .i64 o.kind, .string ⟨o.topic.toArray⟩, .string ⟨o.group.toArray⟩, .int .i64 o.off, .slice A7 o.recs.length c7] (0, 0) _ rfl (blk7 HRS.out) Tryz.underlying27 rfl size_req) rfl ?_
      exact rfin (q := ⟨(k1 : Int), z2, o⟩) (A := A7) (c := c7) HS5.out.below HLS5.out HR.out (ch7 (Ch.refl _ _))
  · have e1 : (dz == 0) = false := beq_eq_false_iff_ne.2 hd
    have e2 : (dz != 0) = true := by rw [bne, e1]; rfl
    have HR : Hid (QP = (Q.zero, dz)) := Lib.hid (by rw [HP.out, if_pos hd])
    clear hd
    go_wp2_with fail
    refine bodyPost_ret (results_row_tmp rfl _ _ w.heap.size 27 #[.int .i64 0, .int .i64 0, .int .i64 0, .string ⟨#[]⟩, .string ⟨#[]⟩, .int .i64 0, .slice none 0 0] (0, 0) _ rfl (blk7 HRS.out) Tryz.underlying27 rfl size_req) rfl ?_
    exact rfin (q := Q.zero) (A := none) (c := 0) HS5.out.below (ls_nil _ _) HR.out (ch7 (Ch.refl _ _))
end Go.Proofs.YtebjjkhiniccgaaGreat.Jz

/-
  Layer 8: the document's own TakeSign, over its reader.
-/
namespace Go.Proofs.YtebjjkhiniccgaaGreat.Ka
set_option linter.unusedSimpArgs false
open Go Go.RowKit Ck Kw Ca Cb Ce Cf Cg Ch Ci Cj Cn Co Ga Pm Pe Pf Pg Ph Ppi Pk Pp Py Qb Qc Qt Qu Lk Jm Ja Jb Jd Jf Jp Jz
attribute [local go_sem ↓] Go.wp_at_zero Go.wp_at_succ
set_option linter.unusedVariables false
set_option maxRecDepth 100000

theorem rr_shape {w : World} {X : Nat → Prop} {g : Nat} {s : Cm.RS} (h : RR w X g s) : w.cell? ⟨g, 1, none⟩ = some (.int .i64 s.2) := by
  obtain ⟨A, n, c, hb, hsl, _⟩ := h
  exact hb.cell 1
/-- A reader, and the result beside it. -/
structure RS2 (w0 : World) (X : Nat → Prop) (g : Nat) (s : Cm.RS) (W : World) : Prop where
  grown : w0.grownBy W (some g)
  old : g < w0.heap.size
  res : Blk W w0.heap.size 47 #[.int .i64 0, .int .i64 0]
  rd : RR W (fun k => X k ∨ w0.heap.size ≤ k) g s
theorem RS2.next {w0 W W' : World} {X : Nat → Prop} {g : Nat} {s s' : Cm.RS} (h : RS2 w0 X g s W) (hg : W.grownBy W' (some g)) (hc : RR W' (fun k => X k ∨ w0.heap.size ≤ k) g s') : RS2 w0 X g s' W' := by
  have := h.old
  exact ⟨h.grown.trans hg, h.old, Blk.grown h.res hg (by simp; omega), hc⟩
theorem RS2.later {w0 W W' : World} {X : Nat → Prop} {g : Nat} {s : Cm.RS} (h : RS2 w0 X g s W) (b : Below W.heap.size W W') : RS2 w0 X g s W' := ⟨h.grown.trans (grown_of_below b _), h.old, h.res.below b h.res.lt, h.rd.after b⟩

set_option maxHeartbeats 8000000 in
theorem rtsign_any (w : World) (X : Nat → Prop) (g : Nat) (s : Cm.RS) (h : RR w X g s) :
    Calls Tryz.prog 16 #[P_ g] w (RTookR w X g (tsign s)) := by
  have hr : RS2 w X g s (w.alloc (.cells #[.int .i64 0, .int .i64 0] 47)) := ⟨grown_of_below (op_below w _) _, h.lt, Blk.new w _ _, (h.old (Nat.le_refl _)).after (op_below w _)⟩
  have HR0 := Lib.hid hr
  have hm1 := Cm.numS_le s 20
  have hm2 := Cm.numS_le (Cm.numS s 20).2 9007199254740992
  have HT : Hid (tsign s = tsign_tail (Cm.numS s 20).1 (Cm.numS (Cm.numS s 20).2 9007199254740992).1 (Cm.numS (Cm.numS s 20).2 9007199254740992).2) := Lib.hid rfl
  generalize tsign s = TS at *
  clear h hr
  go_enter Tryz.func16, Tryz.ntmps16
  go_wp2_with fail
  generalize w.alloc (.cells #[.int .i64 0, .int .i64 0] 47) = w1 at *
  have HN1 := Lib.hid (rnum_any w1 _ g s HR0.out.rd 20)
  unfold RNumed at HN1
  generalize Cm.numS s 20 = n1 at *
  obtain ⟨k1, s1⟩ := n1
  simp only at hm1 hm2 HN1 HT
  have hw1 := nat_i64 k1 (by omega)
  refine HN1.out.mono ?_
  rintro e w2 ⟨rfl, hg2, hc2⟩
  have HR2 := Lib.hid (HR0.out.next hg2 hc2)
  clear hg2 hc2 HN1
  have HN2 := Lib.hid (rnum_any w2 _ g s1 HR2.out.rd 9007199254740992)
  unfold RNumed at HN2
  generalize Cm.numS s1 9007199254740992 = n2 at *
  obtain ⟨k2, s2⟩ := n2
  simp only at hm2 HN2 HT
  have hw2 := nat_i64 k2 (by omega)
  go_wp2_with fail
  refine HN2.out.mono ?_
  rintro e w3 ⟨rfl, hg3, hc3⟩
  have HR3 := Lib.hid (HR2.out.next hg3 hc3)
  clear hg3 hc3 HN2
  have HR4 := Lib.hid (HR3.out.later (op_below w3 (.cells #[.int .i64 (k1 : Int), .int .i64 (k2 : Int)] 47)))
  have hx4 : Blk (w3.alloc (.cells #[.int .i64 (k1 : Int), .int .i64 (k2 : Int)] 47)) w3.heap.size 47 #[.int .i64 (k1 : Int), .int .i64 (k2 : Int)] := Blk.new w3 _ _
  have hgx : w.heap.size < w3.heap.size := HR3.out.res.lt
  have HGX := Lib.hid hgx
  have n12 : ¬ (w.heap.size = w3.heap.size) := by omega
  have n21 : ¬ (w3.heap.size = w.heap.size) := by omega
  have ho := HR3.out.old
  have hgg : ¬ (g = w3.heap.size) := by omega
  have hE := rr_shape HR4.out.rd
  have hE3 := rr_shape HR3.out.rd
  have HX4 := Lib.hid hx4
  obtain ⟨⟨x0, x1⟩, -⟩ := Blk.cells2 hx4
  obtain ⟨⟨r0, r1⟩, ⟨y0, y1⟩⟩ := Blk.cells2 HR4.out.res
  clear hx4 hgx ho
  by_cases hs : s2.2 = 0
  · by_cases hz : k2 = 0
    · have e0 : ((k2 : Int) == 0) = true := by rw [hz]; rfl
      have HZ : Hid (TS = if (Cm.failS s2 81).2 ≠ 0 then ((0, 0), Cm.failS s2 81) else (((k1 : Int), (k2 : Int)), Cm.failS s2 81)) := Lib.hid (by rw [HT.out, tsign_tail, if_pos hz])
      rw [hs] at hE hE3
      clear hz HT hs
      generalize (k2 : Int) = z2 at *
      go_wp2_with fail
      generalize w3.alloc (.cells #[.int .i64 (k1 : Int), .int .i64 z2] 47) = w4 at *
      generalize w3.heap.size = gx at *
      have HF := Lib.hid (rfail_any w4 _ g s2 HR4.out.rd 81)
      generalize Cm.failS s2 81 = s3 at *
      refine HF.out.mono ?_
      rintro e w5 ⟨rfl, hg5, hc5⟩
      have HX5 := Lib.hid (HX4.out.grown hg5 (by have := HR4.out.old; have := HGX.out; simp; omega))
      have HR5 := Lib.hid (HR4.out.next hg5 hc5)
      clear hg5 hc5 HF x0 x1 r0 r1 y0 y1 hE hE3
      obtain ⟨⟨x0, x1⟩, -⟩ := Blk.cells2 HX5.out
      obtain ⟨⟨r0, r1⟩, ⟨y0, y1⟩⟩ := Blk.cells2 HR5.out.res
      have hE := rr_shape HR5.out.rd
      by_cases hs : s3.2 = 0
      · have HZ2 : Hid (TS = (((k1 : Int), z2), s3)) := Lib.hid (by rw [HZ.out, if_neg (by rw [hs]; simp)])
        rw [hs] at hE
        clear hs HZ
        go_wp2_with fail
        refine bodyPost_ret (results_row1 rfl _ _ w.heap.size 47 #[.int .i64 (k1 : Int), .int .i64 z2] (0, 0) _ rfl (Jb.blk2 HR5.out.res) Tryz.underlying47 rfl size_sign) rfl ?_
        exact rtookr_of HR5.out.grown HR5.out.old HR5.out.rd HZ2.out
      · have e1 : (s3.2 == 0) = false := beq_eq_false_iff_ne.2 hs
        have e2 : (s3.2 != 0) = true := by rw [bne, e1]; rfl
        have HZ2 : Hid (TS = ((0, 0), s3)) := Lib.hid (by rw [HZ.out, if_pos hs])
        clear hs HZ
        go_wp2_with fail
        refine bodyPost_ret (results_row1 rfl _ _ w.heap.size 47 #[.int .i64 0, .int .i64 0] (0, 0) _ rfl (Jb.blk2 HR5.out.res) Tryz.underlying47 rfl size_sign) rfl ?_
        exact rtookr_of HR5.out.grown HR5.out.old HR5.out.rd HZ2.out
    · have e0 : ((k2 : Int) == 0) = false := by rw [beq_eq_false_iff_ne]; omega
      have HZ2 : Hid (TS = (((k1 : Int), (k2 : Int)), s2)) := Lib.hid (by rw [HT.out, tsign_tail, if_neg hz, if_neg (by rw [hs]; simp)])
      rw [hs] at hE hE3
      clear hz HT hs
      generalize (k2 : Int) = z2 at *
      go_wp2_with fail
      refine bodyPost_ret (results_row1 rfl _ _ w.heap.size 47 #[.int .i64 (k1 : Int), .int .i64 z2] (0, 0) _ rfl (Jb.blk2 HR4.out.res) Tryz.underlying47 rfl size_sign) rfl ?_
      exact rtookr_of HR4.out.grown HR4.out.old HR4.out.rd HZ2.out
  · have e1 : (s2.2 == 0) = false := beq_eq_false_iff_ne.2 hs
    have e2 : (s2.2 != 0) = true := by rw [bne, e1]; rfl
    have HZ2 : Hid (TS = ((0, 0), s2)) := Lib.hid (by
      rw [HT.out, tsign_tail, show (if k2 = 0 then Cm.failS s2 81 else s2) = s2 from by
        split
        · exact failS_err hs 81
        · rfl, if_pos hs])
    clear hs HT
    generalize (k2 : Int) = z2 at *
    go_wp2_with fail
    refine bodyPost_ret (results_row1 rfl _ _ w.heap.size 47 #[.int .i64 0, .int .i64 0] (0, 0) _ rfl (Jb.blk2 HR4.out.res) Tryz.underlying47 rfl size_sign) rfl ?_
    exact rtookr_of HR4.out.grown HR4.out.old HR4.out.rd HZ2.out
end Go.Proofs.YtebjjkhiniccgaaGreat.Ka
