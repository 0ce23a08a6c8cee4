/-
  Layer 9 (block): the document's Parse of a header.
-/
import Derived.Test.YtobphijbhghgmaaGreatU16
import Derived.Test.YtobphijbhghgmaaGreatU09
import Derived.Test.YtobphijbhghgmaaGreatU18
namespace Go.Proofs.YtobphijbhghgmaaGreat.Zf
set_option linter.unusedSimpArgs false
open Go Go.RowKit Ck Kw Ca Cb Ce Cf Cg Ch Ci Cj Cn Co Ga Kf Pm Pe Pk Qb Qt Ja Jd Jp Za Zb Ze
attribute [local go_sem ↓] Go.wp_at_zero Go.wp_at_succ
set_option linter.unusedVariables false
set_option maxRecDepth 100000

theorem first_one {b : Tx} (h : Cm.doneS (hs6 b).2 = 0) : ∃ x, (hs1 b).1 = [x] := by
  have d6 := Jm.done_zero h
  have z6 : (hs6 b).2.2 = 0 := by rw [d6]
  have z5 : (hs5 b).2.2 = 0 := Jm.numS_zero z6
  have z4 : (hs4 b).2.2 = 0 := Jm.numS_zero z5
  have z3 : (hs3 b).2.2 = 0 := Jm.numS_zero z4
  have z2 : (hs2 b).2.2 = 0 := Jm.numS_zero z3
  have z1 : (hs1 b).2.2 = 0 := Jm.numS_zero z2
  obtain ⟨_, _, l1, e1⟩ := Cm.takeS_ok z1
  have e2 : (hs1 b).1 = b.take 1 := congrArg (fun r => r.1) e1
  rw [e2]
  simp only at l1
  match b, l1 with
  | [], h => simp at h
  | x :: r, _ => exact ⟨x, rfl⟩
/-- Within Parse: the result's block, the first byte, the reader, the header. -/
structure RPH (w0 : World) (X : Nat → Prop) (M g gx : Nat) (cs : Array Value) (v1 : Value) (t : Tx) (s : Cm.RS) (W : World) : Prop where
  below : Below w0.heap.size w0 W
  res : Blk W w0.heap.size 24 ZH
  op : Blk W gx 24 cs
  rd : RR W (fun k => X k ∨ M ≤ k) g s
  fst : Sl W (fun k => k < M ∨ gx ≤ k) 1 v1 t.length (BVs t)
  lo : w0.heap.size + 1 ≤ g
  hi : g < M
  gx : M ≤ gx
section
variable {w0 W W' : World} {X : Nat → Prop} {M g gx : Nat} {cs cs' : Array Value} {v1 : Value} {t : Tx} {s s' : Cm.RS}
theorem RPH.next (h : RPH w0 X M g gx cs v1 t s W) (hg : W.grownBy W' (some g)) (hc : RR W' (fun k => X k ∨ M ≤ k) g s') : RPH w0 X M g gx cs v1 t s' W' := by
  have l := h.lo; have u := h.hi; have x := h.gx
  exact ⟨h.below.grown hg h.below.size (fun q hq => by injection hq with hq; omega), h.res.grown hg (by simp; omega), h.op.grown hg (by simp; omega), hc, h.fst.grown hg (fun q hq _ => by injection hq with hq; exact .inl (by omega)), l, u, x⟩
theorem RPH.put (h : RPH w0 X M g gx cs v1 t s W) (i : Nat) (u : Value) (hcs : cs.setIfInBounds i u = cs') : RPH w0 X M g gx cs' v1 t s (W.setCell ⟨gx, i, none⟩ u) := by
  subst hcs
  have l := h.lo; have o := h.hi; have x := h.gx
  have b := h.below.size
  have gg : W.grownBy (W.setCell ⟨gx, i, none⟩ u) (some gx) := grown_setCell (World.grownBy.refl W (some gx)) (.inl rfl) u
  exact ⟨h.below.setCell (by show w0.heap.size ≤ gx; omega) u, h.res.far (by show w0.heap.size ≠ gx; omega) u, h.op.set_ i u, h.rd.grown (row := some gx) gg (by simp; omega) (fun q hq _ => by injection hq with hq; exact .inr (by omega)), h.fst.grown gg (fun q hq _ => by injection hq with hq; exact .inr (by omega)), l, o, x⟩
end
theorem rph_first {w w1 w2 w3 : World} {X : Nat → Prop} {s s1 : Cm.RS} {v1 : Value} {t : Tx} {k : Int} (hc1 : RR w2 (fun k => X k ∨ w1.heap.size ≤ k) (w.heap.size + 1) s) (hlt : w.heap.size + 1 < w1.heap.size) (hb : Below (w.heap.size + 1) (w.alloc (.cells ZH 24)) w1) (hg2 : w1.grownBy w2 (some (w.heap.size + 1)))
    (hown : w2.ownsRow w1.heap.size 5 1 v1 t.length (BVs t)) (hg3 : w2.grownBy w3 (some (w.heap.size + 1))) (hc3 : RR w3 (fun k => X k ∨ w1.heap.size ≤ k) (w.heap.size + 1) s1) :
    RPH w X w1.heap.size (w.heap.size + 1) w3.heap.size #[.int .i64 k, .int .i64 0, .int .i64 0, .int .i64 0, .int .i64 0] v1 t s1 (w3.alloc (.cells #[.int .i64 k, .int .i64 0, .int .i64 0, .int .i64 0, .int .i64 0] 24)) := by
  have b0 := op_below w (.cells ZH 24)
  have r0 : Blk (w.alloc (.cells ZH 24)) w.heap.size 24 ZH := Blk.new _ _ _
  have b2 := op_below w3 (.cells #[.int .i64 k, .int .i64 0, .int .i64 0, .int .i64 0, .int .i64 0] 24)
  have hs2 := hg2.size
  have hs3 := hg3.size
  have hs1 := hb.size
  have bb : Below w.heap.size w w1 := b0.trans (hb.mono (by omega))
  have b3 : Below w.heap.size w w2 := bb.grown hg2 bb.size (fun q hq => by injection hq with hq; omega)
  have b4 : Below w.heap.size w w3 := b3.grown hg3 b3.size (fun q hq => by injection hq with hq; omega)
  exact ⟨b4.trans (b2.mono b4.size), (((r0.below hb (by omega)).grown hg2 (by simp)).grown hg3 (by simp)).alloc _, Blk.new _ _ _, hc3.after b2, ((Sl.of_own (X := fun k => k < w1.heap.size ∨ w3.heap.size ≤ k) hown (fun k h1 h2 h3 => by omega)).grown hg3 (fun q hq _ => by injection hq with hq; exact .inl (by omega))).after b2, Nat.le_refl _, hlt, by omega⟩
theorem rparsedh_of {w W W' : World} {X : Nat → Prop} {h : H} {z : Int} {r : H × Int} {cs : Array Value} {M g gx : Nat} {v1 : Value} {t : Tx} {s : Cm.RS} (k : RPH w X M g gx cs v1 t s W) (hr : r = (h, z)) (hc : Ch (fun k => w.heap.size ≤ k) W W') : ParsedH w r (.returned (.tuple #[HV h, .int .i64 z])) W' := by
  subst hr
  exact ⟨rfl, k.below.trans (hc.below (fun k hk h => by omega) k.below.size)⟩

set_option maxHeartbeats 8000000 in
theorem rhparse_any (w : World) (X : Nat → Prop) (v : Value) (n : Nat) (b : List UInt8) (hv : Sl w X 1 v n (BVs b)) (hn : n ≤ 140737488355328) :
    Calls Tryz.prog 11 #[v] w (ParsedH w (hparse b)) := by
  have hnb := sl_len hv
  subst hnb
  have HRD := Lib.hid (rread_any (w.alloc (.cells ZH 24)) X v b.length b (hv.after (op_below w _)))
  have HTK := Lib.hid fun (W : World) (X : Nat → Prop) (g : Nat) (k : RR W X g (b, 0)) => rtake_any W X g (b, 0) k 1 hn
  have HP : Hid (hparse b = if Cm.doneS (Cm.numS (Cm.numS (Cm.numS (Cm.numS (Cm.numS (Cm.takeS (b, 0) 1).2 9007199254740992).2 9007199254740992).2 9007199254740992).2 9007199254740992).2 9007199254740992).2 ≠ 0 ∨ (Cm.takeS (b, 0) 1).1 ≠ [3] then (H.zero, 90) else (⟨((Cm.numS (Cm.takeS (b, 0) 1).2 9007199254740992).1 : Int), ((Cm.numS (Cm.numS (Cm.takeS (b, 0) 1).2 9007199254740992).2 9007199254740992).1 : Int), ((Cm.numS (Cm.numS (Cm.numS (Cm.takeS (b, 0) 1).2 9007199254740992).2 9007199254740992).2 9007199254740992).1 : Int), ((Cm.numS (Cm.numS (Cm.numS (Cm.numS (Cm.takeS (b, 0) 1).2 9007199254740992).2 9007199254740992).2 9007199254740992).2 9007199254740992).1 : Int), ((Cm.numS (Cm.numS (Cm.numS (Cm.numS (Cm.numS (Cm.takeS (b, 0) 1).2 9007199254740992).2 9007199254740992).2 9007199254740992).2 9007199254740992).2 9007199254740992).1 : Int)⟩, 0)) := Lib.hid rfl
  have HF1 : Hid (Cm.doneS (Cm.numS (Cm.numS (Cm.numS (Cm.numS (Cm.numS (Cm.takeS (b, 0) 1).2 9007199254740992).2 9007199254740992).2 9007199254740992).2 9007199254740992).2 9007199254740992).2 = 0 → ∃ x, (Cm.takeS (b, 0) 1).1 = [x]) := Lib.hid (first_one (b := b))
  have hm1 := Cm.numS_le (Cm.takeS (b, 0) 1).2 9007199254740992
  have hm2 := Cm.numS_le (Cm.numS (Cm.takeS (b, 0) 1).2 9007199254740992).2 9007199254740992
  have hm3 := Cm.numS_le (Cm.numS (Cm.numS (Cm.takeS (b, 0) 1).2 9007199254740992).2 9007199254740992).2 9007199254740992
  have hm4 := Cm.numS_le (Cm.numS (Cm.numS (Cm.numS (Cm.takeS (b, 0) 1).2 9007199254740992).2 9007199254740992).2 9007199254740992).2 9007199254740992
  have hm5 := Cm.numS_le (Cm.numS (Cm.numS (Cm.numS (Cm.numS (Cm.takeS (b, 0) 1).2 9007199254740992).2 9007199254740992).2 9007199254740992).2 9007199254740992).2 9007199254740992
  obtain ⟨A, c, rfl, -⟩ := hv
  generalize hparse b = P at *
  unfold RTaken at HTK
  generalize Cm.takeS (b, 0) 1 = t0 at *
  obtain ⟨t, s0⟩ := t0
  simp only at HTK HP HF1 hm1 hm2 hm3 hm4 hm5
  have s0' : (w.alloc (.cells ZH 24)).heap.size = w.heap.size + 1 := by simp
  rw [s0'] at HRD
  have HZ : Hid ((w.alloc (.cells ZH 24)).heap.size = w.heap.size + 1) := Lib.hid s0'
  clear s0'
  unfold ZH at HRD
  go_enter Tryz.func11, Tryz.ntmps11
  go_wp2_with fail
  refine HRD.out.mono ?_
  rintro e w1 ⟨rfl, hc1, hb1⟩
  have HB1 : Hid (Below (w.heap.size + 1) (w.alloc (.cells ZH 24)) w1) := Lib.hid hb1
  have HC1 := Lib.hid hc1
  have HTK1 := Lib.hid (HTK.out w1 _ _ (hc1.old (Nat.le_refl _)))
  clear hc1 hb1 HRD
  go_wp2_with fail
  refine HTK1.out.mono ?_
  rintro e w2 ⟨v2, rfl, ho2, hg2, hc2⟩
  have HO2 := Lib.hid ho2
  have HG2 := Lib.hid hg2
  have HC2 := Lib.hid hc2
  clear ho2 hg2 hc2 HTK HTK1
  have HN1 := Lib.hid (rnum_any w2 _ _ s0 HC2.out 9007199254740992)
  unfold RNumed at HN1
  generalize Cm.numS s0 9007199254740992 = n1 at *
  obtain ⟨k1, s1⟩ := n1
  simp only at HN1 HP HF1 hm1 hm2 hm3 hm4 hm5
  have hw1 := nat_i64 k1 (by omega)
  go_wp2_with fail
  refine HN1.out.mono ?_
  rintro e u1 ⟨rfl, hg, hc⟩
  have HS1 := Lib.hid (rph_first (k := (k1 : Int)) HC2.out HC1.out.lt HB1.out HG2.out HO2.out hg hc)
  clear hg hc HN1 HC2 HG2 HO2
  go_wp2_with fail
  generalize hW : u1.alloc (.cells #[.int .i64 (k1 : Int), .int .i64 0, .int .i64 0, .int .i64 0, .int .i64 0] 24) = y1 at *
  generalize u1.heap.size = gx at *
  generalize w1.heap.size = M at *
  generalize hg0 : w.heap.size + 1 = g at *
  clear hW HC1 HB1
  have HN2 := Lib.hid (rnum_any y1 _ _ s1 HS1.out.rd 9007199254740992)
  unfold RNumed at HN2
  generalize Cm.numS s1 9007199254740992 = n2 at *
  obtain ⟨k2, s2⟩ := n2
  simp only at HN2 HP HF1 hm2 hm3 hm4 hm5
  have hw2 := nat_i64 k2 (by omega)
  go_wp2_with fail
  refine HN2.out.mono ?_
  rintro e u2 ⟨rfl, hg, hc⟩
  have HT2 := Lib.hid (HS1.out.next hg hc)
  clear hg hc HN2
  obtain ⟨⟨x0, x1, x2, x3, x4⟩, ⟨f0, f1, f2, f3, f4⟩⟩ := Blk.cells5 HT2.out.op
  go_wp2_with fail
  have HS2 : Hid (RPH w X M g gx #[.int .i64 (k1 : Int), .int .i64 (k2 : Int), .int .i64 0, .int .i64 0, .int .i64 0] v2 t s2 (u2.setCell ⟨gx, 1, none⟩ (.int .i64 (k2 : Int)))) := Lib.hid (HT2.out.put 1 _ rfl)
  generalize (u2.setCell ⟨gx, 1, none⟩ (.int .i64 (k2 : Int))) = y2 at *
  clear x0 x1 x2 x3 x4 f0 f1 f2 f3 f4 HT2 HS1
  have HN3 := Lib.hid (rnum_any y2 _ _ s2 HS2.out.rd 9007199254740992)
  unfold RNumed at HN3
  generalize Cm.numS s2 9007199254740992 = n3 at *
  obtain ⟨k3, s3⟩ := n3
  simp only at HN3 HP HF1 hm3 hm4 hm5
  have hw3 := nat_i64 k3 (by omega)
  go_wp2_with fail
  refine HN3.out.mono ?_
  rintro e u3 ⟨rfl, hg, hc⟩
  have HT3 := Lib.hid (HS2.out.next hg hc)
  clear hg hc HN3
  obtain ⟨⟨x0, x1, x2, x3, x4⟩, ⟨f0, f1, f2, f3, f4⟩⟩ := Blk.cells5 HT3.out.op
  go_wp2_with fail
  have HS3 : Hid (RPH w X M g gx #[.int .i64 (k1 : Int), .int .i64 (k2 : Int), .int .i64 (k3 : Int), .int .i64 0, .int .i64 0] v2 t s3 (u3.setCell ⟨gx, 2, none⟩ (.int .i64 (k3 : Int)))) := Lib.hid (HT3.out.put 2 _ rfl)
  generalize (u3.setCell ⟨gx, 2, none⟩ (.int .i64 (k3 : Int))) = y3 at *
  clear x0 x1 x2 x3 x4 f0 f1 f2 f3 f4 HT3 HS2
  have HN4 := Lib.hid (rnum_any y3 _ _ s3 HS3.out.rd 9007199254740992)
  unfold RNumed at HN4
  generalize Cm.numS s3 9007199254740992 = n4 at *
  obtain ⟨k4, s4⟩ := n4
  simp only at HN4 HP HF1 hm4 hm5
  have hw4 := nat_i64 k4 (by omega)
  go_wp2_with fail
  refine HN4.out.mono ?_
  rintro e u4 ⟨rfl, hg, hc⟩
  have HT4 := Lib.hid (HS3.out.next hg hc)
  clear hg hc HN4
  obtain ⟨⟨x0, x1, x2, x3, x4⟩, ⟨f0, f1, f2, f3, f4⟩⟩ := Blk.cells5 HT4.out.op
  go_wp2_with fail
  have HS4 : Hid (RPH w X M g gx #[.int .i64 (k1 : Int), .int .i64 (k2 : Int), .int .i64 (k3 : Int), .int .i64 (k4 : Int), .int .i64 0] v2 t s4 (u4.setCell ⟨gx, 3, none⟩ (.int .i64 (k4 : Int)))) := Lib.hid (HT4.out.put 3 _ rfl)
  generalize (u4.setCell ⟨gx, 3, none⟩ (.int .i64 (k4 : Int))) = y4 at *
  clear x0 x1 x2 x3 x4 f0 f1 f2 f3 f4 HT4 HS3
  have HN5 := Lib.hid (rnum_any y4 _ _ s4 HS4.out.rd 9007199254740992)
  unfold RNumed at HN5
  generalize Cm.numS s4 9007199254740992 = n5 at *
  obtain ⟨k5, s5⟩ := n5
  simp only at HN5 HP HF1 hm5
  have hw5 := nat_i64 k5 (by omega)
  go_wp2_with fail
  refine HN5.out.mono ?_
  rintro e u5 ⟨rfl, hg, hc⟩
  have HT5 := Lib.hid (HS4.out.next hg hc)
  clear hg hc HN5
  obtain ⟨⟨x0, x1, x2, x3, x4⟩, ⟨f0, f1, f2, f3, f4⟩⟩ := Blk.cells5 HT5.out.op
  go_wp2_with fail
  have HS5 : Hid (RPH w X M g gx #[.int .i64 (k1 : Int), .int .i64 (k2 : Int), .int .i64 (k3 : Int), .int .i64 (k4 : Int), .int .i64 (k5 : Int)] v2 t s5 (u5.setCell ⟨gx, 4, none⟩ (.int .i64 (k5 : Int)))) := Lib.hid (HT5.out.put 4 _ rfl)
  generalize (u5.setCell ⟨gx, 4, none⟩ (.int .i64 (k5 : Int))) = y5 at *
  clear x0 x1 x2 x3 x4 f0 f1 f2 f3 f4 HT5 HS4
  have HDN := Lib.hid (rdone_any y5 _ g s5 HS5.out.rd)
  generalize Cm.doneS s5 = dz at *
  go_wp2_with fail
  refine HDN.out.mono ?_
  rintro e w9 ⟨rfl, rfl⟩
  have hres : Blk y5 w.heap.size 24 #[.int .i64 0, .int .i64 0, .int .i64 0, .int .i64 0, .int .i64 0] := HS5.out.res
  have HRS := Lib.hid hres
  obtain ⟨⟨r0, r1, r2, r3, r4⟩, ⟨z0, z1, z2, z3, z4⟩⟩ := Blk.cells5 HRS.out
  obtain ⟨⟨x0, x1, x2, x3, x4⟩, -⟩ := Blk.cells5 HS5.out.op
  have hws : w.heap.size ≤ y5.heap.size := HS5.out.below.size
  clear hres HDN hg0 HZ
  by_cases hd : dz = 0
  · subst hd
    obtain ⟨x, rfl⟩ := HF1.out rfl
    have hl := HS5.out.fst
    obtain ⟨Av, cv, rfl, -, -, -, hx⟩ := id hl
    obtain ⟨ad, rfl, -, -, hcell⟩ := hx (by simp)
    have hc0 : y5.cell? (ad.add 0) = some (.int .u8 (x.toNat : Int)) := hcell 0 _ rfl
    have hc1 : y5.cell? ad = some (.int .u8 (x.toNat : Int)) := by
      have e : ad.add 0 = ad := by unfold Addr.add; simp
      rwa [e] at hc0
    clear hl hx hcell
    by_cases ht : x = 3
    · have hn3 : ((x.toNat : Int) != 3) = false := by rw [ht]; rfl
      have hn4 : ((x.toNat : Int) == 3) = true := by rw [ht]; rfl
      have HR : Hid (P = (⟨(k1 : Int), (k2 : Int), (k3 : Int), (k4 : Int), (k5 : Int)⟩, 0)) := Lib.hid (by rw [HP.out, if_neg (by rw [ht]; simp)])
      clear ht HP HF1
      generalize (x.toNat : Int) = xn at *
      go_wp2_with fail
      refine bodyPost_ret (results_row_tmp rfl _ _ w.heap.size 24 #[.int .i64 (k1 : Int), .int .i64 (k2 : Int), .int .i64 (k3 : Int), .int .i64 (k4 : Int), .int .i64 (k5 : Int)] (0, 0) _ rfl (blk5 HRS.out) Tryz.underlying24 rfl size_hdr) rfl ?_
      exact rparsedh_of (h := ⟨(k1 : Int), (k2 : Int), (k3 : Int), (k4 : Int), (k5 : Int)⟩) HS5.out HR.out (ch5h (Ch.refl _ _) (Nat.le_refl _))
    · have hne : (x.toNat : Int) ≠ 3 := fun h => ht (by apply UInt8.toNat_inj.1; show x.toNat = 3; omega)
      have hn4 : ((x.toNat : Int) == 3) = false := beq_eq_false_iff_ne.2 hne
      have hn3 : ((x.toNat : Int) != 3) = true := by rw [bne, hn4]; rfl
      have HR : Hid (P = (H.zero, 90)) := Lib.hid (by rw [HP.out, if_pos (.inr (fun h => ht (List.head_eq_of_cons_eq h)))])
      clear ht HP HF1 hne
      generalize (x.toNat : Int) = xn at *
      go_wp2_with fail
      refine bodyPost_ret (results_row_tmp rfl _ _ w.heap.size 24 #[.int .i64 0, .int .i64 0, .int .i64 0, .int .i64 0, .int .i64 0] (0, 0) _ rfl (blk5 HRS.out) Tryz.underlying24 rfl size_hdr) rfl ?_
      exact rparsedh_of (h := H.zero) HS5.out HR.out (ch5h (Ch.refl _ _) (Nat.le_refl _))
  · have e1 : (dz == 0) = false := beq_eq_false_iff_ne.2 hd
    have e2 : (dz != 0) = true := by rw [bne, e1]; rfl
    have HR : Hid (P = (H.zero, 90)) := Lib.hid (by rw [HP.out, if_pos (.inl hd)])
    clear hd HP HF1
    go_wp2_with fail
    refine bodyPost_ret (results_row_tmp rfl _ _ w.heap.size 24 #[.int .i64 0, .int .i64 0, .int .i64 0, .int .i64 0, .int .i64 0] (0, 0) _ rfl (blk5 HRS.out) Tryz.underlying24 rfl size_hdr) rfl ?_
    exact rparsedh_of (h := H.zero) HS5.out HR.out (ch5h (Ch.refl _ _) (Nat.le_refl _))
end Go.Proofs.YtobphijbhghgmaaGreat.Zf

/-
  Layer 9 (block): the walk of the statement BlockHeaders.
-/
namespace Go.Proofs.YtobphijbhghgmaaGreat.Zr
set_option linter.unusedSimpArgs false
open Go Go.RowKit Ck Kw Ga Kf Pm Pe Qb Tm Tn Tq Ik Aa Ja Jd Jm Jb Jn Ma Za Zb Ze Zt Zc Zd Zf Zg Zh Zi Zj Zk Zl Zm Zn Zo Zp
open Im (num isIn add sum)
attribute [local go_sem ↓] Go.wp_at_zero Go.wp_at_succ
set_option linter.unusedVariables false
set_option maxRecDepth 100000

theorem rf_new (w : World) : Rf (w.alloc (.cells #[.slice none 0 0] 40)) (fun k => w.heap.size ≤ k) w.heap.size [] :=
  ⟨_, Blk.new _ _ _, Nat.le_refl _, ⟨[], Sl.nil _ _ _, fun i hi => absurd hi (by simp)⟩, by simp, by simp⟩
/-- Two headers' blocks that are to stay. -/
structure K3 (w0 : World) (h y : H) (x1 x2 : Nat) (W : World) : Prop where
  kh : KH w0 h W
  one : Blk W x1 24 (HC y)
  two : Blk W x2 24 (HC y)
theorem K3.later {w0 W W' : World} {h y : H} {x1 x2 : Nat} (k : K3 w0 h y x1 x2 W) (b : Below W.heap.size W W') : K3 w0 h y x1 x2 W' := ⟨k.kh.later b, k.one.below b k.one.lt, k.two.below b k.two.lt⟩
set_option maxHeartbeats 16000000 in
theorem blockheaders_any (w : World) (h : H) (A0 : Option Addr) (c0 : Nat) (b : Tx) (hb : Sl w (fun k => w.heap.size ≤ k) 1 (.slice A0 b.length c0) b.length (BVs b)) (hbl : b.length ≤ 140737488351232) :
    Calls Tryz.prog 3 #[HV h, .slice A0 b.length c0] w fun e w' => e = .returned (.bool true) ∧ Below w.heap.size w w' := by
  have HK0 := Lib.hid (kh_new w h)
  have HBY := Lib.hid hbytes_any
  have HRY := Lib.hid rhbytes_any
  have HPB := Lib.hid fun (W : World) (k : Below w.heap.size w W) => hparse_any W _ _ b.length b (hb.after k) (by omega)
  have HRB := Lib.hid fun (W : World) (k : Below w.heap.size w W) => rhparse_any W _ _ b.length b (hb.after k) (by omega)
  have HDG := Lib.hid fun (W : World) (S : Nat → Prop) (p : Nat) (k : Tb W S p []) => hdigest_any W S p [] h k
  have HRD := Lib.hid fun (W : World) (S : Nat → Prop) (p : Nat) (k : Rf W S p []) => rhdigest_any W S p [] h k
  have HCK := Lib.hid fun (W : World) => hcheck_any W h
  have HRC := Lib.hid fun (W : World) => rhcheck_any W h
  unfold HByt at HBY HRY
  unfold ParsedH at HPB HRB
  generalize hparse b = P at *
  obtain ⟨y, z⟩ := P
  simp only at HPB HRB
  have hqq := fun (W : World) => run_eql_hdr W y y
  have hgh := guard_hdr
  clear hb hbl
  simp only [decide_true] at hqq
  have HRR : Hid (True) := Lib.hid trivial
  generalize hdigR [] h = dr at *
  obtain ⟨d1, d2⟩ := dr
  generalize hdigT [] h = dt at *
  simp only at HDG HRD
  unfold HV at *
  unfold HC at *
  go_enter Tryz.func3, Tryz.ntmps3
  go_wp2_with fail
  generalize w.alloc (.cells #[.int .i64 h.seq, .int .i64 h.prev, .int .i64 h.batch, .int .i64 h.root, .int .i64 h.state] 24) = w0 at *
  refine (live_any w0).mono ?_
  rintro e w1 ⟨rfl, hb1⟩
  have HK1 := Lib.hid (HK0.out.later hb1)
  clear hb1 HK0
  obtain ⟨⟨a0, a1, a2, a3, a4⟩, -⟩ := Blk.cells5 HK1.out.one
  go_wp2_with fail
  refine (HBY.out w1 h).mono ?_
  rintro e w2 ⟨v2, rfl, hs2, hb2⟩
  have HK2 := Lib.hid (HK1.out.later hb2)
  have HS2 := Lib.hid hs2
  obtain ⟨A2, c2, rfl, -⟩ := id hs2
  clear hs2 hb2 a0 a1 a2 a3 a4 HK1
  obtain ⟨⟨a0, a1, a2, a3, a4⟩, -⟩ := Blk.cells5 HK2.out.one
  go_wp2_with fail
  refine (HRY.out w2 h).mono ?_
  rintro e w3 ⟨v3, rfl, hs3, hb3⟩
  have HK3 := Lib.hid (HK2.out.later hb3)
  have HS2' := Lib.hid (HS2.out.after hb3)
  have HS3 := Lib.hid hs3
  obtain ⟨A3, c3, rfl, -⟩ := id hs3
  clear hs3 hb3 a0 a1 a2 a3 a4 HK2 HS2
  go_wp2_with fail
  refine (HPB.out w3 HK3.out.below).mono ?_
  rintro e w4 ⟨rfl, hb4⟩
  have b5 := hb4.trans ((op_below w4 (.cells #[.int .i64 y.seq, .int .i64 y.prev, .int .i64 y.batch, .int .i64 y.root, .int .i64 y.state] 24)).mono hb4.size)
  have HK5 := Lib.hid (HK3.out.later b5)
  have HS25 := Lib.hid (HS2'.out.after b5)
  have HS35 := Lib.hid (HS3.out.after b5)
  have HY5 : Hid (Blk (w4.alloc (.cells #[.int .i64 y.seq, .int .i64 y.prev, .int .i64 y.batch, .int .i64 y.root, .int .i64 y.state] 24)) w4.heap.size 24 #[.int .i64 y.seq, .int .i64 y.prev, .int .i64 y.batch, .int .i64 y.root, .int .i64 y.state]) := Lib.hid (Blk.new w4 _ _)
  clear b5 hb4 HPB HS2' HS3 HK3
  go_wp2_with fail
  generalize hw5 : w4.alloc (.cells #[.int .i64 y.seq, .int .i64 y.prev, .int .i64 y.batch, .int .i64 y.root, .int .i64 y.state] 24) = w5 at *
  clear hw5
  generalize w4.heap.size = x1 at *
  refine (HRB.out w5 HK5.out.below).mono ?_
  rintro e w6 ⟨rfl, hb6⟩
  have b7 := hb6.trans ((op_below w6 (.cells #[.int .i64 y.seq, .int .i64 y.prev, .int .i64 y.batch, .int .i64 y.root, .int .i64 y.state] 24)).mono hb6.size)
  have HK7 : Hid (K3 w h y x1 w6.heap.size (w6.alloc (.cells #[.int .i64 y.seq, .int .i64 y.prev, .int .i64 y.batch, .int .i64 y.root, .int .i64 y.state] 24))) := Lib.hid ⟨HK5.out.later b7, HY5.out.below b7 HY5.out.lt, Blk.new w6 _ _⟩
  have HS27 := Lib.hid (HS25.out.after b7)
  have HS37 := Lib.hid (HS35.out.after b7)
  clear b7 hb6 HRB HS25 HS35 HK5 HY5
  obtain ⟨⟨a0, a1, a2, a3, a4⟩, -⟩ := Blk.cells5 HK7.out.kh.one
  go_wp2_with fail
  generalize hw7 : w6.alloc (.cells #[.int .i64 y.seq, .int .i64 y.prev, .int .i64 y.batch, .int .i64 y.root, .int .i64 y.state] 24) = w7 at *
  clear hw7
  generalize w6.heap.size = x2 at *
  go_region_held3 (fun w' => w'.cell? ⟨w.heap.size, 0, none⟩ = some (.int .i64 h.seq) ∧ w'.cell? ⟨w.heap.size, 1, none⟩ = some (.int .i64 h.prev) ∧ w'.cell? ⟨w.heap.size, 2, none⟩ = some (.int .i64 h.batch) ∧ w'.cell? ⟨w.heap.size, 3, none⟩ = some (.int .i64 h.root) ∧ w'.cell? ⟨w.heap.size, 4, none⟩ = some (.int .i64 h.state)) (first | exact ⟨a0, a1, a2, a3, a4⟩ | exact ⟨b0, b1, b2, b3, b4⟩ | exact ⟨g0, g1, g2, g3, g4⟩)
    (first
      | (go_at_call 13; refine (Ib.newtable_any _).mono ?_; rintro e w8 ⟨p, rfl, ht8, hb8⟩; have hb8' := below_of_drew hb8; have hk8 := HK7.out.later hb8'; obtain ⟨⟨b0, b1, b2, b3, b4⟩, -⟩ := Blk.cells5 hk8.kh.one)
      | (go_at_call 12; refine (HDG.out _ _ p ht8).mono ?_; rintro e w9 ⟨rfl, ht9, hc9⟩; have hb9 := hb8'.trans (hc9.below (fun k hk hs => absurd hk (Nat.not_lt.2 hs.1)) hb8'.size); have hk9 := HK7.out.later hb9; obtain ⟨⟨g0, g1, g2, g3, g4⟩, -⟩ := Blk.cells5 hk9.kh.one))
  all_goals
    clear a0 a1 a2 a3 a4 b0 b1 b2 b3 b4 g0 g1 g2 g3 g4
    have HS29 := Lib.hid (HS27.out.after hb9)
    have HS39 := Lib.hid (HS37.out.after hb9)
    have HK9 := Lib.hid hk9
    clear hk8 hk9 hc9 ht9 hb8 hb8' ht8 hb9 HS27 HS37 HK7
    have b10 := op_below w9 (.cells #[.slice none 0 0] 40)
    have hr10 := rf_new w9
    have HK10 := Lib.hid (HK9.out.later b10)
    have HRT := Lib.hid (HRD.out _ _ _ hr10)
    obtain ⟨⟨a0, a1, a2, a3, a4⟩, -⟩ := Blk.cells5 HK10.out.kh.one
    clear hr10
    go_wp2_with fail
    refine HRT.out.mono ?_
    rintro e w11 ⟨rfl, -, hc11⟩
    have hb11 := b10.trans (hc11.below (fun k hk hs => absurd hk (Nat.not_lt.2 hs)) b10.size)
    have HK11 := Lib.hid (HK9.out.later hb11)
    have HS211 := Lib.hid (HS29.out.after hb11)
    have HS311 := Lib.hid (HS39.out.after hb11)
    have HEQ : Hid (∀ W, Sl W (fun k => k < w1.heap.size) 1 (.slice A2 (hform h).length c2) (hform h).length (BVs (hform h)) → Sl W (fun k => k < w2.heap.size) 1 (.slice A3 (hform h).length c3) (hform h).length (BVs (hform h)) → Calls Tryz.prog 15 #[.slice A2 (hform h).length c2, .slice A3 (hform h).length c3] W fun e w' => e = .returned (.bool true) ∧ W = w') := Lib.hid (fun W k2 k3 => by
      have k := Ca.equal_any W _ _ _ _ _ _ (hform h) (hform h) k2 k3
      rw [beq_self_eq_true] at k
      exact k)
    clear hb11 hc11 HRT HK10 HK9 HS29 HS39 b10 a0 a1 a2 a3 a4
    obtain ⟨⟨a0, a1, a2, a3, a4⟩, -⟩ := Blk.cells5 HK11.out.kh.one
    obtain ⟨⟨b0, b1, b2, b3, b4⟩, -⟩ := Blk.cells5 HK11.out.one
    obtain ⟨⟨e0, e1, e2, e3, e4⟩, -⟩ := Blk.cells5 HK11.out.two
    generalize hform h = hf at *
    generalize hcheck h = zh at *
    go_wp2_with fail
    go_region_held3 (fun w' => (w'.cell? ⟨w.heap.size, 0, none⟩ = some (.int .i64 h.seq) ∧ w'.cell? ⟨w.heap.size, 1, none⟩ = some (.int .i64 h.prev) ∧ w'.cell? ⟨w.heap.size, 2, none⟩ = some (.int .i64 h.batch) ∧ w'.cell? ⟨w.heap.size, 3, none⟩ = some (.int .i64 h.root) ∧ w'.cell? ⟨w.heap.size, 4, none⟩ = some (.int .i64 h.state)) ∧ (w'.cell? ⟨x1, 0, none⟩ = some (.int .i64 y.seq) ∧ w'.cell? ⟨x1, 1, none⟩ = some (.int .i64 y.prev) ∧ w'.cell? ⟨x1, 2, none⟩ = some (.int .i64 y.batch) ∧ w'.cell? ⟨x1, 3, none⟩ = some (.int .i64 y.root) ∧ w'.cell? ⟨x1, 4, none⟩ = some (.int .i64 y.state)) ∧ (w'.cell? ⟨x2, 0, none⟩ = some (.int .i64 y.seq) ∧ w'.cell? ⟨x2, 1, none⟩ = some (.int .i64 y.prev) ∧ w'.cell? ⟨x2, 2, none⟩ = some (.int .i64 y.batch) ∧ w'.cell? ⟨x2, 3, none⟩ = some (.int .i64 y.root) ∧ w'.cell? ⟨x2, 4, none⟩ = some (.int .i64 y.state))) (first | exact ⟨⟨a0, a1, a2, a3, a4⟩, ⟨b0, b1, b2, b3, b4⟩, ⟨e0, e1, e2, e3, e4⟩⟩ | exact ⟨m0, m1, m2⟩ | exact ⟨n0, n1, n2⟩)
      (first
        | (go_at_call 15; refine Calls.mono (HEQ.out _ ?_ ?_) ?_; exact HS211.out; exact HS311.out; rintro e w' ⟨rfl, rfl⟩)
        | (go_at_call 16; refine (HCK.out _).mono ?_; rintro e w12 ⟨rfl, hb12⟩; have hb12' : Below w11.heap.size w11 w12 := (by first | exact hb12 | exact below_of_drew hb12); have hk12 := HK11.out.later hb12'; have m0 := (Blk.cells5 hk12.kh.one).1; have m1 := (Blk.cells5 hk12.one).1; have m2 := (Blk.cells5 hk12.two).1)
        | (go_at_call 17; refine (HRC.out _).mono ?_; rintro e w13 ⟨rfl, hb13⟩; have hb13' : Below w12.heap.size w12 w13 := (by first | exact hb13 | exact below_of_drew hb13); have hk13 := hk12.later hb13'; have n0 := (Blk.cells5 hk13.kh.one).1; have n1 := (Blk.cells5 hk13.one).1; have n2 := (Blk.cells5 hk13.two).1))
    all_goals
      go_wp2_with fail
      go_ret
      exact ⟨rfl, hk13.kh.below⟩
end Go.Proofs.YtobphijbhghgmaaGreat.Zr
