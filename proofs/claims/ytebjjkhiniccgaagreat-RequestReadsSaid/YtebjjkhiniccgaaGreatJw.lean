/-
  Layer 8: RequestReads, whatever it is asked of.
-/
import Derived.Test.YtebjjkhiniccgaaGreatKb
import Derived.Test.YtebjjkhiniccgaaGreatJk
import Derived.Test.YtebjjkhiniccgaaGreatJh
import Derived.Deep.RegionHeld3
import Derived.Laws.StructEq
import Derived.Outline
namespace Go.Proofs.YtebjjkhiniccgaaGreat.Jw
set_option linter.unusedSimpArgs false
open Go Go.RowKit Ck Kw Kf Ca Cb Ce Cf Cg Ch Ci Cj Cn Co Ga Pm Pe Pf Pg Ph Ppi Pk Pp Py Qb Qc Qt Qu Lk Ld Jm Ja Jb Jd Je Jf Jh Jk Jp Jr Jz Ka Kb
attribute [local go_sem ↓] Go.wp_at_zero Go.wp_at_succ
set_option linter.unusedVariables false
set_option maxRecDepth 100000

/-- Both readers in one state. -/
structure TW (w0 : World) (B gr gs : Nat) (s : Cm.RS) (W : World) : Prop where
  below : Below w0.heap.size w0 W
  r : CR W (fun k => B ≤ k) gr s
  s : RR W (fun k => w0.heap.size ≤ k) gs s
  hr : w0.heap.size ≤ gr ∧ gr < B
  hs : B ≤ gs
  hB : w0.heap.size ≤ B
theorem TW.later {w0 W W' : World} {B gr gs : Nat} {s : Cm.RS} (h : TW w0 B gr gs s W) (hb : Below W.heap.size W W') : TW w0 B gr gs s W' :=
  ⟨h.below.trans (hb.mono h.below.size), h.r.after hb, h.s.after hb, h.hr, h.hs, h.hB⟩
/-- The first reader went on, and then the second. -/
theorem TW.both {w0 W W1 W2 : World} {B gr gs : Nat} {s s' : Cm.RS} (h : TW w0 B gr gs s W) (hg1 : W.grownBy W1 (some gr)) (hc1 : CR W1 (fun k => B ≤ k) gr s') (hg2 : W1.grownBy W2 (some gs)) (hc2 : RR W2 (fun k => w0.heap.size ≤ k) gs s') : TW w0 B gr gs s' W2 := by
  have h1 := h.hr
  have h2 := h.hs
  have h3 := h.hB
  have b1 : Below w0.heap.size w0 W1 := h.below.grown hg1 h.below.size (fun q hq => by injection hq with hq; omega)
  exact ⟨b1.grown hg2 b1.size (fun q hq => by injection hq with hq; omega), hc1.grown hg2 (by simp; omega) (fun q hq _ => by injection hq with hq; show B ≤ q; omega), hc2, h.hr, h.hs, h.hB⟩
theorem TW.mid {w0 W W1 : World} {B gr gs : Nat} {s : Cm.RS} (h : TW w0 B gr gs s W) (hg1 : W.grownBy W1 (some gr)) : RR W1 (fun k => w0.heap.size ≤ k) gs s := by
  have h1 := h.hr
  have h2 := h.hs
  exact h.s.grown hg1 (by simp; omega) (fun q hq _ => by injection hq with hq; show w0.heap.size ≤ q; omega)


theorem TW.err {w0 W : World} {B gr gs : Nat} {s : Cm.RS} (h : TW w0 B gr gs s W) : W.cell? ⟨gs, 1, none⟩ = some (.int .i64 s.2) := rr_shape h.s
theorem cr_blk {w : World} {X : Nat → Prop} {g : Nat} {s : Cm.RS} (h : CR w X g s) : ∃ v, CB w g v s.2 := by
  obtain ⟨A, n, c, hb, _⟩ := h
  exact ⟨_, hb⟩
theorem tbatch_all (s : Cm.RS) : (∀ x ∈ (tbatch s).1, x.q.o.recs.length ≤ 4) ∧ (tbatch s).1.length ≤ 4 ∧ (tbatch s).2.1.length ≤ s.1.length := by
  have tlr : ∀ (n : Nat) (s : Cm.RS) (acc : List Sd), (∀ x ∈ acc, x.q.o.recs.length ≤ 4) → (∀ x ∈ (tl n s acc).1, x.q.o.recs.length ≤ 4) ∧ (tl n s acc).2.1.length ≤ s.1.length := by
    intro n
    induction n with
    | zero =>
      intro s acc h
      exact ⟨h, Nat.le_refl _⟩
    | succ n ih =>
      intro s acc h
      have h2 := ih (tsd s).2 (acc ++ [(tsd s).1]) (fun x hx => by
        rcases List.mem_append.1 hx with hx | hx
        · exact h x hx
        · rw [List.mem_singleton.1 hx]; exact tsd_recs s)
      exact ⟨h2.1, Nat.le_trans h2.2 (tsd_len s)⟩
  have hf : ∀ (t : Cm.RS) e, (Cm.failS t e).1.length ≤ t.1.length := fun t e => by
    unfold Cm.failS
    split
    · exact Nat.le_refl _
    · split
      · simp
      · exact Nat.le_refl _
  have h := Cm.numS_le s 4
  have h1 := Cm.numS_len s 4
  have h2 := tl_len (Cm.numS s 4).1 (Cm.numS s 4).2 []
  have h3 := tlr (Cm.numS s 4).1 (Cm.numS s 4).2 [] (fun x hx => absurd hx (by simp))
  have h4 := hf (tl (Cm.numS s 4).1 (Cm.numS s 4).2 []).2 (bcheck (tl (Cm.numS s 4).1 (Cm.numS s 4).2 []).1)
  simp only [List.length_nil] at h2
  unfold tbatch tbatchE
  split
  · exact ⟨fun x hx => absurd hx (by simp), by simp, by simp only; omega⟩
  · exact ⟨h3.1, by simp only; omega, by simp only; omega⟩
theorem qparse_few (b : Tx) : (qparse b).1.o.recs.length ≤ 4 := qparse_recs b

theorem two_signs {W : World} {g g' B : Nat} {u v e : Int} (h1 : Blk W g 47 #[.int .i64 u, .int .i64 v]) (h2 : Blk W g' 47 #[.int .i64 u, .int .i64 v]) (h3 : W.cell? ⟨B, 1, none⟩ = some (.int .i64 e)) :
    W.cell? ⟨g, 0, none⟩ = some (.int .i64 u) ∧ W.cell? ⟨g, 1, none⟩ = some (.int .i64 v) ∧ W.cell? ⟨g', 0, none⟩ = some (.int .i64 u) ∧ W.cell? ⟨g', 1, none⟩ = some (.int .i64 v) ∧ W.cell? ⟨B, 1, none⟩ = some (.int .i64 e) := by
  have a := h1.cell 0
  have b := h1.cell 1
  have c := h2.cell 0
  have d := h2.cell 1
  simp only [List.getElem?_toArray, List.getElem?_cons_zero, List.getElem?_cons_succ] at a b c d
  exact ⟨a, b, c, d, h3⟩

set_option maxHeartbeats 16000000 in
theorem reqreads_any (w : World) (A0 : Option Addr) (c0 : Nat) (b : List UInt8) (hb : Sl w (fun k => w.heap.size ≤ k) 1 (.slice A0 b.length c0) b.length (BVs b)) (hbl : b.length ≤ 140737488351232) :
    Calls Tryz.prog 3 #[.slice A0 b.length c0] w fun e w' => e = .returned (.bool true) ∧ Below w.heap.size w w' := by
  have HB := Lib.hid hb
  have HBL := Lib.hid hbl
  have HQL := Lib.hid (qparse_few b)
  have HTA := Lib.hid (tbatch_all (b, 0))
  have HPA := Lib.hid (qparse_any w _ _ _ b hb (by omega))
  have HPR := Lib.hid fun (W : World) (k : Below w.heap.size w W) => rqparse_any W _ _ _ b (hb.after k) (by omega)
  unfold ParsedQ at HPA HPR
  generalize qparse b = qz at *
  obtain ⟨q, z⟩ := qz
  simp only at HPA HPR HQL
  clear hb hbl
  go_enter Tryz.func3, Tryz.ntmps3
  go_wp2_with fail
  refine HPA.out.mono ?_
  rintro e w1 ⟨A1, c1, rfl, hl1, hb1⟩
  unfold QV QC
  have HB2 := Lib.hid (hb1.trans ((op_below w1 (.cells #[.int .i64 q.client, .int .i64 q.time, .int .i64 q.o.kind, .string ⟨q.o.topic.toArray⟩, .string ⟨q.o.group.toArray⟩, .int .i64 q.o.off, .slice A1 q.o.recs.length c1] 27)).mono hb1.size))
  have HL2 := Lib.hid (hl1.after (op_below w1 (.cells #[.int .i64 q.client, .int .i64 q.time, .int .i64 q.o.kind, .string ⟨q.o.topic.toArray⟩, .string ⟨q.o.group.toArray⟩, .int .i64 q.o.off, .slice A1 q.o.recs.length c1] 27)))
  have hx2 : Blk (w1.alloc (.cells #[.int .i64 q.client, .int .i64 q.time, .int .i64 q.o.kind, .string ⟨q.o.topic.toArray⟩, .string ⟨q.o.group.toArray⟩, .int .i64 q.o.off, .slice A1 q.o.recs.length c1] 27)) w1.heap.size 27 #[.int .i64 q.client, .int .i64 q.time, .int .i64 q.o.kind, .string ⟨q.o.topic.toArray⟩, .string ⟨q.o.group.toArray⟩, .int .i64 q.o.off, .slice A1 q.o.recs.length c1] := Blk.new w1 _ _
  have HX2 := Lib.hid hx2
  clear hl1 hb1 hx2 HPA
  go_wp2_with fail
  generalize w1.alloc (.cells #[.int .i64 q.client, .int .i64 q.time, .int .i64 q.o.kind, .string ⟨q.o.topic.toArray⟩, .string ⟨q.o.group.toArray⟩, .int .i64 q.o.off, .slice A1 q.o.recs.length c1] 27) = w2 at *
  generalize w1.heap.size = g1 at *
  refine (HPR.out w2 HB2.out).mono ?_
  rintro e w3 ⟨A3, c3, rfl, hl3, hb3⟩
  unfold QV QC
  have hb4 := hb3.trans ((op_below w3 (.cells #[.int .i64 q.client, .int .i64 q.time, .int .i64 q.o.kind, .string ⟨q.o.topic.toArray⟩, .string ⟨q.o.group.toArray⟩, .int .i64 q.o.off, .slice A3 q.o.recs.length c3] 27)).mono hb3.size)
  have HB4 := Lib.hid (HB2.out.trans (hb4.mono HB2.out.size))
  have HL4 := Lib.hid (hl3.after (op_below w3 (.cells #[.int .i64 q.client, .int .i64 q.time, .int .i64 q.o.kind, .string ⟨q.o.topic.toArray⟩, .string ⟨q.o.group.toArray⟩, .int .i64 q.o.off, .slice A3 q.o.recs.length c3] 27)))
  have HLX4 := Lib.hid (HL2.out.after hb4)
  have HX4 := Lib.hid (HX2.out.below hb4 HX2.out.lt)
  have hy4 : Blk (w3.alloc (.cells #[.int .i64 q.client, .int .i64 q.time, .int .i64 q.o.kind, .string ⟨q.o.topic.toArray⟩, .string ⟨q.o.group.toArray⟩, .int .i64 q.o.off, .slice A3 q.o.recs.length c3] 27)) w3.heap.size 27 #[.int .i64 q.client, .int .i64 q.time, .int .i64 q.o.kind, .string ⟨q.o.topic.toArray⟩, .string ⟨q.o.group.toArray⟩, .int .i64 q.o.off, .slice A3 q.o.recs.length c3] := Blk.new w3 _ _
  have HY4 := Lib.hid hy4
  clear hl3 hb3 hb4 hy4 HPR HL2 HX2
  go_wp2_with fail
  generalize w3.alloc (.cells #[.int .i64 q.client, .int .i64 q.time, .int .i64 q.o.kind, .string ⟨q.o.topic.toArray⟩, .string ⟨q.o.group.toArray⟩, .int .i64 q.o.off, .slice A3 q.o.recs.length c3] 27) = w4 at *
  generalize w3.heap.size = g3 at *
  refine (begun_any w4).mono ?_
  rintro e w5 ⟨rfl, hb5⟩
  have HB5 := Lib.hid (HB4.out.trans (hb5.mono HB4.out.size))
  have HSQ := Lib.hid (sameq_any q q A1 A3 c1 c3 _ _ w5 (HLX4.out.after hb5) (HL4.out.after hb5) (by have := HQL.out; omega))
  rw [decide_eq_true rfl] at HSQ
  unfold QV QC at HSQ
  obtain ⟨⟨x0, x1, x2, x3, x4, x5, x6⟩, -⟩ := Blk.cells7 (HX4.out.below hb5 HX4.out.lt)
  obtain ⟨⟨y0, y1, y2, y3, y4, y5, y6⟩, -⟩ := Blk.cells7 (HY4.out.below hb5 HY4.out.lt)
  have hzz : (z == z) = true := beq_self_eq_true _
  clear hb5
  go_wp2_with fail
  refine HSQ.out.mono ?_
  rintro e w6 ⟨rfl, hb6⟩
  have HB6 := Lib.hid (HB5.out.trans (hb6.mono HB5.out.size))
  clear hb6 HSQ x0 x1 x2 x3 x4 x5 x6 y0 y1 y2 y3 y4 y5 y6 HX4 HY4 HL4 HLX4 HB5 HB4 HB2
  have HRE := Lib.hid (read_any w6 _ _ b.length b (HB.out.after HB6.out) (by have := HBL.out; omega))
  go_wp2_with fail
  refine HRE.out.mono ?_
  rintro e w7 ⟨gr, rfl, hcr7, hg7, hb7⟩
  have HB7 := Lib.hid (HB6.out.trans (hb7.mono HB6.out.size))
  have HRR := Lib.hid (rread_any w7 (fun k => w.heap.size ≤ k) _ b.length b (HB.out.after HB7.out))
  have HCR7 := Lib.hid hcr7
  have HG7 := Lib.hid hg7
  have HB67 := Lib.hid HB6.out.size
  clear hcr7 hg7 hb7 HRE
  go_wp2_with fail
  refine HRR.out.mono ?_
  rintro e w8 ⟨rfl, hrr8, hb8⟩
  have HT8 : Hid (TW w w7.heap.size gr w7.heap.size (b, 0) w8) := Lib.hid ⟨HB7.out.trans (hb8.mono HB7.out.size), ((HCR7.out.old (Nat.le_refl _)).after hb8).weaken (fun k _ h => .inr h), hrr8, ⟨Nat.le_trans HB67.out HG7.out, HCR7.out.lt⟩, Nat.le_refl _, HB7.out.size⟩
  have HGS : Hid (w7.heap.size < w8.heap.size) := Lib.hid hrr8.lt
  clear hrr8 hb8 HRR HCR7 HG7
  have HTB := Lib.hid (tbatch_any w8.drew _ gr (b, 0) (HT8.out.later (below_drewN (Below.refl _ w8) 1)).r (by have := HBL.out; simp only; omega))
  have HRT : Hid (∀ W, w8.grownBy W (some gr) → Calls Tryz.prog 13 #[P_ w7.heap.size] W (RTookB W (fun k => w.heap.size ≤ k) w7.heap.size (tbatch (b, 0)))) := Lib.hid fun W hW => rtbatch_any W _ _ (b, 0) (HT8.out.mid hW) (by have := HBL.out; simp only; omega)
  generalize w7.heap.size = gs at *
  clear HB7
  unfold TookB at HTB
  unfold RTookB at HRT
  generalize tbatch (b, 0) = tb at *
  obtain ⟨m, s1⟩ := tb
  simp only at HTB HRT HTA
  have hdm : decide (m = m) = true := decide_eq_true rfl
  have HSM : Hid (∀ (W : World) (X Y : Nat → Prop) (va vb : Value), BI W X va m → BI W Y vb m → Calls Tryz.prog 11 #[va, vb] W fun e w' => e = .returned (.bool true) ∧ Below W.heap.size W w') := Lib.hid fun W X Y va vb h1 h2 => by
    have h := rsameb_any W X Y va vb m m h1 h2 (fun y hy => by have := HTA.out.1 y hy; omega) (by have := HTA.out.2.1; omega)
    rwa [hdm] at h
  have hz1 : (s1.2 == s1.2) = true := beq_self_eq_true _
  have hz2 : (s1.2 != s1.2) = false := by rw [bne, hz1]; rfl
  go_wp2_with fail
  go_region_law (first
    | (go_simp; go_at_call 12; refine HTB.out.mono ?_; rintro e w9 ⟨v9, rfl, hbi9, hg9, hc9⟩; have HG9 : Hid (w8.grownBy w9 (some gr)) := Lib.hid ⟨hg9.os, hg9.tape, hg9.output, hg9.size, hg9.block⟩; have HC9 := Lib.hid hc9; have HI9 : Hid (BI w9 (fun k => k < w8.heap.size) v9 m) := Lib.hid hbi9; clear hbi9 hg9 hc9)
    | (go_simp; go_at_call 13; refine (HRT.out _ HG9.out).mono ?_; rintro e w10 ⟨v10, rfl, hbi10, hg10, hc10⟩; have HT10 := Lib.hid (HT8.out.both HG9.out HC9.out hg10 hc10); have HI10 := Lib.hid (bi_grown HI9.out hg10 (fun k hk _ => by injection hk with hk; have := HGS.out; omega)); have HJ10 := Lib.hid hbi10; clear hbi10 hg10 hc10)
    | (go_simp; go_at_call 11; refine (HSM.out _ _ _ _ _ HI10.out HJ10.out).mono ?_; rintro e w11 ⟨rfl, hb11⟩; have HT11 := Lib.hid (HT10.out.later hb11); have cell11 := HT11.out.err; clear hb11)
    | (go_simp; go_at_call 14; obtain ⟨vv, hvv⟩ := cr_blk HT11.out.r; refine (err_blk _ gr _ _ hvv).mono ?_; rintro e wx ⟨rfl, rfl⟩; clear hvv))
  all_goals
    clear cell11 HT10 HI10 HJ10 HI9 HC9 HG9 HT8 HTB HRT HGS
    have HTK := Lib.hid (tsign_any w11 _ gr s1 HT11.out.r)
    have HRK : Hid (∀ W, w11.grownBy W (some gr) → Calls Tryz.prog 16 #[P_ gs] W (RTookR W (fun k => w.heap.size ≤ k) gs (tsign s1))) := Lib.hid fun W hW => rtsign_any W _ gs s1 (HT11.out.mid hW)
    unfold TookS at HTK
    unfold RTookR at HRK
    generalize tsign s1 = T at *
    obtain ⟨⟨u, v⟩, sy⟩ := T
    simp only at HTK HRK
    go_wp2_with fail
    refine HTK.out.mono ?_
    rintro e w12 ⟨rfl, hg12, hc12⟩
    have HG12 := Lib.hid hg12
    have HC12 := Lib.hid hc12
    clear hg12 hc12
    go_wp2_with fail
    refine (HRK.out _ HG12.out).mono ?_
    rintro e w13 ⟨rfl, hg13, hc13⟩
    have HT13 := Lib.hid (HT11.out.both HG12.out HC12.out hg13 hc13)
    clear hg13 hc13
    have hbA := op_below w13 (.cells #[.int .i64 u, .int .i64 v] 47)
    have hz13 : (w13.alloc (.cells #[.int .i64 u, .int .i64 v] 47)).heap.size = w13.heap.size + 1 := by simp
    have hk2 : Blk ((w13.alloc (.cells #[.int .i64 u, .int .i64 v] 47)).alloc (.cells #[.int .i64 u, .int .i64 v] 47)) (w13.heap.size + 1) 47 #[.int .i64 u, .int .i64 v] := by
      rw [← hz13]; exact Blk.new _ _ _
    have hk1 : Blk ((w13.alloc (.cells #[.int .i64 u, .int .i64 v] 47)).alloc (.cells #[.int .i64 u, .int .i64 v] 47)) w13.heap.size 47 #[.int .i64 u, .int .i64 v] :=
      Blk.below (Blk.new w13 _ _) (op_below _ _) (by rw [hz13]; omega)
    have HT14 := Lib.hid (((HT13.out.later hbA).later (op_below _ (.cells #[.int .i64 u, .int .i64 v] 47))).later (below_drewN (Below.refl _ _) 1))
    have HK1 := Lib.hid (Blk.below hk1 (below_drewN (Below.refl _ _) 1) (Blk.lt hk1))
    have HK2 := Lib.hid (Blk.below hk2 (below_drewN (Below.refl _ _) 1) (Blk.lt hk2))
    clear hbA hz13 hk1 hk2
    have heq : ∀ W : World, (binOp .eql 47 (.agg #[.int .i64 u, .int .i64 v]) (.agg #[.int .i64 u, .int .i64 v])).run Tryz.prog W = .ok (.bool true) W := fun W => by rw [run_eql_sign, Ld.sgB_yes]
    have hge := guard_sign
    have hz3 : (sy.2 == sy.2) = true := beq_self_eq_true _
    go_wp2_with fail
    have hks := two_signs HK1.out HK2.out HT14.out.err
    obtain ⟨vv, hvv⟩ := cr_blk HT14.out.r
    go_region_held3 (fun w' => w'.cell? ⟨w13.heap.size, 0, none⟩ = some (.int .i64 u) ∧ w'.cell? ⟨w13.heap.size, 1, none⟩ = some (.int .i64 v) ∧ w'.cell? ⟨w13.heap.size + 1, 0, none⟩ = some (.int .i64 u) ∧ w'.cell? ⟨w13.heap.size + 1, 1, none⟩ = some (.int .i64 v) ∧ w'.cell? ⟨gs, 1, none⟩ = some (.int .i64 sy.2))
      (exact hks)
      (first | (go_at_call 14; refine (err_blk _ gr _ _ hvv).mono ?_; rintro e wx ⟨rfl, rfl⟩))
    all_goals
      go_wp2_with fail
      go_ret
      exact ⟨rfl, HT14.out.below⟩
end Go.Proofs.YtebjjkhiniccgaaGreat.Jw
