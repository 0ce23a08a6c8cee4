/-
  Layer 8: RequestBack, whatever it is asked of.
-/
import Derived.Test.YtjdmadfjfjenjaaJr
import Derived.Test.YtjdmadfjfjenjaaJk
import Derived.Test.YtjdmadfjfjenjaaJh
import Derived.Test.YtjdmadfjfjenjaaJe
namespace Go.Proofs.Ytjdmadfjfjenjaa.Jq
set_option linter.unusedSimpArgs false
open Go Go.RowKit Ck Kw Ca Cb Ce Cf Cg Ch Ci Ga Kf Pm Pe Pk Pp Py Qb Qt Lk Jm Ja Jb Jc Jd Je Jf Jh Jk Jp Jr
attribute [local go_sem ↓] Go.wp_at_zero Go.wp_at_succ
set_option linter.unusedVariables false
set_option maxRecDepth 100000

structure BQ (w0 : World) (x : Q) (A : Option Addr) (c : Nat) (W : World) : Prop where
  below : Below w0.heap.size w0 W
  box : QB W w0.heap.size x A c
theorem BQ.later {w0 W W' : World} {x : Q} {A : Option Addr} {c : Nat} (h : BQ w0 x A c W) (b : Below W.heap.size W W') : BQ w0 x A c W' := ⟨h.below.trans (b.mono h.below.size), Blk.below h.box b (Blk.lt h.box)⟩
theorem BQ.grown {w0 W W' : World} {x : Q} {A : Option Addr} {c g : Nat} (h : BQ w0 x A c W) (b : W.grownBy W' (some g)) (hg : w0.heap.size + 1 ≤ g) : BQ w0 x A c W' := ⟨h.below.grown b h.below.size (fun q hq => by injection hq with hq; omega), Blk.grown h.box b (by simp; omega)⟩
theorem BQ.grownr {w0 W W' : World} {x : Q} {A : Option Addr} {c : Nat} {row : Option Nat} (h : BQ w0 x A c W) (b : W.grownBy W' row) (hg : ∀ q, row = some q → w0.heap.size + 1 ≤ q) : BQ w0 x A c W' := ⟨h.below.grown b h.below.size (fun q hq => by have := hg q hq; omega), Blk.grown h.box b (fun hq => by have := hg _ hq.symm; omega)⟩
theorem cr_shape {w : World} {X : Nat → Prop} {g : Nat} {s : Cm.RS} (h : CR w X g s) : ∃ v, CB w g v s.2 := by
  obtain ⟨A, n, c, hb, _⟩ := h
  exact ⟨_, hb⟩
theorem BQ.size {w0 W : World} {x : Q} {A : Option Addr} {c : Nat} (h : BQ w0 x A c W) : w0.heap.size + 1 ≤ W.heap.size := Blk.lt h.box
theorem done_one {b : List UInt8} (h : Cm.doneS (tbatch (b, 0)).2 = 0) : bcheck (tbatch (b, 0)).1 = 0 ∧ bform (tbatch (b, 0)).1 = b := by
  have d := done_zero h
  have t0 : (tbatch (b, 0)).2.2 = 0 := by rw [d]
  obtain ⟨h1, r, h2, h3⟩ := tbatch_one t0
  rw [h2] at d
  have hr : r = [] := (Prod.mk.inj d).1
  subst hr
  rw [List.append_nil] at h3
  exact ⟨h1, by rw [bform_eq h1]; exact h3.symm⟩
theorem tl_recs : ∀ (n : Nat) (s : Cm.RS) (acc : List Sd), (∀ x ∈ acc, x.q.o.recs.length ≤ 4) → ∀ x ∈ (tl n s acc).1, x.q.o.recs.length ≤ 4
  | 0, s, acc, h => h
  | n + 1, s, acc, h => tl_recs n _ _ (fun x hx => by
    rcases List.mem_append.1 hx with hx | hx
    · exact h x hx
    · rw [List.mem_singleton.1 hx]; exact tsd_recs s)
theorem tbatch_recs (s : Cm.RS) : ∀ x ∈ (tbatch s).1, x.q.o.recs.length ≤ 4 := by
  unfold tbatch tbatchE
  split
  · intro x hx; exact absurd hx (by simp)
  · exact tl_recs _ _ _ (fun x hx => absurd hx (by simp))
theorem tbatch_len (s : Cm.RS) : (tbatch s).1.length ≤ 4 := by
  have h := Cm.numS_le s 4
  have h2 := tl_len (Cm.numS s 4).1 (Cm.numS s 4).2 []
  unfold tbatch tbatchE
  split
  · simp
  · simp only [List.length_nil] at h2; simp only; omega

set_option maxHeartbeats 16000000 in
theorem reqback_any (w : World) (x : Q) (Ax : Option Addr) (cx : Nat) (l : List Sd) (vl : Value) (Ab : Option Addr) (cb : Nat) (b : List UInt8)
    (hx : Ls w (fun k => w.heap.size ≤ k) (.slice Ax x.o.recs.length cx) x.o.recs) (hxf : far x.o 140737488351232) (hl : BI w (fun k => w.heap.size ≤ k) vl l) (hlf : ∀ y ∈ l, far y.q.o 140737488351232) (hll : l.length ≤ 140737488355328) (hb : Sl w (fun k => w.heap.size ≤ k) 1 (.slice Ab b.length cb) b.length (BVs b)) (hbl : b.length ≤ 140737488351232) :
    Calls Try.prog 5 #[QV x Ax cx, vl, .slice Ab b.length cb] w fun e w' => e = .returned (.bool true) ∧ Below w.heap.size w w' := by
  obtain ⟨Al, cl, rfl, -⟩ := hl.shape
  have HX := Lib.hid hx
  have HXL : Hid (x.o.recs.length ≤ 140737488355328) := Lib.hid (by have := hxf.2.2.1; omega)
  have HL := Lib.hid hl
  have HLR : Hid (∀ y ∈ l, y.q.o.recs.length ≤ 140737488355328) := Lib.hid (fun y hy => by have := (hlf y hy).2.2.1; omega)
  have HLL := Lib.hid hll
  have HB := Lib.hid hb
  have HBL := Lib.hid hbl
  have hq0 : BQ w x Ax cx (w.alloc (.cells (QC x Ax cx) 26)) := ⟨op_below w _, Blk.new w _ _⟩
  have HQ0 := Lib.hid hq0
  obtain ⟨i0, hi0, hz0, hz1, hz2⟩ := info_parts Cb.info_u8
  clear hx hxf hl hlf hll hb hbl hq0
  unfold QV
  unfold QC at HQ0 ⊢
  go_enter Try.func5, Try.ntmps5
  go_wp2_with fail
  generalize w.alloc (.cells #[.int .i64 x.client, .int .i64 x.time, .int .i64 x.o.kind, .string ⟨x.o.topic.toArray⟩, .string ⟨x.o.group.toArray⟩, .int .i64 x.o.off, .slice Ax x.o.recs.length cx] 26) = w0 at *
  refine (begun_any w0).mono ?_
  rintro e w1 ⟨rfl, hb1⟩
  have HQ1 := Lib.hid (HQ0.out.later hb1)
  clear hb1
  obtain ⟨a0, a1, a2, a3, a4, a5, a6⟩ := QB.cells HQ1.out.box
  have HBY := Lib.hid (qbytes_any x (QV x Ax cx) _ w1 ⟨Ax, cx, rfl, HX.out.after HQ1.out.below⟩ HXL.out)
  unfold Byt at HBY
  unfold QV QC at HBY
  go_wp2_with fail
  refine HBY.out.mono ?_
  rintro e w2 ⟨v2, rfl, hs2, hb2⟩
  have HQ2 := Lib.hid (HQ1.out.later hb2)
  have HS2 := Lib.hid hs2
  obtain ⟨A2, c2, rfl, -⟩ := id hs2
  clear hb2 hs2 HBY a0 a1 a2 a3 a4 a5 a6
  have HDO : Hid (Cm.doneS (tbatch (b, 0)).2 = 0 → bform (tbatch (b, 0)).1 = b) := Lib.hid (fun h => (done_one h).2)
  have HTL : Hid ((tbatch (b, 0)).1.length ≤ 140737488355328) := Lib.hid (Nat.le_trans (tbatch_len _) (by omega))
  have HTQ : Hid (∀ y ∈ (tbatch (b, 0)).1, y.q.o.recs.length ≤ 140737488355328) := Lib.hid (fun y hy => Nat.le_trans (tbatch_recs _ y hy) (by omega))
  by_cases hqc : qcheck x = 0
  · have HPA := Lib.hid (qparse_any w2 _ _ _ (qform x) HS2.out (by have := qform_len x; omega))
    unfold ParsedQ at HPA
    rw [qform_eq hqc, qparse_raw hqc] at HPA
    rw [← qform_eq hqc] at HPA
    rw [hqc]
    clear hqc
    simp only at HPA
    generalize qform x = f at *
    go_wp2_with fail
    refine HPA.out.mono ?_
    rintro e w3 ⟨A3, c3, rfl, hl3, hb3⟩
    have HQ3 := Lib.hid (HQ2.out.later hb3)
    have HL3 := Lib.hid hl3
    have HQ4 := Lib.hid (HQ3.out.later (op_below w3 (.cells (QC x A3 c3) 26)))
    have HL4 := Lib.hid (HL3.out.after (op_below w3 (.cells (QC x A3 c3) 26)))
    have HX4 := Lib.hid (HX.out.after HQ4.out.below)
    have HSQ := Lib.hid (sameq_any x x Ax A3 cx c3 _ _ _ HX4.out HL4.out HXL.out)
    obtain ⟨a0, a1, a2, a3, a4, a5, a6⟩ := QB.cells HQ4.out.box
    unfold QV at HSQ
    unfold QV
    unfold QC at HQ4 HSQ a0 a1 a2 a3 a4 a5 a6 ⊢
    rw [decide_eq_true rfl] at HSQ
    clear hl3 hb3 HPA HL4 HX4
    go_wp2_with fail
    generalize w3.alloc (.cells #[.int .i64 x.client, .int .i64 x.time, .int .i64 x.o.kind, .string ⟨x.o.topic.toArray⟩, .string ⟨x.o.group.toArray⟩, .int .i64 x.o.off, .slice A3 x.o.recs.length c3] 26) = w4 at *
    clear a0 a1 a2 a3 a4 a5 a6
    refine HSQ.out.mono ?_
    rintro e w5 ⟨rfl, hb5⟩
    have HQ5 := Lib.hid (HQ4.out.later hb5)
    clear hb5 HSQ
    have HQ8 := Lib.hid HQ5.out
    have HCB := Lib.hid (cbatch_any w5 _ _ l (HL.out.after HQ8.out.below) HLR.out HLL.out)
    by_cases hbc : bcheck l = 0
    · rw [hbc] at HCB
      go_wp2_with fail
      refine HCB.out.mono ?_
      rintro e w9 ⟨rfl, hb9⟩
      have HQ9 := Lib.hid (HQ8.out.later hb9)
      clear hb9 HCB
      have HPU := Lib.hid (putbatch_any l _ _ (fun _ => False) (.slice none 0 0) 0 [] w9 (HL.out.after HQ9.out.below) HLR.out HLL.out (Sl.nil _ _ _) (by simp))
      rw [List.nil_append, bform_eq hbc] at HPU
      have HBR : Hid ((braw l).length ≤ 4081) := Lib.hid (braw_len hbc)
      have HTR : Hid (tbatch (braw l ++ b, 0) = (l, (b, 0))) := Lib.hid (tbatch_raw hbc b)
      clear hbc
      generalize braw l = pre at *
      unfold Made at HPU
      go_wp2_with fail
      refine HPU.out.mono ?_
      rintro e w10 ⟨v10, rfl, hown10, hb10⟩
      have HQ10 := Lib.hid (HQ9.out.later hb10)
      clear HPU
      go_wp2_with (at_builtin; refine wpList_append_sl _ rfl (.tmp 40) (.tmp 41) _ rfl w9.heap.size 5 i0 _ 1 1 Try.underlying42 hi0 hz0 hz1 hz2 rfl (by omega) v10 pre.length (BVs pre) rfl hown10 (fun k => w.heap.size ≤ k) _ b.length (BVs b) rfl (HB.out.after HQ10.out.below) (BVs_one _) (by simp only [maxLen]; have := HBL.out; have := HBR.out; omega) (by have := HBL.out; have := HBR.out; omega) hb10.size ?_; intro v11 w11 happ)
      have HQ11 := Lib.hid (HQ10.out.grownr happ.2.1 (fun g hg => Nat.le_trans HQ9.out.size (hown10.lt g hg).1))
      have hown11 : w11.ownsRow w9.heap.size 5 1 v11 (pre ++ b).length (BVs (pre ++ b)) := by rw [List.length_append, BVs_app]; exact happ.1
      have hpb : (pre ++ b).length ≤ 140737488355328 := by rw [List.length_append]; have := HBL.out; have := HBR.out; omega
      generalize pre ++ b = pb at *
      clear happ hown10 hb10
      refine (read_any w11 (fun _ => False) v11 pb.length pb (Sl.of_own hown11 (fun _ _ _ h => h)) hpb).mono ?_
      rintro e w12 ⟨g12, rfl, hcr12, hg12, hb12⟩
      have HQ12 := Lib.hid (HQ11.out.later hb12)
      have HG12 : Hid (w.heap.size + 1 ≤ g12) := Lib.hid (Nat.le_trans HQ11.out.size hg12)
      have HTB := Lib.hid (tbatch_any w12 _ g12 (pb, 0) hcr12 hpb)
      rw [HTR.out] at HTB
      unfold TookB at HTB
      clear hcr12 hg12 hb12 hown11 hpb
      go_wp2_with fail
      refine HTB.out.mono ?_
      rintro e w13 ⟨v13, rfl, hbi13, hgr13, hcr13⟩
      have HQ13 := Lib.hid (HQ12.out.grown hgr13 HG12.out)
      have HCR13 := Lib.hid hcr13
      have HSB := Lib.hid (rsameb_any w13 _ _ v13 _ l l hbi13 (HL.out.after HQ13.out.below) HLR.out HLL.out)
      rw [decide_eq_true rfl] at HSB
      clear hbi13 hgr13 hcr13 HTB
      go_wp2_with fail
      refine HSB.out.mono ?_
      rintro e w14 ⟨rfl, hb14⟩
      have HQ15 := Lib.hid (HQ13.out.later hb14)
      have HCR14 := Lib.hid (HCR13.out.after hb14)
      obtain ⟨v14, hcb14⟩ := cr_shape HCR14.out
      have HER := Lib.hid (err_blk w14 g12 v14 _ hcb14)
      have HLE := Lib.hid (left_any w14 _ g12 _ HCR14.out)
      simp only at HER HLE
      clear hb14 hcb14 HSB HCR13
      go_wp2_with fail
      refine HER.out.mono ?_
      rintro e w15 ⟨rfl, rfl⟩
      go_wp2_with fail
      refine HLE.out.mono ?_
      rintro e w15 ⟨rfl, rfl⟩
      clear HER HLE HCR14 HTR HBR
      have HRE := Lib.hid (read_any w14 _ _ b.length b (HB.out.after HQ15.out.below) (by have := HBL.out; omega))
      go_wp2_with fail
      refine HRE.out.mono ?_
      rintro e w16 ⟨g16, rfl, hcr16, hg16, hb16⟩
      have HQ16 := Lib.hid (HQ15.out.later hb16)
      have HTB2 := Lib.hid (tbatch_any w16 _ g16 (b, 0) hcr16 (by have := HBL.out; simp only; omega))
      have HG16 : Hid (w.heap.size + 1 ≤ g16) := Lib.hid (Nat.le_trans HQ15.out.size hg16)
      unfold TookB at HTB2
      clear hcr16 hg16 hb16 HRE
      generalize tbatch (b, 0) = tb at *
      obtain ⟨m, s2⟩ := tb
      simp only at HTB2 HDO HTL HTQ
      go_wp2_with fail
      refine HTB2.out.mono ?_
      rintro e w17 ⟨v17, rfl, hbi17, hgr17, hcr17⟩
      have HQ17 := Lib.hid (HQ16.out.grown hgr17 HG16.out)
      have HBI := Lib.hid hbi17
      have HDN := Lib.hid (done_any w17 _ g16 s2 hcr17)
      clear hbi17 hgr17 hcr17 HTB2
      generalize Cm.doneS s2 = dz at *
      by_cases hdz : dz = 0
      · subst hdz
        have HPU2 := Lib.hid (putbatch_any m v17 _ (fun _ => False) (.slice none 0 0) 0 [] w17 HBI.out HTQ.out HTL.out (Sl.nil _ _ _) (by simp))
        rw [List.nil_append, HDO.out rfl] at HPU2
        unfold Made at HPU2
        obtain ⟨A17, c17, rfl, -⟩ := HBI.out.shape
        go_wp2_with fail
        refine HDN.out.mono ?_
        rintro e w18 ⟨rfl, rfl⟩
        go_wp2_with fail
        refine HPU2.out.mono ?_
        rintro e w19 ⟨v19, rfl, hown19, hb19⟩
        have HQ19 := Lib.hid (HQ17.out.later hb19)
        have HEQ := Lib.hid (Ca.equal_any w19 (fun _ => False) _ v19 _ b.length b.length b b (Sl.of_own hown19 (fun _ _ _ h => h)) (HB.out.after HQ19.out.below))
        rw [beq_self_eq_true] at HEQ
        clear hown19 hb19 HPU2
        go_wp2_with fail
        refine HEQ.out.mono ?_
        rintro e w20 ⟨rfl, rfl⟩
        go_wp2_with fail
        go_ret
        exact ⟨rfl, HQ19.out.below⟩
      · have hd1 : (dz == 0) = false := by simpa using hdz
        have hd2 : decide (dz = 0) = false := decide_eq_false hdz
        clear hdz
        go_wp2_with fail
        refine HDN.out.mono ?_
        rintro e w18 ⟨rfl, rfl⟩
        go_wp2_with fail
        go_ret
        exact ⟨rfl, HQ17.out.below⟩
    · have hb1 : (bcheck l == 0) = false := by simpa using hbc
      have hb2 : decide (bcheck l = 0) = false := decide_eq_false hbc
      clear hbc
      generalize bcheck l = zb at *
      go_wp2_with fail
      refine HCB.out.mono ?_
      rintro e w9 ⟨rfl, hb9⟩
      have HQ15 := Lib.hid (HQ8.out.later hb9)
      clear hb9 HCB
      have HRE := Lib.hid (read_any w9 _ _ b.length b (HB.out.after HQ15.out.below) (by have := HBL.out; omega))
      go_wp2_with fail
      refine HRE.out.mono ?_
      rintro e w16 ⟨g16, rfl, hcr16, hg16, hb16⟩
      have HQ16 := Lib.hid (HQ15.out.later hb16)
      have HTB2 := Lib.hid (tbatch_any w16 _ g16 (b, 0) hcr16 (by have := HBL.out; simp only; omega))
      have HG16 : Hid (w.heap.size + 1 ≤ g16) := Lib.hid (Nat.le_trans HQ15.out.size hg16)
      unfold TookB at HTB2
      clear hcr16 hg16 hb16 HRE
      generalize tbatch (b, 0) = tb at *
      obtain ⟨m, s2⟩ := tb
      simp only at HTB2 HDO HTL HTQ
      go_wp2_with fail
      refine HTB2.out.mono ?_
      rintro e w17 ⟨v17, rfl, hbi17, hgr17, hcr17⟩
      have HQ17 := Lib.hid (HQ16.out.grown hgr17 HG16.out)
      have HBI := Lib.hid hbi17
      have HDN := Lib.hid (done_any w17 _ g16 s2 hcr17)
      clear hbi17 hgr17 hcr17 HTB2
      generalize Cm.doneS s2 = dz at *
      by_cases hdz : dz = 0
      · subst hdz
        have HPU2 := Lib.hid (putbatch_any m v17 _ (fun _ => False) (.slice none 0 0) 0 [] w17 HBI.out HTQ.out HTL.out (Sl.nil _ _ _) (by simp))
        rw [List.nil_append, HDO.out rfl] at HPU2
        unfold Made at HPU2
        obtain ⟨A17, c17, rfl, -⟩ := HBI.out.shape
        go_wp2_with fail
        refine HDN.out.mono ?_
        rintro e w18 ⟨rfl, rfl⟩
        go_wp2_with fail
        refine HPU2.out.mono ?_
        rintro e w19 ⟨v19, rfl, hown19, hb19⟩
        have HQ19 := Lib.hid (HQ17.out.later hb19)
        have HEQ := Lib.hid (Ca.equal_any w19 (fun _ => False) _ v19 _ b.length b.length b b (Sl.of_own hown19 (fun _ _ _ h => h)) (HB.out.after HQ19.out.below))
        rw [beq_self_eq_true] at HEQ
        clear hown19 hb19 HPU2
        go_wp2_with fail
        refine HEQ.out.mono ?_
        rintro e w20 ⟨rfl, rfl⟩
        go_wp2_with fail
        go_ret
        exact ⟨rfl, HQ19.out.below⟩
      · have hd1 : (dz == 0) = false := by simpa using hdz
        have hd2 : decide (dz = 0) = false := decide_eq_false hdz
        clear hdz
        go_wp2_with fail
        refine HDN.out.mono ?_
        rintro e w18 ⟨rfl, rfl⟩
        go_wp2_with fail
        go_ret
        exact ⟨rfl, HQ17.out.below⟩
  · have hq1 : (qcheck x == 0) = false := by simpa using hqc
    have hq2 : decide (qcheck x = 0) = false := decide_eq_false hqc
    clear hqc
    generalize qcheck x = zq at *
    have HQ8 := Lib.hid HQ2.out
    have HCB := Lib.hid (cbatch_any w2 _ _ l (HL.out.after HQ8.out.below) HLR.out HLL.out)
    by_cases hbc : bcheck l = 0
    · rw [hbc] at HCB
      go_wp2_with fail
      refine HCB.out.mono ?_
      rintro e w9 ⟨rfl, hb9⟩
      have HQ9 := Lib.hid (HQ8.out.later hb9)
      clear hb9 HCB
      have HPU := Lib.hid (putbatch_any l _ _ (fun _ => False) (.slice none 0 0) 0 [] w9 (HL.out.after HQ9.out.below) HLR.out HLL.out (Sl.nil _ _ _) (by simp))
      rw [List.nil_append, bform_eq hbc] at HPU
      have HBR : Hid ((braw l).length ≤ 4081) := Lib.hid (braw_len hbc)
      have HTR : Hid (tbatch (braw l ++ b, 0) = (l, (b, 0))) := Lib.hid (tbatch_raw hbc b)
      clear hbc
      generalize braw l = pre at *
      unfold Made at HPU
      go_wp2_with fail
      refine HPU.out.mono ?_
      rintro e w10 ⟨v10, rfl, hown10, hb10⟩
      have HQ10 := Lib.hid (HQ9.out.later hb10)
      clear HPU
      go_wp2_with (at_builtin; refine wpList_append_sl _ rfl (.tmp 40) (.tmp 41) _ rfl w9.heap.size 5 i0 _ 1 1 Try.underlying42 hi0 hz0 hz1 hz2 rfl (by omega) v10 pre.length (BVs pre) rfl hown10 (fun k => w.heap.size ≤ k) _ b.length (BVs b) rfl (HB.out.after HQ10.out.below) (BVs_one _) (by simp only [maxLen]; have := HBL.out; have := HBR.out; omega) (by have := HBL.out; have := HBR.out; omega) hb10.size ?_; intro v11 w11 happ)
      have HQ11 := Lib.hid (HQ10.out.grownr happ.2.1 (fun g hg => Nat.le_trans HQ9.out.size (hown10.lt g hg).1))
      have hown11 : w11.ownsRow w9.heap.size 5 1 v11 (pre ++ b).length (BVs (pre ++ b)) := by rw [List.length_append, BVs_app]; exact happ.1
      have hpb : (pre ++ b).length ≤ 140737488355328 := by rw [List.length_append]; have := HBL.out; have := HBR.out; omega
      generalize pre ++ b = pb at *
      clear happ hown10 hb10
      refine (read_any w11 (fun _ => False) v11 pb.length pb (Sl.of_own hown11 (fun _ _ _ h => h)) hpb).mono ?_
      rintro e w12 ⟨g12, rfl, hcr12, hg12, hb12⟩
      have HQ12 := Lib.hid (HQ11.out.later hb12)
      have HG12 : Hid (w.heap.size + 1 ≤ g12) := Lib.hid (Nat.le_trans HQ11.out.size hg12)
      have HTB := Lib.hid (tbatch_any w12 _ g12 (pb, 0) hcr12 hpb)
      rw [HTR.out] at HTB
      unfold TookB at HTB
      clear hcr12 hg12 hb12 hown11 hpb
      go_wp2_with fail
      refine HTB.out.mono ?_
      rintro e w13 ⟨v13, rfl, hbi13, hgr13, hcr13⟩
      have HQ13 := Lib.hid (HQ12.out.grown hgr13 HG12.out)
      have HCR13 := Lib.hid hcr13
      have HSB := Lib.hid (rsameb_any w13 _ _ v13 _ l l hbi13 (HL.out.after HQ13.out.below) HLR.out HLL.out)
      rw [decide_eq_true rfl] at HSB
      clear hbi13 hgr13 hcr13 HTB
      go_wp2_with fail
      refine HSB.out.mono ?_
      rintro e w14 ⟨rfl, hb14⟩
      have HQ15 := Lib.hid (HQ13.out.later hb14)
      have HCR14 := Lib.hid (HCR13.out.after hb14)
      obtain ⟨v14, hcb14⟩ := cr_shape HCR14.out
      have HER := Lib.hid (err_blk w14 g12 v14 _ hcb14)
      have HLE := Lib.hid (left_any w14 _ g12 _ HCR14.out)
      simp only at HER HLE
      clear hb14 hcb14 HSB HCR13
      go_wp2_with fail
      refine HER.out.mono ?_
      rintro e w15 ⟨rfl, rfl⟩
      go_wp2_with fail
      refine HLE.out.mono ?_
      rintro e w15 ⟨rfl, rfl⟩
      clear HER HLE HCR14 HTR HBR
      have HRE := Lib.hid (read_any w14 _ _ b.length b (HB.out.after HQ15.out.below) (by have := HBL.out; omega))
      go_wp2_with fail
      refine HRE.out.mono ?_
      rintro e w16 ⟨g16, rfl, hcr16, hg16, hb16⟩
      have HQ16 := Lib.hid (HQ15.out.later hb16)
      have HTB2 := Lib.hid (tbatch_any w16 _ g16 (b, 0) hcr16 (by have := HBL.out; simp only; omega))
      have HG16 : Hid (w.heap.size + 1 ≤ g16) := Lib.hid (Nat.le_trans HQ15.out.size hg16)
      unfold TookB at HTB2
      clear hcr16 hg16 hb16 HRE
      generalize tbatch (b, 0) = tb at *
      obtain ⟨m, s2⟩ := tb
      simp only at HTB2 HDO HTL HTQ
      go_wp2_with fail
      refine HTB2.out.mono ?_
      rintro e w17 ⟨v17, rfl, hbi17, hgr17, hcr17⟩
      have HQ17 := Lib.hid (HQ16.out.grown hgr17 HG16.out)
      have HBI := Lib.hid hbi17
      have HDN := Lib.hid (done_any w17 _ g16 s2 hcr17)
      clear hbi17 hgr17 hcr17 HTB2
      generalize Cm.doneS s2 = dz at *
      by_cases hdz : dz = 0
      · subst hdz
        have HPU2 := Lib.hid (putbatch_any m v17 _ (fun _ => False) (.slice none 0 0) 0 [] w17 HBI.out HTQ.out HTL.out (Sl.nil _ _ _) (by simp))
        rw [List.nil_append, HDO.out rfl] at HPU2
        unfold Made at HPU2
        obtain ⟨A17, c17, rfl, -⟩ := HBI.out.shape
        go_wp2_with fail
        refine HDN.out.mono ?_
        rintro e w18 ⟨rfl, rfl⟩
        go_wp2_with fail
        refine HPU2.out.mono ?_
        rintro e w19 ⟨v19, rfl, hown19, hb19⟩
        have HQ19 := Lib.hid (HQ17.out.later hb19)
        have HEQ := Lib.hid (Ca.equal_any w19 (fun _ => False) _ v19 _ b.length b.length b b (Sl.of_own hown19 (fun _ _ _ h => h)) (HB.out.after HQ19.out.below))
        rw [beq_self_eq_true] at HEQ
        clear hown19 hb19 HPU2
        go_wp2_with fail
        refine HEQ.out.mono ?_
        rintro e w20 ⟨rfl, rfl⟩
        go_wp2_with fail
        go_ret
        exact ⟨rfl, HQ19.out.below⟩
      · have hd1 : (dz == 0) = false := by simpa using hdz
        have hd2 : decide (dz = 0) = false := decide_eq_false hdz
        clear hdz
        go_wp2_with fail
        refine HDN.out.mono ?_
        rintro e w18 ⟨rfl, rfl⟩
        go_wp2_with fail
        go_ret
        exact ⟨rfl, HQ17.out.below⟩
    · have hb1 : (bcheck l == 0) = false := by simpa using hbc
      have hb2 : decide (bcheck l = 0) = false := decide_eq_false hbc
      clear hbc
      generalize bcheck l = zb at *
      go_wp2_with fail
      refine HCB.out.mono ?_
      rintro e w9 ⟨rfl, hb9⟩
      have HQ15 := Lib.hid (HQ8.out.later hb9)
      clear hb9 HCB
      have HRE := Lib.hid (read_any w9 _ _ b.length b (HB.out.after HQ15.out.below) (by have := HBL.out; omega))
      go_wp2_with fail
      refine HRE.out.mono ?_
      rintro e w16 ⟨g16, rfl, hcr16, hg16, hb16⟩
      have HQ16 := Lib.hid (HQ15.out.later hb16)
      have HTB2 := Lib.hid (tbatch_any w16 _ g16 (b, 0) hcr16 (by have := HBL.out; simp only; omega))
      have HG16 : Hid (w.heap.size + 1 ≤ g16) := Lib.hid (Nat.le_trans HQ15.out.size hg16)
      unfold TookB at HTB2
      clear hcr16 hg16 hb16 HRE
      generalize tbatch (b, 0) = tb at *
      obtain ⟨m, s2⟩ := tb
      simp only at HTB2 HDO HTL HTQ
      go_wp2_with fail
      refine HTB2.out.mono ?_
      rintro e w17 ⟨v17, rfl, hbi17, hgr17, hcr17⟩
      have HQ17 := Lib.hid (HQ16.out.grown hgr17 HG16.out)
      have HBI := Lib.hid hbi17
      have HDN := Lib.hid (done_any w17 _ g16 s2 hcr17)
      clear hbi17 hgr17 hcr17 HTB2
      generalize Cm.doneS s2 = dz at *
      by_cases hdz : dz = 0
      · subst hdz
        have HPU2 := Lib.hid (putbatch_any m v17 _ (fun _ => False) (.slice none 0 0) 0 [] w17 HBI.out HTQ.out HTL.out (Sl.nil _ _ _) (by simp))
        rw [List.nil_append, HDO.out rfl] at HPU2
        unfold Made at HPU2
        obtain ⟨A17, c17, rfl, -⟩ := HBI.out.shape
        go_wp2_with fail
        refine HDN.out.mono ?_
        rintro e w18 ⟨rfl, rfl⟩
        go_wp2_with fail
        refine HPU2.out.mono ?_
        rintro e w19 ⟨v19, rfl, hown19, hb19⟩
        have HQ19 := Lib.hid (HQ17.out.later hb19)
        have HEQ := Lib.hid (Ca.equal_any w19 (fun _ => False) _ v19 _ b.length b.length b b (Sl.of_own hown19 (fun _ _ _ h => h)) (HB.out.after HQ19.out.below))
        rw [beq_self_eq_true] at HEQ
        clear hown19 hb19 HPU2
        go_wp2_with fail
        refine HEQ.out.mono ?_
        rintro e w20 ⟨rfl, rfl⟩
        go_wp2_with fail
        go_ret
        exact ⟨rfl, HQ19.out.below⟩
      · have hd1 : (dz == 0) = false := by simpa using hdz
        have hd2 : decide (dz = 0) = false := decide_eq_false hdz
        clear hdz
        go_wp2_with fail
        refine HDN.out.mono ?_
        rintro e w18 ⟨rfl, rfl⟩
        go_wp2_with fail
        go_ret
        exact ⟨rfl, HQ17.out.below⟩
end Go.Proofs.Ytjdmadfjfjenjaa.Jq
