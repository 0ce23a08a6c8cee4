import Derived.Deep.RegionHeld3
import Derived.Deep.RegionLaw
import Derived.BigQuiet
import Derived.Test.YtmhmnkpaijoaaaaGreatRows
import Derived.Test.YtmhmnkpaijoaaaaGreatSZ01
namespace Go.Proofs.YtmhmnkpaijoaaaaGreat.Kg
set_option linter.unusedSimpArgs false
open Go Go.RowKit Ck Kw Ga Kf Pm Pe Pg Pk Py Qb Qg Ik Lk La Lb Lc Ld Jm Ja Jb Jc Jd Je Jf Jg Jh Jn Kc Ke
open Im (num isIn add sum)
attribute [local go_sem ↓] Go.wp_at_zero Go.wp_at_succ
set_option linter.unusedVariables false
set_option maxRecDepth 100000
set_option maxHeartbeats 8000000 in
theorem rvbatch_any (w : World) (S X : Nat -> Prop) (p g : Nat) (L : List (List UInt8)) (G : List Sg) (v : Value) (l : List Sd) (h : RT w S p g L G) (hb : BI w X v l) (hr : ∀ x ∈ l, x.q.o.recs.length <= 140737488355328) (hl63 : l.length <= 140737488355328) (hG : G.length <= 140737488355328) :
    Calls Tryz.prog 50 #[.pointer (some ⟨p, 0, none⟩), .pointer (some ⟨g, 0, none⟩), v] w fun e w' => e = .returned (.bool (validsB L G l)) /\ Below w.heap.size w w' := by
  obtain ⟨A, c, rfl, -⟩ := hb.shape
  have HC := Lib.hid (rcbatch_any w X _ l hb hr hl63)
  have HT := Lib.hid h
  have HB := Lib.hid hb
  have HR := Lib.hid hr
  have HG := Lib.hid hG
  clear hG
  clear h hb hr
  by_cases hc : bcheck l = 0
  . have HV := Lib.hid (valids_ok (L := L) (G := G) hc)
    rw [hc] at HC
    clear hc
    go_enter Tryz.func50, Tryz.ntmps50
    go_wp2_with fail
    refine HC.out.mono ?_
    rintro e w1 ⟨rfl, hb1⟩
    have HB1 := Lib.hid hb1
    clear hb1
    go_wp2_with fail
    go_loopw [7] (fun j wr => ∃ i : Nat, i <= l.length /\ j = .int .i64 i /\ (l.take i).all (validB L G) = true /\ Below w.heap.size w wr) (fun j _ => l.length - (intOf j).toNat)
    case atStart => exact ⟨0, Nat.zero_le _, rfl, rfl, HB1.out⟩
    case round =>
      obtain ⟨i, hi, rfl, hal, hbw⟩ := hrel
      have HAL := Lib.hid hal
      have HBW := Lib.hid hbw
      clear HB1 hal
      by_cases hlt : i < l.length
      . obtain ⟨ad, Ar, cr, rfl, ⟨a0, a1, a2, a3, a4, a5, a6, a7, a8⟩, hls⟩ := (HB.out.after hbw).at_ hlt
        have hin : (i : Int) < (l.length : Int) := by omega
        have hrx := HR.out _ (List.getElem_mem hlt)
        have HST := Lib.hid fun k => all_step (f := validB L G) hlt HAL.out k
        have HNO := Lib.hid fun k => all_none (f := validB L G) hlt k
        generalize l[i] = x at *
        have HBX := Lib.hid hbw
        have HVX := Lib.hid (rvalid_any wr S X p g L G x Ar cr (HT.out.later hbw) hls hrx HG.out)
        unfold DV DC at HVX
        cases hvx : validB L G x with
        | true =>
          rw [hvx] at HVX
          have HS2 := Lib.hid (HST.out hvx)
          clear hvx HNO HST hls hbw
          go_wp2_with fail
          refine HVX.out.mono ?_
          rintro e w3 ⟨rfl, hb3⟩
          have HB3 := Lib.hid (HBX.out.trans (hb3.mono HBX.out.size))
          clear hb3
          go_wp2_with fail
          go_roundw
          case rel => exact ⟨i + 1, by omega, by go_num, HS2.out, HB3.out⟩
          case measure => simp [intOf]; omega
        | false =>
          rw [hvx] at HVX
          have HV2 : Hid (validsB L G l = false) := Lib.hid (by rw [HV.out, HNO.out hvx])
          clear hvx HNO HST hls hbw
          go_wp2_with fail
          refine HVX.out.mono ?_
          rintro e w3 ⟨rfl, hb3⟩
          have HB3 := Lib.hid (HBX.out.trans (hb3.mono HBX.out.size))
          clear hb3
          go_wp2_with fail
          go_ret
          exact ⟨by rw [HV2.out]; rfl, HB3.out⟩
      . have hke : i = l.length := by omega
        subst hke
        have HV2 : Hid (validsB L G l = true) := Lib.hid (by have h := HAL.out; rw [List.take_length] at h; rw [HV.out, h])
        clear hbw
        go_wp2_with fail
        go_ret
        exact ⟨by rw [HV2.out]; rfl, HBW.out⟩
  . have HV := Lib.hid (valids_bad (L := L) (G := G) hc)
    have hd : (bcheck l != 0) = true := by simpa using hc
    have hd2 : (bcheck l == 0) = false := by simpa using hc
    clear hc
    go_enter Tryz.func50, Tryz.ntmps50
    go_wp2_with fail
    refine HC.out.mono ?_
    rintro e w1 ⟨rfl, hb1⟩
    have HB1 := Lib.hid hb1
    clear hb1
    go_wp2_with fail
    go_ret
    exact ⟨by rw [HV.out]; rfl, HB1.out⟩
end Go.Proofs.YtmhmnkpaijoaaaaGreat.Kg
namespace Go.Proofs.YtmhmnkpaijoaaaaGreat.Prn
set_option linter.unusedSimpArgs false
open Go Lk Jm Jn Kg Pra Prh Pri Prj Prk Prl
open Im (num isIn)
set_option linter.unusedVariables false
section
variable {L : List (List UInt8)} {G : List Sg} {f : Int} {p : Pd}
theorem valid_batch (h : validsB L G p.batch = false) : validP L G f p = false := by simp [validP, preP, h]
theorem valid_len (h : (p.signs.length : Int) ≠ 2 * f) : validP L G f p = false := by simp [validP, preP, h]
theorem valid_in (h : isIn L (bform p.batch) = false) : validP L G f p = false := by simp [validP, headP, h]
theorem valid_first (h : validVoteB L G p.first (primaryP f p.view) 2 p.view p.seq (digP L p) = false) : validP L G f p = false := by simp [validP, headP, h]
theorem valid_head (h1 : preP L G f p = true) (h2 : headP L G f p = true) : validP L G f p = backB L G f (primaryP f p.view) p.view p.seq (digP L p) (-1) p.signs := by simp [validP, h1, h2]
theorem pre_of (h1 : okF f = true) (h2 : numP p.view = true) (h3 : okN p.seq = true) (h4 : validsB L G p.batch = true) (h5 : (p.signs.length : Int) = 2 * f) : preP L G f p = true := by simp [preP, h1, h2, h3, h4, h5]
theorem head_of (h1 : isIn L (bform p.batch) = true) (h2 : digP L p = p.dig) (h3 : validVoteB L G p.first (primaryP f p.view) 2 p.view p.seq (digP L p) = true) : headP L G f p = true := by rw [headP, h1, h3, decide_eq_true h2]; rfl
end
theorem above_low {L : List (List UInt8)} {G : List Sg} {f view low : Int} : ∀ (l : List Pd) (last : Int), low <= last -> aboveB L G f view low last l = true -> low <= lastP last l
  | [], last, h, _ => by simpa [lastP] using h
  | p :: l, last, h, ha => by
    rw [aboveB, Bool.and_eq_true] at ha
    obtain ⟨h1, h2⟩ := ha
    simp only [aboveOne, Bool.and_eq_true, decide_eq_true_eq] at h1
    have e : lastP last (p :: l) = lastP p.seq l := by
      simp only [lastP, List.getLast?_cons]
      cases l.getLast? <;> rfl
    rw [e]
    exact above_low l p.seq (by omega) h2
end Go.Proofs.YtmhmnkpaijoaaaaGreat.Prn
namespace Go.Proofs.YtmhmnkpaijoaaaaGreat.Pro
set_option linter.unusedSimpArgs false
open Go Go.RowKit Ck Kw Ga Kf Pm Pe Pg Ph Qb Ik Lk Ld Jm Ja Jb Jc Jd Je Jk Kc Kg Pra Prb Prc Prd Prh Pri Prj Prk Prl Prm Prn
open Im (num isIn)
attribute [local go_sem ↓] Go.wp_at_zero Go.wp_at_succ
set_option linter.unusedVariables false
set_option maxRecDepth 100000
set_option maxHeartbeats 4000000 in
theorem rvalidP_pre (w : World) (S X : Nat -> Prop) (p g : Nat) (L : List (List UInt8)) (G : List Sg) (f : Int) (x : Pd) (r : Pl2) (h : RT w S p g L G) (hp : PI w X x r) (hr : ∀ y ∈ x.batch, y.q.o.recs.length <= 140737488355328) (hl : x.batch.length <= 140737488355328) (hs : x.signs.length <= 140737488355328) (hG : G.length <= 140737488355328) (hpre : preP L G f x = false) :
    Calls Tryz.prog 13 #[.pointer (some ⟨p, 0, none⟩), .pointer (some ⟨g, 0, none⟩), .int .i64 f, .agg (PC x r)] w fun e w' => e = .returned (.bool (validP L G f x)) /\ Below w.heap.size w w' := by
  have hb0 : Below w.heap.size w (w.alloc (.cells (PC x r) 41)) := (Below.refl _ w).alloc (Nat.le_refl _) _
  have hv0 : VS w S X p g L G x r (w.alloc (.cells (PC x r) 41)) := ⟨hb0, Blk.new w _ _, h.later hb0, hp.after hb0⟩
  have HV0 := Lib.hid hv0
  have HCK := fun W => Lib.hid (rcheck_any W f)
  have HBR := fun W => Lib.hid (rbrokers_any W f)
  have HPR := fun W => Lib.hid (rprimary_any W f x.view)
  have HR := Lib.hid (And.intro hr (And.intro hl (And.intro hs hG)))
  have HVB := Lib.hid (fun (W : World) (h : VS w S X p g L G x r W) => rvbatch_any W S X p g L G _ x.batch h.rt h.pi.batch hr hl hG)
  obtain ⟨a0, a1, a2, a3, a4, a5, a6⟩ := PC_cells hv0.box
  have HPF := Lib.hid hpre
  clear hpre
  clear h hp hr hl hs hG hb0 hv0
  unfold PC at HV0 a0 a1 a2 a3 a4 a5 a6 ⊢
  by_cases hf : okF f = true
  case neg =>
    have hf' : okF f = false := by simpa using hf
    have HO := Lib.hid (valid_f (L := L) (G := G) (p := x) hf')
    have hc : checkP f = 120 := by simp [checkP, hf']
    rw [hc] at HCK
    clear hf hf' hc
    go_enter Tryz.func13, Tryz.ntmps13
    go_wp2_with fail
    refine (HCK _).out.mono ?_
    rintro e w1 ⟨rfl, rfl⟩
    go_wp2_with fail
    go_ret
    exact ⟨by rw [HO.out]; rfl, HV0.out.below⟩
  obtain ⟨hf1, hf2⟩ := okF_yes hf
  have hc : checkP f = 0 := by simp [checkP, hf]
  rw [hc] at HCK
  have w2f : IntKind.i64.wrap (2 * f) = 2 * f := wrap64 (by omega) (by omega)
  have HF := Lib.hid hf
  clear hf hc
  by_cases hv1 : x.view < 0
  case pos =>
    have HO := Lib.hid (valid_view (L := L) (G := G) (f := f) (p := x) (by simp [numP]; omega))
    go_enter Tryz.func13, Tryz.ntmps13
    go_wp2_with fail
    refine (HCK _).out.mono ?_
    rintro e w1 ⟨rfl, rfl⟩
    go_wp2_with fail
    go_ret
    exact ⟨by rw [HO.out]; rfl, HV0.out.below⟩
  by_cases hv2 : 9007199254740992 < x.view
  case pos =>
    have HO := Lib.hid (valid_view (L := L) (G := G) (f := f) (p := x) (by simp [numP]; omega))
    go_enter Tryz.func13, Tryz.ntmps13
    go_wp2_with fail
    refine (HCK _).out.mono ?_
    rintro e w1 ⟨rfl, rfl⟩
    go_wp2_with fail
    go_ret
    exact ⟨by rw [HO.out]; rfl, HV0.out.below⟩
  by_cases hq1 : x.seq < 1
  case pos =>
    have HO := Lib.hid (valid_seq (L := L) (G := G) (f := f) (p := x) (by simp [okN]; omega))
    go_enter Tryz.func13, Tryz.ntmps13
    go_wp2_with fail
    refine (HCK _).out.mono ?_
    rintro e w1 ⟨rfl, rfl⟩
    go_wp2_with fail
    go_ret
    exact ⟨by rw [HO.out]; rfl, HV0.out.below⟩
  by_cases hq2 : 9007199254740992 < x.seq
  case pos =>
    have HO := Lib.hid (valid_seq (L := L) (G := G) (f := f) (p := x) (by simp [okN]; omega))
    go_enter Tryz.func13, Tryz.ntmps13
    go_wp2_with fail
    refine (HCK _).out.mono ?_
    rintro e w1 ⟨rfl, rfl⟩
    go_wp2_with fail
    go_ret
    exact ⟨by rw [HO.out]; rfl, HV0.out.below⟩
  have HNV : Hid (numP x.view = true) := Lib.hid (by simp [numP]; omega)
  have HNQ : Hid (okN x.seq = true) := Lib.hid (by simp [okN]; omega)
  cases hvb : validsB L G x.batch with
  | false =>
    have HO := Lib.hid (valid_batch (L := L) (G := G) (f := f) (p := x) hvb)
    rw [hvb] at HVB
    clear hvb
    go_enter Tryz.func13, Tryz.ntmps13
    go_wp2_with fail
    refine (HCK _).out.mono ?_
    rintro e w1 ⟨rfl, rfl⟩
    go_wp2_with fail
    refine (HVB.out _ HV0.out).mono ?_
    rintro e w1 ⟨rfl, hb1⟩
    have HV1 := Lib.hid (HV0.out.later hb1)
    clear hb1
    go_wp2_with fail
    go_ret
    exact ⟨by rw [HO.out]; rfl, HV1.out.below⟩
  | true =>
    have HVT := Lib.hid hvb
    rw [hvb] at HVB
    clear hvb
    by_cases hln : (x.signs.length : Int) = 2 * f
    case neg =>
      have HO := Lib.hid (valid_len (L := L) (G := G) (f := f) (p := x) hln)
      have e1 : ((x.signs.length : Int) == 2 * f) = false := by rw [beq_eq_false_iff_ne]; exact hln
      have e2 : ((x.signs.length : Int) != 2 * f) = true := by simp [e1, bne]
      have e3 : decide ((x.signs.length : Int) = 2 * f) = false := decide_eq_false hln
      clear hln
      go_enter Tryz.func13, Tryz.ntmps13
      go_wp2_with fail
      refine (HCK _).out.mono ?_
      rintro e w1 ⟨rfl, rfl⟩
      go_wp2_with fail
      refine (HVB.out _ HV0.out).mono ?_
      rintro e w1 ⟨rfl, hb1⟩
      have HV1 := Lib.hid (HV0.out.later hb1)
      clear hb1 a0 a1 a2 a3 a4 a5 a6
      obtain ⟨a0, a1, a2, a3, a4, a5, a6⟩ := PC_cells HV1.out.box
      go_wp2_with fail
      go_ret
      exact ⟨by rw [HO.out]; rfl, HV1.out.below⟩
    have hf' := HF.out
    have := pre_of HF.out HNV.out HNQ.out HVT.out hln
    rw [HPF.out] at this
    cases this
end Go.Proofs.YtmhmnkpaijoaaaaGreat.Pro
namespace Go.Proofs.YtmhmnkpaijoaaaaGreat.Prp
set_option linter.unusedSimpArgs false
open Go Go.RowKit Ck Kw Ga Kf Pm Pe Pg Ph Qb Ik Lk Ld Jm Ja Jb Jc Jd Je Jk Kc Kg Pra Prb Prc Prd Prh Pri Prj Prk Prl Prm Prn Pro
open Im (num isIn)
attribute [local go_sem ↓] Go.wp_at_zero Go.wp_at_succ
set_option linter.unusedVariables false
set_option maxRecDepth 100000
theorem pre_parts {L : List (List UInt8)} {G : List Sg} {f : Int} {p : Pd} (h : preP L G f p = true) : okF f = true /\ numP p.view = true /\ okN p.seq = true /\ validsB L G p.batch = true /\ (p.signs.length : Int) = 2 * f := by
  simp only [preP, Bool.and_eq_true, decide_eq_true_eq] at h
  exact ⟨h.1.1.1.1, h.1.1.1.2, h.1.1.2, h.1.2, h.2⟩
theorem head_parts {L : List (List UInt8)} {G : List Sg} {f : Int} {p : Pd} (h : headP L G f p = true) : isIn L (bform p.batch) = true /\ digP L p = p.dig /\ validVoteB L G p.first (primaryP f p.view) 2 p.view p.seq (digP L p) = true := by
  simp only [headP, Bool.and_eq_true, decide_eq_true_eq] at h
  exact ⟨h.1.1, h.1.2, h.2⟩
set_option maxHeartbeats 4000000 in
theorem rvalidP_head (w : World) (S X : Nat -> Prop) (p g : Nat) (L : List (List UInt8)) (G : List Sg) (f : Int) (x : Pd) (r : Pl2) (h : RT w S p g L G) (hp : PI w X x r) (hr : ∀ y ∈ x.batch, y.q.o.recs.length <= 140737488355328) (hl : x.batch.length <= 140737488355328) (hs : x.signs.length <= 140737488355328) (hG : G.length <= 140737488355328) (hpre : preP L G f x = true) (hhd : headP L G f x = false) :
    Calls Tryz.prog 13 #[.pointer (some ⟨p, 0, none⟩), .pointer (some ⟨g, 0, none⟩), .int .i64 f, .agg (PC x r)] w fun e w' => e = .returned (.bool (validP L G f x)) /\ Below w.heap.size w w' := by
  have hb0 : Below w.heap.size w (w.alloc (.cells (PC x r) 41)) := (Below.refl _ w).alloc (Nat.le_refl _) _
  have hv0 : VS w S X p g L G x r (w.alloc (.cells (PC x r) 41)) := ⟨hb0, Blk.new w _ _, h.later hb0, hp.after hb0⟩
  have HV0 := Lib.hid hv0
  have HCK := fun W => Lib.hid (rcheck_any W f)
  have HBR := fun W => Lib.hid (rbrokers_any W f)
  have HPR := fun W => Lib.hid (rprimary_any W f x.view)
  have HR := Lib.hid (And.intro hr (And.intro hl (And.intro hs hG)))
  have HVB := Lib.hid (fun (W : World) (h : VS w S X p g L G x r W) => rvbatch_any W S X p g L G _ x.batch h.rt h.pi.batch hr hl hG)
  obtain ⟨a0, a1, a2, a3, a4, a5, a6⟩ := PC_cells hv0.box
  clear h hp hr hl hs hG hb0 hv0
  unfold PC at HV0 a0 a1 a2 a3 a4 a5 a6 ⊢
  obtain ⟨hf, hnv, hnq, hvb, hln⟩ := pre_parts hpre
  obtain ⟨hf1, hf2⟩ := okF_yes hf
  have hc : checkP f = 0 := by simp [checkP, hf]
  rw [hc] at HCK
  rw [hvb] at HVB
  have w2f : IntKind.i64.wrap (2 * f) = 2 * f := wrap64 (by omega) (by omega)
  obtain ⟨hv1, hv2⟩ : decide (x.view < 0) = false /\ decide (9007199254740992 < x.view) = false := by simp [numP] at hnv; simp; omega
  obtain ⟨hq1, hq2⟩ : decide (x.seq < 1) = false /\ decide (9007199254740992 < x.seq) = false := by have := okN_iff.1 hnq; simp; omega
  have HPRE := Lib.hid hpre
  clear hf hc hnv hnq hvb hpre
  have HHD := Lib.hid hhd
  clear hhd
  have e1 : ((x.signs.length : Int) == 2 * f) = true := by rw [beq_iff_eq]; exact hln
  have e2 : ((x.signs.length : Int) != 2 * f) = false := by simp [e1, bne]
  have e3 : decide ((x.signs.length : Int) = 2 * f) = true := decide_eq_true hln
  have HPB := Lib.hid (fun (W : World) (h : VS w S X p g L G x r W) => rputbatch_any x.batch _ X (fun _ => False) (.slice none 0 0) 0 [] W h.pi.batch HR.out.1 HR.out.2.1 (Sl.nil _ _ _) (by simp))
  have HLK : Hid (∀ W, VS w S X p g L G x r W -> ∀ A c n, Sl W (fun _ => False) 1 (.slice A n c) n (BVs (bform x.batch)) -> Calls Tryz.prog 51 #[.pointer (some ⟨p, 0, none⟩), .slice A n c] W fun e w' => e = .returned (.tuple #[.int .i64 (digP L x), .bool (isIn L (bform x.batch))]) /\ W = w') := Lib.hid (fun W hW A c n hsl => by
    obtain ⟨S1, S2, h1, h2, _⟩ := hW.rt
    exact Ih.rlook_any W S1 _ p L _ _ _ h1 hsl)
  clear hln
  go_enter Tryz.func13, Tryz.ntmps13
  go_wp2_with fail
  refine (HCK _).out.mono ?_
  rintro e w1 ⟨rfl, rfl⟩
  go_wp2_with fail
  refine (HVB.out _ HV0.out).mono ?_
  rintro e w1 ⟨rfl, hb1⟩
  have HV1 := Lib.hid (HV0.out.later hb1)
  clear hb1 a0 a1 a2 a3 a4 a5 a6
  obtain ⟨a0, a1, a2, a3, a4, a5, a6⟩ := PC_cells HV1.out.box
  go_wp2_with fail
  refine (HPB.out _ HV1.out).mono ?_
  rintro e w2 ⟨v2, rfl, hsl2, hb2⟩
  have HV2 := Lib.hid (HV1.out.later hb2)
  obtain ⟨A2, c2, rfl, -⟩ := id hsl2
  have HL2 := Lib.hid (HLK.out w2 HV2.out A2 c2 _ (hsl2.weaken (fun _ _ h => h.elim)))
  clear hb2 hsl2 a0 a1 a2 a3 a4 a5 a6 HV1 HV0 HPB HVB HLK HCK
  obtain ⟨a0, a1, a2, a3, a4, a5, a6⟩ := PC_cells HV2.out.box
  cases hin : isIn L (bform x.batch) with
  | false =>
    have HO := Lib.hid (valid_in (L := L) (G := G) (f := f) (p := x) hin)
    rw [hin] at HL2
    clear hin
    go_wp2_with fail
    refine HL2.out.mono ?_
    rintro e w3 ⟨rfl, rfl⟩
    go_wp2_with fail
    refine (HPR _).out.mono ?_
    rintro e w3 ⟨rfl, rfl⟩
    go_wp2_with fail
    go_ret
    exact ⟨by rw [HO.out]; rfl, HV2.out.below⟩
  | true =>
    rw [hin] at HL2
    have HIN := Lib.hid hin
    clear hin
    have HVF := Lib.hid (HV2.out.vote HR.out.2.2.2 x.first (primaryP f x.view) 2 x.view x.seq (digP L x))
    by_cases hdg : digP L x = x.dig
    case neg =>
      have HO := Lib.hid (valid_dig (G := G) (f := f) hdg)
      have d1 : (digP L x == x.dig) = false := by rw [beq_eq_false_iff_ne]; exact hdg
      have d2 : (digP L x != x.dig) = true := by simp [d1, bne]
      have d3 : decide (digP L x = x.dig) = false := decide_eq_false hdg
      clear hdg HVF
      go_wp2_with fail
      refine HL2.out.mono ?_
      rintro e w3 ⟨rfl, rfl⟩
      go_wp2_with fail
      refine (HPR _).out.mono ?_
      rintro e w3 ⟨rfl, rfl⟩
      go_wp2_with fail
      go_ret
      exact ⟨by rw [HO.out]; rfl, HV2.out.below⟩
    cases hvv : validVoteB L G x.first (primaryP f x.view) 2 x.view x.seq (digP L x) with
    | false =>
      have HO := Lib.hid (valid_first (L := L) (G := G) (f := f) (p := x) hvv)
      rw [hvv] at HVF
      have d1 : (digP L x == x.dig) = true := by rw [beq_iff_eq]; exact hdg
      have d2 : (digP L x != x.dig) = false := by simp [d1, bne]
      clear hvv
      generalize digP L x = dg at *
      subst hdg
      unfold GV at HVF
      go_wp2_with fail
      refine HL2.out.mono ?_
      rintro e w3 ⟨rfl, rfl⟩
      go_wp2_with fail
      refine (HPR _).out.mono ?_
      rintro e w3 ⟨rfl, rfl⟩
      go_wp2_with fail
      refine HVF.out.mono ?_
      rintro e w3 ⟨rfl, hb3⟩
      have HV3 := Lib.hid (HV2.out.later hb3)
      clear hb3
      go_wp2_with fail
      go_ret
      exact ⟨by rw [HO.out]; rfl, HV3.out.below⟩
    | true =>
      have := head_of HIN.out hdg hvv
      rw [HHD.out] at this
      cases this
end Go.Proofs.YtmhmnkpaijoaaaaGreat.Prp
namespace Go.Proofs.YtmhmnkpaijoaaaaGreat.Prq
set_option linter.unusedSimpArgs false
open Go Go.RowKit Ck Kw Ga Kf Pm Pe Pg Ph Qb Ik Lk Ld Jm Ja Jb Jc Jd Je Jk Kc Kg Pra Prb Prc Prd Prh Pri Prj Prk Prl Prm Prn Pro Prp
open Im (num isIn)
attribute [local go_sem ↓] Go.wp_at_zero Go.wp_at_succ
set_option linter.unusedVariables false
set_option maxRecDepth 100000
theorem keep5 {W W' : World} {a b c d e : Addr} {v0 v1 v2 v3 v4 : Value} (h : W.cell? a = some v0 /\ W.cell? b = some v1 /\ W.cell? c = some v2 /\ W.cell? d = some v3 /\ W.cell? e = some v4) (k : Below W.heap.size W W') : W'.cell? a = some v0 /\ W'.cell? b = some v1 /\ W'.cell? c = some v2 /\ W'.cell? d = some v3 /\ W'.cell? e = some v4 := by
  have t : ∀ {a : Addr} {v : Value}, W.cell? a = some v -> W'.cell? a = some v := fun {a v} hc => by rw [k.cell (World.block_lt_of_cell? W _ hc)]; exact hc
  obtain ⟨h0, h1, h2, h3, h4⟩ := h
  exact ⟨t h0, t h1, t h2, t h3, t h4⟩
set_option maxHeartbeats 4000000 in
theorem rvalidP_back (w : World) (S X : Nat -> Prop) (p g : Nat) (L : List (List UInt8)) (G : List Sg) (f : Int) (x : Pd) (r : Pl2) (h : RT w S p g L G) (hp : PI w X x r) (hr : ∀ y ∈ x.batch, y.q.o.recs.length <= 140737488355328) (hl : x.batch.length <= 140737488355328) (hs : x.signs.length <= 140737488355328) (hG : G.length <= 140737488355328) (hpre : preP L G f x = true) (hhd : headP L G f x = true) :
    Calls Tryz.prog 13 #[.pointer (some ⟨p, 0, none⟩), .pointer (some ⟨g, 0, none⟩), .int .i64 f, .agg (PC x r)] w fun e w' => e = .returned (.bool (validP L G f x)) /\ Below w.heap.size w w' := by
  have hb0 : Below w.heap.size w (w.alloc (.cells (PC x r) 41)) := (Below.refl _ w).alloc (Nat.le_refl _) _
  have hv0 : VS w S X p g L G x r (w.alloc (.cells (PC x r) 41)) := ⟨hb0, Blk.new w _ _, h.later hb0, hp.after hb0⟩
  have HV0 := Lib.hid hv0
  have HCK := fun W => Lib.hid (rcheck_any W f)
  have HBR := fun W => Lib.hid (rbrokers_any W f)
  have HPR := fun W => Lib.hid (rprimary_any W f x.view)
  have HR := Lib.hid (And.intro hr (And.intro hl (And.intro hs hG)))
  have HVB := Lib.hid (fun (W : World) (h : VS w S X p g L G x r W) => rvbatch_any W S X p g L G _ x.batch h.rt h.pi.batch hr hl hG)
  obtain ⟨a0, a1, a2, a3, a4, a5, a6⟩ := PC_cells hv0.box
  clear h hp hr hl hs hG hb0 hv0
  unfold PC at HV0 a0 a1 a2 a3 a4 a5 a6 ⊢
  obtain ⟨hf, hnv, hnq, hvb, hln⟩ := pre_parts hpre
  obtain ⟨hf1, hf2⟩ := okF_yes hf
  have hc : checkP f = 0 := by simp [checkP, hf]
  rw [hc] at HCK
  rw [hvb] at HVB
  have w2f : IntKind.i64.wrap (2 * f) = 2 * f := wrap64 (by omega) (by omega)
  obtain ⟨hv1, hv2⟩ : decide (x.view < 0) = false /\ decide (9007199254740992 < x.view) = false := by simp [numP] at hnv; simp; omega
  obtain ⟨hq1, hq2⟩ : decide (x.seq < 1) = false /\ decide (9007199254740992 < x.seq) = false := by have := okN_iff.1 hnq; simp; omega
  have HPRE := Lib.hid hpre
  have HLN2 := Lib.hid hln
  clear hf hc hnv hnq hvb hpre
  have e1 : ((x.signs.length : Int) == 2 * f) = true := by rw [beq_iff_eq]; exact hln
  have e2 : ((x.signs.length : Int) != 2 * f) = false := by simp [e1, bne]
  have e3 : decide ((x.signs.length : Int) = 2 * f) = true := decide_eq_true hln
  have HPB := Lib.hid (fun (W : World) (h : VS w S X p g L G x r W) => rputbatch_any x.batch _ X (fun _ => False) (.slice none 0 0) 0 [] W h.pi.batch HR.out.1 HR.out.2.1 (Sl.nil _ _ _) (by simp))
  have HLK : Hid (∀ W, VS w S X p g L G x r W -> ∀ A c n, Sl W (fun _ => False) 1 (.slice A n c) n (BVs (bform x.batch)) -> Calls Tryz.prog 51 #[.pointer (some ⟨p, 0, none⟩), .slice A n c] W fun e w' => e = .returned (.tuple #[.int .i64 (digP L x), .bool (isIn L (bform x.batch))]) /\ W = w') := Lib.hid (fun W hW A c n hsl => by
    obtain ⟨S1, S2, h1, h2, _⟩ := hW.rt
    exact Ih.rlook_any W S1 _ p L _ _ _ h1 hsl)
  clear hln
  go_enter Tryz.func13, Tryz.ntmps13
  go_wp2_with fail
  refine (HCK _).out.mono ?_
  rintro e w1 ⟨rfl, rfl⟩
  go_wp2_with fail
  refine (HVB.out _ HV0.out).mono ?_
  rintro e w1 ⟨rfl, hb1⟩
  have HV1 := Lib.hid (HV0.out.later hb1)
  clear hb1 a0 a1 a2 a3 a4 a5 a6
  obtain ⟨a0, a1, a2, a3, a4, a5, a6⟩ := PC_cells HV1.out.box
  go_wp2_with fail
  refine (HPB.out _ HV1.out).mono ?_
  rintro e w2 ⟨v2, rfl, hsl2, hb2⟩
  have HV2 := Lib.hid (HV1.out.later hb2)
  obtain ⟨A2, c2, rfl, -⟩ := id hsl2
  have HL2 := Lib.hid (HLK.out w2 HV2.out A2 c2 _ (hsl2.weaken (fun _ _ h => h.elim)))
  clear hb2 hsl2 a0 a1 a2 a3 a4 a5 a6 HV1 HV0 HPB HVB HLK HCK
  obtain ⟨a0, a1, a2, a3, a4, a5, a6⟩ := PC_cells HV2.out.box
  obtain ⟨hin, hdg, hvv⟩ := head_parts hhd
  rw [hin] at HL2
  have HVF := Lib.hid (HV2.out.vote HR.out.2.2.2 x.first (primaryP f x.view) 2 x.view x.seq (digP L x))
  have HO := Lib.hid (valid_head HPRE.out hhd)
  rw [hvv] at HVF
  have d1 : (digP L x == x.dig) = true := by rw [beq_iff_eq]; exact hdg
  have d2 : (digP L x != x.dig) = false := by simp [d1, bne]
  clear hvv hin hhd
  generalize digP L x = dg at *
  subst hdg
  unfold GV at HVF
  go_wp2_with fail
  refine HL2.out.mono ?_
  rintro e w3 ⟨rfl, rfl⟩
  go_wp2_with fail
  refine (HPR _).out.mono ?_
  rintro e w3 ⟨rfl, rfl⟩
  go_wp2_with fail
  refine HVF.out.mono ?_
  rintro e w3 ⟨rfl, hb3⟩
  have HV3 := Lib.hid (HV2.out.later hb3)
  clear hb3 HVF HL2 HV2 a0 a1 a2 a3 a4 a5 a6 d1 d2 e1 HPR
  generalize primaryP f x.view = lead at *
  go_wp2_with fail
  go_loopw [12, 13] (fun lst i wr => ∃ k : Nat, k <= x.signs.length /\ i = .int .i64 k /\ lst = .int .i64 (lastB (-1) (x.signs.take k)) /\ backB L G f lead x.view x.seq x.dig (-1) (x.signs.take k) = true /\ VS w S X p g L G x r wr) (fun _ i _ => x.signs.length - (intOf i).toNat)
  case atStart => exact ⟨0, Nat.zero_le _, rfl, rfl, rfl, HV3.out⟩
  case round =>
    obtain ⟨k, hk, rfl, rfl, hbk, hvr⟩ := hrel
    have HVR := Lib.hid hvr
    clear HV3 hvr
    obtain ⟨a0, a1, a2, a3, a4, a5, a6⟩ := PC_cells HVR.out.box
    by_cases hlt : k < x.signs.length
    . obtain ⟨ad, hA, b0, b1⟩ := HVR.out.pi.signs.at_ hlt
      have hkp : (0 : Int) <= (k : Int) := by omega
      have hkl : (k : Int) < (x.signs.length : Int) := by omega
      have HST := Lib.hid (back_step hlt hbk)
      have HKL := Lib.hid hlt
      generalize lastB (-1) (x.signs.take k) = last at *
      generalize x.signs[k] = sg at *
      obtain ⟨s1, s2⟩ := sg
      rw [hA] at a5
      clear hA
      clear hbk hk hlt
      have HBQ : Hid (∀ n, Calls Tryz.prog 55 #[.int .i64 f] (wr.drewN n) fun e w' => e = .returned (.int .i64 (brokersP f)) /\ ∃ m, w' = wr.drewN m) := Lib.hid fun n => Calls.quiet_of_same ((HBR _).out.mono fun _ _ h => ⟨h.1, h.2.symm⟩)
      have HONE : Hid (backOne L G f lead x.view x.seq x.dig last (s1, s2) = (decide (last < s1) && decide (s1 < brokersP f) && !decide (s1 = lead) && validVoteB L G (s1, s2) s1 3 x.view x.seq x.dig)) := Lib.hid rfl
      have HB3 : Hid (∀ W, Calls Tryz.prog 55 #[.int .i64 f] W fun e w' => e = .returned (.int .i64 (brokersP f)) /\ W = w') := Lib.hid fun W => (HBR W).out
      have HVV := Lib.hid (fun (W : World) (h : VS w S X p g L G x r W) => h.vote HR.out.2.2.2 (s1, s2) s1 3 x.view x.seq x.dig)
      clear HBR
      generalize brokersP f = nb at *
      by_cases h1 : s1 <= last
      . have HF1 := Lib.hid (HST.out.1 (by rw [HONE.out, decide_eq_false (by omega)]; rfl))
        clear HBQ HB3 HVV
        go_wp2_with fail
        go_quiet (fail)
        all_goals
          go_wp2_with fail
          go_ret
          exact ⟨by rw [HO.out, HF1.out]; rfl, below_drewN HVR.out.below _⟩
      have h1' : decide (s1 <= last) = false := decide_eq_false h1
      have h1s : last < s1 := by omega
      have HNL := Lib.hid h1s
      clear h1s h1
      by_cases h2 : nb <= s1
      . have HF1 := Lib.hid (HST.out.1 (by rw [HONE.out, decide_eq_false (show ¬ s1 < nb by omega)]; simp))
        clear HB3 HVV
        go_wp2_with fail
        go_quiet ((go_at_call 55; exact HBQ.out _))
        all_goals
          go_wp2_with fail
          go_ret
          exact ⟨by rw [HO.out, HF1.out]; rfl, below_drewN HVR.out.below _⟩
      have h2' : decide (nb <= s1) = false := decide_eq_false h2
      have HN2 := Lib.hid h2
      clear h2
      by_cases h3 : s1 = lead
      . have HF1 := Lib.hid (HST.out.1 (by rw [HONE.out, decide_eq_true h3]; simp))
        have q1 : (s1 == lead) = true := by rw [beq_iff_eq]; exact h3
        clear HB3 HVV
        clear h3
        go_wp2_with fail
        go_quiet ((go_at_call 55; exact HBQ.out _))
        all_goals
          go_wp2_with fail
          go_ret
          exact ⟨by rw [HO.out, HF1.out]; rfl, below_drewN HVR.out.below _⟩
      have q1 : (s1 == lead) = false := by rw [beq_eq_false_iff_ne]; exact h3
      have hk8 : (k : Int) < 8 := by have := HLN2.out; omega
      have HVD : Hid (VS w S X p g L G x r (wr.drewN 1)) := Lib.hid (HVR.out.later (below_drewN (Below.refl _ _) 1))
      have HCD : Hid ((wr.drewN 1).cell? ⟨w.heap.size, 0, none⟩ = some (.int .i64 x.view) /\ (wr.drewN 1).cell? ⟨w.heap.size, 1, none⟩ = some (.int .i64 x.seq) /\ (wr.drewN 1).cell? ⟨w.heap.size, 5, none⟩ = some (.slice (some ad) x.signs.length r.1.2) /\ (wr.drewN 1).cell? (ad.add (k * 2)) = some (.int .i64 s1) /\ (wr.drewN 1).cell? ⟨(ad.add (k * 2)).block, (ad.add (k * 2)).off + 1, none⟩ = some (.int .i64 s2)) := Lib.hid ⟨a0, a1, a5, b0, b1⟩
      have HVV0 := Lib.hid (HVV.out _ HVD.out)
      cases hvv : validVoteB L G (s1, s2) s1 3 x.view x.seq x.dig with
      | false =>
        have HF1 := Lib.hid (HST.out.1 (by rw [HONE.out, hvv]; simp))
        rw [hvv] at HVV0
        unfold GV at HVV0
        clear HBQ HVV hvv h3
        go_wp2_with fail
        go_region_held3 (fun w' => w'.cell? ⟨w.heap.size, 0, none⟩ = some (.int .i64 x.view) /\ w'.cell? ⟨w.heap.size, 1, none⟩ = some (.int .i64 x.seq) /\ w'.cell? ⟨w.heap.size, 5, none⟩ = some (.slice (some ad) x.signs.length r.1.2) /\ w'.cell? (ad.add (k * 2)) = some (.int .i64 s1) /\ w'.cell? ⟨(ad.add (k * 2)).block, (ad.add (k * 2)).off + 1, none⟩ = some (.int .i64 s2))
          (first | exact HCD.out | exact HC4.out)
          (first
          | (go_at_call 55; refine (HB3.out _).mono ?_; rintro e w1 ⟨rfl, rfl⟩)
          | (go_at_call 54; refine HVV0.out.mono ?_; rintro e w2 ⟨rfl, hb2⟩; have HV4 := Lib.hid (HVD.out.later hb2); have HC4 := Lib.hid (keep5 HCD.out hb2); clear hb2))
        all_goals
          go_wp2_with fail
          go_ret
          exact ⟨by rw [HO.out, HF1.out]; rfl, HV4.out.below⟩
      | true =>
        have HF1 := Lib.hid (HST.out.2 (by rw [HONE.out, hvv, decide_eq_true HNL.out, decide_eq_true (show s1 < nb by have := HN2.out; omega), decide_eq_false h3]; rfl))
        rw [hvv] at HVV0
        unfold GV at HVV0
        clear HBQ HVV hvv h3
        go_wp2_with fail
        go_region_held3 (fun w' => w'.cell? ⟨w.heap.size, 0, none⟩ = some (.int .i64 x.view) /\ w'.cell? ⟨w.heap.size, 1, none⟩ = some (.int .i64 x.seq) /\ w'.cell? ⟨w.heap.size, 5, none⟩ = some (.slice (some ad) x.signs.length r.1.2) /\ w'.cell? (ad.add (k * 2)) = some (.int .i64 s1) /\ w'.cell? ⟨(ad.add (k * 2)).block, (ad.add (k * 2)).off + 1, none⟩ = some (.int .i64 s2))
          (first | exact HCD.out | exact HC4.out)
          (first
          | (go_at_call 55; refine (HB3.out _).mono ?_; rintro e w1 ⟨rfl, rfl⟩)
          | (go_at_call 54; refine HVV0.out.mono ?_; rintro e w2 ⟨rfl, hb2⟩; have HV4 := Lib.hid (HVD.out.later hb2); have HC4 := Lib.hid (keep5 HCD.out hb2); clear hb2))
        all_goals
          go_wp2_with fail
          go_roundw
          case rel => exact ⟨k + 1, by have := HKL.out; omega, by go_num, by rw [HF1.out.2], HF1.out.1, HV4.out⟩
          case measure => have := HKL.out; simp [intOf]; omega
    . have hke : k = x.signs.length := by omega
      subst hke
      rw [List.take_length] at hbk
      have HBK := Lib.hid hbk
      clear hbk hk hlt
      go_wp2_with fail
      go_ret
      exact ⟨by rw [HO.out, HBK.out]; rfl, HVR.out.below⟩
end Go.Proofs.YtmhmnkpaijoaaaaGreat.Prq
namespace Go.Proofs.YtmhmnkpaijoaaaaGreat.Prr
set_option linter.unusedSimpArgs false
open Go Go.RowKit Ck Kw Ga Kf Pm Pe Pg Ph Qb Ik Lk Ld Jm Ja Jb Jc Jd Je Jk Kc Kg Pra Prb Prc Prd Prh Pri Prj Prk Prl Prm Prn Pro Prp Prq
open Im (num isIn)
attribute [local go_sem ↓] Go.wp_at_zero Go.wp_at_succ
set_option linter.unusedVariables false
set_option maxRecDepth 100000
theorem rvalidP_any (w : World) (S X : Nat -> Prop) (p g : Nat) (L : List (List UInt8)) (G : List Sg) (f : Int) (x : Pd) (r : Pl2) (h : RT w S p g L G) (hp : PI w X x r) (hx : okP x) (hG : G.length <= 140737488355328) :
    Calls Tryz.prog 13 #[.pointer (some ⟨p, 0, none⟩), .pointer (some ⟨g, 0, none⟩), .int .i64 f, .agg (PC x r)] w fun e w' => e = .returned (.bool (validP L G f x)) /\ Below w.heap.size w w' := by
  cases h1 : preP L G f x with
  | false => exact rvalidP_pre w S X p g L G f x r h hp hx.1 hx.2.1 hx.2.2 hG h1
  | true =>
    cases h2 : headP L G f x with
    | false => exact rvalidP_head w S X p g L G f x r h hp hx.1 hx.2.1 hx.2.2 hG h1 h2
    | true => exact rvalidP_back w S X p g L G f x r h hp hx.1 hx.2.1 hx.2.2 hG h1 h2
set_option maxHeartbeats 4000000 in
theorem rabove_any (w : World) (S X : Nat -> Prop) (p g : Nat) (L : List (List UInt8)) (G : List Sg) (f view low : Int) (v : Value) (l : List Pd) (h : RT w S p g L G) (hp : PL w X v l) (hx : ∀ x ∈ l, okP x) (hl : l.length <= 140737488355328) (hG : G.length <= 140737488355328) :
    Calls Tryz.prog 15 #[.pointer (some ⟨p, 0, none⟩), .pointer (some ⟨g, 0, none⟩), .int .i64 f, .int .i64 view, .int .i64 low, v] w fun e w' => e = .returned (.bool (aboveB L G f view low low l)) /\ Below w.heap.size w w' := by
  obtain ⟨A, c, rfl, hc⟩ := hp.shape
  have HP := Lib.hid (And.intro h hp)
  have HX := Lib.hid (And.intro hx (And.intro hG hl))
  clear h hp hc hx hG hl
  go_enter Tryz.func15, Tryz.ntmps15
  go_wp2_with fail
  go_loopw [13, 14] (fun lst i wr => ∃ k : Nat, k <= l.length /\ i = .int .i64 k /\ lst = .int .i64 (lastP low (l.take k)) /\ aboveB L G f view low low (l.take k) = true /\ Below w.heap.size w wr) (fun _ i _ => l.length - (intOf i).toNat)
  case atStart => exact ⟨0, Nat.zero_le _, rfl, rfl, rfl, Below.refl _ _⟩
  case round =>
    obtain ⟨k, hk, rfl, rfl, hab, hb⟩ := hrel
    have HB := Lib.hid hb
    by_cases hlt : k < l.length
    . obtain ⟨ad, r, rfl, hat, hpi⟩ := HP.out.2.at_ hlt
      obtain ⟨a0, a1, a2, a3, a4, a5, a6⟩ := hat.later hb
      have hkp : (0 : Int) <= (k : Int) := by omega
      have hkl : (k : Int) < (l.length : Int) := by omega
      have hk47 : decide ((k : Int) < 140737488355328) = true := by have := HX.out.2.2; exact decide_eq_true (by omega)
      have HST := Lib.hid (above_step hlt hab)
      have HLW := Lib.hid (above_low (l.take k) low (Int.le_refl _) hab)
      have HKL := Lib.hid hlt
      have HV := Lib.hid (rvalidP_any wr S X p g L G f l[k] r (HP.out.1.later hb) (hpi.after hb) (HX.out.1 _ (List.getElem_mem hlt)) HX.out.2.1)
      have HAT := Lib.hid (hat.later hb)
      generalize lastP low (l.take k) = last at *
      generalize l[k] = x at *
      have HONE : Hid (aboveOne L G f view low last x = (validP L G f x && decide (x.view < view) && decide (last < x.seq) && decide (x.seq - 8 <= low))) := Lib.hid rfl
      clear hat hpi hab hk hlt hb
      unfold PC at HV
      cases hv : validP L G f x with
      | false =>
        have HF1 := Lib.hid (HST.out.1 (by rw [HONE.out, hv]; rfl))
        rw [hv] at HV
        clear hv
        go_wp2_with fail
        refine HV.out.mono ?_
        rintro e w1 ⟨rfl, hb1⟩
        have HB1 := Lib.hid (HB.out.trans (hb1.mono HB.out.size))
        clear hb1
        go_wp2_with fail
        go_ret
        exact ⟨by rw [HF1.out]; rfl, HB1.out⟩
      | true =>
        rw [hv] at HV
        obtain ⟨hs1, hs2⟩ := valid_seqs hv
        have HSQ := Lib.hid (And.intro hs1 hs2)
        have hw8 : IntKind.i64.wrap (x.seq - 8) = x.seq - 8 := wrap64 (by omega) (by omega)
        clear hs1 hs2
        by_cases h1 : view <= x.view
        . have HF1 := Lib.hid (HST.out.1 (by rw [HONE.out, hv, decide_eq_false (show ¬ x.view < view by omega)]; rfl))
          have d1 : decide (view <= x.view) = true := decide_eq_true h1
          clear hv h1
          go_wp2_with fail
          refine HV.out.mono ?_
          rintro e w1 ⟨rfl, hb1⟩
          have HB1 := Lib.hid (HB.out.trans (hb1.mono HB.out.size))
          obtain ⟨a0, a1, a2, a3, a4, a5, a6⟩ := HAT.out.later hb1
          clear hb1
          go_wp2_with fail
          go_ret
          exact ⟨by rw [HF1.out]; rfl, HB1.out⟩
        . have d1 : decide (view <= x.view) = false := decide_eq_false h1
          have HN1 := Lib.hid h1
          clear h1
          by_cases h2 : x.seq <= last
          . have HF1 := Lib.hid (HST.out.1 (by rw [HONE.out, decide_eq_false (show ¬ last < x.seq by omega)]; simp))
            have d2 : decide (x.seq <= last) = true := decide_eq_true h2
            clear hv h2
            go_wp2_with fail
            refine HV.out.mono ?_
            rintro e w1 ⟨rfl, hb1⟩
            have HB1 := Lib.hid (HB.out.trans (hb1.mono HB.out.size))
            obtain ⟨a0, a1, a2, a3, a4, a5, a6⟩ := HAT.out.later hb1
            clear hb1
            go_wp2_with fail
            go_ret
            exact ⟨by rw [HF1.out]; rfl, HB1.out⟩
          . have d2 : decide (x.seq <= last) = false := decide_eq_false h2
            have d3 : decide (x.seq <= low) = false := decide_eq_false (by have := HLW.out; omega)
            have HN2 := Lib.hid h2
            clear h2
            by_cases h3 : low < x.seq - 8
            . have HF1 := Lib.hid (HST.out.1 (by rw [HONE.out, decide_eq_false (show ¬ x.seq - 8 <= low by omega)]; simp))
              have d4 : decide (low < x.seq - 8) = true := decide_eq_true h3
              clear hv h3
              go_wp2_with fail
              refine HV.out.mono ?_
              rintro e w1 ⟨rfl, hb1⟩
              have HB1 := Lib.hid (HB.out.trans (hb1.mono HB.out.size))
              obtain ⟨a0, a1, a2, a3, a4, a5, a6⟩ := HAT.out.later hb1
              clear hb1
              go_wp2_with fail
              go_ret
              exact ⟨by rw [HF1.out]; rfl, HB1.out⟩
            . have HF1 := Lib.hid (HST.out.2 (by rw [HONE.out, hv, decide_eq_true (show x.view < view by have := HN1.out; omega), decide_eq_true (show last < x.seq by have := HN2.out; omega), decide_eq_true (show x.seq - 8 <= low by omega)]; rfl))
              have d4 : decide (low < x.seq - 8) = false := decide_eq_false h3
              clear hv h3
              have hk8 : (k : Int) < 140737488355328 := of_decide_eq_true hk47
              clear hk47
              go_wp2_with fail
              refine HV.out.mono ?_
              rintro e w1 ⟨rfl, hb1⟩
              have HB1 := Lib.hid (HB.out.trans (hb1.mono HB.out.size))
              obtain ⟨a0, a1, a2, a3, a4, a5, a6⟩ := HAT.out.later hb1
              clear hb1
              go_wp2_with fail
              go_roundw
              case rel => exact ⟨k + 1, by have := HKL.out; omega, by go_num, by rw [HF1.out.2], HF1.out.1, HB1.out⟩
              case measure => have := HKL.out; simp [intOf]; omega
    . have hke : k = l.length := by omega
      subst hke
      rw [List.take_length] at hab
      have HAB := Lib.hid hab
      clear hab hk hlt hb
      go_wp2_with fail
      go_ret
      exact ⟨by rw [HAB.out]; rfl, HB.out⟩
end Go.Proofs.YtmhmnkpaijoaaaaGreat.Prr
namespace Go.Proofs.YtmhmnkpaijoaaaaGreat.Bulk
set_option linter.unusedSimpArgs false
set_option linter.unusedVariables false
theorem slice_elems {H : Type} (elems spare : List (DataW H)) : Rows.uptoBulkAll elems + 1 <= Rows.uptoBulk (.slice elems spare) := by
  simp only [Rows.uptoBulk]
  omega
theorem small {H : Type} {l : List (DataW H)} (h : Rows.uptoSmall H l = true) : Rows.uptoBulkAll l <= 1048576 := of_decide_eq_true h
end Go.Proofs.YtmhmnkpaijoaaaaGreat.Bulk
namespace Go.Proofs.YtmhmnkpaijoaaaaGreat.Pta
set_option linter.unusedSimpArgs false
open Go Go.RowKit Ck Cf Kw Ga Kf Pm Pe Pg Ik Lk Jm Ja Jb Jf Jg Jl Jn Kc Kj Pra Prb Pre Prn Prr Prv Prw Prx Pry Prz Psa Psb Psr Psu Psv Psx
set_option linter.unusedVariables false
section
variable {w w' : World} {X : Nat -> Prop} {v : Value} {l : List SpD}
end
section
variable {B : Nat} {v v' : Value} {l : List Pd} {rs : List Pl2} {W W' : World}
end
theorem sealsR_recs {L : List (List UInt8)} {G : List Sg} {M : Nat} : ∀ (qs : List Q) (y : List (List UInt8) × List Sg × List Sd), (∀ q ∈ qs, q.o.recs.length <= M) -> (∀ d ∈ y.2.2, d.q.o.recs.length <= M) -> (∀ d ∈ (qs.foldl stepQ y).2.2, d.q.o.recs.length <= M) /\ (qs.foldl stepQ y).2.2.length <= y.2.2.length + qs.length
  | [], y, _, h => ⟨h, by simp⟩
  | q :: qs, y, hq, h => by
    have hs : (∀ d ∈ (stepQ y q).2.2, d.q.o.recs.length <= M) /\ (stepQ y q).2.2.length <= y.2.2.length + 1 := by
      simp only [stepQ, sealS]
      split
      . refine ⟨fun d hd => ?_, by simp⟩
        rcases List.mem_append.1 hd with hd | hd
        . exact h d hd
        . rw [List.mem_singleton.1 hd]
          exact Nat.le_trans (sealR_recs _ _) (hq q List.mem_cons_self)
      . exact ⟨h, by omega⟩
    have := sealsR_recs (L := L) (G := G) qs (stepQ y q) (fun x hx => hq x (List.mem_cons_of_mem _ hx)) hs.1
    refine ⟨this.1, ?_⟩
    have h2 := this.2
    simp only [List.foldl_cons, List.length_cons]
    omega
def okB (M : Nat) (bs : List (List Sd)) : Prop := ∀ b ∈ bs, b.length <= M /\ ∀ d ∈ b, d.q.o.recs.length <= M
theorem okB_steps {M : Nat} : ∀ (qss : List (List Q)) (z : Bz), (∀ qs ∈ qss, qs.length <= M /\ ∀ q ∈ qs, q.o.recs.length <= M) -> okB M z.bs -> okB M (qss.foldl stepB z).bs
  | [], z, _, h => h
  | qs :: qss, z, hq, h => by
    refine okB_steps qss _ (fun x hx => hq x (List.mem_cons_of_mem _ hx)) ?_
    have h1 := hq qs List.mem_cons_self
    have h2 := sealsR_recs (L := z.L) (G := z.G) (M := M) qs (z.L, z.G, []) h1.2 (fun d hd => by simp at hd)
    intro b hb
    simp only [stepB] at hb
    rcases List.mem_append.1 hb with hb | hb
    . exact h b hb
    . rw [List.mem_singleton.1 hb]
      refine ⟨?_, h2.1⟩
      have := h2.2
      simp only [List.length_nil] at this
      exact Nat.le_trans this (by omega)
theorem madeB_ok {M : Nat} {qss : List (List Q)} (h : ∀ qs ∈ qss, qs.length <= M /\ ∀ q ∈ qs, q.o.recs.length <= M) : okB M (madeB ([] :: qss)).bs := by
  refine okB_steps _ _ (fun qs hqs => ?_) (fun b hb => by simp at hb)
  rcases List.mem_cons.1 hqs with rfl | hqs
  . exact ⟨by simp, fun q hq => by simp at hq⟩
  . exact h qs hqs
theorem madeP_ok {z : Bz} {ss : List Sg} {s : Sp} (h : okB 1048576 z.bs) (hs : s.signs.length <= 140737488355328) : okP (madeP z ss s) := by
  have hb : (madeP z ss s).batch.length <= 1048576 /\ ∀ d ∈ (madeP z ss s).batch, d.q.o.recs.length <= 1048576 := by
    simp only [madeP]
    cases he : z.bs[s.batch % z.bs.length]? with
    | none => exact ⟨by simp, fun d hd => by simp at hd⟩
    | some b => exact h b (List.mem_of_getElem? he)
  refine ⟨fun y hy => Nat.le_trans (hb.2 y hy) (by decide), Nat.le_trans hb.1 (by decide), ?_⟩
  simp only [madeP, List.length_map]
  exact hs
structure BzOk (z : Bz) (x : Vz) : Prop where
  b1 : 0 < z.bs.length
  b2 : z.ds.length = z.bs.length
  b3 : 0 < x.ss.length
  b4 : z.bs.length <= 1048577
  b5 : x.ss.length <= 1048577
  ok : okB 1048576 z.bs
  hG : x.G.length <= 140737488355328
theorem bz_ok {w : World} {f view low : Int} {vb vv vs : Value} {qss : List (List Q)} {vts : List (Vt × Nat)} (h : CI w f vb vv vs view low qss vts) : BzOk (madeB ([] :: qss)) (votesV (madeB ([] :: qss)) vts) := by
  have hm : ∀ qs ∈ ([] :: qss), qs.length <= 1048576 := fun qs hqs => by
    rcases List.mem_cons.1 hqs with rfl | hqs
    . simp
    . exact (h.hq qs hqs).1
  have h1 := madeB_len hm ([] :: qss).length (Nat.le_refl _)
  rw [List.take_length] at h1
  have h2 := votesV_len (madeB ([] :: qss)) vts vts.length (Nat.le_refl _)
  rw [List.take_length] at h2
  have hn := h.hn
  have hv := h.hv
  have hl : ([] :: qss).length = qss.length + 1 := by simp
  rw [hl] at h1
  refine ⟨by omega, by omega, by omega, by omega, by omega, madeB_ok h.hq, ?_⟩
  have h3 : (qss.length + 1) * 1048576 <= 1048577 * 1048576 := Nat.mul_le_mul_right _ (by omega)
  have h4 := h1.1
  have h5 := h2.1
  omega
theorem tl_len {W : World} {S : Nat -> Prop} {p g : Nat} {L : List (List UInt8)} {G : List Sg} (h : TL W S p g L G) : Calls Tryz.prog 16 #[.pointer (some ⟨p, 0, none⟩)] W fun e w' => e = .returned (.int .i64 L.length) /\ W = w' := by
  obtain ⟨S1, S2, h1, h2, -⟩ := h
  exact Ia.len_yes W S1 p L h1
theorem tl_glen {W : World} {S : Nat -> Prop} {p g : Nat} {L : List (List UInt8)} {G : List Sg} (h : TL W S p g L G) : Calls Tryz.prog 17 #[.pointer (some ⟨g, 0, none⟩)] W fun e w' => e = .returned (.int .i64 G.length) /\ W = w' := by
  obtain ⟨S1, S2, h1, h2, -⟩ := h
  exact La.len_yes W S2 g G h2
end Go.Proofs.YtmhmnkpaijoaaaaGreat.Pta
namespace Go.Proofs.YtmhmnkpaijoaaaaGreat.Ptm
set_option linter.unusedSimpArgs false
open Go Go.RowKit Go.ChangeShapes Go.WideShapes Go.ChangeAt Go.Deep Ck Kf Kp Pm Pe Py Lk Jm Ja Jb Jo Pra Prb Prr Pta Pte
set_option linter.unusedVariables false
set_option maxRecDepth 100000
section
variable {H : Type} {enc : TypeId × Value -> H}
theorem zip_maps {α β : Type} : ∀ l : List (α × β), (l.map (·.1)).zip (l.map (·.2)) = l
  | [] => rfl
  | e :: l => by rw [List.map_cons, List.map_cons, List.zip_cons_cons, zip_maps l]
end
end Go.Proofs.YtmhmnkpaijoaaaaGreat.Ptm
