import Derived.BigQuiet
import Derived.Test.YtmhmnkpaijoaaaaGreatS11
namespace Go.Proofs.YtmhmnkpaijoaaaaGreat.Puu
set_option linter.unusedSimpArgs false
open Go Go.RowKit Ck Kw Ga Kf Pm Pe Pg Ph Qb Ik Ia Lk La Lb Ld Jm Ja Jb Jc Jd Je Jf Jk Kc Kg Pra Prb Prc Prd Prh Pri Prj Prk Prl Prm Prn Prs Prt Pru Pus
open Im (num isIn)
attribute [local go_sem ↓] Go.wp_at_zero Go.wp_at_succ
set_option linter.unusedVariables false
set_option maxRecDepth 100000
structure VT (w0 : World) (S X : Nat -> Prop) (p g : Nat) (L : List (List UInt8)) (G : List Sg) (x : Pd) (r : Pl2) (w : World) : Prop where
  below : Below w0.heap.size w0 w
  box : Blk w w0.heap.size 41 (PC x r)
  tl : TL w S p g L G
  pi : PI w X x r
theorem VT.later {w0 w w' : World} {S X : Nat -> Prop} {p g : Nat} {L : List (List UInt8)} {G : List Sg} {x : Pd} {r : Pl2} (h : VT w0 S X p g L G x r w) (b : Below w.heap.size w w') : VT w0 S X p g L G x r w' :=
  ⟨h.below.trans (b.mono h.below.size), h.box.below b h.box.lt, h.tl.later b, h.pi.after b⟩
theorem VT.new {w : World} {S X : Nat -> Prop} {p g : Nat} {L : List (List UInt8)} {G : List Sg} {x : Pd} {r : Pl2} (h : TL w S p g L G) (hp : PI w X x r) : VT w S X p g L G x r (w.alloc (.cells (PC x r) 41)) := by
  have hb0 : Below w.heap.size w (w.alloc (.cells (PC x r) 41)) := (Below.refl _ w).alloc (Nat.le_refl _) _
  exact ⟨hb0, Blk.new w _ _, h.later hb0, hp.after hb0⟩
theorem VT.cells {w0 w : World} {S X : Nat -> Prop} {p g : Nat} {L : List (List UInt8)} {G : List Sg} {x : Pd} {r : Pl2} (h : VT w0 S X p g L G x r w) : w.cell? ⟨w0.heap.size, 0, none⟩ = some (.int .i64 x.view) /\ w.cell? ⟨w0.heap.size, 1, none⟩ = some (.int .i64 x.seq) /\ w.cell? ⟨w0.heap.size, 2, none⟩ = some (.int .i64 x.dig) /\ w.cell? ⟨w0.heap.size, 3, none⟩ = some (.int .i64 x.first.1) /\ w.cell? ⟨w0.heap.size, 4, none⟩ = some (.int .i64 x.first.2) /\ w.cell? ⟨w0.heap.size, 5, none⟩ = some (.slice r.1.1 x.signs.length r.1.2) /\ w.cell? ⟨w0.heap.size, 6, none⟩ = some (.slice r.2.1 x.batch.length r.2.2) :=
  ⟨h.box.cell 0, h.box.cell 1, h.box.cell 2, h.box.cell 3, h.box.cell 4, h.box.cell 5, h.box.cell 6⟩
def haveB (L : List (List UInt8)) (G : List Sg) (f lead : Int) (x : Pd) : Bool := decide ((x.signs.length : Int) = 2 * f) && backB L G f lead x.view x.seq x.dig (-1) x.signs
theorem last_low {L : List (List UInt8)} {G : List Sg} {f lead v q d : Int} : ∀ (l : List Sg) (a : Int), backB L G f lead v q d a l = true -> a <= lastB a l
  | [], a, _ => by simp [lastB]
  | s :: l, a, h => by
    have e : lastB a (s :: l) = lastB s.1 l := by
      simp only [lastB, List.getLast?_cons]
      cases l.getLast? <;> rfl
    rw [e]
    simp only [backB, backOne, Bool.and_eq_true, decide_eq_true_eq] at h
    have := last_low l s.1 h.2
    have := h.1.1.1.1
    omega
set_option maxHeartbeats 8000000 in
theorem have_any (w : World) (S X : Nat -> Prop) (p g : Nat) (L : List (List UInt8)) (G : List Sg) (f lead : Int) (x : Pd) (r : Pl2) (h : TL w S p g L G) (hp : PI w X x r) (hs : x.signs.length <= 140737488355328) (hf : okF f = true) :
    Calls Tryz.prog 49 #[.pointer (some ⟨p, 0, none⟩), .pointer (some ⟨g, 0, none⟩), .int .i64 f, .int .i64 lead, .agg (PC x r)] w fun e w' => e = .returned (.bool (haveB L G f lead x)) /\ Below w.heap.size w w' := by
  have HV0 := Lib.hid (VT.new h hp)
  obtain ⟨a0, a1, a2, a3, a4, a5, a6⟩ := HV0.out.cells
  obtain ⟨hf1, hf2⟩ := okF_yes hf
  have hw1 : IntKind.i64.wrap (2 * f + 1 - 1) = 2 * f := by rw [show 2 * f + 1 - 1 = 2 * f by omega]; exact wrap64 (by omega) (by omega)
  have HBG := Lib.hid (fun W => qbig_any W f hf)
  have HBQ : Hid (∀ n, Calls Tryz.prog 85 #[.int .i64 f] ((w.alloc (.cells (PC x r) 41)).drewN n) fun e w' => e = .returned (.int .i64 (2 * f + 1)) /\ ∃ m, w' = (w.alloc (.cells (PC x r) 41)).drewN m) := Lib.hid fun n => Calls.quiet_of_same ((HBG.out _).mono fun _ _ h => ⟨h.1, h.2.symm⟩)
  have HNB : Hid (brokersP f = 3 * f + 1) := Lib.hid (by simp [brokersP, hf])
  have HFF := Lib.hid (And.intro hf1 hf2)
  have HHB : Hid (haveB L G f lead x = (decide ((x.signs.length : Int) = 2 * f) && backB L G f lead x.view x.seq x.dig (-1) x.signs)) := Lib.hid rfl
  clear h hp hf HBG
  unfold PC at HV0 a0 a1 a2 a3 a4 a5 a6 HBQ ⊢
  by_cases hln : (x.signs.length : Int) = 2 * f
  case neg =>
    have e1 : ((x.signs.length : Int) == 2 * f) = false := by rw [beq_eq_false_iff_ne]; exact hln
    have e2 : ((x.signs.length : Int) != 2 * f) = true := by simp [e1, bne]
    have e3 : decide ((x.signs.length : Int) = 2 * f) = false := decide_eq_false hln
    have HO : Hid (haveB L G f lead x = false) := Lib.hid (by rw [HHB.out, e3]; rfl)
    clear hln
    go_enter Tryz.func49, Tryz.ntmps49
    go_wp2_with fail
    go_quiet ((go_at_call 85; exact HBQ.out _))
    all_goals
      go_wp2_with fail
      go_ret
      exact ⟨by rw [HO.out]; rfl, below_drewN HV0.out.below _⟩
  have e1 : ((x.signs.length : Int) == 2 * f) = true := by rw [beq_iff_eq]; exact hln
  have e2 : ((x.signs.length : Int) != 2 * f) = false := by simp [e1, bne]
  have e3 : decide ((x.signs.length : Int) = 2 * f) = true := decide_eq_true hln
  have HO : Hid (haveB L G f lead x = backB L G f lead x.view x.seq x.dig (-1) x.signs) := Lib.hid (by rw [HHB.out, e3]; rfl)
  have HLN := Lib.hid hln
  clear hln
  go_enter Tryz.func49, Tryz.ntmps49
  go_wp2_with fail
  go_quiet ((go_at_call 85; exact HBQ.out _))
  have HVQ := Lib.hid (HV0.out.later (below_drewN (Below.refl _ _) nq))
  have c5 := HVQ.out.cells.2.2.2.2.2.1
  clear HV0 HBQ a0 a1 a2 a3 a4 a5 a6 e1 e2 e3 hw1
  unfold PC at HVQ c5
  generalize (w.alloc (.cells #[.int .i64 x.view, .int .i64 x.seq, .int .i64 x.dig, .int .i64 x.first.1, .int .i64 x.first.2, .slice r.1.1 x.signs.length r.1.2, .slice r.2.1 x.batch.length r.2.2] 41)).drewN nq = wq at *
  go_wp2_with fail
  go_loopw [11, 24] (fun lst i wr => ∃ k : Nat, k <= x.signs.length /\ i = .int .i64 k /\ lst = .int .i64 (lastB (-1) (x.signs.take k)) /\ backB L G f lead x.view x.seq x.dig (-1) (x.signs.take k) = true /\ VT w S X p g L G x r wr) (fun _ i _ => x.signs.length - (intOf i).toNat)
  case atStart => exact ⟨0, Nat.zero_le _, rfl, rfl, rfl, HVQ.out⟩
  case round =>
    obtain ⟨k, hk, rfl, rfl, hbk, hvr⟩ := hrel
    have HVR := Lib.hid hvr
    clear HVQ hvr c5
    by_cases hlt : k < x.signs.length
    . obtain ⟨ad, hA, b0, b1⟩ := HVR.out.pi.signs.at_ hlt
      have hkp : (0 : Int) <= (k : Int) := by omega
      have hkl : (k : Int) < (x.signs.length : Int) := by omega
      have HST := Lib.hid (back_step hlt hbk)
      have HLW := Lib.hid (last_low _ _ hbk)
      have HKL := Lib.hid hlt
      generalize lastB (-1) (x.signs.take k) = last at *
      generalize x.signs[k] = sg at *
      obtain ⟨s1, s2⟩ := sg
      have hb2 : Below wr.heap.size wr (wr.alloc (.cells #[.int .i64 s1, .int .i64 s2] 36)) := (Below.refl _ wr).alloc (Nat.le_refl _) _
      have HV2 := Lib.hid (HVR.out.later hb2)
      have HK2 : Hid (Blk (wr.alloc (.cells #[.int .i64 s1, .int .i64 s2] 36)) wr.heap.size 36 #[.int .i64 s1, .int .i64 s2]) := Lib.hid (Blk.new wr _ _)
      have HONE : Hid (backOne L G f lead x.view x.seq x.dig last (s1, s2) = (decide (last < s1) && decide (s1 < brokersP f) && !decide (s1 = lead) && validVoteB L G (s1, s2) s1 3 x.view x.seq x.dig)) := Lib.hid rfl
      rw [hA]
      clear hbk hk hlt hb2 hA
      go_wp2_with fail
      generalize wr.alloc (.cells #[.int .i64 s1, .int .i64 s2] 36) = w2 at *
      generalize wr.heap.size = gs at *
      have q0 : w2.cell? ⟨gs, 0, none⟩ = some (.int .i64 s1) := HK2.out.cell 0
      have q1 : w2.cell? ⟨gs, 1, none⟩ = some (.int .i64 s2) := HK2.out.cell 1
      have HBQ : Hid (∀ n, Calls Tryz.prog 79 #[.int .i64 f] (w2.drewN n) fun e w' => e = .returned (.int .i64 (brokersP f)) /\ ∃ m, w' = w2.drewN m) := Lib.hid fun n => Calls.quiet_of_same ((qbrokers_any _ f).mono fun _ _ h => ⟨h.1, h.2.symm⟩)
      have hbr := HNB.out
      rw [hbr] at HBQ HONE
      clear hbr b0 b1
      obtain ⟨nb, hnb⟩ : ∃ nb, nb = 3 * f + 1 := ⟨_, rfl⟩
      rw [<- hnb] at HBQ HONE
      have HNBI := Lib.hid hnb
      clear hnb
      by_cases h1 : s1 <= last
      . have HF1 := Lib.hid (HST.out.1 (by rw [HONE.out, decide_eq_false (by omega)]; rfl))
        clear HBQ
        go_quiet (fail)
        all_goals
          go_wp2_with fail
          go_ret
          exact ⟨by rw [HO.out, HF1.out]; rfl, below_drewN HV2.out.below _⟩
      have h1' : decide (s1 <= last) = false := decide_eq_false h1
      have HNL : Hid (last < s1) := Lib.hid (by omega)
      clear h1
      by_cases h2 : nb <= s1
      . have HF1 := Lib.hid (HST.out.1 (by rw [HONE.out, decide_eq_false (show ¬ s1 < nb by omega)]; simp))
        go_quiet ((go_at_call 79; exact HBQ.out _))
        all_goals
          go_wp2_with fail
          go_ret
          exact ⟨by rw [HO.out, HF1.out]; rfl, below_drewN HV2.out.below _⟩
      have h2' : decide (nb <= s1) = false := decide_eq_false h2
      have HN2 := Lib.hid h2
      clear h2
      by_cases h3 : s1 = lead
      . have HF1 := Lib.hid (HST.out.1 (by rw [HONE.out, decide_eq_true h3]; simp))
        have q1 : (s1 == lead) = true := by rw [beq_iff_eq]; exact h3
        clear h3
        go_quiet ((go_at_call 79; exact HBQ.out _))
        all_goals
          go_wp2_with fail
          go_ret
          exact ⟨by rw [HO.out, HF1.out]; rfl, below_drewN HV2.out.below _⟩
      have q1' : (s1 == lead) = false := by rw [beq_eq_false_iff_ne]; exact h3
      have HN3 := Lib.hid h3
      clear h3
      go_quiet ((go_at_call 79; exact HBQ.out _))
      have HV3 := Lib.hid (HV2.out.later (below_drewN (Below.refl _ w2) nq))
      have HK3 : Hid (Blk (w2.drewN nq) gs 36 #[.int .i64 s1, .int .i64 s2]) := Lib.hid (HK2.out.below (below_drewN (Below.refl _ w2) nq) HK2.out.lt)
      clear HV2 HK2 HBQ q0 q1 q1' h1' h2'
      generalize w2.drewN nq = w3 at *
      have q0 : w3.cell? ⟨gs, 0, none⟩ = some (.int .i64 s1) := HK3.out.cell 0
      have q1 : w3.cell? ⟨gs, 1, none⟩ = some (.int .i64 s2) := HK3.out.cell 1
      obtain ⟨c0, c1, c2, -, -, -, -⟩ := HV3.out.cells
      have HVV := Lib.hid (pvote_any w3 S p g L G (s1, s2) s1 3 x.view x.seq x.dig HV3.out.tl (by have h1 := HNL.out; have h2 := HN2.out; have h3 := HLW.out; have h4 := HNBI.out; have h5 := HFF.out; omega))
      cases hvv : validVoteB L G (s1, s2) s1 3 x.view x.seq x.dig with
      | false =>
        have HF1 := Lib.hid (HST.out.1 (by rw [HONE.out, hvv]; simp))
        rw [hvv] at HVV
        unfold GV at HVV
        clear hvv
        go_wp2_with fail
        refine HVV.out.mono ?_
        rintro e w4 ⟨rfl, hb4⟩
        have HV4 := Lib.hid (HV3.out.later hb4)
        clear hb4
        go_wp2_with fail
        go_ret
        exact ⟨by rw [HO.out, HF1.out]; rfl, HV4.out.below⟩
      | true =>
        have HF1 := Lib.hid (HST.out.2 (by rw [HONE.out, hvv, decide_eq_true HNL.out, decide_eq_true (show s1 < nb by have := HN2.out; omega), decide_eq_false HN3.out]; rfl))
        rw [hvv] at HVV
        unfold GV at HVV
        clear hvv
        have hk8 : (k : Int) < 8 := by have := HLN.out; have := HFF.out; omega
        go_wp2_with fail
        refine HVV.out.mono ?_
        rintro e w4 ⟨rfl, hb4⟩
        have HV4 := Lib.hid (HV3.out.later hb4)
        have hk4 := HK3.out.below hb4 HK3.out.lt
        have r0 : w4.cell? ⟨gs, 0, none⟩ = some (.int .i64 s1) := hk4.cell 0
        clear hb4 hk4
        go_wp2_with fail
        go_roundw
        case rel => exact ⟨k + 1, by have := HKL.out; omega, by go_num, by rw [HF1.out.2], HF1.out.1, HV4.out⟩
        case measure => have := HKL.out; simp [intOf]; omega
    . have hke : k = x.signs.length := by omega
      subst hke
      rw [List.take_length] at hbk
      have HBK := Lib.hid hbk
      clear hbk hk hlt
      go_wp2_with fail
      go_ret
      exact ⟨by rw [HO.out, HBK.out]; rfl, HVR.out.below⟩
end Go.Proofs.YtmhmnkpaijoaaaaGreat.Puu
namespace Go.Proofs.YtmhmnkpaijoaaaaGreat.Puv
set_option linter.unusedSimpArgs false
open Go Go.RowKit Ck Kw Ga Kf Pm Pe Pg Ph Qb Ik Ia Lk La Lb Ld Jm Ja Jb Jc Jd Je Jf Jk Kc Kg Pra Prb Prc Prd Prh Pri Prj Prk Prl Prm Prn Prs Prt Pru Pus Puu
open Im (num isIn)
attribute [local go_sem ↓] Go.wp_at_zero Go.wp_at_succ
set_option linter.unusedVariables false
set_option maxRecDepth 100000
theorem valid_eq {L : List (List UInt8)} {G : List Sg} {f : Int} {x : Pd} (h1 : okF f = true) (h2 : numP x.view = true) (h3 : okN x.seq = true) :
    validP L G f x = (batchB L G x && (validVoteB L G x.first (primaryP f x.view) 2 x.view x.seq x.dig && haveB L G f (primaryP f x.view) x)) := by
  by_cases hd : digP L x = x.dig
  . unfold validP preP headP batchB haveB
    rw [h1, h2, h3, hd, decide_eq_true (rfl : x.dig = x.dig)]
    cases validsB L G x.batch <;> cases isIn L (bform x.batch) <;> cases validVoteB L G x.first (primaryP f x.view) 2 x.view x.seq x.dig <;> cases decide ((x.signs.length : Int) = 2 * f) <;> simp
  . rw [valid_dig hd]
    unfold batchB
    rw [decide_eq_false hd]
    simp
set_option maxHeartbeats 4000000 in
theorem valid_lost (w : World) (tv gv : Value) (f : Int) (x : Pd) (r : Pl2) (hl : primaryP f x.view = -1) :
    Calls Tryz.prog 12 #[tv, gv, .int .i64 f, .agg (PC x r)] w fun e w' => e = .returned (.bool false) /\ Below w.heap.size w w' := by
  have hb0 : Below w.heap.size w (w.alloc (.cells (PC x r) 41)) := (Below.refl _ w).alloc (Nat.le_refl _) _
  have hk0 : Blk (w.alloc (.cells (PC x r) 41)) w.heap.size 41 (PC x r) := Blk.new w _ _
  have a0 : (w.alloc (.cells (PC x r) 41)).cell? ⟨w.heap.size, 0, none⟩ = some (.int .i64 x.view) := hk0.cell 0
  have HPR := fun W => Lib.hid (qprimary_any W f x.view)
  rw [hl] at HPR
  have HB0 := Lib.hid hb0
  clear hk0 hb0 hl
  unfold PC at a0 HB0 ⊢
  go_enter Tryz.func12, Tryz.ntmps12
  go_wp2_with fail
  refine (HPR _).out.mono ?_
  rintro e w1 ⟨rfl, rfl⟩
  go_wp2_with fail
  go_ret
  exact ⟨rfl, HB0.out⟩
set_option maxHeartbeats 4000000 in
theorem valid_over (w : World) (tv gv : Value) (X : Nat -> Prop) (f : Int) (x : Pd) (r : Pl2) (bb vv hh : Bool) (lead : Int) (hl : primaryP f x.view = lead) (hl0 : 0 <= lead)
    (HBB : ∀ W, Below w.heap.size w W -> Calls Tryz.prog 47 #[tv, gv, .agg (PC x r)] W fun e w' => e = .returned (.bool bb) /\ Below W.heap.size W w')
    (HVV : bb = true -> ∀ W, Below w.heap.size w W -> Calls Tryz.prog 48 #[tv, gv, GV x.first, .int .i64 lead, .int .i64 2, .int .i64 x.view, .int .i64 x.seq, .int .i64 x.dig] W fun e w' => e = .returned (.bool vv) /\ Below W.heap.size W w')
    (HHH : bb = true -> vv = true -> ∀ W, Below w.heap.size w W -> Calls Tryz.prog 49 #[tv, gv, .int .i64 f, .int .i64 lead, .agg (PC x r)] W fun e w' => e = .returned (.bool hh) /\ Below W.heap.size W w') :
    Calls Tryz.prog 12 #[tv, gv, .int .i64 f, .agg (PC x r)] w fun e w' => e = .returned (.bool (okN x.seq && (bb && (vv && hh)))) /\ Below w.heap.size w w' := by
  have hb0 : Below w.heap.size w (w.alloc (.cells (PC x r) 41)) := (Below.refl _ w).alloc (Nat.le_refl _) _
  have hk0 : Blk (w.alloc (.cells (PC x r) 41)) w.heap.size 41 (PC x r) := Blk.new w _ _
  obtain ⟨a0, a1, a2, a3, a4, a5, a6⟩ := Pro.PC_cells hk0
  have HPR := fun W => Lib.hid (qprimary_any W f x.view)
  rw [hl] at HPR
  have HIS := Lib.hid (fun W => Puc.isseq_any W x.seq)
  have HB0 := Lib.hid hb0
  have HK0 := Lib.hid hk0
  have HBB := Lib.hid HBB
  have HVV := Lib.hid HVV
  have HHH := Lib.hid HHH
  clear hk0 hb0 hl
  unfold PC at a0 a1 a2 a3 a4 a5 a6 HB0 HK0 HBB HHH ⊢
  have hl1 : ¬ lead < 0 := by omega
  cases ho : okN x.seq with
  | false =>
    rw [ho] at HIS
    clear ho
    go_enter Tryz.func12, Tryz.ntmps12
    go_wp2_with fail
    refine (HPR _).out.mono ?_
    rintro e w1 ⟨rfl, rfl⟩
    go_wp2_with fail
    refine (HIS.out _).mono ?_
    rintro e w1 ⟨rfl, rfl⟩
    go_wp2_with fail
    go_ret
    exact ⟨rfl, HB0.out⟩
  | true =>
    rw [ho] at HIS
    clear ho
    have HBB0 := Lib.hid (HBB.out _ HB0.out)
    cases bb with
    | false =>
      go_enter Tryz.func12, Tryz.ntmps12
      go_wp2_with fail
      refine (HPR _).out.mono ?_
      rintro e w1 ⟨rfl, rfl⟩
      go_wp2_with fail
      refine (HIS.out _).mono ?_
      rintro e w1 ⟨rfl, rfl⟩
      go_wp2_with fail
      refine HBB0.out.mono ?_
      rintro e w2 ⟨rfl, hb2⟩
      have HB2 := Lib.hid (HB0.out.trans (hb2.mono HB0.out.size))
      clear hb2
      go_wp2_with fail
      go_ret
      exact ⟨rfl, HB2.out⟩
    | true =>
      unfold GV at HVV
      cases vv with
      | false =>
        go_enter Tryz.func12, Tryz.ntmps12
        go_wp2_with fail
        refine (HPR _).out.mono ?_
        rintro e w1 ⟨rfl, rfl⟩
        go_wp2_with fail
        refine (HIS.out _).mono ?_
        rintro e w1 ⟨rfl, rfl⟩
        go_wp2_with fail
        refine HBB0.out.mono ?_
        rintro e w2 ⟨rfl, hb2⟩
        have HB2 := Lib.hid (HB0.out.trans (hb2.mono HB0.out.size))
        have HVV2 := Lib.hid (HVV.out (by first | exact rfl | trivial) w2 HB2.out)
        have hk2 := HK0.out.below hb2 HK0.out.lt
        have b0 := hk2.cell 0
        have b1 := hk2.cell 1
        have b2 := hk2.cell 2
        have b3 := hk2.cell 3
        have b4 := hk2.cell 4
        simp only [List.getElem?_toArray, List.getElem?_cons_zero, List.getElem?_cons_succ] at b0 b1 b2 b3 b4
        clear hb2 hk2
        go_wp2_with fail
        refine HVV2.out.mono ?_
        rintro e w3 ⟨rfl, hb3⟩
        have HB3 := Lib.hid (HB2.out.trans (hb3.mono HB2.out.size))
        clear hb3
        go_wp2_with fail
        go_ret
        exact ⟨rfl, HB3.out⟩
      | true =>
        go_enter Tryz.func12, Tryz.ntmps12
        go_wp2_with fail
        refine (HPR _).out.mono ?_
        rintro e w1 ⟨rfl, rfl⟩
        go_wp2_with fail
        refine (HIS.out _).mono ?_
        rintro e w1 ⟨rfl, rfl⟩
        go_wp2_with fail
        refine HBB0.out.mono ?_
        rintro e w2 ⟨rfl, hb2⟩
        have HB2 := Lib.hid (HB0.out.trans (hb2.mono HB0.out.size))
        have HVV2 := Lib.hid (HVV.out (by first | exact rfl | trivial) w2 HB2.out)
        have hk2 := HK0.out.below hb2 HK0.out.lt
        have b0 := hk2.cell 0
        have b1 := hk2.cell 1
        have b2 := hk2.cell 2
        have b3 := hk2.cell 3
        have b4 := hk2.cell 4
        simp only [List.getElem?_toArray, List.getElem?_cons_zero, List.getElem?_cons_succ] at b0 b1 b2 b3 b4
        have HK2 := Lib.hid hk2
        clear hb2 hk2
        go_wp2_with fail
        refine HVV2.out.mono ?_
        rintro e w3 ⟨rfl, hb3⟩
        have HB3 := Lib.hid (HB2.out.trans (hb3.mono HB2.out.size))
        have HH3 := Lib.hid (HHH.out (by first | exact rfl | trivial) (by first | exact rfl | trivial) w3 HB3.out)
        have hk3 := HK2.out.below hb3 HK2.out.lt
        have b0 := hk3.cell 0
        have b1 := hk3.cell 1
        have b2 := hk3.cell 2
        have b3 := hk3.cell 3
        have b4 := hk3.cell 4
        have b5 := hk3.cell 5
        have b6 := hk3.cell 6
        simp only [List.getElem?_toArray, List.getElem?_cons_zero, List.getElem?_cons_succ] at b0 b1 b2 b3 b4 b5 b6
        clear hb3 hk3
        go_wp2_with fail
        refine HH3.out.mono ?_
        rintro e w4 ⟨rfl, hb4⟩
        have HB4 := Lib.hid (HB3.out.trans (hb4.mono HB3.out.size))
        clear hb4
        go_wp2_with fail
        go_ret
        exact ⟨by cases hh <;> rfl, HB4.out⟩
theorem valid_any (w : World) (S X : Nat -> Prop) (p g : Nat) (L : List (List UInt8)) (G : List Sg) (f : Int) (x : Pd) (r : Pl2) (h : TL w S p g L G) (hp : PI w X x r) (hx : Prr.okP x) :
    Calls Tryz.prog 12 #[.pointer (some ⟨p, 0, none⟩), .pointer (some ⟨g, 0, none⟩), .int .i64 f, .agg (PC x r)] w fun e w' => e = .returned (.bool (validP L G f x)) /\ Below w.heap.size w w' := by
  by_cases hf : okF f = true
  . by_cases hv : numP x.view = true
    . have hlead : primaryP f x.view = x.view % (3 * f + 1) := by
        simp only [numP, Bool.and_eq_true, decide_eq_true_eq] at hv
        unfold primaryP
        rw [hf, decide_eq_false (by omega), decide_eq_false (by omega)]
        rfl
      obtain ⟨hf1, hf2⟩ := okF_yes hf
      have h0 : 0 <= x.view % (3 * f + 1) := Int.emod_nonneg _ (by omega)
      have h13 : x.view % (3 * f + 1) < 3 * f + 1 := Int.emod_lt_of_pos _ (by omega)
      have hval := valid_over w (.pointer (some ⟨p, 0, none⟩)) (.pointer (some ⟨g, 0, none⟩)) X f x r (batchB L G x) (validVoteB L G x.first (x.view % (3 * f + 1)) 2 x.view x.seq x.dig) (haveB L G f (x.view % (3 * f + 1)) x) _ hlead h0
        (fun W b => isbatch_any W S X p g L G x r (h.later b) (hp.after b) hx) (fun _ W b => pvote_any W S p g L G x.first _ 2 x.view x.seq x.dig (h.later b) (by omega)) (fun _ _ W b => have_any W S X p g L G f _ x r (h.later b) (hp.after b) hx.2.2 hf)
      cases ho : okN x.seq with
      | false =>
        rw [valid_seq ho]
        rw [ho] at hval
        exact hval
      | true =>
        rw [valid_eq hf hv ho, hlead]
        rw [ho] at hval
        exact hval
    . have hv' : numP x.view = false := by simpa using hv
      rw [valid_view hv']
      exact valid_lost w _ _ f x r (by
        unfold primaryP
        rw [hf]
        simp only [numP] at hv'
        by_cases h1 : x.view < 0
        . rw [decide_eq_true h1]; rfl
        . by_cases h2 : 9007199254740992 < x.view
          . rw [decide_eq_true h2]; simp
          . exfalso
            rw [decide_eq_true (by omega), decide_eq_true (by omega)] at hv'
            cases hv')
  . have hf' : okF f = false := by simpa using hf
    rw [valid_f hf']
    exact valid_lost w _ _ f x r (by unfold primaryP; rw [hf']; rfl)
end Go.Proofs.YtmhmnkpaijoaaaaGreat.Puv
namespace Go.Proofs.YtmhmnkpaijoaaaaGreat.Puw
set_option linter.unusedSimpArgs false
open Go Go.RowKit Ck Kw Ga Kf Pm Pe Pg Ph Qb Ik Ia Lk La Lb Ld Jm Ja Jb Jc Jd Je Jf Jk Kc Kg Pra Prb Prc Prd Prh Pri Prj Prk Prl Prm Prn Prs Prt Pru Pus Puu
open Im (num isIn)
attribute [local go_sem ↓] Go.wp_at_zero Go.wp_at_succ
set_option linter.unusedVariables false
set_option maxRecDepth 100000
set_option maxHeartbeats 4000000 in
theorem above_any (w : World) (S X : Nat -> Prop) (p g : Nat) (L : List (List UInt8)) (G : List Sg) (f view low : Int) (v : Value) (l : List Pd) (h : TL w S p g L G) (hp : PL w X v l) (hx : ∀ x ∈ l, Prr.okP x) (hl : l.length <= 140737488355328) :
    Calls Tryz.prog 14 #[.pointer (some ⟨p, 0, none⟩), .pointer (some ⟨g, 0, none⟩), .int .i64 f, .int .i64 view, .int .i64 low, v] w fun e w' => e = .returned (.bool (aboveB L G f view low low l)) /\ Below w.heap.size w w' := by
  obtain ⟨A, c, rfl, hc⟩ := hp.shape
  have HP := Lib.hid (And.intro h hp)
  have HX := Lib.hid (And.intro hx hl)
  clear h hp hc hx hl
  go_enter Tryz.func14, Tryz.ntmps14
  go_wp2_with fail
  go_loopw [13, 19] (fun lst i wr => ∃ k : Nat, k <= l.length /\ i = .int .i64 k /\ lst = .int .i64 (lastP low (l.take k)) /\ aboveB L G f view low low (l.take k) = true /\ Below w.heap.size w wr) (fun _ i _ => l.length - (intOf i).toNat)
  case atStart => exact ⟨0, Nat.zero_le _, rfl, rfl, rfl, Below.refl _ _⟩
  case round =>
    obtain ⟨k, hk, rfl, rfl, hab, hb⟩ := hrel
    have HB := Lib.hid hb
    by_cases hlt : k < l.length
    . obtain ⟨ad, r, rfl, hat, hpi⟩ := HP.out.2.at_ hlt
      obtain ⟨a0, a1, a2, a3, a4, a5, a6⟩ := hat.later hb
      have hkp : (0 : Int) <= (k : Int) := by omega
      have hkl : (k : Int) < (l.length : Int) := by omega
      have HST := Lib.hid (above_step hlt hab)
      have HKL := Lib.hid (And.intro hlt (show (k : Int) < 140737488355328 by have := HX.out.2; omega))
      have hb2 : Below wr.heap.size wr (wr.alloc (.cells (PC l[k] r) 41)) := (Below.refl _ wr).alloc (Nat.le_refl _) _
      have hbb : Below w.heap.size w (wr.alloc (.cells (PC l[k] r) 41)) := hb.trans (hb2.mono hb.size)
      have HV := Lib.hid (Puv.valid_any (wr.alloc (.cells (PC l[k] r) 41)) S X p g L G f l[k] r (HP.out.1.later hbb) (hpi.after hbb) (HX.out.1 _ (List.getElem_mem hlt)))
      have HBB := Lib.hid hbb
      have HBK : Hid (Blk (wr.alloc (.cells (PC l[k] r) 41)) wr.heap.size 41 (PC l[k] r)) := Lib.hid (Blk.new _ _ _)
      generalize lastP low (l.take k) = last at *
      generalize l[k] = x at *
      have HONE : Hid (aboveOne L G f view low last x = (validP L G f x && decide (x.view < view) && decide (last < x.seq) && decide (x.seq - 8 <= low))) := Lib.hid rfl
      clear hat hpi hab hk hlt hb hb2 hbb
      unfold PC at HV HBB HBK
      by_cases h2 : x.seq <= last
      . have HF1 := Lib.hid (HST.out.1 (by rw [HONE.out, decide_eq_false (show ¬ last < x.seq by omega)]; simp))
        go_wp2_with fail
        go_ret
        exact ⟨by rw [HF1.out]; rfl, HBB.out⟩
      have HN2 := Lib.hid h2
      by_cases h1 : view <= x.view
      . have HF1 := Lib.hid (HST.out.1 (by rw [HONE.out, decide_eq_false (show ¬ x.view < view by omega)]; simp))
        go_wp2_with fail
        go_ret
        exact ⟨by rw [HF1.out]; rfl, HBB.out⟩
      have HN1 := Lib.hid h1
      cases hv : validP L G f x with
      | false =>
        have HF1 := Lib.hid (HST.out.1 (by rw [HONE.out, hv]; rfl))
        rw [hv] at HV
        clear hv
        go_wp2_with fail
        refine HV.out.mono ?_
        rintro e w1 ⟨rfl, hb1⟩
        have HB1 := Lib.hid (HBB.out.trans (hb1.mono HBB.out.size))
        clear hb1
        go_wp2_with fail
        go_ret
        exact ⟨by rw [HF1.out]; rfl, HB1.out⟩
      | true =>
        rw [hv] at HV
        obtain ⟨hs1, hs2⟩ := Prr.valid_seqs hv
        have hw8 : IntKind.i64.wrap (x.seq - 8) = x.seq - 8 := wrap64 (by omega) (by omega)
        clear hs1 hs2
        by_cases h3 : low < x.seq - 8
        . have HF1 := Lib.hid (HST.out.1 (by rw [HONE.out, decide_eq_false (show ¬ x.seq - 8 <= low by omega)]; simp))
          clear hv
          go_wp2_with fail
          refine HV.out.mono ?_
          rintro e w1 ⟨rfl, hb1⟩
          have HB1 := Lib.hid (HBB.out.trans (hb1.mono HBB.out.size))
          have hk1 := HBK.out.below hb1 HBK.out.lt
          have c1 := hk1.cell 1
          simp only [List.getElem?_toArray, List.getElem?_cons_zero, List.getElem?_cons_succ] at c1
          clear hb1 hk1
          go_wp2_with fail
          go_ret
          exact ⟨by rw [HF1.out]; rfl, HB1.out⟩
        . have HF1 := Lib.hid (HST.out.2 (by rw [HONE.out, hv, decide_eq_true (show x.view < view by have := HN1.out; omega), decide_eq_true (show last < x.seq by have := HN2.out; omega), decide_eq_true (show x.seq - 8 <= low by omega)]; rfl))
          clear hv
          have hwk : IntKind.i64.wrap ((k : Int) + 1) = (k : Int) + 1 := wrap64 (by have := HKL.out.2; omega) (by have := HKL.out.2; omega)
          go_wp2_with fail
          refine HV.out.mono ?_
          rintro e w1 ⟨rfl, hb1⟩
          have HB1 := Lib.hid (HBB.out.trans (hb1.mono HBB.out.size))
          have hk1 := HBK.out.below hb1 HBK.out.lt
          have c1 := hk1.cell 1
          simp only [List.getElem?_toArray, List.getElem?_cons_zero, List.getElem?_cons_succ] at c1
          clear hb1 hk1
          go_wp2_with fail
          go_roundw
          case rel => exact ⟨k + 1, by have := HKL.out.1; omega, by go_num, by rw [HF1.out.2], HF1.out.1, HB1.out⟩
          case measure => have := HKL.out; simp [intOf]; omega
    . have hke : k = l.length := by omega
      subst hke
      rw [List.take_length] at hab
      have HAB := Lib.hid hab
      clear hab hk hlt hb
      go_wp2_with fail
      go_ret
      exact ⟨by rw [HAB.out]; rfl, HB.out⟩
end Go.Proofs.YtmhmnkpaijoaaaaGreat.Puw
namespace Go.Proofs.YtmhmnkpaijoaaaaGreat.Puy
set_option linter.unusedSimpArgs false
open Go Go.RowKit Ck Kw Ga Kf Pm Pe Pg Ph Qb Ik Ia Lk La Lb Ld Jm Ja Jb Jc Jd Je Jf Jk Kc Kg Pra Prb Prc Prd Prh Pri Prj Prk Prl Prm Prn Prs Prt Pru Pus Puu Pua Pub Puc
open Im (num isIn)
attribute [local go_sem ↓] Go.wp_at_zero Go.wp_at_succ
set_option linter.unusedVariables false
set_option maxRecDepth 100000
def Blind (w : World) (tv : Value) : Prop := ∀ W, Below w.heap.size w W -> ∀ (A : Option Addr) (c n : Nat) (b : List UInt8), b.length <= 140737488355328 -> Sl W (fun _ => False) 1 (.slice A n c) n (BVs b) -> Calls Tryz.prog 76 #[tv, .slice A n c] W fun e w' => e = .returned (.tuple #[.int .i64 0, .bool false]) /\ Below W.heap.size W w'
theorem Blind.later {w w' : World} {tv : Value} (h : Blind w tv) (b : Below w.heap.size w w') : Blind w' tv := fun W hW => h W (b.trans (hW.mono b.size))
theorem blind_nil (w : World) : Blind w (.pointer none) := fun W _ A c n b _ _ => (look_nil W _).mono (by
  rintro e w' ⟨he, rfl⟩
  exact ⟨he, Below.refl _ _⟩)
theorem blind_empty {w : World} {S : Nat -> Prop} {p : Nat} (h : Tb w S p []) : Blind w (.pointer (some ⟨p, 0, none⟩)) := fun W hW A c n b hb hs => by
  have hn : n = b.length := by obtain ⟨A0, c0, _, h0, _⟩ := hs; rw [BVs_len] at h0; omega
  subst hn
  refine (look_yes W S _ p [] A c b (h.ch (Ch.of_below (S := fun _ => False) hW (Nat.le_refl _)) (fun _ _ h => h)) hs hb).mono ?_
  rintro e w' ⟨he, n, rfl⟩
  exact ⟨he, below_drewN (Below.refl _ _) n⟩
set_option maxHeartbeats 4000000 in
theorem dvalid_blind (w : World) (tv gv : Value) (X : Nat -> Prop) (d : Sd) (A : Option Addr) (c : Nat) (ht : Blind w tv) (hls : Ls w X (.slice A d.q.o.recs.length c) d.q.o.recs) (hl : d.q.o.recs.length <= 140737488355328) :
    Calls Tryz.prog 107 #[tv, gv, DV d A c] w fun e w' => e = .returned (.bool false) /\ Below w.heap.size w w' := by
  have hb0 := op_below w (.cells (DC d A c) 113)
  have hk0 : DK (w.alloc (.cells (DC d A c) 113)) w.heap.size d A c := Blk.new w _ _
  have HC := Lib.hid (qbytes_any d.q (QV d.q A c) X _ ⟨A, c, rfl, hls.after hb0⟩ hl)
  have HT0 := Lib.hid (ht.later hb0)
  have HB0 := Lib.hid hb0
  obtain ⟨a0, a1, a2, a3, a4, a5, a6, a7, a8⟩ := hk0.cells
  clear ht hls hb0 hk0
  unfold Byt at HC
  unfold QV QC at HC
  unfold DV
  unfold DC at HC HT0 HB0 a0 a1 a2 a3 a4 a5 a6 a7 a8 ⊢
  by_cases hq : qcheck d.q = 0
  . have HQL := Lib.hid (qraw_len hq)
    rw [hq, qform_eq hq] at HC
    clear hq
    go_enter Tryz.func107, Tryz.ntmps107
    go_wp2_with fail
    refine HC.out.mono ?_
    rintro e w1 ⟨v1, rfl, hsl1, hb1⟩
    have HB1 := Lib.hid (HB0.out.trans (hb1.mono HB0.out.size))
    obtain ⟨Ab, cb, rfl, -⟩ := id hsl1
    have HLK := Lib.hid (HT0.out w1 hb1 Ab cb _ (qraw d.q) (by have := HQL.out; omega) (hsl1.weaken (fun _ _ h => h.elim)))
    clear hsl1 hb1 a0 a1 a2 a3 a4 a5 a6 a7 a8
    go_wp2_with fail
    refine HLK.out.mono ?_
    rintro e w2 ⟨rfl, hb2⟩
    have HB2 := Lib.hid (HB1.out.trans (hb2.mono HB1.out.size))
    clear hb2 HLK
    go_wp2_with fail
    go_quiet (fail)
    all_goals
      go_wp2_with fail
      go_ret
      exact ⟨rfl, below_drewN HB2.out _⟩
  . have hd : (qcheck d.q != 0) = true := by simpa using hq
    have hd2 : (qcheck d.q == 0) = false := by simpa using hq
    clear hq
    go_enter Tryz.func107, Tryz.ntmps107
    go_wp2_with fail
    refine HC.out.mono ?_
    rintro e w1 ⟨v1, rfl, -, hb1⟩
    have HB1 := Lib.hid (HB0.out.trans (hb1.mono HB0.out.size))
    clear hb1
    go_wp2_with fail
    go_ret
    exact ⟨rfl, HB1.out⟩
set_option maxHeartbeats 4000000 in
theorem vbatch_blind (w : World) (tv gv : Value) (X : Nat -> Prop) (v : Value) (l : List Sd) (ht : Blind w tv) (hb : BI w X v l) (hr : ∀ x ∈ l, x.q.o.recs.length <= 140737488355328) (hl63 : l.length <= 140737488355328) :
    Calls Tryz.prog 80 #[tv, gv, v] w fun e w' => e = .returned (.bool (decide (bcheck l = 0) && l.isEmpty)) /\ Below w.heap.size w w' := by
  by_cases hc : bcheck l = 0
  case neg =>
    rw [decide_eq_false hc]
    exact vbatch_bad w tv gv X v l hb hr hl63 hc
  obtain ⟨A, c, rfl, -⟩ := hb.shape
  have HC := Lib.hid (cbatch_any w X _ l hb hr hl63)
  have HT := Lib.hid ht
  have HB := Lib.hid hb
  have HR := Lib.hid hr
  have HO : Hid ((decide (bcheck l = 0) && l.isEmpty) = l.isEmpty) := Lib.hid (by rw [decide_eq_true hc]; rfl)
  rw [hc] at HC
  clear hb hr hc ht
  go_enter Tryz.func80, Tryz.ntmps80
  go_wp2_with fail
  refine HC.out.mono ?_
  rintro e w1 ⟨rfl, hb1⟩
  have HB1 := Lib.hid hb1
  clear hb1
  go_wp2_with fail
  go_loopw [14] (fun j wr => ∃ i : Nat, i <= 0 /\ j = .int .i64 i /\ Below w.heap.size w wr) (fun j _ => 0)
  case atStart => exact ⟨0, Nat.le_refl _, rfl, HB1.out⟩
  case round =>
    obtain ⟨i, hi0, rfl, hbw⟩ := hrel
    have HI0 := Lib.hid hi0
    clear hi0
    have HBW := Lib.hid hbw
    clear HB1
    by_cases hlt : i < l.length
    . obtain ⟨ad, Ar, cr, rfl, ⟨a0, a1, a2, a3, a4, a5, a6, a7, a8⟩, hls⟩ := (HB.out.after hbw).at_ hlt
      have hin : (i : Int) < (l.length : Int) := by omega
      have hin0 : (0 : Int) <= (i : Int) := by omega
      have hrx := HR.out _ (List.getElem_mem hlt)
      have HE : Hid (l.isEmpty = false) := Lib.hid (by cases l with | nil => simp at hlt | cons d l => rfl)
      generalize l[i] = x at *
      have b2 := op_below wr (.cells (DC x Ar cr) 113)
      have HBX := Lib.hid (hbw.trans (b2.mono hbw.size))
      have HVX := Lib.hid (dvalid_blind (wr.alloc (.cells (DC x Ar cr) 113)) tv gv X x Ar cr (HT.out.later HBX.out) (hls.after b2) hrx)
      unfold DV at HVX
      unfold DC at HVX HBX
      clear b2 hls hbw
      go_wp2_with fail
      refine HVX.out.mono ?_
      rintro e w3 ⟨rfl, hb3⟩
      have HB3 := Lib.hid (HBX.out.trans (hb3.mono HBX.out.size))
      clear hb3
      go_wp2_with fail
      go_ret
      exact ⟨by rw [HO.out, HE.out]; rfl, HB3.out⟩
    . have hke : l = [] := by cases l with | nil => rfl | cons d l => (have := HI0.out; simp at hlt; omega)
      subst hke
      have hin : ¬ (i : Int) < 0 := by omega
      clear hbw hlt
      go_wp2_with fail
      go_ret
      exact ⟨rfl, HBW.out⟩
theorem prim_or (f v : Int) : primaryP f v = -1 \/ 0 <= primaryP f v := by
  unfold primaryP
  by_cases h : (okF f && !decide (v < 0) && !decide (9007199254740992 < v)) = true
  . rw [if_pos h]
    simp only [Bool.and_eq_true] at h
    obtain ⟨h1, h2⟩ := okF_yes h.1.1
    exact .inr (Int.emod_nonneg _ (by omega))
  . rw [if_neg h]
    exact .inl rfl
theorem valid_blind (w : World) (tv gv : Value) (X : Nat -> Prop) (f : Int) (x : Pd) (r : Pl2) (ht : Blind w tv) (hp : PI w X x r) (hx : Prr.okP x) :
    Calls Tryz.prog 12 #[tv, gv, .int .i64 f, .agg (PC x r)] w fun e w' => e = .returned (.bool false) /\ Below w.heap.size w w' := by
  rcases prim_or f x.view with hl | hl
  . exact Puv.valid_lost w tv gv f x r hl
  . have h := Puv.valid_over w tv gv X f x r false false false _ rfl hl (fun W b => by
      have h1 := isbatch_over W tv gv X x r _ false 0 (hp.after b) hx (fun W2 b2 => vbatch_blind W2 tv gv X _ x.batch ((ht.later b).later b2) ((hp.after b).after b2).batch hx.1 hx.2.1) (fun W2 b2 A c n hs => (ht.later b) W2 b2 A c n (bform x.batch) (by have := bform_len x.batch; omega) hs)
      simpa using h1) (fun h => by cases h) (fun h => by cases h)
    simpa using h
theorem nh_un {W : World} {v : Value} (h : Ptp.NH W v) : UnH W v := h
set_option maxHeartbeats 2000000 in
theorem get_un (w : World) (v : Value) (n : Int) (h : UnH w v) : Calls Tryz.prog 23 #[v, .int .i64 n] w fun e w' => e = .returned (.tuple #[.agg #[.int .i64 0, .int .i64 0, .int .i64 0, .int .i64 0, .int .i64 0, .slice none 0 0, .slice none 0 0], .bool false]) /\ Below w.heap.size w w' := by
  have hb0 : Below w.heap.size w (w.alloc (.cells Z7p 41)) := (Below.refl _ w).alloc (Nat.le_refl _) _
  have hk0 : Blk (w.alloc (.cells Z7p 41)) w.heap.size 41 Z7p := Blk.new w _ _
  have HM := Lib.hid (made_un _ v (h.later hb0))
  obtain ⟨⟨z0, z1, z2, z3, z4, z5, z6⟩, ⟨y0, y1, y2, y3, y4, y5, y6⟩⟩ := Blk.cells7 hk0
  have HB0 := Lib.hid hb0
  have HK0 := Lib.hid hk0
  have hzv : ∀ W : World, (zeroValue 41).run Tryz.prog W = .ok (.agg #[.int .i64 0, .int .i64 0, .int .i64 0, .int .i64 0, .int .i64 0, .slice none 0 0, .slice none 0 0]) W := fun W => by kernel_rfl
  clear hb0 hk0 h
  unfold Z7p at *
  go_enter Tryz.func23, Tryz.ntmps23
  go_wp2_with fail
  refine HM.out.mono ?_
  rintro e w1 ⟨rfl, rfl⟩
  generalize w.alloc (.cells #[.int .i64 0, .int .i64 0, .int .i64 0, .int .i64 0, .int .i64 0, .slice none 0 0, .slice none 0 0] 41) = w0 at *
  go_wp2_with fail
  refine bodyPost_ret (results_row_tmp rfl _ _ w.heap.size 41 #[.int .i64 0, .int .i64 0, .int .i64 0, .int .i64 0, .int .i64 0, .slice none 0 0, .slice none 0 0] (0, 0) _ rfl (Pre.blk7 HK0.out) Tryz.underlying41 rfl Pre.size_prep) rfl ?_
  exact ⟨rfl, HB0.out.trans ((Pre.ch7 w0 w.heap.size _ _ _ _ _ _ _).below (fun k hk e => by omega) HB0.out.size)⟩
theorem slide_un (w : World) (v : Value) (n : Int) (h : UnH w v) : Calls Tryz.prog 19 #[v, .int .i64 n] w fun e w' => e = .returned (.tuple #[]) /\ Below w.heap.size w w' := by
  have HM := Lib.hid (made_un _ v h)
  clear h
  go_enter Tryz.func19, Tryz.ntmps19
  go_wp2_with fail
  refine HM.out.mono ?_
  rintro e w1 ⟨rfl, rfl⟩
  go_wp2_with fail
  refine bodyPost_ret (results_none rfl _ _ _) rfl ?_
  exact ⟨rfl, Below.refl _ _⟩
theorem put_un (w : World) (v : Value) (x : Pd) (r : Pl2) (h : UnH w v) : Calls Tryz.prog 21 #[v, .agg (PC x r)] w fun e w' => e = .returned (.bool false) /\ Below w.heap.size w w' := by
  have hb0 : Below w.heap.size w (w.alloc (.cells (PC x r) 41)) := (Below.refl _ w).alloc (Nat.le_refl _) _
  have HM := Lib.hid (made_un _ v (h.later hb0))
  have HB0 := Lib.hid hb0
  clear hb0 h
  unfold PC at *
  go_enter Tryz.func21, Tryz.ntmps21
  go_wp2_with fail
  refine HM.out.mono ?_
  rintro e w1 ⟨rfl, rfl⟩
  go_wp2_with fail
  go_ret
  exact ⟨rfl, HB0.out⟩
theorem len_un (w : World) (v : Value) (h : UnH w v) : Calls Tryz.prog 28 #[v] w fun e w' => e = .returned (.int .i64 0) /\ Below w.heap.size w w' := by
  have HM := Lib.hid (made_un _ v h)
  clear h
  go_enter Tryz.func28, Tryz.ntmps28
  go_wp2_with fail
  refine HM.out.mono ?_
  rintro e w1 ⟨rfl, rfl⟩
  go_wp2_with fail
  go_ret
  exact ⟨rfl, Below.refl _ _⟩
theorem clone_un (w : World) (v : Value) (h : UnH w v) : Calls Tryz.prog 29 #[v] w fun e w' => e = .returned (.pointer none) /\ Below w.heap.size w w' := by
  have HM := Lib.hid (made_un _ v h)
  clear h
  go_enter Tryz.func29, Tryz.ntmps29
  go_wp2_with fail
  refine HM.out.mono ?_
  rintro e w1 ⟨rfl, rfl⟩
  go_wp2_with fail
  go_ret
  exact ⟨rfl, Below.refl _ _⟩
theorem HN : Ptp.NoneC where
  get := fun W v n h => get_un W v n (nh_un h)
  slide := fun W v n h => slide_un W v n (nh_un h)
  put := fun W v X x r h _ => put_un W v x r (nh_un h)
  all := fun W v h => Pup.all_un W v (nh_un h)
  len := fun W v h => len_un W v (nh_un h)
  clone := fun W v h => clone_un W v (nh_un h)
  noT := fun W S X g f x r _ hp hx => valid_blind W _ _ X f x r (blind_nil W) hp hx
  noL := fun W S X p f x r ht hp hx => valid_blind W _ _ X f x r (blind_empty ht) hp hx
end Go.Proofs.YtmhmnkpaijoaaaaGreat.Puy
