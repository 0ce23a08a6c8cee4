/-
  Layer 8 (request): a batch's form; PutBatch; the document's CheckBatch and PutBatch.
-/
import Derived.Test.YtobphijbhghgmaaGreatP12
import Derived.Test.YtobphijbhghgmaaGreatP07
import Derived.BigQuiet
import Derived.Test.YtobphijbhghgmaaGreatP05
import Derived.StillTailTactics
import Derived.Deep.RegionLaw
import Derived.Test.YtobphijbhghgmaaGreatP10
import Derived.Laws.StructEq
import Derived.Test.YtobphijbhghgmaaGreatP08
namespace Go.Proofs.YtobphijbhghgmaaGreat.Je
set_option linter.unusedSimpArgs false
open Go Go.RowKit Ck Kw Ca Cb Cd Ga Kf Pm Pe Pg Ph Pk Pn Pj Po Qb Lk Jm Ja Jb Jc Jd
attribute [local go_sem ↓] Go.wp_at_zero Go.wp_at_succ
set_option linter.unusedVariables false

/-- A batch's bytes, so far. -/
def bpre (l : List Sd) (i : Nat) : List UInt8 := Cm.enc l.length ++ (l.take i).flatMap dB
theorem bpre_len {l : List Sd} (h : bcheck l = 0) (i : Nat) : (bpre l i).length ≤ 4081 := by
  obtain ⟨h1, h2, _⟩ := bcheck_ok h
  have h3 := flat_dB (l := l.take i) (fun x hx => h2 x (List.mem_of_mem_take hx))
  have h4 := enc_1 (n := l.length) (by omega)
  have h5 : (l.take i).length ≤ l.length := by rw [List.length_take]; omega
  simp only [bpre, List.length_append]
  omega
theorem bpre_step {l : List Sd} {i : Nat} (hi : i < l.length) : bpre l (i + 1) = bpre l i ++ dB l[i] := by
  rw [bpre, bpre, List.take_succ_eq_append_getElem hi, List.flatMap_append, List.append_assoc]
  simp
theorem bpre_all (l : List Sd) : bpre l l.length = braw l := by rw [bpre, List.take_length, braw]
theorem bpre_zero (l : List Sd) : bpre l 0 = Cm.enc l.length := by simp [bpre]
theorem dB_app {x : Sd} (hq : qcheck x.q = 0) (hs : scheck x.s = 0) (b : List UInt8) : b ++ dB x = b ++ Cm.encB (qform x.q) ++ sform x.s := by
  rw [qform_eq hq, sform_eq hs, dB, List.append_assoc]

set_option maxRecDepth 100000 in
set_option maxHeartbeats 4000000 in
theorem lform_any (w : World) (X : Nat → Prop) (A : Option Addr) (c : Nat) (l : List Sd) (h : BI w X (.slice A l.length c) l) (hc : bcheck l = 0) (hr : ∀ x ∈ l, x.q.o.recs.length ≤ 140737488355328) :
    Calls Tryz.prog 109 #[.slice A l.length c] w fun e w' => Made w 5 (braw l) e w' := by
  have HB := Lib.hid h
  have HR := Lib.hid hr
  have HBL := fun i => Lib.hid (bpre_len hc i)
  obtain ⟨h4, hok, _⟩ := bcheck_ok hc
  have HOK := Lib.hid hok
  have hwl := wrap_u64' l.length (by omega)
  have HBA := Lib.hid (bpre_all l)
  have HBZ := Lib.hid (bpre_zero l)
  clear h hc hr hok
  go_enter Tryz.func109, Tryz.ntmps109
  go_wp2_with fail
  refine (putnum_any (fun _ => False) (.slice none 0 0) 0 [] l.length _ (Sl.nil _ _ _) (by omega) (by omega)).mono ?_
  rintro e w1 ⟨v1, rfl, hown1, hb1⟩
  have HO1 : Hid (w1.ownsRow w.heap.size 5 1 v1 (bpre l 0).length (BVs (bpre l 0))) := Lib.hid (by rw [HBZ.out]; exact hown1)
  have HB1 := Lib.hid hb1
  clear hown1 hb1
  go_wp2_with fail
  go_loopw [3, 14] (fun v j wr => ∃ i : Nat, i ≤ l.length ∧ j = .int .i64 i ∧ wr.ownsRow w.heap.size 5 1 v (bpre l i).length (BVs (bpre l i)) ∧ Below w.heap.size w wr) (fun _ j _ => l.length - (intOf j).toNat)
  case atStart => exact ⟨0, Nat.zero_le _, rfl, HO1.out, HB1.out⟩
  case round =>
    obtain ⟨i, hi, rfl, hown, hb⟩ := hrel
    clear HO1 HB1
    by_cases hlt : i < l.length
    · obtain ⟨ad, Ar, cr, rfl, ⟨a0, a1, a2, a3, a4, a5, a6, a7, a8⟩, hls⟩ := (HB.out.after hb).at_ hlt
      have hrl := HR.out _ (List.getElem_mem hlt)
      obtain ⟨ok1, ok2⟩ := HOK.out _ (List.getElem_mem hlt)
      have HST := Lib.hid (bpre_step hlt)
      generalize hx : l[i] = x at *
      have HQL := Lib.hid (qform_len x.q)
      have HSL := Lib.hid (sform_len x.s)
      have HDB := Lib.hid (dB_app ok1 ok2 (bpre l i))
      have HC := Lib.hid (qbytes_any x.q (QV x.q Ar cr) X _ ⟨Ar, cr, rfl, hls.after (op_below wr (.cells (DC x Ar cr) 104))⟩ hrl)
      have hk1 := k1_new hb x Ar cr
      have HOW : Hid ((wr.alloc (.cells (DC x Ar cr) 104)).ownsRow w.heap.size 5 1 _ (bpre l i).length (BVs (bpre l i))) := Lib.hid (hown.alloc _)
      have HBL1 := HBL i
      obtain ⟨Av, cv, rfl⟩ := own_shape hown
      unfold Byt at HC
      rw [ok1] at HC
      clear hls hb hx hown ok1 ok2
      unfold QV QC at HC
      unfold DC at hk1 HC HOW
      generalize bpre l i = bp at *
      go_wp2_with fail
      generalize wr.alloc (.cells #[.int .i64 x.q.client, .int .i64 x.q.time, .int .i64 x.q.o.kind, .string ⟨x.q.o.topic.toArray⟩, .string ⟨x.q.o.group.toArray⟩, .int .i64 x.q.o.off, .slice Ar x.q.o.recs.length cr, .int .i64 x.s.1, .int .i64 x.s.2] 104) = w1 at *
      generalize wr.heap.size = g1 at *
      have HK := Lib.hid hk1
      clear hk1 a0 a1 a2 a3 a4 a5 a6 a7 a8
      refine HC.out.mono ?_
      rintro e w2 ⟨v2, rfl, hsl2, hb2⟩
      obtain ⟨Ax, cx, rfl, -⟩ := id hsl2
      have HK2 := Lib.hid (HK.out.later hb2)
      have HOW2 := Lib.hid (own_below HOW.out hb2)
      have HX2 := Lib.hid hsl2
      clear hsl2 hb2
      go_wp2_with fail
      have HP1 := Lib.hid (putbytes_any (fun _ => False) _ _ _ _ bp (qform x.q) w2.drew (Sl.of_own HOW2.out.drew (fun _ _ _ h => h)) (HX2.out.drew.weaken (fun _ _ h => h.elim)) (by have := HBL1.out; omega) (by have := HBL1.out; have := HQL.out; omega))
      have HP2 : Hid (∀ W v, W.ownsRow w2.heap.size 5 1 v (bp ++ Cm.encB (qform x.q)).length (BVs (bp ++ Cm.encB (qform x.q))) → Calls Tryz.prog 131 #[v, .agg #[.int .i64 x.s.1, .int .i64 x.s.2]] W fun e w' => Made W 5 (bp ++ Cm.encB (qform x.q) ++ sform x.s) e w') := Lib.hid fun W v ho => putsign_any x.s (fun _ => False) v _ _ W (Sl.of_own ho (fun _ _ _ h => h)) (by
        have h1 := HBL1.out; have h2 := HQL.out; have h3 := (Cm.enc_len (qform x.q).length).1
        rw [List.length_append, Cm.encB_len]; omega)
      obtain ⟨-, -, -, -, -, -, -, j7, j8⟩ := HK2.out.one.cells
      have tok1 : True := trivial
      go_region_held3 (fun w' => w'.cell? ⟨g1, 7, none⟩ = some (.int .i64 x.s.1) ∧ w'.cell? ⟨g1, 8, none⟩ = some (.int .i64 x.s.2)) (first | exact ⟨j7, j8⟩ | exact ⟨k7, k8⟩ | exact ⟨q7, q8⟩)
        (first
        | (go_at_call 120; have _t := tok1; clear tok1 _t; refine HP1.out.mono ?_; rintro e w3 ⟨v3, rfl, hown3, hb3⟩; have HK3 := Lib.hid (HK2.out.later (Ga.below_of_drew hb3)); obtain ⟨-, -, -, -, -, -, -, k7, k8⟩ := HK3.out.one.cells; have HO3 : Hid (w3.ownsRow w2.heap.size 5 1 v3 _ _) := Lib.hid hown3; clear hown3 hb3)
        | (go_at_call 131; refine (HP2.out _ _ HO3.out).mono ?_; rintro e w4 ⟨v4, rfl, hown4, hb4⟩; have HK4 := Lib.hid (HK3.out.later hb4); obtain ⟨-, -, -, -, -, -, -, q7, q8⟩ := HK4.out.one.cells; have HO4 := Lib.hid (own_base hown4 HK3.out.below.size); clear hown4 hb4))
      all_goals
        go_wp2_with fail
        go_roundw
        case rel => exact ⟨i + 1, by omega, by go_num, by rw [HST.out, HDB.out]; exact HO4.out, HK4.out.below⟩
        case measure => simp [intOf]; omega
    · have hke : i = l.length := by omega
      subst hke
      have HN : Hid (Made w 5 (braw l) _ wr) := Lib.hid (Made.of_parts (by rw [← HBA.out]; exact hown) hb)
      clear hown hb
      go_wp2_with fail
      go_ret
      exact HN.out

set_option maxRecDepth 100000 in
set_option maxHeartbeats 1000000 in
theorem putbatch_any (l : List Sd) (vl : Value) (X Y : Nat → Prop) (vb : Value) (nb : Nat) (b : List UInt8) (w : World) (h : BI w X vl l) (hr : ∀ x ∈ l, x.q.o.recs.length ≤ 140737488355328) (hl63 : l.length ≤ 140737488355328) (hb : Sl w Y 1 vb nb (BVs b)) (hbl : b.length ≤ 140737488351232) :
    Calls Tryz.prog 90 #[vb, vl] w fun e w' => Made w 5 (b ++ bform l) e w' := by
  obtain ⟨A, c, rfl, -⟩ := h.shape
  have HCK := Lib.hid (cbatch_any w X _ l h hr hl63)
  have HP : Hid (∀ W : World, Below w.heap.size w W → Calls Tryz.prog 108 #[vb, .int .i64 (bcheck l), .func (.func 109) #[.slice A l.length c] #[]] W fun e w' => Made W 5 (b ++ bform l) e w') := Lib.hid fun W hW => by
    by_cases hs : bcheck l = 0
    · rw [hs, bform_eq hs]
      have := braw_len hs
      exact put_list _ _ (by omega) Y vb nb b W (hb.after hW) hbl (Lib.hid (lform_any W X A c l (h.after hW) hs hr))
    · have : bform l = [] := by rw [bform, if_pos hs]
      rw [this, List.append_nil]
      exact put_no _ hs _ Y vb nb b W (hb.after hW) hbl
  clear hb hbl h hr
  generalize bform l = f at *
  go_enter Tryz.func90, Tryz.ntmps90
  go_wp2_with fail
  refine HCK.out.mono ?_
  rintro e w1 ⟨rfl, hb1⟩
  have HB1 := Lib.hid hb1
  clear hb1
  go_wp2_with fail
  refine (HP.out _ HB1.out).mono ?_
  rintro e w2 ⟨v2, rfl, hown2, hb2⟩
  have HO2 := Lib.hid (own_base hown2 HB1.out.size)
  have HB2 := Lib.hid (HB1.out.trans (hb2.mono HB1.out.size))
  clear hown2 hb2
  go_wp2_with fail
  go_ret
  exact ⟨v2, rfl, HO2.out, HB2.out⟩

theorem mom_eq {x y : Sd} (h1 : x.q.client = y.q.client) (h2 : x.q.time = y.q.time) : (mom x == mom y) = true := by rw [mom, mom, pair_beq, h1, h2]; simp
theorem mom_ne1 {x y : Sd} (h1 : x.q.client ≠ y.q.client) : (mom x == mom y) = false := by rw [mom, mom, pair_beq, decide_eq_false h1]; rfl
theorem mom_ne2 {x y : Sd} (h2 : x.q.time ≠ y.q.time) : (mom x == mom y) = false := by rw [mom, mom, pair_beq, decide_eq_false h2, Bool.and_false]

set_option maxRecDepth 100000 in
set_option maxHeartbeats 8000000 in
theorem rcbatch_any (w : World) (X : Nat → Prop) (v : Value) (l : List Sd) (h : BI w X v l) (hr : ∀ x ∈ l, x.q.o.recs.length ≤ 140737488355328) (hl63 : l.length ≤ 140737488355328) :
    Calls Tryz.prog 43 #[v] w fun e w' => e = .returned (.int .i64 (bcheck l)) ∧ Below w.heap.size w w' := by
  obtain ⟨A, c, rfl, -⟩ := h.shape
  by_cases h4 : 4 < l.length
  · have hd : decide (4 < (l.length : Int)) = true := decide_eq_true (by omega)
    have HN : Hid (bcheck l = 3) := Lib.hid (by rw [bcheck, if_pos h4])
    clear h
    go_enter Tryz.func43, Tryz.ntmps43
    go_wp2_with fail
    go_ret
    exact ⟨by rw [HN.out]; rfl, Below.refl _ w⟩
  · have hd : decide (4 < (l.length : Int)) = false := decide_eq_false (by omega)
    have h4' : l.length ≤ 4 := by omega
    have HB := Lib.hid h
    have HR := Lib.hid hr
    have HQ : Hid (bcheck l = if lcheck l ≠ 0 then lcheck l else if twice l then 5 else 0) := Lib.hid (by rw [bcheck, if_neg h4])
    clear h hr h4
    go_enter Tryz.func43, Tryz.ntmps43
    go_wp2_with fail
    go_loopw [3] (fun j wr => ∃ i : Nat, i ≤ l.length ∧ j = .int .i64 i ∧ lcheck (l.drop i) = lcheck l ∧ Below w.heap.size w wr) (fun j _ => l.length - (intOf j).toNat)
    case atStart => exact ⟨0, Nat.zero_le _, rfl, rfl, Below.refl _ w⟩
    case round =>
      obtain ⟨i, hi, rfl, hlc, hb⟩ := hrel
      by_cases hlt : i < l.length
      · rw [lcheck_drop hlt] at hlc
        have hat := (HB.out.after hb).at_ hlt
        obtain ⟨ad, Ar, cr, rfl, ⟨a0, a1, a2, a3, a4, a5, a6, a7, a8⟩, hls⟩ := hat
        have hrl := HR.out _ (List.getElem_mem hlt)
        have HAT := fun W (b : Below w.heap.size w W) => Lib.hid ((HB.out.after b).at_ hlt)
        generalize hx : l[i] = x at *
        have HC := Lib.hid (rcheck_any x.q (QV x.q Ar cr) X wr ⟨Ar, cr, rfl, hls⟩ hrl)
        have HBB := Lib.hid hb
        have HLC := Lib.hid hlc
        have HDQ : Hid (dcheck x = if qcheck x.q ≠ 0 then qcheck x.q else scheck x.s) := Lib.hid rfl
        clear hlc hls hb hx
        unfold QV QC at HC
        go_wp2_with fail
        refine HC.out.mono ?_
        rintro e w2 ⟨he, hb2⟩
        have HB2 := Lib.hid (HBB.out.trans (hb2.mono HBB.out.size))
        clear hb2 a0 a1 a2 a3 a4 a5 a6 a7 a8
        by_cases hq : qcheck x.q = 0
        · rw [hq] at he HDQ
          subst he
          obtain ⟨ad', Ar', cr', hA, ⟨b0, b1, b2, b3, b4, b5, b6, b7, b8⟩, -⟩ := (HAT _ HB2.out).out
          obtain rfl : ad = ad' := Option.some.inj hA
          clear hA hq b0 b1 b2 b3 b4 b5 b6
          have HCS := Lib.hid (rcsign_any x.s w2)
          unfold GV at HCS
          go_wp2_with fail
          refine HCS.out.mono ?_
          rintro e w3 ⟨he, hb3⟩
          have HB3 := Lib.hid (HB2.out.trans (hb3.mono HB2.out.size))
          clear hb3
          by_cases hs : scheck x.s = 0
          · rw [hs] at he HDQ
            subst he
            have HN := Lib.hid (show lcheck (l.drop (i + 1)) = lcheck l by rw [← HLC.out, if_neg (by rw [HDQ.out]; simp)])
            clear hs
            go_wp2_with fail
            go_roundw
            case rel => exact ⟨i + 1, by omega, by go_num, HN.out, HB3.out⟩
            case measure => simp [intOf]; omega
          · subst he
            have HD : Hid (dcheck x = scheck x.s) := Lib.hid (by rw [HDQ.out]; simp)
            have HN := Lib.hid (show bcheck l = scheck x.s by
              have hd0 : dcheck x ≠ 0 := by rw [HD.out]; exact hs
              have e : dcheck x = lcheck l := by have := HLC.out; rwa [if_pos hd0] at this
              rw [HQ.out, ← e, if_pos hd0, HD.out])
            have hne : (scheck x.s != 0) = true := by simpa using hs
            have hne2 : (scheck x.s == 0) = false := by simpa using hs
            clear hs
            go_wp2_with fail
            go_ret
            exact ⟨by rw [HN.out]; rfl, HB3.out⟩
        · subst he
          have HD : Hid (dcheck x = qcheck x.q) := Lib.hid (by rw [HDQ.out, if_pos hq])
          have HN := Lib.hid (show bcheck l = qcheck x.q by
            have hd0 : dcheck x ≠ 0 := by rw [HD.out]; exact hq
            have e : dcheck x = lcheck l := by have := HLC.out; rwa [if_pos hd0] at this
            rw [HQ.out, ← e, if_pos hd0, HD.out])
          have hne : (qcheck x.q != 0) = true := by simpa using hq
          have hne2 : (qcheck x.q == 0) = false := by simpa using hq
          clear hq
          go_wp2_with fail
          go_ret
          exact ⟨by rw [HN.out]; rfl, HB2.out⟩
      · have hz : l.drop i = [] := List.drop_eq_nil_iff.2 (by omega)
        rw [hz] at hlc
        have HN : Hid (bcheck l = if twice l then 5 else 0) := Lib.hid (by rw [HQ.out, ← hlc]; rfl)
        have HBB := Lib.hid hb
        have HT : Hid (twI (l.take 0) (l.drop 0) = twice l) := Lib.hid rfl
        clear hlc hz hb HQ
        go_wp2_with fail
        go_loopw [6] (fun j wr => ∃ i : Nat, i ≤ l.length ∧ j = .int .i64 i ∧ twI (l.take i) (l.drop i) = twice l ∧ Below w.heap.size w wr) (fun j _ => l.length - (intOf j).toNat)
        case atStart => exact ⟨0, Nat.zero_le _, rfl, HT.out, HBB.out⟩
        case round =>
          obtain ⟨i, hi, rfl, htw, hb⟩ := hrel
          clear HT HBB
          by_cases hlt : i < l.length
          · rw [twI_step hlt] at htw
            obtain ⟨ad, Ar, cr, hA, ⟨a0, a1, -⟩, -⟩ := (HB.out.after hb).at_ hlt
            subst hA
            have HAT := fun W (b : Below w.heap.size w W) => Lib.hid ((HB.out.after b).at_ hlt)
            have HBB := Lib.hid hb
            have HTW := Lib.hid htw
            have HM0 : Hid (hasM (l.take 0) l[i] = false) := Lib.hid rfl
            clear htw hb a0 a1
            have hip : (0 : Int) ≤ (i : Int) := by omega
            have hil : (i : Int) < (l.length : Int) := by omega
            generalize hx : l[i] = x at *
            clear hx
            go_wp2_with fail
            go_loopw [7] (fun j wr => ∃ k : Nat, k ≤ i ∧ j = .int .i64 k ∧ hasM (l.take k) x = false ∧ Below w.heap.size w wr) (fun j _ => i - (intOf j).toNat)
            case atStart => exact ⟨0, Nat.zero_le _, rfl, HM0.out, HBB.out⟩
            case round =>
              obtain ⟨k, hk, rfl, hm, hb⟩ := hrel
              clear HM0 HBB
              by_cases hlt2 : k < i
              · have hl2 : k < l.length := by omega
                obtain ⟨ad', Ar', cr', hA, ⟨a0, a1, -⟩, -⟩ := (HAT _ hb).out
                obtain rfl : ad = ad' := Option.some.inj hA
                obtain ⟨ad', Ar2, cr2, hA, ⟨b0, b1, -⟩, -⟩ := (HB.out.after hb).at_ hl2
                obtain rfl : ad = ad' := Option.some.inj hA
                have hst := hasM_take (x := x) hl2
                have hof : (mom x == mom l[k]) = true → hasM (l.take i) x = true := fun e => hasM_of hlt2 hl2 e
                generalize hy : l[k] = y at *
                have HHM : Hid (hasM (l.take (k + 1)) x = (mom x == mom y)) := Lib.hid (by rw [hst, hm, Bool.false_or])
                have HOF := Lib.hid hof
                have HBB := Lib.hid hb
                clear hst hm hA hy hof hb
                by_cases h1 : x.q.client = y.q.client
                · have e1 : (x.q.client == y.q.client) = true := by rw [h1]; exact beq_self_eq_true _
                  by_cases h2 : x.q.time = y.q.time
                  · have e2 : (x.q.time == y.q.time) = true := by rw [h2]; exact beq_self_eq_true _
                    have HME := Lib.hid (mom_eq h1 h2)
                    clear h1 h2
                    go_wp2
                    go_quiet (fail)
                    go_wp2
                    go_ret
                    exact ⟨by rw [HN.out, ← HTW.out, HOF.out HME.out]; rfl, below_drewN HBB.out _⟩
                  · have e2 : (x.q.time == y.q.time) = false := beq_eq_false_iff_ne.2 h2
                    have HME := Lib.hid (mom_ne2 (x := x) h2)
                    clear h1 h2
                    go_wp2
                    go_quiet (fail)
                    go_wp2
                    go_roundw
                    case rel => exact ⟨k + 1, by omega, by go_num, by rw [HHM.out, HME.out], below_drewN HBB.out _⟩
                    case measure => simp [intOf]; omega
                · have e1 : (x.q.client == y.q.client) = false := beq_eq_false_iff_ne.2 h1
                  have HME := Lib.hid (mom_ne1 (x := x) h1)
                  clear h1
                  go_wp2
                  go_quiet (fail)
                  go_wp2
                  go_roundw
                  case rel => exact ⟨k + 1, by omega, by go_num, by rw [HHM.out, HME.out], below_drewN HBB.out _⟩
                  case measure => simp [intOf]; omega
              · have hke : k = i := by omega
                subst hke
                have HNM := Lib.hid hm
                have HBB := Lib.hid hb
                clear hm hb
                go_wp2_with fail
                go_roundw
                case rel => exact ⟨k + 1, by omega, by go_num, by rw [← HTW.out, HNM.out]; rfl, HBB.out⟩
                case measure => simp [intOf]; omega
          · have hz : l.drop i = [] := List.drop_eq_nil_iff.2 (by omega)
            rw [hz] at htw
            have HN2 : Hid (bcheck l = 0) := Lib.hid (by rw [HN.out, ← htw]; rfl)
            have HBB := Lib.hid hb
            clear htw hz hb
            go_wp2_with fail
            go_ret
            exact ⟨by rw [HN2.out]; rfl, HBB.out⟩

end Go.Proofs.YtobphijbhghgmaaGreat.Je

/-
  Contract of the program's ledger: Sign.
-/
namespace Go.Proofs.YtobphijbhghgmaaGreat.Lc
set_option linter.unusedSimpArgs false
set_option linter.unusedVariables false
set_option maxRecDepth 100000
open Go Go.RowKit Ck Im Kw Ik Ia Ib Ic Lk
attribute [local go_sem ↓] Go.wp_at_zero Go.wp_at_succ

/-- The world when Signed is asked: the result's cells, and the signature's. -/
def W1 (w : World) (x y : Int) : World := (w.alloc (.cells #[.int .i64 0, .int .i64 0] 102)).alloc (.cells #[.int .i64 x, .int .i64 y] 102)
end Go.Proofs.YtobphijbhghgmaaGreat.Lc

/-
  Layer 8 (request): a table beside its ledger; the contracts of madeTable, madeLedger, clone.
-/
namespace Go.Proofs.YtobphijbhghgmaaGreat.Jf
set_option linter.unusedSimpArgs false
open Go Go.RowKit Ck Kw Ga Kf Pm Pe Pg Pk Py Qb Qg Ik Lk Jm Ja Jb Jd
attribute [local go_sem ↓] Go.wp_at_zero Go.wp_at_succ
set_option linter.unusedVariables false
set_option maxRecDepth 100000

section
variable {w w' : World} {S T : Nat → Prop} {p g : Nat} {L L' : List (List UInt8)} {G G' : List Sg}
end

set_option maxHeartbeats 1000000 in
theorem madet_any (w : World) (S : Nat → Prop) (p : Nat) (L : List (List UInt8)) (h : Tb w S p L) :
    Calls Tryz.prog 89 #[.pointer (some ⟨p, 0, none⟩)] w fun e w' => e = .returned (.bool true) ∧ Below w.heap.size w w' := by
  have HL := Lib.hid (Ia.len_yes w S p L h)
  have HT := Lib.hid (Ig.tclone_any w S p L h)
  clear h
  generalize L.length = n at *
  by_cases h0 : 0 < n
  · have hd : decide (0 < (n : Int)) = true := decide_eq_true (by omega)
    have hd2 : decide (0 < n) = true := decide_eq_true h0
    clear h0
    go_enter Tryz.func89, Tryz.ntmps89
    go_wp2_with fail
    refine HL.out.mono ?_
    rintro e w1 ⟨rfl, rfl⟩
    go_wp2_with fail
    go_ret
    exact ⟨rfl, Below.refl _ _⟩
  · have hd : decide (0 < (n : Int)) = false := decide_eq_false (by omega)
    have hd2 : decide (0 < n) = false := decide_eq_false h0
    clear h0
    go_enter Tryz.func89, Tryz.ntmps89
    go_wp2_with fail
    refine HL.out.mono ?_
    rintro e w1 ⟨rfl, rfl⟩
    go_wp2_with fail
    refine HT.out.mono ?_
    rintro e w2 ⟨p', rfl, -, hb⟩
    have HB := Lib.hid hb
    clear hb
    go_wp2_with fail
    go_ret
    exact ⟨rfl, HB.out⟩
/-- The cells of no request, of no signed one. -/
def Z7 : Array Value := #[.int .i64 0, .int .i64 0, .int .i64 0, .string ⟨#[]⟩, .string ⟨#[]⟩, .int .i64 0, .slice none 0 0]
def Z9 : Array Value := #[.int .i64 0, .int .i64 0, .int .i64 0, .string ⟨#[]⟩, .string ⟨#[]⟩, .int .i64 0, .slice none 0 0, .int .i64 0, .int .i64 0]
/-- A request's clone. -/
def ClonedQ (w : World) (q : Q) (e : Ending) (w' : World) : Prop := ∃ A c, e = .returned (QV q A c) ∧ Ls w' (fun k => k < w.heap.size) (.slice A q.o.recs.length c) q.o.recs ∧ Below w.heap.size w w'
theorem fin {w w2 w3 : World} {q : Q} {A : Option Addr} {c : Nat} (h : Ls w2 (fun k => k < w.heap.size + 2) (.slice A q.o.recs.length c) q.o.recs) (b : Below w.heap.size w w2) (hc : Ch (fun k => w.heap.size ≤ k ∧ k < w.heap.size + 2) w2 w3) :
    ClonedQ w q (.returned (QV q A c)) w3 :=
  ⟨A, c, rfl, (h.ch hc (fun k _ hk => hk.2)).weaken (fun k _ hk => by omega), b.trans (hc.below (fun k hk h => by omega) b.size)⟩
end Go.Proofs.YtobphijbhghgmaaGreat.Jf

/-
  Contracts of the document's ledger: Signed; slices.Equal of signatures.
-/
namespace Go.Proofs.YtobphijbhghgmaaGreat.Ld
set_option linter.unusedSimpArgs false
set_option linter.unusedVariables false
set_option maxRecDepth 100000
open Go Go.RowKit Ck Im Kw Ik Ia Ib Ic Lk Lc

/-- Are two signatures the same? (A word of its own.) -/
def sgB (s t : Sg) : Bool := decide (s = t)
theorem sgB_yes (s : Sg) : sgB s s = true := by simp [sgB]
theorem sgB_no {s t : Sg} (h : s ≠ t) : sgB s t = false := by simp [sgB, h]
theorem guard_sign : Tryz.prog.eqGuardType Tryz.prog.depth 102 = false := by kernel_rfl
theorem stood_sign : Tryz.prog.stoodInHeld 102 = false := by kernel_rfl
theorem fields_sign : Tryz.prog.underlying 102 = some (.struct (Tryz.prog.fieldsOf 102)) := by kernel_rfl
theorem run_equalIn_sign (W : World) (d : Nat) (a b c e : Int) : (Op.equalIn (d + 1 + 1) 102 (.agg #[.int .i64 a, .int .i64 b]) (.agg #[.int .i64 c, .int .i64 e])).run Tryz.prog W = .ok (sgB (a, b) (c, e)) W := by
  rw [run_equalIn_struct W (d + 1) 102 _ _ fields_sign stood_sign]
  have hf : (Tryz.prog.fieldsOf 102).toList = [{ name := "Key", type := 3, offset := 0, embedded := false, tag := "", pkgPath := "", byteOffset := 0 }, { name := "Digest", type := 22, offset := 1, embedded := false, tag := "", pkgPath := "", byteOffset := 8 }] := by kernel_rfl
  rw [hf]
  have h1 := fun (x y : Int) (W : World) => run_equalIn_int (P := Tryz.prog) W d 3 .i64 .i64 x y Tryz.underlying3
  have h2 := fun (x y : Int) (W : World) => run_equalIn_int (P := Tryz.prog) W d 22 .i64 .i64 x y Tryz.underlying22
  have p1 : ∀ (u v : Value) (W : World), (part 3 #[u, v] 0).run Tryz.prog W = .ok u W := fun u v W => by simp [part, isAgg, run_underlying Tryz.underlying3]
  have p2 : ∀ (u v : Value) (W : World), (part 22 #[u, v] 1).run Tryz.prog W = .ok v W := fun u v W => by simp [part, isAgg, run_underlying Tryz.underlying22]
  by_cases hac : a = c
  · by_cases hbe : b = e
    · subst hac; subst hbe
      simp [Op.eqFields, p1, p2, h1, h2, Result.andThen, sgB]
    · subst hac
      simp [Op.eqFields, p1, p2, h1, h2, Result.andThen, sgB, hbe]
  · simp [Op.eqFields, p1, h1, Result.andThen, sgB, hac]
theorem run_neq_sign (W : World) (a b c e : Int) : (binOp .neq 102 (.agg #[.int .i64 a, .int .i64 b]) (.agg #[.int .i64 c, .int .i64 e])).run Tryz.prog W = .ok (.bool (!sgB (a, b) (c, e))) W := by
  rw [run_neq_struct, show (10000 : Nat) = 9998 + 1 + 1 from rfl, run_equalIn_sign]
  rfl

end Go.Proofs.YtobphijbhghgmaaGreat.Ld

/-
  Layer 8 (request): the contracts of Seal and Valid.
-/
namespace Go.Proofs.YtobphijbhghgmaaGreat.Jg
set_option linter.unusedSimpArgs false
open Go Go.RowKit Ck Kw Ga Kf Pm Pe Pg Pk Py Qb Ik Lk Ld Jm Ja Jb Jc Jd Jf
open Im (num isIn add sum)
attribute [local go_sem ↓] Go.wp_at_zero Go.wp_at_succ
set_option linter.unusedVariables false
set_option maxRecDepth 100000

/-- What Seal answers and leaves. -/
def sgOf (L : List (List UInt8)) (q : Q) : Sg := (key q.client, (sum L (qraw q) : Int))
def sealR (L : List (List UInt8)) (q : Q) : Sd × Int := if qcheck q ≠ 0 then (Sd.zero, qcheck q) else if code (sgOf L q) ≠ 0 then (Sd.zero, code (sgOf L q)) else (⟨q, sgOf L q⟩, 0)
def sealT (L : List (List UInt8)) (q : Q) : List (List UInt8) := if qcheck q ≠ 0 then L else add L (qraw q)
def sealG (L : List (List UInt8)) (G : List Sg) (q : Q) : List Sg := if qcheck q ≠ 0 then G else pay G (sgOf L q)
theorem sealR_bad {L : List (List UInt8)} {q : Q} (h : qcheck q ≠ 0) : sealR L q = (Sd.zero, qcheck q) := by rw [sealR, if_pos h]
theorem sealR_code {L : List (List UInt8)} {q : Q} (h : qcheck q = 0) (hc : code (sgOf L q) ≠ 0) : sealR L q = (Sd.zero, code (sgOf L q)) := by rw [sealR, if_neg (by omega), if_pos hc]
theorem sealR_ok {L : List (List UInt8)} {q : Q} (h : qcheck q = 0) (hc : code (sgOf L q) = 0) : sealR L q = (⟨q, sgOf L q⟩, 0) := by rw [sealR, if_neg (by omega), if_neg (by omega)]
theorem sealT_bad {L : List (List UInt8)} {q : Q} (h : qcheck q ≠ 0) : sealT L q = L := by rw [sealT, if_pos h]
theorem sealT_ok {L : List (List UInt8)} {q : Q} (h : qcheck q = 0) : sealT L q = add L (qraw q) := by rw [sealT, if_neg (by omega)]
theorem sealG_bad {L : List (List UInt8)} {G : List Sg} {q : Q} (h : qcheck q ≠ 0) : sealG L G q = G := by rw [sealG, if_pos h]
theorem sealG_ok {L : List (List UInt8)} {G : List Sg} {q : Q} (h : qcheck q = 0) : sealG L G q = pay G (sgOf L q) := by rw [sealG, if_neg (by omega)]
/-- Seal's own blocks. -/
structure SS (S : Nat → Prop) (w0 : World) (q : Q) (A : Option Addr) (c : Nat) (W : World) : Prop where
  ch : Ch S w0 W
  two : w0.heap.size + 2 ≤ W.heap.size
  req : QB W w0.heap.size q A c
  res : Blk W (w0.heap.size + 1) 104 Z9
theorem SS.step {S X : Nat → Prop} {w0 W W' : World} {q : Q} {A : Option Addr} {c : Nat} (h : SS S w0 q A c W) (k : Ch X W W') (hX : ∀ k, k < W.heap.size → X k → S k ∧ k < w0.heap.size) : SS S w0 q A c W' :=
  ⟨h.ch.trans k (fun i hi hx => (hX i (Nat.lt_of_lt_of_le hi h.ch.size) hx).1), Nat.le_trans h.two k.size, Blk.ch h.req k (fun hx => by have := (hX _ (Blk.lt h.req) hx).2; omega), Blk.ch h.res k (fun hx => by have := (hX _ (Blk.lt h.res) hx).2; omega)⟩
theorem SS.later {S : Nat → Prop} {w0 W W' : World} {q : Q} {A : Option Addr} {c : Nat} (h : SS S w0 q A c W) (b : Below W.heap.size W W') : SS S w0 q A c W' := h.step (Ch.of_below (S := fun _ => False) b (Nat.le_refl _)) (fun _ _ h => h.elim)
end Go.Proofs.YtobphijbhghgmaaGreat.Jg

/-
  Layer 8 (request): mathematics of what was sealed: who is valid, and the numbers of batches. No program is named here.
-/
namespace Go.Proofs.YtobphijbhghgmaaGreat.Jn
set_option linter.unusedSimpArgs false
open Im (num isIn add sum)
open Lk Ld Jm Jg
set_option linter.unusedVariables false

theorem num_add {L : List (List UInt8)} {b s : List UInt8} (h : num L s ≠ 0) : num (add L b) s = num L s := by
  unfold Im.add
  split
  · rfl
  · split
    · rfl
    · exact Im.num_left L [b] s h
theorem sum_num {L : List (List UInt8)} {b : List UInt8} (h : sum L b ≠ 0) : num (add L b) b = sum L b ∧ num (add L b) b ≠ 0 := by
  unfold Im.sum at h ⊢
  unfold Im.add
  by_cases h1 : num L b ≠ 0
  · rw [if_pos h1, if_pos h1]; exact ⟨rfl, h1⟩
  · rw [if_neg h1] at h ⊢
    rw [if_neg h1]
    by_cases h2 : 1048576 ≤ L.length
    · rw [if_pos h2] at h; exact absurd rfl h
    · rw [if_neg h2] at h ⊢
      rw [if_neg h2]
      have := Im.num_snoc L b b
      rw [if_neg h1, if_pos rfl] at this
      rw [this]
      exact ⟨rfl, by omega⟩
theorem add_full {L : List (List UInt8)} {b : List UInt8} (h : sum L b = 0) : add L b = L := by
  unfold Im.sum at h
  unfold Im.add
  by_cases h1 : num L b ≠ 0
  · rw [if_pos h1]
  · rw [if_neg h1] at h ⊢
    by_cases h2 : 1048576 ≤ L.length
    · rw [if_pos h2]
    · rw [if_neg h2] at h; omega
theorem code_ok {L : List (List UInt8)} {q : Q} (h : qcheck q = 0) : code (sgOf L q) = 0 ↔ sum L (qraw q) ≠ 0 := by
  have h1 := (qcheck_ok h).1
  have h2 := Ja.key_pos ((isC_iff q.client).2 h1)
  unfold code sgOf
  simp only
  rw [h2, if_neg (by omega)]
  by_cases h0 : sum L (qraw q) = 0
  · rw [h0, if_pos (by simp)]; simp
  · rw [if_neg (by omega)]; simp [h0]
/-- These, and just these, were sealed. -/
structure Inv (L : List (List UInt8)) (G : List Sg) (R : List Sd) : Prop where
  good : ∀ d ∈ R, qcheck d.q = 0 ∧ d.s = (key d.q.client, (num L (qraw d.q) : Int)) ∧ num L (qraw d.q) ≠ 0 ∧ d.s ∈ G
  just : ∀ s ∈ G, ∃ d ∈ R, d.s = s
/-- What is sealed with q. -/
def sealS (L : List (List UInt8)) (q : Q) (R : List Sd) : List Sd := if (sealR L q).2 = 0 then R ++ [(sealR L q).1] else R
theorem Inv.step {L : List (List UInt8)} {G : List Sg} {R : List Sd} (h : Inv L G R) (q : Q) : Inv (sealT L q) (sealG L G q) (sealS L q R) := by
  by_cases hq : qcheck q = 0
  · rw [sealT_ok hq, sealG_ok hq]
    by_cases hc : code (sgOf L q) = 0
    · have hs := (code_ok hq).1 hc
      obtain ⟨n1, n2⟩ := sum_num hs
      have hR : sealS L q R = R ++ [⟨q, sgOf L q⟩] := by rw [sealS, sealR_ok hq hc]; rfl
      have hp : pay G (sgOf L q) = if sgOf L q ∈ G then G else G ++ [sgOf L q] := by rw [pay, if_pos hc]
      have hmem : ∀ s, s ∈ pay G (sgOf L q) ↔ s ∈ G ∨ s = sgOf L q := fun s => by
        rw [hp]
        split
        · rename_i hin
          exact ⟨.inl, fun h => h.elim id (fun e => by rw [e]; exact hin)⟩
        · simp
      rw [hR]
      refine ⟨fun d hd => ?_, fun s hs2 => ?_⟩
      · rcases List.mem_append.1 hd with hd | hd
        · obtain ⟨g1, g2, g3, g4⟩ := h.good d hd
          rw [num_add g3]
          exact ⟨g1, g2, g3, (hmem _).2 (.inl g4)⟩
        · obtain rfl : d = ⟨q, sgOf L q⟩ := by simpa using hd
          refine ⟨hq, ?_, n2, (hmem _).2 (.inr rfl)⟩
          simp only
          rw [n1]
          rfl
      · rcases (hmem s).1 hs2 with hs2 | rfl
        · obtain ⟨d, hd, e⟩ := h.just s hs2
          exact ⟨d, List.mem_append_left _ hd, e⟩
        · exact ⟨⟨q, sgOf L q⟩, List.mem_append_right _ (by simp), rfl⟩
    · have hs : sum L (qraw q) = 0 := by
        by_cases h0 : sum L (qraw q) = 0
        · exact h0
        · exact absurd ((code_ok hq).2 h0) hc
      have hR : sealS L q R = R := by rw [sealS, sealR_code hq hc, if_neg (by simpa using hc)]
      have hp : pay G (sgOf L q) = G := by rw [pay, if_neg hc]
      rw [add_full hs, hR, hp]
      exact h
  · have hR : sealS L q R = R := by rw [sealS, sealR_bad hq, if_neg (by simpa using hq)]
    rw [sealT_bad hq, sealG_bad hq, hR]
    exact h
/-- A batch's number. -/
def digR (L : List (List UInt8)) (l : List Sd) : Int × Int := if bcheck l ≠ 0 then (0, bcheck l) else if sum L (braw l) = 0 then (0, 6) else ((sum L (braw l) : Int), 0)
def digT (L : List (List UInt8)) (l : List Sd) : List (List UInt8) := if bcheck l ≠ 0 then L else add L (braw l)
theorem digR_bad {L : List (List UInt8)} {l : List Sd} (h : bcheck l ≠ 0) : digR L l = (0, bcheck l) := by rw [digR, if_pos h]
theorem digT_bad {L : List (List UInt8)} {l : List Sd} (h : bcheck l ≠ 0) : digT L l = L := by rw [digT, if_pos h]
theorem digR_full {L : List (List UInt8)} {l : List Sd} (h : bcheck l = 0) (h0 : sum L (braw l) = 0) : digR L l = (0, 6) := by rw [digR, if_neg (by omega), if_pos h0]
theorem digR_ok {L : List (List UInt8)} {l : List Sd} (h : bcheck l = 0) (h0 : sum L (braw l) ≠ 0) : digR L l = ((sum L (braw l) : Int), 0) := by rw [digR, if_neg (by omega), if_neg h0]
theorem digT_ok {L : List (List UInt8)} {l : List Sd} (h : bcheck l = 0) : digT L l = add L (braw l) := by rw [digT, if_neg (by omega)]
end Go.Proofs.YtobphijbhghgmaaGreat.Jn

/-
  Plain mathematics of layer 5 (merkle): splits, digests over leaves in a table of texts, proofs and what they come to; complete; sound; unlike lists, unlike digests. No program is named here.
-/
namespace Go.Proofs.YtobphijbhghgmaaGreat.Mm
set_option linter.unusedSimpArgs false
set_option linter.unusedVariables false
open Im

/-- How many of n leaves stand in the first part. -/
def split (n : Nat) : Nat := if n < 2 then 0 else 2 ^ Nat.log2 (n - 1)
theorem split_spec {n : Nat} (h : 2 ≤ n) : 1 ≤ split n ∧ split n < n ∧ n ≤ 2 * split n := by
  unfold split
  rw [if_neg (by omega)]
  have h1 := Nat.log2_self_le (n := n - 1) (by omega)
  have h2 := Nat.lt_log2_self (n := n - 1)
  have h3 : 2 ^ ((n - 1).log2 + 1) = 2 ^ (n - 1).log2 * 2 := Nat.pow_succ 2 _
  have h4 : 1 ≤ 2 ^ (n - 1).log2 := Nat.one_le_two_pow
  omega

def leafB (b : Tx) : Tx := 0 :: b
def nodeB (a b : Int) : Tx := 1 :: (Cm.enc a.toNat ++ Cm.enc b.toNat)
def noneB : Tx := [2]

/-- The digest over leaves, and the table behind it. -/
def rootF : Nat → List Tx → List Tx → Nat × List Tx
  | 0, L, _ => (0, L)
  | f + 1, L, l =>
    if l.length = 0 then (sum L noneB, add L noneB)
    else if l.length = 1 then (sum L (leafB (l.headD [])), add L (leafB (l.headD [])))
    else
      (sum (rootF f (rootF f L (l.take (split l.length))).2 (l.drop (split l.length))).2
          (nodeB (rootF f L (l.take (split l.length))).1 (rootF f (rootF f L (l.take (split l.length))).2 (l.drop (split l.length))).1),
        add (rootF f (rootF f L (l.take (split l.length))).2 (l.drop (split l.length))).2
          (nodeB (rootF f L (l.take (split l.length))).1 (rootF f (rootF f L (l.take (split l.length))).2 (l.drop (split l.length))).1))
def root (L l : List Tx) : Nat × List Tx := rootF (l.length + 1) L l

theorem rootF_eq : ∀ (f g : Nat) (L l : List Tx), l.length < f → l.length < g → rootF f L l = rootF g L l
  | 0, _, _, _, h, _ => by omega
  | _ + 1, 0, _, _, _, h => by omega
  | f + 1, g + 1, L, l, hf, hg => by
    by_cases h0 : l.length = 0
    · simp only [rootF, if_pos h0]
    · by_cases h1 : l.length = 1
      · simp only [rootF, if_neg h0, if_pos h1]
      · obtain ⟨s1, s2, s3⟩ := split_spec (n := l.length) (by omega)
        have e1 : ∀ K, rootF f K (l.take (split l.length)) = rootF g K (l.take (split l.length)) := fun K =>
          rootF_eq f g K _ (by rw [List.length_take]; omega) (by rw [List.length_take]; omega)
        have e2 : ∀ K, rootF f K (l.drop (split l.length)) = rootF g K (l.drop (split l.length)) := fun K =>
          rootF_eq f g K _ (by rw [List.length_drop]; omega) (by rw [List.length_drop]; omega)
        simp only [rootF, if_neg h0, if_neg h1, e1, e2]
theorem rootF_root {f : Nat} {L l : List Tx} (h : l.length < f) : rootF f L l = root L l := rootF_eq f _ L l h (by omega)
theorem root_nil (L : List Tx) : root L [] = (sum L noneB, add L noneB) := rfl
theorem root_one (L : List Tx) {l : List Tx} (h : l.length = 1) : root L l = (sum L (leafB (l.headD [])), add L (leafB (l.headD []))) := by
  unfold root rootF
  rw [if_neg (by omega), if_pos h]
/-- Of more: of the first part, of the other one, and of both. -/
theorem root_more (L : List Tx) {l : List Tx} (h : 2 ≤ l.length) : root L l =
    (sum (root (root L (l.take (split l.length))).2 (l.drop (split l.length))).2
        (nodeB (root L (l.take (split l.length))).1 (root (root L (l.take (split l.length))).2 (l.drop (split l.length))).1),
      add (root (root L (l.take (split l.length))).2 (l.drop (split l.length))).2
        (nodeB (root L (l.take (split l.length))).1 (root (root L (l.take (split l.length))).2 (l.drop (split l.length))).1)) := by
  obtain ⟨s1, s2, s3⟩ := split_spec h
  have e1 : ∀ K, rootF l.length K (l.take (split l.length)) = root K (l.take (split l.length)) := fun K => rootF_root (by rw [List.length_take]; omega)
  have e2 : ∀ K, rootF l.length K (l.drop (split l.length)) = root K (l.drop (split l.length)) := fun K => rootF_root (by rw [List.length_drop]; omega)
  conv => lhs; unfold root rootF
  rw [if_neg (by omega), if_neg (by omega)]
  simp only [e1, e2]

/-- How many digests a proof has. -/
def lenF : Nat → Nat → Nat → Nat
  | 0, _, _ => 0
  | f + 1, i, n => if n ≤ 1 then 0 else if i < split n then lenF f i (split n) + 1 else lenF f (i - split n) (n - split n) + 1
def len (i n : Nat) : Nat := lenF (n + 1) i n
/-- The number that a text has already. -/
def look (L : List Tx) (s : Tx) : Option Nat := if num L s = 0 then none else some (num L s)
theorem look_some {L : List Tx} {s : Tx} {d : Nat} : look L s = some d ↔ num L s = d ∧ d ≠ 0 := by
  unfold look
  split
  · rename_i h
    constructor
    · intro e; cases e
    · rintro ⟨rfl, h2⟩; exact absurd h h2
  · rename_i h
    constructor
    · intro e; injection e with e; subst e; exact ⟨rfl, h⟩
    · rintro ⟨rfl, h2⟩; rfl
/-- The digest to which a proof comes; none: the table does not know one. -/
def comesF : Nat → List Tx → Tx → Nat → Nat → List Int → Option Nat
  | 0, _, _, _, _, _ => none
  | f + 1, L, b, i, n, p =>
    if n ≤ 1 then look L (leafB b)
    else if i < split n then (comesF f L b i (split n) (p.take (p.length - 1))).bind fun d => look L (nodeB d (p.getD (p.length - 1) 0))
    else (comesF f L b (i - split n) (n - split n) (p.take (p.length - 1))).bind fun d => look L (nodeB (p.getD (p.length - 1) 0) d)
def comes (L : List Tx) (b : Tx) (i n : Nat) (p : List Int) : Option Nat := comesF (n + 1) L b i n p
theorem comesF_eq : ∀ (f g : Nat) (L : List Tx) (b : Tx) (i n : Nat) (p : List Int), n < f → n < g → comesF f L b i n p = comesF g L b i n p
  | 0, _, _, _, _, _, _, h, _ => by omega
  | _ + 1, 0, _, _, _, _, _, _, h => by omega
  | f + 1, g + 1, L, b, i, n, p, hf, hg => by
    by_cases h0 : n ≤ 1
    · simp only [comesF, if_pos h0]
    · obtain ⟨s1, s2, s3⟩ := split_spec (n := n) (by omega)
      simp only [comesF, if_neg h0, comesF_eq f g L b i (split n) _ (by omega) (by omega), comesF_eq f g L b (i - split n) (n - split n) _ (by omega) (by omega)]
theorem comes_one (L : List Tx) (b : Tx) {i n : Nat} (p : List Int) (h : n ≤ 1) : comes L b i n p = look L (leafB b) := by
  unfold comes comesF
  rw [if_pos h]
theorem comes_left (L : List Tx) (b : Tx) {i n : Nat} (p : List Int) (h : 2 ≤ n) (hi : i < split n) :
    comes L b i n p = (comes L b i (split n) (p.take (p.length - 1))).bind fun d => look L (nodeB d (p.getD (p.length - 1) 0)) := by
  obtain ⟨s1, s2, s3⟩ := split_spec h
  conv => lhs; unfold comes comesF
  rw [if_neg (by omega), if_pos hi, comesF_eq n (split n + 1) L b i (split n) _ (by omega) (by omega)]
  rfl
theorem comes_right (L : List Tx) (b : Tx) {i n : Nat} (p : List Int) (h : 2 ≤ n) (hi : ¬ i < split n) :
    comes L b i n p = (comes L b (i - split n) (n - split n) (p.take (p.length - 1))).bind fun d => look L (nodeB (p.getD (p.length - 1) 0) d) := by
  obtain ⟨s1, s2, s3⟩ := split_spec h
  conv => lhs; unfold comes comesF
  rw [if_neg (by omega), if_neg hi, comesF_eq n (n - split n + 1) L b (i - split n) (n - split n) _ (by omega) (by omega)]
  rfl
/-- The table knows the digest over these leaves, and over all parts of them. -/
def hasF : Nat → List Tx → List Tx → Nat → Prop
  | 0, _, _, _ => False
  | f + 1, L, l, d =>
    if l.length = 0 then look L noneB = some d
    else if l.length = 1 then look L (leafB (l.headD [])) = some d
    else ∃ a b, hasF f L (l.take (split l.length)) a ∧ hasF f L (l.drop (split l.length)) b ∧ look L (nodeB (a : Nat) (b : Nat)) = some d
def Has (L l : List Tx) (d : Nat) : Prop := hasF (l.length + 1) L l d
theorem hasF_eq : ∀ (f g : Nat) (L l : List Tx) (d : Nat), l.length < f → l.length < g → (hasF f L l d ↔ hasF g L l d)
  | 0, _, _, _, _, h, _ => by omega
  | _ + 1, 0, _, _, _, _, h => by omega
  | f + 1, g + 1, L, l, d, hf, hg => by
    by_cases h0 : l.length = 0
    · simp only [hasF, if_pos h0]
    · by_cases h1 : l.length = 1
      · simp only [hasF, if_neg h0, if_pos h1]
      · obtain ⟨s1, s2, s3⟩ := split_spec (n := l.length) (by omega)
        have e1 : ∀ a, hasF f L (l.take (split l.length)) a ↔ hasF g L (l.take (split l.length)) a := fun a =>
          hasF_eq f g L _ a (by rw [List.length_take]; omega) (by rw [List.length_take]; omega)
        have e2 : ∀ a, hasF f L (l.drop (split l.length)) a ↔ hasF g L (l.drop (split l.length)) a := fun a =>
          hasF_eq f g L _ a (by rw [List.length_drop]; omega) (by rw [List.length_drop]; omega)
        simp only [hasF, if_neg h0, if_neg h1, e1, e2]
theorem has_nil {L : List Tx} {d : Nat} : Has L [] d ↔ look L noneB = some d := by simp [Has, hasF]
theorem has_one {L l : List Tx} {d : Nat} (h : l.length = 1) : Has L l d ↔ look L (leafB (l.headD [])) = some d := by
  unfold Has hasF
  rw [if_neg (by omega), if_pos h]
theorem has_more {L l : List Tx} {d : Nat} (h : 2 ≤ l.length) :
    Has L l d ↔ ∃ a b, Has L (l.take (split l.length)) a ∧ Has L (l.drop (split l.length)) b ∧ look L (nodeB (a : Nat) (b : Nat)) = some d := by
  obtain ⟨s1, s2, s3⟩ := split_spec h
  have e1 : ∀ a, hasF l.length L (l.take (split l.length)) a ↔ Has L (l.take (split l.length)) a := fun a => hasF_eq _ _ L _ a (by rw [List.length_take]; omega) (by omega)
  have e2 : ∀ a, hasF l.length L (l.drop (split l.length)) a ↔ Has L (l.drop (split l.length)) a := fun a => hasF_eq _ _ L _ a (by rw [List.length_drop]; omega) (by omega)
  conv => lhs; unfold Has hasF
  rw [if_neg (by omega), if_neg (by omega)]
  simp only [e1, e2]

theorem look_grown {L : List Tx} (K : List Tx) {s : Tx} {d : Nat} (h : look L s = some d) : look (L ++ K) s = some d := by
  rw [look_some] at h ⊢
  obtain ⟨rfl, h2⟩ := h
  exact ⟨num_left L K s h2, h2⟩
/-- What is known stays so. -/
theorem Has.grown {L : List Tx} (K : List Tx) : ∀ {l : List Tx} {d : Nat}, Has L l d → Has (L ++ K) l d
  | l, d, h => by
    by_cases h0 : l.length = 0
    · have : l = [] := List.eq_nil_of_length_eq_zero h0
      subst this
      rw [has_nil] at h ⊢
      exact look_grown K h
    · by_cases h1 : l.length = 1
      · rw [has_one h1] at h ⊢
        exact look_grown K h
      · obtain ⟨s1, s2, s3⟩ := split_spec (n := l.length) (by omega)
        rw [has_more (by omega)] at h ⊢
        obtain ⟨a, b, ha, hb, hd⟩ := h
        exact ⟨a, b, ha.grown K, hb.grown K, look_grown K hd⟩
  termination_by l => l.length
  decreasing_by all_goals simp only [List.length_take, List.length_drop]; omega

/-- One text more: it is known, at its number. -/
theorem sum_known {L : List Tx} {s : Tx} (h : L.length < 1048576) : look (add L s) s = some (sum L s) ∧ ∃ K, add L s = L ++ K ∧ K.length ≤ 1 := by
  by_cases hk : num L s = 0
  · obtain ⟨h1, h2⟩ := add_new hk (by omega)
    rw [h1, h2, look_some]
    refine ⟨⟨?_, by omega⟩, [s], rfl, by simp⟩
    rw [num_snoc, if_neg (by omega), if_pos rfl]
  · obtain ⟨h1, h2⟩ := add_known hk
    rw [h1, h2, look_some]
    exact ⟨⟨rfl, hk⟩, [], by simp, by simp⟩
theorem sum_look {L : List Tx} {s : Tx} {d : Nat} (h : look L s = some d) : sum L s = d ∧ add L s = L := by
  rw [look_some] at h
  obtain ⟨rfl, h2⟩ := h
  exact ⟨(add_known h2).2, (add_known h2).1⟩
/-- Behind Root all is known. -/
theorem root_has : ∀ (l L : List Tx), L.length + (2 * l.length + 1) ≤ 1048576 → Has (root L l).2 l (root L l).1 ∧ ∃ K, (root L l).2 = L ++ K ∧ K.length + 1 ≤ 2 * l.length + (if l.length = 0 then 2 else 0)
  | l, L, hL => by
    by_cases h0 : l.length = 0
    · have : l = [] := List.eq_nil_of_length_eq_zero h0
      subst this
      rw [root_nil, has_nil]
      obtain ⟨h1, K, h2, h3⟩ := sum_known (L := L) (s := noneB) (by omega)
      exact ⟨h1, K, h2, by simp; omega⟩
    · by_cases h1 : l.length = 1
      · rw [root_one L h1, has_one h1]
        obtain ⟨h1', K, h2, h3⟩ := sum_known (L := L) (s := leafB (l.headD [])) (by omega)
        exact ⟨h1', K, h2, by rw [if_neg h0]; omega⟩
      · obtain ⟨s1, s2, s3⟩ := split_spec (n := l.length) (by omega)
        have lt : (l.take (split l.length)).length = split l.length := by rw [List.length_take]; omega
        have ld : (l.drop (split l.length)).length = l.length - split l.length := List.length_drop
        obtain ⟨a1, K1, a2, a3⟩ := root_has (l.take (split l.length)) L (by omega)
        rw [lt, if_neg (by omega)] at a3
        have a4 : (root L (l.take (split l.length))).2.length = L.length + K1.length := by rw [a2, List.length_append]
        obtain ⟨b1, K2, b2, b3⟩ := root_has (l.drop (split l.length)) (root L (l.take (split l.length))).2 (by omega)
        rw [ld, if_neg (by omega)] at b3
        have b4 : (root (root L (l.take (split l.length))).2 (l.drop (split l.length))).2.length = L.length + K1.length + K2.length := by rw [b2, List.length_append, a4]
        rw [root_more L (by omega), has_more (by omega)]
        obtain ⟨c1, K3, c2, c3⟩ := sum_known (L := (root (root L (l.take (split l.length))).2 (l.drop (split l.length))).2)
          (s := nodeB (root L (l.take (split l.length))).1 (root (root L (l.take (split l.length))).2 (l.drop (split l.length))).1) (by omega)
        refine ⟨⟨_, _, ?_, ?_, c1⟩, K1 ++ (K2 ++ K3), ?_, ?_⟩
        · simp only
          rw [c2, b2, List.append_assoc]
          exact a1.grown _
        · simp only
          rw [c2]
          exact b1.grown _
        · simp only
          rw [c2, b2, a2, List.append_assoc, List.append_assoc]
        · rw [if_neg h0, List.length_append, List.length_append]
          omega
  termination_by l => l.length
  decreasing_by all_goals simp only [List.length_take, List.length_drop]; omega
/-- What is known is asked for with nothing learnt. -/
theorem has_root : ∀ {l L : List Tx} {d : Nat}, Has L l d → root L l = (d, L)
  | l, L, d, h => by
    by_cases h0 : l.length = 0
    · have : l = [] := List.eq_nil_of_length_eq_zero h0
      subst this
      rw [has_nil] at h
      rw [root_nil, (sum_look h).1, (sum_look h).2]
    · by_cases h1 : l.length = 1
      · rw [has_one h1] at h
        rw [root_one L h1, (sum_look h).1, (sum_look h).2]
      · obtain ⟨s1, s2, s3⟩ := split_spec (n := l.length) (by omega)
        rw [has_more (by omega)] at h
        obtain ⟨a, b, ha, hb, hd⟩ := h
        rw [root_more L (by omega), has_root ha]
        simp only
        rw [has_root hb]
        simp only
        rw [(sum_look hd).1, (sum_look hd).2]
  termination_by l => l.length
  decreasing_by all_goals simp only [List.length_take, List.length_drop]; omega

theorem look_inj {L : List Tx} {s t : Tx} {d : Nat} (h : look L s = some d) (k : look L t = some d) : s = t := by
  rw [look_some] at h k
  have h1 := num_get L s (by omega)
  have h2 := num_get L t (by omega)
  rw [h.1] at h1
  rw [k.1] at h2
  rw [h1] at h2
  injection h2
theorem enc_inj {a b : Nat} {r t : List UInt8} (ha : a < 18446744073709551616) (hb : b < 18446744073709551616) (h : Cm.enc a ++ r = Cm.enc b ++ t) : a = b ∧ r = t := by
  have h1 := Cm.pn_of_enc ha r
  rw [h, Cm.pn_of_enc hb t] at h1
  simp only [Prod.mk.injEq, and_true] at h1
  obtain ⟨h1, _⟩ := h1
  subst h1
  exact ⟨rfl, List.append_cancel_left h⟩
theorem node_inj {a b c d : Int} (ha : a.toNat < 18446744073709551616) (hb : b.toNat < 18446744073709551616) (hc : c.toNat < 18446744073709551616) (hd : d.toNat < 18446744073709551616) (h : nodeB a b = nodeB c d) : a.toNat = c.toNat ∧ b.toNat = d.toNat := by
  unfold nodeB at h
  injection h with _ h
  obtain ⟨h1, h2⟩ := enc_inj ha hc h
  refine ⟨h1, (enc_inj (r := []) (t := []) hb hd ?_).1⟩
  rw [List.append_nil, List.append_nil]
  exact h2
theorem leaf_node (x : Tx) (a b : Int) : leafB x ≠ nodeB a b := by
  intro h
  injection h with h _
  exact absurd h (by decide)
theorem none_node (a b : Int) : noneB ≠ nodeB a b := by
  intro h
  injection h with h _
  exact absurd h (by decide)
theorem none_leaf (x : Tx) : noneB ≠ leafB x := by
  intro h
  injection h with h _
  exact absurd h (by decide)
theorem has_le {L l : List Tx} {d : Nat} (h : Has L l d) : d ≤ L.length := by
  have key : ∀ s, look L s = some d → d ≤ L.length := fun s hs => by
    rw [look_some] at hs
    have := num_le L s
    omega
  by_cases h0 : l.length = 0
  · have : l = [] := List.eq_nil_of_length_eq_zero h0
    subst this
    rw [has_nil] at h
    exact key _ h
  · by_cases h1 : l.length = 1
    · rw [has_one h1] at h
      exact key _ h
    · rw [has_more (by omega)] at h
      obtain ⟨a, b, _, _, h⟩ := h
      exact key _ h
theorem one_of {l : List Tx} (h : l.length = 1) : l = [l.headD []] := by
  match l, h with
  | [x], _ => rfl

/-- Unlike lists, unlike digests. -/
theorem apart : ∀ {l m L : List Tx} {d : Nat}, L.length ≤ 1048576 → Has L l d → Has L m d → l = m
  | l, m, L, d, hL, h, k => by
    by_cases h0 : l.length = 0
    · have e : l = [] := List.eq_nil_of_length_eq_zero h0
      subst e
      rw [has_nil] at h
      by_cases k0 : m.length = 0
      · exact (List.eq_nil_of_length_eq_zero k0).symm
      · by_cases k1 : m.length = 1
        · rw [has_one k1] at k
          exact absurd (look_inj h k) (none_leaf _)
        · rw [has_more (by omega)] at k
          obtain ⟨a, b, _, _, k⟩ := k
          exact absurd (look_inj h k) (none_node _ _)
    · by_cases h1 : l.length = 1
      · rw [has_one h1] at h
        by_cases k0 : m.length = 0
        · have e : m = [] := List.eq_nil_of_length_eq_zero k0
          subst e
          rw [has_nil] at k
          exact absurd (look_inj k h) (none_leaf _)
        · by_cases k1 : m.length = 1
          · rw [has_one k1] at k
            have e := look_inj h k
            injection e with _ e
            rw [one_of h1, one_of k1, e]
          · rw [has_more (by omega)] at k
            obtain ⟨a, b, _, _, k⟩ := k
            exact absurd (look_inj h k) (leaf_node _ _ _)
      · obtain ⟨s1, s2, s3⟩ := split_spec (n := l.length) (by omega)
        rw [has_more (by omega)] at h
        obtain ⟨a, b, ha, hb, h⟩ := h
        by_cases k0 : m.length = 0
        · have e : m = [] := List.eq_nil_of_length_eq_zero k0
          subst e
          rw [has_nil] at k
          exact absurd (look_inj k h) (none_node _ _)
        · by_cases k1 : m.length = 1
          · rw [has_one k1] at k
            exact absurd (look_inj k h) (leaf_node _ _ _)
          · rw [has_more (by omega)] at k
            obtain ⟨a', b', ka, kb, k⟩ := k
            have la := has_le ha
            have lb := has_le hb
            have la' := has_le ka
            have lb' := has_le kb
            obtain ⟨e1, e2⟩ := node_inj (by omega) (by omega) (by omega) (by omega) (look_inj h k)
            have e1 : a = a' := by omega
            have e2 : b = b' := by omega
            subst e1; subst e2
            have f1 := apart hL ha ka
            have f2 := apart hL hb kb
            rw [← List.take_append_drop (split l.length) l, f1, f2, List.take_append_drop]
  termination_by l => l.length
  decreasing_by all_goals simp only [List.length_take, List.length_drop]; omega
theorem has_same {l L : List Tx} {d e : Nat} (h : Has L l d) (k : Has L l e) : d = e := by
  have h1 := has_root h
  rw [has_root k] at h1
  injection h1 with h1
  exact h1.symm

theorem getD_small {p : List Int} (hp : ∀ x ∈ p, x < 9223372036854775808) (j : Nat) : (p.getD j 0).toNat < 18446744073709551616 := by
  by_cases h : j < p.length
  · have := hp _ (List.getElem_mem h)
    rw [List.getD_eq_getElem?_getD, List.getElem?_eq_getElem h]
    simp only [Option.getD_some]
    omega
  · rw [List.getD_eq_getElem?_getD, List.getElem?_eq_none (by omega)]
    simp
theorem look_le {L : List Tx} {s : Tx} {d : Nat} (h : look L s = some d) : d ≤ L.length := by
  rw [look_some] at h
  have := num_le L s
  omega
theorem comes_le {L : List Tx} {b : Tx} {i n : Nat} {p : List Int} {d : Nat} (h : comes L b i n p = some d) : d ≤ L.length := by
  by_cases h1 : n ≤ 1
  · rw [comes_one L b p h1] at h
    exact look_le h
  · by_cases hs : i < split n
    · rw [comes_left L b p (by omega) hs, Option.bind_eq_some_iff] at h
      obtain ⟨d', _, k⟩ := h
      exact look_le k
    · rw [comes_right L b p (by omega) hs, Option.bind_eq_some_iff] at h
      obtain ⟨d', _, k⟩ := h
      exact look_le k
/-- Sound: under the digest of leaves the one that is taken at a place is the one that stands there, whatever the proof. -/
theorem sound : ∀ {l L : List Tx} {d : Nat} {b : Tx} {i : Nat} {p : List Int}, L.length ≤ 1048576 → (∀ x ∈ p, x < 9223372036854775808) → i < l.length → Has L l d → comes L b i l.length p = some d → b = l.getD i []
  | l, L, d, b, i, p, hL, hp, hi, h, k => by
    by_cases h1 : l.length ≤ 1
    · have h1 : l.length = 1 := by omega
      rw [has_one h1] at h
      rw [comes_one L b p (by omega)] at k
      have e := look_inj k h
      injection e with _ e
      rw [e]
      have : i = 0 := by omega
      subst this
      match l, h1 with
      | [x], _ => rfl
    · obtain ⟨s1, s2, s3⟩ := split_spec (n := l.length) (by omega)
      have lt : (l.take (split l.length)).length = split l.length := by rw [List.length_take]; omega
      have ld : (l.drop (split l.length)).length = l.length - split l.length := List.length_drop
      have hp' : ∀ x ∈ p.take (p.length - 1), x < 9223372036854775808 := fun x hx => hp x (List.mem_of_mem_take hx)
      have hg := getD_small hp (p.length - 1)
      rw [has_more (by omega)] at h
      obtain ⟨a, b', ha, hb, h⟩ := h
      have la := has_le ha
      have lb := has_le hb
      by_cases hs : i < split l.length
      · rw [comes_left L b p (by omega) hs, Option.bind_eq_some_iff] at k
        obtain ⟨d', k1, k2⟩ := k
        have ld' : d' ≤ L.length := comes_le k1
        obtain ⟨e1, e2⟩ := node_inj (by omega) hg (by omega) (by omega) (look_inj k2 h)
        have e1 : d' = a := by omega
        subst e1
        have hh := sound (l := l.take (split l.length)) (i := i) (d := d') hL hp' (by rw [lt]; omega) ha (by rw [lt]; exact k1)
        rw [hh, List.getD_eq_getElem?_getD, List.getD_eq_getElem?_getD, List.getElem?_take, if_pos hs]
      · rw [comes_right L b p (by omega) hs, Option.bind_eq_some_iff] at k
        obtain ⟨d', k1, k2⟩ := k
        have ld' : d' ≤ L.length := comes_le k1
        obtain ⟨e1, e2⟩ := node_inj hg (by omega) (by omega) (by omega) (look_inj k2 h)
        have e2 : d' = b' := by omega
        subst e2
        have hh := sound (l := l.drop (split l.length)) (i := i - split l.length) (d := d') hL hp' (by rw [ld]; omega) hb (by rw [ld]; exact k1)
        rw [hh, List.getD_eq_getElem?_getD, List.getD_eq_getElem?_getD, List.getElem?_drop, show split l.length + (i - split l.length) = i from by omega]
  termination_by l => l.length
  decreasing_by all_goals simp only [List.length_take, List.length_drop]; omega

end Go.Proofs.YtobphijbhghgmaaGreat.Mm

/-
  The plain mathematics of layer 9's execution: what a batch that is executed comes to. No program is named here.
-/
namespace Go.Proofs.YtobphijbhghgmaaGreat.Zg
set_option linter.unusedSimpArgs false
open Cm Pm Jm Jn Tm Tn Tq Za
open Im (num isIn add sum)
set_option linter.unusedVariables false

/-- The bytes of a record and its place. -/
def plB (x : Tx × Int × Tx) : Tx := encB x.1 ++ enc (max x.2.1 0).toNat ++ encB x.2.2
/-- One request more. -/
def appF (a : List (Tx × Int × Tx) × St) (d : Sd) : List (Tx × Int × Tx) × St := (a.1 ++ (appS a.2 d.q.client d.q.time d.q.o).2.1, (appS a.2 d.q.client d.q.time d.q.o).2.2.2)
/-- The requests of a batch: what was put, and the topics behind them. -/
def appL (s : St) (l : List Sd) : List (Tx × Int × Tx) × St := l.foldl appF ([], s)
theorem appL_nil (s : St) : appL s [] = ([], s) := rfl
theorem appL_next (s : St) {l : List Sd} {i : Nat} (hi : i < l.length) : appL s (l.take (i + 1)) = appF (appL s (l.take i)) l[i] := by
  unfold appL
  rw [List.take_succ_eq_append_getElem hi, List.foldl_append]
  rfl
def hdigR (L : List Tx) (h : H) : Int × Int := if hcheck h ≠ 0 then (0, hcheck h) else if sum L (hraw h) = 0 then (0, 6) else ((sum L (hraw h) : Int), 0)
def hdigT (L : List Tx) (h : H) : List Tx := if hcheck h ≠ 0 then L else add L (hraw h)
/-- What a header says of what came of its batch. -/
def endT (L : List Tx) (pl : List (Tx × Int × Tx)) (s : St) : List Tx := add (Mm.root L (pl.map plB)).2 (stB s)
def endR (L : List Tx) (h : H) (pl : List (Tx × Int × Tx)) (s : St) : H × Int :=
  if (Mm.root L (pl.map plB)).1 = 0 ∨ sum (Mm.root L (pl.map plB)).2 (stB s) = 0 then (H.zero, 6)
  else (⟨h.seq, h.prev, h.batch, ((Mm.root L (pl.map plB)).1 : Int), (sum (Mm.root L (pl.map plB)).2 (stB s) : Int)⟩, 0)
/-- What a header says of what is there ahead of its batch. -/
def beginR (L : List Tx) (last : H) (b : List Sd) : H × Int :=
  if hcheck last ≠ 0 then (H.zero, hcheck last)
  else if last.seq = 9007199254740992 then (H.zero, 6)
  else if (digR L b).2 ≠ 0 then (H.zero, (digR L b).2)
  else if (hdigR (digT L b) last).2 ≠ 0 then (H.zero, (hdigR (digT L b) last).2)
  else (⟨last.seq + 1, (hdigR (digT L b) last).1, (digR L b).1, 0, 0⟩, 0)
def beginT (L : List Tx) (last : H) (b : List Sd) : List Tx :=
  if hcheck last ≠ 0 then L
  else if last.seq = 9007199254740992 then L
  else if (digR L b).2 ≠ 0 then digT L b
  else hdigT (digT L b) last
/-- A batch that is executed: the header and the error, the table, the topics. -/
def execR (L : List Tx) (s : St) (last : H) (b : List Sd) : H × Int :=
  if (beginR L last b).2 ≠ 0 then (H.zero, (beginR L last b).2)
  else if (endR (beginT L last b) (beginR L last b).1 (appL s b).1 (appL s b).2).2 ≠ 0 then (H.zero, (endR (beginT L last b) (beginR L last b).1 (appL s b).1 (appL s b).2).2)
  else ((endR (beginT L last b) (beginR L last b).1 (appL s b).1 (appL s b).2).1, 0)
def execT (L : List Tx) (s : St) (last : H) (b : List Sd) : List Tx :=
  if (beginR L last b).2 ≠ 0 then beginT L last b else endT (beginT L last b) (appL s b).1 (appL s b).2
def execS (L : List Tx) (s : St) (last : H) (b : List Sd) : St :=
  if (beginR L last b).2 ≠ 0 then s else (appL s b).2
/-- Do headers stand on each other? -/
def stands (L : List Tx) (h ahead : H) : Bool := isIn L (hform ahead) && (h.prev == (num L (hform ahead) : Int)) && (h.seq == ahead.seq + 1)
/-- A header of a chain, and the one ahead of it. -/
def chk (L : List Tx) (l : List H) (i : Nat) : Bool := (hcheck (l.getD i H.zero) == 0) && (i == 0 || stands L (l.getD i H.zero) (l.getD (i - 1) H.zero))
def chainB (L : List Tx) (l : List H) : Bool := (List.range l.length).all (chk L l)
end Go.Proofs.YtobphijbhghgmaaGreat.Zg

/-
  Contracts of the program's table: Plain, From.
-/
namespace Go.Proofs.YtobphijbhghgmaaGreat.Ie
set_option linter.unusedSimpArgs false
set_option linter.unusedVariables false
set_option maxRecDepth 100000
open Go Go.RowKit Ck Im Kw Ik Ia Ib Ic Ig

/-- v is a new list of new bytes. -/
def Pl (w : World) (base : Nat) (v : Value) (L : List Tx) : Prop :=
  ∃ vals, w.ownsRow base 25 1 v L.length vals ∧ ∀ i (h : i < L.length), ∃ u, vals[i]? = some u ∧ Out w base u L[i]
theorem Pl.ls {w : World} {base : Nat} {v : Value} {L : List Tx} {X : Nat → Prop} (h : Pl w base v L) (hX : ∀ k, base ≤ k → k < w.heap.size → ¬ X k) : Ls w X v L := by
  obtain ⟨vals, ho, hx⟩ := h
  exact ⟨vals, Sl.of_own ho hX, fun i hi => by obtain ⟨u, hu, hout⟩ := hx i hi; exact ⟨u, hu, hout.sl hX⟩⟩

end Go.Proofs.YtobphijbhghgmaaGreat.Ie

/-
  Contracts of bytes.Equal and of the document's table: Same, SameAll, Look, Open, Sum.
-/
namespace Go.Proofs.YtobphijbhghgmaaGreat.Ih
set_option linter.unusedSimpArgs false
set_option linter.unusedVariables false
set_option maxRecDepth 100000
open Go Go.RowKit Ck Im Kw Ik Ia Ib Ic Ig Ie

theorem Ls.shape {w : World} {X : Nat → Prop} {v : Value} {ls : List (List UInt8)} (h : Ls w X v ls) : ∃ A c, v = .slice A ls.length c := by
  obtain ⟨vals, ⟨A, c, hv, _⟩, _⟩ := h
  exact ⟨A, c, hv⟩

end Go.Proofs.YtobphijbhghgmaaGreat.Ih

/-
  Contract of the document's table: Sum.
-/
namespace Go.Proofs.YtobphijbhghgmaaGreat.Ij
set_option linter.unusedSimpArgs false
set_option linter.unusedVariables false
set_option maxRecDepth 100000
open Go Go.RowKit Ck Im Kw Ik Ia Ib Ic Ig Ie Ih

/-- What Sum leaves of the document's table. -/
def RSummed (S : Nat → Prop) (p : Nat) (L : List Tx) (b : Tx) (w : World) (e : Ending) (w' : World) : Prop :=
  e = .returned (.int .i64 (sum L b : Int)) ∧ Rf w' (Up S w w') p (add L b) ∧ Ch S w w'

theorem Rf.up {w w' : World} {S : Nat → Prop} {p : Nat} {L : List Tx} (h : Rf w' S p L) : Rf w' (Up S w w') p L := by
  obtain ⟨lv, h1, h2, h3, h4⟩ := h
  refine ⟨lv, h1, .inl h2, h3.weaken ?_, h4⟩
  rintro k _ (hn | rfl)
  · exact .inl fun hs => hn (.inl hs)
  · exact .inr rfl

end Go.Proofs.YtobphijbhghgmaaGreat.Ij
