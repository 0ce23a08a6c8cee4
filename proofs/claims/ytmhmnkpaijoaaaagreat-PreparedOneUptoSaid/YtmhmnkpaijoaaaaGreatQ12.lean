/-
  Layer 8 (request): a batch's form; PutBatch; the document's CheckBatch and PutBatch.
-/
import Derived.Test.YtmhmnkpaijoaaaaGreatQ10
import Derived.Test.YtmhmnkpaijoaaaaGreatQ11
import Derived.BigQuiet
namespace Go.Proofs.YtmhmnkpaijoaaaaGreat.Je
set_option linter.unusedSimpArgs false
open Go Go.RowKit Ck Kw Ca Cb Cd Ga Kf Pm Pe Pg Ph Pk Pn Pj Po Qb Lk Jm Ja Jb Jc Jd
attribute [local go_sem ↓] Go.wp_at_zero Go.wp_at_succ
set_option linter.unusedVariables false

/-- A batch's bytes, so far. -/
def bpre (l : List Sd) (i : Nat) : List UInt8 := Cm.enc l.length ++ (l.take i).flatMap dB
theorem bpre_len {l : List Sd} (h : bcheck l = 0) (i : Nat) : (bpre l i).length ≤ 4081 := by
  obtain ⟨h1, h2, _⟩ := bcheck_ok h
  have h3 := flat_dB (l := l.take i) (fun x hx => h2 x (List.mem_of_mem_take hx))
  have h4 := enc_1 (n := l.length) (by omega)
  have h5 : (l.take i).length ≤ l.length := by rw [List.length_take]; omega
  simp only [bpre, List.length_append]
  omega
theorem bpre_step {l : List Sd} {i : Nat} (hi : i < l.length) : bpre l (i + 1) = bpre l i ++ dB l[i] := by
  rw [bpre, bpre, List.take_succ_eq_append_getElem hi, List.flatMap_append, List.append_assoc]
  simp
theorem bpre_all (l : List Sd) : bpre l l.length = braw l := by rw [bpre, List.take_length, braw]
theorem bpre_zero (l : List Sd) : bpre l 0 = Cm.enc l.length := by simp [bpre]
theorem bpre_room {l : List Sd} (h : bcheck l = 0) {i : Nat} (hi : i < l.length) : (bpre l i).length + (Cm.encB (qform l[i].q)).length + (sform l[i].s).length ≤ 4081 := by
  have h1 := bpre_len h (i + 1)
  obtain ⟨_, h2, _⟩ := bcheck_ok h
  obtain ⟨h3, h4⟩ := h2 _ (List.getElem_mem hi)
  rw [bpre_step hi, dB, ← qform_eq h3, ← sform_eq h4] at h1
  simp only [List.length_append] at h1
  omega
theorem dB_app {x : Sd} (hq : qcheck x.q = 0) (hs : scheck x.s = 0) (b : List UInt8) : b ++ dB x = b ++ Cm.encB (qform x.q) ++ sform x.s := by
  rw [qform_eq hq, sform_eq hs, dB, List.append_assoc]

set_option maxRecDepth 100000 in
set_option maxHeartbeats 4000000 in
theorem lform_any (w : World) (X : Nat → Prop) (A : Option Addr) (c : Nat) (l : List Sd) (h : BI w X (.slice A l.length c) l) (hc : bcheck l = 0) (hr : ∀ x ∈ l, x.q.o.recs.length ≤ 140737488355328) :
    Calls Tryz.prog 109 #[.slice A l.length c] w fun e w' => Made w 5 (braw l) e w' := by
  have HB := Lib.hid h
  have HR := Lib.hid hr
  have HBL := fun i => Lib.hid (bpre_len hc i)
  obtain ⟨h4, hok, _⟩ := bcheck_ok hc
  have HOK := Lib.hid hok
  have hwl := wrap_u64' l.length (by omega)
  have HBA := Lib.hid (bpre_all l)
  have HBZ := Lib.hid (bpre_zero l)
  clear h hc hr hok
  go_enter Tryz.func109, Tryz.ntmps109
  go_wp2_with fail
  refine (putnum_any (fun _ => False) (.slice none 0 0) 0 [] l.length _ (Sl.nil _ _ _) (by omega) (by omega)).mono ?_
  rintro e w1 ⟨v1, rfl, hown1, hb1⟩
  have HO1 : Hid (w1.ownsRow w.heap.size 5 1 v1 (bpre l 0).length (BVs (bpre l 0))) := Lib.hid (by rw [HBZ.out]; exact hown1)
  have HB1 := Lib.hid hb1
  clear hown1 hb1
  go_wp2_with fail
  go_loopw [3, 14] (fun v j wr => ∃ i : Nat, i ≤ l.length ∧ j = .int .i64 i ∧ wr.ownsRow w.heap.size 5 1 v (bpre l i).length (BVs (bpre l i)) ∧ Below w.heap.size w wr) (fun _ j _ => l.length - (intOf j).toNat)
  case atStart => exact ⟨0, Nat.zero_le _, rfl, HO1.out, HB1.out⟩
  case round =>
    obtain ⟨i, hi, rfl, hown, hb⟩ := hrel
    clear HO1 HB1
    by_cases hlt : i < l.length
    · obtain ⟨ad, Ar, cr, rfl, ⟨a0, a1, a2, a3, a4, a5, a6, a7, a8⟩, hls⟩ := (HB.out.after hb).at_ hlt
      have hrl := HR.out _ (List.getElem_mem hlt)
      obtain ⟨ok1, ok2⟩ := HOK.out _ (List.getElem_mem hlt)
      have HST := Lib.hid (bpre_step hlt)
      generalize hx : l[i] = x at *
      have HQL := Lib.hid (qform_len x.q)
      have HSL := Lib.hid (sform_len x.s)
      have HDB := Lib.hid (dB_app ok1 ok2 (bpre l i))
      have HC := Lib.hid (qbytes_any x.q (QV x.q Ar cr) X _ ⟨Ar, cr, rfl, hls.after (op_below wr (.cells (DC x Ar cr) 113))⟩ hrl)
      have hk1 := k1_new hb x Ar cr
      have HOW : Hid ((wr.alloc (.cells (DC x Ar cr) 113)).ownsRow w.heap.size 5 1 _ (bpre l i).length (BVs (bpre l i))) := Lib.hid (hown.alloc _)
      have HBL1 := HBL i
      obtain ⟨Av, cv, rfl⟩ := own_shape hown
      unfold Byt at HC
      rw [ok1] at HC
      clear hls hb hx hown ok1 ok2
      unfold QV QC at HC
      unfold DC at hk1 HC HOW
      generalize bpre l i = bp at *
      go_wp2_with fail
      generalize wr.alloc (.cells #[.int .i64 x.q.client, .int .i64 x.q.time, .int .i64 x.q.o.kind, .string ⟨x.q.o.topic.toArray⟩, .string ⟨x.q.o.group.toArray⟩, .int .i64 x.q.o.off, .slice Ar x.q.o.recs.length cr, .int .i64 x.s.1, .int .i64 x.s.2] 113) = w1 at *
      generalize wr.heap.size = g1 at *
      have HK := Lib.hid hk1
      clear hk1 a0 a1 a2 a3 a4 a5 a6 a7 a8
      refine HC.out.mono ?_
      rintro e w2 ⟨v2, rfl, hsl2, hb2⟩
      obtain ⟨Ax, cx, rfl, -⟩ := id hsl2
      have HK2 := Lib.hid (HK.out.later hb2)
      have HOW2 := Lib.hid (own_below HOW.out hb2)
      have HX2 := Lib.hid hsl2
      clear hsl2 hb2
      go_wp2_with fail
      have HP1 := Lib.hid (putbytes_any (fun _ => False) _ _ _ _ bp (qform x.q) w2.drew (Sl.of_own HOW2.out.drew (fun _ _ _ h => h)) (HX2.out.drew.weaken (fun _ _ h => h.elim)) (by have := HBL1.out; omega) (by have := HBL1.out; have := HQL.out; omega))
      have HP2 : Hid (∀ W v, W.ownsRow w2.heap.size 5 1 v (bp ++ Cm.encB (qform x.q)).length (BVs (bp ++ Cm.encB (qform x.q))) → Calls Tryz.prog 129 #[v, .agg #[.int .i64 x.s.1, .int .i64 x.s.2]] W fun e w' => Made W 5 (bp ++ Cm.encB (qform x.q) ++ sform x.s) e w') := Lib.hid fun W v ho => putsign_any x.s (fun _ => False) v _ _ W (Sl.of_own ho (fun _ _ _ h => h)) (by
        have h1 := HBL1.out; have h2 := HQL.out; have h3 := (Cm.enc_len (qform x.q).length).1
        rw [List.length_append, Cm.encB_len]; omega)
      obtain ⟨-, -, -, -, -, -, -, j7, j8⟩ := HK2.out.one.cells
      have tok1 : True := trivial
      go_region_held3 (fun w' => w'.cell? ⟨g1, 7, none⟩ = some (.int .i64 x.s.1) ∧ w'.cell? ⟨g1, 8, none⟩ = some (.int .i64 x.s.2)) (first | exact ⟨j7, j8⟩ | exact ⟨k7, k8⟩ | exact ⟨q7, q8⟩)
        (first
        | (go_at_call 130; have _t := tok1; clear tok1 _t; refine HP1.out.mono ?_; rintro e w3 ⟨v3, rfl, hown3, hb3⟩; have HK3 := Lib.hid (HK2.out.later (Ga.below_of_drew hb3)); obtain ⟨-, -, -, -, -, -, -, k7, k8⟩ := HK3.out.one.cells; have HO3 : Hid (w3.ownsRow w2.heap.size 5 1 v3 _ _) := Lib.hid hown3; clear hown3 hb3)
        | (go_at_call 129; refine (HP2.out _ _ HO3.out).mono ?_; rintro e w4 ⟨v4, rfl, hown4, hb4⟩; have HK4 := Lib.hid (HK3.out.later hb4); obtain ⟨-, -, -, -, -, -, -, q7, q8⟩ := HK4.out.one.cells; have HO4 := Lib.hid (own_base hown4 HK3.out.below.size); clear hown4 hb4))
      all_goals
        go_wp2_with fail
        go_roundw
        case rel => exact ⟨i + 1, by omega, by go_num, by rw [HST.out, HDB.out]; exact HO4.out, HK4.out.below⟩
        case measure => simp [intOf]; omega
    · have hke : i = l.length := by omega
      subst hke
      have HN : Hid (Made w 5 (braw l) _ wr) := Lib.hid (Made.of_parts (by rw [← HBA.out]; exact hown) hb)
      clear hown hb
      go_wp2_with fail
      go_ret
      exact HN.out

set_option maxRecDepth 100000 in
set_option maxHeartbeats 1000000 in
theorem putbatch_any (l : List Sd) (vl : Value) (X Y : Nat → Prop) (vb : Value) (nb : Nat) (b : List UInt8) (w : World) (h : BI w X vl l) (hr : ∀ x ∈ l, x.q.o.recs.length ≤ 140737488355328) (hl63 : l.length ≤ 140737488355328) (hb : Sl w Y 1 vb nb (BVs b)) (hbl : b.length ≤ 140737488351232) :
    Calls Tryz.prog 81 #[vb, vl] w fun e w' => Made w 5 (b ++ bform l) e w' := by
  obtain ⟨A, c, rfl, -⟩ := h.shape
  have HCK := Lib.hid (cbatch_any w X _ l h hr hl63)
  have HP : Hid (∀ W : World, Below w.heap.size w W → Calls Tryz.prog 108 #[vb, .int .i64 (bcheck l), .func (.func 109) #[.slice A l.length c] #[]] W fun e w' => Made W 5 (b ++ bform l) e w') := Lib.hid fun W hW => by
    by_cases hs : bcheck l = 0
    · rw [hs, bform_eq hs]
      have := braw_len hs
      exact put_list _ _ (by omega) Y vb nb b W (hb.after hW) hbl (Lib.hid (lform_any W X A c l (h.after hW) hs hr))
    · have : bform l = [] := by rw [bform, if_pos hs]
      rw [this, List.append_nil]
      exact put_no _ hs _ Y vb nb b W (hb.after hW) hbl
  clear hb hbl h hr
  generalize bform l = f at *
  go_enter Tryz.func81, Tryz.ntmps81
  go_wp2_with fail
  refine HCK.out.mono ?_
  rintro e w1 ⟨rfl, hb1⟩
  have HB1 := Lib.hid hb1
  clear hb1
  go_wp2_with fail
  refine (HP.out _ HB1.out).mono ?_
  rintro e w2 ⟨v2, rfl, hown2, hb2⟩
  have HO2 := Lib.hid (own_base hown2 HB1.out.size)
  have HB2 := Lib.hid (HB1.out.trans (hb2.mono HB1.out.size))
  clear hown2 hb2
  go_wp2_with fail
  go_ret
  exact ⟨v2, rfl, HO2.out, HB2.out⟩

theorem mom_eq {x y : Sd} (h1 : x.q.client = y.q.client) (h2 : x.q.time = y.q.time) : (mom x == mom y) = true := by rw [mom, mom, pair_beq, h1, h2]; simp
theorem mom_ne1 {x y : Sd} (h1 : x.q.client ≠ y.q.client) : (mom x == mom y) = false := by rw [mom, mom, pair_beq, decide_eq_false h1]; rfl
theorem mom_ne2 {x y : Sd} (h2 : x.q.time ≠ y.q.time) : (mom x == mom y) = false := by rw [mom, mom, pair_beq, decide_eq_false h2, Bool.and_false]

set_option maxRecDepth 100000 in
set_option maxHeartbeats 8000000 in
theorem rcbatch_any (w : World) (X : Nat → Prop) (v : Value) (l : List Sd) (h : BI w X v l) (hr : ∀ x ∈ l, x.q.o.recs.length ≤ 140737488355328) (hl63 : l.length ≤ 140737488355328) :
    Calls Tryz.prog 72 #[v] w fun e w' => e = .returned (.int .i64 (bcheck l)) ∧ Below w.heap.size w w' := by
  obtain ⟨A, c, rfl, -⟩ := h.shape
  by_cases h4 : 4 < l.length
  · have hd : decide (4 < (l.length : Int)) = true := decide_eq_true (by omega)
    have HN : Hid (bcheck l = 3) := Lib.hid (by rw [bcheck, if_pos h4])
    clear h
    go_enter Tryz.func72, Tryz.ntmps72
    go_wp2_with fail
    go_ret
    exact ⟨by rw [HN.out]; rfl, Below.refl _ w⟩
  · have hd : decide (4 < (l.length : Int)) = false := decide_eq_false (by omega)
    have h4' : l.length ≤ 4 := by omega
    have HB := Lib.hid h
    have HR := Lib.hid hr
    have HQ : Hid (bcheck l = if lcheck l ≠ 0 then lcheck l else if twice l then 5 else 0) := Lib.hid (by rw [bcheck, if_neg h4])
    clear h hr h4
    go_enter Tryz.func72, Tryz.ntmps72
    go_wp2_with fail
    go_loopw [3] (fun j wr => ∃ i : Nat, i ≤ l.length ∧ j = .int .i64 i ∧ lcheck (l.drop i) = lcheck l ∧ Below w.heap.size w wr) (fun j _ => l.length - (intOf j).toNat)
    case atStart => exact ⟨0, Nat.zero_le _, rfl, rfl, Below.refl _ w⟩
    case round =>
      obtain ⟨i, hi, rfl, hlc, hb⟩ := hrel
      by_cases hlt : i < l.length
      · rw [lcheck_drop hlt] at hlc
        have hat := (HB.out.after hb).at_ hlt
        obtain ⟨ad, Ar, cr, rfl, ⟨a0, a1, a2, a3, a4, a5, a6, a7, a8⟩, hls⟩ := hat
        have hrl := HR.out _ (List.getElem_mem hlt)
        have HAT := fun W (b : Below w.heap.size w W) => Lib.hid ((HB.out.after b).at_ hlt)
        generalize hx : l[i] = x at *
        have HC := Lib.hid (rcheck_any x.q (QV x.q Ar cr) X wr ⟨Ar, cr, rfl, hls⟩ hrl)
        have HBB := Lib.hid hb
        have HLC := Lib.hid hlc
        have HDQ : Hid (dcheck x = if qcheck x.q ≠ 0 then qcheck x.q else scheck x.s) := Lib.hid rfl
        clear hlc hls hb hx
        unfold QV QC at HC
        go_wp2_with fail
        refine HC.out.mono ?_
        rintro e w2 ⟨he, hb2⟩
        have HB2 := Lib.hid (HBB.out.trans (hb2.mono HBB.out.size))
        clear hb2 a0 a1 a2 a3 a4 a5 a6 a7 a8
        by_cases hq : qcheck x.q = 0
        · rw [hq] at he HDQ
          subst he
          obtain ⟨ad', Ar', cr', hA, ⟨b0, b1, b2, b3, b4, b5, b6, b7, b8⟩, -⟩ := (HAT _ HB2.out).out
          obtain rfl : ad = ad' := Option.some.inj hA
          clear hA hq b0 b1 b2 b3 b4 b5 b6
          have HCS := Lib.hid (rcsign_any x.s w2)
          unfold GV at HCS
          go_wp2_with fail
          refine HCS.out.mono ?_
          rintro e w3 ⟨he, hb3⟩
          have HB3 := Lib.hid (HB2.out.trans (hb3.mono HB2.out.size))
          clear hb3
          by_cases hs : scheck x.s = 0
          · rw [hs] at he HDQ
            subst he
            have HN := Lib.hid (show lcheck (l.drop (i + 1)) = lcheck l by rw [← HLC.out, if_neg (by rw [HDQ.out]; simp)])
            clear hs
            go_wp2_with fail
            go_roundw
            case rel => exact ⟨i + 1, by omega, by go_num, HN.out, HB3.out⟩
            case measure => simp [intOf]; omega
          · subst he
            have HD : Hid (dcheck x = scheck x.s) := Lib.hid (by rw [HDQ.out]; simp)
            have HN := Lib.hid (show bcheck l = scheck x.s by
              have hd0 : dcheck x ≠ 0 := by rw [HD.out]; exact hs
              have e : dcheck x = lcheck l := by have := HLC.out; rwa [if_pos hd0] at this
              rw [HQ.out, ← e, if_pos hd0, HD.out])
            have hne : (scheck x.s != 0) = true := by simpa using hs
            have hne2 : (scheck x.s == 0) = false := by simpa using hs
            clear hs
            go_wp2_with fail
            go_ret
            exact ⟨by rw [HN.out]; rfl, HB3.out⟩
        · subst he
          have HD : Hid (dcheck x = qcheck x.q) := Lib.hid (by rw [HDQ.out, if_pos hq])
          have HN := Lib.hid (show bcheck l = qcheck x.q by
            have hd0 : dcheck x ≠ 0 := by rw [HD.out]; exact hq
            have e : dcheck x = lcheck l := by have := HLC.out; rwa [if_pos hd0] at this
            rw [HQ.out, ← e, if_pos hd0, HD.out])
          have hne : (qcheck x.q != 0) = true := by simpa using hq
          have hne2 : (qcheck x.q == 0) = false := by simpa using hq
          clear hq
          go_wp2_with fail
          go_ret
          exact ⟨by rw [HN.out]; rfl, HB2.out⟩
      · have hz : l.drop i = [] := List.drop_eq_nil_iff.2 (by omega)
        rw [hz] at hlc
        have HN : Hid (bcheck l = if twice l then 5 else 0) := Lib.hid (by rw [HQ.out, ← hlc]; rfl)
        have HBB := Lib.hid hb
        have HT : Hid (twI (l.take 0) (l.drop 0) = twice l) := Lib.hid rfl
        clear hlc hz hb HQ
        go_wp2_with fail
        go_loopw [6] (fun j wr => ∃ i : Nat, i ≤ l.length ∧ j = .int .i64 i ∧ twI (l.take i) (l.drop i) = twice l ∧ Below w.heap.size w wr) (fun j _ => l.length - (intOf j).toNat)
        case atStart => exact ⟨0, Nat.zero_le _, rfl, HT.out, HBB.out⟩
        case round =>
          obtain ⟨i, hi, rfl, htw, hb⟩ := hrel
          clear HT HBB
          by_cases hlt : i < l.length
          · rw [twI_step hlt] at htw
            obtain ⟨ad, Ar, cr, hA, ⟨a0, a1, -⟩, -⟩ := (HB.out.after hb).at_ hlt
            subst hA
            have HAT := fun W (b : Below w.heap.size w W) => Lib.hid ((HB.out.after b).at_ hlt)
            have HBB := Lib.hid hb
            have HTW := Lib.hid htw
            have HM0 : Hid (hasM (l.take 0) l[i] = false) := Lib.hid rfl
            clear htw hb a0 a1
            have hip : (0 : Int) ≤ (i : Int) := by omega
            have hil : (i : Int) < (l.length : Int) := by omega
            generalize hx : l[i] = x at *
            clear hx
            go_wp2_with fail
            go_loopw [7] (fun j wr => ∃ k : Nat, k ≤ i ∧ j = .int .i64 k ∧ hasM (l.take k) x = false ∧ Below w.heap.size w wr) (fun j _ => i - (intOf j).toNat)
            case atStart => exact ⟨0, Nat.zero_le _, rfl, HM0.out, HBB.out⟩
            case round =>
              obtain ⟨k, hk, rfl, hm, hb⟩ := hrel
              clear HM0 HBB
              by_cases hlt2 : k < i
              · have hl2 : k < l.length := by omega
                obtain ⟨ad', Ar', cr', hA, ⟨a0, a1, -⟩, -⟩ := (HAT _ hb).out
                obtain rfl : ad = ad' := Option.some.inj hA
                obtain ⟨ad', Ar2, cr2, hA, ⟨b0, b1, -⟩, -⟩ := (HB.out.after hb).at_ hl2
                obtain rfl : ad = ad' := Option.some.inj hA
                have hst := hasM_take (x := x) hl2
                have hof : (mom x == mom l[k]) = true → hasM (l.take i) x = true := fun e => hasM_of hlt2 hl2 e
                generalize hy : l[k] = y at *
                have HHM : Hid (hasM (l.take (k + 1)) x = (mom x == mom y)) := Lib.hid (by rw [hst, hm, Bool.false_or])
                have HOF := Lib.hid hof
                have HBB := Lib.hid hb
                clear hst hm hA hy hof hb
                by_cases h1 : x.q.client = y.q.client
                · have e1 : (x.q.client == y.q.client) = true := by rw [h1]; exact beq_self_eq_true _
                  by_cases h2 : x.q.time = y.q.time
                  · have e2 : (x.q.time == y.q.time) = true := by rw [h2]; exact beq_self_eq_true _
                    have HME := Lib.hid (mom_eq h1 h2)
                    clear h1 h2
                    go_wp2
                    go_quiet (fail)
                    go_wp2
                    go_ret
                    exact ⟨by rw [HN.out, ← HTW.out, HOF.out HME.out]; rfl, below_drewN HBB.out _⟩
                  · have e2 : (x.q.time == y.q.time) = false := beq_eq_false_iff_ne.2 h2
                    have HME := Lib.hid (mom_ne2 (x := x) h2)
                    clear h1 h2
                    go_wp2
                    go_quiet (fail)
                    go_wp2
                    go_roundw
                    case rel => exact ⟨k + 1, by omega, by go_num, by rw [HHM.out, HME.out], below_drewN HBB.out _⟩
                    case measure => simp [intOf]; omega
                · have e1 : (x.q.client == y.q.client) = false := beq_eq_false_iff_ne.2 h1
                  have HME := Lib.hid (mom_ne1 (x := x) h1)
                  clear h1
                  go_wp2
                  go_quiet (fail)
                  go_wp2
                  go_roundw
                  case rel => exact ⟨k + 1, by omega, by go_num, by rw [HHM.out, HME.out], below_drewN HBB.out _⟩
                  case measure => simp [intOf]; omega
              · have hke : k = i := by omega
                subst hke
                have HNM := Lib.hid hm
                have HBB := Lib.hid hb
                clear hm hb
                go_wp2_with fail
                go_roundw
                case rel => exact ⟨k + 1, by omega, by go_num, by rw [← HTW.out, HNM.out]; rfl, HBB.out⟩
                case measure => simp [intOf]; omega
          · have hz : l.drop i = [] := List.drop_eq_nil_iff.2 (by omega)
            rw [hz] at htw
            have HN2 : Hid (bcheck l = 0) := Lib.hid (by rw [HN.out, ← htw]; rfl)
            have HBB := Lib.hid hb
            clear htw hz hb
            go_wp2_with fail
            go_ret
            exact ⟨by rw [HN2.out]; rfl, HBB.out⟩

set_option maxRecDepth 100000 in
set_option maxHeartbeats 4000000 in
theorem rputbatch_any (l : List Sd) (vl : Value) (X Y : Nat → Prop) (vb : Value) (nb : Nat) (b : List UInt8) (w : World) (h : BI w X vl l) (hr : ∀ x ∈ l, x.q.o.recs.length ≤ 140737488355328) (hl63 : l.length ≤ 140737488355328) (hb : Sl w Y 1 vb nb (BVs b)) (hbl : b.length ≤ 140737488351232) :
    Calls Tryz.prog 52 #[vb, vl] w (Behind w Y (b ++ bform l)) := by
  have hnb := sl_len hb
  subst hnb
  obtain ⟨A, c, rfl, -⟩ := h.shape
  have HCK := Lib.hid (rcbatch_any w X _ l h hr hl63)
  have HB := Lib.hid h
  have HR := Lib.hid hr
  have HSB := Lib.hid hb
  have HBBL := Lib.hid hbl
  clear h hr hb hbl
  by_cases hc : bcheck l = 0
  · rw [hc] at HCK
    have HBL := fun i => Lib.hid (bpre_len hc i)
    have HRO := Lib.hid fun (i : Nat) (hi : i < l.length) => bpre_room hc hi
    have HBF := Lib.hid (bform_eq hc)
    obtain ⟨h4, hok, _⟩ := bcheck_ok hc
    have HOK := Lib.hid hok
    have hwl := wrap_u64' l.length (by omega)
    have HBA := Lib.hid (bpre_all l)
    have HBZ := Lib.hid (bpre_zero l)
    clear hc hok
    go_enter Tryz.func52, Tryz.ntmps52
    go_wp2_with fail
    refine HCK.out.mono ?_
    rintro e w0 ⟨rfl, hb0⟩
    have HB0 := Lib.hid hb0
    clear hb0
    go_wp2_with fail
    refine (rputnum_any Y vb b.length b l.length w0 (HSB.out.after HB0.out) (by have := HBBL.out; omega) (by omega)).mono ?_
    rintro e w1 ⟨v1, rfl, hown1, hb1⟩
    have HO1 : Hid (Sl w1 (fun k => k < w.heap.size) 1 v1 (b ++ bpre l 0).length (BVs (b ++ bpre l 0))) := Lib.hid (by rw [HBZ.out]; exact Sl.of_own hown1 (fun k h1 _ h2 => by have := HB0.out.size; omega))
    have HB1 := Lib.hid (HB0.out.trans (hb1.mono HB0.out.size))
    clear hown1 hb1
    go_wp2_with fail
    go_loopw [0, 5] (fun v j wr => ∃ i : Nat, i ≤ l.length ∧ j = .int .i64 i ∧ Sl wr (fun k => k < w.heap.size) 1 v (b ++ bpre l i).length (BVs (b ++ bpre l i)) ∧ Below w.heap.size w wr) (fun _ j _ => l.length - (intOf j).toNat)
    case atStart => exact ⟨0, Nat.zero_le _, rfl, HO1.out, HB1.out⟩
    case round =>
      obtain ⟨i, hi, rfl, hsl, hb⟩ := hrel
      clear HO1 HB1
      by_cases hlt : i < l.length
      · obtain ⟨ad, Ar, cr, rfl, ⟨a0, a1, a2, a3, a4, a5, a6, a7, a8⟩, hls⟩ := (HB.out.after hb).at_ hlt
        have hrl := HR.out _ (List.getElem_mem hlt)
        obtain ⟨ok1, ok2⟩ := HOK.out _ (List.getElem_mem hlt)
        have HST := Lib.hid (bpre_step hlt)
        have HAT : ∀ W (b : Below w.heap.size w W), Hid (W.cell? ⟨(ad.add (i * 9)).block, (ad.add (i * 9)).off + 7, none⟩ = some (.int .i64 l[i].s.1) ∧ W.cell? ⟨(ad.add (i * 9)).block, (ad.add (i * 9)).off + 8, none⟩ = some (.int .i64 l[i].s.2)) := fun W b => Lib.hid (by
          obtain ⟨ad', Ar', cr', hA, ⟨_, _, _, _, _, _, _, b7, b8⟩, -⟩ := (HB.out.after b).at_ hlt
          obtain rfl : ad = ad' := Option.some.inj hA
          exact ⟨b7, b8⟩)
        have HRM := Lib.hid (HRO.out i hlt)
        generalize hx : l[i] = x at *
        have HQL := Lib.hid (qform_len x.q)
        have HSL := Lib.hid (sform_len x.s)
        have HDB := Lib.hid (dB_app ok1 ok2 (b ++ bpre l i))
        have HC := Lib.hid (rqbytes_any x.q (QV x.q Ar cr) X wr ⟨Ar, cr, rfl, hls⟩ hrl)
        have HSL1 := Lib.hid hsl
        have HBB := Lib.hid hb
        have HBL1 := HBL i
        obtain ⟨Av, cv, rfl, -⟩ := id hsl
        unfold Byt at HC
        rw [ok1] at HC
        clear hls hb hx hsl ok1 ok2
        unfold QV QC at HC
        have HFIN : Hid (b ++ bpre l (i + 1) = b ++ bpre l i ++ Cm.encB (qform x.q) ++ sform x.s) := Lib.hid (by rw [HST.out, ← List.append_assoc, HDB.out])
        have HRB : Hid ((b ++ bpre l i).length + (Cm.encB (qform x.q)).length + (sform x.s).length ≤ 140737488355313) := Lib.hid (by have := HRM.out; have := HBBL.out; rw [List.length_append]; omega)
        clear HRM HBL1 HDB HST
        generalize b ++ bpre l i = bp at *
        have hip : (0 : Int) ≤ (i : Int) := by omega
        have hil : (i : Int) < (l.length : Int) := by omega
        go_wp2_with fail
        refine HC.out.mono ?_
        rintro e w2 ⟨v2, rfl, hsl2, hb2⟩
        obtain ⟨Ax, cx, rfl, -⟩ := id hsl2
        have HB2 := Lib.hid (HBB.out.trans (hb2.mono HBB.out.size))
        have HS2 := Lib.hid (HSL1.out.after hb2)
        have HX2 := Lib.hid hsl2
        clear hsl2 hb2 a0 a1 a2 a3 a4 a5 a6 a7 a8
        go_wp2_with fail
        have HP1 := Lib.hid (rputbytes_any (fun k => k < w.heap.size) _ _ _ _ _ bp (qform x.q) w2.drew HS2.out.drew HX2.out.drew (by have := HRB.out; rw [Cm.encB_len] at this; omega) (by have := HRB.out; rw [Cm.encB_len] at this; omega))
        have HP2 : Hid (∀ W v, W.ownsRow w2.heap.size 5 1 v (bp ++ Cm.encB (qform x.q)).length (BVs (bp ++ Cm.encB (qform x.q))) → Calls Tryz.prog 89 #[v, .agg #[.int .i64 x.s.1, .int .i64 x.s.2]] W fun e w' => ∃ v', e = .returned v' ∧ Sl w' (fun k => k < w.heap.size ∧ k < W.heap.size) 1 v' (bp ++ Cm.encB (qform x.q) ++ sform x.s).length (BVs (bp ++ Cm.encB (qform x.q) ++ sform x.s)) ∧ Below W.heap.size W w') := Lib.hid fun W v ho => rputsign_any x.s (fun k => k < w.heap.size) v _ _ W (Sl.of_own ho (fun k h1 _ h2 => by have := HB2.out.size; omega)) (by
          have h1 := HRB.out
          rw [List.length_append]; omega)
        obtain ⟨j7, j8⟩ := (HAT _ HB2.out).out
        have tok1 : True := trivial
        --CUT1
        go_region_held3 (fun w' => w'.cell? ⟨(ad.add (i * 9)).block, (ad.add (i * 9)).off + 7, none⟩ = some (.int .i64 x.s.1) ∧ w'.cell? ⟨(ad.add (i * 9)).block, (ad.add (i * 9)).off + 8, none⟩ = some (.int .i64 x.s.2)) (first | exact ⟨j7, j8⟩ | exact ⟨k7, k8⟩ | exact ⟨q7, q8⟩)
          (first
          | (go_at_call 90; have _t := tok1; clear tok1 _t; refine HP1.out.mono ?_; rintro e w3 ⟨v3, rfl, hown3, hb3⟩; have HB3 := Lib.hid (HB2.out.trans ((Ga.below_of_drew hb3).mono HB2.out.size)); obtain ⟨k7, k8⟩ := (HAT _ HB3.out).out; have HO3 : Hid (w3.ownsRow w2.heap.size 5 1 v3 _ _) := Lib.hid hown3; clear hown3 hb3)
          | (go_at_call 89; refine (HP2.out _ _ HO3.out).mono ?_; rintro e w4 ⟨v4, rfl, hsl4, hb4⟩; have HB4 := Lib.hid (HB3.out.trans (hb4.mono HB3.out.size)); obtain ⟨q7, q8⟩ := (HAT _ HB4.out).out; have HO4 := Lib.hid hsl4; clear hsl4 hb4))
        all_goals
          go_wp2_with fail
          go_roundw
          case rel => exact ⟨i + 1, by omega, by go_num, by rw [HFIN.out]; exact HO4.out.weaken (fun k _ h => ⟨h, by have := HB3.out.size; omega⟩), HB4.out⟩
          case measure => simp [intOf]; omega
      · have hke : i = l.length := by omega
        subst hke
        have HN : Hid (Behind w Y (b ++ bform l) _ wr) := Lib.hid ⟨_, rfl, by rw [HBF.out, ← HBA.out]; exact hsl.weaken (fun k _ h => h.2), hb⟩
        clear hsl hb
        go_wp2_with fail
        go_ret
        exact HN.out
  · have hd : (bcheck l != 0) = true := by simpa using hc
    have hd2 : (bcheck l == 0) = false := by simpa using hc
    have HSF : Hid (bform l = []) := Lib.hid (by rw [bform, if_pos hc])
    clear hc
    go_enter Tryz.func52, Tryz.ntmps52
    go_wp2_with fail
    refine HCK.out.mono ?_
    rintro e w1 ⟨rfl, hb1⟩
    have HW1 := Lib.hid hb1
    clear hb1
    go_wp2_with fail
    go_ret
    refine ⟨vb, rfl, ?_, HW1.out⟩
    rw [HSF.out, List.append_nil]
    exact (HSB.out.after HW1.out).weaken (fun _ _ h => h.1)
end Go.Proofs.YtmhmnkpaijoaaaaGreat.Je
