/-
  Layer 8 (request): a batch's form; PutBatch; the document's CheckBatch and PutBatch.
-/
import Derived.Test.YtebjjkhiniccgaaGreatZ09
import Derived.Test.YtebjjkhiniccgaaGreatZ10
import Derived.BigQuiet
import Derived.Test.YtebjjkhiniccgaaGreatZ05
import Derived.Test.YtebjjkhiniccgaaGreatZ08
import Derived.Deep.RegionLaw
import Derived.Deep.RegionHeld3
import Derived.Laws.StructEq
import Derived.Outline
import Derived.Test.YtebjjkhiniccgaaGreatZ02
namespace Go.Proofs.YtebjjkhiniccgaaGreat.Je
set_option linter.unusedSimpArgs false
open Go Go.RowKit Ck Kw Ca Cb Cd Ga Kf Pm Pe Pg Ph Pk Pn Pj Po Qb Lk Jm Ja Jb Jc Jd
attribute [local go_sem ↓] Go.wp_at_zero Go.wp_at_succ
set_option linter.unusedVariables false

/-- A batch's bytes, so far. -/
def bpre (l : List Sd) (i : Nat) : List UInt8 := Cm.enc l.length ++ (l.take i).flatMap dB
theorem bpre_len {l : List Sd} (h : bcheck l = 0) (i : Nat) : (bpre l i).length ≤ 4081 := by
  obtain ⟨h1, h2, _⟩ := bcheck_ok h
  have h3 := flat_dB (l := l.take i) (fun x hx => h2 x (List.mem_of_mem_take hx))
  have h4 := enc_1 (n := l.length) (by omega)
  have h5 : (l.take i).length ≤ l.length := by rw [List.length_take]; omega
  simp only [bpre, List.length_append]
  omega
theorem bpre_step {l : List Sd} {i : Nat} (hi : i < l.length) : bpre l (i + 1) = bpre l i ++ dB l[i] := by
  rw [bpre, bpre, List.take_succ_eq_append_getElem hi, List.flatMap_append, List.append_assoc]
  simp
theorem bpre_all (l : List Sd) : bpre l l.length = braw l := by rw [bpre, List.take_length, braw]
theorem bpre_zero (l : List Sd) : bpre l 0 = Cm.enc l.length := by simp [bpre]
theorem bpre_room {l : List Sd} (h : bcheck l = 0) {i : Nat} (hi : i < l.length) : (bpre l i).length + (Cm.encB (qform l[i].q)).length + (sform l[i].s).length ≤ 4081 := by
  have h1 := bpre_len h (i + 1)
  obtain ⟨_, h2, _⟩ := bcheck_ok h
  obtain ⟨h3, h4⟩ := h2 _ (List.getElem_mem hi)
  rw [bpre_step hi, dB, ← qform_eq h3, ← sform_eq h4] at h1
  simp only [List.length_append] at h1
  omega
theorem dB_app {x : Sd} (hq : qcheck x.q = 0) (hs : scheck x.s = 0) (b : List UInt8) : b ++ dB x = b ++ Cm.encB (qform x.q) ++ sform x.s := by
  rw [qform_eq hq, sform_eq hs, dB, List.append_assoc]

set_option maxRecDepth 100000 in
set_option maxHeartbeats 4000000 in
theorem lform_any (w : World) (X : Nat → Prop) (A : Option Addr) (c : Nat) (l : List Sd) (h : BI w X (.slice A l.length c) l) (hc : bcheck l = 0) (hr : ∀ x ∈ l, x.q.o.recs.length ≤ 140737488355328) :
    Calls Tryz.prog 87 #[.slice A l.length c] w fun e w' => Made w 5 (braw l) e w' := by
  have HB := Lib.hid h
  have HR := Lib.hid hr
  have HBL := fun i => Lib.hid (bpre_len hc i)
  obtain ⟨h4, hok, _⟩ := bcheck_ok hc
  have HOK := Lib.hid hok
  have hwl := wrap_u64' l.length (by omega)
  have HBA := Lib.hid (bpre_all l)
  have HBZ := Lib.hid (bpre_zero l)
  clear h hc hr hok
  go_enter Tryz.func87, Tryz.ntmps87
  go_wp2_with fail
  refine (putnum_any (fun _ => False) (.slice none 0 0) 0 [] l.length _ (Sl.nil _ _ _) (by omega) (by omega)).mono ?_
  rintro e w1 ⟨v1, rfl, hown1, hb1⟩
  have HO1 : Hid (w1.ownsRow w.heap.size 5 1 v1 (bpre l 0).length (BVs (bpre l 0))) := Lib.hid (by rw [HBZ.out]; exact hown1)
  have HB1 := Lib.hid hb1
  clear hown1 hb1
  go_wp2_with fail
  go_loopw [3, 14] (fun v j wr => ∃ i : Nat, i ≤ l.length ∧ j = .int .i64 i ∧ wr.ownsRow w.heap.size 5 1 v (bpre l i).length (BVs (bpre l i)) ∧ Below w.heap.size w wr) (fun _ j _ => l.length - (intOf j).toNat)
  case atStart => exact ⟨0, Nat.zero_le _, rfl, HO1.out, HB1.out⟩
  case round =>
    obtain ⟨i, hi, rfl, hown, hb⟩ := hrel
    clear HO1 HB1
    by_cases hlt : i < l.length
    · obtain ⟨ad, Ar, cr, rfl, ⟨a0, a1, a2, a3, a4, a5, a6, a7, a8⟩, hls⟩ := (HB.out.after hb).at_ hlt
      have hrl := HR.out _ (List.getElem_mem hlt)
      obtain ⟨ok1, ok2⟩ := HOK.out _ (List.getElem_mem hlt)
      have HST := Lib.hid (bpre_step hlt)
      generalize hx : l[i] = x at *
      have HQL := Lib.hid (qform_len x.q)
      have HSL := Lib.hid (sform_len x.s)
      have HDB := Lib.hid (dB_app ok1 ok2 (bpre l i))
      have HC := Lib.hid (qbytes_any x.q (QV x.q Ar cr) X _ ⟨Ar, cr, rfl, hls.after (op_below wr (.cells (DC x Ar cr) 53))⟩ hrl)
      have hk1 := k1_new hb x Ar cr
      have HOW : Hid ((wr.alloc (.cells (DC x Ar cr) 53)).ownsRow w.heap.size 5 1 _ (bpre l i).length (BVs (bpre l i))) := Lib.hid (hown.alloc _)
      have HBL1 := HBL i
      obtain ⟨Av, cv, rfl⟩ := own_shape hown
      unfold Byt at HC
      rw [ok1] at HC
      clear hls hb hx hown ok1 ok2
      unfold QV QC at HC
      unfold DC at hk1 HC HOW
      generalize bpre l i = bp at *
      go_wp2_with fail
      generalize wr.alloc (.cells #[.int .i64 x.q.client, .int .i64 x.q.time, .int .i64 x.q.o.kind, .string ⟨x.q.o.topic.toArray⟩, .string ⟨x.q.o.group.toArray⟩, .int .i64 x.q.o.off, .slice Ar x.q.o.recs.length cr, .int .i64 x.s.1, .int .i64 x.s.2] 53) = w1 at *
      generalize wr.heap.size = g1 at *
      have HK := Lib.hid hk1
      clear hk1 a0 a1 a2 a3 a4 a5 a6 a7 a8
      refine HC.out.mono ?_
      rintro e w2 ⟨v2, rfl, hsl2, hb2⟩
      obtain ⟨Ax, cx, rfl, -⟩ := id hsl2
      have HK2 := Lib.hid (HK.out.later hb2)
      have HOW2 := Lib.hid (own_below HOW.out hb2)
      have HX2 := Lib.hid hsl2
      clear hsl2 hb2
      go_wp2_with fail
      have HP1 := Lib.hid (putbytes_any (fun _ => False) _ _ _ _ bp (qform x.q) w2.drew (Sl.of_own HOW2.out.drew (fun _ _ _ h => h)) (HX2.out.drew.weaken (fun _ _ h => h.elim)) (by have := HBL1.out; omega) (by have := HBL1.out; have := HQL.out; omega))
      have HP2 : Hid (∀ W v, W.ownsRow w2.heap.size 5 1 v (bp ++ Cm.encB (qform x.q)).length (BVs (bp ++ Cm.encB (qform x.q))) → Calls Tryz.prog 113 #[v, .agg #[.int .i64 x.s.1, .int .i64 x.s.2]] W fun e w' => Made W 5 (bp ++ Cm.encB (qform x.q) ++ sform x.s) e w') := Lib.hid fun W v ho => putsign_any x.s (fun _ => False) v _ _ W (Sl.of_own ho (fun _ _ _ h => h)) (by
        have h1 := HBL1.out; have h2 := HQL.out; have h3 := (Cm.enc_len (qform x.q).length).1
        rw [List.length_append, Cm.encB_len]; omega)
      obtain ⟨-, -, -, -, -, -, -, j7, j8⟩ := HK2.out.one.cells
      have tok1 : True := trivial
      go_region_held3 (fun w' => w'.cell? ⟨g1, 7, none⟩ = some (.int .i64 x.s.1) ∧ w'.cell? ⟨g1, 8, none⟩ = some (.int .i64 x.s.2)) (first | exact ⟨j7, j8⟩ | exact ⟨k7, k8⟩ | exact ⟨q7, q8⟩)
        (first
        | (go_at_call 114; have _t := tok1; clear tok1 _t; refine HP1.out.mono ?_; rintro e w3 ⟨v3, rfl, hown3, hb3⟩; have HK3 := Lib.hid (HK2.out.later (Ga.below_of_drew hb3)); obtain ⟨-, -, -, -, -, -, -, k7, k8⟩ := HK3.out.one.cells; have HO3 : Hid (w3.ownsRow w2.heap.size 5 1 v3 _ _) := Lib.hid hown3; clear hown3 hb3)
        | (go_at_call 113; refine (HP2.out _ _ HO3.out).mono ?_; rintro e w4 ⟨v4, rfl, hown4, hb4⟩; have HK4 := Lib.hid (HK3.out.later hb4); obtain ⟨-, -, -, -, -, -, -, q7, q8⟩ := HK4.out.one.cells; have HO4 := Lib.hid (own_base hown4 HK3.out.below.size); clear hown4 hb4))
      all_goals
        go_wp2_with fail
        go_roundw
        case rel => exact ⟨i + 1, by omega, by go_num, by rw [HST.out, HDB.out]; exact HO4.out, HK4.out.below⟩
        case measure => simp [intOf]; omega
    · have hke : i = l.length := by omega
      subst hke
      have HN : Hid (Made w 5 (braw l) _ wr) := Lib.hid (Made.of_parts (by rw [← HBA.out]; exact hown) hb)
      clear hown hb
      go_wp2_with fail
      go_ret
      exact HN.out

set_option maxRecDepth 100000 in
set_option maxHeartbeats 1000000 in
theorem putbatch_any (l : List Sd) (vl : Value) (X Y : Nat → Prop) (vb : Value) (nb : Nat) (b : List UInt8) (w : World) (h : BI w X vl l) (hr : ∀ x ∈ l, x.q.o.recs.length ≤ 140737488355328) (hl63 : l.length ≤ 140737488355328) (hb : Sl w Y 1 vb nb (BVs b)) (hbl : b.length ≤ 140737488351232) :
    Calls Tryz.prog 58 #[vb, vl] w fun e w' => Made w 5 (b ++ bform l) e w' := by
  obtain ⟨A, c, rfl, -⟩ := h.shape
  have HCK := Lib.hid (cbatch_any w X _ l h hr hl63)
  have HP : Hid (∀ W : World, Below w.heap.size w W → Calls Tryz.prog 86 #[vb, .int .i64 (bcheck l), .func (.func 87) #[.slice A l.length c] #[]] W fun e w' => Made W 5 (b ++ bform l) e w') := Lib.hid fun W hW => by
    by_cases hs : bcheck l = 0
    · rw [hs, bform_eq hs]
      have := braw_len hs
      exact put_list _ _ (by omega) Y vb nb b W (hb.after hW) hbl (Lib.hid (lform_any W X A c l (h.after hW) hs hr))
    · have : bform l = [] := by rw [bform, if_pos hs]
      rw [this, List.append_nil]
      exact put_no _ hs _ Y vb nb b W (hb.after hW) hbl
  clear hb hbl h hr
  generalize bform l = f at *
  go_enter Tryz.func58, Tryz.ntmps58
  go_wp2_with fail
  refine HCK.out.mono ?_
  rintro e w1 ⟨rfl, hb1⟩
  have HB1 := Lib.hid hb1
  clear hb1
  go_wp2_with fail
  refine (HP.out _ HB1.out).mono ?_
  rintro e w2 ⟨v2, rfl, hown2, hb2⟩
  have HO2 := Lib.hid (own_base hown2 HB1.out.size)
  have HB2 := Lib.hid (HB1.out.trans (hb2.mono HB1.out.size))
  clear hown2 hb2
  go_wp2_with fail
  go_ret
  exact ⟨v2, rfl, HO2.out, HB2.out⟩

theorem mom_eq {x y : Sd} (h1 : x.q.client = y.q.client) (h2 : x.q.time = y.q.time) : (mom x == mom y) = true := by rw [mom, mom, pair_beq, h1, h2]; simp
theorem mom_ne1 {x y : Sd} (h1 : x.q.client ≠ y.q.client) : (mom x == mom y) = false := by rw [mom, mom, pair_beq, decide_eq_false h1]; rfl
theorem mom_ne2 {x y : Sd} (h2 : x.q.time ≠ y.q.time) : (mom x == mom y) = false := by rw [mom, mom, pair_beq, decide_eq_false h2, Bool.and_false]

set_option maxRecDepth 100000 in
set_option maxHeartbeats 8000000 in
theorem rcbatch_any (w : World) (X : Nat → Prop) (v : Value) (l : List Sd) (h : BI w X v l) (hr : ∀ x ∈ l, x.q.o.recs.length ≤ 140737488355328) (hl63 : l.length ≤ 140737488355328) :
    Calls Tryz.prog 41 #[v] w fun e w' => e = .returned (.int .i64 (bcheck l)) ∧ Below w.heap.size w w' := by
  obtain ⟨A, c, rfl, -⟩ := h.shape
  by_cases h4 : 4 < l.length
  · have hd : decide (4 < (l.length : Int)) = true := decide_eq_true (by omega)
    have HN : Hid (bcheck l = 3) := Lib.hid (by rw [bcheck, if_pos h4])
    clear h
    go_enter Tryz.func41, Tryz.ntmps41
    go_wp2_with fail
    go_ret
    exact ⟨by rw [HN.out]; rfl, Below.refl _ w⟩
  · have hd : decide (4 < (l.length : Int)) = false := decide_eq_false (by omega)
    have h4' : l.length ≤ 4 := by omega
    have HB := Lib.hid h
    have HR := Lib.hid hr
    have HQ : Hid (bcheck l = if lcheck l ≠ 0 then lcheck l else if twice l then 5 else 0) := Lib.hid (by rw [bcheck, if_neg h4])
    clear h hr h4
    go_enter Tryz.func41, Tryz.ntmps41
    go_wp2_with fail
    go_loopw [3] (fun j wr => ∃ i : Nat, i ≤ l.length ∧ j = .int .i64 i ∧ lcheck (l.drop i) = lcheck l ∧ Below w.heap.size w wr) (fun j _ => l.length - (intOf j).toNat)
    case atStart => exact ⟨0, Nat.zero_le _, rfl, rfl, Below.refl _ w⟩
    case round =>
      obtain ⟨i, hi, rfl, hlc, hb⟩ := hrel
      by_cases hlt : i < l.length
      · rw [lcheck_drop hlt] at hlc
        have hat := (HB.out.after hb).at_ hlt
        obtain ⟨ad, Ar, cr, rfl, ⟨a0, a1, a2, a3, a4, a5, a6, a7, a8⟩, hls⟩ := hat
        have hrl := HR.out _ (List.getElem_mem hlt)
        have HAT := fun W (b : Below w.heap.size w W) => Lib.hid ((HB.out.after b).at_ hlt)
        generalize hx : l[i] = x at *
        have HC := Lib.hid (rcheck_any x.q (QV x.q Ar cr) X wr ⟨Ar, cr, rfl, hls⟩ hrl)
        have HBB := Lib.hid hb
        have HLC := Lib.hid hlc
        have HDQ : Hid (dcheck x = if qcheck x.q ≠ 0 then qcheck x.q else scheck x.s) := Lib.hid rfl
        clear hlc hls hb hx
        unfold QV QC at HC
        go_wp2_with fail
        refine HC.out.mono ?_
        rintro e w2 ⟨he, hb2⟩
        have HB2 := Lib.hid (HBB.out.trans (hb2.mono HBB.out.size))
        clear hb2 a0 a1 a2 a3 a4 a5 a6 a7 a8
        by_cases hq : qcheck x.q = 0
        · rw [hq] at he HDQ
          subst he
          obtain ⟨ad', Ar', cr', hA, ⟨b0, b1, b2, b3, b4, b5, b6, b7, b8⟩, -⟩ := (HAT _ HB2.out).out
          obtain rfl : ad = ad' := Option.some.inj hA
          clear hA hq b0 b1 b2 b3 b4 b5 b6
          have HCS := Lib.hid (rcsign_any x.s w2)
          unfold GV at HCS
          go_wp2_with fail
          refine HCS.out.mono ?_
          rintro e w3 ⟨he, hb3⟩
          have HB3 := Lib.hid (HB2.out.trans (hb3.mono HB2.out.size))
          clear hb3
          by_cases hs : scheck x.s = 0
          · rw [hs] at he HDQ
            subst he
            have HN := Lib.hid (show lcheck (l.drop (i + 1)) = lcheck l by rw [← HLC.out, if_neg (by rw [HDQ.out]; simp)])
            clear hs
            go_wp2_with fail
            go_roundw
            case rel => exact ⟨i + 1, by omega, by go_num, HN.out, HB3.out⟩
            case measure => simp [intOf]; omega
          · subst he
            have HD : Hid (dcheck x = scheck x.s) := Lib.hid (by rw [HDQ.out]; simp)
            have HN := Lib.hid (show bcheck l = scheck x.s by
              have hd0 : dcheck x ≠ 0 := by rw [HD.out]; exact hs
              have e : dcheck x = lcheck l := by have := HLC.out; rwa [if_pos hd0] at this
              rw [HQ.out, ← e, if_pos hd0, HD.out])
            have hne : (scheck x.s != 0) = true := by simpa using hs
            have hne2 : (scheck x.s == 0) = false := by simpa using hs
            clear hs
            go_wp2_with fail
            go_ret
            exact ⟨by rw [HN.out]; rfl, HB3.out⟩
        · subst he
          have HD : Hid (dcheck x = qcheck x.q) := Lib.hid (by rw [HDQ.out, if_pos hq])
          have HN := Lib.hid (show bcheck l = qcheck x.q by
            have hd0 : dcheck x ≠ 0 := by rw [HD.out]; exact hq
            have e : dcheck x = lcheck l := by have := HLC.out; rwa [if_pos hd0] at this
            rw [HQ.out, ← e, if_pos hd0, HD.out])
          have hne : (qcheck x.q != 0) = true := by simpa using hq
          have hne2 : (qcheck x.q == 0) = false := by simpa using hq
          clear hq
          go_wp2_with fail
          go_ret
          exact ⟨by rw [HN.out]; rfl, HB2.out⟩
      · have hz : l.drop i = [] := List.drop_eq_nil_iff.2 (by omega)
        rw [hz] at hlc
        have HN : Hid (bcheck l = if twice l then 5 else 0) := Lib.hid (by rw [HQ.out, ← hlc]; rfl)
        have HBB := Lib.hid hb
        have HT : Hid (twI (l.take 0) (l.drop 0) = twice l) := Lib.hid rfl
        clear hlc hz hb HQ
        go_wp2_with fail
        go_loopw [6] (fun j wr => ∃ i : Nat, i ≤ l.length ∧ j = .int .i64 i ∧ twI (l.take i) (l.drop i) = twice l ∧ Below w.heap.size w wr) (fun j _ => l.length - (intOf j).toNat)
        case atStart => exact ⟨0, Nat.zero_le _, rfl, HT.out, HBB.out⟩
        case round =>
          obtain ⟨i, hi, rfl, htw, hb⟩ := hrel
          clear HT HBB
          by_cases hlt : i < l.length
          · rw [twI_step hlt] at htw
            obtain ⟨ad, Ar, cr, hA, ⟨a0, a1, -⟩, -⟩ := (HB.out.after hb).at_ hlt
            subst hA
            have HAT := fun W (b : Below w.heap.size w W) => Lib.hid ((HB.out.after b).at_ hlt)
            have HBB := Lib.hid hb
            have HTW := Lib.hid htw
            have HM0 : Hid (hasM (l.take 0) l[i] = false) := Lib.hid rfl
            clear htw hb a0 a1
            have hip : (0 : Int) ≤ (i : Int) := by omega
            have hil : (i : Int) < (l.length : Int) := by omega
            generalize hx : l[i] = x at *
            clear hx
            go_wp2_with fail
            go_loopw [7] (fun j wr => ∃ k : Nat, k ≤ i ∧ j = .int .i64 k ∧ hasM (l.take k) x = false ∧ Below w.heap.size w wr) (fun j _ => i - (intOf j).toNat)
            case atStart => exact ⟨0, Nat.zero_le _, rfl, HM0.out, HBB.out⟩
            case round =>
              obtain ⟨k, hk, rfl, hm, hb⟩ := hrel
              clear HM0 HBB
              by_cases hlt2 : k < i
              · have hl2 : k < l.length := by omega
                obtain ⟨ad', Ar', cr', hA, ⟨a0, a1, -⟩, -⟩ := (HAT _ hb).out
                obtain rfl : ad = ad' := Option.some.inj hA
                obtain ⟨ad', Ar2, cr2, hA, ⟨b0, b1, -⟩, -⟩ := (HB.out.after hb).at_ hl2
                obtain rfl : ad = ad' := Option.some.inj hA
                have hst := hasM_take (x := x) hl2
                have hof : (mom x == mom l[k]) = true → hasM (l.take i) x = true := fun e => hasM_of hlt2 hl2 e
                generalize hy : l[k] = y at *
                have HHM : Hid (hasM (l.take (k + 1)) x = (mom x == mom y)) := Lib.hid (by rw [hst, hm, Bool.false_or])
                have HOF := Lib.hid hof
                have HBB := Lib.hid hb
                clear hst hm hA hy hof hb
                by_cases h1 : x.q.client = y.q.client
                · have e1 : (x.q.client == y.q.client) = true := by rw [h1]; exact beq_self_eq_true _
                  by_cases h2 : x.q.time = y.q.time
                  · have e2 : (x.q.time == y.q.time) = true := by rw [h2]; exact beq_self_eq_true _
                    have HME := Lib.hid (mom_eq h1 h2)
                    clear h1 h2
                    go_wp2
                    go_quiet (fail)
                    go_wp2
                    go_ret
                    exact ⟨by rw [HN.out, ← HTW.out, HOF.out HME.out]; rfl, below_drewN HBB.out _⟩
                  · have e2 : (x.q.time == y.q.time) = false := beq_eq_false_iff_ne.2 h2
                    have HME := Lib.hid (mom_ne2 (x := x) h2)
                    clear h1 h2
                    go_wp2
                    go_quiet (fail)
                    go_wp2
                    go_roundw
                    case rel => exact ⟨k + 1, by omega, by go_num, by rw [HHM.out, HME.out], below_drewN HBB.out _⟩
                    case measure => simp [intOf]; omega
                · have e1 : (x.q.client == y.q.client) = false := beq_eq_false_iff_ne.2 h1
                  have HME := Lib.hid (mom_ne1 (x := x) h1)
                  clear h1
                  go_wp2
                  go_quiet (fail)
                  go_wp2
                  go_roundw
                  case rel => exact ⟨k + 1, by omega, by go_num, by rw [HHM.out, HME.out], below_drewN HBB.out _⟩
                  case measure => simp [intOf]; omega
              · have hke : k = i := by omega
                subst hke
                have HNM := Lib.hid hm
                have HBB := Lib.hid hb
                clear hm hb
                go_wp2_with fail
                go_roundw
                case rel => exact ⟨k + 1, by omega, by go_num, by rw [← HTW.out, HNM.out]; rfl, HBB.out⟩
                case measure => simp [intOf]; omega
          · have hz : l.drop i = [] := List.drop_eq_nil_iff.2 (by omega)
            rw [hz] at htw
            have HN2 : Hid (bcheck l = 0) := Lib.hid (by rw [HN.out, ← htw]; rfl)
            have HBB := Lib.hid hb
            clear htw hz hb
            go_wp2_with fail
            go_ret
            exact ⟨by rw [HN2.out]; rfl, HBB.out⟩

set_option maxRecDepth 100000 in
set_option maxHeartbeats 4000000 in
theorem rputbatch_any (l : List Sd) (vl : Value) (X Y : Nat → Prop) (vb : Value) (nb : Nat) (b : List UInt8) (w : World) (h : BI w X vl l) (hr : ∀ x ∈ l, x.q.o.recs.length ≤ 140737488355328) (hl63 : l.length ≤ 140737488355328) (hb : Sl w Y 1 vb nb (BVs b)) (hbl : b.length ≤ 140737488351232) :
    Calls Tryz.prog 59 #[vb, vl] w (Behind w Y (b ++ bform l)) := by
  have hnb := sl_len hb
  subst hnb
  obtain ⟨A, c, rfl, -⟩ := h.shape
  have HCK := Lib.hid (rcbatch_any w X _ l h hr hl63)
  have HB := Lib.hid h
  have HR := Lib.hid hr
  have HSB := Lib.hid hb
  have HBBL := Lib.hid hbl
  clear h hr hb hbl
  by_cases hc : bcheck l = 0
  · rw [hc] at HCK
    have HBL := fun i => Lib.hid (bpre_len hc i)
    have HRO := Lib.hid fun (i : Nat) (hi : i < l.length) => bpre_room hc hi
    have HBF := Lib.hid (bform_eq hc)
    obtain ⟨h4, hok, _⟩ := bcheck_ok hc
    have HOK := Lib.hid hok
    have hwl := wrap_u64' l.length (by omega)
    have HBA := Lib.hid (bpre_all l)
    have HBZ := Lib.hid (bpre_zero l)
    clear hc hok
    go_enter Tryz.func59, Tryz.ntmps59
    go_wp2_with fail
    refine HCK.out.mono ?_
    rintro e w0 ⟨rfl, hb0⟩
    have HB0 := Lib.hid hb0
    clear hb0
    go_wp2_with fail
    refine (rputnum_any Y vb b.length b l.length w0 (HSB.out.after HB0.out) (by have := HBBL.out; omega) (by omega)).mono ?_
    rintro e w1 ⟨v1, rfl, hown1, hb1⟩
    have HO1 : Hid (Sl w1 (fun k => k < w.heap.size) 1 v1 (b ++ bpre l 0).length (BVs (b ++ bpre l 0))) := Lib.hid (by rw [HBZ.out]; exact Sl.of_own hown1 (fun k h1 _ h2 => by have := HB0.out.size; omega))
    have HB1 := Lib.hid (HB0.out.trans (hb1.mono HB0.out.size))
    clear hown1 hb1
    go_wp2_with fail
    go_loopw [0, 5] (fun v j wr => ∃ i : Nat, i ≤ l.length ∧ j = .int .i64 i ∧ Sl wr (fun k => k < w.heap.size) 1 v (b ++ bpre l i).length (BVs (b ++ bpre l i)) ∧ Below w.heap.size w wr) (fun _ j _ => l.length - (intOf j).toNat)
    case atStart => exact ⟨0, Nat.zero_le _, rfl, HO1.out, HB1.out⟩
    case round =>
      obtain ⟨i, hi, rfl, hsl, hb⟩ := hrel
      clear HO1 HB1
      by_cases hlt : i < l.length
      · obtain ⟨ad, Ar, cr, rfl, ⟨a0, a1, a2, a3, a4, a5, a6, a7, a8⟩, hls⟩ := (HB.out.after hb).at_ hlt
        have hrl := HR.out _ (List.getElem_mem hlt)
        obtain ⟨ok1, ok2⟩ := HOK.out _ (List.getElem_mem hlt)
        have HST := Lib.hid (bpre_step hlt)
        have HAT : ∀ W (b : Below w.heap.size w W), Hid (W.cell? ⟨(ad.add (i * 9)).block, (ad.add (i * 9)).off + 7, none⟩ = some (.int .i64 l[i].s.1) ∧ W.cell? ⟨(ad.add (i * 9)).block, (ad.add (i * 9)).off + 8, none⟩ = some (.int .i64 l[i].s.2)) := fun W b => Lib.hid (by
          obtain ⟨ad', Ar', cr', hA, ⟨_, _, _, _, _, _, _, b7, b8⟩, -⟩ := (HB.out.after b).at_ hlt
          obtain rfl : ad = ad' := Option.some.inj hA
          exact ⟨b7, b8⟩)
        have HRM := Lib.hid (HRO.out i hlt)
        generalize hx : l[i] = x at *
        have HQL := Lib.hid (qform_len x.q)
        have HSL := Lib.hid (sform_len x.s)
        have HDB := Lib.hid (dB_app ok1 ok2 (b ++ bpre l i))
        have HC := Lib.hid (rqbytes_any x.q (QV x.q Ar cr) X wr ⟨Ar, cr, rfl, hls⟩ hrl)
        have HSL1 := Lib.hid hsl
        have HBB := Lib.hid hb
        have HBL1 := HBL i
        obtain ⟨Av, cv, rfl, -⟩ := id hsl
        unfold Byt at HC
        rw [ok1] at HC
        clear hls hb hx hsl ok1 ok2
        unfold QV QC at HC
        have HFIN : Hid (b ++ bpre l (i + 1) = b ++ bpre l i ++ Cm.encB (qform x.q) ++ sform x.s) := Lib.hid (by rw [HST.out, ← List.append_assoc, HDB.out])
        have HRB : Hid ((b ++ bpre l i).length + (Cm.encB (qform x.q)).length + (sform x.s).length ≤ 140737488355313) := Lib.hid (by have := HRM.out; have := HBBL.out; rw [List.length_append]; omega)
        clear HRM HBL1 HDB HST
        generalize b ++ bpre l i = bp at *
        have hip : (0 : Int) ≤ (i : Int) := by omega
        have hil : (i : Int) < (l.length : Int) := by omega
        go_wp2_with fail
        refine HC.out.mono ?_
        rintro e w2 ⟨v2, rfl, hsl2, hb2⟩
        obtain ⟨Ax, cx, rfl, -⟩ := id hsl2
        have HB2 := Lib.hid (HBB.out.trans (hb2.mono HBB.out.size))
        have HS2 := Lib.hid (HSL1.out.after hb2)
        have HX2 := Lib.hid hsl2
        clear hsl2 hb2 a0 a1 a2 a3 a4 a5 a6 a7 a8
        go_wp2_with fail
        have HP1 := Lib.hid (rputbytes_any (fun k => k < w.heap.size) _ _ _ _ _ bp (qform x.q) w2.drew HS2.out.drew HX2.out.drew (by have := HRB.out; rw [Cm.encB_len] at this; omega) (by have := HRB.out; rw [Cm.encB_len] at this; omega))
        have HP2 : Hid (∀ W v, W.ownsRow w2.heap.size 5 1 v (bp ++ Cm.encB (qform x.q)).length (BVs (bp ++ Cm.encB (qform x.q))) → Calls Tryz.prog 88 #[v, .agg #[.int .i64 x.s.1, .int .i64 x.s.2]] W fun e w' => ∃ v', e = .returned v' ∧ Sl w' (fun k => k < w.heap.size ∧ k < W.heap.size) 1 v' (bp ++ Cm.encB (qform x.q) ++ sform x.s).length (BVs (bp ++ Cm.encB (qform x.q) ++ sform x.s)) ∧ Below W.heap.size W w') := Lib.hid fun W v ho => rputsign_any x.s (fun k => k < w.heap.size) v _ _ W (Sl.of_own ho (fun k h1 _ h2 => by have := HB2.out.size; omega)) (by
          have h1 := HRB.out
          rw [List.length_append]; omega)
        obtain ⟨j7, j8⟩ := (HAT _ HB2.out).out
        have tok1 : True := trivial
        --CUT1
        go_region_held3 (fun w' => w'.cell? ⟨(ad.add (i * 9)).block, (ad.add (i * 9)).off + 7, none⟩ = some (.int .i64 x.s.1) ∧ w'.cell? ⟨(ad.add (i * 9)).block, (ad.add (i * 9)).off + 8, none⟩ = some (.int .i64 x.s.2)) (first | exact ⟨j7, j8⟩ | exact ⟨k7, k8⟩ | exact ⟨q7, q8⟩)
          (first
          | (go_at_call 89; have _t := tok1; clear tok1 _t; refine HP1.out.mono ?_; rintro e w3 ⟨v3, rfl, hown3, hb3⟩; have HB3 := Lib.hid (HB2.out.trans ((Ga.below_of_drew hb3).mono HB2.out.size)); obtain ⟨k7, k8⟩ := (HAT _ HB3.out).out; have HO3 : Hid (w3.ownsRow w2.heap.size 5 1 v3 _ _) := Lib.hid hown3; clear hown3 hb3)
          | (go_at_call 88; refine (HP2.out _ _ HO3.out).mono ?_; rintro e w4 ⟨v4, rfl, hsl4, hb4⟩; have HB4 := Lib.hid (HB3.out.trans (hb4.mono HB3.out.size)); obtain ⟨q7, q8⟩ := (HAT _ HB4.out).out; have HO4 := Lib.hid hsl4; clear hsl4 hb4))
        all_goals
          go_wp2_with fail
          go_roundw
          case rel => exact ⟨i + 1, by omega, by go_num, by rw [HFIN.out]; exact HO4.out.weaken (fun k _ h => ⟨h, by have := HB3.out.size; omega⟩), HB4.out⟩
          case measure => simp [intOf]; omega
      · have hke : i = l.length := by omega
        subst hke
        have HN : Hid (Behind w Y (b ++ bform l) _ wr) := Lib.hid ⟨_, rfl, by rw [HBF.out, ← HBA.out]; exact hsl.weaken (fun k _ h => h.2), hb⟩
        clear hsl hb
        go_wp2_with fail
        go_ret
        exact HN.out
  · have hd : (bcheck l != 0) = true := by simpa using hc
    have hd2 : (bcheck l == 0) = false := by simpa using hc
    have HSF : Hid (bform l = []) := Lib.hid (by rw [bform, if_pos hc])
    clear hc
    go_enter Tryz.func59, Tryz.ntmps59
    go_wp2_with fail
    refine HCK.out.mono ?_
    rintro e w1 ⟨rfl, hb1⟩
    have HW1 := Lib.hid hb1
    clear hb1
    go_wp2_with fail
    go_ret
    refine ⟨vb, rfl, ?_, HW1.out⟩
    rw [HSF.out, List.append_nil]
    exact (HSB.out.after HW1.out).weaken (fun _ _ h => h.1)
end Go.Proofs.YtebjjkhiniccgaaGreat.Je

/-
  Contracts of the document's own reader of layer 1: Read, Fail, Done, Num.
-/
namespace Go.Proofs.YtebjjkhiniccgaaGreat.Cj
set_option linter.unusedSimpArgs false
set_option linter.unusedVariables false
open Go Go.RowKit Ck Ca Cb Ce Cf Cg Ch

/-- The document's reader's block. -/
abbrev DB (w : World) (g : Nat) (v : Value) (err : Int) : Prop := Blk w g 44 #[v, .int .i64 err]
/-- The document's reader in memory. -/
def RR (w : World) (X : Nat → Prop) (g : Nat) (s : Cm.RS) : Prop :=
  ∃ A n c, DB w g (.slice A n c) s.2 ∧ Sl w (fun k => k = g ∨ X k) 1 (.slice A n c) n (BVs s.1) ∧ Cm.Good s
theorem RR.weaken {w : World} {X Y : Nat → Prop} {g : Nat} {s : Cm.RS} (h : RR w X g s) (hk : ∀ b, b < w.heap.size → Y b → X b) : RR w Y g s := by
  obtain ⟨A, n, c, hb, hsl, hgd⟩ := h
  exact ⟨A, n, c, hb, hsl.weaken fun b hb hy => by
    rcases hy with hy | hy
    · exact .inl hy
    · exact .inr (hk b hb hy), hgd⟩
theorem RR.grown {w w' : World} {X : Nat → Prop} {g : Nat} {s : Cm.RS} {row : Option Nat} (h : RR w X g s) (hg : w.grownBy w' row) (hne : some g ≠ row) (hr : ∀ k, row = some k → k < w.heap.size → X k) : RR w' X g s := by
  obtain ⟨A, n, c, hb, hsl, hgd⟩ := h
  exact ⟨A, n, c, Blk.grown hb hg hne, hsl.grown hg fun k hk hlt => .inr (hr k hk hlt), hgd⟩
theorem RR.after {w w' : World} {X : Nat → Prop} {g : Nat} {s : Cm.RS} (h : RR w X g s) (hb : Below w.heap.size w w') : RR w' X g s :=
  h.grown (grown_of_below hb none) (by simp) (by simp)
theorem RR.old {w : World} {X : Nat → Prop} {g : Nat} {s : Cm.RS} (h : RR w X g s) {B : Nat} (hB : w.heap.size ≤ B) : RR w (fun k => X k ∨ B ≤ k) g s := by
  obtain ⟨A, n, c, hb, hsl, hgd⟩ := h
  refine ⟨A, n, c, hb, (hsl.old hB).weaken fun b _ hy => ?_, hgd⟩
  rcases hy with hy | hy | hy
  · exact .inl (.inl hy)
  · exact .inl (.inr hy)
  · exact .inr hy
theorem RR.lt {w : World} {X : Nat → Prop} {g : Nat} {s : Cm.RS} (h : RR w X g s) : g < w.heap.size := by
  obtain ⟨A, n, c, hb, _⟩ := h
  exact hb.lt

end Go.Proofs.YtebjjkhiniccgaaGreat.Cj

/-
  Contracts of the document's own reader of layer 1: Num, Take, Bytes, List.
-/
namespace Go.Proofs.YtebjjkhiniccgaaGreat.Co
set_option linter.unusedSimpArgs false
set_option linter.unusedVariables false
open Go Go.RowKit Ck Ca Cb Ce Cf Cg Ch Ci Cj

/-- What a reading of bytes leaves. -/
def RTaken (w : World) (X : Nat → Prop) (g : Nat) (r : List UInt8 × Cm.RS) (e : Ending) (w' : World) : Prop :=
  ∃ v, e = .returned v ∧ w'.ownsRow w.heap.size 5 1 v r.1.length (BVs r.1) ∧ w.grownBy w' (some g) ∧ RR w' X g r.2
theorem RTaken.nil {w w' : World} {X : Nat → Prop} {g : Nat} {s : Cm.RS} (hg : w.grownBy w' (some g)) (hc : RR w' X g s) : RTaken w X g ([], s) (.returned (.slice none 0 0)) w' :=
  ⟨_, rfl, World.ownsRow_nil _ _ _ _, hg, hc⟩

end Go.Proofs.YtebjjkhiniccgaaGreat.Co

/-
  Layer 6 (op): the contract of the document's own Take, kind by kind.
-/
namespace Go.Proofs.YtebjjkhiniccgaaGreat.Qc
set_option linter.unusedSimpArgs false
open Go Go.RowKit Ck Kw Ca Cb Ce Cf Cg Ch Ci Cj Co Pm Pa Pe Pf Pg Ph Ppi Pk Pp Qb
set_option linter.unusedVariables false

section
variable {P : Program}
end

/-- Within the call: the result's cells, the operation's, the reader. -/
structure RX (w0 : World) (X : Nat → Prop) (g g1 g2 : Nat) (cs : Array Value) (s : Cm.RS) (W : World) : Prop where
  grown : w0.grownBy W (some g)
  old : g < w0.heap.size
  new1 : w0.heap.size ≤ g1
  new2 : w0.heap.size ≤ g2
  far : g1 ≠ g2
  res : Blk W g1 25 Z5
  op : Blk W g2 25 cs
  rd : RR W (fun k => X k ∨ w0.heap.size ≤ k) g s
section
variable {w0 W W' : World} {X : Nat → Prop} {g g1 g2 : Nat} {cs cs' : Array Value} {s s' : Cm.RS}
theorem RX.next (h : RX w0 X g g1 g2 cs s W) (hg : W.grownBy W' (some g)) (hc : RR W' (fun k => X k ∨ w0.heap.size ≤ k) g s') : RX w0 X g g1 g2 cs s' W' := by
  have o := h.old; have n1 := h.new1; have n2 := h.new2
  exact ⟨h.grown.trans hg, h.old, h.new1, h.new2, h.far, h.res.grown hg (by simp; omega), h.op.grown hg (by simp; omega), hc⟩
theorem RX.later (h : RX w0 X g g1 g2 cs s W) (hb : Below W.heap.size W W') : RX w0 X g g1 g2 cs s W' := h.next (grown_of_below hb _) (h.rd.after hb)
theorem RX.row {row : Option Nat} (h : RX w0 X g g1 g2 cs s W) (hg : W.grownBy W' row) (hr : ∀ q, row = some q → g < q ∧ g1 < q ∧ g2 < q) : RX w0 X g g1 g2 cs s W' := by
  have n1 := h.new1
  refine ⟨grown_step h.grown hg (.inr fun q hq => by have := hr q hq; omega), h.old, h.new1, h.new2, h.far, h.res.grown hg (fun e => by have := hr g1 e.symm; omega), h.op.grown hg (fun e => by have := hr g2 e.symm; omega), h.rd.grown hg (fun e => by have := hr g e.symm; omega) (fun q hq _ => .inr (by have := hr q hq; omega))⟩
theorem RX.put (h : RX w0 X g g1 g2 cs s W) (i : Nat) (u : Value) (hcs : cs.setIfInBounds i u = cs') : RX w0 X g g1 g2 cs' s (W.setCell ⟨g2, i, none⟩ u) := by
  subst hcs
  have o := h.old; have n2 := h.new2; have f1 := h.far
  exact ⟨grown_setCell h.grown (.inr n2) u, h.old, h.new1, h.new2, h.far, h.res.far f1 u, h.op.set_ i u,
    h.rd.grown (row := some g2) (grown_setCell (World.grownBy.refl W (some g2)) (.inl rfl) u) (by simp; omega) (fun q hq _ => by injection hq with hq; exact .inr (by omega))⟩
/-- The reader's error. -/
theorem RX.err (h : RX w0 X g g1 g2 cs s W) : W.cell? ⟨g, 1, none⟩ = some (.int .i64 s.2) := by
  obtain ⟨A, n, c, hb, _⟩ := h.rd
  exact hb.cell 1
end
end Go.Proofs.YtebjjkhiniccgaaGreat.Qc

/-
  Layer 6 (op): the contracts of Take, Parse and TakeResult.
-/
namespace Go.Proofs.YtebjjkhiniccgaaGreat.Qt
set_option linter.unusedSimpArgs false
open Go Go.RowKit Ck Kw Ca Cb Ce Cf Cg Ch Ci Pm Pa Pe Pf Pg Ph Ppi Pk Pp Qb
set_option linter.unusedVariables false

/-- Within the call: the result's cells, a thing's cells, the reader. -/
structure RC (w0 : World) (X : Nat → Prop) (g g1 g2 : Nat) (t : TypeId) (zs cs : Array Value) (s : Cm.RS) (W : World) : Prop where
  grown : w0.grownBy W (some g)
  old : g < w0.heap.size
  new1 : w0.heap.size ≤ g1
  new2 : w0.heap.size ≤ g2
  far : g1 ≠ g2
  res : Blk W g1 t zs
  op : Blk W g2 t cs
  rd : CR W (fun k => X k ∨ w0.heap.size ≤ k) g s
section
variable {w0 W W' : World} {X : Nat → Prop} {g g1 g2 : Nat} {t : TypeId} {zs cs cs' : Array Value} {s s' : Cm.RS}
theorem RC.next (h : RC w0 X g g1 g2 t zs cs s W) (hg : W.grownBy W' (some g)) (hc : CR W' (fun k => X k ∨ w0.heap.size ≤ k) g s') : RC w0 X g g1 g2 t zs cs s' W' := by
  have o := h.old; have n1 := h.new1; have n2 := h.new2
  exact ⟨h.grown.trans hg, h.old, h.new1, h.new2, h.far, h.res.grown hg (by simp; omega), h.op.grown hg (by simp; omega), hc⟩
theorem RC.later (h : RC w0 X g g1 g2 t zs cs s W) (hb : Below W.heap.size W W') : RC w0 X g g1 g2 t zs cs s W' := h.next (grown_of_below hb _) (h.rd.after hb)
theorem RC.put (h : RC w0 X g g1 g2 t zs cs s W) (i : Nat) (u : Value) (hcs : cs.setIfInBounds i u = cs') : RC w0 X g g1 g2 t zs cs' s (W.setCell ⟨g2, i, none⟩ u) := by
  subst hcs
  have o := h.old; have n2 := h.new2; have f1 := h.far
  exact ⟨grown_setCell h.grown (.inr n2) u, h.old, h.new1, h.new2, h.far, h.res.far f1 u, h.op.set_ i u,
    h.rd.grown (row := some g2) (grown_setCell (World.grownBy.refl W (some g2)) (.inl rfl) u) (by simp; omega) (fun q hq _ => by injection hq with hq; exact .inr (by omega))⟩
end
theorem rc_first {w w1 : World} {X : Nat → Prop} {g : Nat} {t : TypeId} {s s' : Cm.RS} {zs cs : Array Value} (h : CR w X g s) (hg1 : (w.alloc (.cells zs t)).grownBy w1 (some g)) (hc1 : CR w1 (fun k => X k ∨ w.heap.size ≤ k) g s') :
    RC w X g w.heap.size w1.heap.size t zs cs s' (w1.alloc (.cells cs t)) := by
  have hlt := h.lt
  have b0 : Below w.heap.size w (w.alloc (.cells zs t)) := (Below.refl _ w).alloc (Nat.le_refl _) _
  have s0 : (w.alloc (.cells zs t)).heap.size = w.heap.size + 1 := by simp
  have s1 := hg1.size
  have r0 : Blk (w.alloc (.cells zs t)) w.heap.size t zs := Blk.new _ _ _
  have r1 : Blk w1 w.heap.size t zs := r0.grown hg1 (by simp; omega)
  have b2 : Below w1.heap.size w1 (w1.alloc (.cells cs t)) := (Below.refl _ w1).alloc (Nat.le_refl _) _
  have gr : w.grownBy w1 (some g) := (grown_of_below b0 (some g)).trans hg1
  exact ⟨grown_below gr b2, hlt, Nat.le_refl _, by omega, by omega, r1.alloc _, Blk.new _ _ _, hc1.after b2⟩
theorem creaded_of {w W : World} {X : Nat → Prop} {g g1 g2 : Nat} {zs cs : Array Value} {s : Cm.RS} {o : O} {A : Option Addr} {c : Nat} {r : O × Cm.RS} (h : RC w X g g1 g2 25 zs cs s W) (x0 x1 x2 x3 x4 : Value) (hv : Value.agg #[x0, x1, x2, x3, x4] = OV o A c)
    (hls : Ls W (fun k => k < w.heap.size ∨ k = g1) (.slice A o.recs.length c) o.recs) (hr : r = (o, s)) :
    Readed w X g r (.returned (.agg #[x0, x1, x2, x3, x4])) (((((W.setCell ⟨g1, 0, none⟩ x0).setCell ⟨g1, 1, none⟩ x1).setCell ⟨g1, 2, none⟩ x2).setCell ⟨g1, 3, none⟩ x3).setCell ⟨g1, 4, none⟩ x4) := by
  subst hr
  have n1 := h.new1
  have o1 := h.old
  have cg : W.grownBy (((((W.setCell ⟨g1, 0, none⟩ x0).setCell ⟨g1, 1, none⟩ x1).setCell ⟨g1, 2, none⟩ x2).setCell ⟨g1, 3, none⟩ x3).setCell ⟨g1, 4, none⟩ x4) (some g1) :=
    grown_setCell (grown_setCell (grown_setCell (grown_setCell (grown_setCell (World.grownBy.refl W (some g1)) (p := ⟨g1, 0, none⟩) (.inl rfl) x0) (p := ⟨g1, 1, none⟩) (.inl rfl) x1) (p := ⟨g1, 2, none⟩) (.inl rfl) x2) (p := ⟨g1, 3, none⟩) (.inl rfl) x3) (p := ⟨g1, 4, none⟩) (.inl rfl) x4
  refine ⟨_, rfl, ⟨A, c, hv, (hls.grown cg (fun q hq _ => by injection hq with hq; exact .inr hq.symm)).weaken (fun k _ hk => .inl hk)⟩, ?_, ?_⟩
  · exact grown_step h.grown cg (.inr fun q hq => by injection hq with hq; omega)
  · exact (h.rd.grown cg (by simp; omega) (fun q hq _ => by injection hq with hq; exact .inr (by omega))).weaken (fun k _ hk => .inl hk)

set_option maxRecDepth 100000 in
set_option maxHeartbeats 4000000 in
theorem take_any (w : World) (X : Nat → Prop) (g : Nat) (s : Cm.RS) (h : CR w X g s) (hl : s.1.length ≤ 140737488355328) :
    Calls Tryz.prog 28 #[P_ g] w (Readed w X g (take s)) := by
  have hcr : CR (w.alloc (.cells Z5 25)) (fun k => X k ∨ w.heap.size ≤ k) g s := (h.old (Nat.le_refl _)).after ((Below.refl _ w).alloc (Nat.le_refl _) _)
  have HRE := Lib.hid (read_any _ _ g s hcr hl)
  have HH := Lib.hid h
  have RL := Lib.hid (rd_recs s)
  have HT : Hid (take s = if (Cm.failS (rd s).2 (check (rd s).1)).2 ≠ 0 then (O.zero, Cm.failS (rd s).2 (check (rd s).1)) else ((rd s).1, Cm.failS (rd s).2 (check (rd s).1))) := Lib.hid rfl
  clear h hcr hl
  generalize rd s = D at *
  generalize take s = TK at *
  obtain ⟨o, sF⟩ := D
  unfold Z5 at HRE
  go_enter Tryz.func28, Tryz.ntmps28
  go_wp2_with fail
  refine HRE.out.mono ?_
  rintro e w1 ⟨v, rfl, hoi, hg1, hc1⟩
  obtain ⟨A, c, rfl, hls⟩ := hoi
  simp only at hls hc1
  have HD := Lib.hid (rc_first (cs := OC o A c) HH.out hg1 hc1)
  have HLS : Hid (Ls (w1.alloc (.cells (OC o A c) 25)) (fun k => k < w.heap.size ∨ k = w.heap.size) (.slice A o.recs.length c) o.recs) := Lib.hid ((hls.after ((Below.refl _ w1).alloc (Nat.le_refl _) _)).weaken (fun k _ hk => by
    have h0 : (w.alloc (.cells Z5 25)).heap.size = w.heap.size + 1 := by simp
    rcases hk with hk | hk <;> (show k < (w.alloc (.cells Z5 25)).heap.size; omega)))
  have n12 : ¬ (w.heap.size = w1.heap.size) := HD.out.far
  have n21 : ¬ (w1.heap.size = w.heap.size) := fun h => HD.out.far h.symm
  clear hls hg1 hc1
  unfold OV
  obtain ⟨⟨a0, a1, a2, a3, a4⟩, -⟩ := Blk.cells5 HD.out.op
  have HCK := Lib.hid (check_any o (OV o A c) _ _ ⟨A, c, rfl, HLS.out⟩ (by have : o.recs.length ≤ 4 := RL.out; omega))
  unfold OV OC at HCK
  go_wp2_with fail
  refine HCK.out.mono ?_
  rintro e w3 ⟨rfl, hb3⟩
  have HD3 := Lib.hid (HD.out.later hb3)
  have HLS3 := Lib.hid (HLS.out.after hb3)
  have HFA := Lib.hid (fail_any _ _ g _ HD3.out.rd (check o))
  clear hb3
  go_wp2_with fail
  refine HFA.out.mono ?_
  rintro e w4 ⟨rfl, hg4, hc4⟩
  have HD4 := Lib.hid (HD3.out.next hg4 hc4)
  have zo := HD3.out.old
  have HLS4 := Lib.hid (HLS3.out.grown hg4 (fun q hq _ => by injection hq with hq; exact .inl (by omega)))
  clear hg4 hc4 zo
  have HT : Hid (TK = if (Cm.failS sF (check o)).2 ≠ 0 then (O.zero, Cm.failS sF (check o)) else (o, Cm.failS sF (check o))) := HT
  generalize Cm.failS sF (check o) = F at *
  obtain ⟨A4, n4, c4, hb4, -⟩ := HD4.out.rd
  have HB4 := Lib.hid hb4
  clear hb4 a0 a1 a2 a3 a4
  obtain ⟨⟨a0, a1, a2, a3, a4⟩, -⟩ := Blk.cells5 HD4.out.op
  obtain ⟨⟨r0, r1, r2, r3, r4⟩, ⟨q0, q1, q2, q3, q4⟩⟩ := Blk.cells5 HD4.out.res
  by_cases hz : F.2 = 0
  · have HZ := Lib.hid hz
    have HER := Lib.hid (err_blk w4 g _ _ HB4.out)
    rw [hz] at HER
    clear hz
    go_wp2_with fail
    refine HER.out.mono ?_
    rintro e w5 ⟨rfl, rfl⟩
    go_wp2_with fail
    refine bodyPost_ret (results_row1 rfl _ _ w.heap.size 25 #[.int .i64 o.kind, .string ⟨o.topic.toArray⟩, .string ⟨o.group.toArray⟩, .int .i64 o.off, .slice A o.recs.length c] (0, 0) _ rfl (res_blk HD4.out.res _ _ _ _ _) Tryz.underlying25 rfl size_op) rfl ?_
    exact creaded_of (o := o) HD4.out _ _ _ _ _ rfl HLS4.out (by rw [HT.out, if_neg (by rw [HZ.out]; decide)])
  · have HZ := Lib.hid hz
    have e1 : (F.2 == 0) = false := beq_eq_false_iff_ne.2 hz
    have e2 : (F.2 != 0) = true := by rw [bne, e1]; rfl
    clear hz
    go_wp2_with fail
    refine (err_blk w4 g _ _ HB4.out).mono ?_
    rintro e w5 ⟨rfl, rfl⟩
    go_wp2_with fail
    refine bodyPost_ret (results_row1 rfl _ _ w.heap.size 25 #[.int .i64 0, .string ⟨#[]⟩, .string ⟨#[]⟩, .int .i64 0, .slice none 0 0] (0, 0) _ rfl (res_blk HD4.out.res _ _ _ _ _) Tryz.underlying25 rfl size_op) rfl ?_
    exact creaded_of (o := O.zero) HD4.out _ _ _ _ _ rfl (ls_nil _ _) (by rw [HT.out, if_pos HZ.out])

end Go.Proofs.YtebjjkhiniccgaaGreat.Qt

/-
  Layer 6 (op): the walk of the statement OpReads.
-/
namespace Go.Proofs.YtebjjkhiniccgaaGreat.Qd
set_option linter.unusedSimpArgs false
open Go Go.RowKit Ck Kw Ca Cb Ce Cf Cg Ch Ci Cj Co Pm Pa Pe Pf Pg Ph Ppi Pk Pp Qb Qc Qt Qs
attribute [local go_sem ↓] Go.wp_at_zero Go.wp_at_succ
set_option linter.unusedVariables false

/-- An operation's cells, kept in a block. -/
structure KO (W : World) (B g : Nat) (o : O) (A : Option Addr) (c : Nat) : Prop where
  op : OB W g o A c
  new : B ≤ g
  ls : Ls W (fun k => k < B) (.slice A o.recs.length c) o.recs
theorem KO.later {W W' : World} {B g : Nat} {o : O} {A : Option Addr} {c : Nat} (h : KO W B g o A c) (hb : Below W.heap.size W W') : KO W' B g o A c := ⟨Blk.below h.op hb (Blk.lt h.op), h.new, h.ls.after hb⟩
theorem al_below (W : World) (o : Obj) : Below W.heap.size W (W.alloc o) := (Below.refl _ W).alloc (Nat.le_refl _) _
theorem OB.cells' {W : World} {g : Nat} {o : O} {A : Option Addr} {c : Nat} (h : OB W g o A c) :
    W.cell? ⟨g, 0, none⟩ = some (.int .i64 o.kind) ∧ W.cell? ⟨g, 1, none⟩ = some (.string ⟨o.topic.toArray⟩) ∧ W.cell? ⟨g, 2, none⟩ = some (.string ⟨o.group.toArray⟩) ∧ W.cell? ⟨g, 3, none⟩ = some (.int .i64 o.off) ∧ W.cell? ⟨g, 4, none⟩ = some (.slice A o.recs.length c) := h.cells

/-- Both readers stand there, at the same place. -/
structure TW (w0 : World) (B gr gs : Nat) (s : Cm.RS) (W : World) : Prop where
  below : Below w0.heap.size w0 W
  r : CR W (fun k => B ≤ k) gr s
  s : RR W (fun k => w0.heap.size ≤ k) gs s
  hr : w0.heap.size ≤ gr ∧ gr < B
  hs : B ≤ gs
  hB : w0.heap.size ≤ B
theorem TW.later {w0 W W' : World} {B gr gs : Nat} {s : Cm.RS} (h : TW w0 B gr gs s W) (hb : Below W.heap.size W W') : TW w0 B gr gs s W' :=
  ⟨h.below.trans (hb.mono h.below.size), h.r.after hb, h.s.after hb, h.hr, h.hs, h.hB⟩
/-- Both operations that were taken, and both readers. -/
structure XS (w0 : World) (B gr gs g : Nat) (x : O) (A : Option Addr) (c : Nat) (A' : Option Addr) (c' : Nat) (s : Cm.RS) (W : World) : Prop where
  tw : TW w0 B gr gs s W
  kx : KO W w0.heap.size g x A c
  ky : KO W w0.heap.size (g + 1) x A' c'
theorem XS.later {w0 W W' : World} {B gr gs g : Nat} {x : O} {A : Option Addr} {c : Nat} {A' : Option Addr} {c' : Nat} {s : Cm.RS} (h : XS w0 B gr gs g x A c A' c' s W) (hb : Below W.heap.size W W') : XS w0 B gr gs g x A c A' c' s W' := ⟨h.tw.later hb, h.kx.later hb, h.ky.later hb⟩
theorem XS.drew {w0 W : World} {B gr gs g : Nat} {x : O} {A : Option Addr} {c : Nat} {A' : Option Addr} {c' : Nat} {s : Cm.RS} (h : XS w0 B gr gs g x A c A' c' s W) : XS w0 B gr gs g x A c A' c' s W.drew := h.later (below_drewN (Below.refl _ W) 1)
theorem TW.err {w0 W : World} {B gr gs : Nat} {s : Cm.RS} (h : TW w0 B gr gs s W) : W.cell? ⟨gs, 1, none⟩ = some (.int .i64 s.2) := by
  obtain ⟨A, n, c, hb, -⟩ := h.s
  have q := hb.cell 1
  simpa using q
theorem XS.cells {w0 W : World} {B gr gs g : Nat} {x : O} {A : Option Addr} {c : Nat} {A' : Option Addr} {c' : Nat} {s : Cm.RS} (h : XS w0 B gr gs g x A c A' c' s W) :
    W.cell? ⟨g, 0, none⟩ = some (.int .i64 x.kind) ∧ W.cell? ⟨g, 1, none⟩ = some (.string ⟨x.topic.toArray⟩) ∧ W.cell? ⟨g, 2, none⟩ = some (.string ⟨x.group.toArray⟩) ∧ W.cell? ⟨g, 3, none⟩ = some (.int .i64 x.off) ∧ W.cell? ⟨g, 4, none⟩ = some (.slice A x.recs.length c)
    ∧ W.cell? ⟨g + 1, 0, none⟩ = some (.int .i64 x.kind) ∧ W.cell? ⟨g + 1, 1, none⟩ = some (.string ⟨x.topic.toArray⟩) ∧ W.cell? ⟨g + 1, 2, none⟩ = some (.string ⟨x.group.toArray⟩) ∧ W.cell? ⟨g + 1, 3, none⟩ = some (.int .i64 x.off) ∧ W.cell? ⟨g + 1, 4, none⟩ = some (.slice A' x.recs.length c')
    ∧ W.cell? ⟨gs, 1, none⟩ = some (.int .i64 s.2) := by
  obtain ⟨a0, a1, a2, a3, a4⟩ := h.kx.op.cells
  obtain ⟨b0, b1, b2, b3, b4⟩ := h.ky.op.cells
  exact ⟨a0, a1, a2, a3, a4, b0, b1, b2, b3, b4, h.tw.err⟩

end Go.Proofs.YtebjjkhiniccgaaGreat.Qd

/-
  Layer 6 (op): the walk of the statement OpBack.
-/
namespace Go.Proofs.YtebjjkhiniccgaaGreat.Qe
set_option linter.unusedSimpArgs false
open Go Go.RowKit Ck Kw Ca Cb Ce Cf Cg Ch Ci Cj Co Kx Pm Pa Pe Pf Pg Ph Ppi Pk Pp Py Qb Qc Qt Qs Qd
attribute [local go_sem ↓] Go.wp_at_zero Go.wp_at_succ
set_option linter.unusedVariables false

/-- What stands there: the operation and the bytes. -/
structure EB (w0 : World) (o : O) (A : Option Addr) (c : Nat) (vb : Value) (b : Tx) (W : World) : Prop where
  below : Below w0.heap.size w0 W
  op : OB W w0.heap.size o A c
  ls : Ls W (fun k => w0.heap.size ≤ k) (.slice A o.recs.length c) o.recs
  b : Sl W (fun k => w0.heap.size ≤ k) 1 vb b.length (BVs b)
variable {w0 W W' : World} {o : O} {A : Option Addr} {c : Nat} {vb : Value} {b : Tx}
theorem EB.later (h : EB w0 o A c vb b W) (hb : Below W.heap.size W W') : EB w0 o A c vb b W' :=
  ⟨h.below.trans (hb.mono h.below.size), Blk.below h.op hb (Blk.lt h.op), h.ls.after hb, h.b.after hb⟩
theorem EB.drew (h : EB w0 o A c vb b W) : EB w0 o A c vb b W.drew := h.later (below_drewN (Below.refl _ W) 1)
/-- The operation, what was read of its bytes, twice, and the reader. -/
structure BB (w0 : World) (M g3 g7 g : Nat) (o : O) (A : Option Addr) (c : Nat) (Ax : Option Addr) (cx : Nat) (Ay : Option Addr) (cy : Nat) (vb : Value) (b : Tx) (W : World) : Prop where
  eb : EB w0 o A c vb b W
  x : OB W g3 o Ax cx
  lx : Ls W (fun k => M ≤ k) (.slice Ax o.recs.length cx) o.recs
  y : OB W g7 o Ay cy
  ly : Ls W (fun k => k < M) (.slice Ay o.recs.length cy) o.recs
  rd : CR W (fun k => k < M) g (b, 0)
theorem BB.later {M g3 g7 g : Nat} {Ax : Option Addr} {cx : Nat} {Ay : Option Addr} {cy : Nat} (h : BB w0 M g3 g7 g o A c Ax cx Ay cy vb b W) (hb : Below W.heap.size W W') : BB w0 M g3 g7 g o A c Ax cx Ay cy vb b W' :=
  ⟨h.eb.later hb, Blk.below h.x hb (Blk.lt h.x), h.lx.after hb, Blk.below h.y hb (Blk.lt h.y), h.ly.after hb, h.rd.after hb⟩
theorem BB.cells {M g3 g7 g : Nat} {Ax : Option Addr} {cx : Nat} {Ay : Option Addr} {cy : Nat} (h : BB w0 M g3 g7 g o A c Ax cx Ay cy vb b W) :
    (W.cell? ⟨w0.heap.size, 0, none⟩ = some (.int .i64 o.kind) ∧ W.cell? ⟨w0.heap.size, 1, none⟩ = some (.string ⟨o.topic.toArray⟩) ∧ W.cell? ⟨w0.heap.size, 2, none⟩ = some (.string ⟨o.group.toArray⟩) ∧ W.cell? ⟨w0.heap.size, 3, none⟩ = some (.int .i64 o.off) ∧ W.cell? ⟨w0.heap.size, 4, none⟩ = some (.slice A o.recs.length c))
    ∧ (W.cell? ⟨g3, 0, none⟩ = some (.int .i64 o.kind) ∧ W.cell? ⟨g3, 1, none⟩ = some (.string ⟨o.topic.toArray⟩) ∧ W.cell? ⟨g3, 2, none⟩ = some (.string ⟨o.group.toArray⟩) ∧ W.cell? ⟨g3, 3, none⟩ = some (.int .i64 o.off) ∧ W.cell? ⟨g3, 4, none⟩ = some (.slice Ax o.recs.length cx))
    ∧ (W.cell? ⟨g7, 0, none⟩ = some (.int .i64 o.kind) ∧ W.cell? ⟨g7, 1, none⟩ = some (.string ⟨o.topic.toArray⟩) ∧ W.cell? ⟨g7, 2, none⟩ = some (.string ⟨o.group.toArray⟩) ∧ W.cell? ⟨g7, 3, none⟩ = some (.int .i64 o.off) ∧ W.cell? ⟨g7, 4, none⟩ = some (.slice Ay o.recs.length cy)) :=
  ⟨OB.cells h.eb.op, OB.cells h.x, OB.cells h.y⟩
end Go.Proofs.YtebjjkhiniccgaaGreat.Qe
