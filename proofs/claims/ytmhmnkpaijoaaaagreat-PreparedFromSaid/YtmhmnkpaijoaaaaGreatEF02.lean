import Derived.BigQuiet
import Derived.Deep.RegionHeld3
import Derived.Deep.RegionHeldLaw
import Derived.Test.YtmhmnkpaijoaaaaGreatEF01
namespace Go.Proofs.YtmhmnkpaijoaaaaGreat.Ptd
set_option linter.unusedSimpArgs false
open Go Go.RowKit Ck Cf Kw Ga Kf Pm Pe Pg Ik Lk Jm Ja Jb Jf Jg Jl Jn Kc Kj Pra Prb Prc Prd Pre Prf Prn Prr Psg Psh Psx Pta
attribute [local go_sem ↓] Go.wp_at_zero Go.wp_at_succ
set_option linter.unusedVariables false
set_option maxRecDepth 100000
theorem fits_of {p : Pd} (h : okP p) : Fits p := ⟨h.2.2, h.2.1, h.1⟩
set_option maxHeartbeats 16000000 in
theorem from_law {H : World -> (Nat -> Prop) -> Nat -> List Pd -> Prop} {ok : List Pd -> Pd -> Prop} {okl : List Pd -> Prop} (HL : LiveC) (HH : HeldC H ok) (HD : HeldD H okl) (HSM : SameC) (w : World) (l : List Pd) (vl : Value) (a b : Pd) (ra rb : Pl2) (hl : PL w (fun _ => False) vl l) (ha : PI w (fun _ => False) a ra) (hb : PI w (fun _ => False) b rb) (hok : okl l) (hol : ∀ p ∈ l, okP p) (hoa : okP a) (hob : okP b) (hn : l.length <= 1599289640354) :
    Calls Tryz.prog 5 #[vl, .agg (PC a ra), .agg (PC b rb)] w fun e w' => e = .returned (.bool true) /\ Below w.heap.size w w' := by
  have hb1 : Below w.heap.size w ((w.alloc (.cells (PC a ra) 41)).alloc (.cells (PC b rb) 41)) := ((Below.refl _ w).alloc (Nat.le_refl _) _).alloc (by simp) _
  have ka : Blk ((w.alloc (.cells (PC a ra) 41)).alloc (.cells (PC b rb) 41)) w.heap.size 41 (PC a ra) := (Blk.new w _ _).alloc _
  have kb : Blk ((w.alloc (.cells (PC a ra) 41)).alloc (.cells (PC b rb) 41)) (w.heap.size + 1) 41 (PC b rb) := by
    have := Blk.new (w.alloc (.cells (PC a ra) 41)) 41 (PC b rb)
    have e : (w.alloc (.cells (PC a ra) 41)).heap.size = w.heap.size + 1 := by simp
    rw [e] at this
    exact this
  have HX0 : Hid (FX (fun _ => True) w w.heap.size (w.heap.size + 1) a b ra rb ((w.alloc (.cells (PC a ra) 41)).alloc (.cells (PC b rb) 41))) := Lib.hid ⟨ka, kb, ha.after hb1, hb.after hb1, hb1, trivial⟩
  have HPL := Lib.hid (hl.after hb1)
  have HL := Lib.hid HL
  have HH := Lib.hid HH
  have HD := Lib.hid HD
  have HSM := Lib.hid HSM
  have HO := Lib.hid (And.intro hok (And.intro hol (And.intro hoa (And.intro hob hn))))
  obtain ⟨Al, cl, rfl, -⟩ := hl.shape
  clear hb1 ka kb hl ha hb hok hol hoa hob hn
  unfold PC at HX0 HPL ⊢
  go_enter Tryz.func5, Tryz.ntmps5
  go_wp2_with fail
  generalize (w.alloc (.cells #[.int .i64 a.view, .int .i64 a.seq, .int .i64 a.dig, .int .i64 a.first.1, .int .i64 a.first.2, .slice ra.1.1 a.signs.length ra.1.2, .slice ra.2.1 a.batch.length ra.2.2] 41)).alloc (.cells #[.int .i64 b.view, .int .i64 b.seq, .int .i64 b.dig, .int .i64 b.first.1, .int .i64 b.first.2, .slice rb.1.1 b.signs.length rb.1.2, .slice rb.2.1 b.batch.length rb.2.2] 41) = w0 at *
  generalize w.heap.size + 1 = gb at *
  obtain ⟨ga, hga⟩ : ∃ ga, ga = w.heap.size := ⟨_, rfl⟩
  have HX1 : Hid (FX (fun _ => True) w ga gb a b ra rb w0) := Lib.hid (hga ▸ HX0.out)
  rw [<- hga]
  clear hga HX0
  refine (HL.out w0).mono ?_
  rintro e w1 ⟨rfl, hb1⟩
  have HX2 := Lib.hid (HX1.out.later hb1 trivial)
  have HP1 := Lib.hid (HPL.out.after hb1)
  clear hb1 HX1 HPL
  go_wp2_with fail
  refine (HD.out.frm w1 _ _ l HP1.out HO.out.1).mono ?_
  rintro e w2 ⟨hb2, hif⟩
  have HIF := Lib.hid hif
  have HX3 := Lib.hid (HX2.out.later hb2 trivial)
  have HP2 := Lib.hid (HP1.out.after hb2)
  have HR := Lib.hid (rfrom_any w2 _ _ l HP2.out (by have := HO.out.2.2.2.2; omega))
  have HAL : Hid (∀ p ∈ l, Fits p) := Lib.hid (fun p hp => fits_of (HO.out.2.1 p hp))
  have HN : Hid (l.length <= 140737488355328) := Lib.hid (by have := HO.out.2.2.2.2; omega)
  clear hb2 hif HX2 HP1 HL
  cases hfr : fromP 0 l
  case false =>
    have hi := HIF.out
    rw [hfr] at hi
    simp only [Bool.false_eq_true, if_true, if_false] at hi
    clear HIF
    subst hi
    go_wp2_with fail
    refine HR.out.mono ?_
    rintro e w3 ⟨hb3, hi⟩
    rw [hfr] at hi
    simp only [Bool.false_eq_true, if_false] at hi
    subst hi
    have HXZ : Hid (FX (fun _ => True) w ga gb a b ra rb w3) := Lib.hid (HX3.out.later hb3 trivial)
    have HZL : Hid (∀ W W', FX (fun _ => True) w ga gb a b ra rb W -> Below W.heap.size W W' -> FX (fun _ => True) w ga gb a b ra rb W') := Lib.hid (fun W W' h b => h.later b trivial)
    clear hb3 HX3 HP2 HR
    have HCL : Hid (∀ W, FX (fun _ => True) w ga gb a b ra rb W -> (W.cell? ⟨ga, 0, none⟩ = some (.int .i64 a.view) /\ W.cell? ⟨ga, 1, none⟩ = some (.int .i64 a.seq) /\ W.cell? ⟨ga, 2, none⟩ = some (.int .i64 a.dig) /\ W.cell? ⟨ga, 3, none⟩ = some (.int .i64 a.first.1) /\ W.cell? ⟨ga, 4, none⟩ = some (.int .i64 a.first.2) /\ W.cell? ⟨ga, 5, none⟩ = some (.slice ra.1.1 a.signs.length ra.1.2) /\ W.cell? ⟨ga, 6, none⟩ = some (.slice ra.2.1 a.batch.length ra.2.2) /\ W.cell? ⟨gb, 0, none⟩ = some (.int .i64 b.view) /\ W.cell? ⟨gb, 1, none⟩ = some (.int .i64 b.seq) /\ W.cell? ⟨gb, 2, none⟩ = some (.int .i64 b.dig) /\ W.cell? ⟨gb, 3, none⟩ = some (.int .i64 b.first.1) /\ W.cell? ⟨gb, 4, none⟩ = some (.int .i64 b.first.2) /\ W.cell? ⟨gb, 5, none⟩ = some (.slice rb.1.1 b.signs.length rb.1.2) /\ W.cell? ⟨gb, 6, none⟩ = some (.slice rb.2.1 b.batch.length rb.2.2))) := Lib.hid (fun W h => ⟨h.ka.cell 0, h.ka.cell 1, h.ka.cell 2, h.ka.cell 3, h.ka.cell 4, h.ka.cell 5, h.ka.cell 6, h.kb.cell 0, h.kb.cell 1, h.kb.cell 2, h.kb.cell 3, h.kb.cell 4, h.kb.cell 5, h.kb.cell 6⟩)
    have HS1 : Hid (∀ W, FX (fun _ => True) w ga gb a b ra rb W -> Calls Tryz.prog 32 #[.agg #[.int .i64 a.view, .int .i64 a.seq, .int .i64 a.dig, .int .i64 a.first.1, .int .i64 a.first.2, .slice ra.1.1 a.signs.length ra.1.2, .slice ra.2.1 a.batch.length ra.2.2], .agg #[.int .i64 b.view, .int .i64 b.seq, .int .i64 b.dig, .int .i64 b.first.1, .int .i64 b.first.2, .slice rb.1.1 b.signs.length rb.1.2, .slice rb.2.1 b.batch.length rb.2.2]] W fun e w' => e = .returned (.bool (decide (a = b))) /\ FX (fun _ => True) w ga gb a b ra rb w') := Lib.hid (fun W h => by
      refine (HSM.out W _ _ a b ra rb h.pa h.pb HO.out.2.2.1 HO.out.2.2.2.1).mono ?_
      rintro e w' ⟨rfl, hb⟩
      exact ⟨rfl, HZL.out _ _ h hb⟩)
    have HS2 : Hid (∀ W, FX (fun _ => True) w ga gb a b ra rb W -> Calls Tryz.prog 25 #[.agg #[.int .i64 a.view, .int .i64 a.seq, .int .i64 a.dig, .int .i64 a.first.1, .int .i64 a.first.2, .slice ra.1.1 a.signs.length ra.1.2, .slice ra.2.1 a.batch.length ra.2.2], .agg #[.int .i64 b.view, .int .i64 b.seq, .int .i64 b.dig, .int .i64 b.first.1, .int .i64 b.first.2, .slice rb.1.1 b.signs.length rb.1.2, .slice rb.2.1 b.batch.length rb.2.2]] W fun e w' => e = .returned (.bool (decide (a = b))) /\ FX (fun _ => True) w ga gb a b ra rb w') := Lib.hid (fun W h => by
      refine (rproof_any W _ _ a b ra rb h.pa h.pb HO.out.2.2.1.2.2 HO.out.2.2.1.2.1 HO.out.2.2.1.1).mono ?_
      rintro e w' ⟨rfl, hb⟩
      exact ⟨rfl, HZL.out _ _ h hb⟩)
    have HS3 : Hid (∀ W, FX (fun _ => True) w ga gb a b ra rb W -> Calls Tryz.prog 32 #[.agg #[.int .i64 a.view, .int .i64 a.seq, .int .i64 a.dig, .int .i64 a.first.1, .int .i64 a.first.2, .slice ra.1.1 a.signs.length ra.1.2, .slice ra.2.1 a.batch.length ra.2.2], .agg #[.int .i64 a.view, .int .i64 a.seq, .int .i64 a.dig, .int .i64 a.first.1, .int .i64 a.first.2, .slice ra.1.1 a.signs.length ra.1.2, .slice ra.2.1 a.batch.length ra.2.2]] W fun e w' => e = .returned (.bool true) /\ FX (fun _ => True) w ga gb a b ra rb w') := Lib.hid (fun W h => by
      refine (HSM.out W _ _ a a ra ra h.pa h.pa HO.out.2.2.1 HO.out.2.2.1).mono ?_
      rintro e w' ⟨rfl, hb⟩
      exact ⟨by simp, HZL.out _ _ h hb⟩)
    generalize decide (a = b) = bv at *
    go_wp2_with fail
    have HX8 : Hid (FX (fun _ => True) w ga gb a b ra rb w3.drew) := Lib.hid (HZL.out _ _ HXZ.out (below_drewN (Below.refl _ _) 1))
    have C8 := HCL.out _ HX8.out
    clear HXZ
    cases bv
    all_goals
      go_upto_region 5 with fail
      go_region_held3 (fun w' => w'.cell? ⟨ga, 0, none⟩ = some (.int .i64 a.view) /\ w'.cell? ⟨ga, 1, none⟩ = some (.int .i64 a.seq) /\ w'.cell? ⟨ga, 2, none⟩ = some (.int .i64 a.dig) /\ w'.cell? ⟨ga, 3, none⟩ = some (.int .i64 a.first.1) /\ w'.cell? ⟨ga, 4, none⟩ = some (.int .i64 a.first.2) /\ w'.cell? ⟨ga, 5, none⟩ = some (.slice ra.1.1 a.signs.length ra.1.2) /\ w'.cell? ⟨ga, 6, none⟩ = some (.slice ra.2.1 a.batch.length ra.2.2) /\ w'.cell? ⟨gb, 0, none⟩ = some (.int .i64 b.view) /\ w'.cell? ⟨gb, 1, none⟩ = some (.int .i64 b.seq) /\ w'.cell? ⟨gb, 2, none⟩ = some (.int .i64 b.dig) /\ w'.cell? ⟨gb, 3, none⟩ = some (.int .i64 b.first.1) /\ w'.cell? ⟨gb, 4, none⟩ = some (.int .i64 b.first.2) /\ w'.cell? ⟨gb, 5, none⟩ = some (.slice rb.1.1 b.signs.length rb.1.2) /\ w'.cell? ⟨gb, 6, none⟩ = some (.slice rb.2.1 b.batch.length rb.2.2))
        (first | with_reducible exact C8 | with_reducible exact C9 | with_reducible exact C10 | with_reducible exact C11 | with_reducible exact C12 | (go_keep; done))
        (first
        | (go_at_call 32; refine (HS3.out _ HX.out).mono ?_; rintro e w13 ⟨rfl, hl⟩; have HXE := Lib.hid hl; have C12 := HCL.out _ hl; clear hl)
        | (go_at_call 32; refine (HS1.out _ HX10.out).mono ?_; rintro e w11 ⟨rfl, hl⟩; have HX := Lib.hid hl; have C11 := HCL.out _ hl; clear hl)
        | (go_at_call 25; refine (HS2.out _ HX9.out).mono ?_; rintro e w12 ⟨rfl, hl⟩; have HX := Lib.hid hl; have C11 := HCL.out _ hl; clear hl)
        | (go_at_call 32; refine (HS1.out _ HX8.out).mono ?_; rintro e w9 ⟨rfl, hl⟩; have HX9 := Lib.hid hl; have C9 := HCL.out _ hl; clear hl)
        | (go_at_call 25; refine (HS2.out _ HX8.out).mono ?_; rintro e w10 ⟨rfl, hl⟩; have HX10 := Lib.hid hl; have C10 := HCL.out _ hl; clear hl))
      all_goals
        go_upto_region 7 with fail
        go_quiet (fail)
        go_wp2_with fail
        go_ret
        exact ⟨rfl, below_drewN HXE.out.hb nq⟩
  case true =>
    have hi := HIF.out
    rw [hfr] at hi
    simp only [Bool.false_eq_true, if_true, if_false] at hi
    clear HIF
    obtain ⟨gh, rfl, hh⟩ := hi
    have HH2 := Lib.hid hh
    clear hh
    go_wp2_with fail
    refine HR.out.mono ?_
    rintro e w3 ⟨hb3, hi⟩
    rw [hfr] at hi
    simp only [if_true] at hi
    obtain ⟨gr, rfl, hgr, hrh⟩ := hi
    have HXZ : Hid (FX (fun W => H W (fun k => w1.heap.size <= k /\ k < w2.heap.size) gh l /\ RH W (fun k => False) gr l) w ga gb a b ra rb w3) := Lib.hid ⟨(HX3.out.later hb3 trivial).ka, (HX3.out.later hb3 trivial).kb, (HX3.out.later hb3 trivial).pa, (HX3.out.later hb3 trivial).pb, (HX3.out.later hb3 trivial).hb, HH.out.ch HH2.out (Ch.of_below (S := fun _ => False) hb3 (Nat.le_refl _)) (fun _ _ h => h), (by
      obtain ⟨v, h1, h2⟩ := hrh
      exact ⟨v, h1, h2.weaken (fun k _ hk => by rcases hk with hk | hk; exact hk.elim; exact .inr hk)⟩)⟩
    have HZL : Hid (∀ W W', FX (fun W => H W (fun k => w1.heap.size <= k /\ k < w2.heap.size) gh l /\ RH W (fun k => False) gr l) w ga gb a b ra rb W -> Below W.heap.size W W' -> FX (fun W => H W (fun k => w1.heap.size <= k /\ k < w2.heap.size) gh l /\ RH W (fun k => False) gr l) w ga gb a b ra rb W') := Lib.hid (fun W W' h b => h.later b ⟨HH.out.ch h.z.1 (Ch.of_below (S := fun _ => False) b (Nat.le_refl _)) (fun _ _ h => h), h.z.2.after b⟩)
    clear hb3 hrh hgr HX3 HP2 HR HH2
    have HCL : Hid (∀ W, FX (fun W => H W (fun k => w1.heap.size <= k /\ k < w2.heap.size) gh l /\ RH W (fun k => False) gr l) w ga gb a b ra rb W -> (W.cell? ⟨ga, 0, none⟩ = some (.int .i64 a.view) /\ W.cell? ⟨ga, 1, none⟩ = some (.int .i64 a.seq) /\ W.cell? ⟨ga, 2, none⟩ = some (.int .i64 a.dig) /\ W.cell? ⟨ga, 3, none⟩ = some (.int .i64 a.first.1) /\ W.cell? ⟨ga, 4, none⟩ = some (.int .i64 a.first.2) /\ W.cell? ⟨ga, 5, none⟩ = some (.slice ra.1.1 a.signs.length ra.1.2) /\ W.cell? ⟨ga, 6, none⟩ = some (.slice ra.2.1 a.batch.length ra.2.2) /\ W.cell? ⟨gb, 0, none⟩ = some (.int .i64 b.view) /\ W.cell? ⟨gb, 1, none⟩ = some (.int .i64 b.seq) /\ W.cell? ⟨gb, 2, none⟩ = some (.int .i64 b.dig) /\ W.cell? ⟨gb, 3, none⟩ = some (.int .i64 b.first.1) /\ W.cell? ⟨gb, 4, none⟩ = some (.int .i64 b.first.2) /\ W.cell? ⟨gb, 5, none⟩ = some (.slice rb.1.1 b.signs.length rb.1.2) /\ W.cell? ⟨gb, 6, none⟩ = some (.slice rb.2.1 b.batch.length rb.2.2))) := Lib.hid (fun W h => ⟨h.ka.cell 0, h.ka.cell 1, h.ka.cell 2, h.ka.cell 3, h.ka.cell 4, h.ka.cell 5, h.ka.cell 6, h.kb.cell 0, h.kb.cell 1, h.kb.cell 2, h.kb.cell 3, h.kb.cell 4, h.kb.cell 5, h.kb.cell 6⟩)
    have HS1 : Hid (∀ W, FX (fun W => H W (fun k => w1.heap.size <= k /\ k < w2.heap.size) gh l /\ RH W (fun k => False) gr l) w ga gb a b ra rb W -> Calls Tryz.prog 32 #[.agg #[.int .i64 a.view, .int .i64 a.seq, .int .i64 a.dig, .int .i64 a.first.1, .int .i64 a.first.2, .slice ra.1.1 a.signs.length ra.1.2, .slice ra.2.1 a.batch.length ra.2.2], .agg #[.int .i64 b.view, .int .i64 b.seq, .int .i64 b.dig, .int .i64 b.first.1, .int .i64 b.first.2, .slice rb.1.1 b.signs.length rb.1.2, .slice rb.2.1 b.batch.length rb.2.2]] W fun e w' => e = .returned (.bool (decide (a = b))) /\ FX (fun W => H W (fun k => w1.heap.size <= k /\ k < w2.heap.size) gh l /\ RH W (fun k => False) gr l) w ga gb a b ra rb w') := Lib.hid (fun W h => by
      refine (HSM.out W _ _ a b ra rb h.pa h.pb HO.out.2.2.1 HO.out.2.2.2.1).mono ?_
      rintro e w' ⟨rfl, hb⟩
      exact ⟨rfl, HZL.out _ _ h hb⟩)
    have HS2 : Hid (∀ W, FX (fun W => H W (fun k => w1.heap.size <= k /\ k < w2.heap.size) gh l /\ RH W (fun k => False) gr l) w ga gb a b ra rb W -> Calls Tryz.prog 25 #[.agg #[.int .i64 a.view, .int .i64 a.seq, .int .i64 a.dig, .int .i64 a.first.1, .int .i64 a.first.2, .slice ra.1.1 a.signs.length ra.1.2, .slice ra.2.1 a.batch.length ra.2.2], .agg #[.int .i64 b.view, .int .i64 b.seq, .int .i64 b.dig, .int .i64 b.first.1, .int .i64 b.first.2, .slice rb.1.1 b.signs.length rb.1.2, .slice rb.2.1 b.batch.length rb.2.2]] W fun e w' => e = .returned (.bool (decide (a = b))) /\ FX (fun W => H W (fun k => w1.heap.size <= k /\ k < w2.heap.size) gh l /\ RH W (fun k => False) gr l) w ga gb a b ra rb w') := Lib.hid (fun W h => by
      refine (rproof_any W _ _ a b ra rb h.pa h.pb HO.out.2.2.1.2.2 HO.out.2.2.1.2.1 HO.out.2.2.1.1).mono ?_
      rintro e w' ⟨rfl, hb⟩
      exact ⟨rfl, HZL.out _ _ h hb⟩)
    have HS3 : Hid (∀ W, FX (fun W => H W (fun k => w1.heap.size <= k /\ k < w2.heap.size) gh l /\ RH W (fun k => False) gr l) w ga gb a b ra rb W -> Calls Tryz.prog 32 #[.agg #[.int .i64 a.view, .int .i64 a.seq, .int .i64 a.dig, .int .i64 a.first.1, .int .i64 a.first.2, .slice ra.1.1 a.signs.length ra.1.2, .slice ra.2.1 a.batch.length ra.2.2], .agg #[.int .i64 a.view, .int .i64 a.seq, .int .i64 a.dig, .int .i64 a.first.1, .int .i64 a.first.2, .slice ra.1.1 a.signs.length ra.1.2, .slice ra.2.1 a.batch.length ra.2.2]] W fun e w' => e = .returned (.bool true) /\ FX (fun W => H W (fun k => w1.heap.size <= k /\ k < w2.heap.size) gh l /\ RH W (fun k => False) gr l) w ga gb a b ra rb w') := Lib.hid (fun W h => by
      refine (HSM.out W _ _ a a ra ra h.pa h.pa HO.out.2.2.1 HO.out.2.2.1).mono ?_
      rintro e w' ⟨rfl, hb⟩
      exact ⟨by simp, HZL.out _ _ h hb⟩)
    generalize decide (a = b) = bv at *
    go_wp2_with fail
    have HX8 : Hid (FX (fun W => H W (fun k => w1.heap.size <= k /\ k < w2.heap.size) gh l /\ RH W (fun k => False) gr l) w ga gb a b ra rb w3.drew) := Lib.hid (HZL.out _ _ HXZ.out (below_drewN (Below.refl _ _) 1))
    have C8 := HCL.out _ HX8.out
    clear HXZ
    cases bv
    all_goals
      go_upto_region 5 with fail
      go_region_held3 (fun w' => w'.cell? ⟨ga, 0, none⟩ = some (.int .i64 a.view) /\ w'.cell? ⟨ga, 1, none⟩ = some (.int .i64 a.seq) /\ w'.cell? ⟨ga, 2, none⟩ = some (.int .i64 a.dig) /\ w'.cell? ⟨ga, 3, none⟩ = some (.int .i64 a.first.1) /\ w'.cell? ⟨ga, 4, none⟩ = some (.int .i64 a.first.2) /\ w'.cell? ⟨ga, 5, none⟩ = some (.slice ra.1.1 a.signs.length ra.1.2) /\ w'.cell? ⟨ga, 6, none⟩ = some (.slice ra.2.1 a.batch.length ra.2.2) /\ w'.cell? ⟨gb, 0, none⟩ = some (.int .i64 b.view) /\ w'.cell? ⟨gb, 1, none⟩ = some (.int .i64 b.seq) /\ w'.cell? ⟨gb, 2, none⟩ = some (.int .i64 b.dig) /\ w'.cell? ⟨gb, 3, none⟩ = some (.int .i64 b.first.1) /\ w'.cell? ⟨gb, 4, none⟩ = some (.int .i64 b.first.2) /\ w'.cell? ⟨gb, 5, none⟩ = some (.slice rb.1.1 b.signs.length rb.1.2) /\ w'.cell? ⟨gb, 6, none⟩ = some (.slice rb.2.1 b.batch.length rb.2.2))
        (first | with_reducible exact C8 | with_reducible exact C9 | with_reducible exact C10 | with_reducible exact C11 | with_reducible exact C12 | (go_keep; done))
        (first
        | (go_at_call 32; refine (HS3.out _ HX.out).mono ?_; rintro e w13 ⟨rfl, hl⟩; have HXE := Lib.hid hl; have C12 := HCL.out _ hl; clear hl)
        | (go_at_call 32; refine (HS1.out _ HX10.out).mono ?_; rintro e w11 ⟨rfl, hl⟩; have HX := Lib.hid hl; have C11 := HCL.out _ hl; clear hl)
        | (go_at_call 25; refine (HS2.out _ HX9.out).mono ?_; rintro e w12 ⟨rfl, hl⟩; have HX := Lib.hid hl; have C11 := HCL.out _ hl; clear hl)
        | (go_at_call 32; refine (HS1.out _ HX8.out).mono ?_; rintro e w9 ⟨rfl, hl⟩; have HX9 := Lib.hid hl; have C9 := HCL.out _ hl; clear hl)
        | (go_at_call 25; refine (HS2.out _ HX8.out).mono ?_; rintro e w10 ⟨rfl, hl⟩; have HX10 := Lib.hid hl; have C10 := HCL.out _ hl; clear hl))
      all_goals
        obtain ⟨vr, hkr, hpr⟩ := (HZL.out _ _ HXE.out (below_drewN (Below.refl _ w13) 1)).z.2
        have HA : Hid (Calls Tryz.prog 27 #[.pointer (some ⟨gh, 0, none⟩)] w13.drew fun e w' => ∃ v, e = .returned v /\ PL w' (fun _ => False) v l /\ Below w13.drew.heap.size w13.drew w') := Lib.hid (HD.out.all w13.drew _ gh l (HZL.out _ _ HXE.out (below_drewN (Below.refl _ w13) 1)).z.1 HO.out.1)
        have HPR : Hid (PL w13.drew (fun k => False \/ k = gr) vr l /\ Blk w13.drew gr 67 #[vr]) := Lib.hid ⟨hpr, hkr⟩
        obtain ⟨Ar, cr, rfl, -⟩ := hpr.shape
        have g0 : w13.drew.cell? ⟨gr, 0, none⟩ = some (.slice Ar l.length cr) := hkr.cell 0
        have HBD : Hid (Below w.heap.size w w13.drew) := Lib.hid (below_drewN HXE.out.hb 1)
        clear hkr hpr
        go_upto_region 7 with fail
        go_region_held3 (fun w' => w'.cell? ⟨gr, 0, none⟩ = some (.slice Ar l.length cr))
          (first | with_reducible exact g0 | with_reducible exact g1 | with_reducible exact g2 | (go_keep; done))
          (first
          | (go_at_call 26; refine HSA.out.mono ?_; rintro e w15 ⟨rfl, hb⟩; have g2 : w15.cell? ⟨gr, 0, none⟩ = some (.slice Ar l.length cr) := (HB14.out.2.below hb HB14.out.2.lt).cell 0; have HBE := Lib.hid (HB14.out.1.trans (hb.mono HB14.out.1.size)); clear hb)
          | (go_at_call 27; refine HA.out.mono ?_; rintro e w14 ⟨va, rfl, hpa, hb⟩; have HSA := Lib.hid (sameall_any w14 _ _ va _ l l hpa (HPR.out.1.after hb) HAL.out HN.out); have HB14 : Hid (Below w.heap.size w w14 /\ Blk w14 gr 67 #[.slice Ar l.length cr]) := Lib.hid ⟨HBD.out.trans (hb.mono HBD.out.size), HPR.out.2.below hb HPR.out.2.lt⟩; have g1 : w14.cell? ⟨gr, 0, none⟩ = some (.slice Ar l.length cr) := HB14.out.2.cell 0; clear hpa hb))
        all_goals
          go_wp2_with fail
          go_ret
          exact ⟨by simp, HBE.out⟩
end Go.Proofs.YtmhmnkpaijoaaaaGreat.Ptd
namespace Go.Proofs.YtmhmnkpaijoaaaaGreat.Ptm
set_option linter.unusedSimpArgs false
open Go Go.RowKit Go.ChangeShapes Go.WideShapes Go.ChangeAt Go.Deep Ck Kf Kp Pm Pe Py Lk Jm Ja Jb Jo Pra Prb Prr Pta Pte
set_option linter.unusedVariables false
set_option maxRecDepth 100000
section
variable {H : Type} {enc : TypeId × Value -> H}
theorem open_gen {w : World} {fuel base : Nat} {v : Value} {x : DataW H × List MemPlace} {TS TE : TypeId} (hu : Tryz.prog.underlying TS = some (.slice TE)) {size bytes R : Nat} (hc : Tryz.prog.cellsOf TE = size) (hb : Tryz.prog.bytesOf TE = bytes) (hs : 0 < size)
    {E : Type} (cells : E -> List Value) (hlen : ∀ e, (cells e).length = size) (P : E -> Prop) (d : E)
    (helem : ∀ fuel cs y, DataW.trod enc Tryz.prog w base (fun _ => true) true fuel TE cs = some y -> (∀ n ∈ y.1.weights Tryz.prog TE, n <= R) -> ∃ e, cs = cells e /\ P e)
    (h : DataW.trod enc Tryz.prog w base (fun _ => true) true fuel TS [v] = some x) (hR : ∀ n ∈ x.1.weights Tryz.prog TS, n <= R) :
    ∃ l : List E, Sl w (fun k => w.heap.size <= k) size v l.length (l.flatMap cells) /\ l.length * bytes <= R /\ ∀ e ∈ l, P e := by
  rcases open_slice hu h with ⟨hcs, rfl⟩ | ⟨a, len, cap, m, n, D, Pl, hcs, _, hl, hm, hmm, rfl, hx⟩
  . obtain rfl : v = .slice none 0 0 := by simpa using hcs
    exact ⟨[], Sl.nil _ _ _, by simp, fun e he => absurd he (by simp)⟩
  . obtain rfl : v = .slice (some a) len cap := by simpa using hcs
    simp only [if_true] at hmm
    have each : ∀ i, ∃ e : E, i < len -> (∀ j u, (cells e)[j]? = some u -> w.cell? (a.add (i * size + j)) = some u) /\ P e := by
      intro i
      by_cases hi : i < len
      . obtain ⟨cs', hcc, ht⟩ := hx i (by omega)
        obtain ⟨e, rfl, hp⟩ := helem _ _ _ ht (fun n hn => hR n (by
          simp only [DataW.weights, hu, List.mem_cons, List.mem_append]
          exact .inr (.inl (all_mem hn (List.mem_map.2 ⟨i, by simpa using hi, rfl⟩)))))
        rw [hc] at hcc
        obtain ⟨_, _, hcell⟩ := World.cells?_some hcc
        refine ⟨e, fun _ => ⟨fun j u hj => ?_, hp⟩⟩
        have hjl : j < size := by rw [<- hlen e]; exact (List.getElem?_eq_some_iff.1 hj).1
        have h1 := hcell j hjl
        rw [Ck.add_add] at h1
        rw [h1, <- hj, List.getElem?_eq_getElem (by rw [hlen]; exact hjl)]
      . exact ⟨d, fun h => absurd h hi⟩
    obtain ⟨f, hf⟩ := Classical.axiomOfChoice each
    have hll : ((List.range len).map f).length = len := by simp
    refine ⟨(List.range len).map f, ?_, ?_, fun e he => ?_⟩
    . refine ⟨some a, cap, by rw [hll], by rw [flat_len hlen, hll], by rw [hll]; exact hl, hm, fun hn => ?_⟩
      rw [hll] at hn
      have h00 : (cells (f 0))[0]? = some ((cells (f 0))[0]'(by rw [hlen]; exact hs)) := List.getElem?_eq_getElem _
      have h0 := (hf 0 hn).1 0 _ h00
      refine ⟨a, rfl, by have := World.block_lt_of_cell? w _ h0; rw [Ck.add_block] at this; exact this, by have := World.block_lt_of_cell? w _ h0; rw [Ck.add_block] at this; omega, fun j u hj => ?_⟩
      have hjl : j < len * size := by
        have := (List.getElem?_eq_some_iff.1 hj).1
        rw [flat_len hlen, hll] at this
        exact this
      have hi : j / size < len := (Nat.div_lt_iff_lt_mul hs).2 hjl
      have hmd : j % size < size := Nat.mod_lt _ hs
      have hg := flat_get hlen ((List.range len).map f) (j / size) (by rw [hll]; exact hi) (j % size) hmd
      rw [Nat.div_add_mod' j size] at hg
      rw [hg] at hj
      have := (hf (j / size) hi).1 (j % size) u (by rw [<- hj]; congr 1; simp)
      rwa [Nat.div_add_mod' j size] at this
    . have := hR _ (by simp only [DataW.weights, hu]; exact List.mem_cons_self)
      rw [hb] at this
      rw [hll]
      simp only [List.length_append, List.length_map, List.length_range, List.length_replicate] at this
      exact Nat.le_trans (Nat.mul_le_mul_right bytes (by omega)) this
    . obtain ⟨i, hi, rfl⟩ := List.mem_map.1 he
      exact (hf i (by simpa using hi)).2
theorem bytes_sgn : Tryz.prog.bytesOf 36 = 16 := by kernel_rfl
theorem open_ss {w : World} {fuel base : Nat} {v : Value} {x : DataW H × List MemPlace} {R : Nat} (h : DataW.trod enc Tryz.prog w base (fun _ => true) true fuel 37 [v] = some x) (hR : ∀ n ∈ x.1.weights Tryz.prog 37, n <= R) :
    ∃ l : List Sg, SS w (fun k => w.heap.size <= k) v l /\ l.length * 16 <= R /\ ∀ s ∈ l, wfS s :=
  open_gen Tryz.underlying37 cells_sgn bytes_sgn (by omega) SC SC_len wfS (0, 0) (fun fuel cs y hy _ => by
    obtain ⟨s, h1, h2⟩ := open_sg hy
    exact ⟨s, h1, h2⟩) h hR
theorem cells_prep : Tryz.prog.cellsOf 41 = 7 := by kernel_rfl
theorem bytes_prep : Tryz.prog.bytesOf 41 = 88 := by kernel_rfl
theorem cells_ss : Tryz.prog.cellsOf 37 = 1 := by kernel_rfl
theorem cells_bat : Tryz.prog.cellsOf 39 = 1 := by kernel_rfl
def wfP (p : Pd) : Prop := (-9223372036854775808 <= p.seq /\ p.seq <= 9223372036854775807) /\ (-9223372036854775808 <= p.view /\ p.view <= 9223372036854775807)
theorem open_prep {w : World} {base fuel : Nat} {cs : List Value} {x : DataW H × List MemPlace} (h : DataW.trod enc Tryz.prog w base (fun _ => true) true fuel 41 cs = some x) (hR : ∀ n ∈ x.1.weights Tryz.prog 41, n <= 140737488351232) :
    ∃ e : Pd × Pl2, cs = (PC e.1 e.2).toList /\ PI w (fun k => w.heap.size <= k) e.1 e.2 /\ okV e.1 /\ wfP e.1 := by
  obtain ⟨xs, n', _, hx, hl, hxl, hf⟩ := DataW.trod_struct Tryz.underlying41 h
  rw [cells_prep] at hl
  have hxl' : xs.length = 6 := hxl
  match cs, hl with
  | [v0, v1, v2, v3, v4, v5, v6], _ =>
    have f0 : DataW.trod enc Tryz.prog w base (fun _ => true) true n' 2 (([v0, v1, v2, v3, v4, v5, v6].drop 0).take (Tryz.prog.cellsOf 2)) = xs[0]? := hf 0 _ rfl
    have f1 : DataW.trod enc Tryz.prog w base (fun _ => true) true n' 2 (([v0, v1, v2, v3, v4, v5, v6].drop 1).take (Tryz.prog.cellsOf 2)) = xs[1]? := hf 1 _ rfl
    have f2 : DataW.trod enc Tryz.prog w base (fun _ => true) true n' 31 (([v0, v1, v2, v3, v4, v5, v6].drop 2).take (Tryz.prog.cellsOf 31)) = xs[2]? := hf 2 _ rfl
    have f3 : DataW.trod enc Tryz.prog w base (fun _ => true) true n' 36 (([v0, v1, v2, v3, v4, v5, v6].drop 3).take (Tryz.prog.cellsOf 36)) = xs[3]? := hf 3 _ rfl
    have f4 : DataW.trod enc Tryz.prog w base (fun _ => true) true n' 37 (([v0, v1, v2, v3, v4, v5, v6].drop 5).take (Tryz.prog.cellsOf 37)) = xs[4]? := hf 4 _ rfl
    have f5 : DataW.trod enc Tryz.prog w base (fun _ => true) true n' 39 (([v0, v1, v2, v3, v4, v5, v6].drop 6).take (Tryz.prog.cellsOf 39)) = xs[5]? := hf 5 _ rfl
    rw [Py.cells_i64] at f0 f1
    rw [Jo.cells_dig] at f2
    rw [cells_sgn] at f3
    rw [cells_ss] at f4
    rw [cells_bat] at f5
    simp only [List.drop_zero, List.drop_succ_cons, List.take_succ_cons, List.take_zero] at f0 f1 f2 f3 f4 f5
    obtain ⟨z0, e0, w0⟩ := one_int Tryz.underlying2 (by omega) f0
    obtain ⟨z1, e1, w1⟩ := one_int Tryz.underlying2 (by omega) f1
    obtain ⟨z2, e2, w2⟩ := one_int Tryz.underlying31 (by omega) f2
    rw [List.getElem?_eq_getElem (by omega)] at f3 f4 f5
    have m : ∀ (j : Nat) (t : TypeId) (ht : [2, 2, 31, 36, 37, 39][j]? = some t) (hj : j < xs.length), ∀ n ∈ (xs[j]).1.weights Tryz.prog t, n <= 140737488351232 := fun j t ht hj n hn => hR n (by
      rw [hx]
      simp only [DataW.weights, Tryz.underlying41]
      exact DataW.weights_mem_each (ts := [2, 2, 31, 36, 37, 39]) (j := j) (t := t) ht (by simp [List.getElem?_eq_getElem hj]) n hn)
    obtain ⟨s, e3, ws⟩ := open_sg f3
    obtain ⟨sl, hss, hsl, _⟩ := open_ss f4 (m 4 _ rfl (by omega))
    obtain ⟨bl, hbi, hbl, hby⟩ := open_batch f5 (m 5 _ rfl (by omega))
    have b0 : -9223372036854775808 <= z0 /\ z0 <= 9223372036854775807 := by simpa [Lit.wf, IntKind.min, IntKind.max, IntKind.signed, IntKind.bits] using w0
    have b1 : -9223372036854775808 <= z1 /\ z1 <= 9223372036854775807 := by simpa [Lit.wf, IntKind.min, IntKind.max, IntKind.signed, IntKind.bits] using w1
    simp only [List.cons.injEq, and_true] at e0 e1 e2 e3
    obtain ⟨A, c, rfl, -⟩ := id hss
    obtain ⟨A2, c2, rfl, -⟩ := hbi.shape
    refine ⟨(⟨z0, z1, z2, s, sl, bl⟩, ((A, c), (A2, c2))), ?_, ⟨hss, hbi⟩, ⟨⟨fun y hy => ?_, show bl.length <= 140737488355328 by omega, show sl.length <= 140737488355328 by omega⟩, hsl, hbl, fun y hy => (hby y hy).1⟩, b1, b0⟩
    . rw [e0, e1, e2, e3.1, e3.2]; rfl
    . have := (hby y hy).1.2.2.1; omega
theorem zip_maps {α β : Type} : ∀ l : List (α × β), (l.map (·.1)).zip (l.map (·.2)) = l
  | [] => rfl
  | e :: l => by rw [List.map_cons, List.map_cons, List.zip_cons_cons, zip_maps l]
theorem open_preps {w : World} {base fuel : Nat} {v : Value} {x : DataW H × List MemPlace} (h : DataW.trod enc Tryz.prog w base (fun _ => true) true fuel 30 [v] = some x) (hR : ∀ n ∈ x.1.weights Tryz.prog 30, n <= 140737488351232) :
    ∃ l : List Pd, PL w (fun k => w.heap.size <= k) v l /\ l.length * 88 <= 140737488351232 /\ ∀ p ∈ l, okV p /\ wfP p := by
  obtain ⟨l, h1, h2, h3⟩ := open_gen Tryz.underlying30 cells_prep bytes_prep (by omega) (fun e : Pd × Pl2 => (PC e.1 e.2).toList) (fun e => PC_len e) (fun e => PI w (fun k => w.heap.size <= k) e.1 e.2 /\ okV e.1 /\ wfP e.1) (Pd.zero, ((none, 0), (none, 0))) (fun fuel cs y hy hr => open_prep hy hr) h hR
  refine ⟨l.map (·.1), ⟨l.map (·.2), ⟨by simp, fun i hi => ?_⟩, ?_⟩, by rw [List.length_map]; exact h2, fun p hp => ?_⟩
  . have hi' : i < l.length := by simpa using hi
    refine ⟨l[i].2, by rw [List.getElem?_map, List.getElem?_eq_getElem hi']; rfl, ?_⟩
    have := (h3 _ (List.getElem_mem hi')).1
    simpa using this
  . rw [List.length_map, flatP, zip_maps]
    exact h1
  . obtain ⟨e, he, rfl⟩ := List.mem_map.1 hp
    exact (h3 e he).2
end
end Go.Proofs.YtmhmnkpaijoaaaaGreat.Ptm
namespace Go.Proofs.YtmhmnkpaijoaaaaGreat.Ptp
set_option linter.unusedSimpArgs false
open Go Go.RowKit Ck Cf Kw Ga Kf Pm Pe Pg Ik Lk Jm Ja Jb Jf Jl Jn Kc Kj Pra Prb Pre Prn Prr Prv Prw Prx Pry Prz Psa Psb Psr Psu Psv Psx Pta Ptd Pte
attribute [local go_sem ↓] Go.wp_at_zero Go.wp_at_succ
set_option linter.unusedVariables false
set_option maxRecDepth 100000
def mineP : Pd := ⟨0, 1, 0, (0, 0), [(1, 2)], []⟩
end Go.Proofs.YtmhmnkpaijoaaaaGreat.Ptp
namespace Go.Proofs.YtmhmnkpaijoaaaaGreat.Ptz
set_option linter.unusedSimpArgs false
open Go Go.RowKit Ck Kw Ga Pra Prb Pre Prn Prr Psx Pta Ptd Pte Pua Pub
set_option linter.unusedVariables false
set_option maxRecDepth 100000
theorem hokl : ∀ m : List Pd, m.length <= 1599289640355 -> (∀ p ∈ m, okV p) -> oklT m := fun m h1 h2 => ⟨h1, h2⟩
theorem hok1 : okT [] Ptp.mineP := by
  refine ⟨⟨⟨fun y hy => ?_, ?_, ?_⟩, ?_, ?_, fun y hy => ?_⟩, ?_⟩ <;> simp_all [Ptp.mineP]
end Go.Proofs.YtmhmnkpaijoaaaaGreat.Ptz
