/-
  Layer 8 (request): the contracts of Valid and of bullalaw08.begun.
-/
import Derived.Test.YtebjjkhiniccgaaGreatJg
namespace Go.Proofs.YtebjjkhiniccgaaGreat.Jh
set_option linter.unusedSimpArgs false
open Go Go.RowKit Ck Kw Ga Kf Pm Pe Pg Pk Py Qb Ik Lk Ld Jm Ja Jb Jc Jd Jf Jg
open Im (num isIn add sum)
attribute [local go_sem ↓] Go.wp_at_zero Go.wp_at_succ
set_option linter.unusedVariables false
set_option maxRecDepth 100000

theorem validB_bad {L : List (List UInt8)} {G : List Sg} {d : Sd} (h : qcheck d.q ≠ 0) : validB L G d = false := by rw [validB, if_pos h]
theorem validB_ok {L : List (List UInt8)} {G : List Sg} {d : Sd} (h : qcheck d.q = 0) : validB L G d = (isIn L (qraw d.q) && (sgB d.s (key d.q.client, (num L (qraw d.q) : Int)) && isS G d.s)) := by rw [validB, if_neg (by omega)]

set_option maxHeartbeats 8000000 in
theorem valid_any (w : World) (S X : Nat → Prop) (p g : Nat) (L : List (List UInt8)) (G : List Sg) (d : Sd) (A : Option Addr) (c : Nat) (h : TL w S p g L G) (hls : Ls w X (.slice A d.q.o.recs.length c) d.q.o.recs) (hl : d.q.o.recs.length ≤ 140737488355328) (hw : wfS d.s) :
    Calls Tryz.prog 21 #[.pointer (some ⟨p, 0, none⟩), .pointer (some ⟨g, 0, none⟩), DV d A c] w fun e w' => e = .returned (.bool (validB L G d)) ∧ Below w.heap.size w w' := by
  have hb0 := op_below w (.cells (DC d A c) 53)
  have hk0 : DK (w.alloc (.cells (DC d A c) 53)) w.heap.size d A c := Blk.new w _ _
  have HC := Lib.hid (qbytes_any d.q (QV d.q A c) X _ ⟨A, c, rfl, hls.after hb0⟩ hl)
  have HT0 := Lib.hid (h.later hb0)
  have HB0 := Lib.hid hb0
  have HK0 := Lib.hid hk0
  obtain ⟨a0, a1, a2, a3, a4, a5, a6, a7, a8⟩ := hk0.cells
  have HWF := Lib.hid hw
  clear h hls hb0 hk0 hw
  unfold Byt at HC
  unfold QV QC at HC
  unfold DV
  unfold DC at HC HT0 HB0 HK0 a0 a1 a2 a3 a4 a5 a6 a7 a8 ⊢
  by_cases hq : qcheck d.q = 0
  · have HV := Lib.hid (validB_ok (L := L) (G := G) hq)
    have HQL := Lib.hid (qraw_len hq)
    rw [hq, qform_eq hq] at HC
    clear hq
    go_enter Tryz.func21, Tryz.ntmps21
    go_wp2_with fail
    refine HC.out.mono ?_
    rintro e w1 ⟨v1, rfl, hsl1, hb1⟩
    have HT1 := Lib.hid (HT0.out.later hb1)
    have HK1 := Lib.hid (HK0.out.below hb1 HK0.out.lt)
    have HB1 := Lib.hid (HB0.out.trans (hb1.mono HB0.out.size))
    obtain ⟨Ab, cb, rfl, -⟩ := id hsl1
    obtain ⟨S1, S2, t1, t2, -⟩ := id HT1.out
    have HLK := Lib.hid (Ia.look_yes w1 S1 _ p L Ab cb (qraw d.q) t1 hsl1 (by have := HQL.out; omega))
    clear hsl1 hb1 t1 t2 a0 a1 a2 a3 a4 a5 a6 a7 a8
    go_wp2_with fail
    refine HLK.out.mono ?_
    rintro e w2 ⟨rfl, n, rfl⟩
    have HT2 : Hid (TL (w1.drewN n) S p g L G) := Lib.hid (HT1.out.later (below_drewN (Below.refl _ _) n))
    have HK2 : Hid (DK (w1.drewN n) w.heap.size d A c) := HK1
    have HB2 : Hid (Below w.heap.size w (w1.drewN n)) := Lib.hid (below_drewN HB1.out n)
    clear HT0 HK0 HB0 HT1 HK1 HB1
    generalize w1.drewN n = w2 at *
    obtain ⟨a0, -, -, -, -, -, -, a7, a8⟩ := HK2.out.cells
    have HSG := Lib.hid fun (W : World) (b : Below w2.heap.size w2 W) (s : Sg) (hs : wfS s) => show Calls Tryz.prog 55 #[.pointer (some ⟨g, 0, none⟩), GV s] W fun e w' => e = .returned (.bool (isS G s)) ∧ Below W.heap.size W w' from by
      obtain ⟨S1, S2, t1, t2, -⟩ := HT2.out.later b
      exact Lb.signed_yes W S2 g G s hs t2
    have HKY := fun W : World => Lib.hid (key_any W d.q.client)
    generalize isIn L (qraw d.q) = known at *
    generalize (num L (qraw d.q) : Int) = dg at *
    have hqe := run_eql_sign
    have hge := guard_sign
    --CUT1
    cases known with
    | false =>
      have HV2 : Hid (validB L G d = false) := Lib.hid HV.out
      clear HV
      go_wp2_with fail
      --CUT2
      go_quiet (fail)
      --CUT3
      all_goals
        go_wp2_with fail
        go_ret
        exact ⟨by rw [HV2.out]; rfl, below_drewN HB2.out _⟩
    | true =>
      by_cases hs : sgB d.s (key d.q.client, dg) = true
      · have hqq : ∀ W : World, (binOp .eql 47 (.agg #[.int .i64 d.s.1, .int .i64 d.s.2]) (.agg #[.int .i64 (key d.q.client), .int .i64 dg])).run Tryz.prog W = .ok (.bool true) W := fun W => by rw [hqe]; rw [show sgB (d.s.1, d.s.2) (key d.q.client, dg) = true from hs]
        have HV2 : Hid (validB L G d = isS G d.s) := Lib.hid (by rw [HV.out, hs]; simp)
        have HSS := Lib.hid fun (W : World) (b : Below w2.heap.size w2 W) => HSG.out W b d.s HWF.out
        unfold GV at HSS
        clear HV hs hqe HSG
        generalize isS G d.s = b2 at *
        go_wp2_with fail
        --CUT4
        go_region_law (first
          | (go_simp; go_at_call 47; refine (HKY _).out.mono ?_; rintro e w3 ⟨rfl, rfl⟩)
          | (go_simp; go_at_call 55; refine (HSS.out _ (below_drewN (Below.refl _ w2) 1)).mono ?_; rintro e w3 ⟨rfl, hb3⟩; have HB3 := Lib.hid (HB2.out.trans ((Ga.below_of_drew hb3).mono HB2.out.size)); clear hb3))
        --CUT5
        all_goals
          go_wp2_with fail
          go_ret
          exact ⟨by rw [HV2.out]; rfl, HB3.out⟩
      · have hs := Bool.eq_false_iff.2 hs
        have hqq : ∀ W : World, (binOp .eql 47 (.agg #[.int .i64 d.s.1, .int .i64 d.s.2]) (.agg #[.int .i64 (key d.q.client), .int .i64 dg])).run Tryz.prog W = .ok (.bool false) W := fun W => by rw [hqe]; rw [show sgB (d.s.1, d.s.2) (key d.q.client, dg) = false from hs]
        have HV2 : Hid (validB L G d = false) := Lib.hid (by rw [HV.out, hs]; simp)
        clear HV hs hqe HSG
        go_wp2_with fail
        have HKQ : Hid (∀ n, Calls Tryz.prog 47 #[.int .i64 d.q.client] (w2.drewN n) fun e w'' => e = .returned (.int .i64 (key d.q.client)) ∧ ∃ m, w'' = w2.drewN m) := Lib.hid fun n => Calls.quiet_of_same ((key_any (w2.drewN n) d.q.client).mono fun _ _ h => ⟨h.1, h.2.symm⟩)
        go_quiet ((go_at_call 47; exact HKQ.out _))
        all_goals
          go_wp2_with fail
          go_ret
          exact ⟨by rw [HV2.out]; rfl, below_drewN HB2.out _⟩
  · have HV := Lib.hid (validB_bad (L := L) (G := G) hq)
    have hd : (qcheck d.q != 0) = true := by simpa using hq
    have hd2 : (qcheck d.q == 0) = false := by simpa using hq
    clear hq
    go_enter Tryz.func21, Tryz.ntmps21
    go_wp2_with fail
    refine HC.out.mono ?_
    rintro e w1 ⟨v1, rfl, -, hb1⟩
    have HB1 := Lib.hid (HB0.out.trans (hb1.mono HB0.out.size))
    clear hb1
    go_wp2_with fail
    go_ret
    exact ⟨by rw [HV.out]; rfl, HB1.out⟩

/-- The request that begun asks about. -/
def q0 : Q := ⟨2, 7, ⟨1, [116], [], 0, []⟩⟩
theorem q0_seal : sealR [] q0 = (⟨q0, (15, 1)⟩, 0) := by decide +kernel
theorem q0_table : sealT [] q0 = [qraw q0] := by decide +kernel
theorem q0_ledger : sealG [] [] q0 = [(15, 1)] := by decide +kernel
theorem q0_valid : validB [qraw q0] [(15, 1)] ⟨q0, (15, 1)⟩ = true := by decide +kernel
theorem q0_other : validB [qraw q0] [(15, 1)] ⟨⟨3, 7, ⟨1, [116], [], 0, []⟩⟩, (15, 1)⟩ = false := by decide +kernel
theorem q0_far : far q0.o 140737488351232 := by refine ⟨by decide, by decide, by decide, fun l hl => absurd hl (by simp [q0])⟩
set_option maxHeartbeats 1000000 in
theorem create_any (w : World) : Calls Tryz.prog 33 #[] w fun e w' => e = .returned (QV q0 none 0) ∧ Below w.heap.size w w' := by
  have b1 := op_below w (.cells Z7 27)
  have k1 : Blk (w.alloc (.cells Z7 27)) w.heap.size 27 Z7 := Blk.new _ _ _
  have HB := Lib.hid b1
  have HK := Lib.hid k1
  clear b1 k1
  unfold Z7 at HB HK
  unfold QV QC q0
  go_enter Tryz.func33, Tryz.ntmps33
  go_wp2_with fail
  refine bodyPost_ret (results_row1 rfl _ _ w.heap.size 27 #[.int .i64 2, .int .i64 7, .int .i64 1, .string ⟨#[116]⟩, .string ⟨#[]⟩, .int .i64 0, .slice none 0 0] (0, 0) _ rfl (Blk.new_at rfl rfl) Tryz.underlying27 rfl size_req) rfl ?_
  exact ⟨rfl, op_below _ _⟩
theorem tl_new {w w1 w2 : World} {p g : Nat} (h1 : Tb w1 (New w w1) p []) (b1 : Below w.heap.size w w1) (h2 : Lg w2 (New w1 w2) g []) (b2 : Below w1.heap.size w1 w2) : TL w2 (fun k => w.heap.size ≤ k) p g [] [] := by
  have s1 := b1.size
  have s2 := b2.size
  exact ⟨New w w1, New w1 w2, h1.ch (Ch.of_below (S := fun _ => False) b2 (Nat.le_refl _)) (fun _ _ h => h), h2, fun k hk hk2 => by have := hk.2; have := hk2.1; omega, fun k hk => ⟨hk.1, by have := hk.2; omega⟩, fun k hk => ⟨by have := hk.1; omega, hk.2⟩⟩
theorem below_ch {w W W' : World} {S : Nat → Prop} (b : Below w.heap.size w W) (c : Ch S W W') (h : ∀ k, S k → w.heap.size ≤ k) : Below w.heap.size w W' := b.trans (c.below (fun k hk hs => by have := h k hs; omega) b.size)

set_option maxHeartbeats 4000000 in
theorem begun_any (w : World) : Calls Tryz.prog 7 #[] w fun e w' => e = .returned (.bool true) ∧ Below w.heap.size w w' := by
  have hqe := run_eql_sign
  have hge := guard_sign
  have hs1 : sgB (15, 1) (15, 1) = true := rfl
  go_enter Tryz.func7, Tryz.ntmps7
  go_wp2_with fail
  refine (Ib.newtable_any w).mono ?_
  rintro e w1 ⟨p, rfl, ht1, hb1⟩
  have HT1 := Lib.hid ht1
  have HB1 := Lib.hid hb1
  clear ht1 hb1
  go_wp2_with fail
  refine (La.newledger_any w1).mono ?_
  rintro e w2 ⟨g, rfl, hl2, hb2⟩
  have HT2 := Lib.hid (tl_new HT1.out HB1.out hl2 hb2)
  have HB2 := Lib.hid (HB1.out.trans (hb2.mono HB1.out.size))
  clear hl2 hb2
  go_wp2_with fail
  refine (create_any w2).mono ?_
  rintro e w3 ⟨rfl, hb3⟩
  have HT3 := Lib.hid (HT2.out.later hb3)
  have HB3 := Lib.hid (HB2.out.trans (hb3.mono HB2.out.size))
  clear hb3
  have HSE := Lib.hid (seal_any w3 (fun k => w.heap.size ≤ k) (fun k => w.heap.size ≤ k) p g [] [] q0 none 0 HT3.out (ls_nil _ _) (fun _ _ h => h) q0_far (by simp))
  unfold Sealed at HSE
  rw [q0_seal, q0_table, q0_ledger] at HSE
  unfold QV QC q0 at HSE
  unfold QV QC q0
  go_wp2_with fail
  refine HSE.out.mono ?_
  rintro e w4 ⟨B, A, c, rfl, hB1, hB2, ht4, hl4, hc4⟩
  have HB4 := Lib.hid (below_ch HB3.out hc4 (fun _ h => h))
  have HT4 := Lib.hid ht4
  have HL4 := Lib.hid hl4
  clear ht4 hl4 hc4 hB1 hB2
  unfold DV DC
  unfold q0 at HT4 HL4
  go_wp2_with fail
  have b5 : Below w4.heap.size w4 ((w4.alloc (.cells #[.int .i64 2, .int .i64 7, .int .i64 1, .string ⟨#[116]⟩, .string ⟨#[]⟩, .int .i64 0, .slice A 0 c, .int .i64 15, .int .i64 1] 53)).alloc (.cells #[.int .i64 3, .int .i64 7, .int .i64 1, .string ⟨#[116]⟩, .string ⟨#[]⟩, .int .i64 0, .slice A 0 c, .int .i64 15, .int .i64 1] 53)) := (op_below w4 _).trans ((op_below _ _).mono (by simp))
  have k5 : Blk ((w4.alloc (.cells #[.int .i64 2, .int .i64 7, .int .i64 1, .string ⟨#[116]⟩, .string ⟨#[]⟩, .int .i64 0, .slice A 0 c, .int .i64 15, .int .i64 1] 53)).alloc (.cells #[.int .i64 3, .int .i64 7, .int .i64 1, .string ⟨#[116]⟩, .string ⟨#[]⟩, .int .i64 0, .slice A 0 c, .int .i64 15, .int .i64 1] 53)) (w4.heap.size + 1) 53 #[.int .i64 3, .int .i64 7, .int .i64 1, .string ⟨#[116]⟩, .string ⟨#[]⟩, .int .i64 0, .slice A 0 c, .int .i64 15, .int .i64 1] := Blk.new_at (by simp) rfl
  generalize ((w4.alloc (.cells #[.int .i64 2, .int .i64 7, .int .i64 1, .string ⟨#[116]⟩, .string ⟨#[]⟩, .int .i64 0, .slice A 0 c, .int .i64 15, .int .i64 1] 53)).alloc (.cells #[.int .i64 3, .int .i64 7, .int .i64 1, .string ⟨#[116]⟩, .string ⟨#[]⟩, .int .i64 0, .slice A 0 c, .int .i64 15, .int .i64 1] 53)) = w5 at *
  have HT5 := Lib.hid (HT4.out.later b5)
  have HL5 := Lib.hid (HL4.out.after b5)
  have HB5 := Lib.hid (HB4.out.trans (b5.mono HB4.out.size))
  have HK5 := Lib.hid k5
  have HV1 := Lib.hid (valid_any w5 _ _ p g _ _ ⟨q0, (15, 1)⟩ A c HT5.out HL5.out (by simp [q0]) (by unfold wfS; simp))
  have hv1 := q0_valid
  unfold q0 at hv1
  unfold DV DC q0 at HV1
  rw [hv1] at HV1
  clear b5 k5 hv1
  generalize w4.heap.size + 1 = g5 at *
  refine HV1.out.mono ?_
  rintro e w6 ⟨rfl, hb6⟩
  have HT6 := Lib.hid (HT5.out.later hb6)
  have HL6 := Lib.hid (HL5.out.after hb6)
  have HB6 := Lib.hid (HB5.out.trans (hb6.mono HB5.out.size))
  have k6 := HK5.out.below hb6 HK5.out.lt
  obtain ⟨⟨z0, z1, z2, z3, z4, z5, z6, z7, z8⟩, -⟩ := Blk.cells9 k6
  have HV2 := Lib.hid (valid_any w6 _ _ p g _ _ ⟨⟨3, 7, ⟨1, [116], [], 0, []⟩⟩, (15, 1)⟩ A c HT6.out HL6.out (by simp) (by unfold wfS; simp))
  have hv2 := q0_other
  unfold q0 at hv2
  rw [hv2] at HV2
  unfold DV DC at HV2
  clear hb6 k6 hv2
  go_wp2_with fail
  refine HV2.out.mono ?_
  rintro e w7 ⟨rfl, hb7⟩
  have HB7 := Lib.hid (HB6.out.trans (hb7.mono HB6.out.size))
  clear hb7
  go_wp2_with fail
  go_ret
  exact ⟨rfl, HB7.out⟩
end Go.Proofs.YtebjjkhiniccgaaGreat.Jh
