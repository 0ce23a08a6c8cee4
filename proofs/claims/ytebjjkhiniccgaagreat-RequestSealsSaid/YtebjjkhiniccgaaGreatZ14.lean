/-
  Layer 8 (request): the contracts of Seal and Valid.
-/
import Derived.Test.YtebjjkhiniccgaaGreatZ13
import Derived.Test.YtebjjkhiniccgaaGreatZ12
namespace Go.Proofs.YtebjjkhiniccgaaGreat.Jg
set_option linter.unusedSimpArgs false
open Go Go.RowKit Ck Kw Ga Kf Pm Pe Pg Pk Py Qb Ik Lk Ld Jm Ja Jb Jc Jd Jf
open Im (num isIn add sum)
attribute [local go_sem ↓] Go.wp_at_zero Go.wp_at_succ
set_option linter.unusedVariables false
set_option maxRecDepth 100000

/-- What Seal answers and leaves. -/
def sgOf (L : List (List UInt8)) (q : Q) : Sg := (key q.client, (sum L (qraw q) : Int))
def sealR (L : List (List UInt8)) (q : Q) : Sd × Int := if qcheck q ≠ 0 then (Sd.zero, qcheck q) else if code (sgOf L q) ≠ 0 then (Sd.zero, code (sgOf L q)) else (⟨q, sgOf L q⟩, 0)
def sealT (L : List (List UInt8)) (q : Q) : List (List UInt8) := if qcheck q ≠ 0 then L else add L (qraw q)
def sealG (L : List (List UInt8)) (G : List Sg) (q : Q) : List Sg := if qcheck q ≠ 0 then G else pay G (sgOf L q)
def validB (L : List (List UInt8)) (G : List Sg) (d : Sd) : Bool := if qcheck d.q ≠ 0 then false else isIn L (qraw d.q) && (sgB d.s (key d.q.client, (num L (qraw d.q) : Int)) && isS G d.s)
theorem sealR_bad {L : List (List UInt8)} {q : Q} (h : qcheck q ≠ 0) : sealR L q = (Sd.zero, qcheck q) := by rw [sealR, if_pos h]
theorem sealR_code {L : List (List UInt8)} {q : Q} (h : qcheck q = 0) (hc : code (sgOf L q) ≠ 0) : sealR L q = (Sd.zero, code (sgOf L q)) := by rw [sealR, if_neg (by omega), if_pos hc]
theorem sealR_ok {L : List (List UInt8)} {q : Q} (h : qcheck q = 0) (hc : code (sgOf L q) = 0) : sealR L q = (⟨q, sgOf L q⟩, 0) := by rw [sealR, if_neg (by omega), if_neg (by omega)]
theorem sealT_bad {L : List (List UInt8)} {q : Q} (h : qcheck q ≠ 0) : sealT L q = L := by rw [sealT, if_pos h]
theorem sealT_ok {L : List (List UInt8)} {q : Q} (h : qcheck q = 0) : sealT L q = add L (qraw q) := by rw [sealT, if_neg (by omega)]
theorem sealG_bad {L : List (List UInt8)} {G : List Sg} {q : Q} (h : qcheck q ≠ 0) : sealG L G q = G := by rw [sealG, if_pos h]
theorem sealG_ok {L : List (List UInt8)} {G : List Sg} {q : Q} (h : qcheck q = 0) : sealG L G q = pay G (sgOf L q) := by rw [sealG, if_neg (by omega)]
def Sealed (S : Nat → Prop) (p g : Nat) (L : List (List UInt8)) (G : List Sg) (q : Q) (w : World) (e : Ending) (w' : World) : Prop :=
  ∃ B A c, e = .returned (.tuple #[DV (sealR L q).1 A c, .int .i64 (sealR L q).2]) ∧ w.heap.size ≤ B ∧ B ≤ w'.heap.size ∧ TL w' (Nw S w.heap.size B) p g (sealT L q) (sealG L G q) ∧ Ls w' (fun k => k < B) (.slice A (sealR L q).1.q.o.recs.length c) (sealR L q).1.q.o.recs ∧ Ch S w w'
/-- Seal's own blocks. -/
structure SS (S : Nat → Prop) (w0 : World) (q : Q) (A : Option Addr) (c : Nat) (W : World) : Prop where
  ch : Ch S w0 W
  two : w0.heap.size + 2 ≤ W.heap.size
  req : QB W w0.heap.size q A c
  res : Blk W (w0.heap.size + 1) 53 Z9
theorem SS.step {S X : Nat → Prop} {w0 W W' : World} {q : Q} {A : Option Addr} {c : Nat} (h : SS S w0 q A c W) (k : Ch X W W') (hX : ∀ k, k < W.heap.size → X k → S k ∧ k < w0.heap.size) : SS S w0 q A c W' :=
  ⟨h.ch.trans k (fun i hi hx => (hX i (Nat.lt_of_lt_of_le hi h.ch.size) hx).1), Nat.le_trans h.two k.size, Blk.ch h.req k (fun hx => by have := (hX _ (Blk.lt h.req) hx).2; omega), Blk.ch h.res k (fun hx => by have := (hX _ (Blk.lt h.res) hx).2; omega)⟩
theorem SS.later {S : Nat → Prop} {w0 W W' : World} {q : Q} {A : Option Addr} {c : Nat} (h : SS S w0 q A c W) (b : Below W.heap.size W W') : SS S w0 q A c W' := h.step (Ch.of_below (S := fun _ => False) b (Nat.le_refl _)) (fun _ _ h => h.elim)
theorem SS.nw {S : Nat → Prop} {w0 W W' : World} {q : Q} {A : Option Addr} {c a b : Nat} (h : SS S w0 q A c W) (k : Ch (Nw S a b) W W') (ha : w0.heap.size + 2 ≤ a) (hS : ∀ k, S k → k < w0.heap.size) : SS S w0 q A c W' := by
  have h2 := h.two
  refine ⟨h.ch.trans k (fun i hi hx => ?_), Nat.le_trans h.two k.size, Blk.ch h.req k (fun hx => ?_), Blk.ch h.res k (fun hx => ?_)⟩
  · rcases hx with hx | hx
    · exact hx
    · omega
  · rcases hx with hx | hx
    · have := hS _ hx; omega
    · omega
  · rcases hx with hx | hx
    · have := hS _ hx; omega
    · omega
theorem ss_new (S : Nat → Prop) (w : World) (q : Q) (A : Option Addr) (c : Nat) : SS S w q A c ((w.alloc (.cells (QC q A c) 27)).alloc (.cells Z9 53)) :=
  ⟨(Ch.refl S w).alloc _ |>.alloc _, by simp, Blk.alloc (Blk.new w _ _) _, Blk.new_at (by simp) rfl⟩
/-- The end: the result's block is written. -/
theorem seal_end {S : Nat → Prop} {w W W' : World} {q : Q} {A : Option Addr} {c p g B : Nat} {L L' : List (List UInt8)} {G G' : List Sg} {Ar : Option Addr} {cr : Nat} {d : Sd} {z : Int} (hs : SS (fun k => S k ∧ k < w.heap.size) w q A c W)
    (ht : TL W (Nw (fun k => S k ∧ k < w.heap.size) (w.heap.size + 2) B) p g L' G') (hB : w.heap.size + 2 ≤ B) (hB' : B ≤ W.heap.size) (hl : Ls W (fun k => k < B) (.slice Ar d.q.o.recs.length cr) d.q.o.recs) (hc : Ch (fun k => k = w.heap.size + 1) W W')
    (h1 : sealR L q = (d, z)) (h2 : sealT L q = L') (h3 : sealG L G q = G') : Sealed S p g L G q w (.returned (.tuple #[DV d Ar cr, .int .i64 z])) W' := by
  unfold Sealed
  rw [h1, h2, h3]
  refine ⟨B, Ar, cr, rfl, by omega, Nat.le_trans hB' hc.size, ?_, hl.ch hc (fun k _ hk => by omega), ?_⟩
  · refine (ht.ch hc (fun k hk hx => ?_)).weaken (fun k _ hk => ?_)
    · rcases hk with hk | hk <;> omega
    · rcases hk with hk | hk
      · exact .inl hk.1
      · exact .inr ⟨by omega, hk.2⟩
  · exact (hs.ch.trans hc (T := fun k => k = w.heap.size + 1) (fun k hk hx => by omega)).mono (fun k _ h => h.1)
theorem ls_none (W : World) (X : Nat → Prop) : Ls W X (.slice none Sd.zero.q.o.recs.length 0) Sd.zero.q.o.recs := ls_nil W X

set_option maxHeartbeats 8000000 in
theorem seal_any (w : World) (S X : Nat → Prop) (p g : Nat) (L : List (List UInt8)) (G : List Sg) (q : Q) (A : Option Addr) (c : Nat) (h : TL w S p g L G) (hls : Ls w X (.slice A q.o.recs.length c) q.o.recs) (hX : ∀ k, k < w.heap.size → S k → X k) (hlo : far q.o 140737488351232) (hG : (G.length + 1) * 16 ≤ 140737488355328) :
    Calls Tryz.prog 19 #[.pointer (some ⟨p, 0, none⟩), .pointer (some ⟨g, 0, none⟩), QV q A c] w (Sealed S p g L G q w) := by
  have hl : q.o.recs.length ≤ 140737488355328 := by have := hlo.2.2.1; omega
  have HT : Hid (TL w (fun k => S k ∧ k < w.heap.size) p g L G) := Lib.hid (h.weaken (fun k hk hs => ⟨hs, hk⟩))
  have hs0 := ss_new (fun k => S k ∧ k < w.heap.size) w q A c
  have HB0 : Below w.heap.size w ((w.alloc (.cells (QC q A c) 27)).alloc (.cells Z9 53)) := (op_below w _).trans ((op_below _ _).mono (by simp))
  have HC := Lib.hid (qbytes_any q (QV q A c) X _ ⟨A, c, rfl, hls.after HB0⟩ hl)
  have HT0 := Lib.hid (HT.out.later HB0)
  have HLS := Lib.hid hls
  have HXX := Lib.hid hX
  have HLO := Lib.hid hlo
  have HG := Lib.hid hG
  have hr0 := hs0.res
  obtain ⟨a0, a1, a2, a3, a4, a5, a6⟩ := hs0.req.cells
  have HS0 := Lib.hid hs0
  clear h hls hX hlo hG hs0 HB0
  unfold QV at HC ⊢
  unfold QC Z9 at HC HT0 HS0 hr0 a0 a1 a2 a3 a4 a5 a6
  unfold QC
  obtain ⟨⟨z0, z1, z2, z3, z4, z5, z6, z7, z8⟩, ⟨y0, y1, y2, y3, y4, y5, y6, y7, y8⟩⟩ := Blk.cells9 hr0
  unfold Byt at HC
  clear hr0
  by_cases hq : qcheck q = 0
  · have HQF := Lib.hid (qform_eq hq)
    have HQL := Lib.hid (qraw_len hq)
    have HRT := fun L' G' => Lib.hid (And.intro (sealT_ok (L := L') hq) (sealG_ok (L := L') (G := G') hq))
    have HRR := Lib.hid (fun h => sealR_ok (L := L) hq h)
    have HRN := Lib.hid (fun h => sealR_code (L := L) hq h)
    have HKP := Lib.hid (key_pos ((isC_iff q.client).2 (qcheck_ok hq).1))
    have HCL : Hid (0 ≤ q.client ∧ q.client < 8) := Lib.hid (qcheck_ok hq).1
    rw [hq, HQF.out] at HC
    clear hq
    go_enter Tryz.func19, Tryz.ntmps19
    go_wp2_with fail
    --CUT1
    refine HC.out.mono ?_
    rintro e w1 ⟨v1, rfl, hsl1, hb1⟩
    have HS1 := Lib.hid (HS0.out.later hb1)
    have HT1 := Lib.hid (HT0.out.later hb1)
    have HB1 := Lib.hid hsl1
    obtain ⟨Ab, cb, rfl, -⟩ := id hsl1
    clear hsl1 hb1 a0 a1 a2 a3 a4 a5 a6 z0 z1 z2 z3 z4 z5 z6 z7 z8 y0 y1 y2 y3 y4 y5 y6 y7 y8
    have HMT : ∀ S1, Tb w1 S1 p L → Hid (Calls Tryz.prog 44 #[.pointer (some ⟨p, 0, none⟩)] w1 fun e w' => e = .returned (.bool true) ∧ Below w1.heap.size w1 w') := fun S1 h => Lib.hid (madet_any w1 S1 p L h)
    obtain ⟨S1, S2, tb1, -⟩ := id HT1.out
    have HMT := HMT S1 tb1
    clear tb1
    go_wp2_with fail
    --CUT2
    refine HMT.out.mono ?_
    rintro e w2 ⟨rfl, hb2⟩
    have HS2 := Lib.hid (HS1.out.later hb2)
    have HT2 := Lib.hid (HT1.out.later hb2)
    have HB2 := Lib.hid (HB1.out.after hb2)
    clear hb2 HMT
    obtain ⟨S3, S4, -, lg2, -⟩ := id HT2.out
    have HML := Lib.hid (madel_any w2 S4 g G lg2 (by have := HG.out; omega))
    clear lg2
    go_wp2_with fail
    --CUT3
    refine HML.out.mono ?_
    rintro e w3 ⟨rfl, hb3⟩
    have HS3 := Lib.hid (HS2.out.later hb3)
    have HT3 := Lib.hid (HT2.out.later hb3)
    have HB3 := Lib.hid (HB2.out.after hb3)
    clear hb3 HML
    obtain ⟨a0, -⟩ := HS3.out.req.cells
    have HKY := Lib.hid (key_any w3 q.client)
    go_wp2_with fail
    --CUT4
    refine HKY.out.mono ?_
    rintro e w4 ⟨rfl, rfl⟩
    obtain ⟨S5, S6, tb3, -, -, hS5, -⟩ := id HT3.out
    have HSM := Lib.hid (Ib.sum_yes w3 S5 _ p L Ab cb (qraw q) tb3 HB3.out (by have := HQL.out; omega))
    clear tb3 a0
    go_wp2_with fail
    have HTB : Hid (∀ e w', Ib.Summed S5 p L (qraw q) w3 e w' → e = .returned (.int .i64 (sum L (qraw q) : Int)) ∧ True) := Lib.hid fun _ _ h => ⟨h.1, trivial⟩
    have HST : Hid (Calls Tryz.prog 48 #[.pointer (some ⟨p, 0, none⟩), .slice Ab (qraw q).length cb] w3 fun e w' => e = .returned (.int .i64 (sum L (qraw q) : Int)) ∧ TL w' (Nw (fun k => S k ∧ k < w.heap.size) w3.heap.size w'.heap.size) p g (add L (qraw q)) G ∧ Ch (fun k => S k ∧ k < w.heap.size) w3 w') := Lib.hid (by
      obtain ⟨T1, T2, t1, t2, t3, t4, t5⟩ := HT3.out
      refine (Ib.sum_yes w3 T1 _ p L Ab cb (qraw q) t1 HB3.out (by have := HQL.out; omega)).mono ?_
      rintro e w' ⟨he, h1, h2⟩
      refine ⟨he, ?_⟩
      have hs := h2.size
      refine ⟨⟨Up T1 w3 w', T2, h1, t2.ch h2 (fun k hk hx => t3 k hx hk), ?_, ?_, ?_⟩, h2.mono (fun k _ hk => (t4 k hk).1)⟩
      · rintro k (hk | hk) hk2
        · exact t3 k hk hk2
        · have := (t5 k hk2).2; omega
      · rintro k (hk | hk)
        · exact ⟨.inl (t4 k hk).1, by have := (t4 k hk).2; omega⟩
        · exact ⟨.inr hk, hk.2⟩
      · intro k hk
        exact ⟨.inl (t5 k hk).1, by have := (t5 k hk).2; omega⟩)
    clear HTB HSM
    --CUT5
    refine HST.out.mono ?_
    rintro e w4 ⟨rfl, ht4, hc4⟩
    have HS4 := Lib.hid (HS3.out.step hc4 (fun k _ h => ⟨h, h.2⟩))
    have HT4 := Lib.hid ht4
    have h43 := hc4.size
    clear ht4 hc4 HST
    --CUTG
    have HWF : Hid (wfS (sgOf L q)) := Lib.hid (by
      have h1 := HCL.out
      have h2 : sum L (qraw q) ≤ 1048577 := by
        obtain ⟨T1, T2, ⟨_, _, _, _, _, _, _, _, _, _, _, hlen⟩, _⟩ := HT3.out
        have h4 := Im.num_le L (qraw q)
        unfold Im.sum
        split
        · omega
        · split <;> omega
      unfold wfS sgOf
      simp only
      rw [HKP.out]
      omega)
    --CUTH
    have HSG : Hid (Calls Tryz.prog 46 #[.pointer (some ⟨g, 0, none⟩), .int .i64 (key q.client), .int .i64 (sum L (qraw q) : Int)] w4 fun e w' => e = .returned (.tuple #[GV (ans (sgOf L q)), .int .i64 (code (sgOf L q))]) ∧ TL w' (Nw (fun k => S k ∧ k < w.heap.size) w3.heap.size w'.heap.size) p g (add L (qraw q)) (pay G (sgOf L q)) ∧ Ch (Nw (fun k => S k ∧ k < w.heap.size) w3.heap.size w4.heap.size) w4 w') := Lib.hid (by
      obtain ⟨T1, T2, t1, t2, t3, t4, t5⟩ := HT4.out
      refine (Lc.sign_any w4 T2 g G (sgOf L q) HWF.out t2 HG.out).mono ?_
      rintro e w' ⟨he, h1, h2⟩
      refine ⟨he, ?_⟩
      have hs := h2.size
      refine ⟨⟨T1, Up T2 w4 w', t1.ch h2 (fun k hk hx => t3 k hk hx), h1, ?_, ?_, ?_⟩, h2.mono (fun k _ hk => (t5 k hk).1)⟩
      · rintro k hk2 (hk | hk)
        · exact t3 k hk2 hk
        · have := (t4 k hk2).2; omega
      · intro k hk
        have := t4 k hk
        exact ⟨this.1.imp id (fun h => ⟨h.1, by omega⟩), by omega⟩
      · rintro k (hk | hk)
        · have := t5 k hk
          exact ⟨this.1.imp id (fun h => ⟨h.1, by omega⟩), by omega⟩
        · exact ⟨.inr ⟨by have := hk.1; omega, hk.2⟩, hk.2⟩)
    --CUTI
    go_wp2_with fail
    --CUT6
    refine HSG.out.mono ?_
    rintro e w5 ⟨he, ht5, hc5⟩
    --CUTA
    have h54 := hc5.size
    --CUTB
    have HS5 := Lib.hid (HS4.out.nw hc5 HS3.out.two (fun _ h => h.2))
    --CUTC
    have HT5 := Lib.hid ht5
    have h3w := HS3.out.two
    clear ht5 hc5 HSG
    --CUTD
    have h5 := h54
    have hz5 : w.heap.size + 2 ≤ w5.heap.size := by omega
    have HZ5 := Lib.hid hz5
    have HRT5 := HRT L G
    --CUTE
    have HN5 : Hid (∀ k, k < w5.heap.size → Nw (fun k => S k ∧ k < w.heap.size) w3.heap.size w5.heap.size k → Nw (fun k => S k ∧ k < w.heap.size) (w.heap.size + 2) w5.heap.size k) := Lib.hid (fun k _ hk => hk.imp id (fun h => ⟨by have := HS3.out.two; omega, h.2⟩))
    --CUTF
    clear h54 h43 h3w h5 HRT
    --CUT7
    by_cases hcd : code (sgOf L q) = 0
    · have HR := Lib.hid (HRR.out hcd)
      have hans : ans (sgOf L q) = sgOf L q := by rw [ans, if_pos hcd]
      rw [hcd, hans] at he
      clear hcd hans HRR HRN HWF
      generalize sgOf L q = s at *
      obtain ⟨s1, s2⟩ := s
      unfold GV at he
      simp only at he
      subst he
      --CUTa
      go_wp2_with fail
      --CUTb
      have hk6 : Blk (w5.alloc (.cells #[.int .i64 s1, .int .i64 s2] 47)) w5.heap.size 47 #[.int .i64 s1, .int .i64 s2] := Blk.new _ _ _
      have HS6 := Lib.hid (HS5.out.later (op_below w5 (.cells #[.int .i64 s1, .int .i64 s2] 47)))
      have HT6 := Lib.hid (HT5.out.later (op_below w5 (.cells #[.int .i64 s1, .int .i64 s2] 47)))
      have HZ6 : Hid (w5.heap.size < (w5.alloc (.cells #[.int .i64 s1, .int .i64 s2] 47)).heap.size) := Lib.hid (by simp)
      generalize w5.alloc (.cells #[.int .i64 s1, .int .i64 s2] 47) = w6 at *
      generalize hB : w5.heap.size = B at *
      have HK6 := Lib.hid hk6
      clear hk6 hB
      have HQC := Lib.hid (qclone_any w6.drew q X A c ((HLS.out.ch HS6.out.ch (fun k hk hs => HXX.out k hk hs.1)).after (below_drewN (Below.refl _ w6) 1)) HLO.out)
      have HSL : ∀ W, Blk W B 47 #[.int .i64 s1, .int .i64 s2] → Hid (W.cell? ⟨B, 0, none⟩ = some (.int .i64 s1) ∧ W.cell? ⟨B, 1, none⟩ = some (.int .i64 s2)) := fun W h => Lib.hid ⟨h.cell 0, h.cell 1⟩
      unfold QV QC at HQC
      unfold ClonedQ QV QC at HQC
      --CUT8
      obtain ⟨a0, a1, a2, a3, a4, a5, a6⟩ := QB.cells HS6.out.req
      obtain ⟨b0, b1⟩ := (HSL _ HK6.out).out
      go_region_law (first
        | (go_simp; go_at_call 49; refine HQC.out.mono ?_; rintro e w7 ⟨A2, c2, rfl, hl7, hb7⟩; have HS7 := Lib.hid (HS6.out.later (Ga.below_of_drew hb7)); have HT7 := Lib.hid (HT6.out.later (Ga.below_of_drew hb7)); have HK7 := Lib.hid (HK6.out.below (Ga.below_of_drew hb7) HK6.out.lt); have HL7 := Lib.hid hl7; have HZ7 := Lib.hid (show w6.heap.size ≤ w7.heap.size from hb7.size); have hr7 : Blk w7 (w.heap.size + 1) 53 #[.int .i64 0, .int .i64 0, .int .i64 0, .string ⟨#[]⟩, .string ⟨#[]⟩, .int .i64 0, .slice none 0 0, .int .i64 0, .int .i64 0] := HS7.out.res; obtain ⟨⟨z0, z1, z2, z3, z4, z5, z6, z7, z8⟩, ⟨y0, y1, y2, y3, y4, y5, y6, y7, y8⟩⟩ := Blk.cells9 hr7; have HR7 := Lib.hid hr7; clear hl7 hb7 hr7 a0 a1 a2 a3 a4 a5 a6 b0 b1; obtain ⟨b0, b1⟩ := (HSL _ HK7.out).out))
      --CUT9
      all_goals
        go_wp2_with fail
        refine bodyPost_ret (results_row_tmp rfl _ _ (w.heap.size + 1) 53 #[.int .i64 q.client, .int .i64 q.time, .int .i64 q.o.kind, .string ⟨q.o.topic.toArray⟩, .string ⟨q.o.group.toArray⟩, .int .i64 q.o.off, .slice A2 q.o.recs.length c2, .int .i64 s1, .int .i64 s2] (0, 0) _ rfl (blk9 HR7.out) Tryz.underlying53 rfl size_signed) rfl ?_
        exact seal_end (d := ⟨q, (s1, s2)⟩) (Ar := A2) (cr := c2) (B := B) HS7.out (HT7.out.weaken (fun k hk h => HN5.out k (by rcases h with h | h <;> (have := HZ5.out; omega)) h)) HZ5.out (by have := HZ6.out; have := HZ7.out; omega) (HL7.out.weaken (fun k _ h => by have := HZ6.out; show k < w6.heap.size; omega)) (ch9 (Ch.refl _ _)) HR.out HRT5.out.1 HRT5.out.2
    · have HR := Lib.hid (HRN.out hcd)
      have hne : (code (sgOf L q) != 0) = true := by simpa using hcd
      have hne2 : (code (sgOf L q) == 0) = false := by simpa using hcd
      clear hcd HRR HRN HWF
      generalize ans (sgOf L q) = s at *
      generalize code (sgOf L q) = z at *
      obtain ⟨s1, s2⟩ := s
      unfold GV at he
      simp only at he
      subst he
      have HS6 := Lib.hid (HS5.out.later (op_below w5 (.cells #[.int .i64 s1, .int .i64 s2] 47)))
      have HT6 := Lib.hid (HT5.out.later (op_below w5 (.cells #[.int .i64 s1, .int .i64 s2] 47)))
      have HZ6 : Hid (w5.heap.size < (w5.alloc (.cells #[.int .i64 s1, .int .i64 s2] 47)).heap.size) := Lib.hid (by simp)
      have hr7 : Blk (w5.alloc (.cells #[.int .i64 s1, .int .i64 s2] 47)) (w.heap.size + 1) 53 #[.int .i64 0, .int .i64 0, .int .i64 0, .string ⟨#[]⟩, .string ⟨#[]⟩, .int .i64 0, .slice none 0 0, .int .i64 0, .int .i64 0] := HS6.out.res
      obtain ⟨⟨z0, z1, z2, z3, z4, z5, z6, z7, z8⟩, ⟨y0, y1, y2, y3, y4, y5, y6, y7, y8⟩⟩ := Blk.cells9 hr7
      have HR7 := Lib.hid hr7
      clear hr7
      go_wp2_with fail
      refine bodyPost_ret (results_row_tmp rfl _ _ (w.heap.size + 1) 53 #[.int .i64 0, .int .i64 0, .int .i64 0, .string ⟨#[]⟩, .string ⟨#[]⟩, .int .i64 0, .slice none 0 0, .int .i64 0, .int .i64 0] (0, 0) _ rfl (blk9 HR7.out) Tryz.underlying53 rfl size_signed) rfl ?_
      exact seal_end (d := Sd.zero) (Ar := none) (cr := 0) (B := w5.heap.size) HS6.out (HT6.out.weaken (fun k hk h => HN5.out k (by rcases h with h | h <;> (have := HZ5.out; omega)) h)) HZ5.out (by have := HZ6.out; omega) (ls_none _ _) (ch9 (Ch.refl _ _)) HR.out HRT5.out.1 HRT5.out.2
  · have hd : (qcheck q != 0) = true := by simpa using hq
    have hd2 : (qcheck q == 0) = false := by simpa using hq
    have HRT := fun G' => Lib.hid (And.intro (sealR_bad (L := L) hq) (And.intro (sealT_bad (L := L) hq) (sealG_bad (L := L) (G := G') hq)))
    clear hq
    go_enter Tryz.func19, Tryz.ntmps19
    go_wp2_with fail
    refine HC.out.mono ?_
    rintro e w1 ⟨v1, rfl, -, hb1⟩
    have HS1 := Lib.hid (HS0.out.later hb1)
    have HT1 := Lib.hid (HT0.out.later hb1)
    have hr1 : Blk w1 (w.heap.size + 1) 53 _ := HS1.out.res
    clear hb1 a0 a1 a2 a3 a4 a5 a6 z0 z1 z2 z3 z4 z5 z6 z7 z8 y0 y1 y2 y3 y4 y5 y6 y7 y8
    unfold Z9 at hr1
    obtain ⟨⟨z0, z1, z2, z3, z4, z5, z6, z7, z8⟩, ⟨y0, y1, y2, y3, y4, y5, y6, y7, y8⟩⟩ := Blk.cells9 hr1
    have HR1 := Lib.hid hr1
    clear hr1
    go_wp2_with fail
    refine bodyPost_ret (results_row_tmp rfl _ _ (w.heap.size + 1) 53 #[.int .i64 0, .int .i64 0, .int .i64 0, .string ⟨#[]⟩, .string ⟨#[]⟩, .int .i64 0, .slice none 0 0, .int .i64 0, .int .i64 0] (0, 0) _ rfl (blk9 HR1.out) Tryz.underlying53 rfl size_signed) rfl ?_
    exact seal_end (d := Sd.zero) (Ar := none) (cr := 0) (B := w.heap.size + 2) HS1.out (HT1.out.weaken (fun k _ hk => .inl hk)) (Nat.le_refl _) HS1.out.two (ls_none _ _) (ch9 (Ch.refl _ _)) (HRT G).out.1 (HRT G).out.2.1 (HRT G).out.2.2
end Go.Proofs.YtebjjkhiniccgaaGreat.Jg

/-
  Layer 8 (request): the contracts of Valid and of bullalaw08.begun.
-/
namespace Go.Proofs.YtebjjkhiniccgaaGreat.Jh
set_option linter.unusedSimpArgs false
open Go Go.RowKit Ck Kw Ga Kf Pm Pe Pg Pk Py Qb Ik Lk Ld Jm Ja Jb Jc Jd Jf Jg
open Im (num isIn add sum)
attribute [local go_sem ↓] Go.wp_at_zero Go.wp_at_succ
set_option linter.unusedVariables false
set_option maxRecDepth 100000

theorem validB_bad {L : List (List UInt8)} {G : List Sg} {d : Sd} (h : qcheck d.q ≠ 0) : validB L G d = false := by rw [validB, if_pos h]
theorem validB_ok {L : List (List UInt8)} {G : List Sg} {d : Sd} (h : qcheck d.q = 0) : validB L G d = (isIn L (qraw d.q) && (sgB d.s (key d.q.client, (num L (qraw d.q) : Int)) && isS G d.s)) := by rw [validB, if_neg (by omega)]

set_option maxHeartbeats 8000000 in
theorem valid_any (w : World) (S X : Nat → Prop) (p g : Nat) (L : List (List UInt8)) (G : List Sg) (d : Sd) (A : Option Addr) (c : Nat) (h : TL w S p g L G) (hls : Ls w X (.slice A d.q.o.recs.length c) d.q.o.recs) (hl : d.q.o.recs.length ≤ 140737488355328) (hw : wfS d.s) :
    Calls Tryz.prog 21 #[.pointer (some ⟨p, 0, none⟩), .pointer (some ⟨g, 0, none⟩), DV d A c] w fun e w' => e = .returned (.bool (validB L G d)) ∧ Below w.heap.size w w' := by
  have hb0 := op_below w (.cells (DC d A c) 53)
  have hk0 : DK (w.alloc (.cells (DC d A c) 53)) w.heap.size d A c := Blk.new w _ _
  have HC := Lib.hid (qbytes_any d.q (QV d.q A c) X _ ⟨A, c, rfl, hls.after hb0⟩ hl)
  have HT0 := Lib.hid (h.later hb0)
  have HB0 := Lib.hid hb0
  have HK0 := Lib.hid hk0
  obtain ⟨a0, a1, a2, a3, a4, a5, a6, a7, a8⟩ := hk0.cells
  have HWF := Lib.hid hw
  clear h hls hb0 hk0 hw
  unfold Byt at HC
  unfold QV QC at HC
  unfold DV
  unfold DC at HC HT0 HB0 HK0 a0 a1 a2 a3 a4 a5 a6 a7 a8 ⊢
  by_cases hq : qcheck d.q = 0
  · have HV := Lib.hid (validB_ok (L := L) (G := G) hq)
    have HQL := Lib.hid (qraw_len hq)
    rw [hq, qform_eq hq] at HC
    clear hq
    go_enter Tryz.func21, Tryz.ntmps21
    go_wp2_with fail
    refine HC.out.mono ?_
    rintro e w1 ⟨v1, rfl, hsl1, hb1⟩
    have HT1 := Lib.hid (HT0.out.later hb1)
    have HK1 := Lib.hid (HK0.out.below hb1 HK0.out.lt)
    have HB1 := Lib.hid (HB0.out.trans (hb1.mono HB0.out.size))
    obtain ⟨Ab, cb, rfl, -⟩ := id hsl1
    obtain ⟨S1, S2, t1, t2, -⟩ := id HT1.out
    have HLK := Lib.hid (Ia.look_yes w1 S1 _ p L Ab cb (qraw d.q) t1 hsl1 (by have := HQL.out; omega))
    clear hsl1 hb1 t1 t2 a0 a1 a2 a3 a4 a5 a6 a7 a8
    go_wp2_with fail
    refine HLK.out.mono ?_
    rintro e w2 ⟨rfl, n, rfl⟩
    have HT2 : Hid (TL (w1.drewN n) S p g L G) := Lib.hid (HT1.out.later (below_drewN (Below.refl _ _) n))
    have HK2 : Hid (DK (w1.drewN n) w.heap.size d A c) := HK1
    have HB2 : Hid (Below w.heap.size w (w1.drewN n)) := Lib.hid (below_drewN HB1.out n)
    clear HT0 HK0 HB0 HT1 HK1 HB1
    generalize w1.drewN n = w2 at *
    obtain ⟨a0, -, -, -, -, -, -, a7, a8⟩ := HK2.out.cells
    have HSG := Lib.hid fun (W : World) (b : Below w2.heap.size w2 W) (s : Sg) (hs : wfS s) => show Calls Tryz.prog 55 #[.pointer (some ⟨g, 0, none⟩), GV s] W fun e w' => e = .returned (.bool (isS G s)) ∧ Below W.heap.size W w' from by
      obtain ⟨S1, S2, t1, t2, -⟩ := HT2.out.later b
      exact Lb.signed_yes W S2 g G s hs t2
    have HKY := fun W : World => Lib.hid (key_any W d.q.client)
    generalize isIn L (qraw d.q) = known at *
    generalize (num L (qraw d.q) : Int) = dg at *
    have hqe := run_eql_sign
    have hge := guard_sign
    --CUT1
    cases known with
    | false =>
      have HV2 : Hid (validB L G d = false) := Lib.hid HV.out
      clear HV
      go_wp2_with fail
      --CUT2
      go_quiet (fail)
      --CUT3
      all_goals
        go_wp2_with fail
        go_ret
        exact ⟨by rw [HV2.out]; rfl, below_drewN HB2.out _⟩
    | true =>
      by_cases hs : sgB d.s (key d.q.client, dg) = true
      · have hqq : ∀ W : World, (binOp .eql 47 (.agg #[.int .i64 d.s.1, .int .i64 d.s.2]) (.agg #[.int .i64 (key d.q.client), .int .i64 dg])).run Tryz.prog W = .ok (.bool true) W := fun W => by rw [hqe]; rw [show sgB (d.s.1, d.s.2) (key d.q.client, dg) = true from hs]
        have HV2 : Hid (validB L G d = isS G d.s) := Lib.hid (by rw [HV.out, hs]; simp)
        have HSS := Lib.hid fun (W : World) (b : Below w2.heap.size w2 W) => HSG.out W b d.s HWF.out
        unfold GV at HSS
        clear HV hs hqe HSG
        generalize isS G d.s = b2 at *
        go_wp2_with fail
        --CUT4
        go_region_law (first
          | (go_simp; go_at_call 47; refine (HKY _).out.mono ?_; rintro e w3 ⟨rfl, rfl⟩)
          | (go_simp; go_at_call 55; refine (HSS.out _ (below_drewN (Below.refl _ w2) 1)).mono ?_; rintro e w3 ⟨rfl, hb3⟩; have HB3 := Lib.hid (HB2.out.trans ((Ga.below_of_drew hb3).mono HB2.out.size)); clear hb3))
        --CUT5
        all_goals
          go_wp2_with fail
          go_ret
          exact ⟨by rw [HV2.out]; rfl, HB3.out⟩
      · have hs := Bool.eq_false_iff.2 hs
        have hqq : ∀ W : World, (binOp .eql 47 (.agg #[.int .i64 d.s.1, .int .i64 d.s.2]) (.agg #[.int .i64 (key d.q.client), .int .i64 dg])).run Tryz.prog W = .ok (.bool false) W := fun W => by rw [hqe]; rw [show sgB (d.s.1, d.s.2) (key d.q.client, dg) = false from hs]
        have HV2 : Hid (validB L G d = false) := Lib.hid (by rw [HV.out, hs]; simp)
        clear HV hs hqe HSG
        go_wp2_with fail
        have HKQ : Hid (∀ n, Calls Tryz.prog 47 #[.int .i64 d.q.client] (w2.drewN n) fun e w'' => e = .returned (.int .i64 (key d.q.client)) ∧ ∃ m, w'' = w2.drewN m) := Lib.hid fun n => Calls.quiet_of_same ((key_any (w2.drewN n) d.q.client).mono fun _ _ h => ⟨h.1, h.2.symm⟩)
        go_quiet ((go_at_call 47; exact HKQ.out _))
        all_goals
          go_wp2_with fail
          go_ret
          exact ⟨by rw [HV2.out]; rfl, below_drewN HB2.out _⟩
  · have HV := Lib.hid (validB_bad (L := L) (G := G) hq)
    have hd : (qcheck d.q != 0) = true := by simpa using hq
    have hd2 : (qcheck d.q == 0) = false := by simpa using hq
    clear hq
    go_enter Tryz.func21, Tryz.ntmps21
    go_wp2_with fail
    refine HC.out.mono ?_
    rintro e w1 ⟨v1, rfl, -, hb1⟩
    have HB1 := Lib.hid (HB0.out.trans (hb1.mono HB0.out.size))
    clear hb1
    go_wp2_with fail
    go_ret
    exact ⟨by rw [HV.out]; rfl, HB1.out⟩

/-- The request that begun asks about. -/
def q0 : Q := ⟨2, 7, ⟨1, [116], [], 0, []⟩⟩
theorem q0_seal : sealR [] q0 = (⟨q0, (15, 1)⟩, 0) := by decide +kernel
theorem q0_table : sealT [] q0 = [qraw q0] := by decide +kernel
theorem q0_ledger : sealG [] [] q0 = [(15, 1)] := by decide +kernel
theorem q0_valid : validB [qraw q0] [(15, 1)] ⟨q0, (15, 1)⟩ = true := by decide +kernel
theorem q0_other : validB [qraw q0] [(15, 1)] ⟨⟨3, 7, ⟨1, [116], [], 0, []⟩⟩, (15, 1)⟩ = false := by decide +kernel
theorem q0_far : far q0.o 140737488351232 := by refine ⟨by decide, by decide, by decide, fun l hl => absurd hl (by simp [q0])⟩
set_option maxHeartbeats 1000000 in
theorem create_any (w : World) : Calls Tryz.prog 33 #[] w fun e w' => e = .returned (QV q0 none 0) ∧ Below w.heap.size w w' := by
  have b1 := op_below w (.cells Z7 27)
  have k1 : Blk (w.alloc (.cells Z7 27)) w.heap.size 27 Z7 := Blk.new _ _ _
  have HB := Lib.hid b1
  have HK := Lib.hid k1
  clear b1 k1
  unfold Z7 at HB HK
  unfold QV QC q0
  go_enter Tryz.func33, Tryz.ntmps33
  go_wp2_with fail
  refine bodyPost_ret (results_row1 rfl _ _ w.heap.size 27 #[.int .i64 2, .int .i64 7, .int .i64 1, .string ⟨#[116]⟩, .string ⟨#[]⟩, .int .i64 0, .slice none 0 0] (0, 0) _ rfl (Blk.new_at rfl rfl) Tryz.underlying27 rfl size_req) rfl ?_
  exact ⟨rfl, op_below _ _⟩
theorem tl_new {w w1 w2 : World} {p g : Nat} (h1 : Tb w1 (New w w1) p []) (b1 : Below w.heap.size w w1) (h2 : Lg w2 (New w1 w2) g []) (b2 : Below w1.heap.size w1 w2) : TL w2 (fun k => w.heap.size ≤ k) p g [] [] := by
  have s1 := b1.size
  have s2 := b2.size
  exact ⟨New w w1, New w1 w2, h1.ch (Ch.of_below (S := fun _ => False) b2 (Nat.le_refl _)) (fun _ _ h => h), h2, fun k hk hk2 => by have := hk.2; have := hk2.1; omega, fun k hk => ⟨hk.1, by have := hk.2; omega⟩, fun k hk => ⟨by have := hk.1; omega, hk.2⟩⟩
theorem below_ch {w W W' : World} {S : Nat → Prop} (b : Below w.heap.size w W) (c : Ch S W W') (h : ∀ k, S k → w.heap.size ≤ k) : Below w.heap.size w W' := b.trans (c.below (fun k hk hs => by have := h k hs; omega) b.size)

set_option maxHeartbeats 4000000 in
theorem begun_any (w : World) : Calls Tryz.prog 7 #[] w fun e w' => e = .returned (.bool true) ∧ Below w.heap.size w w' := by
  have hqe := run_eql_sign
  have hge := guard_sign
  have hs1 : sgB (15, 1) (15, 1) = true := rfl
  go_enter Tryz.func7, Tryz.ntmps7
  go_wp2_with fail
  refine (Ib.newtable_any w).mono ?_
  rintro e w1 ⟨p, rfl, ht1, hb1⟩
  have HT1 := Lib.hid ht1
  have HB1 := Lib.hid hb1
  clear ht1 hb1
  go_wp2_with fail
  refine (La.newledger_any w1).mono ?_
  rintro e w2 ⟨g, rfl, hl2, hb2⟩
  have HT2 := Lib.hid (tl_new HT1.out HB1.out hl2 hb2)
  have HB2 := Lib.hid (HB1.out.trans (hb2.mono HB1.out.size))
  clear hl2 hb2
  go_wp2_with fail
  refine (create_any w2).mono ?_
  rintro e w3 ⟨rfl, hb3⟩
  have HT3 := Lib.hid (HT2.out.later hb3)
  have HB3 := Lib.hid (HB2.out.trans (hb3.mono HB2.out.size))
  clear hb3
  have HSE := Lib.hid (seal_any w3 (fun k => w.heap.size ≤ k) (fun k => w.heap.size ≤ k) p g [] [] q0 none 0 HT3.out (ls_nil _ _) (fun _ _ h => h) q0_far (by simp))
  unfold Sealed at HSE
  rw [q0_seal, q0_table, q0_ledger] at HSE
  unfold QV QC q0 at HSE
  unfold QV QC q0
  go_wp2_with fail
  refine HSE.out.mono ?_
  rintro e w4 ⟨B, A, c, rfl, hB1, hB2, ht4, hl4, hc4⟩
  have HB4 := Lib.hid (below_ch HB3.out hc4 (fun _ h => h))
  have HT4 := Lib.hid ht4
  have HL4 := Lib.hid hl4
  clear ht4 hl4 hc4 hB1 hB2
  unfold DV DC
  unfold q0 at HT4 HL4
  go_wp2_with fail
  have b5 : Below w4.heap.size w4 ((w4.alloc (.cells #[.int .i64 2, .int .i64 7, .int .i64 1, .string ⟨#[116]⟩, .string ⟨#[]⟩, .int .i64 0, .slice A 0 c, .int .i64 15, .int .i64 1] 53)).alloc (.cells #[.int .i64 3, .int .i64 7, .int .i64 1, .string ⟨#[116]⟩, .string ⟨#[]⟩, .int .i64 0, .slice A 0 c, .int .i64 15, .int .i64 1] 53)) := (op_below w4 _).trans ((op_below _ _).mono (by simp))
  have k5 : Blk ((w4.alloc (.cells #[.int .i64 2, .int .i64 7, .int .i64 1, .string ⟨#[116]⟩, .string ⟨#[]⟩, .int .i64 0, .slice A 0 c, .int .i64 15, .int .i64 1] 53)).alloc (.cells #[.int .i64 3, .int .i64 7, .int .i64 1, .string ⟨#[116]⟩, .string ⟨#[]⟩, .int .i64 0, .slice A 0 c, .int .i64 15, .int .i64 1] 53)) (w4.heap.size + 1) 53 #[.int .i64 3, .int .i64 7, .int .i64 1, .string ⟨#[116]⟩, .string ⟨#[]⟩, .int .i64 0, .slice A 0 c, .int .i64 15, .int .i64 1] := Blk.new_at (by simp) rfl
  generalize ((w4.alloc (.cells #[.int .i64 2, .int .i64 7, .int .i64 1, .string ⟨#[116]⟩, .string ⟨#[]⟩, .int .i64 0, .slice A 0 c, .int .i64 15, .int .i64 1] 53)).alloc (.cells #[.int .i64 3, .int .i64 7, .int .i64 1, .string ⟨#[116]⟩, .string ⟨#[]⟩, .int .i64 0, .slice A 0 c, .int .i64 15, .int .i64 1] 53)) = w5 at *
  have HT5 := Lib.hid (HT4.out.later b5)
  have HL5 := Lib.hid (HL4.out.after b5)
  have HB5 := Lib.hid (HB4.out.trans (b5.mono HB4.out.size))
  have HK5 := Lib.hid k5
  have HV1 := Lib.hid (valid_any w5 _ _ p g _ _ ⟨q0, (15, 1)⟩ A c HT5.out HL5.out (by simp [q0]) (by unfold wfS; simp))
  have hv1 := q0_valid
  unfold q0 at hv1
  unfold DV DC q0 at HV1
  rw [hv1] at HV1
  clear b5 k5 hv1
  generalize w4.heap.size + 1 = g5 at *
  refine HV1.out.mono ?_
  rintro e w6 ⟨rfl, hb6⟩
  have HT6 := Lib.hid (HT5.out.later hb6)
  have HL6 := Lib.hid (HL5.out.after hb6)
  have HB6 := Lib.hid (HB5.out.trans (hb6.mono HB5.out.size))
  have k6 := HK5.out.below hb6 HK5.out.lt
  obtain ⟨⟨z0, z1, z2, z3, z4, z5, z6, z7, z8⟩, -⟩ := Blk.cells9 k6
  have HV2 := Lib.hid (valid_any w6 _ _ p g _ _ ⟨⟨3, 7, ⟨1, [116], [], 0, []⟩⟩, (15, 1)⟩ A c HT6.out HL6.out (by simp) (by unfold wfS; simp))
  have hv2 := q0_other
  unfold q0 at hv2
  rw [hv2] at HV2
  unfold DV DC at HV2
  clear hb6 k6 hv2
  go_wp2_with fail
  refine HV2.out.mono ?_
  rintro e w7 ⟨rfl, hb7⟩
  have HB7 := Lib.hid (HB6.out.trans (hb7.mono HB6.out.size))
  clear hb7
  go_wp2_with fail
  go_ret
  exact ⟨rfl, HB7.out⟩
end Go.Proofs.YtebjjkhiniccgaaGreat.Jh

/-
  Contracts of the program's table: Plain, From.
-/
namespace Go.Proofs.YtebjjkhiniccgaaGreat.Ie
set_option linter.unusedSimpArgs false
set_option linter.unusedVariables false
set_option maxRecDepth 100000
open Go Go.RowKit Ck Im Kw Ik Ia Ib Ic Ig

/-- v is a new list of new bytes. -/
def Pl (w : World) (base : Nat) (v : Value) (L : List Tx) : Prop :=
  ∃ vals, w.ownsRow base 22 1 v L.length vals ∧ ∀ i (h : i < L.length), ∃ u, vals[i]? = some u ∧ Out w base u L[i]
theorem Pl.ls {w : World} {base : Nat} {v : Value} {L : List Tx} {X : Nat → Prop} (h : Pl w base v L) (hX : ∀ k, base ≤ k → k < w.heap.size → ¬ X k) : Ls w X v L := by
  obtain ⟨vals, ho, hx⟩ := h
  exact ⟨vals, Sl.of_own ho hX, fun i hi => by obtain ⟨u, hu, hout⟩ := hx i hi; exact ⟨u, hu, hout.sl hX⟩⟩

theorem one_slice (A : Option Addr) (n c : Nat) : ∀ u ∈ [Value.slice A n c], u.oneCell' = true := by
  intro u hu
  simp only [List.mem_cons, List.not_mem_nil, or_false] at hu
  subst hu; rfl
end Go.Proofs.YtebjjkhiniccgaaGreat.Ie

/-
  Contracts of bytes.Equal and of the document's table: Same, SameAll, Look, Open, Sum.
-/
namespace Go.Proofs.YtebjjkhiniccgaaGreat.Ih
set_option linter.unusedSimpArgs false
set_option linter.unusedVariables false
set_option maxRecDepth 100000
open Go Go.RowKit Ck Im Kw Ik Ia Ib Ic Ig Ie

theorem same_any (w : World) (X Y : Nat → Prop) (va vb : Value) (n m : Nat) (l k : List UInt8) (ha : Sl w X 1 va n (BVs l)) (hb : Sl w Y 1 vb m (BVs k)) :
    Calls Tryz.prog 85 #[va, vb] w fun e w' => e = .returned (.bool (l == k)) ∧ w = w' := by
  have hn : n = l.length := by obtain ⟨A, c, _, h, _⟩ := ha; rw [BVs_len] at h; omega
  have hm : m = k.length := by obtain ⟨A, c, _, h, _⟩ := hb; rw [BVs_len] at h; omega
  subst hn; subst hm
  have ha' := ha
  have hb' := hb
  obtain ⟨A, c, rfl, -⟩ := ha'
  obtain ⟨B, d, rfl, -⟩ := hb'
  have c1 := run_convert_sl (P := Tryz.prog) w X 22 9 5 A c l Tryz.underlying22 Tryz.underlying5 Tryz.underlying9 ha
  have c2 := run_convert_sl (P := Tryz.prog) w Y 22 9 5 B d k Tryz.underlying22 Tryz.underlying5 Tryz.underlying9 hb
  clear ha hb
  go_enter Tryz.func85, Tryz.ntmps85
  go_wp2
  go_ret
  exact ⟨rfl, rfl⟩

theorem Ls.shape {w : World} {X : Nat → Prop} {v : Value} {ls : List (List UInt8)} (h : Ls w X v ls) : ∃ A c, v = .slice A ls.length c := by
  obtain ⟨vals, ⟨A, c, hv, _⟩, _⟩ := h
  exact ⟨A, c, hv⟩

set_option maxHeartbeats 400000 in
theorem rlook_any (w : World) (S X : Nat → Prop) (p : Nat) (L : List Tx) (v : Value) (n : Nat) (b : Tx) (h : Rf w S p L) (hb : Sl w X 1 v n (BVs b)) :
    Calls Tryz.prog 56 #[.pointer (some ⟨p, 0, none⟩), v] w fun e w' => e = .returned (.tuple #[.int .i64 (num L b : Int), .bool (isIn L b)]) ∧ w = w' := by
  obtain ⟨lv, h1, hp, hls, hall, hL⟩ := h
  obtain ⟨A, c, rfl⟩ := Ls.shape hls
  have c0 : w.cell? ⟨p, 0, none⟩ = some (.slice A L.length c) := h1.cell 0
  have hL2 : L.length ≤ 2000000 := by omega
  clear h1 hp hall hL
  go_enter Tryz.func56, Tryz.ntmps56
  go_wp2
  go_loop [6] (fun i => ∃ k : Nat, k ≤ L.length ∧ i = .int .i64 k ∧ num (L.take k) b = 0) (fun i => L.length - (intOf i).toNat)
  case atStart => exact ⟨0, Nat.zero_le _, rfl, rfl⟩
  case round =>
    obtain ⟨k, hk, rfl, hz⟩ := hrel
    have HZ := Lib.hid hz
    clear hz
    by_cases hlt : k < L.length
    · obtain ⟨ad, B, d, rfl, hcell, hx⟩ := hls.at_ hlt
      have hsn := num_snoc (L.take k) L[k] b
      rw [HZ.out, ← List.take_succ_eq_append_getElem hlt, if_neg (by simp)] at hsn
      by_cases heq : L[k] = b
      · have hbq : (L[k] == b) = true := by rw [heq]; exact beq_self_eq_true _
        rw [if_pos heq, List.length_take, Nat.min_eq_left hk] at hsn
        have hn := num_left (L.take (k + 1)) (L.drop (k + 1)) b (by omega)
        rw [List.take_append_drop, hsn] at hn
        have HN := Lib.hid hn
        have HQ := Lib.hid hbq
        have HX := Lib.hid hx
        clear hsn hn heq hx hbq
        go_wp2_with (go_at_call 85; refine (same_any _ _ X _ _ _ _ L[k] b HX.out hb).mono ?_; rintro e w' ⟨he, rfl⟩; rw [HQ.out] at he; subst he)
        go_ret2
        rw [HN.out, isIn_true (by rw [HN.out]; omega)]
        exact ⟨rfl, rfl⟩
      · have hbq : (L[k] == b) = false := by rw [beq_eq_false_iff_ne]; exact heq
        rw [if_neg heq] at hsn
        have HN := Lib.hid hsn
        have HQ := Lib.hid hbq
        have HX := Lib.hid hx
        clear hsn heq hx hbq
        go_wp2_with (go_at_call 85; refine (same_any _ _ X _ _ _ _ L[k] b HX.out hb).mono ?_; rintro e w' ⟨he, rfl⟩; rw [HQ.out] at he; subst he)
        go_round
        case rel => exact ⟨k + 1, by omega, by go_num, HN.out⟩
        case measure => simp [intOf]; omega
    · have hke : k = L.length := by omega
      have hz : num L b = 0 := by have := HZ.out; rw [hke, List.take_length] at this; exact this
      have H0 := Lib.hid hz
      clear hz
      go_wp2
      go_ret2
      rw [H0.out, isIn_false H0.out]
      exact ⟨rfl, rfl⟩

end Go.Proofs.YtebjjkhiniccgaaGreat.Ih

/-
  Contract of the document's table: Sum.
-/
namespace Go.Proofs.YtebjjkhiniccgaaGreat.Ij
set_option linter.unusedSimpArgs false
set_option linter.unusedVariables false
set_option maxRecDepth 100000
open Go Go.RowKit Ck Im Kw Ik Ia Ib Ic Ig Ie Ih

theorem own_apart {w : World} {b b' n n' s s' : Nat} {e e' : TypeId} {v v' : Value} {xs xs' : List Value} (h : w.ownsRow b e s v n xs) (h' : w.ownsRow b' e' s' v' n' xs') (he : e ≠ e') : v.ownBlock = none ∨ v.ownBlock ≠ v'.ownBlock := by
  rcases h.2 with ⟨rfl, _⟩ | ⟨g, cap, cur, rfl, _, hr, _⟩
  · exact .inl rfl
  · refine .inr ?_
    rcases h'.2 with ⟨rfl, _⟩ | ⟨g', cap', cur', rfl, _, hr', _⟩
    · simp [Value.ownBlock]
    · intro h2
      have h2 : g = g' := by simpa [Value.ownBlock] using h2
      subst h2
      rw [hr] at hr'
      injection hr' with hr'
      injection hr' with _ h3
      exact he h3

/-- What the document's table holds, behind a text more. -/
theorem rf_snoc {w w1 w2 w3 : World} {S : Nat → Prop} {p : Nat} {L : List Tx} {lv v1 v2 v3 : Value} {b : Tx} {vals : List Value} {t : TypeId} (hblk : Blk w p 61 #[lv]) (hp : S p)
    (hvl : vals.length = L.length) (hels : ∀ i (h : i < L.length), ∃ u, vals[i]? = some u ∧ Sl w (fun k => ¬ S k ∨ k = p) 1 u L[i].length (BVs L[i])) (hall : ∀ l ∈ L, l.length ≤ 140737488355328) (hL : L.length < 1048576) (hb : b.length ≤ 140737488355328)
    (h1 : w1.ownsRow w.heap.size 22 1 v1 L.length vals) (b1 : Below w.heap.size w w1) (h2 : w2.ownsRow w1.heap.size 5 1 v2 b.length (BVs b)) (b2 : Below w1.heap.size w1 w2)
    (h3 : Appended (w2.alloc (.cells #[v2] t)) w.heap.size 22 1 v1 (L.length + 1) (vals ++ [v2]) v3 w3) :
    Rf (w3.setCell ⟨p, 0, none⟩ v3) (Up S w (w3.setCell ⟨p, 0, none⟩ v3)) p (L ++ [b]) ∧ Ch S w (w3.setCell ⟨p, 0, none⟩ v3) ∧ Below w.heap.size w w3 := by
  have hpl := hblk.lt
  have b2' : Below w.heap.size w w2 := b1.trans (b2.mono b1.size)
  have b3 : Below w.heap.size w (w2.alloc (.cells #[v2] t)) := b2'.alloc b2'.size _
  have b4 : Below w.heap.size w w3 := b3.grown h3.2.1 b3.size (fun g hg => (h1.lt g hg).1)
  have c5 : Ch S w (w3.setCell ⟨p, 0, none⟩ v3) := (Ch.of_below b4 (Nat.le_refl _)).setCell (p := ⟨p, 0, none⟩) (fun _ => hp) v3
  have hs3 : (w3.setCell ⟨p, 0, none⟩ v3).heap.size = w3.heap.size := by simp [World.setCell]
  have hx : ∀ k, w.heap.size ≤ k → k < w3.heap.size → ¬ (¬ Up S w (w3.setCell ⟨p, 0, none⟩ v3) k ∨ k = p) := by
    rintro k h h' (hn | rfl)
    · exact hn (.inr ⟨h, by rw [hs3]; exact h'⟩)
    · omega
  have o2 : w3.ownsRow w.heap.size 5 1 v2 b.length (BVs b) := by
    exact own_base ((h2.alloc (.cells #[v2] t)).kept h3.2.1 (own_apart h2 (own_below h1 b2) (by decide))) b1.size
  have hw3 := b4.size
  refine ⟨⟨v3, ?_, .inl hp, ⟨vals ++ [v2], ?_, fun i hi => ?_⟩, ?_, ?_⟩, c5, b4⟩
  · have := (hblk.below b4 hpl).set_ 0 v3
    simpa using this
  · have h3' : w3.ownsRow w.heap.size 22 1 v3 (L ++ [b]).length (vals ++ [v2]) := by simpa using h3.1
    exact (Sl.of_own h3' (X := fun k => ¬ Up S w (w3.setCell ⟨p, 0, none⟩ v3) k ∨ k = p) hx).setCell (p := ⟨p, 0, none⟩) (fun _ => .inr rfl) v3
  · by_cases he : i < L.length
    · obtain ⟨u, hu, hsl⟩ := hels i he
      refine ⟨u, by rw [List.getElem?_append_left (by omega)]; exact hu, ?_⟩
      rw [List.getElem_append_left he]
      refine ((hsl.below b4 (fun k h1 h2 => absurd h1 (by omega))).weaken' (Y := fun k => ¬ Up S w (w3.setCell ⟨p, 0, none⟩ v3) k ∨ k = p) ?_).setCell (p := ⟨p, 0, none⟩) (fun _ => .inr rfl) v3
      rintro k _ hX (hn | rfl)
      · exact hX (.inl fun hs => hn (.inl hs))
      · exact hX (.inr rfl)
    · have hie : i = L.length := by simp only [List.length_append, List.length_cons, List.length_nil] at hi; omega
      subst hie
      refine ⟨v2, by rw [List.getElem?_append_right (by omega), hvl, Nat.sub_self]; rfl, ?_⟩
      rw [List.getElem_append_right (Nat.le_refl _)]
      simp only [Nat.sub_self, List.getElem_cons_zero]
      exact (Sl.of_own o2 (X := fun k => ¬ Up S w (w3.setCell ⟨p, 0, none⟩ v3) k ∨ k = p) hx).setCell (p := ⟨p, 0, none⟩) (fun _ => .inr rfl) v3
  · intro l hl
    rcases List.mem_append.1 hl with h2 | h2
    · exact hall l h2
    · simp only [List.mem_cons, List.not_mem_nil, or_false] at h2
      subst h2; exact hb
  · simp only [List.length_append, List.length_cons, List.length_nil]; omega

theorem two_size {w w1 w2 : World} (b1 : Below w.heap.size w w1) (b2 : Below w1.heap.size w1 w2) (o : Obj) : w.heap.size ≤ (w2.alloc o).heap.size := Nat.le_trans b1.size (Nat.le_trans b2.size (by simp))
theorem rf_below {w w1 w2 w3 : World} {o : Obj} {e : TypeId} {n m : Nat} {xs ys : List Value} {v1 v3 : Value} (b1 : Below w.heap.size w w1) (b2 : Below w1.heap.size w1 w2) (h1 : w1.ownsRow w.heap.size e 1 v1 n xs) (h3 : Appended (w2.alloc o) w.heap.size e 1 v1 m ys v3 w3) : Below w.heap.size w w3 := by
  have b2' : Below w.heap.size w w2 := b1.trans (b2.mono b1.size)
  have b3 : Below w.heap.size w (w2.alloc o) := b2'.alloc b2'.size _
  exact b3.grown h3.2.1 b3.size (fun g hg => (h1.lt g hg).1)

/-- What Sum leaves of the document's table. -/
def RSummed (S : Nat → Prop) (p : Nat) (L : List Tx) (b : Tx) (w : World) (e : Ending) (w' : World) : Prop :=
  e = .returned (.int .i64 (sum L b : Int)) ∧ Rf w' (Up S w w') p (add L b) ∧ Ch S w w'

theorem Rf.up {w w' : World} {S : Nat → Prop} {p : Nat} {L : List Tx} (h : Rf w' S p L) : Rf w' (Up S w w') p L := by
  obtain ⟨lv, h1, h2, h3, h4⟩ := h
  refine ⟨lv, h1, .inl h2, h3.weaken ?_, h4⟩
  rintro k _ (hn | rfl)
  · exact .inl fun hs => hn (.inl hs)
  · exact .inr rfl

theorem vals_one {w : World} {X : Nat → Prop} {L : List Tx} {vals : List Value} (hvl : vals.length = L.length) (hels : ∀ i (h : i < L.length), ∃ u, vals[i]? = some u ∧ Sl w X 1 u L[i].length (BVs L[i])) : ∀ u ∈ vals, u.oneCell' = true := by
  intro u hu
  obtain ⟨i, hi, rfl⟩ := List.getElem_of_mem hu
  obtain ⟨u, h1, ⟨A, c, rfl, _⟩⟩ := hels i (by omega)
  rw [List.getElem?_eq_getElem hi] at h1
  injection h1 with h1
  rw [h1]
  rfl

set_option maxRecDepth 100000 in
set_option maxHeartbeats 1000000 in
theorem rsum_any (w : World) (S X : Nat → Prop) (p : Nat) (L : List Tx) (A : Option Addr) (c : Nat) (b : Tx) (h : Rf w S p L) (hb : Sl w X 1 (.slice A b.length c) b.length (BVs b)) (hl : b.length ≤ 140737488355328) :
    Calls Tryz.prog 53 #[.pointer (some ⟨p, 0, none⟩), .slice A b.length c] w (RSummed S p L b w) := by
  have HL := Lib.hid (rlook_any w S X p L _ _ b h hb)
  by_cases hk : num L b = 0
  · have hin := isIn_false hk
    have HT := Lib.hid h
    obtain ⟨lv, h1, hp, hls, hall, hL⟩ := h
    obtain ⟨A', c', rfl⟩ := Ls.shape hls
    by_cases hf : 1048576 ≤ L.length
    · obtain ⟨ha, hs⟩ := add_full hk hf
      have c1 : w.cell? ⟨p, 0, none⟩ = some (.slice A' L.length c') := h1.cell 0
      have HA := Lib.hid ha
      have HS := Lib.hid hs
      have hk0 : (num L b : Int) = 0 := by omega
      have hf' : decide ((1048576 : Int) ≤ (L.length : Int)) = true := by rw [decide_eq_true_eq]; omega
      clear h1 hls hp hall ha hs hk hf hL hl hb
      go_enter Tryz.func53, Tryz.ntmps53
      go_wp2_with (go_at_call 56; refine HL.out.mono ?_; rintro e w' ⟨rfl, rfl⟩)
      go_ret
      refine ⟨by rw [HS.out]; rfl, ?_, Ch.refl S w⟩
      rw [HA.out]
      exact Rf.up HT.out
    · obtain ⟨ha, hs⟩ := add_new hk hf
      have HA := Lib.hid ha
      have HS := Lib.hid hs
      have hf' : decide ((1048576 : Int) ≤ (L.length : Int)) = false := by rw [decide_eq_false_iff_not]; omega
      have hlt : L.length ≤ 2000000 := by omega
      have hlt2 : L.length < 1048576 := by omega
      have HB := Lib.hid hl
      have HBS := Lib.hid hb
      have c1 : w.cell? ⟨p, 0, none⟩ = some (.slice A' L.length c') := h1.cell 0
      obtain ⟨i0, hi0, hz0, hz1, hz2⟩ := info_parts info_sl
      obtain ⟨j0, hj0, hy0, hy1, hy2⟩ := info_parts info_u8
      have hk0 : (num L b : Int) = 0 := by omega
      obtain ⟨vals, hsl, hels⟩ := hls
      have hvl : vals.length = L.length := by obtain ⟨_, _, _, h, _⟩ := hsl; omega
      have hone := vals_one hvl hels
      have H1 := Lib.hid h1
      have HP := Lib.hid (And.intro hp (And.intro hvl (And.intro hels (And.intro hall hlt2))))
      have HSL := Lib.hid hsl
      have HONE := Lib.hid hone
      have hfl : L.length ≤ 140737488355328 := by omega
      have hpl := h1.lt
      clear ha hs hk hf h1 hp hall hL hl hb hsl hels hvl hone hlt2
      go_enter Tryz.func53, Tryz.ntmps53
      go_wp2_with (first
        | (go_at_call 56; refine HL.out.mono ?_; rintro e w' ⟨rfl, rfl⟩)
        | (at_builtin; refine wpList_append_new _ rfl (.const (.slice none 0 0)) (.tmp 25) _ rfl 22 i0 _ 1 24 Tryz.underlying59 hi0 hz0 hz1 hz2 rfl (by omega) rfl _ _ L.length vals rfl HSL.out HONE.out (by simp only [maxLen]; omega) (by omega) ?_; intro A1 d1 w1 ho1 b1)
        | (at_builtin; refine wpList_append_new _ rfl (.const (.slice none 0 0)) (.tmp 27) _ rfl 5 j0 _ 1 1 Tryz.underlying22 hj0 hy0 hy1 hy2 rfl (by omega) rfl _ _ b.length (BVs b) rfl (HBS.out.after b1) (BVs_one _) (by have := HB.out; simp only [maxLen]; omega) (by have := HB.out; omega) ?_; intro A2 d2 w2 ho2 b2)
        | (at_builtin; refine wpList_append_sh _ rfl (.tmp 26) (.tmp 29) _ rfl w.heap.size 22 i0 _ 1 24 Tryz.underlying59 hi0 hz0 hz1 hz2 rfl (by omega) (.slice A1 L.length d1) L.length vals rfl ((own_below ho1 b2).alloc _) (fun _ => False) _ 1 [.slice A2 b.length d2] rfl (one_sv w2 _ _ _ (fun h => h)) (one_slice _ _ _) (by simp only [maxLen]; omega) (by omega) (two_size b1 b2 _) ?_; intro A3 d3 w3 happ3; have k0 := H1.out.below (rf_below b1 b2 ho1 happ3) hpl; have k1 := k0.cell 0; have k2 := k0.frozen 0; simp only [List.getElem?_toArray, List.getElem?_cons_zero] at k1))
      go_ret
      have R := rf_snoc H1.out HP.out.1 HP.out.2.1 HP.out.2.2.1 HP.out.2.2.2.1 HP.out.2.2.2.2 HB.out ho1 b1 ho2 b2 happ3
      refine ⟨by rw [HS.out]; simp, ?_, R.2.1⟩
      rw [HA.out]
      exact R.1
  · have hin := isIn_true hk
    obtain ⟨ha, hs⟩ := add_known hk
    have HT := Lib.hid h
    have HA := Lib.hid ha
    have HS := Lib.hid hs
    clear h ha hs
    go_enter Tryz.func53, Tryz.ntmps53
    go_wp2_with (go_at_call 56; refine HL.out.mono ?_; rintro e w' ⟨rfl, rfl⟩)
    go_ret
    refine ⟨by rw [HS.out]; rfl, ?_, Ch.refl S w⟩
    rw [HA.out]
    exact Rf.up HT.out

end Go.Proofs.YtebjjkhiniccgaaGreat.Ij
