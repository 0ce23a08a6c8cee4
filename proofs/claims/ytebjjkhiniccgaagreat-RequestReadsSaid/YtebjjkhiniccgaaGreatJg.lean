/-
  Layer 8 (request): the contracts of Seal and Valid.
-/
import Derived.Test.YtebjjkhiniccgaaGreatJf
import Derived.Test.YtebjjkhiniccgaaGreatW2
namespace Go.Proofs.YtebjjkhiniccgaaGreat.Jg
set_option linter.unusedSimpArgs false
open Go Go.RowKit Ck Kw Ga Kf Pm Pe Pg Pk Py Qb Ik Lk Ld Jm Ja Jb Jc Jd Jf
open Im (num isIn add sum)
attribute [local go_sem ↓] Go.wp_at_zero Go.wp_at_succ
set_option linter.unusedVariables false
set_option maxRecDepth 100000

/-- What Seal answers and leaves. -/
def sgOf (L : List (List UInt8)) (q : Q) : Sg := (key q.client, (sum L (qraw q) : Int))
def sealR (L : List (List UInt8)) (q : Q) : Sd × Int := if qcheck q ≠ 0 then (Sd.zero, qcheck q) else if code (sgOf L q) ≠ 0 then (Sd.zero, code (sgOf L q)) else (⟨q, sgOf L q⟩, 0)
def sealT (L : List (List UInt8)) (q : Q) : List (List UInt8) := if qcheck q ≠ 0 then L else add L (qraw q)
def sealG (L : List (List UInt8)) (G : List Sg) (q : Q) : List Sg := if qcheck q ≠ 0 then G else pay G (sgOf L q)
def validB (L : List (List UInt8)) (G : List Sg) (d : Sd) : Bool := if qcheck d.q ≠ 0 then false else isIn L (qraw d.q) && (sgB d.s (key d.q.client, (num L (qraw d.q) : Int)) && isS G d.s)
theorem sealR_bad {L : List (List UInt8)} {q : Q} (h : qcheck q ≠ 0) : sealR L q = (Sd.zero, qcheck q) := by rw [sealR, if_pos h]
theorem sealR_code {L : List (List UInt8)} {q : Q} (h : qcheck q = 0) (hc : code (sgOf L q) ≠ 0) : sealR L q = (Sd.zero, code (sgOf L q)) := by rw [sealR, if_neg (by omega), if_pos hc]
theorem sealR_ok {L : List (List UInt8)} {q : Q} (h : qcheck q = 0) (hc : code (sgOf L q) = 0) : sealR L q = (⟨q, sgOf L q⟩, 0) := by rw [sealR, if_neg (by omega), if_neg (by omega)]
theorem sealT_bad {L : List (List UInt8)} {q : Q} (h : qcheck q ≠ 0) : sealT L q = L := by rw [sealT, if_pos h]
theorem sealT_ok {L : List (List UInt8)} {q : Q} (h : qcheck q = 0) : sealT L q = add L (qraw q) := by rw [sealT, if_neg (by omega)]
theorem sealG_bad {L : List (List UInt8)} {G : List Sg} {q : Q} (h : qcheck q ≠ 0) : sealG L G q = G := by rw [sealG, if_pos h]
theorem sealG_ok {L : List (List UInt8)} {G : List Sg} {q : Q} (h : qcheck q = 0) : sealG L G q = pay G (sgOf L q) := by rw [sealG, if_neg (by omega)]
def Sealed (S : Nat → Prop) (p g : Nat) (L : List (List UInt8)) (G : List Sg) (q : Q) (w : World) (e : Ending) (w' : World) : Prop :=
  ∃ B A c, e = .returned (.tuple #[DV (sealR L q).1 A c, .int .i64 (sealR L q).2]) ∧ w.heap.size ≤ B ∧ B ≤ w'.heap.size ∧ TL w' (Nw S w.heap.size B) p g (sealT L q) (sealG L G q) ∧ Ls w' (fun k => k < B) (.slice A (sealR L q).1.q.o.recs.length c) (sealR L q).1.q.o.recs ∧ Ch S w w'
/-- Seal's own blocks. -/
structure SS (S : Nat → Prop) (w0 : World) (q : Q) (A : Option Addr) (c : Nat) (W : World) : Prop where
  ch : Ch S w0 W
  two : w0.heap.size + 2 ≤ W.heap.size
  req : QB W w0.heap.size q A c
  res : Blk W (w0.heap.size + 1) 53 Z9
theorem SS.step {S X : Nat → Prop} {w0 W W' : World} {q : Q} {A : Option Addr} {c : Nat} (h : SS S w0 q A c W) (k : Ch X W W') (hX : ∀ k, k < W.heap.size → X k → S k ∧ k < w0.heap.size) : SS S w0 q A c W' :=
  ⟨h.ch.trans k (fun i hi hx => (hX i (Nat.lt_of_lt_of_le hi h.ch.size) hx).1), Nat.le_trans h.two k.size, Blk.ch h.req k (fun hx => by have := (hX _ (Blk.lt h.req) hx).2; omega), Blk.ch h.res k (fun hx => by have := (hX _ (Blk.lt h.res) hx).2; omega)⟩
theorem SS.later {S : Nat → Prop} {w0 W W' : World} {q : Q} {A : Option Addr} {c : Nat} (h : SS S w0 q A c W) (b : Below W.heap.size W W') : SS S w0 q A c W' := h.step (Ch.of_below (S := fun _ => False) b (Nat.le_refl _)) (fun _ _ h => h.elim)
theorem SS.nw {S : Nat → Prop} {w0 W W' : World} {q : Q} {A : Option Addr} {c a b : Nat} (h : SS S w0 q A c W) (k : Ch (Nw S a b) W W') (ha : w0.heap.size + 2 ≤ a) (hS : ∀ k, S k → k < w0.heap.size) : SS S w0 q A c W' := by
  have h2 := h.two
  refine ⟨h.ch.trans k (fun i hi hx => ?_), Nat.le_trans h.two k.size, Blk.ch h.req k (fun hx => ?_), Blk.ch h.res k (fun hx => ?_)⟩
  · rcases hx with hx | hx
    · exact hx
    · omega
  · rcases hx with hx | hx
    · have := hS _ hx; omega
    · omega
  · rcases hx with hx | hx
    · have := hS _ hx; omega
    · omega
theorem ss_new (S : Nat → Prop) (w : World) (q : Q) (A : Option Addr) (c : Nat) : SS S w q A c ((w.alloc (.cells (QC q A c) 27)).alloc (.cells Z9 53)) :=
  ⟨(Ch.refl S w).alloc _ |>.alloc _, by simp, Blk.alloc (Blk.new w _ _) _, Blk.new_at (by simp) rfl⟩
/-- The end: the result's block is written. -/
theorem seal_end {S : Nat → Prop} {w W W' : World} {q : Q} {A : Option Addr} {c p g B : Nat} {L L' : List (List UInt8)} {G G' : List Sg} {Ar : Option Addr} {cr : Nat} {d : Sd} {z : Int} (hs : SS (fun k => S k ∧ k < w.heap.size) w q A c W)
    (ht : TL W (Nw (fun k => S k ∧ k < w.heap.size) (w.heap.size + 2) B) p g L' G') (hB : w.heap.size + 2 ≤ B) (hB' : B ≤ W.heap.size) (hl : Ls W (fun k => k < B) (.slice Ar d.q.o.recs.length cr) d.q.o.recs) (hc : Ch (fun k => k = w.heap.size + 1) W W')
    (h1 : sealR L q = (d, z)) (h2 : sealT L q = L') (h3 : sealG L G q = G') : Sealed S p g L G q w (.returned (.tuple #[DV d Ar cr, .int .i64 z])) W' := by
  unfold Sealed
  rw [h1, h2, h3]
  refine ⟨B, Ar, cr, rfl, by omega, Nat.le_trans hB' hc.size, ?_, hl.ch hc (fun k _ hk => by omega), ?_⟩
  · refine (ht.ch hc (fun k hk hx => ?_)).weaken (fun k _ hk => ?_)
    · rcases hk with hk | hk <;> omega
    · rcases hk with hk | hk
      · exact .inl hk.1
      · exact .inr ⟨by omega, hk.2⟩
  · exact (hs.ch.trans hc (T := fun k => k = w.heap.size + 1) (fun k hk hx => by omega)).mono (fun k _ h => h.1)
theorem ls_none (W : World) (X : Nat → Prop) : Ls W X (.slice none Sd.zero.q.o.recs.length 0) Sd.zero.q.o.recs := ls_nil W X

set_option maxHeartbeats 8000000 in
theorem seal_any (w : World) (S X : Nat → Prop) (p g : Nat) (L : List (List UInt8)) (G : List Sg) (q : Q) (A : Option Addr) (c : Nat) (h : TL w S p g L G) (hls : Ls w X (.slice A q.o.recs.length c) q.o.recs) (hX : ∀ k, k < w.heap.size → S k → X k) (hlo : far q.o 140737488351232) (hG : (G.length + 1) * 16 ≤ 140737488355328) :
    Calls Tryz.prog 19 #[.pointer (some ⟨p, 0, none⟩), .pointer (some ⟨g, 0, none⟩), QV q A c] w (Sealed S p g L G q w) := by
  have hl : q.o.recs.length ≤ 140737488355328 := by have := hlo.2.2.1; omega
  have HT : Hid (TL w (fun k => S k ∧ k < w.heap.size) p g L G) := Lib.hid (h.weaken (fun k hk hs => ⟨hs, hk⟩))
  have hs0 := ss_new (fun k => S k ∧ k < w.heap.size) w q A c
  have HB0 : Below w.heap.size w ((w.alloc (.cells (QC q A c) 27)).alloc (.cells Z9 53)) := (op_below w _).trans ((op_below _ _).mono (by simp))
  have HC := Lib.hid (qbytes_any q (QV q A c) X _ ⟨A, c, rfl, hls.after HB0⟩ hl)
  have HT0 := Lib.hid (HT.out.later HB0)
  have HLS := Lib.hid hls
  have HXX := Lib.hid hX
  have HLO := Lib.hid hlo
  have HG := Lib.hid hG
  have hr0 := hs0.res
  obtain ⟨a0, a1, a2, a3, a4, a5, a6⟩ := hs0.req.cells
  have HS0 := Lib.hid hs0
  clear h hls hX hlo hG hs0 HB0
  unfold QV at HC ⊢
  unfold QC Z9 at HC HT0 HS0 hr0 a0 a1 a2 a3 a4 a5 a6
  unfold QC
  obtain ⟨⟨z0, z1, z2, z3, z4, z5, z6, z7, z8⟩, ⟨y0, y1, y2, y3, y4, y5, y6, y7, y8⟩⟩ := Blk.cells9 hr0
  unfold Byt at HC
  clear hr0
  by_cases hq : qcheck q = 0
  · have HQF := Lib.hid (qform_eq hq)
    have HQL := Lib.hid (qraw_len hq)
    have HRT := fun L' G' => Lib.hid (And.intro (sealT_ok (L := L') hq) (sealG_ok (L := L') (G := G') hq))
    have HRR := Lib.hid (fun h => sealR_ok (L := L) hq h)
    have HRN := Lib.hid (fun h => sealR_code (L := L) hq h)
    have HKP := Lib.hid (key_pos ((isC_iff q.client).2 (qcheck_ok hq).1))
    have HCL : Hid (0 ≤ q.client ∧ q.client < 8) := Lib.hid (qcheck_ok hq).1
    rw [hq, HQF.out] at HC
    clear hq
    go_enter Tryz.func19, Tryz.ntmps19
    go_wp2_with fail
    --CUT1
    refine HC.out.mono ?_
    rintro e w1 ⟨v1, rfl, hsl1, hb1⟩
    have HS1 := Lib.hid (HS0.out.later hb1)
    have HT1 := Lib.hid (HT0.out.later hb1)
    have HB1 := Lib.hid hsl1
    obtain ⟨Ab, cb, rfl, -⟩ := id hsl1
    clear hsl1 hb1 a0 a1 a2 a3 a4 a5 a6 z0 z1 z2 z3 z4 z5 z6 z7 z8 y0 y1 y2 y3 y4 y5 y6 y7 y8
    have HMT : ∀ S1, Tb w1 S1 p L → Hid (Calls Tryz.prog 44 #[.pointer (some ⟨p, 0, none⟩)] w1 fun e w' => e = .returned (.bool true) ∧ Below w1.heap.size w1 w') := fun S1 h => Lib.hid (madet_any w1 S1 p L h)
    obtain ⟨S1, S2, tb1, -⟩ := id HT1.out
    have HMT := HMT S1 tb1
    clear tb1
    go_wp2_with fail
    --CUT2
    refine HMT.out.mono ?_
    rintro e w2 ⟨rfl, hb2⟩
    have HS2 := Lib.hid (HS1.out.later hb2)
    have HT2 := Lib.hid (HT1.out.later hb2)
    have HB2 := Lib.hid (HB1.out.after hb2)
    clear hb2 HMT
    obtain ⟨S3, S4, -, lg2, -⟩ := id HT2.out
    have HML := Lib.hid (madel_any w2 S4 g G lg2 (by have := HG.out; omega))
    clear lg2
    go_wp2_with fail
    --CUT3
    refine HML.out.mono ?_
    rintro e w3 ⟨rfl, hb3⟩
    have HS3 := Lib.hid (HS2.out.later hb3)
    have HT3 := Lib.hid (HT2.out.later hb3)
    have HB3 := Lib.hid (HB2.out.after hb3)
    clear hb3 HML
    obtain ⟨a0, -⟩ := HS3.out.req.cells
    have HKY := Lib.hid (key_any w3 q.client)
    go_wp2_with fail
    --CUT4
    refine HKY.out.mono ?_
    rintro e w4 ⟨rfl, rfl⟩
    obtain ⟨S5, S6, tb3, -, -, hS5, -⟩ := id HT3.out
    have HSM := Lib.hid (Ib.sum_yes w3 S5 _ p L Ab cb (qraw q) tb3 HB3.out (by have := HQL.out; omega))
    clear tb3 a0
    go_wp2_with fail
    have HTB : Hid (∀ e w', Ib.Summed S5 p L (qraw q) w3 e w' → e = .returned (.int .i64 (sum L (qraw q) : Int)) ∧ True) := Lib.hid fun _ _ h => ⟨h.1, trivial⟩
    have HST : Hid (Calls Tryz.prog 48 #[.pointer (some ⟨p, 0, none⟩), .slice Ab (qraw q).length cb] w3 fun e w' => e = .returned (.int .i64 (sum L (qraw q) : Int)) ∧ TL w' (Nw (fun k => S k ∧ k < w.heap.size) w3.heap.size w'.heap.size) p g (add L (qraw q)) G ∧ Ch (fun k => S k ∧ k < w.heap.size) w3 w') := Lib.hid (by
      obtain ⟨T1, T2, t1, t2, t3, t4, t5⟩ := HT3.out
      refine (Ib.sum_yes w3 T1 _ p L Ab cb (qraw q) t1 HB3.out (by have := HQL.out; omega)).mono ?_
      rintro e w' ⟨he, h1, h2⟩
      refine ⟨he, ?_⟩
      have hs := h2.size
      refine ⟨⟨Up T1 w3 w', T2, h1, t2.ch h2 (fun k hk hx => t3 k hx hk), ?_, ?_, ?_⟩, h2.mono (fun k _ hk => (t4 k hk).1)⟩
      · rintro k (hk | hk) hk2
        · exact t3 k hk hk2
        · have := (t5 k hk2).2; omega
      · rintro k (hk | hk)
        · exact ⟨.inl (t4 k hk).1, by have := (t4 k hk).2; omega⟩
        · exact ⟨.inr hk, hk.2⟩
      · intro k hk
        exact ⟨.inl (t5 k hk).1, by have := (t5 k hk).2; omega⟩)
    clear HTB HSM
    --CUT5
    refine HST.out.mono ?_
    rintro e w4 ⟨rfl, ht4, hc4⟩
    have HS4 := Lib.hid (HS3.out.step hc4 (fun k _ h => ⟨h, h.2⟩))
    have HT4 := Lib.hid ht4
    have h43 := hc4.size
    clear ht4 hc4 HST
    --CUTG
    have HWF : Hid (wfS (sgOf L q)) := Lib.hid (by
      have h1 := HCL.out
      have h2 : sum L (qraw q) ≤ 1048577 := by
        obtain ⟨T1, T2, ⟨_, _, _, _, _, _, _, _, _, _, _, hlen⟩, _⟩ := HT3.out
        have h4 := Im.num_le L (qraw q)
        unfold Im.sum
        split
        · omega
        · split <;> omega
      unfold wfS sgOf
      simp only
      rw [HKP.out]
      omega)
    --CUTH
    have HSG : Hid (Calls Tryz.prog 46 #[.pointer (some ⟨g, 0, none⟩), .int .i64 (key q.client), .int .i64 (sum L (qraw q) : Int)] w4 fun e w' => e = .returned (.tuple #[GV (ans (sgOf L q)), .int .i64 (code (sgOf L q))]) ∧ TL w' (Nw (fun k => S k ∧ k < w.heap.size) w3.heap.size w'.heap.size) p g (add L (qraw q)) (pay G (sgOf L q)) ∧ Ch (Nw (fun k => S k ∧ k < w.heap.size) w3.heap.size w4.heap.size) w4 w') := Lib.hid (by
      obtain ⟨T1, T2, t1, t2, t3, t4, t5⟩ := HT4.out
      refine (Lc.sign_any w4 T2 g G (sgOf L q) HWF.out t2 HG.out).mono ?_
      rintro e w' ⟨he, h1, h2⟩
      refine ⟨he, ?_⟩
      have hs := h2.size
      refine ⟨⟨T1, Up T2 w4 w', t1.ch h2 (fun k hk hx => t3 k hk hx), h1, ?_, ?_, ?_⟩, h2.mono (fun k _ hk => (t5 k hk).1)⟩
      · rintro k hk2 (hk | hk)
        · exact t3 k hk2 hk
        · have := (t4 k hk2).2; omega
      · intro k hk
        have := t4 k hk
        exact ⟨this.1.imp id (fun h => ⟨h.1, by omega⟩), by omega⟩
      · rintro k (hk | hk)
        · have := t5 k hk
          exact ⟨this.1.imp id (fun h => ⟨h.1, by omega⟩), by omega⟩
        · exact ⟨.inr ⟨by have := hk.1; omega, hk.2⟩, hk.2⟩)
    --CUTI
    go_wp2_with fail
    --CUT6
    refine HSG.out.mono ?_
    rintro e w5 ⟨he, ht5, hc5⟩
    --CUTA
    have h54 := hc5.size
    --CUTB
    have HS5 := Lib.hid (HS4.out.nw hc5 HS3.out.two (fun _ h => h.2))
    --CUTC
    have HT5 := Lib.hid ht5
    have h3w := HS3.out.two
    clear ht5 hc5 HSG
    --CUTD
    have h5 := h54
    have hz5 : w.heap.size + 2 ≤ w5.heap.size := by omega
    have HZ5 := Lib.hid hz5
    have HRT5 := HRT L G
    --CUTE
    have HN5 : Hid (∀ k, k < w5.heap.size → Nw (fun k => S k ∧ k < w.heap.size) w3.heap.size w5.heap.size k → Nw (fun k => S k ∧ k < w.heap.size) (w.heap.size + 2) w5.heap.size k) := Lib.hid (fun k _ hk => hk.imp id (fun h => ⟨by have := HS3.out.two; omega, h.2⟩))
    --CUTF
    clear h54 h43 h3w h5 HRT
    --CUT7
    by_cases hcd : code (sgOf L q) = 0
    · have HR := Lib.hid (HRR.out hcd)
      have hans : ans (sgOf L q) = sgOf L q := by rw [ans, if_pos hcd]
      rw [hcd, hans] at he
      clear hcd hans HRR HRN HWF
      generalize sgOf L q = s at *
      obtain ⟨s1, s2⟩ := s
      unfold GV at he
      simp only at he
      subst he
      --CUTa
      go_wp2_with fail
      --CUTb
      have hk6 : Blk (w5.alloc (.cells #[.int .i64 s1, .int .i64 s2] 47)) w5.heap.size 47 #[.int .i64 s1, .int .i64 s2] := Blk.new _ _ _
      have HS6 := Lib.hid (HS5.out.later (op_below w5 (.cells #[.int .i64 s1, .int .i64 s2] 47)))
      have HT6 := Lib.hid (HT5.out.later (op_below w5 (.cells #[.int .i64 s1, .int .i64 s2] 47)))
      have HZ6 : Hid (w5.heap.size < (w5.alloc (.cells #[.int .i64 s1, .int .i64 s2] 47)).heap.size) := Lib.hid (by simp)
      generalize w5.alloc (.cells #[.int .i64 s1, .int .i64 s2] 47) = w6 at *
      generalize hB : w5.heap.size = B at *
      have HK6 := Lib.hid hk6
      clear hk6 hB
      have HQC := Lib.hid (qclone_any w6.drew q X A c ((HLS.out.ch HS6.out.ch (fun k hk hs => HXX.out k hk hs.1)).after (below_drewN (Below.refl _ w6) 1)) HLO.out)
      have HSL : ∀ W, Blk W B 47 #[.int .i64 s1, .int .i64 s2] → Hid (W.cell? ⟨B, 0, none⟩ = some (.int .i64 s1) ∧ W.cell? ⟨B, 1, none⟩ = some (.int .i64 s2)) := fun W h => Lib.hid ⟨h.cell 0, h.cell 1⟩
      unfold QV QC at HQC
      unfold ClonedQ QV QC at HQC
      --CUT8
      obtain ⟨a0, a1, a2, a3, a4, a5, a6⟩ := QB.cells HS6.out.req
      obtain ⟨b0, b1⟩ := (HSL _ HK6.out).out
      go_region_law (first
        | (go_simp; go_at_call 49; refine HQC.out.mono ?_; rintro e w7 ⟨A2, c2, rfl, hl7, hb7⟩; have HS7 := Lib.hid (HS6.out.later (Ga.below_of_drew hb7)); have HT7 := Lib.hid (HT6.out.later (Ga.below_of_drew hb7)); have HK7 := Lib.hid (HK6.out.below (Ga.below_of_drew hb7) HK6.out.lt); have HL7 := Lib.hid hl7; have HZ7 := Lib.hid (show w6.heap.size ≤ w7.heap.size from hb7.size); have hr7 : Blk w7 (w.heap.size + 1) 53 #[.int .i64 0, .int .i64 0, .int .i64 0, .string ⟨#[]⟩, .string ⟨#[]⟩, .int .i64 0, .slice none 0 0, .int .i64 0, .int .i64 0] := HS7.out.res; obtain ⟨⟨z0, z1, z2, z3, z4, z5, z6, z7, z8⟩, ⟨y0, y1, y2, y3, y4, y5, y6, y7, y8⟩⟩ := Blk.cells9 hr7; have HR7 := Lib.hid hr7; clear hl7 hb7 hr7 a0 a1 a2 a3 a4 a5 a6 b0 b1; obtain ⟨b0, b1⟩ := (HSL _ HK7.out).out))
      --CUT9
      all_goals
        go_wp2_with fail
        refine bodyPost_ret (results_row_tmp rfl _ _ (w.heap.size + 1) 53 #[.int .i64 q.client, .int .i64 q.time, .int .i64 q.o.kind, .string ⟨q.o.topic.toArray⟩, .string ⟨q.o.group.toArray⟩, .int .i64 q.o.off, .slice A2 q.o.recs.length c2, .int .i64 s1, .int .i64 s2] (0, 0) _ rfl (blk9 HR7.out) Tryz.underlying53 rfl size_signed) rfl ?_
        exact seal_end (d := ⟨q, (s1, s2)⟩) (Ar := A2) (cr := c2) (B := B) HS7.out (HT7.out.weaken (fun k hk h => HN5.out k (by rcases h with h | h <;> (have := HZ5.out; omega)) h)) HZ5.out (by have := HZ6.out; have := HZ7.out; omega) (HL7.out.weaken (fun k _ h => by have := HZ6.out; show k < w6.heap.size; omega)) (ch9 (Ch.refl _ _)) HR.out HRT5.out.1 HRT5.out.2
    · have HR := Lib.hid (HRN.out hcd)
      have hne : (code (sgOf L q) != 0) = true := by simpa using hcd
      have hne2 : (code (sgOf L q) == 0) = false := by simpa using hcd
      clear hcd HRR HRN HWF
      generalize ans (sgOf L q) = s at *
      generalize code (sgOf L q) = z at *
      obtain ⟨s1, s2⟩ := s
      unfold GV at he
      simp only at he
      subst he
      have HS6 := Lib.hid (HS5.out.later (op_below w5 (.cells #[.int .i64 s1, .int .i64 s2] 47)))
      have HT6 := Lib.hid (HT5.out.later (op_below w5 (.cells #[.int .i64 s1, .int .i64 s2] 47)))
      have HZ6 : Hid (w5.heap.size < (w5.alloc (.cells #[.int .i64 s1, .int .i64 s2] 47)).heap.size) := Lib.hid (by simp)
      have hr7 : Blk (w5.alloc (.cells #[.int .i64 s1, .int .i64 s2] 47)) (w.heap.size + 1) 53 #[.int .i64 0, .int .i64 0, .int .i64 0, .string ⟨#[]⟩, .string ⟨#[]⟩, .int .i64 0, .slice none 0 0, .int .i64 0, .int .i64 0] := HS6.out.res
      obtain ⟨⟨z0, z1, z2, z3, z4, z5, z6, z7, z8⟩, ⟨y0, y1, y2, y3, y4, y5, y6, y7, y8⟩⟩ := Blk.cells9 hr7
      have HR7 := Lib.hid hr7
      clear hr7
      go_wp2_with fail
      refine bodyPost_ret (results_row_tmp rfl _ _ (w.heap.size + 1) 53 #[.int .i64 0, .int .i64 0, .int .i64 0, .string ⟨#[]⟩, .string ⟨#[]⟩, .int .i64 0, .slice none 0 0, .int .i64 0, .int .i64 0] (0, 0) _ rfl (blk9 HR7.out) Tryz.underlying53 rfl size_signed) rfl ?_
      exact seal_end (d := Sd.zero) (Ar := none) (cr := 0) (B := w5.heap.size) HS6.out (HT6.out.weaken (fun k hk h => HN5.out k (by rcases h with h | h <;> (have := HZ5.out; omega)) h)) HZ5.out (by have := HZ6.out; omega) (ls_none _ _) (ch9 (Ch.refl _ _)) HR.out HRT5.out.1 HRT5.out.2
  · have hd : (qcheck q != 0) = true := by simpa using hq
    have hd2 : (qcheck q == 0) = false := by simpa using hq
    have HRT := fun G' => Lib.hid (And.intro (sealR_bad (L := L) hq) (And.intro (sealT_bad (L := L) hq) (sealG_bad (L := L) (G := G') hq)))
    clear hq
    go_enter Tryz.func19, Tryz.ntmps19
    go_wp2_with fail
    refine HC.out.mono ?_
    rintro e w1 ⟨v1, rfl, -, hb1⟩
    have HS1 := Lib.hid (HS0.out.later hb1)
    have HT1 := Lib.hid (HT0.out.later hb1)
    have hr1 : Blk w1 (w.heap.size + 1) 53 _ := HS1.out.res
    clear hb1 a0 a1 a2 a3 a4 a5 a6 z0 z1 z2 z3 z4 z5 z6 z7 z8 y0 y1 y2 y3 y4 y5 y6 y7 y8
    unfold Z9 at hr1
    obtain ⟨⟨z0, z1, z2, z3, z4, z5, z6, z7, z8⟩, ⟨y0, y1, y2, y3, y4, y5, y6, y7, y8⟩⟩ := Blk.cells9 hr1
    have HR1 := Lib.hid hr1
    clear hr1
    go_wp2_with fail
    refine bodyPost_ret (results_row_tmp rfl _ _ (w.heap.size + 1) 53 #[.int .i64 0, .int .i64 0, .int .i64 0, .string ⟨#[]⟩, .string ⟨#[]⟩, .int .i64 0, .slice none 0 0, .int .i64 0, .int .i64 0] (0, 0) _ rfl (blk9 HR1.out) Tryz.underlying53 rfl size_signed) rfl ?_
    exact seal_end (d := Sd.zero) (Ar := none) (cr := 0) (B := w.heap.size + 2) HS1.out (HT1.out.weaken (fun k _ hk => .inl hk)) (Nat.le_refl _) HS1.out.two (ls_none _ _) (ch9 (Ch.refl _ _)) (HRT G).out.1 (HRT G).out.2.1 (HRT G).out.2.2
end Go.Proofs.YtebjjkhiniccgaaGreat.Jg
