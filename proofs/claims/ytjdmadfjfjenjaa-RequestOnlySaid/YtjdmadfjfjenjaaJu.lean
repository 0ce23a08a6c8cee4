/-
  Layer 8: RequestOnly, whatever it is asked of.
-/
import Derived.Test.YtjdmadfjfjenjaaJl
import Derived.Test.YtjdmadfjfjenjaaJk
namespace Go.Proofs.Ytjdmadfjfjenjaa.Ju
set_option linter.unusedSimpArgs false
open Go Go.RowKit Ck Kf Kw Ga Pm Pe Pk Py Qb Ik Lk Ld Jm Ja Jb Jc Jd Je Jf Jg Jh Jk Jl Jn
open Im (num isIn add sum)
attribute [local go_sem ↓] Go.wp_at_zero Go.wp_at_succ
set_option linter.unusedVariables false
set_option maxRecDepth 100000

/-- What stands there all the while. -/
structure OS (w0 : World) (s : Sd) (A : Option Addr) (c : Nat) (p g : Nat) (L : List (List UInt8)) (G : List Sg) (W : World) : Prop where
  below : Below w0.heap.size w0 W
  box : DK W w0.heap.size s A c
  tl : TL W (fun k => w0.heap.size + 1 ≤ k) p g L G
theorem OS.later {w0 W W' : World} {s : Sd} {A : Option Addr} {c p g : Nat} {L : List (List UInt8)} {G : List Sg} (h : OS w0 s A c p g L G W) (b : Below W.heap.size W W') : OS w0 s A c p g L G W' :=
  ⟨h.below.trans (b.mono h.below.size), Blk.below h.box b (Blk.lt h.box), h.tl.later b⟩
theorem OS.step {w0 W W' : World} {s : Sd} {A : Option Addr} {c p g : Nat} {L L' : List (List UInt8)} {G G' : List Sg} {a b : Nat} (h : OS w0 s A c p g L G W) (k : Ch (fun k => w0.heap.size + 1 ≤ k) W W') (ha : w0.heap.size + 1 ≤ a) (t : TL W' (Nw (fun k => w0.heap.size + 1 ≤ k) a b) p g L' G') : OS w0 s A c p g L' G' W' :=
  ⟨h.below.trans (k.below (fun i hi hx => by omega) h.below.size), Blk.ch h.box k (by omega), t.weaken (fun k _ h => by rcases h with h | h <;> omega)⟩
theorem OS.size {w0 W : World} {s : Sd} {A : Option Addr} {c p g : Nat} {L : List (List UInt8)} {G : List Sg} (h : OS w0 s A c p g L G W) : w0.heap.size + 1 ≤ W.heap.size := Blk.lt h.box
theorem tl_len {w : World} {S : Nat → Prop} {p g : Nat} {L : List (List UInt8)} {G : List Sg} (h : TL w S p g L G) : L.length ≤ 1048576 := by
  obtain ⟨T1, T2, ⟨_, _, _, _, _, _, _, _, _, _, _, hlen⟩, _⟩ := h
  exact hlen
theorem bi_one {w : World} {X : Nat → Prop} {d : Sd} {A : Option Addr} {c : Nat} (h : Ls w X (.slice A d.q.o.recs.length c) d.q.o.recs) (hX : ¬ X w.heap.size) : BI (w.alloc (.cells (DC d A c) 41)) X (.slice (some ⟨w.heap.size, 0, none⟩) 1 1) [d] := by
  refine ⟨[(A, c)], rfl, ⟨_, _, rfl, rfl, Nat.le_refl _, by simp only [maxLen]; omega, fun _ => ⟨_, rfl, by simp, hX, fun j u hu => ?_⟩⟩, fun i hi => ?_⟩
  · have h2 : (⟨w.heap.size, 0, none⟩ : Addr).add j = ⟨w.heap.size, j, none⟩ := by unfold Addr.add; split <;> simp_all
    rw [h2, Blk.cell (Blk.new w 41 _) j]
    simpa [flat] using hu
  · have hi0 : i = 0 := by simp at hi; omega
    subst hi0
    exact ⟨(A, c), rfl, h.after (op_below w _)⟩

set_option maxHeartbeats 16000000 in
theorem reqonly_any (w : World) (qs : List Q) (s : Sd) (As : Option Addr) (cs : Nat) (a b : List Sd) (vl va vb : Value) (hl : RI w (fun k => w.heap.size ≤ k) vl qs) (hq : ∀ y ∈ qs, far y.o 140737488351232) (hqs : qs.length * 88 ≤ 140737488351232)
    (hs : Ls w (fun k => w.heap.size ≤ k) (.slice As s.q.o.recs.length cs) s.q.o.recs) (hsf : far s.q.o 140737488351232) (hsw : wfS s.s) (ha : BI w (fun k => w.heap.size ≤ k) va a) (hb : BI w (fun k => w.heap.size ≤ k) vb b) (hra : ∀ y ∈ a, far y.q.o 140737488351232) (hrb : ∀ y ∈ b, far y.q.o 140737488351232) (hla : a.length ≤ 140737488355328) (hlb : b.length ≤ 140737488355328) :
    Calls Try.prog 6 #[vl, DV s As cs, va, vb] w fun e w' => e = .returned (.bool true) ∧ Below w.heap.size w w' := by
  obtain ⟨Al, cl, rfl, -⟩ := hl.shape
  have HRI := Lib.hid hl
  have HQF := Lib.hid hq
  have HQS := Lib.hid hqs
  have hqn : qs.length ≤ 140737488355328 := by omega
  have HLS := Lib.hid hs
  have HSF : Hid (s.q.o.recs.length ≤ 140737488355328) := Lib.hid (by have := hsf.2.2.1; omega)
  have HSW := Lib.hid hsw
  have HA := Lib.hid ha
  have HB := Lib.hid hb
  have HRA : Hid (∀ y ∈ a, y.q.o.recs.length ≤ 140737488355328) := Lib.hid (fun y hy => by have := (hra y hy).2.2.1; omega)
  have HRB : Hid (∀ y ∈ b, y.q.o.recs.length ≤ 140737488355328) := Lib.hid (fun y hy => by have := (hrb y hy).2.2.1; omega)
  have HLA := Lib.hid hla
  have HLB := Lib.hid hlb
  have hb0 := op_below w (.cells (DC s As cs) 41)
  have hk0 : DK (w.alloc (.cells (DC s As cs) 41)) w.heap.size s As cs := Blk.new w _ _
  have hz0 : (w.alloc (.cells (DC s As cs) 41)).heap.size = w.heap.size + 1 := by simp
  clear hl hq hqs hs hsf hsw ha hb hra hrb hla hlb
  unfold DV
  unfold DC at hb0 hk0 hz0 ⊢
  go_enter Try.func6, Try.ntmps6
  go_wp2_with fail
  generalize w.alloc (.cells #[.int .i64 s.q.client, .int .i64 s.q.time, .int .i64 s.q.o.kind, .string ⟨s.q.o.topic.toArray⟩, .string ⟨s.q.o.group.toArray⟩, .int .i64 s.q.o.off, .slice As s.q.o.recs.length cs, .int .i64 s.s.1, .int .i64 s.s.2] 41) = w0 at *
  have HB0 := Lib.hid hb0
  have HK0 := Lib.hid hk0
  have HZ0 := Lib.hid hz0
  clear hb0 hk0 hz0
  refine (Ib.newtable_any w0).mono ?_
  rintro e w1 ⟨p, rfl, ht1, hb1⟩
  have HT1 := Lib.hid ht1
  have HB1 := Lib.hid hb1
  clear ht1 hb1
  go_wp2_with fail
  refine (La.newledger_any w1).mono ?_
  rintro e w2 ⟨g, rfl, hl2, hb2⟩
  have HS2 : Hid (OS w s As cs p g [] [] w2) := Lib.hid (by
    have b02 := HB1.out.trans (hb2.mono HB1.out.size)
    exact ⟨HB0.out.trans (b02.mono HB0.out.size), Blk.below HK0.out b02 (Blk.lt HK0.out), (tl_new HT1.out HB1.out hl2 hb2).weaken (fun k _ h => by have := HZ0.out; omega)⟩)
  clear hl2 hb2
  go_wp2_with fail
  refine (begun_any w2).mono ?_
  rintro e w3 ⟨rfl, hb3⟩
  have HS3 := Lib.hid (HS2.out.later hb3)
  clear hb3
  have HIN := Lib.hid inv_nil
  go_wp2_with fail
  go_loopw [11, 26] (fun v j wr => ∃ (k : Nat) (L : List (List UInt8)) (G : List Sg) (R : List Sd), k ≤ qs.length ∧ j = .int .i64 k ∧ v = .bool (decide (s ∈ R)) ∧ Inv L G R ∧ G.length ≤ k ∧ OS w s As cs p g L G wr) (fun _ j _ => qs.length - (intOf j).toNat)
  case atStart => exact ⟨0, [], [], [], Nat.zero_le _, rfl, rfl, HIN.out, Nat.zero_le _, HS3.out⟩
  case round =>
    obtain ⟨k, L, G, R, hk, rfl, rfl, hinv, hG, hos⟩ := hrel
    clear HS3 HIN
    have HINV := Lib.hid hinv
    have HGL := Lib.hid hG
    by_cases hlt : k < qs.length
    · obtain ⟨ad, Ar, cr, rfl, ⟨a0, a1, a2, a3, a4, a5, a6⟩, hls⟩ := (HRI.out.after hos.below).at_ hlt
      have hqf := HQF.out _ (List.getElem_mem hlt)
      generalize qs[k] = q at *
      have HOS1 := Lib.hid (hos.later (op_below wr (.cells (QC q Ar cr) 26)))
      have HSE := Lib.hid (seal_any (wr.alloc (.cells (QC q Ar cr) 26)) (fun k => w.heap.size + 1 ≤ k) (fun k => w.heap.size ≤ k) p g L G q Ar cr HOS1.out.tl (hls.after (op_below wr _)) (fun k _ h => by omega) hqf (by have := HQS.out; omega))
      have HSZ : Hid (w.heap.size + 1 ≤ (wr.alloc (.cells (QC q Ar cr) 26)).heap.size) := Lib.hid HOS1.out.size
      have HIN2 := Lib.hid (hinv.step q)
      have HG2 := Lib.hid (sealG_len L G q)
      have HMS := Lib.hid (mem_sealS (L := L) (q := q) (R := R) s)
      have HSI := Lib.hid (seal_in (L := L) (q := q) (R := R))
      have HWF := Lib.hid (sealR_wf (tl_len hos.tl) q)
      have HRC : Hid ((sealR L q).1.q.o.recs.length ≤ 140737488355328) := Lib.hid (by have := sealR_recs L q; have := hqf.2.2.1; omega)
      clear hos hls hqf hinv hG
      unfold Sealed at HSE
      generalize hdn : decide (s ∈ R) = dn at *
      clear hdn
      generalize sealT L q = L2 at *
      generalize sealG L G q = G2 at *
      generalize sealS L q R = R2 at *
      generalize sealR L q = yz at *
      obtain ⟨y, z⟩ := yz
      simp only at HSE HMS HSI HWF HRC
      unfold QV at HSE
      unfold QC at HOS1 HSE HSZ
      go_wp2_with fail
      generalize wr.alloc (.cells #[.int .i64 q.client, .int .i64 q.time, .int .i64 q.o.kind, .string ⟨q.o.topic.toArray⟩, .string ⟨q.o.group.toArray⟩, .int .i64 q.o.off, .slice Ar q.o.recs.length cr] 26) = w1 at *
      clear a0 a1 a2 a3 a4 a5 a6
      refine HSE.out.mono ?_
      rintro e w2 ⟨B, Ay, cy, rfl, hB1, hB2, ht2, hl2, hc2⟩
      have HOS2 := Lib.hid (HOS1.out.step hc2 HSZ.out ht2)
      have HLY := Lib.hid hl2
      have HBB := Lib.hid (And.intro (Nat.le_trans HSZ.out hB1) hB2)
      clear ht2 hl2 hc2 hB1 hB2 HSE
      have HOS3 := Lib.hid (HOS2.out.later (op_below w2 (.cells (DC y Ay cy) 41)))
      have HLY3 := Lib.hid (HLY.out.after (op_below w2 (.cells (DC y Ay cy) 41)))
      have hk3 : DK (w2.alloc (.cells (DC y Ay cy) 41)) w2.heap.size y Ay cy := Blk.new w2 _ _
      have HBZ : Hid (B ≤ (w2.alloc (.cells (DC y Ay cy) 41)).heap.size) := Lib.hid (by have := HBB.out.2; simp; omega)
      unfold DV
      unfold DC at HOS3 HLY3 hk3 HBZ ⊢
      by_cases hz : z = 0
      · subst hz
        have HV := Lib.hid (valid_any _ _ _ p g L2 G2 y Ay cy HOS3.out.tl HLY3.out HRC.out HWF.out)
        rw [HIN2.out.valid y, decide_eq_true (HSI.out rfl)] at HV
        unfold DV DC at HV
        go_wp2_with fail
        generalize w2.alloc (.cells #[.int .i64 y.q.client, .int .i64 y.q.time, .int .i64 y.q.o.kind, .string ⟨y.q.o.topic.toArray⟩, .string ⟨y.q.o.group.toArray⟩, .int .i64 y.q.o.off, .slice Ay y.q.o.recs.length cy, .int .i64 y.s.1, .int .i64 y.s.2] 41) = w3 at *
        generalize w2.heap.size = gy at *
        have HK3 := Lib.hid hk3
        clear hk3
        refine HV.out.mono ?_
        rintro e w4 ⟨rfl, hb4⟩
        have HOS4 := Lib.hid (HOS3.out.later hb4)
        have HLY4 := Lib.hid (HLY3.out.after hb4)
        have HK4 := Lib.hid (Blk.below HK3.out hb4 (Blk.lt HK3.out))
        have HBZ4 : Hid (B ≤ w4.heap.size) := Lib.hid (Nat.le_trans HBZ.out hb4.size)
        clear hb4 HV
        cases dn with
        | true =>
          go_wp2_with fail
          go_roundw
          case rel => exact ⟨k + 1, L2, G2, R2, by omega, by go_num, by rw [HMS.out]; rfl, HIN2.out, by have := HG2.out; have := HGL.out; omega, HOS4.out⟩
          case measure => simp [intOf]; omega
        | false =>
          obtain ⟨y0, y1, y2, y3, y4, y5, y6, y7, y8⟩ := DK.cells HK4.out
          obtain ⟨x0, x1, x2, x3, x4, x5, x6, x7, x8⟩ := DK.cells (show DK (w4.alloc (.cells (DC y Ay cy) 41)) w.heap.size s As cs from Blk.alloc HOS4.out.box _)
          unfold DC at x0 x1 x2 x3 x4 x5 x6 x7 x8
          have hbb : Below w4.heap.size w4 ((w4.alloc (.cells (DC y Ay cy) 41)).alloc (.cells (DC s As cs) 41)) := (op_below w4 _).trans ((op_below _ _).mono (by simp))
          have HSM : Hid (Calls Try.prog 17 #[.slice (some ⟨w4.heap.size, 0, none⟩) 1 1, .slice (some ⟨w4.heap.size + 1, 0, none⟩) 1 1] ((w4.alloc (.cells (DC y Ay cy) 41)).alloc (.cells (DC s As cs) 41)) fun e w' => e = .returned (.bool (decide ([y] = [s]))) ∧ Below ((w4.alloc (.cells (DC y Ay cy) 41)).alloc (.cells (DC s As cs) 41)).heap.size ((w4.alloc (.cells (DC y Ay cy) 41)).alloc (.cells (DC s As cs) 41)) w') := Lib.hid (by
            have h1 := (bi_one (HLY4.out.weaken (Y := fun _ => False) (fun _ _ h => h.elim)) (fun h => h)).after (op_below _ (.cells (DC s As cs) 41))
            have h2 := bi_one (w := w4.alloc (.cells (DC y Ay cy) 41)) (((HLS.out.after HOS4.out.below).after (op_below _ (.cells (DC y Ay cy) 41))).weaken (Y := fun _ => False) (fun _ _ h => h.elim)) (fun h => h)
            have hz : (w4.alloc (.cells (DC y Ay cy) 41)).heap.size = w4.heap.size + 1 := by simp
            rw [hz] at h2
            exact rsameb_any _ _ _ _ _ _ _ h1 h2 (fun x hx => by rw [List.mem_singleton.1 hx]; exact HRC.out) (by simp))
          have HBB := Lib.hid hbb
          clear hbb
          unfold DC at HSM HBB
          go_wp2_with fail
          refine HSM.out.mono ?_
          rintro e w6 ⟨rfl, hb6⟩
          have HOS6 := Lib.hid (HOS4.out.later (HBB.out.trans (hb6.mono HBB.out.size)))
          clear hb6 HSM y0 y1 y2 y3 y4 y5 y6 y7 y8 x0 x1 x2 x3 x4 x5 x6 x7 x8
          go_wp2_with fail
          go_roundw
          case rel => exact ⟨k + 1, L2, G2, R2, by omega, by go_num, by rw [HMS.out]; simp, HIN2.out, by have := HG2.out; have := HGL.out; omega, HOS6.out⟩
          case measure => simp [intOf]; omega
      · have hz2 : (z == 0) = false := by simpa using hz
        have HMS2 : Hid (decide (s ∈ R2) = dn) := Lib.hid (by rw [HMS.out, decide_eq_false hz]; simp)
        clear hz HMS HSI hk3
        cases dn with
        | true =>
          go_wp2_with fail
          go_roundw
          case rel => exact ⟨k + 1, L2, G2, R2, by omega, by go_num, by rw [HMS2.out], HIN2.out, by have := HG2.out; have := HGL.out; omega, HOS3.out⟩
          case measure => simp [intOf]; omega
        | false =>
          go_wp2_with fail
          go_roundw
          case rel => exact ⟨k + 1, L2, G2, R2, by omega, by go_num, by rw [HMS2.out], HIN2.out, by have := HG2.out; have := HGL.out; omega, HOS3.out⟩
          case measure => simp [intOf]; omega
    · have hke : k = qs.length := by omega
      have hlen := tl_len hos.tl
      have HOS1 := Lib.hid hos
      have HV := Lib.hid (valid_any wr _ _ p g L G s As cs hos.tl (HLS.out.after hos.below) HSF.out HSW.out)
      rw [hinv.valid s] at HV
      unfold DV DC at HV
      obtain ⟨x0, x1, x2, x3, x4, x5, x6, x7, x8⟩ := DK.cells hos.box
      clear hos hinv hG HINV
      generalize decide (s ∈ R) = dn at *
      have hdd : (dn != dn) = false := by cases dn <;> rfl
      go_wp2_with fail
      refine HV.out.mono ?_
      rintro e w1 ⟨rfl, hb1⟩
      have HOS2 := Lib.hid (HOS1.out.later hb1)
      clear hb1 x0 x1 x2 x3 x4 x5 x6 x7 x8 HV
      have HD1 := Lib.hid (digest_any w1 _ _ p g L G a va HOS2.out.tl (HA.out.after HOS2.out.below) HRA.out HLA.out)
      have HDS := Lib.hid (dig_same (L := L) (a := a) (b := b))
      unfold Digested at HD1
      generalize digT L a = L2 at *
      generalize digR L a = r1 at *
      obtain ⟨d1, e1⟩ := r1
      simp only at HD1 HDS
      go_wp2_with fail
      refine HD1.out.mono ?_
      rintro e w2 ⟨rfl, ht2, hc2⟩
      have HOS3 := Lib.hid (HOS2.out.step hc2 HOS2.out.size ht2)
      clear ht2 hc2 HD1
      have HD2 := Lib.hid (digest_any w2 _ _ p g L2 G b vb HOS3.out.tl (HB.out.after HOS3.out.below) HRB.out HLB.out)
      unfold Digested at HD2
      generalize digR L2 b = r2 at *
      obtain ⟨d2, e2⟩ := r2
      simp only at HD2 HDS
      go_wp2_with fail
      refine HD2.out.mono ?_
      rintro e w3 ⟨rfl, ht3, hc3⟩
      have HOS4 := Lib.hid (HOS3.out.step hc3 HOS3.out.size ht3)
      clear ht3 hc3 HD2
      by_cases he1 : e1 = 0
      · by_cases he2 : e2 = 0
        · subst he1; subst he2
          have HDE := Lib.hid (HDS.out rfl rfl)
          have HSM := Lib.hid (rsameb_any w3 _ _ va vb a b (HA.out.after HOS4.out.below) (HB.out.after HOS4.out.below) HRA.out HLA.out)
          have hdq : (d1 == d2) = decide (a = b) := HDE.out
          generalize decide (a = b) = bq at *
          have hbb : (bq == bq) = true := by cases bq <;> rfl
          go_wp2_with fail
          refine HSM.out.mono ?_
          rintro e w4 ⟨rfl, hb4⟩
          have HOS5 := Lib.hid (HOS4.out.later hb4)
          clear hb4
          go_wp2_with fail
          go_ret
          exact ⟨rfl, HOS5.out.below⟩
        · have h2 : (e2 != 0) = true := by simpa using he2
          subst he1
          clear he2
          go_wp2_with fail
          go_ret
          exact ⟨rfl, HOS4.out.below⟩
      · have h1 : (e1 != 0) = true := by simpa using he1
        clear he1
        go_wp2_with fail
        go_ret
        exact ⟨rfl, HOS4.out.below⟩
end Go.Proofs.Ytjdmadfjfjenjaa.Ju
