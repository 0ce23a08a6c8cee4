/-
  Layer 8: RequestSeals, whatever it is asked of.
-/
import Derived.Test.YtebjjkhiniccgaaGreatZ16
namespace Go.Proofs.YtebjjkhiniccgaaGreat.Kk
set_option linter.unusedSimpArgs false
open Go Go.RowKit Ck Kf Kw Ga Pm Pe Pk Py Qb Ik Lk Ld Jm Ja Jb Jc Jd Je Jf Jg Jh Jk Jl Jn Kc Ke Kg Kh Kj
open Im (num isIn add sum)
attribute [local go_sem ↓] Go.wp_at_zero Go.wp_at_succ
set_option linter.unusedVariables false
set_option maxRecDepth 100000

theorem info_sd : (Tryz.prog.info? 53).map (fun i => (i.zero, i.size, i.bytes)) = some (some (.agg Z9), 9, 104) := by kernel_rfl
theorem info_parts9 {o : Option TypeInfo} {z : Value} {a b : Nat} (h : o.map (fun i => (i.zero, i.size, i.bytes)) = some (some z, a, b)) : ∃ i, o = some i ∧ i.zero = some z ∧ i.size = a ∧ i.bytes = b := by
  cases o with
  | none => simp at h
  | some i =>
    simp only [Option.map_some, Option.some.injEq, Prod.mk.injEq] at h
    exact ⟨i, rfl, h.1, h.2.1, h.2.2⟩
/-- At the end. -/
structure QE (w0 : World) (s : Sd) (A : Option Addr) (c : Nat) (p g p' g' : Nat) (L : List (List UInt8)) (G : List Sg) (v : Value) (R : List Sd) (S S' : Nat → Prop) (rs : List (Option Addr × Nat)) (vb : Value) (l : List Sd) (W : World) : Prop where
  below : Below w0.heap.size w0 W
  box : DK W w0.heap.size s A c
  qo : QO w0 p g p' g' L G L G v R [] rs S S' W
  bi : BI W (fun k => S k ∨ S' k) vb l
  ls : Ls W (fun k => w0.heap.size ≤ k) (.slice A s.q.o.recs.length c) s.q.o.recs
section
variable {w0 W W' : World} {s : Sd} {A : Option Addr} {c p g p' g' : Nat} {L L2 : List (List UInt8)} {G G2 : List Sg} {v vb : Value} {R l : List Sd} {S S' : Nat → Prop} {rs : List (Option Addr × Nat)}
theorem QE.later (h : QE w0 s A c p g p' g' L G v R S S' rs vb l W) (b : Below W.heap.size W W') : QE w0 s A c p g p' g' L G v R S S' rs vb l W' :=
  ⟨h.below.trans (b.mono h.below.size), Blk.below h.box b (Blk.lt h.box), h.qo.later b, h.bi.after b, h.ls.after b⟩
theorem QE.cells (h : QE w0 s A c p g p' g' L G v R S S' rs vb l W) : W.cell? ⟨w0.heap.size, 0, none⟩ = some (.int .i64 s.q.client) ∧ W.cell? ⟨w0.heap.size, 1, none⟩ = some (.int .i64 s.q.time) ∧ W.cell? ⟨w0.heap.size, 2, none⟩ = some (.int .i64 s.q.o.kind) ∧ W.cell? ⟨w0.heap.size, 3, none⟩ = some (.string ⟨s.q.o.topic.toArray⟩) ∧ W.cell? ⟨w0.heap.size, 4, none⟩ = some (.string ⟨s.q.o.group.toArray⟩) ∧ W.cell? ⟨w0.heap.size, 5, none⟩ = some (.int .i64 s.q.o.off) ∧ W.cell? ⟨w0.heap.size, 6, none⟩ = some (.slice A s.q.o.recs.length c) ∧ W.cell? ⟨w0.heap.size, 7, none⟩ = some (.int .i64 s.s.1) ∧ W.cell? ⟨w0.heap.size, 8, none⟩ = some (.int .i64 s.s.2) := DK.cells h.box
end
theorem tl_lenG {w : World} {S : Nat → Prop} {p g : Nat} {L : List (List UInt8)} {G : List Sg} (h : TL w S p g L G) : L.length ≤ 1048576 := by
  obtain ⟨T1, T2, ⟨_, _, _, _, _, _, _, _, _, _, _, hlen⟩, _⟩ := h
  exact hlen

set_option maxHeartbeats 16000000 in
theorem reqseals_any (w : World) (qs : List Q) (s : Sd) (As : Option Addr) (cs : Nat) (b : List Sd) (vl vb : Value) (hl : RI w (fun k => w.heap.size ≤ k) vl qs) (hq : ∀ y ∈ qs, far y.o 140737488351232) (hqs : qs.length * 88 ≤ 140737488351232)
    (hs : Ls w (fun k => w.heap.size ≤ k) (.slice As s.q.o.recs.length cs) s.q.o.recs) (hsf : far s.q.o 140737488351232) (hsw : wfS s.s) (hb : BI w (fun k => w.heap.size ≤ k) vb b) (hrb : ∀ y ∈ b, far y.q.o 140737488351232 ∧ wfS y.s) (hlb : b.length ≤ 140737488355328) :
    Calls Tryz.prog 4 #[vl, DV s As cs, vb] w fun e w' => e = .returned (.bool true) ∧ Below w.heap.size w w' := by
  obtain ⟨Al, cl, rfl, -⟩ := hl.shape
  obtain ⟨Ab, cb, rfl, -⟩ := hb.shape
  have HRI := Lib.hid hl
  have HQF := Lib.hid hq
  have HQS := Lib.hid hqs
  have hqn : qs.length ≤ 140737488355328 := by omega
  have HLS := Lib.hid hs
  have HSF : Hid (s.q.o.recs.length ≤ 140737488355328) := Lib.hid (by have := hsf.2.2.1; omega)
  have HSW := Lib.hid hsw
  have HB := Lib.hid hb
  have HRB : Hid (∀ y ∈ b, y.q.o.recs.length ≤ 140737488355328 ∧ wfS y.s) := Lib.hid (fun y hy => ⟨by have := (hrb y hy).1.2.2.1; omega, (hrb y hy).2⟩)
  have HLB := Lib.hid hlb
  obtain ⟨i0, hi0, hz0, hz1, hz2⟩ := info_parts9 info_sd
  have hb0 := op_below w (.cells (DC s As cs) 53)
  have hk0 : DK (w.alloc (.cells (DC s As cs) 53)) w.heap.size s As cs := Blk.new w _ _
  have hzz : (w.alloc (.cells (DC s As cs) 53)).heap.size = w.heap.size + 1 := by simp
  clear hl hq hqs hs hsf hsw hb hrb hlb
  unfold DV
  unfold DC at hb0 hk0 hzz ⊢
  go_enter Tryz.func4, Tryz.ntmps4
  go_wp2_with fail
  generalize w.alloc (.cells #[.int .i64 s.q.client, .int .i64 s.q.time, .int .i64 s.q.o.kind, .string ⟨s.q.o.topic.toArray⟩, .string ⟨s.q.o.group.toArray⟩, .int .i64 s.q.o.off, .slice As s.q.o.recs.length cs, .int .i64 s.s.1, .int .i64 s.s.2] 53) = w0 at *
  have HB0 := Lib.hid hb0
  have HK0 := Lib.hid hk0
  have HZ0 := Lib.hid hzz
  clear hb0 hk0 hzz
  refine (Ib.newtable_any w0).mono ?_
  rintro e w1 ⟨p, rfl, ht1, hb1⟩
  have HT1 := Lib.hid ht1
  have HB1 := Lib.hid hb1
  clear ht1 hb1
  go_wp2_with fail
  refine (La.newledger_any w1).mono ?_
  rintro e w2 ⟨g, rfl, hl2, hb2⟩
  have HS2 : Hid (∃ S rs, QO w p g w2.heap.size (w2.heap.size + 1) [] [] [] [] (.slice none 0 0) [] [] rs S (fun k => w2.heap.size ≤ k ∧ k < w2.heap.size + 2) ((w2.alloc (.cells #[.slice none 0 0] 61)).alloc (.cells #[.slice none 0 0] 65)) ∧ Below w.heap.size w ((w2.alloc (.cells #[.slice none 0 0] 61)).alloc (.cells #[.slice none 0 0] 65)) ∧ DK ((w2.alloc (.cells #[.slice none 0 0] 61)).alloc (.cells #[.slice none 0 0] 65)) w.heap.size s As cs) := Lib.hid (by
    have b02 := HB1.out.trans (hb2.mono HB1.out.size)
    have t2 := tl_new HT1.out HB1.out hl2 hb2
    have b24 : Below w2.heap.size w2 ((w2.alloc (.cells #[.slice none 0 0] 61)).alloc (.cells #[.slice none 0 0] 65)) := (op_below w2 _).trans ((op_below _ _).mono (by simp))
    have b04 := b02.trans (b24.mono b02.size)
    have hz0 := HZ0.out
    have hz2 := b02.size
    have hz4 : ((w2.alloc (.cells #[.slice none 0 0] 61)).alloc (.cells #[.slice none 0 0] 65)).heap.size = w2.heap.size + 2 := by simp
    refine ⟨fun k => w0.heap.size ≤ k ∧ k < w2.heap.size, [], ⟨by omega, (t2.weaken (fun k hk h => ⟨h, hk⟩)).later b24, rt_new w2, fun k hk => by omega, fun k hk => by omega, fun k h1 h2 => by omega, World.ownsRow_nil _ _ _ _, fun k hk => by simp [Value.ownBlock] at hk, rfl, fun i hi => absurd hi (by simp), fun x hx => absurd hx (by simp)⟩, HB0.out.trans (b04.mono HB0.out.size), Blk.below HK0.out b04 (Blk.lt HK0.out)⟩)
  clear hl2 hb2
  go_wp2_with fail
  generalize (w2.alloc (.cells #[.slice none 0 0] 61)).alloc (.cells #[.slice none 0 0] 65) = wn at *
  generalize w2.heap.size + 1 = g' at *
  generalize w2.heap.size = p' at *
  have HS2' : Hid (QS w s As cs p g p' g' [] [] (.slice none 0 0) [] wn) := Lib.hid (by
    obtain ⟨S, rs, h1, h2, h3⟩ := HS2.out
    exact ⟨h2, h3, _, _, _, h1⟩)
  clear HS2
  refine (begun_any wn).mono ?_
  rintro e w3 ⟨rfl, hb3⟩
  have HS3 := Lib.hid (HS2'.out.later hb3)
  clear hb3 HS2'
  go_wp2_with fail
  --CUT1
  go_loopw [11, 32] (fun v j wr => ∃ (k : Nat) (L : List (List UInt8)) (G : List Sg) (R : List Sd), k ≤ qs.length ∧ j = .int .i64 k ∧ R.length ≤ k ∧ G.length ≤ k ∧ (∀ x ∈ R, x.q.o.recs.length ≤ 140737488355328 ∧ wfS x.s) ∧ QS w s As cs p g p' g' L G v R wr) (fun _ j _ => qs.length - (intOf j).toNat)
  case atStart => exact ⟨0, [], [], [], Nat.zero_le _, rfl, Nat.le_refl _, Nat.le_refl _, fun x hx => absurd hx (by simp), HS3.out⟩
  case round =>
    obtain ⟨k, L, G, R, hk, rfl, hR, hG, hRR, hos⟩ := hrel
    clear HS3
    have HGL := Lib.hid hG
    have HRL := Lib.hid hR
    have HRR := Lib.hid hRR
    obtain ⟨hbel, hbox, S, S', rs, ho⟩ := hos
    obtain ⟨Aa, ca, rfl⟩ := own_shape ho.row
    clear hR hG hRR
    by_cases hlt : k < qs.length
    · obtain ⟨ad, Ar, cr, rfl, ⟨a0, a1, a2, a3, a4, a5, a6⟩, hls⟩ := (HRI.out.after hbel).at_ hlt
      have hqf := HQF.out _ (List.getElem_mem hlt)
      have hqr : (qs[k]).o.recs.length ≤ 140737488355328 := by have := hqf.2.2.1; omega
      generalize qs[k] = q at *
      have hbq := op_below wr (.cells (QC q Ar cr) 27)
      have HO1 := Lib.hid (ho.later hbq)
      have HSK : Hid (∀ k, S k → k < wr.heap.size) := Lib.hid (fun k hk => (ho.s1 k hk).2)
      have HSK2 : Hid (∀ k, S' k → k < wr.heap.size) := Lib.hid (fun k hk => (ho.s2 k hk).2)
      have HSL : Hid (∀ k, S k ∨ S' k → w.heap.size + 1 ≤ k) := Lib.hid (fun k hk => hk.elim (fun h => (ho.s1 k h).1) (fun h => (ho.s2 k h).1))
      have HOW : Hid (∀ k, (Value.slice Aa R.length ca).ownBlock = some k → k < wr.heap.size) := Lib.hid (fun k hk => (ho.row.lt k hk).2)
      have HSZ0 : Hid (w.heap.size + 1 ≤ wr.heap.size) := Lib.hid ho.two
      have HBX : Hid (DK (wr.alloc (.cells (QC q Ar cr) 27)) w.heap.size s As cs) := Lib.hid (Blk.below hbox hbq (Blk.lt hbox))
      have HBL : Hid (Below w.heap.size w (wr.alloc (.cells (QC q Ar cr) 27))) := Lib.hid (hbel.trans (hbq.mono hbel.size))
      have HQB : Hid (QB (wr.alloc (.cells (QC q Ar cr) 27)) wr.heap.size q Ar cr) := Lib.hid (Blk.new wr _ _)
      have HLQ := Lib.hid (hls.after hbq)
      have HQR := Lib.hid hqr
      have HSE := Lib.hid (seal_any (wr.alloc (.cells (QC q Ar cr) 27)) S (fun k => w.heap.size ≤ k) p g L G q Ar cr HO1.out.tl HLQ.out (fun k _ h => by have := HSL.out k (.inl h); omega) hqf (by have := HQS.out; have := HGL.out; omega))
      have HG2 := Lib.hid (sealG_len L G q)
      have HWF := Lib.hid (sealR_wf (tl_lenG ho.tl) q)
      have HRC : Hid ((sealR L q).1.q.o.recs.length ≤ 140737488355328) := Lib.hid (by have := sealR_recs L q; omega)
      have HRE := fun (W : World) (S' X : Nat → Prop) (h : RT W S' p' g' L G) => Lib.hid (rseal_any W S' X p' g' L G q Ar cr h)
      have HSU : Hid (wr.heap.size < (wr.alloc (.cells (QC q Ar cr) 27)).heap.size) := Lib.hid (by simp)
      clear hls hqf ho hbel hbox hqr hbq
      unfold Sealed at HSE
      unfold RSealed at HRE
      generalize sealT L q = L2 at *
      generalize sealG L G q = G2 at *
      generalize sealR L q = yz at *
      obtain ⟨y, z⟩ := yz
      simp only at HSE HRE HWF HRC
      unfold QV at HSE HRE
      unfold QC at HO1 HSE HBX HBL HQB HLQ HRE HSU
      go_wp2_with fail
      generalize wr.alloc (.cells #[.int .i64 q.client, .int .i64 q.time, .int .i64 q.o.kind, .string ⟨q.o.topic.toArray⟩, .string ⟨q.o.group.toArray⟩, .int .i64 q.o.off, .slice Ar q.o.recs.length cr] 27) = w1 at *
      generalize wr.heap.size = gq at *
      clear a0 a1 a2 a3 a4 a5 a6
      refine HSE.out.mono ?_
      rintro e w2 ⟨B, Ay, cy, rfl, hB1, hB2, ht2, hl2, hc2⟩
      have HBX2 : Hid (DK w2 w.heap.size s As cs) := Lib.hid (Blk.ch HBX.out hc2 (fun h => by have := HSL.out _ (.inl h); omega))
      have HBL2 : Hid (Below w.heap.size w w2) := Lib.hid (HBL.out.trans (hc2.below (fun k hk hs => by have := HSL.out _ (.inl hs); omega) HBL.out.size))
      have HQB2 : Hid (QB w2 gq q Ar cr) := Lib.hid (Blk.ch HQB.out hc2 (fun h => by have := HSK.out _ h; omega))
      have HLQ2 := Lib.hid (HLQ.out.ch hc2 (fun k _ hs => by have := HSL.out k (.inl hs); omega))
      have HO2 := Lib.hid ((HO1.out.one ht2 hc2 hB2).keep (y := y) (A := Ay) (c := cy) (B := B) (fun k hk => by
        rcases hk with hk | hk
        · have := HSK.out k hk; have := HSU.out; omega
        · exact hk.2) (fun k hk => by have := HSK2.out k hk; have := HSU.out; omega) (fun k hk => by have := HOW.out k hk; have := HSU.out; omega) hl2)
      have HSK3 : Hid (gq < w2.heap.size) := Lib.hid (by have := HSU.out; omega)
      clear ht2 hl2 hc2 hB1 hB2 HSE HO1 HBX HBL HQB HLQ HSK
      generalize Nw S w1.heap.size B = S2 at *
      have hb3 := op_below w2 (.cells (DC y Ay cy) 53)
      have HO3 := Lib.hid (HO2.out.later hb3)
      have HBX3 : Hid (DK (w2.alloc (.cells (DC y Ay cy) 53)) w.heap.size s As cs) := Lib.hid (Blk.below HBX2.out hb3 (Blk.lt HBX2.out))
      have HBL3 := Lib.hid (HBL2.out.trans (hb3.mono HBL2.out.size))
      have HQB3 : Hid (QB (w2.alloc (.cells (DC y Ay cy) 53)) gq q Ar cr) := Lib.hid (Blk.below HQB2.out hb3 (Blk.lt HQB2.out))
      have HLQ3 := Lib.hid (HLQ2.out.after hb3)
      have HY3 : Hid (DK (w2.alloc (.cells (DC y Ay cy) 53)) w2.heap.size y Ay cy) := Lib.hid (Blk.new w2 _ _)
      have HRE3 := Lib.hid ((HRE _ S' (fun k => w.heap.size ≤ k) HO3.out.rt).out HLQ3.out (fun k _ hk => by have := (HO3.out.s2 k hk).1; omega) (fun k hk => by have := HBL3.out.size; omega) HQR.out (by have := HQS.out; have := HGL.out; omega))
      obtain ⟨a0, a1, a2, a3, a4, a5, a6⟩ := QB.cells HQB3.out
      clear HO2 HBX2 HBL2 HQB2 HLQ2 hb3 HRE
      unfold DV
      unfold DC at HO3 HBX3 HBL3 HQB3 HLQ3 HY3 HRE3 a0 a1 a2 a3 a4 a5 a6 ⊢
      go_wp2_with fail
      --CUT2
      generalize w2.alloc (.cells #[.int .i64 y.q.client, .int .i64 y.q.time, .int .i64 y.q.o.kind, .string ⟨y.q.o.topic.toArray⟩, .string ⟨y.q.o.group.toArray⟩, .int .i64 y.q.o.off, .slice Ay y.q.o.recs.length cy, .int .i64 y.s.1, .int .i64 y.s.2] 53) = w3 at *
      generalize w2.heap.size = gy at *
      clear a0 a1 a2 a3 a4 a5 a6
      refine HRE3.out.mono ?_
      rintro e w4 ⟨Ac, cc, rfl, ht4, hl4, hc4⟩
      have HS3 := Lib.hid (HO3.out.s2)
      have HBX4 : Hid (DK w4 w.heap.size s As cs) := Lib.hid (Blk.ch HBX3.out hc4 (fun h => by have := (HS3.out _ h).1; omega))
      have HBL4 : Hid (Below w.heap.size w w4) := Lib.hid (HBL3.out.trans (hc4.below (fun k hk hs => by have := (HS3.out _ hs).1; omega) HBL3.out.size))
      have HY4 : Hid (DK w4 gy y Ay cy) := Lib.hid (Blk.ch HY3.out hc4 (fun h => by have := HSK2.out _ h; have := HSK3.out; omega))
      have HO4 := Lib.hid (HO3.out.other ht4 hc4)
      have HLC4 := Lib.hid (hl4.weaken (Y := fun _ => False) (fun _ _ h => h.elim))
      clear ht4 hl4 hc4 HO3 HBX3 HBL3 HQB3 HLQ3 HY3 HRE3 HS3
      generalize Nw S' w3.heap.size w4.heap.size = S3 at *
      have hb5 := op_below w4 (.cells (DC y Ac cc) 53)
      have HO5 := Lib.hid (HO4.out.later hb5)
      have HBX5 : Hid (DK (w4.alloc (.cells (DC y Ac cc) 53)) w.heap.size s As cs) := Lib.hid (Blk.below HBX4.out hb5 (Blk.lt HBX4.out))
      have HBL5 := Lib.hid (HBL4.out.trans (hb5.mono HBL4.out.size))
      have HY5 : Hid (DK (w4.alloc (.cells (DC y Ac cc) 53)) gy y Ay cy) := Lib.hid (Blk.below HY4.out hb5 (Blk.lt HY4.out))
      have HC5 : Hid (DK (w4.alloc (.cells (DC y Ac cc) 53)) w4.heap.size y Ac cc) := Lib.hid (Blk.new w4 _ _)
      have HLC5 := Lib.hid (HLC4.out.after hb5)
      clear HO4 HBX4 HBL4 HY4 HLC4 hb5
      generalize hw5 : w4.alloc (.cells (DC y Ac cc) 53) = w5 at *
      generalize hg5 : w4.heap.size = gc at *
      have HLY5 : Hid (Ls w5 (fun _ => False) (.slice Ay y.q.o.recs.length cy) y.q.o.recs) := Lib.hid ((HO5.out.pend (y, (Ay, cy)) (by simp)).weaken (fun _ _ h => h.elim))
      have hb7 : Below w5.heap.size w5 ((w5.alloc (.cells (DC y Ay cy) 53)).alloc (.cells (DC y Ac cc) 53)) := (op_below w5 _).trans ((op_below _ _).mono (by simp))
      have HSM : Hid (Calls Tryz.prog 11 #[.slice (some ⟨w5.heap.size, 0, none⟩) 1 1, .slice (some ⟨w5.heap.size + 1, 0, none⟩) 1 1] ((w5.alloc (.cells (DC y Ay cy) 53)).alloc (.cells (DC y Ac cc) 53)) fun e w' => e = .returned (.bool true) ∧ Below ((w5.alloc (.cells (DC y Ay cy) 53)).alloc (.cells (DC y Ac cc) 53)).heap.size ((w5.alloc (.cells (DC y Ay cy) 53)).alloc (.cells (DC y Ac cc) 53)) w') := Lib.hid (by
        have h1 := (Ju.bi_one HLY5.out (fun h => h)).after (op_below _ (.cells (DC y Ac cc) 53))
        have h2 := Ju.bi_one (w := w5.alloc (.cells (DC y Ay cy) 53)) (HLC5.out.after (op_below _ (.cells (DC y Ay cy) 53))) (fun h => h)
        have hz : (w5.alloc (.cells (DC y Ay cy) 53)).heap.size = w5.heap.size + 1 := by simp
        rw [hz] at h2
        have h3 := rsameb_any _ _ _ _ _ _ _ h1 h2 (fun x hx => by rw [List.mem_singleton.1 hx]; exact HRC.out) (by simp)
        rw [decide_eq_true rfl] at h3
        exact h3)
      have HB7 := Lib.hid hb7
      obtain ⟨y0, y1, y2, y3, y4, y5, y6, y7, y8⟩ := DK.cells HY5.out
      obtain ⟨x0, x1, x2, x3, x4, x5, x6, x7, x8⟩ := DK.cells (show DK (w5.alloc (.cells (DC y Ay cy) 53)) gc y Ac cc from Blk.alloc HC5.out _)
      clear hb7
      unfold DV
      unfold DC at hw5 HSM HB7 x0 x1 x2 x3 x4 x5 x6 x7 x8 ⊢
      have hnz : (z != z) = false := by simp
      go_wp2_with (first | rw [hw5] | rw [hg5] | fail)
      --CUT3
      refine HSM.out.mono ?_
      rintro e w8 ⟨rfl, hb8⟩
      have hb8' := HB7.out.trans (hb8.mono HB7.out.size)
      have HO8 := Lib.hid (HO5.out.later hb8')
      have HBX8 : Hid (DK w8 w.heap.size s As cs) := Lib.hid (Blk.below HBX5.out hb8' (Blk.lt HBX5.out))
      have HBL8 := Lib.hid (HBL5.out.trans (hb8'.mono HBL5.out.size))
      have HY8 : Hid (DK w8 gy y Ay cy) := Lib.hid (Blk.below HY5.out hb8' (Blk.lt HY5.out))
      clear hb8 hb8' HSM HB7 HO5 HBX5 HBL5 HY5 HC5 HLC5 HLY5 y0 y1 y2 y3 y4 y5 y6 y7 y8 x0 x1 x2 x3 x4 x5 x6 x7 x8 hw5 hg5
      obtain ⟨y0, y1, y2, y3, y4, y5, y6, y7, y8⟩ := DK.cells HY8.out
      by_cases hz : z = 0
      · subst hz
        have hdc := dc_cells w8 y Ay cy
        have hdl : ((DC y Ay cy).toList).length = 1 * 9 := rfl
        have hd1 := dc_ones (d := y) (A := Ay) (c := cy)
        have hro := own_below HO8.out.row (op_below w8 (.cells (DC y Ay cy) 53))
        have HDC := Lib.hid hdc
        have HDL := Lib.hid hdl
        have HD1 := Lib.hid hd1
        have HRO := Lib.hid hro
        have HWS : Hid (w.heap.size + 1 ≤ (w8.alloc (.cells (DC y Ay cy) 53)).heap.size) := Lib.hid (by have := HO8.out.two; simp; omega)
        clear hdc hdl hd1 hro
        unfold DC at HDC HDL HD1 HRO HWS
        go_wp2_with (at_builtin; refine wpList_append_one _ rfl (.tmp 63) (.tmp 65) _ rfl (w.heap.size + 1) 53 i0 _ 9 104 Tryz.underlying39 hi0 hz0 hz1 hz2 rfl (by omega) (.slice Aa R.length ca) R.length (flat R rs) rfl HRO.out ⟨w8.heap.size, 0, none⟩ 1 (#[.int .i64 y.q.client, .int .i64 y.q.time, .int .i64 y.q.o.kind, .string ⟨y.q.o.topic.toArray⟩, .string ⟨y.q.o.group.toArray⟩, .int .i64 y.q.o.off, .slice Ay y.q.o.recs.length cy, .int .i64 y.s.1, .int .i64 y.s.2] : Array Value).toList rfl HDL.out HDC.out HD1.out (by have := HQS.out; have := HRL.out; simp only [maxLen]; omega) (by have := HQS.out; have := HRL.out; omega) HWS.out ?_; intro A9 c9 w9 happ)
        --CUT4
        have HO9 := Lib.hid (HO8.out.put happ)
        have hg9 : Below w.heap.size w w9 := (HBL8.out.trans ((op_below w8 _).mono HBL8.out.size)).trans ((Ch.of_grown happ.2.1 (fun k hk _ => hk) : Ch (fun k => (Value.slice Aa R.length ca).ownBlock = some k) _ w9).below (fun k hk hs => by have := (HO8.out.row.lt k hs).1; omega) (by have := HBL8.out.size; simp; omega))
        have HBL9 := Lib.hid hg9
        have HBX9 : Hid (DK w9 w.heap.size s As cs) := Lib.hid (Blk.grown (Blk.alloc HBX8.out _) happ.2.1 (fun h => by have := (HO8.out.row.lt _ h.symm).1; omega))
        clear happ hg9
        go_wp2_with fail
        go_roundw
        case rel => exact ⟨k + 1, L2, G2, R ++ [y], by omega, by go_num, by have := HRL.out; simp; omega, by have := HG2.out; have := HGL.out; omega, fun x hx => by
            rcases List.mem_append.1 hx with hx | hx
            · exact HRR.out x hx
            · rw [List.mem_singleton.1 hx]; exact ⟨HRC.out, HWF.out⟩, HBL9.out, HBX9.out, _, _, _, by simpa using HO9.out⟩
        case measure => simp [intOf]; omega
      · have hz2 : (z == 0) = false := by simpa using hz
        clear hz
        go_wp2_with fail
        go_roundw
        case rel => exact ⟨k + 1, L2, G2, R, by omega, by go_num, by have := HRL.out; omega, by have := HG2.out; have := HGL.out; omega, HRR.out, HBL8.out, HBX8.out, _, _, _, HO8.out.drop⟩
        case measure => simp [intOf]; omega
    · have hke : k = qs.length := by omega
      have hGl : G.length ≤ 140737488355328 := by have := HGL.out; omega
      have HGG := Lib.hid hGl
      have HBI := Lib.hid ho.bi
      have HLL := Lib.hid (HLS.out.after hbel)
      have HBW := Lib.hid (HB.out.after hbel)
      have HRN : Hid (R.length ≤ 140737488355328) := Lib.hid (by have := HRL.out; omega)
      have HSL : Hid (∀ k, S k ∨ S' k → w.heap.size + 1 ≤ k) := Lib.hid (fun k hk => hk.elim (fun h => (ho.s1 k h).1) (fun h => (ho.s2 k h).1))
      have HO := Lib.hid ho
      have HBE := Lib.hid hbel
      have HBO := Lib.hid hbox
      clear ho hbel hbox hGl
      by_cases hb0 : b.length = 0
      · have hb1 : ((b.length : Int) == 0) = true := by simp [hb0]
        have hsl := Jc.slice_upto Aa R.length ca (min R.length 4) (by have := HO.out.row; obtain ⟨_, _, e, _, h, _⟩ := Sl.of_own' (X := fun _ => False) this (fun _ _ h => h); injection e with e1 e2 e3; subst e3; omega)
        by_cases h4 : R.length ≤ 4
        · have hm : min R.length 4 = R.length := by omega
          rw [hm] at hsl
          have hmi : min (R.length : Int) 4 = (R.length : Int) := by omega
          have HE0 : Hid (QE w s As cs p g p' g' L G (.slice Aa R.length ca) R S S' rs (.slice Aa R.length ca) R (wr.drewN 1)) := Lib.hid ((show QE w s As cs p g p' g' L G (.slice Aa R.length ca) R S S' rs (.slice Aa R.length ca) R wr from ⟨HBE.out, HBO.out, HO.out, HBI.out, HLL.out⟩).later (below_drewN (Below.refl _ _) 1))
          have HLR : Hid (∀ x ∈ R, x.q.o.recs.length ≤ 140737488355328) := Lib.hid (fun x hx => (HRR.out x hx).1)
          have HLW : Hid (∀ x ∈ R, wfS x.s) := Lib.hid (fun x hx => (HRR.out x hx).2)
          have HLN := HRN
          have h_0 : (validB L G s != validB L G s) = false := by simp
          have h_1 : (validsB L G (R) != validsB L G (R)) = false := by simp
          have HV1 := Lib.hid (fun (W : World) (h : QE w s As cs p g p' g' L G (.slice Aa R.length ca) R S S' rs (.slice Aa R.length ca) (R) W) => valid_any W _ _ p g L G s As cs h.qo.tl h.ls HSF.out HSW.out)
          have HV2 := Lib.hid (fun (W : World) (h : QE w s As cs p g p' g' L G (.slice Aa R.length ca) R S S' rs (.slice Aa R.length ca) (R) W) => rvalid_any W _ _ p' g' L G s As cs h.qo.rt h.ls HSF.out HGG.out)
          unfold DV DC at HV1 HV2
          clear HO HBI HLL HBW HBE HBO
          go_wp2_with fail
          --CUT5
          go_region_held3 (fun w' => w'.cell? ⟨w.heap.size, 0, none⟩ = some (.int .i64 s.q.client) ∧ w'.cell? ⟨w.heap.size, 1, none⟩ = some (.int .i64 s.q.time) ∧ w'.cell? ⟨w.heap.size, 2, none⟩ = some (.int .i64 s.q.o.kind) ∧ w'.cell? ⟨w.heap.size, 3, none⟩ = some (.string ⟨s.q.o.topic.toArray⟩) ∧ w'.cell? ⟨w.heap.size, 4, none⟩ = some (.string ⟨s.q.o.group.toArray⟩) ∧ w'.cell? ⟨w.heap.size, 5, none⟩ = some (.int .i64 s.q.o.off) ∧ w'.cell? ⟨w.heap.size, 6, none⟩ = some (.slice As s.q.o.recs.length cs) ∧ w'.cell? ⟨w.heap.size, 7, none⟩ = some (.int .i64 s.s.1) ∧ w'.cell? ⟨w.heap.size, 8, none⟩ = some (.int .i64 s.s.2))
            (first | exact HE0.out.cells | exact HE1.out.cells | exact HE2.out.cells | exact HE3.out.cells | exact HE4.out.cells)
            (first
            | (go_at_call 21; refine (HV1.out _ HE0.out).mono ?_; rintro e w1 ⟨rfl, hb1⟩; have HE1 := Lib.hid (HE0.out.later hb1); clear hb1)
            | (go_at_call 22; refine (HV2.out _ HE1.out).mono ?_; rintro e w2 ⟨rfl, hb2⟩; have HE2 := Lib.hid (HE1.out.later hb2); clear hb2)
            | (go_at_call 23; refine (vbatch_any _ _ _ p g L G _ (R) HE2.out.qo.tl HE2.out.bi HLR.out HLN.out HLW.out).mono ?_; rintro e w3 ⟨rfl, hb3⟩; have HE3 := Lib.hid (HE2.out.later hb3); clear hb3)
            | (go_at_call 24; refine (rvbatch_any _ _ _ p' g' L G _ (R) HE3.out.qo.rt HE3.out.bi HLR.out HLN.out HGG.out).mono ?_; rintro e w4 ⟨rfl, hb4⟩; have HE4 := Lib.hid (HE3.out.later hb4); clear hb4))
          all_goals
            --CUT6
            clear HE0 HE1 HE2 HE3 h_0 h_1
            have HD1 := Lib.hid (digest_any w4 S _ p g L G (R) _ HE4.out.qo.tl HE4.out.bi HLR.out HLN.out)
            unfold Digested at HD1
            go_wp2_with fail
            refine HD1.out.mono ?_
            rintro e w5 ⟨rfl, ht5, hc5⟩
            have HBE5 : Hid (Below w.heap.size w w5) := Lib.hid (HE4.out.below.trans (hc5.below (fun k hk hs => by have := HSL.out _ (.inl hs); omega) HE4.out.below.size))
            have HD2 := Lib.hid (rdigest_any w5 S' _ p' g' L G (R) _ (HE4.out.qo.rt.ch hc5 (fun k hk hx => HE4.out.qo.ap k hx hk)) (HE4.out.bi.ch hc5 (fun k _ hk => .inl hk)) HLR.out HLN.out)
            unfold RDigested at HD2
            clear ht5 hc5 HD1
            have HFN : Hid (∀ W, Ch S' w5 W → Below w.heap.size w W) := Lib.hid (fun W c => HBE5.out.trans (c.below (fun k hk hs => by have := HSL.out _ (.inr hs); omega) HBE5.out.size))
            generalize digR L (R) = dr at *
            obtain ⟨d, e1⟩ := dr
            simp only at HD2 ⊢
            have q1 : (d == d) = true := by simp
            have q2 : (e1 == e1) = true := by simp
            go_wp2_with fail
            refine HD2.out.mono ?_
            rintro e w6 ⟨rfl, hc6⟩
            have HBE6 := Lib.hid (HFN.out w6 hc6)
            clear hc6 HD2
            go_wp2_with fail
            go_ret
            exact ⟨rfl, HBE6.out⟩
        · have hm : min R.length 4 = 4 := by omega
          rw [hm] at hsl
          have h44 : ((4 : Nat) : Int) = 4 := rfl
          rw [h44] at hsl
          have hmi : min (R.length : Int) 4 = 4 := by omega
          have hl4 : (R.take 4).length = 4 := by simp; omega
          have HE0 : Hid (QE w s As cs p g p' g' L G (.slice Aa R.length ca) R S S' rs (.slice Aa 4 ca) (R.take 4) (wr.drewN 1)) := Lib.hid ((show QE w s As cs p g p' g' L G (.slice Aa R.length ca) R S S' rs (.slice Aa 4 ca) (R.take 4) wr from ⟨HBE.out, HBO.out, HO.out, bi_take HBI.out (by omega), HLL.out⟩).later (below_drewN (Below.refl _ _) 1))
          have HLR : Hid (∀ x ∈ R.take 4, x.q.o.recs.length ≤ 140737488355328) := Lib.hid (fun x hx => (HRR.out x (List.mem_of_mem_take hx)).1)
          have HLW : Hid (∀ x ∈ R.take 4, wfS x.s) := Lib.hid (fun x hx => (HRR.out x (List.mem_of_mem_take hx)).2)
          have HLN : Hid ((R.take 4).length ≤ 140737488355328) := Lib.hid (by omega)
          have h_0 : (validB L G s != validB L G s) = false := by simp
          have h_1 : (validsB L G (R.take 4) != validsB L G (R.take 4)) = false := by simp
          have HV1 := Lib.hid (fun (W : World) (h : QE w s As cs p g p' g' L G (.slice Aa R.length ca) R S S' rs (.slice Aa 4 ca) (R.take 4) W) => valid_any W _ _ p g L G s As cs h.qo.tl h.ls HSF.out HSW.out)
          have HV2 := Lib.hid (fun (W : World) (h : QE w s As cs p g p' g' L G (.slice Aa R.length ca) R S S' rs (.slice Aa 4 ca) (R.take 4) W) => rvalid_any W _ _ p' g' L G s As cs h.qo.rt h.ls HSF.out HGG.out)
          unfold DV DC at HV1 HV2
          clear HO HBI HLL HBW HBE HBO
          go_wp2_with fail
          --CUT5
          go_region_held3 (fun w' => w'.cell? ⟨w.heap.size, 0, none⟩ = some (.int .i64 s.q.client) ∧ w'.cell? ⟨w.heap.size, 1, none⟩ = some (.int .i64 s.q.time) ∧ w'.cell? ⟨w.heap.size, 2, none⟩ = some (.int .i64 s.q.o.kind) ∧ w'.cell? ⟨w.heap.size, 3, none⟩ = some (.string ⟨s.q.o.topic.toArray⟩) ∧ w'.cell? ⟨w.heap.size, 4, none⟩ = some (.string ⟨s.q.o.group.toArray⟩) ∧ w'.cell? ⟨w.heap.size, 5, none⟩ = some (.int .i64 s.q.o.off) ∧ w'.cell? ⟨w.heap.size, 6, none⟩ = some (.slice As s.q.o.recs.length cs) ∧ w'.cell? ⟨w.heap.size, 7, none⟩ = some (.int .i64 s.s.1) ∧ w'.cell? ⟨w.heap.size, 8, none⟩ = some (.int .i64 s.s.2))
            (first | exact HE0.out.cells | exact HE1.out.cells | exact HE2.out.cells | exact HE3.out.cells | exact HE4.out.cells)
            (first
            | (go_at_call 21; refine (HV1.out _ HE0.out).mono ?_; rintro e w1 ⟨rfl, hb1⟩; have HE1 := Lib.hid (HE0.out.later hb1); clear hb1)
            | (go_at_call 22; refine (HV2.out _ HE1.out).mono ?_; rintro e w2 ⟨rfl, hb2⟩; have HE2 := Lib.hid (HE1.out.later hb2); clear hb2)
            | (go_at_call 23; refine (vbatch_any _ _ _ p g L G _ (R.take 4) HE2.out.qo.tl HE2.out.bi HLR.out HLN.out HLW.out).mono ?_; rintro e w3 ⟨rfl, hb3⟩; have HE3 := Lib.hid (HE2.out.later hb3); clear hb3)
            | (go_at_call 24; refine (rvbatch_any _ _ _ p' g' L G _ (R.take 4) HE3.out.qo.rt HE3.out.bi HLR.out HLN.out HGG.out).mono ?_; rintro e w4 ⟨rfl, hb4⟩; have HE4 := Lib.hid (HE3.out.later hb4); clear hb4))
          all_goals
            --CUT6
            clear HE0 HE1 HE2 HE3 h_0 h_1
            have HD1 := Lib.hid (digest_any w4 S _ p g L G (R.take 4) _ HE4.out.qo.tl HE4.out.bi HLR.out HLN.out)
            unfold Digested at HD1
            go_wp2_with fail
            refine HD1.out.mono ?_
            rintro e w5 ⟨rfl, ht5, hc5⟩
            have HBE5 : Hid (Below w.heap.size w w5) := Lib.hid (HE4.out.below.trans (hc5.below (fun k hk hs => by have := HSL.out _ (.inl hs); omega) HE4.out.below.size))
            have HD2 := Lib.hid (rdigest_any w5 S' _ p' g' L G (R.take 4) _ (HE4.out.qo.rt.ch hc5 (fun k hk hx => HE4.out.qo.ap k hx hk)) (HE4.out.bi.ch hc5 (fun k _ hk => .inl hk)) HLR.out HLN.out)
            unfold RDigested at HD2
            clear ht5 hc5 HD1
            have HFN : Hid (∀ W, Ch S' w5 W → Below w.heap.size w W) := Lib.hid (fun W c => HBE5.out.trans (c.below (fun k hk hs => by have := HSL.out _ (.inr hs); omega) HBE5.out.size))
            generalize digR L (R.take 4) = dr at *
            obtain ⟨d, e1⟩ := dr
            simp only at HD2 ⊢
            have q1 : (d == d) = true := by simp
            have q2 : (e1 == e1) = true := by simp
            go_wp2_with fail
            refine HD2.out.mono ?_
            rintro e w6 ⟨rfl, hc6⟩
            have HBE6 := Lib.hid (HFN.out w6 hc6)
            clear hc6 HD2
            go_wp2_with fail
            go_ret
            exact ⟨rfl, HBE6.out⟩
      · have hb1 : ((b.length : Int) == 0) = false := beq_eq_false_iff_ne.2 (by omega)
        have HE0 : Hid (QE w s As cs p g p' g' L G (.slice Aa R.length ca) R S S' rs (.slice Ab b.length cb) b (wr.drewN 1)) := Lib.hid ((show QE w s As cs p g p' g' L G (.slice Aa R.length ca) R S S' rs (.slice Ab b.length cb) b wr from ⟨HBE.out, HBO.out, HO.out, HBW.out.weaken (fun k _ hk => by have := HSL.out k hk; omega), HLL.out⟩).later (below_drewN (Below.refl _ _) 1))
        have HLR : Hid (∀ x ∈ b, x.q.o.recs.length ≤ 140737488355328) := Lib.hid (fun x hx => (HRB.out x hx).1)
        have HLW : Hid (∀ x ∈ b, wfS x.s) := Lib.hid (fun x hx => (HRB.out x hx).2)
        have HLN := HLB
        have h_0 : (validB L G s != validB L G s) = false := by simp
        have h_1 : (validsB L G (b) != validsB L G (b)) = false := by simp
        have HV1 := Lib.hid (fun (W : World) (h : QE w s As cs p g p' g' L G (.slice Aa R.length ca) R S S' rs (.slice Ab b.length cb) (b) W) => valid_any W _ _ p g L G s As cs h.qo.tl h.ls HSF.out HSW.out)
        have HV2 := Lib.hid (fun (W : World) (h : QE w s As cs p g p' g' L G (.slice Aa R.length ca) R S S' rs (.slice Ab b.length cb) (b) W) => rvalid_any W _ _ p' g' L G s As cs h.qo.rt h.ls HSF.out HGG.out)
        unfold DV DC at HV1 HV2
        clear HO HBI HLL HBW HBE HBO
        go_wp2_with fail
        --CUT5
        go_region_held3 (fun w' => w'.cell? ⟨w.heap.size, 0, none⟩ = some (.int .i64 s.q.client) ∧ w'.cell? ⟨w.heap.size, 1, none⟩ = some (.int .i64 s.q.time) ∧ w'.cell? ⟨w.heap.size, 2, none⟩ = some (.int .i64 s.q.o.kind) ∧ w'.cell? ⟨w.heap.size, 3, none⟩ = some (.string ⟨s.q.o.topic.toArray⟩) ∧ w'.cell? ⟨w.heap.size, 4, none⟩ = some (.string ⟨s.q.o.group.toArray⟩) ∧ w'.cell? ⟨w.heap.size, 5, none⟩ = some (.int .i64 s.q.o.off) ∧ w'.cell? ⟨w.heap.size, 6, none⟩ = some (.slice As s.q.o.recs.length cs) ∧ w'.cell? ⟨w.heap.size, 7, none⟩ = some (.int .i64 s.s.1) ∧ w'.cell? ⟨w.heap.size, 8, none⟩ = some (.int .i64 s.s.2))
          (first | exact HE0.out.cells | exact HE1.out.cells | exact HE2.out.cells | exact HE3.out.cells | exact HE4.out.cells)
          (first
          | (go_at_call 21; refine (HV1.out _ HE0.out).mono ?_; rintro e w1 ⟨rfl, hb1⟩; have HE1 := Lib.hid (HE0.out.later hb1); clear hb1)
          | (go_at_call 22; refine (HV2.out _ HE1.out).mono ?_; rintro e w2 ⟨rfl, hb2⟩; have HE2 := Lib.hid (HE1.out.later hb2); clear hb2)
          | (go_at_call 23; refine (vbatch_any _ _ _ p g L G _ (b) HE2.out.qo.tl HE2.out.bi HLR.out HLN.out HLW.out).mono ?_; rintro e w3 ⟨rfl, hb3⟩; have HE3 := Lib.hid (HE2.out.later hb3); clear hb3)
          | (go_at_call 24; refine (rvbatch_any _ _ _ p' g' L G _ (b) HE3.out.qo.rt HE3.out.bi HLR.out HLN.out HGG.out).mono ?_; rintro e w4 ⟨rfl, hb4⟩; have HE4 := Lib.hid (HE3.out.later hb4); clear hb4))
        all_goals
          --CUT6
          clear HE0 HE1 HE2 HE3 h_0 h_1
          have HD1 := Lib.hid (digest_any w4 S _ p g L G (b) _ HE4.out.qo.tl HE4.out.bi HLR.out HLN.out)
          unfold Digested at HD1
          go_wp2_with fail
          refine HD1.out.mono ?_
          rintro e w5 ⟨rfl, ht5, hc5⟩
          have HBE5 : Hid (Below w.heap.size w w5) := Lib.hid (HE4.out.below.trans (hc5.below (fun k hk hs => by have := HSL.out _ (.inl hs); omega) HE4.out.below.size))
          have HD2 := Lib.hid (rdigest_any w5 S' _ p' g' L G (b) _ (HE4.out.qo.rt.ch hc5 (fun k hk hx => HE4.out.qo.ap k hx hk)) (HE4.out.bi.ch hc5 (fun k _ hk => .inl hk)) HLR.out HLN.out)
          unfold RDigested at HD2
          clear ht5 hc5 HD1
          have HFN : Hid (∀ W, Ch S' w5 W → Below w.heap.size w W) := Lib.hid (fun W c => HBE5.out.trans (c.below (fun k hk hs => by have := HSL.out _ (.inr hs); omega) HBE5.out.size))
          generalize digR L (b) = dr at *
          obtain ⟨d, e1⟩ := dr
          simp only at HD2 ⊢
          have q1 : (d == d) = true := by simp
          have q2 : (e1 == e1) = true := by simp
          go_wp2_with fail
          refine HD2.out.mono ?_
          rintro e w6 ⟨rfl, hc6⟩
          have HBE6 := Lib.hid (HFN.out w6 hc6)
          clear hc6 HD2
          go_wp2_with fail
          go_ret
          exact ⟨rfl, HBE6.out⟩
end Go.Proofs.YtebjjkhiniccgaaGreat.Kk
