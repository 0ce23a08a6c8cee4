/-
  Contract of the program's topics: Bytes.
-/
import Derived.Test.YtkoedonllfmaaaaGreatVD29
import Derived.Test.YtkoedonllfmaaaaGreatVD12
import Derived.Deep.MidRow
namespace Go.Proofs.YtkoedonllfmaaaaGreat.Bu
set_option linter.unusedSimpArgs false
open Go Go.RowKit Go.Shelf Ck Kw Pk Cb Ga Kf Km Pm Pz Po Tm Tn Tq Kx Aa Ab Ac Ad Kr Bp Bq Br Bt
attribute [local go_sem ↓] Go.wp_at_zero Go.wp_at_succ
set_option linter.unusedVariables false

/-- The map's look-up, one result. -/
theorem look1 {w : World} {S R : Nat → Prop} {p m : Nat} {s : St} {D : DataW Unit} {G : Tx → Nat} {V : Tx → Value} {M : Tx → Nat} {F : Tx → Nat → Prop} (h : TP w S R p m s D G V M F) (t : Tp) (ht : t ∈ s.L) (hx : t.n.length ≤ 140737488355328) :
    (Instr.lookup 61 (.map (some m)) (.string ⟨t.n.toArray⟩) false).run Tryz.prog w = .ok (.pointer (some ⟨G t.n, 0, none⟩)) w := by
  obtain ⟨v, ps, hrun, hv⟩ := h.own.lookup law_str Tryz.underlying61 (zero_ptr w) (zd := .nil) (zp := []) ptrElem_nil (key_str t.n (by simp only [maxLen]; omega))
  rw [h.tells.2 t ht] at hv
  rw [hrun, ptrElem_at hv]
/-- Rows of two kinds lie in two blocks. -/
theorem rows_far {w : World} {B1 B2 n1 n2 s1 s2 : Nat} {e1 e2 : TypeId} {v1 v2 : Value} {l1 l2 : List Value} (h1 : w.ownsRow B1 e1 s1 v1 n1 l1) (h2 : w.ownsRow B2 e2 s2 v2 n2 l2) (hne : e1 ≠ e2) : ∀ q, v1.ownBlock = some q → v2.ownBlock ≠ some q := by
  intro q hq
  rcases h1.2 with ⟨rfl, _⟩ | ⟨g1, _, _, rfl, _, r1, _⟩
  · simp [Value.ownBlock] at hq
  · simp only [Value.ownBlock, Option.some.injEq] at hq
    subst hq
    exact own_far h2 (show Blk w g1 e1 _ from r1) (fun e => hne e.symm)
theorem tB_len {t : Tp} (h : FitT t) : (tB t).length ≤ 5500 := by
  have h1 := (Cm.enc_len t.base.toNat).1
  have h2 := (Cm.enc_len t.recs.length).1
  have h3 := (Cm.enc_len t.gs.length).1
  have h4 := Pz.encP_small t.recs h.each
  have h5 := h.few
  have h6 := h.groups
  have h7 := flat_le gpB 84 t.gs (fun x hx => by
    have hx' := h.g x hx
    have h2 := (Cm.enc_len x.n.length).1
    have h3 := (Cm.enc_len x.pos.toNat).1
    have h4 := hx'.n
    simp only [gpB, List.length_append, Cm.encB_len]
    omega)
  unfold tB Cm.encL
  simp only [List.length_append]
  omega
theorem idx_last (l : List An) (h8 : l.length = 8) (k : Nat) (hk : k < l.length) (W : World) : (Instr.index 64 (.agg (ACs l).toArray) (.int .i64 (k : Int))).run Tryz.prog W = .ok (.agg #[.int .i64 l[k].time, .int .i64 l[k].err, .int .i64 l[k].off]) W := by
  match l, h8 with
  | [a0, a1, a2, a3, a4, a5, a6, a7], _ =>
    match k, hk with
    | 0, _ => (show _ = _; kernel_rfl)
    | 1, _ => (show _ = _; kernel_rfl)
    | 2, _ => (show _ = _; kernel_rfl)
    | 3, _ => (show _ = _; kernel_rfl)
    | 4, _ => (show _ = _; kernel_rfl)
    | 5, _ => (show _ = _; kernel_rfl)
    | 6, _ => (show _ = _; kernel_rfl)
    | 7, _ => (show _ = _; kernel_rfl)
theorem anB_len {a : An} (h : FitA a) : (anB a).length ≤ 30 := by
  have h1 := (Cm.enc_len a.time.toNat).1
  have h2 := (Cm.enc_len a.err.toNat).1
  have h3 := (Cm.enc_len a.off.toNat).1
  unfold anB
  simp only [List.length_append]
  omega
theorem res_eq {a : An} (h : FitA a) : Cm.enc a.time.toNat ++ resB a.err a.off = anB a := by
  unfold anB resB
  rw [show max a.err 0 = a.err by have := h.err; omega, show max a.off 0 = a.off by have := h.off; omega]
theorem tpB_eq (t : Tp) : tpB t = Cm.encB t.n ++ tB t := rfl

set_option maxRecDepth 100000 in
set_option maxHeartbeats 4000000 in
theorem bytes_all (w : World) (S R : Nat → Prop) (p : Nat) (s : St) (h : Tz w S R p s) (hS : ∀ k, S k → k < w.heap.size) :
    Calls Tryz.prog 28 #[.pointer (some ⟨p, 0, none⟩)] w fun e w' => Made w 5 (stB s) e w' := by
  have HM := Lib.hid (made_on w S R p s h)
  have HZ := Lib.hid h
  obtain ⟨m, D, G, V, M, F, hP⟩ := h
  have HSL := Lib.hid hS
  have hgood := hP.good
  have HG := Lib.hid hgood
  have c0 := hP.cell0
  have hle := hP.own.len Tryz.underlying61 3
  rw [hP.size] at hle
  have hfew := hgood.L.few
  have HP := Lib.hid hP
  have HP0 := Lib.hid (pnum_any w.heap.size (.slice none 0 0) s.L.length [] w (World.ownsRow_nil _ _ _ _) (Nat.le_refl _) (by simp) (by omega))
  clear hP hgood hS
  go_enter Tryz.func28, Tryz.ntmps28
  go_wp2_with fail
  refine HM.out.mono ?_
  rintro e w1 ⟨rfl, rfl⟩
  go_wp2_with fail
  refine HP0.out.mono ?_
  rintro e w1 ⟨v1, rfl, ho1, hg1, -⟩
  obtain ⟨A1, c1, rfl⟩ := own_shape ho1
  have hb1 : Below w.heap.size w w1 := (Ch.of_grown (S := fun _ => False) hg1 (fun q hq _ => by simp [Value.ownBlock] at hq)).below (fun _ _ h => h) (Nat.le_refl _)
  simp only [List.nil_append] at ho1 ⊢
  have HO1 := Lib.hid ho1
  have HB1 := Lib.hid hb1
  have hw1 := hb1.size
  clear ho1 hb1 hg1 c0 hle
  go_wp2_with fail
  refine (names_on w1 S R p s (HZ.out.later HB1.out)).mono ?_
  rintro e w2 ⟨An, cn, rfl, hon, hb2⟩
  simp only [List.length_map] at hon ⊢
  have hw2 := hb2.size
  have HB2 := Lib.hid (HB1.out.trans (hb2.mono hw1))
  have ho2 := own_below HO1.out hb2
  have hfar0 := fun q hq h => Nat.lt_irrefl q (Nat.lt_of_lt_of_le (HO1.out.lt q hq).2 (hon.lt q h).1)
  have HXW : Hid (∀ q, (Value.slice An s.L.length cn).ownBlock = some q → q < w2.heap.size ∧ w.heap.size ≤ q) := Lib.hid (fun q hq => ⟨(hon.lt q hq).2, Nat.le_trans hw1 (hon.lt q hq).1⟩)
  have HON := Lib.hid hon
  have HO2 := Lib.hid ho2
  have HF2 := Lib.hid hfar0
  clear hon hb2 ho2 hfar0
  go_wp2_with fail
  go_loopw [3, 20] (fun v i wr => ∃ k : Nat, k ≤ s.L.length ∧ i = .int .i64 (k : Int) ∧ wr.ownsRow w.heap.size 5 1 v (Cm.enc s.L.length ++ (s.L.take k).flatMap tpB).length (BVs (Cm.enc s.L.length ++ (s.L.take k).flatMap tpB)) ∧ Ch (fun q => w.heap.size ≤ q ∧ (Value.slice An s.L.length cn).ownBlock ≠ some q) w2 wr) (fun _ i _ => s.L.length - (intOf i).toNat)
  case atStart =>
    refine ⟨0, Nat.zero_le _, rfl, ?_, Ch.refl _ _⟩
    have := HO2.out
    simpa using this
  case round =>
    obtain ⟨k, hk, rfl, hrw, hcr⟩ := hrel
    obtain ⟨A3, c3, rfl⟩ := own_shape hrw
    have HCR := Lib.hid hcr
    have hwr := hcr.size
    have HBR := Lib.hid (HB2.out.trans (hcr.below (B := w.heap.size) (fun k hk h => by omega) (by omega)))
    by_cases hlt : k < s.L.length
    · have hltI : (k : Int) < (s.L.length : Int) := by omega
      have honr := own_ch HON.out hcr (fun q hq h => h.2 hq)
      obtain ⟨gn, hA, hcell⟩ : ∃ gn, An = some ⟨gn, 0, none⟩ ∧ wr.cell? ⟨gn, k, none⟩ = some (.string ⟨s.L[k].n.toArray⟩) := by
        obtain ⟨g', c', hv, hb, hlt'⟩ := honr.form (by omega)
        obtain ⟨rfl, _, rfl⟩ := Value.slice.inj hv
        exact ⟨g', rfl, by rw [honr.cellAt k (by omega)]; simp [hlt]⟩
      subst hA
      have hmem := List.getElem_mem hlt
      have HMEM := Lib.hid hmem
      have hft := HG.out.L.fit _ hmem
      have hnl := hft.n
      have htl := tB_len hft
      have HGP : Hid (Cm.enc s.L.length ++ (s.L.take k).flatMap tpB ++ Cm.encB s.L[k].n ++ tB s.L[k] = Cm.enc s.L.length ++ (s.L.take (k + 1)).flatMap tpB) := Lib.hid (by
        rw [List.take_succ_eq_append_getElem hlt, List.flatMap_append]
        simp [tpB_eq, List.append_assoc])
      have HBK : Hid ((Cm.enc s.L.length ++ (s.L.take k).flatMap tpB).length ≤ 50000) := Lib.hid (by
        have h1 := flat_le tpB 5600 (s.L.take k) (fun x hx => by
          have hx' := HG.out.L.fit x (List.mem_of_mem_take hx)
          have h2 := (Cm.enc_len x.n.length).1
          have h3 := tB_len hx'
          have h4 := hx'.n
          simp only [tpB_eq, List.length_append, Cm.encB_len]
          omega)
        have h5 : (s.L.take k).length ≤ s.L.length := by rw [List.length_take]; omega
        have h6 := (Cm.enc_len s.L.length).1
        simp only [List.length_append]
        omega)
      generalize Cm.enc s.L.length ++ (s.L.take k).flatMap tpB = bk at *
      have hcv := conv_bytes s.L[k].n
      have HO5 := Lib.hid (bytesWorld_out wr s.L[k].n (by omega))
      have HB5 := Lib.hid (bytesWorld_below wr 5 ⟨s.L[k].n.toArray⟩)
      have HRW := Lib.hid hrw
      have HONR := Lib.hid honr
      clear hrw honr hcr hmem hft
      go_wp2_with fail
      have HP3 := Lib.hid (pbytes_any w.heap.size _ (.slice A3 bk.length c3) _ _ bk s.L[k].n (Lib.bytesWorld wr 5 ⟨s.L[k].n.toArray⟩) (own_below HRW.out HB5.out) (Nat.le_trans (by omega) HB5.out.size) (HO5.out.sl (X := fun _ => False) (fun _ _ _ h => h)) (by have := HBK.out; omega) (by have := HBK.out; omega))
      refine HP3.out.mono ?_
      rintro e w3 ⟨v3, rfl, ho3, hg3, hv3⟩
      obtain ⟨A4, c4, rfl⟩ := own_shape ho3
      have hc3 : Ch (fun q => w.heap.size ≤ q ∧ (Value.slice (some ⟨gn, 0, none⟩) s.L.length cn).ownBlock ≠ some q) wr w3 := (Ch.of_below HB5.out (Nat.le_refl _)).trans (Ch.of_grown (S := fun q => w.heap.size ≤ q ∧ (Value.slice (some ⟨gn, 0, none⟩) s.L.length cn).ownBlock ≠ some q) hg3 (fun q hq _ => ⟨(HRW.out.lt q hq).1, fun e => rows_far HRW.out HONR.out (by decide) q hq e⟩)) (fun _ _ h => h)
      have hb3 : Below w.heap.size w w3 := HBR.out.trans (hc3.below (B := w.heap.size) (fun k hk h => by omega) (by omega))
      have hw3 := hc3.size
      have hP3 := HP.out.later hb3
      have c0 : w3.cell? ⟨p, 0, none⟩ = some (.map (some m)) := hP3.cell0
      have hlk := look1 hP3 s.L[k] HMEM.out (by omega)
      have HBY := Lib.hid (bytes_on w3 (F s.L[k].n) R (G s.L[k].n) s.L[k] (V s.L[k].n) (M s.L[k].n) (hP3.top _ HMEM.out) (HG.out.L.fit _ HMEM.out) (List.pairwise_map.2 ((okT_iff _).1 (HG.out.L.ok _ HMEM.out)).2.2.2) (fun q hq => (hP3.sub _ HMEM.out q hq).2.2.2) (fun q hq => (hP3.rs q hq).2))
      have HO3 := Lib.hid ho3
      have HC3 := Lib.hid hc3
      have HB8 : Hid ((bk ++ Cm.encB s.L[k].n).length ≤ 50100) := Lib.hid (by have := HBK.out; have := (Cm.enc_len s.L[k].n.length).1; simp only [List.length_append, Cm.encB_len]; omega)
      generalize hb8 : bk ++ Cm.encB s.L[k].n = b8 at *
      have HTL := Lib.hid htl
      clear ho3 hc3 hg3 hv3 hb3 hP3 hcell hcv hb8 htl
      go_wp2_with fail
      refine HBY.out.mono ?_
      rintro e w4 ⟨v4, rfl, ho4, hb4⟩
      obtain ⟨A5, c5, rfl⟩ := own_shape ho4
      have HO4 := Lib.hid ho4
      have HB4 := Lib.hid hb4
      have hw4 := hb4.size
      obtain ⟨i0, hi0, hz0, hz1, hz2⟩ := info_parts Cb.info_u8
      clear ho4 hb4 c0 hlk
      go_wp2_with (at_builtin; refine wpList_append_sl _ rfl (.tmp 28) (.tmp 35) _ rfl w.heap.size 5 i0 _ 1 1 Tryz.underlying49 hi0 hz0 hz1 hz2 rfl (by omega) _ b8.length (BVs b8) rfl (own_below HO3.out HB4.out) (fun _ => False) _ (tB s.L[k]).length (BVs (tB s.L[k])) rfl (Sl.of_own HO4.out (fun _ _ _ h => h)) (BVs_one _) (by have := HB8.out; have := HTL.out; simp only [maxLen]; omega) (by have := HB8.out; have := HTL.out; omega) (by omega) ?_; intro v5 w5 happ; have HAP := Lib.hid happ; clear happ)
      have h5 := HAP.out.1
      have h6 := HAP.out.2.1
      have hc5 : Ch (fun q => w.heap.size ≤ q ∧ (Value.slice (some ⟨gn, 0, none⟩) s.L.length cn).ownBlock ≠ some q) w3 w5 := (Ch.of_below HB4.out (Nat.le_refl _)).trans (Ch.of_grown (S := fun q => w.heap.size ≤ q ∧ (Value.slice (some ⟨gn, 0, none⟩) s.L.length cn).ownBlock ≠ some q) h6 (fun q hq _ => ⟨(HO3.out.lt q hq).1, fun e => rows_far HO3.out (own_ch (own_ch HON.out HCR.out (fun q hq h => h.2 hq)) HC3.out (fun q hq h => h.2 hq)) (by decide) q hq e⟩)) (fun _ _ h => h)
      rw [← BVs_app, ← List.length_append, HGP.out] at h5
      have HH5 := Lib.hid h5
      have HC5 := Lib.hid ((HCR.out.trans HC3.out (fun _ _ h => h)).trans hc5 (fun _ _ h => h))
      clear h5 h6 hc5 HAP
      go_roundw
      case rel => exact ⟨k + 1, by omega, by go_num, HH5.out, HC5.out⟩
      case measure => simp [intOf]; omega
    · have hke : k = s.L.length := by omega
      subst hke
      rw [List.take_length] at hrw ⊢
      have hP3 := HP.out.later HBR.out
      have HO3 := Lib.hid hrw
      have HRG : Hid (wr.rangeAt p 1 (ACs s.last)) := Lib.hid (fun j v hv => by
        rw [hP3.blk.cell (1 + j), List.getElem?_toArray, show 1 + j = j + 1 from by omega, List.getElem?_cons_succ]
        exact hv)
      have HSZ : Hid ((Tryz.prog.info? 64).map (·.size) = some (ACs s.last).length) := Lib.hid (by
        rw [show (ACs s.last).length = 24 by rw [ACs, flat_len AC_len, HG.out.eight]]
        kernel_rfl)
      have HBLS : Hid ((Cm.enc s.L.length ++ s.L.flatMap tpB).length ≤ 50000) := Lib.hid (by
        have h1 := flat_le tpB 5600 s.L (fun x hx => by
          have hx' := HG.out.L.fit x hx
          have h2 := (Cm.enc_len x.n.length).1
          have h3 := tB_len hx'
          have h4 := hx'.n
          simp only [tpB_eq, List.length_append, Cm.encB_len]
          omega)
        have h6 := (Cm.enc_len s.L.length).1
        simp only [List.length_append]
        omega)
      have HSTB : Hid (Cm.enc s.L.length ++ s.L.flatMap tpB ++ s.last.flatMap anB = stB s) := Lib.hid (by unfold stB; rw [List.append_assoc])
      clear hrw hcr hP3
      generalize Cm.enc s.L.length ++ s.L.flatMap tpB = bL at *
      have h8 := HG.out.eight
      go_wp2_with (refine wpList_load_mid rfl 64 (.tmp 40) rfl p 1 rfl (ACs s.last) _ HRG.out Tryz.underlying64 rfl HSZ.out ?_)
      go_loopw [3, 42] (fun v i W => ∃ k : Nat, k ≤ 8 ∧ i = .int .i64 (k : Int) ∧ W.ownsRow w.heap.size 5 1 v (bL ++ (s.last.take k).flatMap anB).length (BVs (bL ++ (s.last.take k).flatMap anB)) ∧ Below w.heap.size w W) (fun _ i _ => 8 - (intOf i).toNat)
      case atStart =>
        refine ⟨0, Nat.zero_le _, rfl, ?_, HBR.out⟩
        have := HO3.out
        simpa using this
      case round =>
        obtain ⟨k, hk, rfl, hrw, hbr⟩ := hrel
        obtain ⟨A6, c6, rfl⟩ := own_shape hrw
        have hsz6 := hbr.size
        by_cases hlt : k < 8
        · have hltI : (k : Int) < 8 := by omega
          have hkl : k < s.last.length := by omega
          have hix := idx_last s.last h8 k hkl
          have HFA := Lib.hid (HG.out.a _ (List.getElem_mem hkl)).1
          have hfa := HFA.out
          obtain ⟨tk, htk⟩ : ∃ n : Nat, s.last[k].time = (n : Int) := ⟨s.last[k].time.toNat, by have := hfa.time; omega⟩
          have htk2 : tk < 9223372036854775808 := by have := hfa.time; simp only [maxNum] at this; omega
          have HRS : Hid (bL ++ (s.last.take k).flatMap anB ++ Cm.enc tk ++ resB s.last[k].err s.last[k].off = bL ++ (s.last.take (k + 1)).flatMap anB) := Lib.hid (by
            have h := res_eq hfa
            rw [htk, Int.toNat_natCast] at h
            rw [List.take_succ_eq_append_getElem hkl, List.flatMap_append, List.flatMap_cons, List.flatMap_nil, List.append_nil, ← h]
            simp only [List.append_assoc])
          have HBK : Hid ((bL ++ (s.last.take k).flatMap anB).length ≤ 60000 ∧ (resB s.last[k].err s.last[k].off).length ≤ 30) := Lib.hid (by
            have h1 := flat_le anB 30 (s.last.take k) (fun x hx => anB_len (HG.out.a x (List.mem_of_mem_take hx)).1)
            have h5 : (s.last.take k).length ≤ 8 := by rw [List.length_take]; omega
            have h6 := HBLS.out
            have h7 := (Cm.enc_len (max s.last[k].err 0).toNat).1
            have h8 := (Cm.enc_len (max s.last[k].off 0).toNat).1
            simp only [List.length_append, resB]
            omega)
          generalize bL ++ (s.last.take k).flatMap anB = bk at *
          have HE63 : Hid (s.last[k].err ≤ 9223372036854775807 ∧ s.last[k].off ≤ 9223372036854775807) := Lib.hid (by have h1 := hfa.err; have h2 := hfa.off; simp only [maxNum] at h2; omega)
          generalize s.last[k].err = ek at *
          generalize s.last[k].off = ok at *
          generalize s.last[k].time = tz at *
          subst htk
          have HRW := Lib.hid hrw
          have HBR6 := Lib.hid hbr
          have hb6 : Below wr.heap.size wr (wr.alloc (.cells #[.int .i64 (tk : Int), .int .i64 ek, .int .i64 ok] 63)) := (Below.refl _ _).alloc (Nat.le_refl _) _
          have hk7 : Blk (wr.alloc (.cells #[.int .i64 (tk : Int), .int .i64 ek, .int .i64 ok] 63)) wr.heap.size 63 #[.int .i64 (tk : Int), .int .i64 ek, .int .i64 ok] := Blk.new _ _ _
          clear hrw hbr hfa HFA
          go_wp2_with fail
          clear hix
          generalize wr.alloc (.cells #[.int .i64 (tk : Int), .int .i64 ek, .int .i64 ok] 63) = W7 at hb6 hk7 ⊢
          have hsz7 := hb6.size
          have hrw7 := own_below HRW.out hb6
          have HB7 := Lib.hid (HBR6.out.trans (hb6.mono hsz6))
          refine (pnum_any w.heap.size _ tk bk W7 hrw7 (by omega) (by have := HBK.out; omega) htk2).mono ?_
          rintro e w8 ⟨v8, rfl, ho8, hg8, hv8⟩
          obtain ⟨A8, c8, rfl⟩ := own_shape ho8
          have q8 := hk7.grown hg8 (fun e => own_far hrw7 hk7 (by decide) e.symm)
          have l1 : w8.cell? ⟨wr.heap.size, 1, none⟩ = some (.int .i64 ek) := q8.cell 1
          have l2 : w8.cell? ⟨wr.heap.size, 2, none⟩ = some (.int .i64 ok) := q8.cell 2
          have hb8 : Below w.heap.size W7 w8 := (Ch.of_grown (S := fun q => w.heap.size ≤ q) hg8 (fun q hq _ => (hrw7.lt q hq).1)).below (fun k hk h => by omega) (by omega)
          have HB8 := Lib.hid (HB7.out.trans hb8)
          have hsz8 := hb8.size
          have HO8 := Lib.hid ho8
          have HE8 : Hid ((bk ++ Cm.enc tk).length ≤ 60010) := Lib.hid (by have := HBK.out; have := (Cm.enc_len tk).1; simp only [List.length_append]; omega)
          generalize bk ++ Cm.enc tk = b8 at *
          clear hk7 hrw7 hg8 hv8 q8 hb8 ho8 hb6
          go_wp2_with fail
          refine (putres_any (fun _ => False) (.slice none 0 0) 0 [] ek ok w8 (none_sl w8) (by simp) HE63.out.1 HE63.out.2).mono ?_
          rintro e w9 ⟨v9, rfl, ho9, hb9⟩
          simp only [List.nil_append] at ho9
          obtain ⟨A9, c9, rfl⟩ := own_shape ho9
          have HO9 := Lib.hid ho9
          have HB9 := Lib.hid hb9
          have hsz9 := hb9.size
          obtain ⟨i0, hi0, hz0, hz1, hz2⟩ := info_parts Cb.info_u8
          clear ho9 hb9 l1 l2
          go_wp2_with (at_builtin; refine wpList_append_sl _ rfl (.tmp 49) (.tmp 52) _ rfl w.heap.size 5 i0 _ 1 1 Tryz.underlying49 hi0 hz0 hz1 hz2 rfl (by omega) _ b8.length (BVs b8) rfl (own_below HO8.out HB9.out) (fun _ => False) _ (resB ek ok).length (BVs (resB ek ok)) rfl (Sl.of_own HO9.out (fun _ _ _ h => h)) (BVs_one _) (by have := HBK.out; have := HE8.out; simp only [maxLen]; omega) (by have := HBK.out; have := HE8.out; omega) (by omega) ?_; intro v5 w5 happ; have HAP := Lib.hid happ; clear happ)
          have h5 := HAP.out.1
          have h6 := HAP.out.2.1
          rw [← BVs_app, ← List.length_append, HRS.out] at h5
          have HH5 := Lib.hid h5
          have HB5 := Lib.hid ((HB8.out.trans (HB9.out.mono (by omega))).trans ((Ch.of_grown (S := fun q => w.heap.size ≤ q) h6 (fun q hq _ => (HO8.out.lt q hq).1)).below (B := w.heap.size) (fun k hk h => by omega) (by omega)))
          clear h5 h6 HAP
          go_roundw
          case rel => exact ⟨k + 1, by omega, by go_num, HH5.out, HB5.out⟩
          case measure => simp [intOf]; omega
        · have hltI : (8 : Int) ≤ (k : Int) := by omega
          have hke : k = s.last.length := by omega
          subst hke
          rw [List.take_length, HSTB.out] at hrw ⊢
          have HO6 := Lib.hid hrw
          have HB6 := Lib.hid hbr
          clear hrw hbr
          go_wp2_with fail
          go_ret
          exact ⟨_, rfl, HO6.out, HB6.out⟩
end Go.Proofs.YtkoedonllfmaaaaGreat.Bu
