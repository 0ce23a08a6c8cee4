/-
  Contract of the program's topics: Bytes.
-/
import Derived.Test.YtobphijbhghgmaaGreatO13
import Derived.Test.YtobphijbhghgmaaGreatO05
import Derived.Deep.MidRow
import Derived.Test.YtobphijbhghgmaaGreatO11
import Derived.Test.YtobphijbhghgmaaGreatO06
import Derived.Test.YtobphijbhghgmaaGreatO12
import Derived.Outline
import Derived.Test.YtobphijbhghgmaaGreatO09
namespace Go.Proofs.YtobphijbhghgmaaGreat.Bu
set_option linter.unusedSimpArgs false
open Go Go.RowKit Go.Shelf Ck Kw Pk Cb Ga Kf Km Pm Pz Po Tm Tn Tq Kx Aa Ab Ac Ad Kr Bp Bq Br Bt
attribute [local go_sem ↓] Go.wp_at_zero Go.wp_at_succ
set_option linter.unusedVariables false

/-- The map's look-up, one result. -/
theorem look1 {w : World} {S R : Nat → Prop} {p m : Nat} {s : St} {D : DataW Unit} {G : Tx → Nat} {V : Tx → Value} {M : Tx → Nat} {F : Tx → Nat → Prop} (h : TP w S R p m s D G V M F) (t : Tp) (ht : t ∈ s.L) (hx : t.n.length ≤ 140737488355328) :
    (Instr.lookup 67 (.map (some m)) (.string ⟨t.n.toArray⟩) false).run Tryz.prog w = .ok (.pointer (some ⟨G t.n, 0, none⟩)) w := by
  obtain ⟨v, ps, hrun, hv⟩ := h.own.lookup law_str Tryz.underlying67 (zero_ptr w) (zd := .nil) (zp := []) ptrElem_nil (key_str t.n (by simp only [maxLen]; omega))
  rw [h.tells.2 t ht] at hv
  rw [hrun, ptrElem_at hv]
/-- Rows of two kinds lie in two blocks. -/
theorem rows_far {w : World} {B1 B2 n1 n2 s1 s2 : Nat} {e1 e2 : TypeId} {v1 v2 : Value} {l1 l2 : List Value} (h1 : w.ownsRow B1 e1 s1 v1 n1 l1) (h2 : w.ownsRow B2 e2 s2 v2 n2 l2) (hne : e1 ≠ e2) : ∀ q, v1.ownBlock = some q → v2.ownBlock ≠ some q := by
  intro q hq
  rcases h1.2 with ⟨rfl, _⟩ | ⟨g1, _, _, rfl, _, r1, _⟩
  · simp [Value.ownBlock] at hq
  · simp only [Value.ownBlock, Option.some.injEq] at hq
    subst hq
    exact own_far h2 (show Blk w g1 e1 _ from r1) (fun e => hne e.symm)
theorem tB_len {t : Tp} (h : FitT t) : (tB t).length ≤ 5500 := by
  have h1 := (Cm.enc_len t.base.toNat).1
  have h2 := (Cm.enc_len t.recs.length).1
  have h3 := (Cm.enc_len t.gs.length).1
  have h4 := Pz.encP_small t.recs h.each
  have h5 := h.few
  have h6 := h.groups
  have h7 := flat_le gpB 84 t.gs (fun x hx => by
    have hx' := h.g x hx
    have h2 := (Cm.enc_len x.n.length).1
    have h3 := (Cm.enc_len x.pos.toNat).1
    have h4 := hx'.n
    simp only [gpB, List.length_append, Cm.encB_len]
    omega)
  unfold tB Cm.encL
  simp only [List.length_append]
  omega
theorem idx_last (l : List An) (h8 : l.length = 8) (k : Nat) (hk : k < l.length) (W : World) : (Instr.index 72 (.agg (ACs l).toArray) (.int .i64 (k : Int))).run Tryz.prog W = .ok (.agg #[.int .i64 l[k].time, .int .i64 l[k].err, .int .i64 l[k].off]) W := by
  match l, h8 with
  | [a0, a1, a2, a3, a4, a5, a6, a7], _ =>
    match k, hk with
    | 0, _ => (show _ = _; kernel_rfl)
    | 1, _ => (show _ = _; kernel_rfl)
    | 2, _ => (show _ = _; kernel_rfl)
    | 3, _ => (show _ = _; kernel_rfl)
    | 4, _ => (show _ = _; kernel_rfl)
    | 5, _ => (show _ = _; kernel_rfl)
    | 6, _ => (show _ = _; kernel_rfl)
    | 7, _ => (show _ = _; kernel_rfl)
theorem anB_len {a : An} (h : FitA a) : (anB a).length ≤ 30 := by
  have h1 := (Cm.enc_len a.time.toNat).1
  have h2 := (Cm.enc_len a.err.toNat).1
  have h3 := (Cm.enc_len a.off.toNat).1
  unfold anB
  simp only [List.length_append]
  omega
theorem res_eq {a : An} (h : FitA a) : Cm.enc a.time.toNat ++ resB a.err a.off = anB a := by
  unfold anB resB
  rw [show max a.err 0 = a.err by have := h.err; omega, show max a.off 0 = a.off by have := h.off; omega]
theorem tpB_eq (t : Tp) : tpB t = Cm.encB t.n ++ tB t := rfl

set_option maxRecDepth 100000 in
set_option maxHeartbeats 4000000 in
theorem bytes_all (w : World) (S R : Nat → Prop) (p : Nat) (s : St) (h : Tz w S R p s) (hS : ∀ k, S k → k < w.heap.size) :
    Calls Tryz.prog 85 #[.pointer (some ⟨p, 0, none⟩)] w fun e w' => Made w 5 (stB s) e w' := by
  have HM := Lib.hid (made_on w S R p s h)
  have HZ := Lib.hid h
  obtain ⟨m, D, G, V, M, F, hP⟩ := h
  have HSL := Lib.hid hS
  have hgood := hP.good
  have HG := Lib.hid hgood
  have c0 := hP.cell0
  have hle := hP.own.len Tryz.underlying67 3
  rw [hP.size] at hle
  have hfew := hgood.L.few
  have HP := Lib.hid hP
  have HP0 := Lib.hid (pnum_any w.heap.size (.slice none 0 0) s.L.length [] w (World.ownsRow_nil _ _ _ _) (Nat.le_refl _) (by simp) (by omega))
  clear hP hgood hS
  go_enter Tryz.func85, Tryz.ntmps85
  go_wp2_with fail
  refine HM.out.mono ?_
  rintro e w1 ⟨rfl, rfl⟩
  go_wp2_with fail
  refine HP0.out.mono ?_
  rintro e w1 ⟨v1, rfl, ho1, hg1, -⟩
  obtain ⟨A1, c1, rfl⟩ := own_shape ho1
  have hb1 : Below w.heap.size w w1 := (Ch.of_grown (S := fun _ => False) hg1 (fun q hq _ => by simp [Value.ownBlock] at hq)).below (fun _ _ h => h) (Nat.le_refl _)
  simp only [List.nil_append] at ho1 ⊢
  have HO1 := Lib.hid ho1
  have HB1 := Lib.hid hb1
  have hw1 := hb1.size
  clear ho1 hb1 hg1 c0 hle
  go_wp2_with fail
  refine (names_on w1 S R p s (HZ.out.later HB1.out)).mono ?_
  rintro e w2 ⟨An, cn, rfl, hon, hb2⟩
  simp only [List.length_map] at hon ⊢
  have hw2 := hb2.size
  have HB2 := Lib.hid (HB1.out.trans (hb2.mono hw1))
  have ho2 := own_below HO1.out hb2
  have hfar0 := fun q hq h => Nat.lt_irrefl q (Nat.lt_of_lt_of_le (HO1.out.lt q hq).2 (hon.lt q h).1)
  have HXW : Hid (∀ q, (Value.slice An s.L.length cn).ownBlock = some q → q < w2.heap.size ∧ w.heap.size ≤ q) := Lib.hid (fun q hq => ⟨(hon.lt q hq).2, Nat.le_trans hw1 (hon.lt q hq).1⟩)
  have HON := Lib.hid hon
  have HO2 := Lib.hid ho2
  have HF2 := Lib.hid hfar0
  clear hon hb2 ho2 hfar0
  go_wp2_with fail
  go_loopw [3, 20] (fun v i wr => ∃ k : Nat, k ≤ s.L.length ∧ i = .int .i64 (k : Int) ∧ wr.ownsRow w.heap.size 5 1 v (Cm.enc s.L.length ++ (s.L.take k).flatMap tpB).length (BVs (Cm.enc s.L.length ++ (s.L.take k).flatMap tpB)) ∧ Ch (fun q => w.heap.size ≤ q ∧ (Value.slice An s.L.length cn).ownBlock ≠ some q) w2 wr) (fun _ i _ => s.L.length - (intOf i).toNat)
  case atStart =>
    refine ⟨0, Nat.zero_le _, rfl, ?_, Ch.refl _ _⟩
    have := HO2.out
    simpa using this
  case round =>
    obtain ⟨k, hk, rfl, hrw, hcr⟩ := hrel
    obtain ⟨A3, c3, rfl⟩ := own_shape hrw
    have HCR := Lib.hid hcr
    have hwr := hcr.size
    have HBR := Lib.hid (HB2.out.trans (hcr.below (B := w.heap.size) (fun k hk h => by omega) (by omega)))
    by_cases hlt : k < s.L.length
    · have hltI : (k : Int) < (s.L.length : Int) := by omega
      have honr := own_ch HON.out hcr (fun q hq h => h.2 hq)
      obtain ⟨gn, hA, hcell⟩ : ∃ gn, An = some ⟨gn, 0, none⟩ ∧ wr.cell? ⟨gn, k, none⟩ = some (.string ⟨s.L[k].n.toArray⟩) := by
        obtain ⟨g', c', hv, hb, hlt'⟩ := honr.form (by omega)
        obtain ⟨rfl, _, rfl⟩ := Value.slice.inj hv
        exact ⟨g', rfl, by rw [honr.cellAt k (by omega)]; simp [hlt]⟩
      subst hA
      have hmem := List.getElem_mem hlt
      have HMEM := Lib.hid hmem
      have hft := HG.out.L.fit _ hmem
      have hnl := hft.n
      have htl := tB_len hft
      have HGP : Hid (Cm.enc s.L.length ++ (s.L.take k).flatMap tpB ++ Cm.encB s.L[k].n ++ tB s.L[k] = Cm.enc s.L.length ++ (s.L.take (k + 1)).flatMap tpB) := Lib.hid (by
        rw [List.take_succ_eq_append_getElem hlt, List.flatMap_append]
        simp [tpB_eq, List.append_assoc])
      have HBK : Hid ((Cm.enc s.L.length ++ (s.L.take k).flatMap tpB).length ≤ 50000) := Lib.hid (by
        have h1 := flat_le tpB 5600 (s.L.take k) (fun x hx => by
          have hx' := HG.out.L.fit x (List.mem_of_mem_take hx)
          have h2 := (Cm.enc_len x.n.length).1
          have h3 := tB_len hx'
          have h4 := hx'.n
          simp only [tpB_eq, List.length_append, Cm.encB_len]
          omega)
        have h5 : (s.L.take k).length ≤ s.L.length := by rw [List.length_take]; omega
        have h6 := (Cm.enc_len s.L.length).1
        simp only [List.length_append]
        omega)
      generalize Cm.enc s.L.length ++ (s.L.take k).flatMap tpB = bk at *
      have hcv := conv_bytes s.L[k].n
      have HO5 := Lib.hid (bytesWorld_out wr s.L[k].n (by omega))
      have HB5 := Lib.hid (bytesWorld_below wr 5 ⟨s.L[k].n.toArray⟩)
      have HRW := Lib.hid hrw
      have HONR := Lib.hid honr
      clear hrw honr hcr hmem hft
      go_wp2_with fail
      have HP3 := Lib.hid (pbytes_any w.heap.size _ (.slice A3 bk.length c3) _ _ bk s.L[k].n (Lib.bytesWorld wr 5 ⟨s.L[k].n.toArray⟩) (own_below HRW.out HB5.out) (Nat.le_trans (by omega) HB5.out.size) (HO5.out.sl (X := fun _ => False) (fun _ _ _ h => h)) (by have := HBK.out; omega) (by have := HBK.out; omega))
      refine HP3.out.mono ?_
      rintro e w3 ⟨v3, rfl, ho3, hg3, hv3⟩
      obtain ⟨A4, c4, rfl⟩ := own_shape ho3
      have hc3 : Ch (fun q => w.heap.size ≤ q ∧ (Value.slice (some ⟨gn, 0, none⟩) s.L.length cn).ownBlock ≠ some q) wr w3 := (Ch.of_below HB5.out (Nat.le_refl _)).trans (Ch.of_grown (S := fun q => w.heap.size ≤ q ∧ (Value.slice (some ⟨gn, 0, none⟩) s.L.length cn).ownBlock ≠ some q) hg3 (fun q hq _ => ⟨(HRW.out.lt q hq).1, fun e => rows_far HRW.out HONR.out (by decide) q hq e⟩)) (fun _ _ h => h)
      have hb3 : Below w.heap.size w w3 := HBR.out.trans (hc3.below (B := w.heap.size) (fun k hk h => by omega) (by omega))
      have hw3 := hc3.size
      have hP3 := HP.out.later hb3
      have c0 : w3.cell? ⟨p, 0, none⟩ = some (.map (some m)) := hP3.cell0
      have hlk := look1 hP3 s.L[k] HMEM.out (by omega)
      have HBY := Lib.hid (bytes_on w3 (F s.L[k].n) R (G s.L[k].n) s.L[k] (V s.L[k].n) (M s.L[k].n) (hP3.top _ HMEM.out) (HG.out.L.fit _ HMEM.out) (List.pairwise_map.2 ((okT_iff _).1 (HG.out.L.ok _ HMEM.out)).2.2.2) (fun q hq => (hP3.sub _ HMEM.out q hq).2.2.2) (fun q hq => (hP3.rs q hq).2))
      have HO3 := Lib.hid ho3
      have HC3 := Lib.hid hc3
      have HB8 : Hid ((bk ++ Cm.encB s.L[k].n).length ≤ 50100) := Lib.hid (by have := HBK.out; have := (Cm.enc_len s.L[k].n.length).1; simp only [List.length_append, Cm.encB_len]; omega)
      generalize hb8 : bk ++ Cm.encB s.L[k].n = b8 at *
      have HTL := Lib.hid htl
      clear ho3 hc3 hg3 hv3 hb3 hP3 hcell hcv hb8 htl
      go_wp2_with fail
      refine HBY.out.mono ?_
      rintro e w4 ⟨v4, rfl, ho4, hb4⟩
      obtain ⟨A5, c5, rfl⟩ := own_shape ho4
      have HO4 := Lib.hid ho4
      have HB4 := Lib.hid hb4
      have hw4 := hb4.size
      obtain ⟨i0, hi0, hz0, hz1, hz2⟩ := info_parts Cb.info_u8
      clear ho4 hb4 c0 hlk
      go_wp2_with (at_builtin; refine wpList_append_sl _ rfl (.tmp 28) (.tmp 35) _ rfl w.heap.size 5 i0 _ 1 1 Tryz.underlying25 hi0 hz0 hz1 hz2 rfl (by omega) _ b8.length (BVs b8) rfl (own_below HO3.out HB4.out) (fun _ => False) _ (tB s.L[k]).length (BVs (tB s.L[k])) rfl (Sl.of_own HO4.out (fun _ _ _ h => h)) (BVs_one _) (by have := HB8.out; have := HTL.out; simp only [maxLen]; omega) (by have := HB8.out; have := HTL.out; omega) (by omega) ?_; intro v5 w5 happ; have HAP := Lib.hid happ; clear happ)
      have h5 := HAP.out.1
      have h6 := HAP.out.2.1
      have hc5 : Ch (fun q => w.heap.size ≤ q ∧ (Value.slice (some ⟨gn, 0, none⟩) s.L.length cn).ownBlock ≠ some q) w3 w5 := (Ch.of_below HB4.out (Nat.le_refl _)).trans (Ch.of_grown (S := fun q => w.heap.size ≤ q ∧ (Value.slice (some ⟨gn, 0, none⟩) s.L.length cn).ownBlock ≠ some q) h6 (fun q hq _ => ⟨(HO3.out.lt q hq).1, fun e => rows_far HO3.out (own_ch (own_ch HON.out HCR.out (fun q hq h => h.2 hq)) HC3.out (fun q hq h => h.2 hq)) (by decide) q hq e⟩)) (fun _ _ h => h)
      rw [← BVs_app, ← List.length_append, HGP.out] at h5
      have HH5 := Lib.hid h5
      have HC5 := Lib.hid ((HCR.out.trans HC3.out (fun _ _ h => h)).trans hc5 (fun _ _ h => h))
      clear h5 h6 hc5 HAP
      go_roundw
      case rel => exact ⟨k + 1, by omega, by go_num, HH5.out, HC5.out⟩
      case measure => simp [intOf]; omega
    · have hke : k = s.L.length := by omega
      subst hke
      rw [List.take_length] at hrw ⊢
      have hP3 := HP.out.later HBR.out
      have HO3 := Lib.hid hrw
      have HRG : Hid (wr.rangeAt p 1 (ACs s.last)) := Lib.hid (fun j v hv => by
        rw [hP3.blk.cell (1 + j), List.getElem?_toArray, show 1 + j = j + 1 from by omega, List.getElem?_cons_succ]
        exact hv)
      have HSZ : Hid ((Tryz.prog.info? 72).map (·.size) = some (ACs s.last).length) := Lib.hid (by
        rw [show (ACs s.last).length = 24 by rw [ACs, flat_len AC_len, HG.out.eight]]
        kernel_rfl)
      have HBLS : Hid ((Cm.enc s.L.length ++ s.L.flatMap tpB).length ≤ 50000) := Lib.hid (by
        have h1 := flat_le tpB 5600 s.L (fun x hx => by
          have hx' := HG.out.L.fit x hx
          have h2 := (Cm.enc_len x.n.length).1
          have h3 := tB_len hx'
          have h4 := hx'.n
          simp only [tpB_eq, List.length_append, Cm.encB_len]
          omega)
        have h6 := (Cm.enc_len s.L.length).1
        simp only [List.length_append]
        omega)
      have HSTB : Hid (Cm.enc s.L.length ++ s.L.flatMap tpB ++ s.last.flatMap anB = stB s) := Lib.hid (by unfold stB; rw [List.append_assoc])
      clear hrw hcr hP3
      generalize Cm.enc s.L.length ++ s.L.flatMap tpB = bL at *
      have h8 := HG.out.eight
      go_wp2_with (refine wpList_load_mid rfl 72 (.tmp 40) rfl p 1 rfl (ACs s.last) _ HRG.out Tryz.underlying72 rfl HSZ.out ?_)
      go_loopw [3, 42] (fun v i W => ∃ k : Nat, k ≤ 8 ∧ i = .int .i64 (k : Int) ∧ W.ownsRow w.heap.size 5 1 v (bL ++ (s.last.take k).flatMap anB).length (BVs (bL ++ (s.last.take k).flatMap anB)) ∧ Below w.heap.size w W) (fun _ i _ => 8 - (intOf i).toNat)
      case atStart =>
        refine ⟨0, Nat.zero_le _, rfl, ?_, HBR.out⟩
        have := HO3.out
        simpa using this
      case round =>
        obtain ⟨k, hk, rfl, hrw, hbr⟩ := hrel
        obtain ⟨A6, c6, rfl⟩ := own_shape hrw
        have hsz6 := hbr.size
        by_cases hlt : k < 8
        · have hltI : (k : Int) < 8 := by omega
          have hkl : k < s.last.length := by omega
          have hix := idx_last s.last h8 k hkl
          have HFA := Lib.hid (HG.out.a _ (List.getElem_mem hkl)).1
          have hfa := HFA.out
          obtain ⟨tk, htk⟩ : ∃ n : Nat, s.last[k].time = (n : Int) := ⟨s.last[k].time.toNat, by have := hfa.time; omega⟩
          have htk2 : tk < 9223372036854775808 := by have := hfa.time; simp only [maxNum] at this; omega
          have HRS : Hid (bL ++ (s.last.take k).flatMap anB ++ Cm.enc tk ++ resB s.last[k].err s.last[k].off = bL ++ (s.last.take (k + 1)).flatMap anB) := Lib.hid (by
            have h := res_eq hfa
            rw [htk, Int.toNat_natCast] at h
            rw [List.take_succ_eq_append_getElem hkl, List.flatMap_append, List.flatMap_cons, List.flatMap_nil, List.append_nil, ← h]
            simp only [List.append_assoc])
          have HBK : Hid ((bL ++ (s.last.take k).flatMap anB).length ≤ 60000 ∧ (resB s.last[k].err s.last[k].off).length ≤ 30) := Lib.hid (by
            have h1 := flat_le anB 30 (s.last.take k) (fun x hx => anB_len (HG.out.a x (List.mem_of_mem_take hx)).1)
            have h5 : (s.last.take k).length ≤ 8 := by rw [List.length_take]; omega
            have h6 := HBLS.out
            have h7 := (Cm.enc_len (max s.last[k].err 0).toNat).1
            have h8 := (Cm.enc_len (max s.last[k].off 0).toNat).1
            simp only [List.length_append, resB]
            omega)
          generalize bL ++ (s.last.take k).flatMap anB = bk at *
          have HE63 : Hid (s.last[k].err ≤ 9223372036854775807 ∧ s.last[k].off ≤ 9223372036854775807) := Lib.hid (by have h1 := hfa.err; have h2 := hfa.off; simp only [maxNum] at h2; omega)
          generalize s.last[k].err = ek at *
          generalize s.last[k].off = ok at *
          generalize s.last[k].time = tz at *
          subst htk
          have HRW := Lib.hid hrw
          have HBR6 := Lib.hid hbr
          have hb6 : Below wr.heap.size wr (wr.alloc (.cells #[.int .i64 (tk : Int), .int .i64 ek, .int .i64 ok] 71)) := (Below.refl _ _).alloc (Nat.le_refl _) _
          have hk7 : Blk (wr.alloc (.cells #[.int .i64 (tk : Int), .int .i64 ek, .int .i64 ok] 71)) wr.heap.size 71 #[.int .i64 (tk : Int), .int .i64 ek, .int .i64 ok] := Blk.new _ _ _
          clear hrw hbr hfa HFA
          go_wp2_with fail
          clear hix
          generalize wr.alloc (.cells #[.int .i64 (tk : Int), .int .i64 ek, .int .i64 ok] 71) = W7 at hb6 hk7 ⊢
          have hsz7 := hb6.size
          have hrw7 := own_below HRW.out hb6
          have HB7 := Lib.hid (HBR6.out.trans (hb6.mono hsz6))
          refine (pnum_any w.heap.size _ tk bk W7 hrw7 (by omega) (by have := HBK.out; omega) htk2).mono ?_
          rintro e w8 ⟨v8, rfl, ho8, hg8, hv8⟩
          obtain ⟨A8, c8, rfl⟩ := own_shape ho8
          have q8 := hk7.grown hg8 (fun e => own_far hrw7 hk7 (by decide) e.symm)
          have l1 : w8.cell? ⟨wr.heap.size, 1, none⟩ = some (.int .i64 ek) := q8.cell 1
          have l2 : w8.cell? ⟨wr.heap.size, 2, none⟩ = some (.int .i64 ok) := q8.cell 2
          have hb8 : Below w.heap.size W7 w8 := (Ch.of_grown (S := fun q => w.heap.size ≤ q) hg8 (fun q hq _ => (hrw7.lt q hq).1)).below (fun k hk h => by omega) (by omega)
          have HB8 := Lib.hid (HB7.out.trans hb8)
          have hsz8 := hb8.size
          have HO8 := Lib.hid ho8
          have HE8 : Hid ((bk ++ Cm.enc tk).length ≤ 60010) := Lib.hid (by have := HBK.out; have := (Cm.enc_len tk).1; simp only [List.length_append]; omega)
          generalize bk ++ Cm.enc tk = b8 at *
          clear hk7 hrw7 hg8 hv8 q8 hb8 ho8 hb6
          go_wp2_with fail
          refine (putres_any (fun _ => False) (.slice none 0 0) 0 [] ek ok w8 (none_sl w8) (by simp) HE63.out.1 HE63.out.2).mono ?_
          rintro e w9 ⟨v9, rfl, ho9, hb9⟩
          simp only [List.nil_append] at ho9
          obtain ⟨A9, c9, rfl⟩ := own_shape ho9
          have HO9 := Lib.hid ho9
          have HB9 := Lib.hid hb9
          have hsz9 := hb9.size
          obtain ⟨i0, hi0, hz0, hz1, hz2⟩ := info_parts Cb.info_u8
          clear ho9 hb9 l1 l2
          go_wp2_with (at_builtin; refine wpList_append_sl _ rfl (.tmp 49) (.tmp 52) _ rfl w.heap.size 5 i0 _ 1 1 Tryz.underlying25 hi0 hz0 hz1 hz2 rfl (by omega) _ b8.length (BVs b8) rfl (own_below HO8.out HB9.out) (fun _ => False) _ (resB ek ok).length (BVs (resB ek ok)) rfl (Sl.of_own HO9.out (fun _ _ _ h => h)) (BVs_one _) (by have := HBK.out; have := HE8.out; simp only [maxLen]; omega) (by have := HBK.out; have := HE8.out; omega) (by omega) ?_; intro v5 w5 happ; have HAP := Lib.hid happ; clear happ)
          have h5 := HAP.out.1
          have h6 := HAP.out.2.1
          rw [← BVs_app, ← List.length_append, HRS.out] at h5
          have HH5 := Lib.hid h5
          have HB5 := Lib.hid ((HB8.out.trans (HB9.out.mono (by omega))).trans ((Ch.of_grown (S := fun q => w.heap.size ≤ q) h6 (fun q hq _ => (HO8.out.lt q hq).1)).below (B := w.heap.size) (fun k hk h => by omega) (by omega)))
          clear h5 h6 HAP
          go_roundw
          case rel => exact ⟨k + 1, by omega, by go_num, HH5.out, HB5.out⟩
          case measure => simp [intOf]; omega
        · have hltI : (8 : Int) ≤ (k : Int) := by omega
          have hke : k = s.last.length := by omega
          subst hke
          rw [List.take_length, HSTB.out] at hrw ⊢
          have HO6 := Lib.hid hrw
          have HB6 := Lib.hid hbr
          clear hrw hbr
          go_wp2_with fail
          go_ret
          exact ⟨_, rfl, HO6.out, HB6.out⟩
end Go.Proofs.YtobphijbhghgmaaGreat.Bu

/-
  Layer 8 (request): the contracts of Valid and of bullalaw08.begun.
-/
namespace Go.Proofs.YtobphijbhghgmaaGreat.Jh
set_option linter.unusedSimpArgs false
open Go Go.RowKit Ck Kw Ga Kf Pm Pe Pg Pk Py Qb Ik Lk Jm Ja Jb Jc Jd Jf Jg
open Im (num isIn add sum)
attribute [local go_sem ↓] Go.wp_at_zero Go.wp_at_succ
set_option linter.unusedVariables false
set_option maxRecDepth 100000

/-- The request that begun asks about. -/
def q0 : Q := ⟨2, 7, ⟨1, [116], [], 0, []⟩⟩
end Go.Proofs.YtobphijbhghgmaaGreat.Jh

/-
  Layer 8 (request): lists of requests in memory, opened; the contract of Digest.
-/
namespace Go.Proofs.YtobphijbhghgmaaGreat.Jl
set_option linter.unusedSimpArgs false
open Go Go.RowKit Go.ChangeShapes Go.WideShapes Go.ChangeAt Go.Deep Ck Kf Kw Ga Kp Pm Pe Pk Py Qb Ik Lk Jm Ja Jb Jc Jd Je Jf Jg Jh Jn Jo
open Im (num isIn add sum)
attribute [local go_sem ↓] Go.wp_at_zero Go.wp_at_succ
set_option linter.unusedVariables false
set_option maxRecDepth 100000

theorem QC_len (p : Q × (Option Addr × Nat)) : ((QC p.1 p.2.1 p.2.2).toList).length = 7 := rfl
def flatQ (l : List Q) (rs : List (Option Addr × Nat)) : List Value := (l.zip rs).flatMap fun p => (QC p.1 p.2.1 p.2.2).toList
theorem zipQ_len {l : List Q} {rs : List (Option Addr × Nat)} (h : rs.length = l.length) : (l.zip rs).length = l.length := by rw [List.length_zip]; omega
/-- The value v is the requests l; all of it lies in no block of X. -/
def RI (w : World) (X : Nat → Prop) (v : Value) (l : List Q) : Prop :=
  ∃ rs, rs.length = l.length ∧ Sl w X 7 v l.length (flatQ l rs) ∧ ∀ i (h : i < l.length), ∃ r, rs[i]? = some r ∧ Ls w X (.slice r.1 l[i].o.recs.length r.2) l[i].o.recs
section
variable {w w' : World} {X Y S : Nat → Prop} {v : Value} {l : List Q}
theorem RI.after (h : RI w X v l) (hb : Below w.heap.size w w') : RI w' X v l := by
  obtain ⟨rs, h1, h2, h3⟩ := h
  exact ⟨rs, h1, h2.after hb, fun i hi => by obtain ⟨r, h4, h5⟩ := h3 i hi; exact ⟨r, h4, h5.after hb⟩⟩
theorem RI.ch (h : RI w X v l) (c : Ch S w w') (hd : ∀ k, k < w.heap.size → S k → X k) : RI w' X v l := by
  obtain ⟨rs, h1, h2, h3⟩ := h
  exact ⟨rs, h1, h2.ch c hd, fun i hi => by obtain ⟨r, h4, h5⟩ := h3 i hi; exact ⟨r, h4, h5.ch c hd⟩⟩
theorem RI.shape (h : RI w X v l) : ∃ A c, v = .slice A l.length c ∧ l.length ≤ c := by
  obtain ⟨rs, h1, ⟨A, c, rfl, _, hc, _⟩, h3⟩ := h
  exact ⟨A, c, rfl, hc⟩
def At7 (w : World) (ad : Addr) (q : Q) (Ar : Option Addr) (cr : Nat) : Prop :=
  w.cell? ad = some (.int .i64 q.client) ∧ w.cell? ⟨ad.block, ad.off + 1, none⟩ = some (.int .i64 q.time) ∧ w.cell? ⟨ad.block, ad.off + 2, none⟩ = some (.int .i64 q.o.kind) ∧ w.cell? ⟨ad.block, ad.off + 3, none⟩ = some (.string ⟨q.o.topic.toArray⟩)
    ∧ w.cell? ⟨ad.block, ad.off + 4, none⟩ = some (.string ⟨q.o.group.toArray⟩) ∧ w.cell? ⟨ad.block, ad.off + 5, none⟩ = some (.int .i64 q.o.off) ∧ w.cell? ⟨ad.block, ad.off + 6, none⟩ = some (.slice Ar q.o.recs.length cr)
theorem RI.at_ {A : Option Addr} {n c i : Nat} (h : RI w X (.slice A n c) l) (hi : i < l.length) :
    ∃ ad Ar cr, A = some ad ∧ At7 w (ad.add (i * 7)) l[i] Ar cr ∧ Ls w X (.slice Ar l[i].o.recs.length cr) l[i].o.recs := by
  obtain ⟨rs, h1, ⟨A', c', hv, hl, hc, hm, hx⟩, h3⟩ := h
  injection hv with e1 e2 e3
  subst e1
  obtain ⟨⟨Ar, cr⟩, h4, h5⟩ := h3 i hi
  obtain ⟨ad, hA, hb, hX, hcell⟩ := hx (by omega)
  refine ⟨ad, Ar, cr, hA, ?_, h5⟩
  have hz : i < (l.zip rs).length := by rw [zipQ_len h1]; exact hi
  have hr : i < rs.length := by omega
  have he : (l.zip rs)[i] = (l[i], (Ar, cr)) := by
    rw [List.getElem_zip]
    have : rs[i] = (Ar, cr) := by have := List.getElem?_eq_getElem hr; rw [this] at h4; exact Option.some.inj h4
    rw [this]
  have hg : ∀ j, j < 7 → (flatQ l rs)[i * 7 + j]? = ((QC l[i] Ar cr).toList)[j]? := fun j hj => by
    rw [flatQ, flat_get QC_len _ _ hz j hj, he]
  have hof : ∀ j u, j < 7 → ((QC l[i] Ar cr).toList)[j]? = some u → w.cell? ((ad.add (i * 7)).add j) = some u := fun j u hj hu => by
    rw [Ck.add_add]
    exact hcell _ _ (by rw [hg j hj]; exact hu)
  generalize ad.add (i * 7) = a at hof ⊢
  have ha : ∀ j, 0 < j → a.add j = ⟨a.block, a.off + j, none⟩ := fun j hj => by unfold Addr.add; rw [if_neg (by omega)]
  have h0 : a.add 0 = a := by unfold Addr.add; rw [if_pos rfl]
  refine ⟨?_, ?_, ?_, ?_, ?_, ?_, ?_⟩
  · have := hof 0 _ (by omega) rfl; rwa [h0] at this
  · have := hof 1 _ (by omega) rfl; rwa [ha _ (by omega)] at this
  · have := hof 2 _ (by omega) rfl; rwa [ha _ (by omega)] at this
  · have := hof 3 _ (by omega) rfl; rwa [ha _ (by omega)] at this
  · have := hof 4 _ (by omega) rfl; rwa [ha _ (by omega)] at this
  · have := hof 5 _ (by omega) rfl; rwa [ha _ (by omega)] at this
  · have := hof 6 _ (by omega) rfl; rwa [ha _ (by omega)] at this
end
section
variable {H : Type} {enc : TypeId × Value → H}
end

end Go.Proofs.YtobphijbhghgmaaGreat.Jl

/-
  Layer 9 (block): madeTable, madeTopics, Digest of a header, of topics, of a batch, over a table; the document's Check, Bytes and Digest.
-/
namespace Go.Proofs.YtobphijbhghgmaaGreat.Zc
set_option linter.unusedSimpArgs false
open Go Go.RowKit Ck Kw Ca Cb Cd Ga Kf Pm Pe Pk Qb Ik Jm Jb Jc Je Jn Ja Jd Ma Za Zb Zg
open Im (num isIn add sum)
attribute [local go_sem ↓] Go.wp_at_zero Go.wp_at_succ
set_option linter.unusedVariables false

theorem mtab_yes (w : World) (S : Nat → Prop) (p : Nat) (L : List Tx) (h : Tb w S p L) :
    Calls Tryz.prog 38 #[.pointer (some ⟨p, 0, none⟩)] w fun e w' => e = .returned (.bool true) ∧ Below w.heap.size w w' := by
  have HP := Lib.hid (Mf.prove_bad w S p L 0 none 0 0 (by omega) (by omega) h)
  clear h
  go_enter Tryz.func38, Tryz.ntmps38
  go_wp2_with fail
  refine HP.out.mono ?_
  rintro e w1 ⟨rfl, hb1⟩
  have HB1 := Lib.hid hb1
  clear hb1
  go_wp2_with fail
  go_ret
  exact ⟨rfl, HB1.out⟩

theorem hdigR_bad {L : List Tx} {h : H} (k : hcheck h ≠ 0) : hdigR L h = (0, hcheck h) ∧ hdigT L h = L := ⟨by rw [hdigR, if_pos k], by rw [hdigT, if_pos k]⟩
theorem hdigR_full {L : List Tx} {h : H} (k : hcheck h = 0) (z : sum L (hraw h) = 0) : hdigR L h = (0, 6) := by rw [hdigR, if_neg (by omega), if_pos z]
theorem hdigR_ok {L : List Tx} {h : H} (k : hcheck h = 0) (z : sum L (hraw h) ≠ 0) : hdigR L h = ((sum L (hraw h) : Int), 0) := by rw [hdigR, if_neg (by omega), if_neg z]
theorem hdigT_ok {L : List Tx} {h : H} (k : hcheck h = 0) : hdigT L h = add L (hraw h) := by rw [hdigT, if_neg (by omega)]
/-- What a call that asks a table leaves. -/
def Asks (S : Nat → Prop) (p : Nat) (r : Ending) (L' : List Tx) (w : World) (e : Ending) (w' : World) : Prop := e = r ∧ Tb w' (Up S w w') p L' ∧ Ch S w w'
theorem up_of {S : Nat → Prop} {w w1 w2 : World} (b : Below w.heap.size w w1) {k : Nat} (h : Up S w1 w2 k) : Up S w w2 k := by
  rcases h with h | h
  · exact .inl h
  · exact .inr ⟨Nat.le_trans b.size h.1, h.2⟩
theorem Asks.from {S : Nat → Prop} {p : Nat} {r e : Ending} {L' : List Tx} {w w1 w2 : World} (b : Below w.heap.size w w1) (h : Tb w2 (Up S w1 w2) p L') (c : Ch S w1 w2) (he : e = r) : Asks S p r L' w e w2 :=
  ⟨he, h.weaken (fun k hk => up_of b hk), (Ch.of_below (S := S) b (Nat.le_refl _)).trans c (fun _ _ h => h)⟩
theorem Asks.same {S : Nat → Prop} {p : Nat} {r e : Ending} {L : List Tx} {w w1 : World} (b : Below w.heap.size w w1) (h : Tb w S p L) (he : e = r) : Asks S p r L w e w1 :=
  ⟨he, (Tb.after h b).weaken (fun k hk => .inl hk), Ch.of_below (S := S) b (Nat.le_refl _)⟩
theorem Asks.later {S : Nat → Prop} {p : Nat} {r : Ending} {L' : List Tx} {w w1 w2 : World} (h : Asks S p r L' w r w1) (b : Below w1.heap.size w1 w2) {e : Ending} (he : e = r) : Asks S p r L' w e w2 :=
  ⟨he, (Tb.after h.2.1 b).weaken (fun k hk => by
    have hs := b.size
    rcases hk with hk | hk
    · exact .inl hk
    · exact .inr ⟨hk.1, by omega⟩), h.2.2.trans (Ch.of_below (S := S) b (Nat.le_refl _)) (fun _ _ h => h)⟩

set_option maxRecDepth 100000 in
set_option maxHeartbeats 4000000 in
theorem hdigest_any (w : World) (S : Nat → Prop) (p : Nat) (L : List Tx) (h : H) (k : Tb w S p L) :
    Calls Tryz.prog 12 #[.pointer (some ⟨p, 0, none⟩), HV h] w (Asks S p (.returned (.tuple #[.int .i64 (hdigR L h).1, .int .i64 (hdigR L h).2])) (hdigT L h) w) := by
  have hk : HB (w.alloc (.cells (HC h) 24)) w.heap.size h := Blk.new w _ _
  have HB0 := Lib.hid (op_below w (.cells (HC h) 24))
  have HM := Lib.hid (mtab_yes _ S p L (Tb.after k HB0.out))
  have HBY := fun W : World => Lib.hid (hbytes_any W h)
  have HT := Lib.hid k
  have HK := Lib.hid hk
  clear hk k
  unfold HByt at HBY
  by_cases hq : hcheck h = 0
  · have HQL := Lib.hid (hform_len h)
    have HRO := Lib.hid fun z => hdigR_ok (L := L) hq z
    have HRF := Lib.hid fun z => hdigR_full (L := L) hq z
    have HRT := Lib.hid (hdigT_ok (L := L) hq)
    have HFE := Lib.hid (hform_eq hq)
    rw [hq] at HBY
    clear hq
    unfold HV at *
    unfold HC at *
    go_enter Tryz.func12, Tryz.ntmps12
    go_wp2_with fail
    refine HM.out.mono ?_
    rintro e w1 ⟨rfl, hb1⟩
    have HB1 := Lib.hid (HB0.out.trans (hb1.mono HB0.out.size))
    have hk1 : HB w1 w.heap.size h := HB.below HK.out hb1
    obtain ⟨a0, a1, a2, a3, a4⟩ := hk1.cells
    clear hb1 hk1
    go_wp2_with fail
    refine (HBY _).out.mono ?_
    rintro e w2 ⟨v2, rfl, hs2, hb2⟩
    have HB2 := Lib.hid (HB1.out.trans (hb2.mono HB1.out.size))
    obtain ⟨A2, c2, rfl, -⟩ := id hs2
    have HS := Lib.hid (Ib.sum_yes w2 S _ p L A2 c2 (hform h) (Tb.after HT.out HB2.out) hs2 (by have := HQL.out; omega))
    unfold Ib.Summed at HS
    rw [HFE.out] at HS
    rw [HFE.out]
    clear hb2 hs2 a0 a1 a2 a3 a4
    go_wp2_with fail
    refine HS.out.mono ?_
    rintro e w3 ⟨rfl, ht3, hc3⟩
    have HA : Hid (∀ e r, e = r → Asks S p r (hdigT L h) w e w3) := Lib.hid fun e r he => by rw [HRT.out]; exact Asks.from HB2.out ht3 hc3 he
    clear ht3 hc3 HS
    by_cases hz : sum L (hraw h) = 0
    · have d0 : ((sum L (hraw h) : Int) == 0) = true := by rw [hz]; rfl
      have HR := Lib.hid (HRF.out hz)
      clear hz
      generalize (sum L (hraw h) : Int) = z at *
      go_wp2_with fail
      go_ret2
      exact HA.out _ _ (by rw [HR.out]; rfl)
    · have d0 : ((sum L (hraw h) : Int) == 0) = false := by rw [beq_eq_false_iff_ne]; omega
      have HR := Lib.hid (HRO.out hz)
      clear hz HRO HRF
      generalize (sum L (hraw h) : Int) = z at *
      go_wp2_with fail
      go_ret2
      exact HA.out _ _ (by rw [HR.out]; rfl)
  · have hd : (hcheck h != 0) = true := by simpa using hq
    have hd2 : (hcheck h == 0) = false := by simpa using hq
    have HR := Lib.hid (hdigR_bad (L := L) hq)
    clear hq
    generalize hcheck h = z at *
    unfold HV at *
    unfold HC at *
    go_enter Tryz.func12, Tryz.ntmps12
    go_wp2_with fail
    refine HM.out.mono ?_
    rintro e w1 ⟨rfl, hb1⟩
    have HB1 := Lib.hid (HB0.out.trans (hb1.mono HB0.out.size))
    have hk1 : HB w1 w.heap.size h := HB.below HK.out hb1
    obtain ⟨a0, a1, a2, a3, a4⟩ := hk1.cells
    clear hb1 hk1
    go_wp2_with fail
    refine (HBY _).out.mono ?_
    rintro e w2 ⟨v2, rfl, hs2, hb2⟩
    have HB2 := Lib.hid (HB1.out.trans (hb2.mono HB1.out.size))
    clear hb2 hs2 a0 a1 a2 a3 a4
    go_wp2_with fail
    go_ret2
    rw [HR.out.2]
    exact Asks.same HB2.out HT.out (by rw [HR.out.1]; rfl)

set_option maxRecDepth 100000 in
set_option maxHeartbeats 4000000 in
theorem bdigest_any (w : World) (S X : Nat → Prop) (p : Nat) (L : List (List UInt8)) (l : List Sd) (vl : Value) (h : Tb w S p L) (hb : BI w X vl l) (hr : ∀ x ∈ l, x.q.o.recs.length ≤ 140737488355328) (hl63 : l.length ≤ 140737488355328) :
    Calls Tryz.prog 69 #[.pointer (some ⟨p, 0, none⟩), vl] w (Asks S p (.returned (.tuple #[.int .i64 (digR L l).1, .int .i64 (digR L l).2])) (digT L l) w) := by
  obtain ⟨A, c, rfl, -⟩ := hb.shape
  have HC := Lib.hid (cbatch_any w X _ l hb hr hl63)
  have HT := Lib.hid h
  have HB := Lib.hid hb
  have HR := Lib.hid hr
  have HL := Lib.hid hl63
  clear h hb hr hl63
  by_cases hc : bcheck l = 0
  · rw [hc] at HC
    have HBL := Lib.hid (braw_len hc)
    have HBF := Lib.hid (bform_eq hc)
    have HDT := Lib.hid (digT_ok (L := L) hc)
    have HDO := Lib.hid fun h => digR_ok (L := L) hc h
    have HDF := Lib.hid fun h => digR_full (L := L) hc h
    clear hc
    go_enter Tryz.func69, Tryz.ntmps69
    go_wp2_with fail
    refine HC.out.mono ?_
    rintro e w1 ⟨rfl, hb1⟩
    have HB1 := Lib.hid hb1
    have HI1 := Lib.hid (HB.out.after hb1)
    have HM := Lib.hid (Jf.madet_any w1 S p L (Tb.after HT.out hb1))
    clear hb1
    go_wp2_with fail
    refine HM.out.mono ?_
    rintro e w2 ⟨rfl, hb2⟩
    have HB2 := Lib.hid (HB1.out.trans (hb2.mono HB1.out.size))
    have HP := Lib.hid (putbatch_any l _ X (fun _ => False) (.slice none 0 0) 0 [] w2 (HI1.out.after hb2) HR.out HL.out (Sl.nil _ _ _) (by simp))
    rw [HBF.out, List.nil_append] at HP
    clear hb2 HM
    go_wp2_with fail
    refine HP.out.mono ?_
    rintro e w3 ⟨v3, rfl, ho3, hb3⟩
    obtain ⟨A3, c3, rfl⟩ := own_shape ho3
    have HB3 := Lib.hid (HB2.out.trans (hb3.mono HB2.out.size))
    have HS := Lib.hid (Ib.sum_yes w3 S _ p L A3 c3 (braw l) (Tb.after HT.out HB3.out) (Sl.of_own (X := fun _ => False) ho3 (fun _ _ _ h => h)) (by have := HBL.out; omega))
    unfold Ib.Summed at HS
    clear ho3 hb3 HP
    go_wp2_with fail
    refine HS.out.mono ?_
    rintro e w4 ⟨rfl, ht4, hc4⟩
    have HA : Hid (∀ e r, e = r → Asks S p r (digT L l) w e w4) := Lib.hid fun e r he => by rw [HDT.out]; exact Asks.from HB3.out ht4 hc4 he
    clear ht4 hc4 HS
    by_cases h0 : sum L (braw l) = 0
    · have HD := Lib.hid (HDF.out h0)
      have hd : ((sum L (braw l) : Int) == 0) = true := by rw [h0]; rfl
      clear h0
      generalize (sum L (braw l) : Int) = z at *
      go_wp2_with fail
      go_ret2
      exact HA.out _ _ (by rw [HD.out]; rfl)
    · have HD := Lib.hid (HDO.out h0)
      have hd : ((sum L (braw l) : Int) == 0) = false := by rw [beq_eq_false_iff_ne]; omega
      clear h0 HDO HDF
      generalize (sum L (braw l) : Int) = z at *
      go_wp2_with fail
      go_ret2
      exact HA.out _ _ (by rw [HD.out]; rfl)
  · have hd : (bcheck l != 0) = true := by simpa using hc
    have hd2 : (bcheck l == 0) = false := by simpa using hc
    have HD := Lib.hid (And.intro (digR_bad (L := L) hc) (digT_bad (L := L) hc))
    clear hc
    go_enter Tryz.func69, Tryz.ntmps69
    go_wp2_with fail
    refine HC.out.mono ?_
    rintro e w1 ⟨rfl, hb1⟩
    have HB1 := Lib.hid hb1
    clear hb1
    go_wp2_with fail
    go_ret2
    rw [HD.out.2]
    exact Asks.same HB1.out HT.out (by rw [HD.out.1]; rfl)
end Go.Proofs.YtobphijbhghgmaaGreat.Zc

/-
  Layer 9 (block): a table beside topics, kept over a call's own blocks; the number of topics.
-/
namespace Go.Proofs.YtobphijbhghgmaaGreat.Zh
set_option linter.unusedSimpArgs false
open Go Go.RowKit Ck Kw Ga Kf Pm Pe Tm Tn Tq Ik Aa Ab Ai Aj Al An Ma Zt Zc Zg
open Im (num isIn add sum)
attribute [local go_sem ↓] Go.wp_at_zero Go.wp_at_succ
set_option linter.unusedVariables false

theorem Tb.tight {w : World} {S : Nat → Prop} {p : Nat} {L : List Tx} (h : Tb w S p L) : Tb w (fun k => S k ∧ k < w.heap.size) p L := by
  obtain ⟨m, tv, D, h1, h2, h3, h4, h5, h6, h7, h8⟩ := h
  exact ⟨m, tv, D, h1, h2, h3, h4, ⟨h5, h1.lt⟩, ⟨h6, h2.lt⟩, fun g hg => ⟨h7 g hg, (h4.lt g hg).2⟩, h8⟩
theorem TS.tb {w : World} {S : Nat → Prop} {p t : Nat} {L : List Tx} {s : St} (h : TS w S p t L s) : Tb w S p L := by
  obtain ⟨S1, S2, R, h1, h2, h3, h4, h5, h6⟩ := h
  exact h1.weaken (fun k hk => (h4 k hk).1)
theorem ts_new {w w1 : World} {S : Nat → Prop} {p t : Nat} {L : List Tx} {s : St} (h : Tb w S p L) (b : Below w.heap.size w w1) (hz : Tz w1 (New w w1) (fun _ => False) t s) : TS w1 (fun k => (S k ∧ k < w.heap.size) ∨ (w.heap.size ≤ k ∧ k < w1.heap.size)) p t L s :=
  ⟨_, _, _, Tb.after (Tb.tight h) b, hz, fun k hk => ⟨fun h => by have := hk.2; have := h.1; omega, fun h => h⟩, fun k hk => ⟨.inl hk, Nat.lt_of_lt_of_le hk.2 b.size⟩, fun k hk => ⟨.inr hk, hk.2⟩, fun k hk => hk.elim⟩
/-- A table and topics, kept over a call's own blocks N: w0 is the world in which the call began. -/
structure ST (w0 : World) (S N : Nat → Prop) (p t : Nat) (L : List Tx) (s : St) (W : World) : Prop where
  own : ∃ S', TS W S' p t L s ∧ (∀ k, S' k → ((S k ∧ k < w0.heap.size) ∨ w0.heap.size ≤ k) ∧ ¬ N k)
  ch : Ch (fun k => S k ∧ k < w0.heap.size) w0 W
  loc : ∀ k, N k → k < W.heap.size
/-- What a call may turn. -/
def Fr (w0 : World) (S N : Nat → Prop) (k : Nat) : Prop := ((S k ∧ k < w0.heap.size) ∨ w0.heap.size ≤ k) ∧ ¬ N k
section
variable {w0 W W' : World} {S N N' X : Nat → Prop} {p t : Nat} {L L' : List Tx} {s s' : St}
theorem ST.start (h : TS w0 S p t L s) (b : Below w0.heap.size w0 W) : ST w0 S (fun k => w0.heap.size ≤ k ∧ k < W.heap.size) p t L s W :=
  ⟨⟨_, h.tight.later b, fun k hk => ⟨.inl hk, fun h => by have := hk.2; omega⟩⟩, Ch.of_below b (Nat.le_refl _), fun k hk => hk.2⟩
theorem ST.later (h : ST w0 S N p t L s W) (b : Below W.heap.size W W') : ST w0 S N p t L s W' := by
  obtain ⟨⟨S', h1, h2⟩, h3, h4⟩ := h
  exact ⟨⟨S', h1.later b, h2⟩, h3.trans (Ch.of_below b (Nat.le_refl _)) (fun _ _ h => h), fun k hk => Nat.lt_of_lt_of_le (h4 k hk) b.size⟩
/-- New blocks are the call's own. -/
theorem ST.more (h : ST w0 S N p t L s W) (b : Below W.heap.size W W') : ST w0 S (fun k => N k ∨ (W.heap.size ≤ k ∧ k < W'.heap.size)) p t L s W' := by
  obtain ⟨⟨S', h1, h2⟩, h3, h4⟩ := h
  refine ⟨⟨_, h1.tight.later b, fun k hk => ⟨(h2 k hk.1).1, fun h => ?_⟩⟩, h3.trans (Ch.of_below b (Nat.le_refl _)) (fun _ _ h => h), fun k hk => ?_⟩
  · rcases h with h | h
    · exact (h2 k hk.1).2 h
    · have := hk.2; omega
  · have := b.size
    rcases hk with hk | hk
    · have := h4 k hk; omega
    · exact hk.2
theorem ST.less (h : ST w0 S N p t L s W) (hn : ∀ k, N' k → N k) : ST w0 S N' p t L s W := by
  obtain ⟨⟨S', h1, h2⟩, h3, h4⟩ := h
  exact ⟨⟨S', h1, fun k hk => ⟨(h2 k hk).1, fun h => (h2 k hk).2 (hn k h)⟩⟩, h3, fun k hk => h4 k (hn k hk)⟩
/-- The call's own blocks change. -/
theorem ST.put (h : ST w0 S N p t L s W) (c : Ch X W W') (hx : ∀ k, X k → N k ∧ w0.heap.size ≤ k) : ST w0 S N p t L s W' := by
  obtain ⟨⟨S', h1, h2⟩, h3, h4⟩ := h
  exact ⟨⟨S', h1.ch c (fun k hk hX => (h2 k hk).2 (hx k hX).1), h2⟩, h3.trans c (fun k hk hX => by have := (hx k hX).2; omega), fun k hk => Nat.lt_of_lt_of_le (h4 k hk) c.size⟩
theorem ST.size (h : ST w0 S N p t L s W) : w0.heap.size ≤ W.heap.size := h.ch.size
theorem ST.len (h : ST w0 S N p t L s W) : L.length ≤ 1048576 := by
  obtain ⟨⟨S', h1, h2⟩, h3, h4⟩ := h
  exact h1.len
theorem ST.good (h : ST w0 S N p t L s W) : GoodS s := by
  obtain ⟨⟨S', h1, h2⟩, h3, h4⟩ := h
  exact h1.good
/-- What a step leaves. -/
def Stepped (w0 : World) (S N : Nat → Prop) (p t : Nat) (L' : List Tx) (s' : St) (W W' : World) : Prop := ST w0 S N p t L' s' W' ∧ Ch (Fr w0 S N) W W'
/-- The table is asked. -/
theorem ST.ask {P : Program} {f : FuncId} {args : Array Value} {r : Ending} (h : ST w0 S N p t L s W) (hc : ∀ S1, Tb W S1 p L → (∀ k, S1 k → Fr w0 S N k ∧ k < W.heap.size) → Calls P f args W (Asks S1 p r L' W)) :
    Calls P f args W fun e w' => e = r ∧ Stepped w0 S N p t L' s W w' := by
  obtain ⟨⟨S', h1, h2⟩, h3, h4⟩ := h
  have h1' := h1.tight
  obtain ⟨S1, S2, R, k1, k2, k3, k4, k5, k6⟩ := h1'
  refine (hc S1 k1 (fun k hk => ⟨h2 k (k4 k hk).1.1, (k4 k hk).2⟩)).mono ?_
  rintro e w' ⟨he, ht, c⟩
  have hs := c.size
  have hs0 := h3.size
  have hts : TS w' (Up (fun k => S' k ∧ k < W.heap.size) W w') p t L' s := by
    refine ⟨Up S1 W w', S2, R, ht, k2.ch c (fun k hk hX => (k3 k hX).1 hk) (fun k hk hX => (k3 k hX).2 hk), ?_, ?_, ?_, ?_⟩
    · rintro k (hk | hk)
      · exact k3 k hk
      · exact ⟨fun h => by have := (k5 k h).2; omega, fun h => by have := (k6 k h).2; omega⟩
    · rintro k (hk | hk)
      · exact ⟨.inl (k4 k hk).1, by have := (k4 k hk).2; omega⟩
      · exact ⟨.inr hk, hk.2⟩
    · exact fun k hk => ⟨.inl (k5 k hk).1, by have := (k5 k hk).2; omega⟩
    · exact fun k hk => ⟨.inl (k6 k hk).1, by have := (k6 k hk).2; omega⟩
  refine ⟨he, ⟨⟨_, hts, fun k hk => ?_⟩, h3.trans c (fun k hk hX => ?_), fun k hk => Nat.lt_of_lt_of_le (h4 k hk) hs⟩, c.mono (fun k _ hk => h2 k (k4 k hk).1.1)⟩
  · rcases hk with hk | hk
    · exact h2 k hk.1
    · exact ⟨.inr (by omega), fun h => by have := h4 k h; omega⟩
  · rcases (h2 k (k4 k hX).1.1).1 with q | q
    · exact q
    · omega
/-- Topics are read. -/
theorem ST.tz (h : ST w0 S N p t L s W) : ∃ S2 R, Tz W S2 R t s ∧ (∀ k, S2 k → k < W.heap.size) := by
  obtain ⟨⟨S', ⟨S1, S2, R, k1, k2, k3, k4, k5, k6⟩, h2⟩, h3, h4⟩ := h
  exact ⟨S2, R, k2, fun k hk => (k5 k hk).2⟩
/-- At the end of the call. -/
theorem ST.fin (h : ST w0 S N p t L s W) : TS W (Up S w0 W) p t L s ∧ Ch S w0 W := by
  obtain ⟨⟨S', h1, h2⟩, h3, h4⟩ := h
  refine ⟨h1.weaken (fun k hlt hk => ?_), h3.mono (fun k _ hk => hk.1)⟩
  rcases (h2 k hk).1 with q | q
  · exact .inl q.1
  · exact .inr ⟨q, hlt⟩
end

theorem stB_len {s : St} (h : GoodS s) : (stB s).length ≤ 100000 := by
  have h1 := Bt.flat_le tpB 5600 s.L (fun x hx => by
    have hx' := h.L.fit x hx
    have h2 := (Cm.enc_len x.n.length).1
    have h3 := Bu.tB_len hx'
    have h4 := hx'.n
    simp only [Bu.tpB_eq, List.length_append, Cm.encB_len]
    omega)
  have h5 := Bt.flat_le anB 30 s.last (fun x hx => Bu.anB_len (h.a x hx).1)
  have h6 := h.L.few
  have h7 := h.eight
  have h8 := (Cm.enc_len s.L.length).1
  unfold stB
  simp only [List.length_append]
  omega

set_option maxHeartbeats 2000000 in
theorem tdigest_any (w : World) (S1 S2 R : Nat → Prop) (p t : Nat) (L : List Tx) (s : St) (h : Tb w S1 p L) (hz : Tz w S2 R t s) (hS2 : ∀ k, S2 k → k < w.heap.size) :
    Calls Tryz.prog 67 #[.pointer (some ⟨t, 0, none⟩), .pointer (some ⟨p, 0, none⟩)] w (Asks S1 p (.returned (.int .i64 (sum L (stB s) : Int))) (add L (stB s)) w) := by
  have HM := Lib.hid (made_on w S2 R t s hz)
  have HB := Lib.hid (Bu.bytes_all w S2 R t s hz hS2)
  have HL := Lib.hid (stB_len hz.good)
  have HT := Lib.hid h
  clear h hz hS2
  unfold Made at HB
  go_enter Tryz.func67, Tryz.ntmps67
  go_wp2_with fail
  refine HM.out.mono ?_
  rintro e w1 ⟨rfl, rfl⟩
  go_wp2_with fail
  refine HB.out.mono ?_
  rintro e w2 ⟨v2, rfl, ho2, hb2⟩
  obtain ⟨A2, c2, rfl⟩ := own_shape ho2
  have HB2 := Lib.hid hb2
  have HS := Lib.hid (Ib.sum_yes w2 S1 (fun _ => False) p L A2 c2 (stB s) (Tb.after HT.out hb2) (Sl.of_own ho2 (fun _ _ _ h => h)) (by have := HL.out; omega))
  unfold Ib.Summed at HS
  clear ho2 hb2
  go_wp2_with fail
  refine HS.out.mono ?_
  rintro e w3 ⟨rfl, ht3, hc3⟩
  have HA := Lib.hid (Asks.from (r := .returned (.int .i64 (sum L (stB s) : Int))) HB2.out ht3 hc3 rfl)
  clear ht3 hc3
  generalize (sum L (stB s) : Int) = z at *
  go_wp2_with fail
  go_ret
  exact HA.out
end Go.Proofs.YtobphijbhghgmaaGreat.Zh

/-
  Layer 8 (request): the contracts of Parse and TakeSign.
-/
namespace Go.Proofs.YtobphijbhghgmaaGreat.Jp
set_option linter.unusedSimpArgs false
open Go Go.RowKit Ck Kw Ca Cb Ce Cf Ch Ci Ga Kf Pm Pe Pk Qb Qt Lk Jm Ja Jb Jd Jf
attribute [local go_sem ↓] Go.wp_at_zero Go.wp_at_succ
set_option linter.unusedVariables false
set_option maxRecDepth 100000

/-- Within Parse: the result's block, the reader, the request. -/
structure PS (w0 : World) (M g gx : Nat) (cs : Array Value) (s : Cm.RS) (W : World) : Prop where
  below : Below w0.heap.size w0 W
  res : Blk W w0.heap.size 100 Z7
  op : Blk W gx 100 cs
  rd : CR W (fun k => k < w0.heap.size + 1 ∨ M ≤ k) g s
  lo : w0.heap.size + 1 ≤ g
  hi : g < M
  gx : M ≤ gx
section
variable {w0 W W' : World} {M g gx : Nat} {cs cs' : Array Value} {s s' : Cm.RS}
theorem PS.next (h : PS w0 M g gx cs s W) (hg : W.grownBy W' (some g)) (hc : CR W' (fun k => k < w0.heap.size + 1 ∨ M ≤ k) g s') : PS w0 M g gx cs s' W' := by
  have l := h.lo; have u := h.hi; have x := h.gx
  exact ⟨h.below.grown hg h.below.size (fun q hq => by injection hq with hq; omega), h.res.grown hg (by simp; omega), h.op.grown hg (by simp; omega), hc, l, u, x⟩
theorem PS.later (h : PS w0 M g gx cs s W) (hb : Below W.heap.size W W') : PS w0 M g gx cs s W' := h.next (grown_of_below hb _) (h.rd.after hb)
theorem PS.put (h : PS w0 M g gx cs s W) (i : Nat) (u : Value) (hcs : cs.setIfInBounds i u = cs') : PS w0 M g gx cs' s (W.setCell ⟨gx, i, none⟩ u) := by
  subst hcs
  have l := h.lo; have o := h.hi; have x := h.gx
  have b := h.below.size
  exact ⟨h.below.setCell (by show w0.heap.size ≤ gx; omega) u, h.res.far (by show w0.heap.size ≠ gx; omega) u, h.op.set_ i u, h.rd.grown (row := some gx) (grown_setCell (World.grownBy.refl W (some gx)) (.inl rfl) u) (by simp; omega) (fun q hq _ => by injection hq with hq; exact .inr (by omega)), l, o, x⟩
end
end Go.Proofs.YtobphijbhghgmaaGreat.Jp

/-
  Layer 9 (block): the contracts of takeDigest and Parse.
-/
namespace Go.Proofs.YtobphijbhghgmaaGreat.Ze
set_option linter.unusedSimpArgs false
open Go Go.RowKit Ck Kw Ca Cb Ce Cf Ch Ci Ga Kf Pm Pe Pk Qb Qt Ja Jd Jp Za Zb
attribute [local go_sem ↓] Go.wp_at_zero Go.wp_at_succ
set_option linter.unusedVariables false
set_option maxRecDepth 100000

/-- The cells of no header. -/
def ZH : Array Value := #[.int .i64 0, .int .i64 0, .int .i64 0, .int .i64 0, .int .i64 0]
/-- Within Parse: the result's block, the first byte, the reader, the header. -/
structure PH (w0 : World) (M g gx : Nat) (cs : Array Value) (v1 : Value) (t : Tx) (s : Cm.RS) (W : World) : Prop where
  below : Below w0.heap.size w0 W
  res : Blk W w0.heap.size 24 ZH
  op : Blk W gx 24 cs
  rd : CR W (fun k => k < w0.heap.size + 1 ∨ M ≤ k) g s
  fst : Sl W (fun k => k < M ∨ gx ≤ k) 1 v1 t.length (BVs t)
  lo : w0.heap.size + 1 ≤ g
  hi : g < M
  gx : M ≤ gx
section
variable {w0 W W' : World} {M g gx : Nat} {cs cs' : Array Value} {v1 : Value} {t : Tx} {s s' : Cm.RS}
theorem PH.next (h : PH w0 M g gx cs v1 t s W) (hg : W.grownBy W' (some g)) (hc : CR W' (fun k => k < w0.heap.size + 1 ∨ M ≤ k) g s') : PH w0 M g gx cs v1 t s' W' := by
  have l := h.lo; have u := h.hi; have x := h.gx
  exact ⟨h.below.grown hg h.below.size (fun q hq => by injection hq with hq; omega), h.res.grown hg (by simp; omega), h.op.grown hg (by simp; omega), hc, h.fst.grown hg (fun q hq _ => by injection hq with hq; exact .inl (by omega)), l, u, x⟩
theorem PH.put (h : PH w0 M g gx cs v1 t s W) (i : Nat) (u : Value) (hcs : cs.setIfInBounds i u = cs') : PH w0 M g gx cs' v1 t s (W.setCell ⟨gx, i, none⟩ u) := by
  subst hcs
  have l := h.lo; have o := h.hi; have x := h.gx
  have b := h.below.size
  have gg : W.grownBy (W.setCell ⟨gx, i, none⟩ u) (some gx) := grown_setCell (World.grownBy.refl W (some gx)) (.inl rfl) u
  exact ⟨h.below.setCell (by show w0.heap.size ≤ gx; omega) u, h.res.far (by show w0.heap.size ≠ gx; omega) u, h.op.set_ i u, h.rd.grown (row := some gx) gg (by simp; omega) (fun q hq _ => by injection hq with hq; exact .inr (by omega)), h.fst.grown gg (fun q hq _ => by injection hq with hq; exact .inr (by omega)), l, o, x⟩
end
end Go.Proofs.YtobphijbhghgmaaGreat.Ze

/-
  Layer 9 (block): the contract of end.
-/
namespace Go.Proofs.YtobphijbhghgmaaGreat.Zi
set_option linter.unusedSimpArgs false
open Go Go.RowKit Ck Kw Ga Kf Pm Pe Qb Tm Tn Tq Ik Ja Ma Mm Za Zb Ze Zt Zc Zg Zh
open Im (num isIn add sum)
attribute [local go_sem ↓] Go.wp_at_zero Go.wp_at_succ
set_option linter.unusedVariables false
set_option maxRecDepth 100000

/-- What a call over a table and topics leaves. -/
def TAsk (w : World) (S : Nat → Prop) (p t : Nat) (r : Ending) (L' : List Tx) (s' : St) (e : Ending) (w' : World) : Prop := e = r ∧ TS w' (Up S w w') p t L' s' ∧ Ch S w w'
/-- What Leaves leaves. -/
def Leaved (W : World) (ls : List Tx) (e : Ending) (w' : World) : Prop := ∃ v, e = .returned v ∧ Ls w' (fun k => k < W.heap.size) v ls ∧ Below W.heap.size W w'
theorem leaves_nil (W : World) : Calls Tryz.prog 66 #[.slice none 0 0] W (Leaved W []) := by
  go_enter Tryz.func66, Tryz.ntmps66
  go_wp2_with fail
  go_loopw [3, 8] (fun v j wr => v = .slice none 0 0 ∧ j = .int .i64 0 ∧ wr = W) (fun _ _ _ => 0)
  case atStart => exact ⟨rfl, rfl, rfl⟩
  case round =>
    obtain ⟨rfl, rfl, rfl⟩ := hrel
    go_wp2_with fail
    go_ret
    exact ⟨.slice none 0 0, rfl, ⟨[], Sl.nil _ _ _, fun i hi => absurd hi (by simp)⟩, Below.refl _ _⟩
theorem ch_one (W : World) (g i : Nat) (u : Value) : Ch (fun k => k = g) W (W.setCell ⟨g, i, none⟩ u) := (Ch.refl (fun k => k = g) W).setCell (p := ⟨g, i, none⟩) (fun _ => rfl) _
set_option maxHeartbeats 8000000 in
theorem end_any (w : World) (S : Nat → Prop) (p t : Nat) (L : List Tx) (s : St) (h : H) (vpl : Value) (pl : List (Tx × Int × Tx)) (k : TS w S p t L s)
    (hlv : ∀ W, Below w.heap.size w W → Calls Tryz.prog 66 #[vpl] W (Leaved W (pl.map plB))) (hn : pl.length ≤ 1000000) (hall : ∀ x ∈ pl.map plB, x.length ≤ 140737488355327) :
    Calls Tryz.prog 46 #[.pointer (some ⟨p, 0, none⟩), HV h, vpl, .pointer (some ⟨t, 0, none⟩)] w (TAsk w S p t (.returned (.tuple #[HV (endR L h pl s).1, .int .i64 (endR L h pl s).2])) (endT L pl s) s) := by
  have b2 : Below w.heap.size w ((w.alloc (.cells (HC h) 24)).alloc (.cells ZH 24)) := (op_below w _).trans ((op_below _ _).mono (by simp))
  have k0 : Blk ((w.alloc (.cells (HC h) 24)).alloc (.cells ZH 24)) w.heap.size 24 (HC h) := Blk.alloc (Blk.new w _ _) _
  have k1 : Blk ((w.alloc (.cells (HC h) 24)).alloc (.cells ZH 24)) (w.heap.size + 1) 24 ZH := Blk.new_at (by simp) rfl
  have hz : ((w.alloc (.cells (HC h) 24)).alloc (.cells ZH 24)).heap.size = w.heap.size + 2 := by simp
  have HLV := Lib.hid (hlv _ b2)
  have HST := Lib.hid ((ST.start k b2).less (N' := fun k => k = w.heap.size ∨ k = w.heap.size + 1) (fun k hk => by rw [hz]; omega))
  have HK0 := Lib.hid k0
  have HK1 := Lib.hid k1
  have HZ := Lib.hid hz
  have HNN := Lib.hid (show (pl.map plB).length ≤ 140737488355328 by rw [List.length_map]; omega)
  have HAL := Lib.hid hall
  have HER : Hid (endR L h pl s = if (root L (pl.map plB)).1 = 0 ∨ sum (root L (pl.map plB)).2 (stB s) = 0 then (H.zero, 6) else (⟨h.seq, h.prev, h.batch, ((root L (pl.map plB)).1 : Int), (sum (root L (pl.map plB)).2 (stB s) : Int)⟩, 0)) := Lib.hid rfl
  have HET : Hid (endT L pl s = add (root L (pl.map plB)).2 (stB s)) := Lib.hid rfl
  generalize endR L h pl s = er at *
  generalize endT L pl s = et at *
  clear b2 k0 k1 hz k hlv hn hall
  unfold HV
  unfold HC ZH at *
  go_enter Tryz.func46, Tryz.ntmps46
  go_wp2_with fail
  generalize ((w.alloc (.cells #[.int .i64 h.seq, .int .i64 h.prev, .int .i64 h.batch, .int .i64 h.root, .int .i64 h.state] 24)).alloc (.cells #[.int .i64 0, .int .i64 0, .int .i64 0, .int .i64 0, .int .i64 0] 24)) = W0 at *
  unfold Leaved at HLV
  generalize pl.map plB = ls at *
  refine HLV.out.mono ?_
  rintro e w1 ⟨v1, rfl, hls1, hb1⟩
  have HST1 := Lib.hid (HST.out.more hb1)
  have hs1 := hb1.size
  have HG0 : Hid (Blk w1 w.heap.size 24 _) := Lib.hid (HK0.out.below hb1 HK0.out.lt)
  have HG1 : Hid (Blk w1 (w.heap.size + 1) 24 _) := Lib.hid (HK1.out.below hb1 HK1.out.lt)
  obtain ⟨vals, ⟨A1, c1, rfl, -⟩, -⟩ := id hls1
  have HRT := Lib.hid (HST1.out.ask (P := Tryz.prog) (f := 65) (args := #[.pointer (some ⟨p, 0, none⟩), .slice A1 ls.length c1]) (r := .returned (.int .i64 ((root L ls).1 : Int))) (L' := (root L ls).2) (fun S1 hT hS =>
    Mc.root_any w1 S1 (fun k => k < W0.heap.size) p L A1 c1 ls HNN.out hT (fun k hk => (hS k hk).2) hls1 (fun k hk => by
      have h1 := (hS k hk).1.2
      have h2 := (hS k hk).2
      rcases Nat.lt_or_ge k W0.heap.size with q | q
      · exact q
      · exact absurd (Or.inr ⟨q, h2⟩) h1) HAL.out))
  clear hls1 hb1 hs1 HLV HNN HAL HK0 HK1 HST
  generalize root L ls = rt at *
  obtain ⟨rn, L2⟩ := rt
  simp only at HRT HER HET
  go_wp2_with fail
  refine HRT.out.mono ?_
  rintro e w2 ⟨rfl, hst2, hc2⟩
  have hg0 := HG0.out.ch hc2 (fun hf => hf.2 (.inl (.inl rfl)))
  have HG1' := Lib.hid (HG1.out.ch hc2 (fun hf => hf.2 (.inl (.inr rfl))))
  have HST3 := Lib.hid (hst2.put (ch_one w2 w.heap.size 3 (.int .i64 (rn : Int))) (fun k hk => by subst hk; exact ⟨.inl (.inl rfl), Nat.le_refl _⟩))
  have HG3 := Lib.hid (hg0.set_ 3 (.int .i64 (rn : Int)))
  have HH3 : Hid (Blk (w2.setCell ⟨w.heap.size, 3, none⟩ (.int .i64 (rn : Int))) (w.heap.size + 1) 24 #[.int .i64 0, .int .i64 0, .int .i64 0, .int .i64 0, .int .i64 0]) := Lib.hid (HG1'.out.far (by show w.heap.size + 1 ≠ w.heap.size; omega) _)
  obtain ⟨⟨x0, x1, x2, x3, x4⟩, ⟨f0, f1, f2, f3, f4⟩⟩ := Blk.cells5 hg0
  clear hst2 hc2 hg0 HRT HG0 HG1 HST1 HG1'
  go_wp2_with fail
  clear x0 x1 x2 x3 x4 f0 f1 f2 f3 f4
  generalize w2.setCell ⟨w.heap.size, 3, none⟩ (.int .i64 (rn : Int)) = w3 at *
  have HDG := Lib.hid (HST3.out.ask (P := Tryz.prog) (f := 67) (args := #[.pointer (some ⟨t, 0, none⟩), .pointer (some ⟨p, 0, none⟩)]) (r := .returned (.int .i64 (sum L2 (stB s) : Int))) (L' := add L2 (stB s)) (fun S1 hT hS => by
    obtain ⟨S2, R, hz, hS2⟩ := HST3.out.tz
    exact tdigest_any w3 S1 S2 R p t L2 s hT hz hS2))
  generalize sum L2 (stB s) = sn at *
  refine HDG.out.mono ?_
  rintro e w4 ⟨rfl, hst4, hc4⟩
  have hg4 := HG3.out.ch hc4 (fun hf => hf.2 (.inl (.inl rfl)))
  have hh4 := HH3.out.ch hc4 (fun hf => hf.2 (.inl (.inr rfl)))
  simp only [List.setIfInBounds_toArray, List.set_cons_succ, List.set_cons_zero] at hg4
  obtain ⟨⟨x0, x1, x2, x3, x4⟩, ⟨f0, f1, f2, f3, f4⟩⟩ := Blk.cells5 hg4
  obtain ⟨⟨r0, r1, r2, r3, r4⟩, ⟨z0, z1, z2, z3, z4⟩⟩ := Blk.cells5 hh4
  have HG4 := Lib.hid hg4
  have HH4 := Lib.hid hh4
  have HST4 := Lib.hid hst4
  rw [← HET.out] at HST4
  have HFIN : Hid (∀ x0 x1 x2 x3 x4 : Value, TS _ _ p t et s ∧ Ch S w _) := Lib.hid fun x0 x1 x2 x3 x4 => (((((((HST4.out.put (ch_one w4 w.heap.size 4 (.int .i64 (sn : Int))) (fun k hk => by subst hk; exact ⟨.inl (.inl rfl), Nat.le_refl _⟩)).put (ch_one _ (w.heap.size + 1) 0 x0) (fun k hk => by subst hk; exact ⟨.inl (.inr rfl), by omega⟩)).put (ch_one _ (w.heap.size + 1) 1 x1) (fun k hk => by subst hk; exact ⟨.inl (.inr rfl), by omega⟩)).put (ch_one _ (w.heap.size + 1) 2 x2) (fun k hk => by subst hk; exact ⟨.inl (.inr rfl), by omega⟩)).put (ch_one _ (w.heap.size + 1) 3 x3) (fun k hk => by subst hk; exact ⟨.inl (.inr rfl), by omega⟩)).put (ch_one _ (w.heap.size + 1) 4 x4) (fun k hk => by subst hk; exact ⟨.inl (.inr rfl), by omega⟩)).fin)
  have HB4 : Hid (Blk (w4.setCell ⟨w.heap.size, 4, none⟩ (.int .i64 (sn : Int))) (w.heap.size + 1) 24 #[.int .i64 0, .int .i64 0, .int .i64 0, .int .i64 0, .int .i64 0]) := Lib.hid (HH4.out.far (by show w.heap.size + 1 ≠ w.heap.size; omega) _)
  clear hst4 hc4 hg4 hh4 HDG HG3 HH3 HST3
  by_cases hr : rn = 0
  · have d0 : ((rn : Int) == 0) = true := by rw [hr]; rfl
    have HR : Hid (er = (H.zero, 6)) := Lib.hid (by rw [HER.out, if_pos (.inl hr)])
    clear hr HER
    generalize (rn : Int) = z at *
    go_wp2_with fail
    refine bodyPost_ret (results_row_tmp rfl _ _ (w.heap.size + 1) 24 #[.int .i64 0, .int .i64 0, .int .i64 0, .int .i64 0, .int .i64 0] (0, 0) _ rfl (blk5 HB4.out) Tryz.underlying24 rfl size_hdr) rfl ?_
    exact ⟨by rw [HR.out]; rfl, HFIN.out _ _ _ _ _⟩
  · have d0 : ((rn : Int) == 0) = false := by rw [beq_eq_false_iff_ne]; omega
    by_cases hq : sn = 0
    · have d1 : ((sn : Int) == 0) = true := by rw [hq]; rfl
      have HR : Hid (er = (H.zero, 6)) := Lib.hid (by rw [HER.out, if_pos (.inr hq)])
      clear hr hq HER
      generalize (rn : Int) = z at *
      generalize (sn : Int) = y at *
      go_wp2_with fail
      refine bodyPost_ret (results_row_tmp rfl _ _ (w.heap.size + 1) 24 #[.int .i64 0, .int .i64 0, .int .i64 0, .int .i64 0, .int .i64 0] (0, 0) _ rfl (blk5 HB4.out) Tryz.underlying24 rfl size_hdr) rfl ?_
      exact ⟨by rw [HR.out]; rfl, HFIN.out _ _ _ _ _⟩
    · have d1 : ((sn : Int) == 0) = false := by rw [beq_eq_false_iff_ne]; omega
      have HR : Hid (er = (⟨h.seq, h.prev, h.batch, (rn : Int), (sn : Int)⟩, 0)) := Lib.hid (by rw [HER.out, if_neg (fun hh => hh.elim hr hq)])
      clear hr hq HER
      generalize (rn : Int) = z at *
      generalize (sn : Int) = y at *
      go_wp2_with fail
      refine bodyPost_ret (results_row_tmp rfl _ _ (w.heap.size + 1) 24 #[.int .i64 h.seq, .int .i64 h.prev, .int .i64 h.batch, .int .i64 z, .int .i64 y] (0, 0) _ rfl (blk5 HB4.out) Tryz.underlying24 rfl size_hdr) rfl ?_
      exact ⟨by rw [HR.out]; rfl, HFIN.out _ _ _ _ _⟩
end Go.Proofs.YtobphijbhghgmaaGreat.Zi
