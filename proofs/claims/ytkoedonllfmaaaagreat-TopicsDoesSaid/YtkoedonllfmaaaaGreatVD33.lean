/-
  Layer 7's laws: same, on topics that are the same on both sides.
-/
import Derived.Test.YtkoedonllfmaaaaGreatVD32
import Derived.Test.YtkoedonllfmaaaaGreatVD11
import Derived.Test.YtkoedonllfmaaaaGreatVD19
import Derived.Test.YtkoedonllfmaaaaGreatVD05
import Derived.Deep.RegionLaw
namespace Go.Proofs.YtkoedonllfmaaaaGreat.Xab
set_option linter.unusedSimpArgs false
open Go Go.RowKit Ck Cd Kw Ga Kf Kx Km Pm Pe Pz Py Tm Tn Tq To Aa Ag Ah Ai Am Bq Br Ta Xa Xr Xo Bu Xj Xk Xl Xn Xt Xy Xz Ds Xaa
attribute [local go_sem ↓] Go.wp_at_zero Go.wp_at_succ
set_option linter.unusedVariables false
set_option maxRecDepth 100000

theorem info_string : (Tryz.prog.info? 9).map (fun i => (i.zero, i.size, i.bytes)) = some (some (.string ⟨#[]⟩), 1, 16) := by kernel_rfl
theorem take_one (l : List Tx) (k : Nat) (h : k < l.length) : (l.take k).map SV ++ [SV l[k]] = (l.take (k + 1)).map SV := by
  rw [List.take_succ_eq_append_getElem h, List.map_append]
  rfl
theorem find_self {L : List Tp} (hr : RT L) {t : Tp} (ht : t ∈ L) : findT L t.n = some t := by
  cases hf : findT L t.n with
  | none => exact absurd rfl (findT_none hf t ht)
  | some u => rw [rt_one hr (findT_some hf).1 ht (findT_some hf).2]
set_option maxHeartbeats 4000000 in
theorem same_any (w : World) (S R T : Nat → Prop) (p q : Nat) (s : St) (o : O) (A : Option Addr) (c : Nat) (ht : o.topic.length ≤ 140737488355328) (hgl : o.group.length ≤ 140737488355328) (hz : Tz w S R p s) (hk : Tk w T q s) :
    Calls Tryz.prog 10 #[.pointer (some ⟨p, 0, none⟩), .pointer (some ⟨q, 0, none⟩), .agg #[.int .i64 o.kind, .string ⟨o.topic.toArray⟩, .string ⟨o.group.toArray⟩, .int .i64 o.off, .slice A o.recs.length c]] w fun e w' => e = .returned (.bool true) ∧ Below w.heap.size w w' := by
  have HG := Lib.hid hz.good
  have HZ := Lib.hid (Tz.bound hz)
  have HK := Lib.hid hk
  have HX := Lib.hid (And.intro ht hgl)
  have hb0 := Xr.op_below w (.cells #[.int .i64 o.kind, .string ⟨o.topic.toArray⟩, .string ⟨o.group.toArray⟩, .int .i64 o.off, .slice A o.recs.length c] 38)
  have hp0 : Blk (w.alloc (.cells #[.int .i64 o.kind, .string ⟨o.topic.toArray⟩, .string ⟨o.group.toArray⟩, .int .i64 o.off, .slice A o.recs.length c] 38)) w.heap.size 38 #[.int .i64 o.kind, .string ⟨o.topic.toArray⟩, .string ⟨o.group.toArray⟩, .int .i64 o.off, .slice A o.recs.length c] := Blk.new w _ _
  obtain ⟨l, lv, hL, hP⟩ := hk
  have hl8 : l.length ≤ 8 := by rw [← rows_len hL]; exact HG.out.L.few
  obtain ⟨Al, cl, rfl, hlc⟩ := hP.shape
  have HNS : Hid ((s.L.map (·.n)).length = l.length ∧ ∀ k (h : k < l.length) (h' : k < (s.L.map (·.n)).length), (s.L.map (·.n))[k] = l[k].1.n) := Lib.hid ⟨by rw [List.length_map, rows_len hL], fun k h h' => by
    have := rows_at hL h
    rw [List.getElem_map]
    obtain ⟨_, e⟩ := List.getElem?_eq_some_iff.1 this
    rw [e]⟩
  have c0 : (w.alloc (.cells #[.int .i64 o.kind, .string ⟨o.topic.toArray⟩, .string ⟨o.group.toArray⟩, .int .i64 o.off, .slice A o.recs.length c] 38)).cell? ⟨q, 0, none⟩ = some (.slice Al l.length cl) := by have := (hP.blk.below hb0 hP.blk.lt).cell 0; simpa using this
  have HB0 := Lib.hid hb0
  have HP0 := Lib.hid hp0
  have HP := Lib.hid hP
  have HL := Lib.hid hL
  obtain ⟨i0, hi0', hs0, hs1, hs2⟩ := info_parts info_string
  clear hz hL hP hb0 hp0 ht hgl
  go_enter Tryz.func10, Tryz.ntmps10
  go_wp2_with fail
  generalize w.alloc (.cells #[.int .i64 o.kind, .string ⟨o.topic.toArray⟩, .string ⟨o.group.toArray⟩, .int .i64 o.off, .slice A o.recs.length c] 38) = w0 at *
  clear c0
  go_loopw [7, 22] (fun v i W => ∃ (k : Nat) (A : Option Addr) (c : Nat), k ≤ l.length ∧ i = .int .i64 k ∧ v = .slice A k c ∧ W.ownsRow w0.heap.size 9 1 (.slice A k c) k (((s.L.map (·.n)).take k).map SV) ∧ Below w0.heap.size w0 W) (fun _ i _ => l.length - (intOf i).toNat)
  case atStart => exact ⟨0, none, 0, Nat.zero_le _, rfl, rfl, by rw [List.take_zero]; exact World.ownsRow_nil _ _ _ _, Below.refl _ _⟩
  case round =>
    obtain ⟨k, An, cn, hk, rfl, rfl, hrow, hB⟩ := hrel
    have HR := Lib.hid (And.intro hrow hB)
    have HBW := Lib.hid (HB0.out.trans (hB.mono HB0.out.size))
    clear hrow hB
    by_cases hlt : k < l.length
    · obtain ⟨ad, rfl, -, -, hat⟩ := (HP.out.later HBW.out).at_ hlt
      have htw := HP.out.each l[k] (List.getElem_mem hlt)
      have htin : l[k].1 ∈ s.L := by rw [← HL.out]; exact List.mem_map.2 ⟨_, List.getElem_mem hlt, rfl⟩
      have hft : FitT l[k].1 := HG.out.L.fit _ htin
      have hfs := find_self HG.out.L.rises htin
      have hnk := HNS.out.2 k hlt (by rw [HNS.out.1]; exact hlt)
      have htk := take_one (s.L.map (·.n)) k (by rw [HNS.out.1]; exact hlt)
      rw [hnk] at htk
      obtain ⟨vs, hvl, hvr⟩ := htw.recs
      obtain ⟨Ar, cr, hrv, -⟩ := id hvl
      obtain ⟨Ag, cg, hgv, -⟩ := id htw.gs
      generalize hx : l[k] = x at *
      clear hx hvl hvr htin hnk
      obtain ⟨t, rv, gv⟩ := x
      simp only at hrv hgv htw hft hfs htk
      subst hrv hgv
      obtain ⟨a0, a1, a2, a3, -, -, -, -⟩ := hat
      simp only at a0 a1 a2 a3
      have HFS := Lib.hid hfs
      have HTK := Lib.hid htk
      have HTW := Lib.hid htw
      have hn64 := hft.n
      have hg8 := hft.groups
      have hkl : (k : Int) < (l.length : Int) := by omega
      have HBX : Hid (Blk (wr.alloc (.cells #[.string ⟨t.n.toArray⟩, .int .i64 t.base, .slice Ar t.recs.length cr, .slice Ag t.gs.length cg] 74)) wr.heap.size 74 #[.string ⟨t.n.toArray⟩, .int .i64 t.base, .slice Ar t.recs.length cr, .slice Ag t.gs.length cg]) := Lib.hid (Blk.new wr _ _)
      have HBB := Lib.hid (Xr.op_below wr (.cells #[.string ⟨t.n.toArray⟩, .int .i64 t.base, .slice Ar t.recs.length cr, .slice Ag t.gs.length cg] 74))
      have y0 := HBX.out.cell 0
      have y3 := HBX.out.cell 3
      simp only [List.getElem?_toArray, List.getElem?_cons_zero, List.getElem?_cons_succ] at y0 y3
      clear htw hft hfs htk
      go_upto_region 5 with fail
      generalize hw1 : wr.alloc (.cells #[.string ⟨t.n.toArray⟩, .int .i64 t.base, .slice Ar t.recs.length cr, .slice Ag t.gs.length cg] 74) = w1 at *
      clear hw1 a0 a1 a2 a3
      generalize hwo : wr = wo at *
      clear hwo
      have HO1 := Lib.hid (own_below HR.out.1 HBB.out)
      have HT5 : Hid (∀ (A2 : Option Addr) (c2 : Nat) (w2 : World), Appended (w1.alloc (.cells #[.string ⟨t.n.toArray⟩] 9)) w0.heap.size 9 1 (.slice An k cn) (k + 1) (((s.L.map (·.n)).take k).map SV ++ [SV t.n]) (.slice A2 (k + 1) c2) w2 → w2.ownsRow w0.heap.size 9 1 (.slice A2 (k + 1) c2) (k + 1) (((s.L.map (·.n)).take k).map SV ++ [SV t.n]) ∧ Below w0.heap.size w0 w2 ∧ Blk w2 wo.heap.size 74 #[.string ⟨t.n.toArray⟩, .int .i64 t.base, .slice Ar t.recs.length cr, .slice Ag t.gs.length cg]) := Lib.hid (fun A2 c2 w2 happ => by
        have h1 := HR.out.2.size
        have h2 := HBB.out.size
        refine ⟨happ.1, below_of_app (W1 := w0) ((HR.out.2.trans (HBB.out.mono h1)).trans ((Xr.op_below w1 _).mono (by omega))) (HO1.out.alloc _) happ, ?_⟩
        exact (HBX.out.alloc (.cells #[.string ⟨t.n.toArray⟩] 9)).ch (Ch.of_grown happ.2.1 (fun g hg _ => hg) : Ch (fun g => (Value.slice An k cn).ownBlock = some g) _ w2) (own_far (HO1.out.alloc (.cells #[.string ⟨t.n.toArray⟩] 9)) (HBX.out.alloc (.cells #[.string ⟨t.n.toArray⟩] 9)) (by decide)))
      go_wp2_with (at_builtin; refine wpList_append_sh _ rfl (.tmp 26) (.tmp 29) _ rfl w0.heap.size 9 i0 _ 1 16 Tryz.underlying71 hi0' hs0 hs1 hs2 rfl (by omega) (.slice An k cn) k _ rfl (HO1.out.alloc _) (fun _ => False) _ 1 [SV t.n] rfl (Ci.one_newv w1 (fun _ => False) 9 _ (fun h => h)) (by intro u hu; rw [List.mem_singleton] at hu; subst hu; rfl) (by simp only [maxLen]; omega) (by omega) (by have h1 := HR.out.2.size; have h2 := HBB.out.size; simp; omega) ?_; intro A2 c2 w2 happ; have h5 := HT5.out A2 c2 w2 happ; have HAP := Lib.hid h5.1; have HB2 := Lib.hid h5.2.1; have HX2 := Lib.hid h5.2.2; clear happ h5 y0 y3; have y0 := HX2.out.cell 0; have y3 := HX2.out.cell 3; simp only [List.getElem?_toArray, List.getElem?_cons_zero, List.getElem?_cons_succ] at y0 y3)
      have HROW : Hid (w2.ownsRow w0.heap.size 9 1 (.slice A2 (k + 1) c2) (k + 1) (((s.L.map (·.n)).take (k + 1)).map SV)) := Lib.hid (by rw [← HTK.out]; exact HAP.out)
      clear y0 y3
      go_loopw [10, 34] (fun v i W => ∃ (j : Nat) (A : Option Addr) (c : Nat), j ≤ t.gs.length ∧ i = .int .i64 j ∧ v = .slice A j c ∧ W.ownsRow w2.heap.size 9 1 (.slice A j c) j (((t.gs.map (·.n)).take j).map SV) ∧ Below w2.heap.size w2 W) (fun _ i _ => t.gs.length - (intOf i).toNat)
      case atStart => exact ⟨0, none, 0, Nat.zero_le _, rfl, rfl, by rw [List.take_zero]; exact World.ownsRow_nil _ _ _ _, Below.refl _ _⟩
      case round =>
        obtain ⟨j, Ah, ch, hj, rfl, rfl, hrow, hB⟩ := hrel
        have HR3 := Lib.hid (And.intro hrow hB)
        have HBV := Lib.hid (HB0.out.trans ((HB2.out.trans (hB.mono HB2.out.size)).mono HB0.out.size))
        clear hrow hB
        by_cases hj2 : j < t.gs.length
        · obtain ⟨ag, rfl, g0, g1⟩ := Td.grp_at ((show Sl w _ 2 (.slice Ag t.gs.length cg) t.gs.length (GCs t.gs) from HTW.out.gs).after HBV.out) hj2
          have htk := take_one (t.gs.map (·.n)) j (by rw [List.length_map]; exact hj2)
          rw [List.getElem_map] at htk
          have HTK3 := Lib.hid htk
          generalize t.gs[j] = g at *
          obtain ⟨gn, gp⟩ := g
          simp only at g0 g1 htk
          have hjn : (j : Int) < (t.gs.length : Int) := by omega
          have HB3 := Lib.hid (Xr.op_below wr (.cells #[.string ⟨gn.toArray⟩, .int .i64 gp] 76))
          have hbx3 : Blk (wr.alloc (.cells #[.string ⟨gn.toArray⟩, .int .i64 gp] 76)) wr.heap.size 76 #[.string ⟨gn.toArray⟩, .int .i64 gp] := Blk.new wr _ _
          have z0 := hbx3.cell 0
          simp only [List.getElem?_toArray, List.getElem?_cons_zero, List.getElem?_cons_succ] at z0
          clear htk hbx3
          have HO3 := Lib.hid (own_below HR3.out.1 HB3.out)
          have HT6 : Hid (∀ (A4 : Option Addr) (c4 : Nat) (w4 : World), Appended ((wr.alloc (.cells #[.string ⟨gn.toArray⟩, .int .i64 gp] 76)).alloc (.cells #[.string ⟨gn.toArray⟩] 9)) w2.heap.size 9 1 (.slice Ah j ch) (j + 1) (((t.gs.map (·.n)).take j).map SV ++ [SV gn]) (.slice A4 (j + 1) c4) w4 → w4.ownsRow w2.heap.size 9 1 (.slice A4 (j + 1) c4) (j + 1) (((t.gs.map (·.n)).take j).map SV ++ [SV gn]) ∧ Below w2.heap.size w2 w4) := Lib.hid (fun A4 c4 w4 happ => by
            have h1 := HR3.out.2.size
            have h2 := HB3.out.size
            exact ⟨happ.1, below_of_app (W1 := w2) ((HR3.out.2.trans (HB3.out.mono h1)).trans ((Xr.op_below (wr.alloc (.cells #[.string ⟨gn.toArray⟩, .int .i64 gp] 76)) _).mono (by omega))) (HO3.out.alloc _) happ⟩)
          have HS3 := Lib.hid (And.intro HR3.out.2.size HB3.out.size)
          go_upto_region 10 with fail
          generalize wr.alloc (.cells #[.string ⟨gn.toArray⟩, .int .i64 gp] 76) = w3 at *
          go_wp2_with (at_builtin; refine wpList_append_sh _ rfl (.tmp 38) (.tmp 41) _ rfl w2.heap.size 9 i0 _ 1 16 Tryz.underlying71 hi0' hs0 hs1 hs2 rfl (by omega) (.slice Ah j ch) j _ rfl (HO3.out.alloc _) (fun _ => False) _ 1 [SV gn] rfl (Ci.one_newv w3 (fun _ => False) 9 _ (fun h => h)) (by intro u hu; rw [List.mem_singleton] at hu; subst hu; rfl) (by simp only [maxLen]; omega) (by omega) (by have h1 := HS3.out; simp; omega) ?_; intro A4 c4 w4 happ; have h5 := HT6.out A4 c4 w4 happ; have HA4 := Lib.hid h5.1; have HB4 := Lib.hid h5.2; clear happ h5)
          go_roundw
          case rel => exact ⟨j + 1, A4, c4, by omega, by go_num, rfl, by rw [← HTK3.out]; exact HA4.out, HB4.out⟩
          case measure => simp [intOf]; omega
        · have hje : j = t.gs.length := by omega
          subst hje
          have hxw := HX2.out.below HR3.out.2 HX2.out.lt
          have hpw := HP0.out.below (HB2.out.trans (HR3.out.2.mono HB2.out.size)) HP0.out.lt
          have y0 := hxw.cell 0
          have p2 := hpw.cell 2
          simp only [List.getElem?_toArray, List.getElem?_cons_zero, List.getElem?_cons_succ] at y0 p2
          have HXW := Lib.hid hxw
          clear hxw hpw
          have HST := Lib.hid (sameTopic_any wr _ R T p q s t.n o.group (by omega) HX.out.2 (HZ.out.later HBV.out) (HK.out.later HBV.out))
          go_wp2_with fail
          refine HST.out.mono ?_
          rintro e w5 ⟨rfl, hb5⟩
          have HB5 := Lib.hid hb5
          have hbv5 := HBV.out.trans (hb5.mono HBV.out.size)
          have HGR := Lib.hid (groups_on w5 _ R p s t.n (by omega) (HZ.out.later hbv5))
          have hgt : groupsT s.L t.n = t.gs.map (·.n) := by rw [groupsT, HFS.out]
          rw [hgt] at HGR
          have hxw := HXW.out.below hb5 HXW.out.lt
          have v0 := hxw.cell 0
          simp only [List.getElem?_toArray, List.getElem?_cons_zero, List.getElem?_cons_succ] at v0
          clear y0 p2 hxw hb5 hbv5 hgt
          go_wp2_with fail
          refine HGR.out.mono ?_
          rintro e w6 ⟨A6, c6, rfl, ho6, hb6⟩
          have hgn : (t.gs.map (·.n)).length = t.gs.length := by simp
          have HEQ := Lib.hid (equal_strs w6 (fun _ => False) (fun _ => False) A6 Ah c6 ch (t.gs.map (·.n)) (Sl.of_own ho6 (fun _ _ _ h => h)) ((Sl.of_own (by have := HR3.out.1; rw [List.take_of_length_le (by omega)] at this; rw [hgn]; exact this) (fun _ _ _ h => h) : Sl wr (fun _ => False) 1 (.slice Ah (t.gs.map (·.n)).length ch) _ _).after (HB5.out.trans (hb6.mono HB5.out.size))) (by rw [hgn]; omega))
          rw [hgn] at HEQ ⊢
          have HB6 := Lib.hid (HB5.out.trans (hb6.mono HB5.out.size))
          clear ho6 hb6 hgn v0
          go_wp2_with fail
          refine HEQ.out.mono ?_
          rintro e w7 ⟨rfl, hb7⟩
          have HB7 := Lib.hid (HR3.out.2.trans ((HB6.out.trans (hb7.mono HB6.out.size)).mono HR3.out.2.size))
          clear hb7
          go_wp2_with fail
          go_roundw
          case rel => exact ⟨k + 1, A2, c2, by omega, by go_num, rfl, own_below HROW.out HB7.out, HB2.out.trans (HB7.out.mono HB2.out.size)⟩
          case measure => simp [intOf]; omega
    · have hke : k = l.length := by omega
      subst hke
      have hpw := HP0.out.below HR.out.2 HP0.out.lt
      have p1 := hpw.cell 1
      have p3 := hpw.cell 3
      simp only [List.getElem?_toArray, List.getElem?_cons_zero, List.getElem?_cons_succ] at p1 p3
      have HPW := Lib.hid hpw
      clear hpw
      have HG1 := Lib.hid (get_any wr _ R p s o.topic o.off HX.out.1 (HZ.out.later HBW.out))
      go_wp2_with fail
      refine HG1.out.mono ?_
      rintro e w5 ⟨v5, rfl, ho5, hb5⟩
      have HO5 := Lib.hid ho5
      have HB5 := Lib.hid hb5
      have hbw5 := HBW.out.trans (hb5.mono HBW.out.size)
      have HG2 := Lib.hid (Tc.rget_any w5 T q s o.topic o.off (HK.out.later hbw5) HG.out.L)
      rw [tc_eq] at HG2
      have hpw := HPW.out.below hb5 HPW.out.lt
      clear p1 p3
      have p1 := hpw.cell 1
      have p3 := hpw.cell 3
      simp only [List.getElem?_toArray, List.getElem?_cons_zero, List.getElem?_cons_succ] at p1 p3
      clear hpw ho5 hb5 hbw5 HG1
      go_wp2_with fail
      refine HG2.out.mono ?_
      rintro e w6 ⟨v6, rfl, hs6, hb6⟩
      have HS6 := Lib.hid hs6
      have HB6 := Lib.hid (HB5.out.trans (hb6.mono HB5.out.size))
      have HO6 := Lib.hid (own_below HO5.out hb6)
      have hbw6 := HBW.out.trans (HB6.out.mono HBW.out.size)
      have HN := Lib.hid (names_on w6 _ R p s (HZ.out.later hbw6))
      clear hs6 hb6 hbw6 HG2 p1 p3
      go_wp2_with fail
      refine HN.out.mono ?_
      rintro e w7 ⟨A7, c7, rfl, ho7, hb7⟩
      have HB7 := Lib.hid (HB6.out.trans (hb7.mono HB6.out.size))
      have hnl := HNS.out.1
      have HEQ := Lib.hid (equal_strs w7 (fun _ => False) (fun _ => False) A7 An c7 cn (s.L.map (·.n)) (Sl.of_own ho7 (fun _ _ _ h => h)) ((Sl.of_own (by have := HR.out.1; rw [List.take_of_length_le (by omega)] at this; rw [hnl]; exact this) (fun _ _ _ h => h) : Sl wr (fun _ => False) 1 (.slice An (s.L.map (·.n)).length cn) _ _).after HB7.out) (by rw [hnl]; omega))
      rw [hnl] at HEQ ⊢
      have HS7 := Lib.hid (HS6.out.after hb7)
      have HO7 := Lib.hid (own_below HO6.out hb7)
      clear ho7 hb7 hnl HN
      go_wp2_with fail
      refine HEQ.out.mono ?_
      rintro e w8 ⟨rfl, hb8⟩
      have HB8 := Lib.hid (HB7.out.trans (hb8.mono HB7.out.size))
      have HS8 := Lib.hid (HS7.out.after hb8)
      have HO8 := Lib.hid (own_below HO7.out hb8)
      have hbw8 := HBW.out.trans (HB8.out.mono HBW.out.size)
      have HST := Lib.hid (sameTopic_any w8 _ R T p q s o.topic o.group HX.out.1 HX.out.2 (HZ.out.later hbw8) (HK.out.later hbw8))
      have hpw := HPW.out.below HB8.out HPW.out.lt
      have p1 := hpw.cell 1
      have p2 := hpw.cell 2
      simp only [List.getElem?_toArray, List.getElem?_cons_zero, List.getElem?_cons_succ] at p1 p2
      clear hpw hb8 hbw8 HEQ
      go_wp2_with fail
      refine HST.out.mono ?_
      rintro e w9 ⟨rfl, hb9⟩
      have HB9 := Lib.hid (HB8.out.trans (hb9.mono HB8.out.size))
      have HQ9 := Lib.hid (eql_any w9 (fun _ => False) _ v5 v6 _ _ _ (Sl.of_own (own_below HO8.out hb9) (fun _ _ _ h => h)) (HS8.out.after hb9))
      clear hb9 HST p1 p2
      go_wp2_with fail
      refine HQ9.out.mono ?_
      rintro e w10 ⟨rfl, rfl⟩
      have hbw9 := HBW.out.trans (HB9.out.mono HBW.out.size)
      have HBY := Lib.hid (bytes_all w9 _ R p s (HZ.out.later hbw9) (fun k hk => by have := hk.2; have := hbw9.size; omega))
      clear hbw9 HQ9
      go_wp2_with fail
      refine HBY.out.mono ?_
      rintro e w10 ⟨v10, rfl, ho10, hb10⟩
      have HO10 := Lib.hid ho10
      have HB10 := Lib.hid (HB9.out.trans (hb10.mono HB9.out.size))
      have hbw10 := HBW.out.trans (HB10.out.mono HBW.out.size)
      have HRB := Lib.hid (rbytes_tk w10 T q s (HK.out.later hbw10) HG.out)
      clear ho10 hb10 hbw10 HBY
      go_wp2_with fail
      refine HRB.out.mono ?_
      rintro e w11 ⟨v11, rfl, ho11, hb11⟩
      have HB11 := Lib.hid (HB10.out.trans (hb11.mono HB10.out.size))
      have HQ11 := Lib.hid (Cr.equal_same w11 (fun _ => False) (fun _ => False) v10 v11 _ _ _ (Sl.of_own (own_below HO10.out hb11) (fun _ _ _ h => h)) (Sl.of_own ho11 (fun _ _ _ h => h)))
      clear ho11 hb11 HRB
      go_wp2_with fail
      refine HQ11.out.mono ?_
      rintro e w12 ⟨rfl, rfl⟩
      go_wp2_with fail
      go_ret
      exact ⟨rfl, HBW.out.trans (HB11.out.mono HBW.out.size)⟩
end Go.Proofs.YtkoedonllfmaaaaGreat.Xab

/-
  Layer 7: the program's reading of topics: takeTopic's own state.
-/
namespace Go.Proofs.YtkoedonllfmaaaaGreat.Xc
set_option linter.unusedSimpArgs false
open Go Go.RowKit Ck Kw Ca Cb Ce Ch Ga Kf Km Pm Pa Pp Pz Qb Qt Tm Tn Tq Aa Ab Ac Ad Xa Xb Xm
attribute [local go_sem ↓] Go.wp_at_zero Go.wp_at_succ
set_option linter.unusedVariables false
set_option maxRecDepth 100000

/-- While a topic is read: its block, its map of groups, its records, the reader. -/
structure TT (w0 : World) (X : Nat → Prop) (g gt mg B : Nat) (b : Nat) (v : Value) (rs : List Tx) (n : Nat) (D : DataW Unit) (s : Cm.RS) (W : World) : Prop where
  grown : w0.grownBy W (some g)
  old : g < w0.heap.size
  size : B ≤ W.heap.size
  hgt : w0.heap.size ≤ gt ∧ gt < B
  hmg : w0.heap.size ≤ mg ∧ mg < B ∧ mg ≠ gt
  blk : Blk W gt 102 #[.int .i64 (b : Int), v, .map (some mg)]
  map : W.ownsMap Tryz.prog 9 inElem mg n D
  row : ∃ vals, W.ownsRow B 55 1 v rs.length vals ∧ ∀ i (hi : i < rs.length), ∃ u, vals[i]? = some u ∧ Sl W (fun k => k < B ∨ v.ownBlock = some k) 1 u rs[i].length (BVs rs[i])
  rd : CR W (fun k => X k ∨ w0.heap.size ≤ k) g s
section
variable {w0 W W' : World} {X : Nat → Prop} {g gt mg B b n : Nat} {v : Value} {rs : List Tx} {D : DataW Unit} {s s' : Cm.RS}
/-- Only the reader goes on. -/
theorem TT.next (h : TT w0 X g gt mg B b v rs n D s W) (hg : W.grownBy W' (some g)) (hc : CR W' (fun k => X k ∨ w0.heap.size ≤ k) g s') : TT w0 X g gt mg B b v rs n D s' W' := by
  have o := h.old
  have h1 := h.hgt
  have h2 := h.hmg
  have c : Ch (fun k => k = g) W W' := Ch.of_grown hg (fun q hq _ => by injection hq with hq; exact hq.symm)
  obtain ⟨vals, r1, r2⟩ := h.row
  refine ⟨h.grown.trans hg, o, Nat.le_trans h.size hg.size, h1, h2, h.blk.ch c (by omega), map_ch h.map c (by omega), ⟨vals, own_ch r1 c (fun q hq e => ?_), fun i hi => ?_⟩, hc⟩
  · have := (r1.lt q hq).1; omega
  · obtain ⟨u, hu, hs⟩ := r2 i hi
    exact ⟨u, hu, hs.ch c (fun k _ hk => .inl (by omega))⟩
theorem TT.later (h : TT w0 X g gt mg B b v rs n D s W) (hb : Below W.heap.size W W') : TT w0 X g gt mg B b v rs n D s W' := h.next (grown_of_below hb _) (h.rd.after hb)
theorem TT.bare (h : TT w0 X g gt mg B b v rs n D s W) : CR W X g s := h.rd.weaken (fun k _ hk => .inl hk)
/-- A block of its own turns. -/
theorem TT.turn {q : Nat} (h : TT w0 X g gt mg B b v rs n D s W) (c : Ch (fun k => k = q) W W') (hq : q = gt ∨ q = mg) {b' n' : Nat} {D' : DataW Unit} (hb : Blk W' gt 102 #[.int .i64 (b' : Int), v, .map (some mg)]) (hm : W'.ownsMap Tryz.prog 9 inElem mg n' D') : TT w0 X g gt mg B b' v rs n' D' s W' := by
  have o := h.old
  have h1 := h.hgt
  have h2 := h.hmg
  obtain ⟨vals, r1, r2⟩ := h.row
  have hgr : W.grownBy W' (some q) := ⟨c.os, c.tape, c.output, c.size, fun i hi hne => c.block i hi (fun e => hne (by rw [e]))⟩
  have hq0 : w0.heap.size ≤ q ∧ q < B := by rcases hq with rfl | rfl <;> omega
  refine ⟨grown_step h.grown hgr (.inr fun k hk => by injection hk with hk; omega), o, Nat.le_trans h.size c.size, h1, h2, hb, hm, ⟨vals, own_ch r1 c (fun k hk e => ?_), fun i hi => ?_⟩, ?_⟩
  · have := (r1.lt k hk).1; omega
  · obtain ⟨u, hu, hs⟩ := r2 i hi
    exact ⟨u, hu, hs.ch c (fun k _ hk => .inl (by omega))⟩
  · exact h.rd.grown hgr (fun e => by injection e with e; omega) (fun k hk _ => by injection hk with hk; exact .inr (by omega))
/-- The base is set. -/
theorem TT.base (h : TT w0 X g gt mg B b v rs n D s W) (b' : Nat) : TT w0 X g gt mg B b' v rs n D s (W.setCell ⟨gt, 0, none⟩ (.int .i64 (b' : Int))) := by
  have c : Ch (fun k => k = gt) W (W.setCell ⟨gt, 0, none⟩ (.int .i64 (b' : Int))) := (Ch.refl (fun k => k = gt) W).setCell (p := ⟨gt, 0, none⟩) (fun _ => rfl) _
  exact h.turn c (.inl rfl) (by have := h.blk.set_ 0 (.int .i64 (b' : Int)); simpa using this) (map_ch h.map c h.hmg.2.2)
/-- A group is noted. -/
theorem TT.put {D' : DataW Unit} (h : TT w0 X g gt mg B b v rs n D s W) (c : Ch (fun k => k = mg) W W') (hm : W'.ownsMap Tryz.prog 9 inElem mg (n + 1) D') : TT w0 X g gt mg B b v rs (n + 1) D' s W' :=
  h.turn c (.inr rfl) (h.blk.ch c (fun e => h.hmg.2.2 e.symm)) hm
/-- A record more. -/
theorem TT.one {w1 w2 : World} {vals : List Value} {u v2 : Value} {x : Tx} {s1 : Cm.RS} (h : TT w0 X g gt mg B b v rs n D s W) (hr : W.ownsRow B 55 1 v rs.length vals)
    (he : ∀ i (hi : i < rs.length), ∃ u, vals[i]? = some u ∧ Sl W (fun k => k < B ∨ v.ownBlock = some k) 1 u rs[i].length (BVs rs[i]))
    (hu : w1.ownsRow W.heap.size 5 1 u x.length (BVs x)) (hg : W.grownBy w1 (some g)) (hc : CR w1 (fun k => X k ∨ w0.heap.size ≤ k) g s1)
    (happ : Appended (w1.alloc (.cells #[u] 55)) B 55 1 v (rs.length + 1) (vals ++ [u]) v2 w2) :
    TT w0 X g gt mg B b v2 (rs ++ [x]) n D s1 (w2.setCell ⟨gt, 1, none⟩ v2) := by
  have o := h.old
  have h1 := h.hgt
  have h2 := h.hmg
  have hsz := h.size
  have c1 : Ch (fun k => k = g) W w1 := Ch.of_grown hg (fun q hq _ => by injection hq with hq; exact hq.symm)
  have b2 : Below w1.heap.size w1 (w1.alloc (.cells #[u] 55)) := op_below _ _
  have hrow1 : (w1.alloc (.cells #[u] 55)).ownsRow B 55 1 v rs.length vals := own_below (own_ch hr c1 (fun q hq e => by have := (hr.lt q hq).1; omega)) b2
  have hblk1 : Blk (w1.alloc (.cells #[u] 55)) gt 102 #[.int .i64 (b : Int), v, .map (some mg)] := (h.blk.ch c1 (by omega)).alloc _
  have hmap1 := map_ch (map_ch h.map c1 (by omega)) (Ch.of_below (S := fun _ => False) b2 (Nat.le_refl _)) (fun h => h)
  have hff := own_far hrow1 hblk1 (by decide)
  have hmf := map_row hmap1 hrow1
  obtain ⟨ha, hgr, hv⟩ := happ
  have c3 : Ch (fun k => v.ownBlock = some k) (w1.alloc (.cells #[u] 55)) w2 := Ch.of_grown hgr (fun q hq _ => hq)
  have s1 := hg.size
  have s2 := b2.size
  have s3 := hgr.size
  have c4 : Ch (fun k => k = gt) w2 (w2.setCell ⟨gt, 1, none⟩ v2) := (Ch.refl (fun k => k = gt) w2).setCell (p := ⟨gt, 1, none⟩) (fun _ => rfl) _
  have s4 := c4.size
  have hvB : ∀ q, v.ownBlock = some q → B ≤ q ∧ q < W.heap.size := fun q hq => hr.lt q hq
  have hrd1 := (hc.after b2).grown hgr (fun e => by have := (hvB g e.symm).1; omega) (fun k hk _ => .inr (by have := (hvB k hk).1; omega))
  have gr4 : w2.grownBy (w2.setCell ⟨gt, 1, none⟩ v2) (some gt) := ⟨c4.os, c4.tape, c4.output, c4.size, fun i hi hne => c4.block i hi (fun e => hne (by rw [e]))⟩
  refine ⟨?_, o, by omega, h1, h2, ?_, map_ch (map_ch hmap1 c3 (fun e => hmf e)) c4 (by omega), ⟨vals ++ [u], ?_, fun i hi => ?_⟩, ?_⟩
  · exact grown_step (grown_step (grown_below (h.grown.trans hg) b2) hgr (.inr fun k hk => by have := (hvB k hk).1; omega)) gr4 (.inr fun k hk => by injection hk with hk; omega)
  · have := (hblk1.ch c3 hff).set_ 1 v2
    simpa using this
  · have := own_ch ha c4 (fun q hq e => by
      have := (ha.lt q hq).1; omega)
    simpa using this
  · by_cases hlt : i < rs.length
    · obtain ⟨y, hy, hs⟩ := he i hlt
      refine ⟨y, by rw [List.getElem?_append_left (by have := hr.1; omega)]; exact hy, ?_⟩
      have e : (rs ++ [x])[i] = rs[i] := List.getElem_append_left hlt
      simp only [e]
      have hs1 := (((hs.ch c1 (fun k _ hk => .inl (by omega))).after b2).old (Nat.le_refl _)).ch c3 (fun k _ hk => .inl (.inr hk))
      refine (hs1.weaken (Y := fun k => k < B ∨ v2.ownBlock = some k) (fun k _ hk => ?_)).ch c4 (fun k _ hk => .inl (by omega))
      rcases hk with hk | hk
      · exact .inl (.inl hk)
      · rcases hv with hv | hv
        · exact .inl (.inr (by rw [← hv]; exact hk))
        · rw [hv] at hk; injection hk with hk; exact .inr (by omega)
    · have hi' : i = rs.length := by simp only [List.length_append, List.length_singleton] at hi; omega
      subst hi'
      refine ⟨u, by rw [List.getElem?_append_right (by have := hr.1; omega), show rs.length - vals.length = 0 by have := hr.1; omega]; rfl, ?_⟩
      have e : (rs ++ [x])[rs.length] = x := by simp
      simp only [e]
      have hu2 := own_ch (own_below hu b2) c3 (fun q hq e => by have := (hu.lt q hq).1; have := (hvB q e).2; omega)
      refine (Sl.of_own' hu2 (X := fun k => k < B ∨ v2.ownBlock = some k) (fun q hq hX => ?_)).ch c4 (fun k _ hk => .inl (by omega))
      have hq1 := hu.lt q hq
      rcases hX with hX | hX
      · omega
      · rcases hv with hv | hv
        · have := (hvB q (by rw [← hv]; exact hX)).2; omega
        · rw [hv] at hX; injection hX with hX; have hz : (w1.alloc (.cells #[u] 55)).heap.size = w1.heap.size + 1 := by simp
          omega
  · exact hrd1.grown gr4 (fun e => by injection e with e; omega) (fun k hk _ => by injection hk with hk; exact .inr (by omega))
end
end Go.Proofs.YtkoedonllfmaaaaGreat.Xc

/-
  Layer 7: the program's reading of topics: takeTopic.
-/
namespace Go.Proofs.YtkoedonllfmaaaaGreat.Xd
set_option linter.unusedSimpArgs false
open Go Go.RowKit Ck Kw Ca Cb Ce Ch Ci Ga Kf Km Pm Pa Pp Pz Qb Qt Tm Tn Tq Aa Ab Ac Ad Xa Xb Xm Xc
attribute [local go_sem ↓] Go.wp_at_zero Go.wp_at_succ
set_option linter.unusedVariables false
set_option maxRecDepth 100000

/-- What takeTopic leaves. -/
def TopicTaken (w : World) (X : Nat → Prop) (g : Nat) (r : Tp × Cm.RS) (e : Ending) (w' : World) : Prop :=
  ∃ gt mg v T R, e = .returned (.pointer (some ⟨gt, 0, none⟩)) ∧ w.grownBy w' (some g) ∧ CR w' X g r.2 ∧ (r.2.2 = 0 → Tg w' T R gt r.1 v mg) ∧ (∀ k, T k → w.heap.size ≤ k ∧ k < w'.heap.size) ∧ ∀ k, R k → w.heap.size ≤ k ∧ k < w'.heap.size ∧ ¬ T k
theorem TT.done {w W : World} {X : Nat → Prop} {g gt mg B b n : Nat} {v : Value} {rs : List Tx} {D : DataW Unit} {s : Cm.RS} {r : Tp × Cm.RS} {gs : List Gp} {nm : Tx} (h : TT w X g gt mg B b v rs n D s W) (ht : s.2 = 0 → TellsG D gs) (hr : r = (⟨nm, b, rs, gs⟩, s)) : TopicTaken w X g r (.returned (.pointer (some ⟨gt, 0, none⟩))) W := by
  subst hr
  have h1 := h.hgt
  have h2 := h.hmg
  have hsz := h.size
  obtain ⟨vals, r1, r2⟩ := h.row
  refine ⟨gt, mg, v, (fun k => k = gt ∨ k = mg ∨ v.ownBlock = some k), (fun k => B ≤ k ∧ k < W.heap.size ∧ v.ownBlock ≠ some k), rfl, h.grown, h.bare, fun hs => ⟨h.blk, ⟨vals, own_base r1 (Nat.zero_le _), fun i hi => ?_⟩, ⟨D, own_tight h.map, ht hs⟩, .inl rfl, fun k hk => .inr (.inr hk), .inr (.inl rfl)⟩, fun k hk => ?_, fun k hk => ⟨by omega, hk.2.1, fun hT => ?_⟩⟩
  · obtain ⟨u, hu, hs⟩ := r2 i hi
    refine ⟨u, hu, hs.weaken (fun k hk hR => ?_)⟩
    rcases Classical.em (v.ownBlock = some k) with e | e
    · exact .inr e
    · rcases Nat.lt_or_ge k B with q | q
      · exact .inl q
      · exact absurd ⟨q, hk, e⟩ hR
  · rcases hk with rfl | rfl | hk
    · omega
    · omega
    · have := r1.lt k hk; omega
  · rcases hT with rfl | rfl | hT
    · omega
    · omega
    · exact hk.2.2 hT
end Go.Proofs.YtkoedonllfmaaaaGreat.Xd
