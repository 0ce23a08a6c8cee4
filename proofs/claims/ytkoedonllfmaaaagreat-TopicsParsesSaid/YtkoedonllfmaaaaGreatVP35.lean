/-
  Layer 7's laws: same, on topics that are the same on both sides.
-/
import Derived.Test.YtkoedonllfmaaaaGreatVP34
import Derived.Test.YtkoedonllfmaaaaGreatVPCi
import Derived.Test.YtkoedonllfmaaaaGreatVP24
import Derived.Test.YtkoedonllfmaaaaGreatVPCo
import Derived.Test.YtkoedonllfmaaaaGreatVP09
import Derived.Test.YtkoedonllfmaaaaGreatVP13
import Derived.Test.YtkoedonllfmaaaaGreatVP01
import Derived.Test.YtkoedonllfmaaaaGreatVP02
import Derived.Test.YtkoedonllfmaaaaGreatRows
import Derived.Maps.OwnSet
import Derived.Maps.StringElems
import Derived.DeepKeys4
namespace Go.Proofs.YtkoedonllfmaaaaGreat.Xab
set_option linter.unusedSimpArgs false
open Go Go.RowKit Ck Cd Kw Ga Kf Kx Km Pm Pe Pz Py Tm Tn Tq To Aa Ag Ah Ai Am Bq Br Ta Xa Xr Xo Bu Xj Xk Xl Xt Xy Xz Ds Xaa
attribute [local go_sem ↓] Go.wp_at_zero Go.wp_at_succ
set_option linter.unusedVariables false
set_option maxRecDepth 100000

theorem info_string : (Tryz.prog.info? 9).map (fun i => (i.zero, i.size, i.bytes)) = some (some (.string ⟨#[]⟩), 1, 16) := by kernel_rfl
theorem take_one (l : List Tx) (k : Nat) (h : k < l.length) : (l.take k).map SV ++ [SV l[k]] = (l.take (k + 1)).map SV := by
  rw [List.take_succ_eq_append_getElem h, List.map_append]
  rfl
theorem find_self {L : List Tp} (hr : RT L) {t : Tp} (ht : t ∈ L) : findT L t.n = some t := by
  cases hf : findT L t.n with
  | none => exact absurd rfl (findT_none hf t ht)
  | some u => rw [rt_one hr (findT_some hf).1 ht (findT_some hf).2]
set_option maxHeartbeats 4000000 in
theorem same_any (w : World) (S R T : Nat → Prop) (p q : Nat) (s : St) (o : O) (A : Option Addr) (c : Nat) (ht : o.topic.length ≤ 140737488355328) (hgl : o.group.length ≤ 140737488355328) (hz : Tz w S R p s) (hk : Tk w T q s) :
    Calls Tryz.prog 10 #[.pointer (some ⟨p, 0, none⟩), .pointer (some ⟨q, 0, none⟩), .agg #[.int .i64 o.kind, .string ⟨o.topic.toArray⟩, .string ⟨o.group.toArray⟩, .int .i64 o.off, .slice A o.recs.length c]] w fun e w' => e = .returned (.bool true) ∧ Below w.heap.size w w' := by
  have HG := Lib.hid hz.good
  have HZ := Lib.hid (Tz.bound hz)
  have HK := Lib.hid hk
  have HX := Lib.hid (And.intro ht hgl)
  have hb0 := Xr.op_below w (.cells #[.int .i64 o.kind, .string ⟨o.topic.toArray⟩, .string ⟨o.group.toArray⟩, .int .i64 o.off, .slice A o.recs.length c] 38)
  have hp0 : Blk (w.alloc (.cells #[.int .i64 o.kind, .string ⟨o.topic.toArray⟩, .string ⟨o.group.toArray⟩, .int .i64 o.off, .slice A o.recs.length c] 38)) w.heap.size 38 #[.int .i64 o.kind, .string ⟨o.topic.toArray⟩, .string ⟨o.group.toArray⟩, .int .i64 o.off, .slice A o.recs.length c] := Blk.new w _ _
  obtain ⟨l, lv, hL, hP⟩ := hk
  have hl8 : l.length ≤ 8 := by rw [← rows_len hL]; exact HG.out.L.few
  obtain ⟨Al, cl, rfl, hlc⟩ := hP.shape
  have HNS : Hid ((s.L.map (·.n)).length = l.length ∧ ∀ k (h : k < l.length) (h' : k < (s.L.map (·.n)).length), (s.L.map (·.n))[k] = l[k].1.n) := Lib.hid ⟨by rw [List.length_map, rows_len hL], fun k h h' => by
    have := rows_at hL h
    rw [List.getElem_map]
    obtain ⟨_, e⟩ := List.getElem?_eq_some_iff.1 this
    rw [e]⟩
  have c0 : (w.alloc (.cells #[.int .i64 o.kind, .string ⟨o.topic.toArray⟩, .string ⟨o.group.toArray⟩, .int .i64 o.off, .slice A o.recs.length c] 38)).cell? ⟨q, 0, none⟩ = some (.slice Al l.length cl) := by have := (hP.blk.below hb0 hP.blk.lt).cell 0; simpa using this
  have HB0 := Lib.hid hb0
  have HP0 := Lib.hid hp0
  have HP := Lib.hid hP
  have HL := Lib.hid hL
  obtain ⟨i0, hi0', hs0, hs1, hs2⟩ := info_parts info_string
  clear hz hL hP hb0 hp0 ht hgl
  go_enter Tryz.func10, Tryz.ntmps10
  go_wp2_with fail
  generalize w.alloc (.cells #[.int .i64 o.kind, .string ⟨o.topic.toArray⟩, .string ⟨o.group.toArray⟩, .int .i64 o.off, .slice A o.recs.length c] 38) = w0 at *
  clear c0
  go_loopw [7, 22] (fun v i W => ∃ (k : Nat) (A : Option Addr) (c : Nat), k ≤ l.length ∧ i = .int .i64 k ∧ v = .slice A k c ∧ W.ownsRow w0.heap.size 9 1 (.slice A k c) k (((s.L.map (·.n)).take k).map SV) ∧ Below w0.heap.size w0 W) (fun _ i _ => l.length - (intOf i).toNat)
  case atStart => exact ⟨0, none, 0, Nat.zero_le _, rfl, rfl, by rw [List.take_zero]; exact World.ownsRow_nil _ _ _ _, Below.refl _ _⟩
  case round =>
    obtain ⟨k, An, cn, hk, rfl, rfl, hrow, hB⟩ := hrel
    have HR := Lib.hid (And.intro hrow hB)
    have HBW := Lib.hid (HB0.out.trans (hB.mono HB0.out.size))
    clear hrow hB
    by_cases hlt : k < l.length
    · obtain ⟨ad, rfl, -, -, hat⟩ := (HP.out.later HBW.out).at_ hlt
      have htw := HP.out.each l[k] (List.getElem_mem hlt)
      have htin : l[k].1 ∈ s.L := by rw [← HL.out]; exact List.mem_map.2 ⟨_, List.getElem_mem hlt, rfl⟩
      have hft : FitT l[k].1 := HG.out.L.fit _ htin
      have hfs := find_self HG.out.L.rises htin
      have hnk := HNS.out.2 k hlt (by rw [HNS.out.1]; exact hlt)
      have htk := take_one (s.L.map (·.n)) k (by rw [HNS.out.1]; exact hlt)
      rw [hnk] at htk
      obtain ⟨vs, hvl, hvr⟩ := htw.recs
      obtain ⟨Ar, cr, hrv, -⟩ := id hvl
      obtain ⟨Ag, cg, hgv, -⟩ := id htw.gs
      generalize hx : l[k] = x at *
      clear hx hvl hvr htin hnk
      obtain ⟨t, rv, gv⟩ := x
      simp only at hrv hgv htw hft hfs htk
      subst hrv hgv
      obtain ⟨a0, a1, a2, a3, -, -, -, -⟩ := hat
      simp only at a0 a1 a2 a3
      have HFS := Lib.hid hfs
      have HTK := Lib.hid htk
      have HTW := Lib.hid htw
      have hn64 := hft.n
      have hg8 := hft.groups
      have hkl : (k : Int) < (l.length : Int) := by omega
      have HBX : Hid (Blk (wr.alloc (.cells #[.string ⟨t.n.toArray⟩, .int .i64 t.base, .slice Ar t.recs.length cr, .slice Ag t.gs.length cg] 74)) wr.heap.size 74 #[.string ⟨t.n.toArray⟩, .int .i64 t.base, .slice Ar t.recs.length cr, .slice Ag t.gs.length cg]) := Lib.hid (Blk.new wr _ _)
      have HBB := Lib.hid (Xr.op_below wr (.cells #[.string ⟨t.n.toArray⟩, .int .i64 t.base, .slice Ar t.recs.length cr, .slice Ag t.gs.length cg] 74))
      have y0 := HBX.out.cell 0
      have y3 := HBX.out.cell 3
      simp only [List.getElem?_toArray, List.getElem?_cons_zero, List.getElem?_cons_succ] at y0 y3
      clear htw hft hfs htk
      go_upto_region 5 with fail
      generalize hw1 : wr.alloc (.cells #[.string ⟨t.n.toArray⟩, .int .i64 t.base, .slice Ar t.recs.length cr, .slice Ag t.gs.length cg] 74) = w1 at *
      clear hw1 a0 a1 a2 a3
      generalize hwo : wr = wo at *
      clear hwo
      have HO1 := Lib.hid (own_below HR.out.1 HBB.out)
      have HT5 : Hid (∀ (A2 : Option Addr) (c2 : Nat) (w2 : World), Appended (w1.alloc (.cells #[.string ⟨t.n.toArray⟩] 9)) w0.heap.size 9 1 (.slice An k cn) (k + 1) (((s.L.map (·.n)).take k).map SV ++ [SV t.n]) (.slice A2 (k + 1) c2) w2 → w2.ownsRow w0.heap.size 9 1 (.slice A2 (k + 1) c2) (k + 1) (((s.L.map (·.n)).take k).map SV ++ [SV t.n]) ∧ Below w0.heap.size w0 w2 ∧ Blk w2 wo.heap.size 74 #[.string ⟨t.n.toArray⟩, .int .i64 t.base, .slice Ar t.recs.length cr, .slice Ag t.gs.length cg]) := Lib.hid (fun A2 c2 w2 happ => by
        have h1 := HR.out.2.size
        have h2 := HBB.out.size
        refine ⟨happ.1, below_of_app (W1 := w0) ((HR.out.2.trans (HBB.out.mono h1)).trans ((Xr.op_below w1 _).mono (by omega))) (HO1.out.alloc _) happ, ?_⟩
        exact (HBX.out.alloc (.cells #[.string ⟨t.n.toArray⟩] 9)).ch (Ch.of_grown happ.2.1 (fun g hg _ => hg) : Ch (fun g => (Value.slice An k cn).ownBlock = some g) _ w2) (own_far (HO1.out.alloc (.cells #[.string ⟨t.n.toArray⟩] 9)) (HBX.out.alloc (.cells #[.string ⟨t.n.toArray⟩] 9)) (by decide)))
      go_wp2_with (at_builtin; refine wpList_append_sh _ rfl (.tmp 26) (.tmp 29) _ rfl w0.heap.size 9 i0 _ 1 16 Tryz.underlying71 hi0' hs0 hs1 hs2 rfl (by omega) (.slice An k cn) k _ rfl (HO1.out.alloc _) (fun _ => False) _ 1 [SV t.n] rfl (Ci.one_newv w1 (fun _ => False) 9 _ (fun h => h)) (by intro u hu; rw [List.mem_singleton] at hu; subst hu; rfl) (by simp only [maxLen]; omega) (by omega) (by have h1 := HR.out.2.size; have h2 := HBB.out.size; simp; omega) ?_; intro A2 c2 w2 happ; have h5 := HT5.out A2 c2 w2 happ; have HAP := Lib.hid h5.1; have HB2 := Lib.hid h5.2.1; have HX2 := Lib.hid h5.2.2; clear happ h5 y0 y3; have y0 := HX2.out.cell 0; have y3 := HX2.out.cell 3; simp only [List.getElem?_toArray, List.getElem?_cons_zero, List.getElem?_cons_succ] at y0 y3)
      have HROW : Hid (w2.ownsRow w0.heap.size 9 1 (.slice A2 (k + 1) c2) (k + 1) (((s.L.map (·.n)).take (k + 1)).map SV)) := Lib.hid (by rw [← HTK.out]; exact HAP.out)
      clear y0 y3
      go_loopw [10, 34] (fun v i W => ∃ (j : Nat) (A : Option Addr) (c : Nat), j ≤ t.gs.length ∧ i = .int .i64 j ∧ v = .slice A j c ∧ W.ownsRow w2.heap.size 9 1 (.slice A j c) j (((t.gs.map (·.n)).take j).map SV) ∧ Below w2.heap.size w2 W) (fun _ i _ => t.gs.length - (intOf i).toNat)
      case atStart => exact ⟨0, none, 0, Nat.zero_le _, rfl, rfl, by rw [List.take_zero]; exact World.ownsRow_nil _ _ _ _, Below.refl _ _⟩
      case round =>
        obtain ⟨j, Ah, ch, hj, rfl, rfl, hrow, hB⟩ := hrel
        have HR3 := Lib.hid (And.intro hrow hB)
        have HBV := Lib.hid (HB0.out.trans ((HB2.out.trans (hB.mono HB2.out.size)).mono HB0.out.size))
        clear hrow hB
        by_cases hj2 : j < t.gs.length
        · obtain ⟨ag, rfl, g0, g1⟩ := Td.grp_at ((show Sl w _ 2 (.slice Ag t.gs.length cg) t.gs.length (GCs t.gs) from HTW.out.gs).after HBV.out) hj2
          have htk := take_one (t.gs.map (·.n)) j (by rw [List.length_map]; exact hj2)
          rw [List.getElem_map] at htk
          have HTK3 := Lib.hid htk
          generalize t.gs[j] = g at *
          obtain ⟨gn, gp⟩ := g
          simp only at g0 g1 htk
          have hjn : (j : Int) < (t.gs.length : Int) := by omega
          have HB3 := Lib.hid (Xr.op_below wr (.cells #[.string ⟨gn.toArray⟩, .int .i64 gp] 76))
          have hbx3 : Blk (wr.alloc (.cells #[.string ⟨gn.toArray⟩, .int .i64 gp] 76)) wr.heap.size 76 #[.string ⟨gn.toArray⟩, .int .i64 gp] := Blk.new wr _ _
          have z0 := hbx3.cell 0
          simp only [List.getElem?_toArray, List.getElem?_cons_zero, List.getElem?_cons_succ] at z0
          clear htk hbx3
          have HO3 := Lib.hid (own_below HR3.out.1 HB3.out)
          have HT6 : Hid (∀ (A4 : Option Addr) (c4 : Nat) (w4 : World), Appended ((wr.alloc (.cells #[.string ⟨gn.toArray⟩, .int .i64 gp] 76)).alloc (.cells #[.string ⟨gn.toArray⟩] 9)) w2.heap.size 9 1 (.slice Ah j ch) (j + 1) (((t.gs.map (·.n)).take j).map SV ++ [SV gn]) (.slice A4 (j + 1) c4) w4 → w4.ownsRow w2.heap.size 9 1 (.slice A4 (j + 1) c4) (j + 1) (((t.gs.map (·.n)).take j).map SV ++ [SV gn]) ∧ Below w2.heap.size w2 w4) := Lib.hid (fun A4 c4 w4 happ => by
            have h1 := HR3.out.2.size
            have h2 := HB3.out.size
            exact ⟨happ.1, below_of_app (W1 := w2) ((HR3.out.2.trans (HB3.out.mono h1)).trans ((Xr.op_below (wr.alloc (.cells #[.string ⟨gn.toArray⟩, .int .i64 gp] 76)) _).mono (by omega))) (HO3.out.alloc _) happ⟩)
          have HS3 := Lib.hid (And.intro HR3.out.2.size HB3.out.size)
          go_upto_region 10 with fail
          generalize wr.alloc (.cells #[.string ⟨gn.toArray⟩, .int .i64 gp] 76) = w3 at *
          go_wp2_with (at_builtin; refine wpList_append_sh _ rfl (.tmp 38) (.tmp 41) _ rfl w2.heap.size 9 i0 _ 1 16 Tryz.underlying71 hi0' hs0 hs1 hs2 rfl (by omega) (.slice Ah j ch) j _ rfl (HO3.out.alloc _) (fun _ => False) _ 1 [SV gn] rfl (Ci.one_newv w3 (fun _ => False) 9 _ (fun h => h)) (by intro u hu; rw [List.mem_singleton] at hu; subst hu; rfl) (by simp only [maxLen]; omega) (by omega) (by have h1 := HS3.out; simp; omega) ?_; intro A4 c4 w4 happ; have h5 := HT6.out A4 c4 w4 happ; have HA4 := Lib.hid h5.1; have HB4 := Lib.hid h5.2; clear happ h5)
          go_roundw
          case rel => exact ⟨j + 1, A4, c4, by omega, by go_num, rfl, by rw [← HTK3.out]; exact HA4.out, HB4.out⟩
          case measure => simp [intOf]; omega
        · have hje : j = t.gs.length := by omega
          subst hje
          have hxw := HX2.out.below HR3.out.2 HX2.out.lt
          have hpw := HP0.out.below (HB2.out.trans (HR3.out.2.mono HB2.out.size)) HP0.out.lt
          have y0 := hxw.cell 0
          have p2 := hpw.cell 2
          simp only [List.getElem?_toArray, List.getElem?_cons_zero, List.getElem?_cons_succ] at y0 p2
          have HXW := Lib.hid hxw
          clear hxw hpw
          have HST := Lib.hid (sameTopic_any wr _ R T p q s t.n o.group (by omega) HX.out.2 (HZ.out.later HBV.out) (HK.out.later HBV.out))
          go_wp2_with fail
          refine HST.out.mono ?_
          rintro e w5 ⟨rfl, hb5⟩
          have HB5 := Lib.hid hb5
          have hbv5 := HBV.out.trans (hb5.mono HBV.out.size)
          have HGR := Lib.hid (groups_on w5 _ R p s t.n (by omega) (HZ.out.later hbv5))
          have hgt : groupsT s.L t.n = t.gs.map (·.n) := by rw [groupsT, HFS.out]
          rw [hgt] at HGR
          have hxw := HXW.out.below hb5 HXW.out.lt
          have v0 := hxw.cell 0
          simp only [List.getElem?_toArray, List.getElem?_cons_zero, List.getElem?_cons_succ] at v0
          clear y0 p2 hxw hb5 hbv5 hgt
          go_wp2_with fail
          refine HGR.out.mono ?_
          rintro e w6 ⟨A6, c6, rfl, ho6, hb6⟩
          have hgn : (t.gs.map (·.n)).length = t.gs.length := by simp
          have HEQ := Lib.hid (equal_strs w6 (fun _ => False) (fun _ => False) A6 Ah c6 ch (t.gs.map (·.n)) (Sl.of_own ho6 (fun _ _ _ h => h)) ((Sl.of_own (by have := HR3.out.1; rw [List.take_of_length_le (by omega)] at this; rw [hgn]; exact this) (fun _ _ _ h => h) : Sl wr (fun _ => False) 1 (.slice Ah (t.gs.map (·.n)).length ch) _ _).after (HB5.out.trans (hb6.mono HB5.out.size))) (by rw [hgn]; omega))
          rw [hgn] at HEQ ⊢
          have HB6 := Lib.hid (HB5.out.trans (hb6.mono HB5.out.size))
          clear ho6 hb6 hgn v0
          go_wp2_with fail
          refine HEQ.out.mono ?_
          rintro e w7 ⟨rfl, hb7⟩
          have HB7 := Lib.hid (HR3.out.2.trans ((HB6.out.trans (hb7.mono HB6.out.size)).mono HR3.out.2.size))
          clear hb7
          go_wp2_with fail
          go_roundw
          case rel => exact ⟨k + 1, A2, c2, by omega, by go_num, rfl, own_below HROW.out HB7.out, HB2.out.trans (HB7.out.mono HB2.out.size)⟩
          case measure => simp [intOf]; omega
    · have hke : k = l.length := by omega
      subst hke
      have hpw := HP0.out.below HR.out.2 HP0.out.lt
      have p1 := hpw.cell 1
      have p3 := hpw.cell 3
      simp only [List.getElem?_toArray, List.getElem?_cons_zero, List.getElem?_cons_succ] at p1 p3
      have HPW := Lib.hid hpw
      clear hpw
      have HG1 := Lib.hid (get_any wr _ R p s o.topic o.off HX.out.1 (HZ.out.later HBW.out))
      go_wp2_with fail
      refine HG1.out.mono ?_
      rintro e w5 ⟨v5, rfl, ho5, hb5⟩
      have HO5 := Lib.hid ho5
      have HB5 := Lib.hid hb5
      have hbw5 := HBW.out.trans (hb5.mono HBW.out.size)
      have HG2 := Lib.hid (Tc.rget_any w5 T q s o.topic o.off (HK.out.later hbw5) HG.out.L)
      rw [tc_eq] at HG2
      have hpw := HPW.out.below hb5 HPW.out.lt
      clear p1 p3
      have p1 := hpw.cell 1
      have p3 := hpw.cell 3
      simp only [List.getElem?_toArray, List.getElem?_cons_zero, List.getElem?_cons_succ] at p1 p3
      clear hpw ho5 hb5 hbw5 HG1
      go_wp2_with fail
      refine HG2.out.mono ?_
      rintro e w6 ⟨v6, rfl, hs6, hb6⟩
      have HS6 := Lib.hid hs6
      have HB6 := Lib.hid (HB5.out.trans (hb6.mono HB5.out.size))
      have HO6 := Lib.hid (own_below HO5.out hb6)
      have hbw6 := HBW.out.trans (HB6.out.mono HBW.out.size)
      have HN := Lib.hid (names_on w6 _ R p s (HZ.out.later hbw6))
      clear hs6 hb6 hbw6 HG2 p1 p3
      go_wp2_with fail
      refine HN.out.mono ?_
      rintro e w7 ⟨A7, c7, rfl, ho7, hb7⟩
      have HB7 := Lib.hid (HB6.out.trans (hb7.mono HB6.out.size))
      have hnl := HNS.out.1
      have HEQ := Lib.hid (equal_strs w7 (fun _ => False) (fun _ => False) A7 An c7 cn (s.L.map (·.n)) (Sl.of_own ho7 (fun _ _ _ h => h)) ((Sl.of_own (by have := HR.out.1; rw [List.take_of_length_le (by omega)] at this; rw [hnl]; exact this) (fun _ _ _ h => h) : Sl wr (fun _ => False) 1 (.slice An (s.L.map (·.n)).length cn) _ _).after HB7.out) (by rw [hnl]; omega))
      rw [hnl] at HEQ ⊢
      have HS7 := Lib.hid (HS6.out.after hb7)
      have HO7 := Lib.hid (own_below HO6.out hb7)
      clear ho7 hb7 hnl HN
      go_wp2_with fail
      refine HEQ.out.mono ?_
      rintro e w8 ⟨rfl, hb8⟩
      have HB8 := Lib.hid (HB7.out.trans (hb8.mono HB7.out.size))
      have HS8 := Lib.hid (HS7.out.after hb8)
      have HO8 := Lib.hid (own_below HO7.out hb8)
      have hbw8 := HBW.out.trans (HB8.out.mono HBW.out.size)
      have HST := Lib.hid (sameTopic_any w8 _ R T p q s o.topic o.group HX.out.1 HX.out.2 (HZ.out.later hbw8) (HK.out.later hbw8))
      have hpw := HPW.out.below HB8.out HPW.out.lt
      have p1 := hpw.cell 1
      have p2 := hpw.cell 2
      simp only [List.getElem?_toArray, List.getElem?_cons_zero, List.getElem?_cons_succ] at p1 p2
      clear hpw hb8 hbw8 HEQ
      go_wp2_with fail
      refine HST.out.mono ?_
      rintro e w9 ⟨rfl, hb9⟩
      have HB9 := Lib.hid (HB8.out.trans (hb9.mono HB8.out.size))
      have HQ9 := Lib.hid (eql_any w9 (fun _ => False) _ v5 v6 _ _ _ (Sl.of_own (own_below HO8.out hb9) (fun _ _ _ h => h)) (HS8.out.after hb9))
      clear hb9 HST p1 p2
      go_wp2_with fail
      refine HQ9.out.mono ?_
      rintro e w10 ⟨rfl, rfl⟩
      have hbw9 := HBW.out.trans (HB9.out.mono HBW.out.size)
      have HBY := Lib.hid (bytes_all w9 _ R p s (HZ.out.later hbw9) (fun k hk => by have := hk.2; have := hbw9.size; omega))
      clear hbw9 HQ9
      go_wp2_with fail
      refine HBY.out.mono ?_
      rintro e w10 ⟨v10, rfl, ho10, hb10⟩
      have HO10 := Lib.hid ho10
      have HB10 := Lib.hid (HB9.out.trans (hb10.mono HB9.out.size))
      have hbw10 := HBW.out.trans (HB10.out.mono HBW.out.size)
      have HRB := Lib.hid (rbytes_tk w10 T q s (HK.out.later hbw10) HG.out)
      clear ho10 hb10 hbw10 HBY
      go_wp2_with fail
      refine HRB.out.mono ?_
      rintro e w11 ⟨v11, rfl, ho11, hb11⟩
      have HB11 := Lib.hid (HB10.out.trans (hb11.mono HB10.out.size))
      have HQ11 := Lib.hid (Cr.equal_same w11 (fun _ => False) (fun _ => False) v10 v11 _ _ _ (Sl.of_own (own_below HO10.out hb11) (fun _ _ _ h => h)) (Sl.of_own ho11 (fun _ _ _ h => h)))
      clear ho11 hb11 HRB
      go_wp2_with fail
      refine HQ11.out.mono ?_
      rintro e w12 ⟨rfl, rfl⟩
      go_wp2_with fail
      go_ret
      exact ⟨rfl, HBW.out.trans (HB11.out.mono HBW.out.size)⟩
end Go.Proofs.YtkoedonllfmaaaaGreat.Xab

/-
  Layer 7: words for the document's reading of topics; told; next of a topic that may be too great.
-/
namespace Go.Proofs.YtkoedonllfmaaaaGreat.Xac
set_option linter.unusedSimpArgs false
open Go Go.RowKit Ck Ca Ch Ci Cj Cn Co Kw Ga Kf Km Pm Pe Pz Py Tm Tn Tq Ah Ta Tb Xr Xs
attribute [local go_sem ↓] Go.wp_at_zero Go.wp_at_succ
set_option linter.unusedVariables false
set_option maxRecDepth 100000

theorem rr_ch {w w' : World} {Y S : Nat → Prop} {g : Nat} {s : Cm.RS} (h : RR w Y g s) (c : Kw.Ch S w w') (hS : ∀ k, k < w.heap.size → S k → Y k ∧ k ≠ g) : RR w' Y g s := by
  obtain ⟨A, n, cc, hb, hsl, hgd⟩ := h
  have hlt := hb.lt
  exact ⟨A, n, cc, hb.ch c (fun hs => (hS g hlt hs).2 rfl), hsl.ch c (fun k hk hs => .inr (hS k hk hs).1), hgd⟩
/-- A topic's records as they are read: bytes, and the slice that bears them. -/
abbrev Rw := Tx × Value
/-- A topic that is being read: its result's block, its own block, its rows, the reader. -/
structure TR (w : World) (X : Nat → Prop) (g gr gx : Nat) (n : Tx) (base : Int) (pl : List Rw) (gs : List Gp) (vr vg : Value) (s : Cm.RS) (W : World) : Prop where
  ch : Kw.Ch (fun k => k = g) w W
  res : Blk W gr 74 #[.string ⟨#[]⟩, .int .i64 0, .slice none 0 0, .slice none 0 0]
  box : Blk W gx 74 #[.string ⟨n.toArray⟩, .int .i64 base, vr, vg]
  own : W.ownsRow w.heap.size 55 1 vr pl.length (pl.map (·.2))
  els : ∀ y ∈ pl, W.ownsRow w.heap.size 5 1 y.2 y.1.length (BVs y.1)
  gown : W.ownsRow w.heap.size 76 2 vg gs.length (GCs gs)
  rr : RR W (fun k => X k ∨ w.heap.size ≤ k) g s
  lg : g < w.heap.size
  lr : w.heap.size ≤ gr
  lx : w.heap.size ≤ gx
  ne : gr ≠ gx
section
variable {w W W1 W2 : World} {X : Nat → Prop} {g gr gx : Nat} {n : Tx} {base : Int} {pl : List Rw} {gs : List Gp} {vr vg : Value} {s s1 : Cm.RS}
theorem TR.later (h : TR w X g gr gx n base pl gs vr vg s W) (b : Below W.heap.size W W1) : TR w X g gr gx n base pl gs vr vg s W1 :=
  ⟨h.ch.trans (Kw.Ch.of_below (S := fun k => k = g) b (Nat.le_refl _)) (fun k _ h => h), h.res.below b h.res.lt, h.box.below b h.box.lt, own_below h.own b, fun y hy => own_below (h.els y hy) b, own_below h.gown b, h.rr.after b, h.lg, h.lr, h.lx, h.ne⟩
theorem TR.read (h : TR w X g gr gx n base pl gs vr vg s W) (hg : W.grownBy W1 (some g)) (hr : RR W1 (fun k => X k ∨ w.heap.size ≤ k) g s1) : TR w X g gr gx n base pl gs vr vg s1 W1 := by
  have c : Kw.Ch (fun k => k = g) W W1 := Kw.Ch.of_grown hg (fun q hq _ => by injection hq with hq; exact hq.symm)
  have hl := h.lg
  have hf : ∀ {e : TypeId} {size m : Nat} {v : Value} {xs : List Value}, W.ownsRow w.heap.size e size v m xs → ∀ k, v.ownBlock = some k → ¬ k = g := fun ho k hk e => by have := (ho.lt k hk).1; omega
  exact ⟨h.ch.trans c (fun k _ h => h), h.res.ch c (fun e => by have := h.lr; omega), h.box.ch c (fun e => by have := h.lx; omega), own_ch h.own c (hf h.own), fun y hy => own_ch (h.els y hy) c (hf (h.els y hy)), own_ch h.gown c (hf h.gown), hr, h.lg, h.lr, h.lx, h.ne⟩
theorem TR.set (h : TR w X g gr gx n base pl gs vr vg s W) (b : Int) : TR w X g gr gx n b pl gs vr vg s (W.setCell ⟨gx, 1, none⟩ (.int .i64 b)) := by
  have c : Kw.Ch (fun k => k = gx) W (W.setCell ⟨gx, 1, none⟩ (.int .i64 b)) := (Kw.Ch.refl (fun k => k = gx) W).setCell (p := ⟨gx, 1, none⟩) (fun _ => rfl) _
  have hl := h.lg
  have hx := h.lx
  refine ⟨h.ch.trans c (fun k hk e => by omega), h.res.ch c h.ne, ?_, own_ch h.own c (fun k hk e => own_far h.own h.box (by decide) (by rw [← e]; exact hk)), fun y hy => own_ch (h.els y hy) c (fun k hk e => own_far (h.els y hy) h.box (by decide) (by rw [← e]; exact hk)), own_ch h.gown c (fun k hk e => own_far h.gown h.box (by decide) (by rw [← e]; exact hk)), rr_ch h.rr c (fun k _ e => ⟨.inr (by omega), by omega⟩), h.lg, h.lr, h.lx, h.ne⟩
  have := h.box.set_ 1 (.int .i64 b)
  simpa using this
open Xl in
theorem TR.addr (h : TR w X g gr gx n base pl gs vr vg s W) {u v' : Value} {x : Tx} (hu : W.ownsRow w.heap.size 5 1 u x.length (BVs x)) (ha : Appended W w.heap.size 55 1 vr (pl.length + 1) (pl.map (·.2) ++ [u]) v' W1) :
    TR w X g gr gx n base (pl ++ [(x, u)]) gs v' vg s (W1.setCell ⟨gx, 2, none⟩ v') := by
  have hl := h.lg
  have hx := h.lx
  have c2 : Kw.Ch (fun k => vr.ownBlock = some k) W W1 := Kw.Ch.of_grown ha.2.1 (fun q hq _ => hq)
  have c3 : Kw.Ch (fun k => k = gx) W1 (W1.setCell ⟨gx, 2, none⟩ v') := (Kw.Ch.refl (fun k => k = gx) W1).setCell (p := ⟨gx, 2, none⟩) (fun _ => rfl) _
  have hb1 := h.box.ch c2 (own_far h.own h.box (by decide))
  have hown : ∀ k, vr.ownBlock = some k → w.heap.size ≤ k := fun k hk => (h.own.lt k hk).1
  have hels : ∀ {z : Tx} {q : Value}, W.ownsRow w.heap.size 5 1 q z.length (BVs z) → (W1.setCell ⟨gx, 2, none⟩ v').ownsRow w.heap.size 5 1 q z.length (BVs z) := fun {z q} hq => by
    have h1 := own_ch hq c2 (fun k hk e => rows_far hq h.own (by decide) k hk e)
    exact own_ch h1 c3 (fun k hk e => own_far h1 hb1 (by decide) (by rw [← e]; exact hk))
  have hg1 := own_ch h.gown c2 (fun k hk e => rows_far h.gown h.own (by decide) k hk e)
  have hr1 := rr_ch h.rr c2 (fun k _ e => ⟨.inr (hown k e), by have := hown k e; omega⟩)
  refine ⟨(h.ch.trans c2 (fun k hk e => by have := hown k e; omega)).trans c3 (fun k hk e => by omega), (h.res.ch c2 (own_far h.own h.res (by decide))).ch c3 h.ne, ?_, ?_, fun y hy => ?_, own_ch hg1 c3 (fun k hk e => own_far hg1 hb1 (by decide) (by rw [← e]; exact hk)), rr_ch hr1 c3 (fun k _ e => ⟨.inr (by omega), by omega⟩), h.lg, h.lr, h.lx, h.ne⟩
  · have := hb1.set_ 2 v'
    simpa using this
  · rw [List.length_append, List.map_append]
    exact own_ch ha.1 c3 (fun k hk e => own_far ha.1 hb1 (by decide) (by rw [← e]; exact hk))
  · rcases List.mem_append.1 hy with hy | hy
    · exact hels (h.els y hy)
    · rw [List.mem_singleton] at hy
      subst hy
      exact hels hu
open Xl in
theorem TR.grp (h : TR w X g gr gx n base pl gs vr vg s W) {v' : Value} {x : Gp} (ha : Appended W w.heap.size 76 2 vg (gs.length + 1) (GCs gs ++ GCs [x]) v' W1) :
    TR w X g gr gx n base pl (gs ++ [x]) vr v' s (W1.setCell ⟨gx, 3, none⟩ v') := by
  have hl := h.lg
  have hx := h.lx
  have c2 : Kw.Ch (fun k => vg.ownBlock = some k) W W1 := Kw.Ch.of_grown ha.2.1 (fun q hq _ => hq)
  have c3 : Kw.Ch (fun k => k = gx) W1 (W1.setCell ⟨gx, 3, none⟩ v') := (Kw.Ch.refl (fun k => k = gx) W1).setCell (p := ⟨gx, 3, none⟩) (fun _ => rfl) _
  have hb1 := h.box.ch c2 (own_far h.gown h.box (by decide))
  have hown : ∀ k, vg.ownBlock = some k → w.heap.size ≤ k := fun k hk => (h.gown.lt k hk).1
  have hr1 := rr_ch h.rr c2 (fun k _ e => ⟨.inr (hown k e), by have := hown k e; omega⟩)
  have ho1 := own_ch h.own c2 (fun k hk e => rows_far h.own h.gown (by decide) k hk e)
  refine ⟨(h.ch.trans c2 (fun k hk e => by have := hown k e; omega)).trans c3 (fun k hk e => by omega), (h.res.ch c2 (own_far h.gown h.res (by decide))).ch c3 h.ne, ?_, own_ch ho1 c3 (fun k hk e => own_far ho1 hb1 (by decide) (by rw [← e]; exact hk)), fun y hy => ?_, ?_, rr_ch hr1 c3 (fun k _ e => ⟨.inr (by omega), by omega⟩), h.lg, h.lr, h.lx, h.ne⟩
  · have := hb1.set_ 3 v'
    simpa using this
  · have h1 := own_ch (h.els y hy) c2 (fun k hk e => rows_far (h.els y hy) h.gown (by decide) k hk e)
    exact own_ch h1 c3 (fun k hk e => own_far h1 hb1 (by decide) (by rw [← e]; exact hk))
  · rw [List.length_append, show GCs (gs ++ [x]) = GCs gs ++ GCs [x] by simp [GCs]]
    exact own_ch ha.1 c3 (fun k hk e => own_far ha.1 hb1 (by decide) (by rw [← e]; exact hk))
/-- What was read is a topic in memory of its own. -/
theorem TR.ok (h : TR w X g gr gx n base pl gs vr vg s W) {Y : Nat → Prop} (hY : ∀ k, w.heap.size ≤ k → k < W.heap.size → ¬ Y k) : TwOk W Y (⟨n, base, pl.map (·.1), gs⟩, vr, vg) := by
  refine ⟨⟨pl.map (·.2), ?_, fun i hi => ?_⟩, Sl.of_own h.gown hY⟩
  · simp only [List.length_map]
    exact Sl.of_own h.own hY
  · simp only [List.length_map] at hi
    refine ⟨pl[i].2, by simp [hi], ?_⟩
    simp only [List.getElem_map]
    exact Sl.of_own (h.els _ (List.getElem_mem hi)) hY
end
theorem rnext2 (w : World) (n : Tx) (A : Option Addr) (c k : Nat) (base : Int) (vg : Value) (h0 : 0 ≤ base) (h1 : base ≤ 9007199254740992) (hk : k ≤ 64) :
    Calls Tryz.prog 51 #[.agg #[.string ⟨n.toArray⟩, .int .i64 base, .slice A k c, vg]] w fun e w' => e = .returned (.int .i64 (base + (k : Int))) ∧ Below w.heap.size w w' := by
  have hw : IntKind.i64.wrap (base + (k : Int)) = base + (k : Int) := Ga.wrap64 (by omega) (by omega)
  have hw2 : RowKit.wrap64 (base + (k : Int)) = base + (k : Int) := by unfold RowKit.wrap64; omega
  have b1 : Below w.heap.size w (w.alloc (.cells #[.string ⟨n.toArray⟩, .int .i64 base, .slice A k c, vg] 74)) := (Below.refl _ w).alloc (Nat.le_refl _) _
  go_enter Tryz.func51, Tryz.ntmps51
  go_wp2
  go_ret
  exact ⟨rfl, b1⟩
set_option maxHeartbeats 2000000 in
theorem rtold_any (w : World) (e : Int) : Calls Tryz.prog 37 #[.int .i64 e] w fun en w' => en = .returned (.bool (told e)) ∧ Below w.heap.size w w' := by
  have hb := Xr.op_below w (.cells #[.int .i64 0, .int .i64 4, .int .i64 5, .int .i64 6, .int .i64 71, .int .i64 72, .int .i64 60, .int .i64 61, .int .i64 62] 28)
  have hk : Blk (w.alloc (.cells #[.int .i64 0, .int .i64 4, .int .i64 5, .int .i64 6, .int .i64 71, .int .i64 72, .int .i64 60, .int .i64 61, .int .i64 62] 28)) w.heap.size 28 #[.int .i64 0, .int .i64 4, .int .i64 5, .int .i64 6, .int .i64 71, .int .i64 72, .int .i64 60, .int .i64 61, .int .i64 62] := Blk.new w _ _
  have HB := Lib.hid hb
  obtain ⟨L, hL⟩ : ∃ L : List Int, L = [0, 4, 5, 6, 71, 72, 60, 61, 62] := ⟨_, rfl⟩
  have hl9 : L.length = 9 := by rw [hL]; rfl
  have HC : Hid (∀ k (h : k < L.length), (w.alloc (.cells #[.int .i64 0, .int .i64 4, .int .i64 5, .int .i64 6, .int .i64 71, .int .i64 72, .int .i64 60, .int .i64 61, .int .i64 62] 28)).cell? ⟨w.heap.size, k, none⟩ = some (.int .i64 L[k])) := Lib.hid (fun k h => by
    have := hk.cell k
    rw [this]
    subst hL
    match k, h with
    | 0, _ => rfl
    | 1, _ => rfl
    | 2, _ => rfl
    | 3, _ => rfl
    | 4, _ => rfl
    | 5, _ => rfl
    | 6, _ => rfl
    | 7, _ => rfl
    | 8, _ => rfl)
  have HT : Hid (told e = L.contains e) := Lib.hid (by rw [hL]; simp only [told, List.contains_cons, List.contains_nil, Bool.or_false, Bool.or_assoc])
  have HL9 := Lib.hid hl9
  clear hb hk hL hl9
  go_enter Tryz.func37, Tryz.ntmps37
  go_wp2_with fail
  generalize w.alloc (.cells #[.int .i64 0, .int .i64 4, .int .i64 5, .int .i64 6, .int .i64 71, .int .i64 72, .int .i64 60, .int .i64 61, .int .i64 62] 28) = w1 at *
  go_loop [4] (fun i => ∃ k : Nat, k ≤ 9 ∧ i = .int .i64 k ∧ ∀ j (h : j < L.length), j < k → L[j] ≠ e) (fun i => 9 - (intOf i).toNat)
  case atStart => exact ⟨0, Nat.zero_le _, rfl, fun j h hj => absurd hj (by omega)⟩
  case round =>
    obtain ⟨k, hk, rfl, hz⟩ := hrel
    have HZ := Lib.hid hz
    clear hz
    by_cases hlt : k < 9
    · have hkl : k < L.length := by rw [HL9.out]; exact hlt
      have hc := HC.out k hkl
      have hkn : (k : Int) < 9 := by omega
      have ha : (⟨w.heap.size, 0, none⟩ : Addr).add k = ⟨w.heap.size, k, none⟩ := by unfold Addr.add; split <;> simp_all
      by_cases heq : L[k] = e
      · have hb : (L[k] == e) = true := by rw [heq]; exact beq_self_eq_true _
        have HE : Hid (told e = true) := Lib.hid (by rw [HT.out, List.contains_iff_mem, ← heq]; exact List.getElem_mem hkl)
        clear heq
        go_wp2
        go_ret
        exact ⟨by rw [HE.out]; rfl, HB.out⟩
      · have hb : (L[k] == e) = false := beq_eq_false_iff_ne.2 heq
        have HE := Lib.hid heq
        clear heq
        go_wp2
        go_round
        case rel =>
          refine ⟨k + 1, by omega, by go_num, fun j h hj => ?_⟩
          by_cases hjk : j < k
          · exact HZ.out j h hjk
          · obtain rfl : j = k := by omega
            exact HE.out
        case measure => simp [intOf]; omega
    · have hke : k = 9 := by omega
      subst hke
      have HE : Hid (told e = false) := Lib.hid (by
        rw [HT.out, Bool.eq_false_iff]
        intro hc
        rw [List.contains_iff_mem] at hc
        obtain ⟨j, hj, e2⟩ := List.mem_iff_getElem.1 hc
        exact HZ.out j hj (by rw [HL9.out] at hj; exact hj) e2)
      go_wp2
      go_ret
      exact ⟨by rw [HE.out]; rfl, HB.out⟩
end Go.Proofs.YtkoedonllfmaaaaGreat.Xac

/-
  The plain mathematics of layer 8 (request): which requests, signatures and batches may be, their bytes, and what is read of bytes; there and back. No program is named here.
-/
namespace Go.Proofs.YtkoedonllfmaaaaGreat.Jm
set_option linter.unusedSimpArgs false
open Cm Pm Pk Pp
set_option linter.unusedVariables false

/-- A request. -/
structure Q where
  client : Int
  time : Int
  o : O
deriving DecidableEq
def Q.zero : Q := ⟨0, 0, O.zero⟩
/-- A signed request. -/
structure Sd where
  q : Q
  s : Int × Int
deriving DecidableEq
def Sd.zero : Sd := ⟨Q.zero, (0, 0)⟩
def isC (c : Int) : Bool := decide (0 ≤ c) && decide (c < 8)
def key (c : Int) : Int := if isC c then 13 + c else -1
/-! There and back. -/
end Go.Proofs.YtkoedonllfmaaaaGreat.Jm

/-
  Plain mathematics of layer 2 (ideal): the number of a text in a list of texts; what Sum answers and leaves; lists without repeats.
-/
namespace Go.Proofs.YtkoedonllfmaaaaGreat.Im
set_option linter.unusedSimpArgs false
set_option linter.unusedVariables false

abbrev Tx := List UInt8
/-- The number of a text among those, from 1 on; 0: it isn't there. -/
def num : List Tx → Tx → Nat
  | [], _ => 0
  | t :: L, s => if t = s then 1 else if num L s = 0 then 0 else num L s + 1

theorem num_cons (t : Tx) (L : List Tx) (s : Tx) : num (t :: L) s = if t = s then 1 else if num L s = 0 then 0 else num L s + 1 := rfl
theorem num_left : ∀ (L K : List Tx) (s : Tx), num L s ≠ 0 → num (L ++ K) s = num L s
  | [], _, s, h => absurd rfl h
  | t :: L, K, s, h => by
    have ih := num_left L K s
    rw [List.cons_append]
    rw [num_cons] at h
    rw [num_cons, num_cons t L]
    by_cases ht : t = s
    · rw [if_pos ht, if_pos ht]
    · rw [if_neg ht] at h
      rw [if_neg ht, if_neg ht]
      by_cases h0 : num L s = 0
      · rw [if_pos h0] at h; exact absurd rfl h
      · rw [ih h0]
theorem num_right : ∀ (L K : List Tx) (s : Tx), num L s = 0 → num (L ++ K) s = if num K s = 0 then 0 else L.length + num K s
  | [], K, s, _ => by
    by_cases h : num K s = 0 <;> simp [h]
  | t :: L, K, s, h => by
    have ih := num_right L K s
    rw [List.cons_append]
    rw [num_cons] at h ⊢
    by_cases ht : t = s
    · rw [if_pos ht] at h; cases h
    · rw [if_neg ht] at h
      rw [if_neg ht]
      by_cases h0 : num L s = 0
      · rw [ih h0]
        by_cases hk : num K s = 0
        · simp [hk]
        · rw [if_neg hk, if_neg hk, if_neg (by omega)]
          simp only [List.length_cons]; omega
      · rw [if_neg h0] at h; cases h
theorem num_one (t s : Tx) : num [t] s = if t = s then 1 else 0 := by
  by_cases h : t = s <;> simp [num, h]
theorem num_snoc (L : List Tx) (t s : Tx) : num (L ++ [t]) s = if num L s ≠ 0 then num L s else if t = s then L.length + 1 else 0 := by
  by_cases h : num L s = 0
  · rw [num_right L [t] s h, num_one]
    by_cases ht : t = s <;> simp [h, ht]
  · rw [num_left L [t] s h, if_pos h]

/-- Is it there? (A word of its own: the walk leaves it whole.) -/
def isIn (L : List Tx) (s : Tx) : Bool := decide (num L s ≠ 0)
/-- What Sum leaves, and what it answers. -/
def add (L : List Tx) (s : Tx) : List Tx := if num L s ≠ 0 then L else if 1048576 ≤ L.length then L else L ++ [s]
end Go.Proofs.YtkoedonllfmaaaaGreat.Im

/-
  Words for memory, for layer 2 (ideal) and any layer above: a change of some blocks and new ones; a slice of strings; the program's table and the document's; the program's ledger and the document's.
-/
namespace Go.Proofs.YtkoedonllfmaaaaGreat.Ik
set_option linter.unusedSimpArgs false
set_option linter.unusedVariables false
set_option maxRecDepth 100000
open Go Go.RowKit Ck Kw Im

/-- The map's datum tells each text's number. -/
def Nums (D : DataW Unit) (L : List Tx) : Prop :=
  ∀ s : Tx, Maps.has D (.string s) = isIn L s ∧ D.atKey (.string s) (.lit (.int .i64 0)) = .lit (.int .i64 (num L s : Int))
theorem strKey (s : Tx) : WideAt.IsKeyLit (.string s) := trivial
theorem Nums.put {D : DataW Unit} {L : List Tx} {t : Tx} (h : Nums D L) (hD : Maps.IsMap D) (hk : WideAt.IsKeyLit (.string t)) (h0 : num L t = 0) : Nums (D.put (.string t) (.lit (.int .i64 ((L.length : Int) + 1)))) (L ++ [t]) := by
  intro s
  rw [num_snoc]
  by_cases hs : s = t
  · subst hs
    rw [Maps.has_put_same hD hk, Maps.atKey_put_same hD hk, isIn, num_snoc, h0]
    simp
  · have hne : (Lit.string s) ≠ Lit.string t := fun e => hs (by injection e)
    rw [Maps.has_put_other hne, Maps.atKey_put_other hne, (h s).1, (h s).2]
    have ht : ¬ t = s := fun e => hs e.symm
    rw [isIn, isIn, num_snoc]
    by_cases hn : num L s = 0 <;> simp [hn, ht]

section
end

end Go.Proofs.YtkoedonllfmaaaaGreat.Ik

/-
  Words for memory, for layer 2's ledgers: signatures, slices of them, the map of them, the program's ledger and the document's.
-/
namespace Go.Proofs.YtkoedonllfmaaaaGreat.Lk
set_option linter.unusedSimpArgs false
set_option linter.unusedVariables false
set_option maxRecDepth 100000
open Go Go.RowKit Ck Im Kw Ik

/-- A signature: its key, its digest. -/
abbrev Sg := Int × Int
theorem cells_int : Tryz.prog.cellsOf 3 = 1 := by kernel_rfl
/-- What Sign answers and leaves. -/
def code (s : Sg) : Int := if s.1 < 0 ∨ 21 ≤ s.1 then 20 else if s.2 < 1 then 1 else 0
def ans (s : Sg) : Sg := if code s = 0 then s else (0, 0)
end Go.Proofs.YtkoedonllfmaaaaGreat.Lk
