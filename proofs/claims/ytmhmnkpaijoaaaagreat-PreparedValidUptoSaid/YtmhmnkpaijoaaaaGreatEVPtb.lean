import Derived.BigQuiet
import Derived.Deep.RegionHeld3
import Derived.Deep.RegionHeldLaw
import Derived.Deep.DeepCutAuto
import Derived.Test.YtmhmnkpaijoaaaaGreatEV02
namespace Go.Proofs.YtmhmnkpaijoaaaaGreat.Ptb
set_option linter.unusedSimpArgs false
open Go Go.RowKit Ck Cf Kw Ga Kf Pm Pe Pg Ik Lk Jm Ja Jb Jf Jg Jl Jn Kc Kj Pra Prb Pre Prn Prr Prv Prw Prx Pry Prz Psa Psb Psr Psu Psv Psx Pta
attribute [local go_sem ↓] Go.wp_at_zero Go.wp_at_succ
set_option linter.unusedVariables false
set_option maxRecDepth 100000
theorem seven_cell {W : World} {g : Nat} {t : TypeId} {p : Pd} {r : Pl2} (h : Blk W g t (PC p r)) : Sl W (fun _ => False) 7 (.slice (some ⟨g, 0, none⟩) 1 1) 1 (PC p r).toList := blk_sl (n := 1) h (fun h => h) rfl (by simp only [maxLen]; omega)
section
variable {B gc : Nat} {f view low : Int} {vb vv vsp : Value} {q p g p' g' : Nat} {z : Bz} {x : Vz} {sb sd sg : Value} {w : World} {v v' : Value} {l : List Pd} {rs : List Pl2} {W W' : World}
end
set_option maxHeartbeats 16000000 in
theorem valid_law (HL : LiveC) (HBG : BegunC) (HV : ValidC) (HA : AboveC) (w : World) (f view low : Int) (vb vv vsp : Value) (qss : List (List Q)) (vts : List (Vt × Nat)) (sps : List SpD) (h : CI w f vb vv vsp view low qss vts) (hsp : SPs w (fun k => w.heap.size <= k) vsp sps) (hn : sps.length <= 1048576) (hd : ∀ d ∈ sps, d.ks.length <= 1048576 /\ d.batch < 256 /\ d.first < 256) :
    Calls Tryz.prog 3 #[.agg #[.int .i64 f, vb, vv, vsp, .int .i64 view, .int .i64 low]] w fun e w' => e = .returned (.bool true) /\ Below w.heap.size w w' := by
  obtain ⟨Asp, csp, rfl⟩ := hsp.shape
  have hb0 : Below w.heap.size w (w.alloc (.cells #[.int .i64 f, vb, vv, .slice Asp sps.length csp, .int .i64 view, .int .i64 low] 26)) := (Below.refl _ w).alloc (Nat.le_refl _) _
  have hk0 : Blk (w.alloc (.cells #[.int .i64 f, vb, vv, .slice Asp sps.length csp, .int .i64 view, .int .i64 low] 26)) w.heap.size 26 #[.int .i64 f, vb, vv, .slice Asp sps.length csp, .int .i64 view, .int .i64 low] := Blk.new w _ _
  have HL := Lib.hid HL
  have HBG := Lib.hid HBG
  have HV := Lib.hid HV
  have HA := Lib.hid HA
  have HI := Lib.hid h
  have HSP := Lib.hid hsp
  have HB0 := Lib.hid hb0
  have HK0 := Lib.hid hk0
  have HD := Lib.hid hd
  have hni : (sps.length : Int) <= 1048576 := by omega
  clear h hsp hb0 hk0 hd
  go_enter Tryz.func3, Tryz.ntmps3
  go_wp2_with fail
  generalize w.alloc (.cells #[.int .i64 f, vb, vv, .slice Asp sps.length csp, .int .i64 view, .int .i64 low] 26) = w0 at *
  refine (HL.out _).mono ?_
  rintro e w1 ⟨rfl, hb1⟩
  have HB1 := Lib.hid (HB0.out.trans (hb1.mono HB0.out.size))
  have hk1 := HK0.out.below hb1 HK0.out.lt
  have HK1 := Lib.hid hk1
  have c0 := hk1.cell 0
  have c1 := hk1.cell 1
  have c2 := hk1.cell 2
  have c3 := hk1.cell 3
  have c4 := hk1.cell 4
  have c5 := hk1.cell 5
  simp only [List.getElem?_toArray, List.getElem?_cons_zero, List.getElem?_cons_succ] at c0 c1 c2 c3 c4 c5
  clear hb1 hk1 HB0 HK0
  obtain ⟨gc, hgc⟩ : ∃ gc, gc = w.heap.size := ⟨_, rfl⟩
  rw [<- hgc] at HK1 c0 c1 c2 c3 c4 c5 ⊢
  clear hgc
  go_wp2_with fail
  refine (HBG.out w1 f view low vb vv _ qss vts (HI.out.later HB1.out)).mono ?_
  rintro e w2 ⟨hb2, q, p, g, p', g', sb, sd, sg, rfl, hs2⟩
  have HZ := Lib.hid (bz_ok HI.out)
  have hk2 := HK1.out.below hb2 HK1.out.lt
  have HPV : Hid (PV w2.heap.size gc f view low vb vv (.slice Asp sps.length csp) q p g p' g' (madeB ([] :: qss)) (votesV (madeB ([] :: qss)) vts) sb sd sg w (.slice none 0 0) ((sps.take 0).map (fun d => madeP (madeB ([] :: qss)) (votesV (madeB ([] :: qss)) vts).ss d.sp)) [] w2) := Lib.hid ⟨hs2, hk2, hk2.lt, (HB1.out.trans (hb2.mono HB1.out.size)).size, HB1.out.trans (hb2.mono HB1.out.size), VS.nil _ _⟩
  have d3 := hk2.cell 3
  simp only [List.getElem?_toArray, List.getElem?_cons_zero, List.getElem?_cons_succ] at d3
  have HSP2 : Hid (∀ W, Below w.heap.size w W -> SPs W (fun k => w.heap.size <= k) (.slice Asp sps.length csp) sps) := Lib.hid (fun W b => HSP.out.after b)
  clear hb2 hs2 hk2 HK1 HI c0 c1 c2 c3 c4 c5 HSP HB1
  generalize madeB ([] :: qss) = z at *
  generalize votesV z vts = x at *
  generalize w2.heap.size = B at *
  go_wp2_with fail
  clear d3
  go_loopw [4, 15] (fun v i wr => ∃ k : Nat, k <= sps.length /\ i = .int .i64 k /\ ∃ rs, PV B gc f view low vb vv (.slice Asp sps.length csp) q p g p' g' z x sb sd sg w v ((sps.take k).map (fun d => madeP z x.ss d.sp)) rs wr) (fun _ i _ => sps.length - (intOf i).toNat)
  case atStart => exact ⟨0, Nat.zero_le _, rfl, _, HPV.out⟩
  case round =>
    obtain ⟨k, hk, rfl, ps, hpv⟩ := hrel
    clear HPV
    by_cases hkt : k < sps.length
    . have hkp : (0 : Int) <= (k : Int) := by omega
      have hkn : (k : Int) < (sps.length : Int) := by omega
      have hkd : decide ((k : Int) < (sps.length : Int)) = true := decide_eq_true hkn
      obtain ⟨asp, rs, rfl, s0, s1, s2, s3, s4, s5, hks⟩ := (HSP2.out _ hpv.hb).at_ hkt
      have HDK := Lib.hid (HD.out _ (List.getElem_mem hkt))
      have hll : ((sps.take k).map (fun d => madeP z x.ss d.sp)).length = k := by rw [List.length_map, List.length_take]; omega
      have HNX : Hid ((sps.take (k + 1)).map (fun d => madeP z x.ss d.sp) = (sps.take k).map (fun d => madeP z x.ss d.sp) ++ [madeP z x.ss sps[k].sp]) := Lib.hid (by
        rw [List.take_succ_eq_append_getElem hkt, List.map_append]
        rfl)
      have HKT := Lib.hid hkt
      generalize (sps.take k).map (fun d => madeP z x.ss d.sp) = l at *
      generalize sps[k] = d at *
      have HPV := Lib.hid hpv
      have hbx : Below wr.heap.size wr (wr.alloc (.cells #[.int .i64 d.view, .int .i64 d.seq, .int .u8 (d.batch : Int), .int .i64 d.dig, .int .u8 (d.first : Int), .slice rs.1 d.ks.length rs.2] 34)) := (Below.refl _ wr).alloc (Nat.le_refl _) _
      have HM := Lib.hid (made_any (wr.alloc (.cells #[.int .i64 d.view, .int .i64 d.seq, .int .u8 (d.batch : Int), .int .i64 d.dig, .int .u8 (d.first : Int), .slice rs.1 d.ks.length rs.2] 34)) B q p g p' g' z x sb sd sg d.sp _ rs.1 rs.2 d.ks (hpv.later hbx).st (hks.after hbx) rfl HDK.out.2.1 HDK.out.2.2 HZ.out.b1 HZ.out.b2 HZ.out.b3 HZ.out.b4 HZ.out.b5 (by have := HDK.out.1; omega))
      have HPX := Lib.hid (hpv.later hbx)
      have hs47 : l.length <= 1048576 := by omega
      have hp : okP (madeP z x.ss d.sp) := madeP_ok HZ.out.ok (by simp only [SpD.sp, List.length_map]; have := HDK.out.1; omega)
      have HOKP := Lib.hid hp
      obtain ⟨Av, cv0, rfl⟩ := own_shape hpv.vs.row
      clear hpv hbx hks hk hkt hll hp
      go_wp2_with fail
      have hzx : (wr.alloc (.cells #[.int .i64 d.view, .int .i64 d.seq, .int .u8 (d.batch : Int), .int .i64 d.dig, .int .u8 (d.first : Int), .slice rs.1 d.ks.length rs.2] 34)).heap.size = wr.heap.size + 1 := by simp
      generalize wr.alloc (.cells #[.int .i64 d.view, .int .i64 d.seq, .int .u8 (d.batch : Int), .int .i64 d.dig, .int .u8 (d.first : Int), .slice rs.1 d.ks.length rs.2] 34) = wx at *
      refine HM.out.mono ?_
      rintro e w3 ⟨r, rfl, hb3, hp3⟩
      have HLT : Hid (∀ k, (Value.slice Av l.length cv0).ownBlock = some k -> B <= k /\ k < wx.heap.size) := Lib.hid (fun k hk => by
        have := HPV.out.vs.row.lt k hk
        exact ⟨this.1, by omega⟩)
      have HP3 : Hid (PI w3 (fun k => (Value.slice Av l.length cv0).ownBlock = some k) (madeP z x.ss d.sp) r) := Lib.hid (hp3.weaken (fun k _ hk => HLT.out k hk))
      have HX3 := Lib.hid (HPX.out.later hb3)
      have HZ3 : Hid (wx.heap.size <= w3.heap.size) := Lib.hid hb3.size
      clear hb3 hp3 HM HPV HPX hzx
      generalize madeP z x.ss d.sp = P at *
      unfold PC
      obtain ⟨ip, hip, hzp, hsp, hyp⟩ := info_parts info_prep
      have b4 : Below w3.heap.size w3 (w3.alloc (.cells #[.int .i64 P.view, .int .i64 P.seq, .int .i64 P.dig, .int .i64 P.first.1, .int .i64 P.first.2, .slice r.1.1 P.signs.length r.1.2, .slice r.2.1 P.batch.length r.2.2] 41)) := (Below.refl _ w3).alloc (Nat.le_refl _) _
      have b5 : Below w3.heap.size w3 ((w3.alloc (.cells #[.int .i64 P.view, .int .i64 P.seq, .int .i64 P.dig, .int .i64 P.first.1, .int .i64 P.first.2, .slice r.1.1 P.signs.length r.1.2, .slice r.2.1 P.batch.length r.2.2] 41)).alloc (.cells #[.int .i64 P.view, .int .i64 P.seq, .int .i64 P.dig, .int .i64 P.first.1, .int .i64 P.first.2, .slice r.1.1 P.signs.length r.1.2, .slice r.2.1 P.batch.length r.2.2] 41)) := b4.alloc (by simp) _
      have k4 : Blk ((w3.alloc (.cells #[.int .i64 P.view, .int .i64 P.seq, .int .i64 P.dig, .int .i64 P.first.1, .int .i64 P.first.2, .slice r.1.1 P.signs.length r.1.2, .slice r.2.1 P.batch.length r.2.2] 41)).alloc (.cells #[.int .i64 P.view, .int .i64 P.seq, .int .i64 P.dig, .int .i64 P.first.1, .int .i64 P.first.2, .slice r.1.1 P.signs.length r.1.2, .slice r.2.1 P.batch.length r.2.2] 41)) w3.heap.size 41 (PC P r) := (Blk.new w3 _ _).alloc _
      have k5 : Blk ((w3.alloc (.cells #[.int .i64 P.view, .int .i64 P.seq, .int .i64 P.dig, .int .i64 P.first.1, .int .i64 P.first.2, .slice r.1.1 P.signs.length r.1.2, .slice r.2.1 P.batch.length r.2.2] 41)).alloc (.cells #[.int .i64 P.view, .int .i64 P.seq, .int .i64 P.dig, .int .i64 P.first.1, .int .i64 P.first.2, .slice r.1.1 P.signs.length r.1.2, .slice r.2.1 P.batch.length r.2.2] 41)) (w3.heap.size + 1) 41 (PC P r) := by
        have := Blk.new (w3.alloc (.cells #[.int .i64 P.view, .int .i64 P.seq, .int .i64 P.dig, .int .i64 P.first.1, .int .i64 P.first.2, .slice r.1.1 P.signs.length r.1.2, .slice r.2.1 P.batch.length r.2.2] 41)) 41 (PC P r)
        have e : (w3.alloc (.cells #[.int .i64 P.view, .int .i64 P.seq, .int .i64 P.dig, .int .i64 P.first.1, .int .i64 P.first.2, .slice r.1.1 P.signs.length r.1.2, .slice r.2.1 P.batch.length r.2.2] 41)).heap.size = w3.heap.size + 1 := by simp
        rw [e] at this
        exact this
      have HK4 := Lib.hid k4
      have HS5 := Lib.hid (seven_cell k5)
      have HX5 := Lib.hid (HX3.out.later b5)
      have HP5 := Lib.hid (HP3.out.after b5)
      have HONE := Lib.hid (PC_one P r)
      clear b4 b5 k4 k5 HX3 HP3
      unfold PC at HS5 HONE
      go_wp2_with (at_builtin; refine wpList_append_sh _ rfl (.tmp 22) (.tmp 24) _ rfl B 41 ip _ 7 88 Tryz.underlying30 hip hzp hsp hyp rfl (by omega) _ _ _ rfl HX5.out.vs.row _ _ 1 _ rfl HS5.out HONE.out (by simp only [maxLen]; omega) (by omega) (Nat.le_trans HX5.out.st.hB (Nat.le_refl _)) ?_; intro Aa ca wa happ)
      obtain ⟨hpa, hpi, cca⟩ := HX5.out.push HP5.out happ
      have HPX : Hid (PX B gc f view low vb vv (.slice (some asp) sps.length csp) q p g p' g' z x sb sd sg w (.slice Aa (l.length + 1) ca) (l ++ [P]) (ps ++ [r]) w3.heap.size P r wa) := Lib.hid ⟨hpa, HK4.out.ch cca (fun hx => by have := (HLT.out _ hx).2; have := HZ3.out; omega), hpi⟩
      clear happ hpa hpi cca HX5 HP5 HK4 HS5 HONE hip hzp hsp hyp
      have HBL : Hid (∀ W W', PX B gc f view low vb vv (.slice (some asp) sps.length csp) q p g p' g' z x sb sd sg w (.slice Aa (l.length + 1) ca) (l ++ [P]) (ps ++ [r]) w3.heap.size P r W -> Below W.heap.size W W' -> PX B gc f view low vb vv (.slice (some asp) sps.length csp) q p g p' g' z x sb sd sg w (.slice Aa (l.length + 1) ca) (l ++ [P]) (ps ++ [r]) w3.heap.size P r W') := Lib.hid (fun W W' h b => h.later b)
      have HCL : Hid (∀ W, PX B gc f view low vb vv (.slice (some asp) sps.length csp) q p g p' g' z x sb sd sg w (.slice Aa (l.length + 1) ca) (l ++ [P]) (ps ++ [r]) w3.heap.size P r W -> (W.cell? ⟨q, 0, none⟩ = some (.pointer (some ⟨p, 0, none⟩)) /\ W.cell? ⟨q, 1, none⟩ = some (.pointer (some ⟨g, 0, none⟩)) /\ W.cell? ⟨q, 2, none⟩ = some (.pointer (some ⟨p', 0, none⟩)) /\ W.cell? ⟨q, 3, none⟩ = some (.pointer (some ⟨g', 0, none⟩)) /\ W.cell? ⟨gc, 0, none⟩ = some (.int .i64 f) /\ W.cell? ⟨w3.heap.size, 0, none⟩ = some (.int .i64 P.view) /\ W.cell? ⟨w3.heap.size, 1, none⟩ = some (.int .i64 P.seq) /\ W.cell? ⟨w3.heap.size, 2, none⟩ = some (.int .i64 P.dig) /\ W.cell? ⟨w3.heap.size, 3, none⟩ = some (.int .i64 P.first.1) /\ W.cell? ⟨w3.heap.size, 4, none⟩ = some (.int .i64 P.first.2) /\ W.cell? ⟨w3.heap.size, 5, none⟩ = some (.slice r.1.1 P.signs.length r.1.2) /\ W.cell? ⟨w3.heap.size, 6, none⟩ = some (.slice r.2.1 P.batch.length r.2.2))) := Lib.hid (fun W h => h.cells)
      have HVA : Hid (∀ W, PX B gc f view low vb vv (.slice (some asp) sps.length csp) q p g p' g' z x sb sd sg w (.slice Aa (l.length + 1) ca) (l ++ [P]) (ps ++ [r]) w3.heap.size P r W -> Calls Tryz.prog 12 #[.pointer (some ⟨p, 0, none⟩), .pointer (some ⟨g, 0, none⟩), .int .i64 f, .agg #[.int .i64 P.view, .int .i64 P.seq, .int .i64 P.dig, .int .i64 P.first.1, .int .i64 P.first.2, .slice r.1.1 P.signs.length r.1.2, .slice r.2.1 P.batch.length r.2.2]] W fun e w' => e = .returned (.bool (validP x.L x.G f P)) /\ PX B gc f view low vb vv (.slice (some asp) sps.length csp) q p g p' g' z x sb sd sg w (.slice Aa (l.length + 1) ca) (l ++ [P]) (ps ++ [r]) w3.heap.size P r w') := Lib.hid (fun W h => by
        refine (HV.out W _ _ p g x.L x.G f P r h.1.st.tl h.2.2 HOKP.out HZ.out.hG).mono ?_
        rintro e w' ⟨rfl, hb⟩
        exact ⟨rfl, h.later hb⟩)
      have HRA : Hid (∀ W, PX B gc f view low vb vv (.slice (some asp) sps.length csp) q p g p' g' z x sb sd sg w (.slice Aa (l.length + 1) ca) (l ++ [P]) (ps ++ [r]) w3.heap.size P r W -> Calls Tryz.prog 13 #[.pointer (some ⟨p', 0, none⟩), .pointer (some ⟨g', 0, none⟩), .int .i64 f, .agg #[.int .i64 P.view, .int .i64 P.seq, .int .i64 P.dig, .int .i64 P.first.1, .int .i64 P.first.2, .slice r.1.1 P.signs.length r.1.2, .slice r.2.1 P.batch.length r.2.2]] W fun e w' => e = .returned (.bool (validP x.L x.G f P)) /\ PX B gc f view low vb vv (.slice (some asp) sps.length csp) q p g p' g' z x sb sd sg w (.slice Aa (l.length + 1) ca) (l ++ [P]) (ps ++ [r]) w3.heap.size P r w') := Lib.hid (fun W h => by
        refine (rvalidP_any W _ _ p' g' x.L x.G f P r h.1.st.rt h.2.2 HOKP.out HZ.out.hG).mono ?_
        rintro e w' ⟨rfl, hb⟩
        exact ⟨rfl, h.later hb⟩)
      generalize validP x.L x.G f P = bv at *
      have HX8 : Hid (PX B gc f view low vb vv (.slice (some asp) sps.length csp) q p g p' g' z x sb sd sg w (.slice Aa (l.length + 1) ca) (l ++ [P]) (ps ++ [r]) w3.heap.size P r wa.drew) := Lib.hid (HPX.out.later (below_drewN (Below.refl _ _) 1))
      have C8 := HCL.out _ HX8.out
      clear HPX
      cases bv
      all_goals
        go_upto_region 10 with fail
        go_region_held3 (fun w' => w'.cell? ⟨q, 0, none⟩ = some (.pointer (some ⟨p, 0, none⟩)) /\ w'.cell? ⟨q, 1, none⟩ = some (.pointer (some ⟨g, 0, none⟩)) /\ w'.cell? ⟨q, 2, none⟩ = some (.pointer (some ⟨p', 0, none⟩)) /\ w'.cell? ⟨q, 3, none⟩ = some (.pointer (some ⟨g', 0, none⟩)) /\ w'.cell? ⟨gc, 0, none⟩ = some (.int .i64 f) /\ w'.cell? ⟨w3.heap.size, 0, none⟩ = some (.int .i64 P.view) /\ w'.cell? ⟨w3.heap.size, 1, none⟩ = some (.int .i64 P.seq) /\ w'.cell? ⟨w3.heap.size, 2, none⟩ = some (.int .i64 P.dig) /\ w'.cell? ⟨w3.heap.size, 3, none⟩ = some (.int .i64 P.first.1) /\ w'.cell? ⟨w3.heap.size, 4, none⟩ = some (.int .i64 P.first.2) /\ w'.cell? ⟨w3.heap.size, 5, none⟩ = some (.slice r.1.1 P.signs.length r.1.2) /\ w'.cell? ⟨w3.heap.size, 6, none⟩ = some (.slice r.2.1 P.batch.length r.2.2))
          (first | with_reducible exact C8 | with_reducible exact C9 | with_reducible exact C10 | with_reducible exact C11 | with_reducible exact C12 | (go_keep; done))
          (first
          | (go_at_call 12; refine (HVA.out _ HX10.out).mono ?_; rintro e w11 ⟨rfl, hl⟩; have HX := Lib.hid hl; have C11 := HCL.out _ hl; clear hl)
          | (go_at_call 13; refine (HRA.out _ HX9.out).mono ?_; rintro e w12 ⟨rfl, hl⟩; have HX := Lib.hid hl; have C12 := HCL.out _ hl; clear hl)
          | (go_at_call 12; refine (HVA.out _ HX8.out).mono ?_; rintro e w9 ⟨rfl, hl⟩; have HX9 := Lib.hid hl; have C9 := HCL.out _ hl; clear hl)
          | (go_at_call 13; refine (HRA.out _ HX8.out).mono ?_; rintro e w10 ⟨rfl, hl⟩; have HX10 := Lib.hid hl; have C10 := HCL.out _ hl; clear hl))
        all_goals
          go_wp2_with fail
          go_roundw
          case rel => exact ⟨k + 1, by have := HKT.out; omega, by go_num, by rw [HNX.out]; exact ⟨_, HX.out.1⟩⟩
          case measure => have := HKT.out; simp [intOf]; omega
    . have hke : k = sps.length := by omega
      subst hke
      rw [List.take_length] at hpv
      have hkf : decide ((sps.length : Int) < (sps.length : Int)) = false := decide_eq_false (by omega)
      have HAO : Hid (∀ P ∈ sps.map (fun d => madeP z x.ss d.sp), okP P) := Lib.hid (fun P hP => by
        obtain ⟨d, hd, rfl⟩ := List.mem_map.1 hP
        exact madeP_ok HZ.out.ok (by simp only [SpD.sp, List.length_map]; have := (HD.out d hd).1; omega))
      have HLL : Hid ((sps.map (fun d => madeP z x.ss d.sp)).length <= 140737488355328) := Lib.hid (by rw [List.length_map]; omega)
      generalize sps.map (fun d => madeP z x.ss d.sp) = l at *
      obtain ⟨Av, cv0, rfl⟩ := own_shape hpv.vs.row
      have hy : ∃ Al cl Ag cg, Blk wr p' 58 #[.slice Al x.L.length cl] /\ Blk wr g' 60 #[.slice Ag x.G.length cg] := by
        obtain ⟨S1, S2, ⟨lv, k1, -, ⟨vals, ⟨A, c, rfl, _⟩, _⟩, -⟩, ⟨lg, k2, -, ⟨A2, c2, rfl, _⟩⟩, -⟩ := hpv.st.rt
        exact ⟨A, c, A2, c2, k1, k2⟩
      obtain ⟨Al, cl, Ag, cg, hk1, hk2⟩ := hy
      have HPY : Hid (PV B gc f view low vb vv (.slice Asp sps.length csp) q p g p' g' z x sb sd sg w (.slice Av l.length cv0) l ps wr /\ Blk wr p' 58 #[.slice Al x.L.length cl] /\ Blk wr g' 60 #[.slice Ag x.G.length cg]) := Lib.hid ⟨hpv, hk1, hk2⟩
      have HBL : Hid (∀ W W', (PV B gc f view low vb vv (.slice Asp sps.length csp) q p g p' g' z x sb sd sg w (.slice Av l.length cv0) l ps W /\ Blk W p' 58 #[.slice Al x.L.length cl] /\ Blk W g' 60 #[.slice Ag x.G.length cg]) -> Below W.heap.size W W' -> (PV B gc f view low vb vv (.slice Asp sps.length csp) q p g p' g' z x sb sd sg w (.slice Av l.length cv0) l ps W' /\ Blk W' p' 58 #[.slice Al x.L.length cl] /\ Blk W' g' 60 #[.slice Ag x.G.length cg])) := Lib.hid (fun W W' h b => ⟨h.1.later b, h.2.1.below b h.2.1.lt, h.2.2.below b h.2.2.lt⟩)
      have HCL : Hid (∀ W, (PV B gc f view low vb vv (.slice Asp sps.length csp) q p g p' g' z x sb sd sg w (.slice Av l.length cv0) l ps W /\ Blk W p' 58 #[.slice Al x.L.length cl] /\ Blk W g' 60 #[.slice Ag x.G.length cg]) -> (W.cell? ⟨q, 0, none⟩ = some (.pointer (some ⟨p, 0, none⟩)) /\ W.cell? ⟨q, 1, none⟩ = some (.pointer (some ⟨g, 0, none⟩)) /\ W.cell? ⟨q, 2, none⟩ = some (.pointer (some ⟨p', 0, none⟩)) /\ W.cell? ⟨q, 3, none⟩ = some (.pointer (some ⟨g', 0, none⟩)) /\ W.cell? ⟨gc, 0, none⟩ = some (.int .i64 f) /\ W.cell? ⟨gc, 4, none⟩ = some (.int .i64 view) /\ W.cell? ⟨gc, 5, none⟩ = some (.int .i64 low) /\ W.cell? ⟨p', 0, none⟩ = some (.slice Al x.L.length cl) /\ W.cell? ⟨g', 0, none⟩ = some (.slice Ag x.G.length cg))) := Lib.hid (fun W h => ⟨h.1.st.st.cell 0, h.1.st.st.cell 1, h.1.st.st.cell 2, h.1.st.st.cell 3, h.1.kc.cell 0, h.1.kc.cell 4, h.1.kc.cell 5, h.2.1.cell 0, h.2.2.cell 0⟩)
      have HVA : Hid (∀ W, (PV B gc f view low vb vv (.slice Asp sps.length csp) q p g p' g' z x sb sd sg w (.slice Av l.length cv0) l ps W /\ Blk W p' 58 #[.slice Al x.L.length cl] /\ Blk W g' 60 #[.slice Ag x.G.length cg]) -> Calls Tryz.prog 14 #[.pointer (some ⟨p, 0, none⟩), .pointer (some ⟨g, 0, none⟩), .int .i64 f, .int .i64 view, .int .i64 low, .slice Av l.length cv0] W fun e w' => e = .returned (.bool (aboveB x.L x.G f view low low l)) /\ (PV B gc f view low vb vv (.slice Asp sps.length csp) q p g p' g' z x sb sd sg w (.slice Av l.length cv0) l ps w' /\ Blk w' p' 58 #[.slice Al x.L.length cl] /\ Blk w' g' 60 #[.slice Ag x.G.length cg])) := Lib.hid (fun W h => by
        refine (HA.out W _ _ p g x.L x.G f view low _ l h.1.st.tl h.1.vs.pl HAO.out HLL.out HZ.out.hG).mono ?_
        rintro e w' ⟨rfl, hb⟩
        exact ⟨rfl, HBL.out _ _ h hb⟩)
      have HRA : Hid (∀ W, (PV B gc f view low vb vv (.slice Asp sps.length csp) q p g p' g' z x sb sd sg w (.slice Av l.length cv0) l ps W /\ Blk W p' 58 #[.slice Al x.L.length cl] /\ Blk W g' 60 #[.slice Ag x.G.length cg]) -> Calls Tryz.prog 15 #[.pointer (some ⟨p', 0, none⟩), .pointer (some ⟨g', 0, none⟩), .int .i64 f, .int .i64 view, .int .i64 low, .slice Av l.length cv0] W fun e w' => e = .returned (.bool (aboveB x.L x.G f view low low l)) /\ (PV B gc f view low vb vv (.slice Asp sps.length csp) q p g p' g' z x sb sd sg w (.slice Av l.length cv0) l ps w' /\ Blk w' p' 58 #[.slice Al x.L.length cl] /\ Blk w' g' 60 #[.slice Ag x.G.length cg])) := Lib.hid (fun W h => by
        refine (rabove_any W _ _ p' g' x.L x.G f view low _ l h.1.st.rt h.1.vs.pl HAO.out HLL.out HZ.out.hG).mono ?_
        rintro e w' ⟨rfl, hb⟩
        exact ⟨rfl, HBL.out _ _ h hb⟩)
      have HTL : Hid (∀ W, (PV B gc f view low vb vv (.slice Asp sps.length csp) q p g p' g' z x sb sd sg w (.slice Av l.length cv0) l ps W /\ Blk W p' 58 #[.slice Al x.L.length cl] /\ Blk W g' 60 #[.slice Ag x.G.length cg]) -> Calls Tryz.prog 16 #[.pointer (some ⟨p, 0, none⟩)] W fun e w' => e = .returned (.int .i64 x.L.length) /\ W = w') := Lib.hid (fun W h => tl_len h.1.st.tl)
      have HTG : Hid (∀ W, (PV B gc f view low vb vv (.slice Asp sps.length csp) q p g p' g' z x sb sd sg w (.slice Av l.length cv0) l ps W /\ Blk W p' 58 #[.slice Al x.L.length cl] /\ Blk W g' 60 #[.slice Ag x.G.length cg]) -> Calls Tryz.prog 17 #[.pointer (some ⟨g, 0, none⟩)] W fun e w' => e = .returned (.int .i64 x.G.length) /\ W = w') := Lib.hid (fun W h => tl_glen h.1.st.tl)
      have hxl : (x.L.length : Int) <= 1048576 := by
        have := hpv.st.tl
        obtain ⟨S1, S2, ⟨m, tv, D, -, -, -, -, -, -, -, -, h⟩, -⟩ := this
        omega
      have hxg : (x.G.length : Int) <= 140737488355328 := by have := HZ.out.hG; omega
      generalize aboveB x.L x.G f view low low l = bv at *
      have HX8 : Hid (PV B gc f view low vb vv (.slice Asp sps.length csp) q p g p' g' z x sb sd sg w (.slice Av l.length cv0) l ps wr.drew /\ Blk wr.drew p' 58 #[.slice Al x.L.length cl] /\ Blk wr.drew g' 60 #[.slice Ag x.G.length cg]) := Lib.hid (HBL.out _ _ HPY.out (below_drewN (Below.refl _ _) 1))
      have C8 := HCL.out _ HX8.out
      clear hpv hk1 hk2 HPY hk hkt
      cases bv
      all_goals
        go_upto_region 13 with fail
        simp only [List.append_eq, List.cons_append, List.nil_append]
        go_region_held3 (fun w' => w'.cell? ⟨q, 0, none⟩ = some (.pointer (some ⟨p, 0, none⟩)) /\ w'.cell? ⟨q, 1, none⟩ = some (.pointer (some ⟨g, 0, none⟩)) /\ w'.cell? ⟨q, 2, none⟩ = some (.pointer (some ⟨p', 0, none⟩)) /\ w'.cell? ⟨q, 3, none⟩ = some (.pointer (some ⟨g', 0, none⟩)) /\ w'.cell? ⟨gc, 0, none⟩ = some (.int .i64 f) /\ w'.cell? ⟨gc, 4, none⟩ = some (.int .i64 view) /\ w'.cell? ⟨gc, 5, none⟩ = some (.int .i64 low) /\ w'.cell? ⟨p', 0, none⟩ = some (.slice Al x.L.length cl) /\ w'.cell? ⟨g', 0, none⟩ = some (.slice Ag x.G.length cg))
          (first | with_reducible exact C8 | with_reducible exact C9 | with_reducible exact C10 | with_reducible exact C11 | (go_keep; done))
          (first
          | (go_at_call 16; refine (HTL.out _ HX.out).mono ?_; rintro e w13 ⟨rfl, rfl⟩)
          | (go_at_call 17; refine (HTG.out _ HX.out).mono ?_; rintro e w14 ⟨rfl, rfl⟩)
          | (go_at_call 14; refine (HVA.out _ HX10.out).mono ?_; rintro e w11 ⟨rfl, hl⟩; have HX := Lib.hid hl; have C11 := HCL.out _ hl; clear hl)
          | (go_at_call 15; refine (HRA.out _ HX9.out).mono ?_; rintro e w12 ⟨rfl, hl⟩; have HX := Lib.hid hl; have C11 := HCL.out _ hl; clear hl)
          | (go_at_call 14; refine (HVA.out _ HX8.out).mono ?_; rintro e w9 ⟨rfl, hl⟩; have HX9 := Lib.hid hl; have C9 := HCL.out _ hl; clear hl)
          | (go_at_call 15; refine (HRA.out _ HX8.out).mono ?_; rintro e w10 ⟨rfl, hl⟩; have HX10 := Lib.hid hl; have C10 := HCL.out _ hl; clear hl))
        all_goals
          go_wp2_with fail
          go_ret
          exact ⟨rfl, HX.out.1.hb⟩
end Go.Proofs.YtmhmnkpaijoaaaaGreat.Ptb
