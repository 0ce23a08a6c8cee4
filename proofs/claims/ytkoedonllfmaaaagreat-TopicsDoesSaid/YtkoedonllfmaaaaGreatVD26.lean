/-
  Layer 7: the walk of the document's commit (begun).
-/
import Derived.Test.YtkoedonllfmaaaaGreatVD23
import Derived.Deep.DeepCutAuto
namespace Go.Proofs.YtkoedonllfmaaaaGreat.Xv
set_option linter.unusedSimpArgs false
open Go Go.RowKit Ck Kw Ga Kf Km Pm Pe Pz Py Tm Tn Tq Ah Ta Tb Td Xa Xr Xs Xu
attribute [local go_sem ↓] Go.wp_at_zero Go.wp_at_succ
set_option linter.unusedVariables false
set_option maxRecDepth 100000

/-- One topic's cell is turned, and the result is written. -/
theorem rput_end {w w1 W : World} {S : Nat → Prop} {q i j g cl : Nat} {m : St} {l : List Tw} {ad : Addr} {x' : Tw} {v u1 u2 : Value} (hL : l.map (·.1) = m.L) (hP : TParts w1 (fun k => S k ∧ k < w.heap.size) q l m.last (.slice (some ad) l.length cl)) (had : ad = ⟨ad.block, 0, none⟩) (hi : i < l.length) (hj : j < 4)
    (hw : Below w.heap.size w w1) (hg0 : w.heap.size ≤ g) (hg1 : g < w1.heap.size) (hb : Below w1.heap.size w1 W) (he : TC x' = (TC l[i]).set j v) (hx : TwOk W (fun k => ¬ (Up (fun k => S k ∧ k < w.heap.size) w1 W k) ∨ k = q ∨ some ad.block = some k) x') :
    RDone S q ⟨m.L.set i x'.1, m.last⟩ w (((W.setCell ⟨ad.block, i * 4 + j, none⟩ v).setCell ⟨g, 0, none⟩ u1).setCell ⟨g, 1, none⟩ u2) := by
  have hp := tparts_put hP had hi hj hb he hx
  have hsad := hP.slv ad.block rfl
  have hmap : (l.set i x').map (·.1) = m.L.set i x'.1 := by rw [List.map_set, hL]
  have cr := two_ch (W.setCell ⟨ad.block, i * 4 + j, none⟩ v) g u1 u2
  have s1 := hw.size
  have s2 := hb.size
  have hsz : (W.setCell ⟨ad.block, i * 4 + j, none⟩ v).heap.size = W.heap.size := by simp
  have hsz2 : (((W.setCell ⟨ad.block, i * 4 + j, none⟩ v).setCell ⟨g, 0, none⟩ u1).setCell ⟨g, 1, none⟩ u2).heap.size = W.heap.size := by simp
  refine ⟨⟨_, _, hmap, (hp.ch cr (fun k hk e => ?_)).up (fun k hk => ?_)⟩, ?_⟩
  · rcases hk with hk | hk <;> omega
  · rcases hk with hk | hk
    · exact .inl hk.1
    · exact .inr ⟨by omega, by rw [hsz2]; rw [hsz] at hk; exact hk.2⟩
  · have c1 : Ch (fun k => k = ad.block) w W := (Ch.of_below (S := fun k => k = ad.block) hw (Nat.le_refl _)).trans (Ch.of_below (S := fun k => k = ad.block) hb (Nat.le_refl _)) (fun k _ h => h)
    have c2 : Ch (fun k => k = ad.block) w (W.setCell ⟨ad.block, i * 4 + j, none⟩ v) := c1.setCell (p := ⟨ad.block, i * 4 + j, none⟩) (fun _ => rfl) _
    exact (c2.trans cr (fun k hk h => by omega)).mono (fun k _ h => by rw [h]; exact hsad.1)
theorem rcommit_end {w w1 W : World} {S : Nat → Prop} {q i g cl B : Nat} {m : St} {l : List Tw} {ad : Addr} {t' : Tp} {gs : List Gp} {rv gv v u1 u2 : Value} (hL : l.map (·.1) = m.L) (hP : TParts w (fun k => S k ∧ k < w.heap.size) q l m.last (.slice (some ad) l.length cl)) (had : ad = ⟨ad.block, 0, none⟩) (hi : i < l.length) (hx : l[i] = (t', rv, gv))
    (hw : Below w.heap.size w w1) (hg0 : w.heap.size ≤ g) (hg1 : g < w1.heap.size) (hb : Below w1.heap.size w1 W) (hB : w1.heap.size ≤ B) (ho : W.ownsRow B 76 2 v gs.length (GCs gs)) :
    RDone S q ⟨m.L.set i { t' with gs := gs }, m.last⟩ w (((W.setCell ⟨ad.block, i * 4 + 3, none⟩ v).setCell ⟨g, 0, none⟩ u1).setCell ⟨g, 1, none⟩ u2) := by
  have hq := hP.blk.lt
  have s1 := hw.size
  have hadl : ad.block < w.heap.size := (hP.slv ad.block rfl).2
  have htw := hP.each l[i] (List.getElem_mem hi)
  rw [hx] at htw
  refine rput_end (x' := ({ t' with gs := gs }, rv, v)) hL (hP.later hw) had hi (by omega) hw hg0 hg1 hb (by rw [hx]; rfl) ⟨?_, ?_⟩
  · exact ((htw.recs.weaken (fun b hb h => by
      rcases h with h | h
      · exact .inl (fun hs => h (.inl hs))
      · exact .inr h)).after hw).after hb
  · exact Sl.of_own ho (fun k h1 h2 h => by
      rcases h with h | h | h
      · exact h (.inr ⟨by omega, h2⟩)
      · omega
      · injection h with h; omega)
set_option maxHeartbeats 4000000 in
theorem rcommit_any (w : World) (S : Nat → Prop) (q i : Nat) (m : St) (t : Tp) (o : O) (A : Option Addr) (c : Nat) (h : Tk w S q m) (hg : GoodL m.L) (hi : m.L[i]? = some t) :
    Calls Tryz.prog 50 #[.pointer (some ⟨q, 0, none⟩), .int .i64 (i : Int), .agg #[.int .i64 o.kind, .string ⟨o.topic.toArray⟩, .string ⟨o.group.toArray⟩, .int .i64 o.off, .slice A o.recs.length c]] w fun e w' =>
      e = .returned (.agg #[.int .i64 (comT m.L i t o.group o.off).1.1, .int .i64 (comT m.L i t o.group o.off).1.2]) ∧ RDone S q ⟨(comT m.L i t o.group o.off).2, m.last⟩ w w' := by
  have H := Lib.hid h
  obtain ⟨l, lv, hL, hP⟩ := h.bound
  obtain ⟨hlt, hli⟩ := row_of hL hi
  have hok := (okT_iff t).1 (hg.ok t (by obtain ⟨hh, e⟩ := List.getElem?_eq_some_iff.1 hi; rw [← e]; exact List.getElem_mem hh))
  have hft : FitT t := hg.fit t (by obtain ⟨hh, e⟩ := List.getElem?_eq_some_iff.1 hi; rw [← e]; exact List.getElem_mem hh)
  have hl8 : l.length ≤ 8 := by rw [← rows_len hL]; exact hg.few
  obtain ⟨Al, cl, rfl, hlc⟩ := hP.shape
  obtain ⟨ad, rfl, had, hadq, hat⟩ := hP.at_ hlt
  have c0 : w.cell? ⟨q, 0, none⟩ = some (.slice (some ad) l.length cl) := by have := hP.blk.cell 0; simpa using this
  have htw := hP.each l[i] (List.getElem_mem hlt)
  obtain ⟨vs, hvl, hvr⟩ := htw.recs
  obtain ⟨Ar, cr, hrv, -⟩ := id hvl
  obtain ⟨Ag, cg, hgv, -⟩ := id htw.gs
  generalize hx : l[i] = x at *
  obtain ⟨t', rv, gv⟩ := x
  simp only at hli hrv hgv htw hvl hvr
  subst hli hrv hgv
  obtain ⟨a0, a1, a2, a3, f0, f1, f2, f3⟩ := hat
  simp only at a0 a1 a2 a3
  have HPB := Lib.hid (pb_new w o A c t' (.slice Ar t'.recs.length cr) (.slice Ag t'.gs.length cg))
  have HP := Lib.hid hP
  have HL := Lib.hid hL
  have HX := Lib.hid hx
  have HTW := Lib.hid htw
  have HAD := Lib.hid (And.intro had (And.intro hadq (And.intro f2 hg)))
  have hil : (i : Int) < (l.length : Int) := by omega
  have hn0 := hft.base
  have hn1 := hft.next
  have hb2 : Below w.heap.size w ((w.alloc (.cells #[.int .i64 o.kind, .string ⟨o.topic.toArray⟩, .string ⟨o.group.toArray⟩, .int .i64 o.off, .slice A o.recs.length c] 38)).alloc (.cells #[.int .i64 0, .int .i64 0] 30)) := (op_below w _).trans ((op_below _ _).mono (by simp))
  have kp : ∀ {a : Addr} {v : Value}, w.cell? a = some v → ((w.alloc (.cells #[.int .i64 o.kind, .string ⟨o.topic.toArray⟩, .string ⟨o.group.toArray⟩, .int .i64 o.off, .slice A o.recs.length c] 38)).alloc (.cells #[.int .i64 0, .int .i64 0] 30)).cell? a = some v := fun {a v} hc => by rw [hb2.cell (World.block_lt_of_cell? w a hc)]; exact hc
  have c0 := kp c0
  have a0 := kp a0
  have a1 := kp a1
  have a2 := kp a2
  have a3 := kp a3
  have HVS := Lib.hid (show Sl w (fun k => ¬ (S k ∧ k < w.heap.size) ∨ k = q ∨ (Value.slice (some ad) l.length cl).ownBlock = some k) 1 (.slice Ar t'.recs.length cr) t'.recs.length vs from hvl)

  have h1v : ∀ u ∈ vs, u.oneCell' = true := fun u hu => by
    obtain ⟨j, hj, rfl⟩ := List.getElem_of_mem hu
    obtain ⟨_, _, _, hvlen, _⟩ := id hvl
    obtain ⟨u', hu', hs⟩ := hvr j (by omega)
    rw [List.getElem?_eq_getElem hj] at hu'
    injection hu' with e
    rw [e]
    obtain ⟨_, _, e2, _⟩ := hs
    rw [e2]
    rfl
  have H1V := Lib.hid h1v
  have HVR := Lib.hid hvr
  clear hP hL hx htw had hadq f0 f1 f2 f3 hg h hvl hvr h1v hb2 kp
  have hnx : t'.next = t'.base + (t'.recs.length : Int) := rfl
  have HNX := Lib.hid hnx
  simp only [maxNum] at hn1
  have hfew := hft.few
  have HRN := Lib.hid fun (W : World) => rnext_any W t'.n Ar cr (.slice Ag t'.gs.length cg) t' hn0 hft.next
  have hn3 : 0 ≤ t'.next := by omega
  clear hnx
  generalize hne : t'.next = nx at *
  have HNE := Lib.hid hne
  clear hne
  have hg8 := hft.groups
  have HRG := Lib.hid hok.2.2.2
  have HGS := Lib.hid HTW.out.gs
  have HGC : Hid (t'.gs.length ≤ cg) := Lib.hid (by obtain ⟨A2, c2, e, _, h, _⟩ := HTW.out.gs; injection e with e1 e2 e3; omega)
  clear hok
  go_enter Tryz.func50, Tryz.ntmps50
  go_wp2_with fail
  generalize ((w.alloc (.cells #[.int .i64 o.kind, .string ⟨o.topic.toArray⟩, .string ⟨o.group.toArray⟩, .int .i64 o.off, .slice A o.recs.length c] 38)).alloc (.cells #[.int .i64 0, .int .i64 0] 30)).alloc (.cells #[.string ⟨t'.n.toArray⟩, .int .i64 t'.base, .slice Ar t'.recs.length cr, .slice Ag t'.gs.length cg] 74) = W3 at *
  clear c0 a0 a1 a2 a3
  go_loopw [8] (fun i wr => ∃ k : Nat, k ≤ t'.gs.length ∧ i = .int .i64 k ∧ (∀ j, j < k → ∀ f, t'.gs[j]? = some f → f.n < o.group) ∧ Below W3.heap.size W3 wr) (fun i _ => t'.gs.length - (intOf i).toNat)
  case atStart => exact ⟨0, Nat.zero_le _, rfl, fun j hj => absurd hj (by omega), Below.refl _ _⟩
  case round =>
    obtain ⟨k, hk, rfl, hz, hB⟩ := hrel
    have HZ := Lib.hid hz
    have HBW := Lib.hid hB
    have HPW := Lib.hid (PB.later HPB.out hB)
    have o2 := HPW.out.op.cell 2
    have o3 := HPW.out.op.cell 3
    have b0 := HPW.out.top.cell 0
    have b1 := HPW.out.top.cell 1
    have b2 := HPW.out.top.cell 2
    have b3 := HPW.out.top.cell 3
    simp only [List.getElem?_toArray, List.getElem?_cons_zero, List.getElem?_cons_succ] at o2 o3 b0 b1 b2 b3
    clear hz hB
    have hgk : k ≤ cg := by have := HGC.out; omega
    by_cases hgo : ∃ hlt : k < t'.gs.length, t'.gs[k].n < o.group
    · obtain ⟨hlt2, hless⟩ := hgo
      obtain ⟨ag, rfl, g0, g1⟩ := grp_at (HGS.out.after HPW.out.below) hlt2
      have hb : Op.bytesLess t'.gs[k].n o.group = true := by rw [less_eq]; exact decide_eq_true hless
      have HLS := Lib.hid hless
      have hkn : (k : Int) < (t'.gs.length : Int) := by omega
      clear hless
      go_wp2_with fail
      go_quiet (fail)
      go_wp2_with fail
      go_roundw
      case rel =>
        refine ⟨k + 1, by omega, by go_num, fun j hj f hf => ?_, below_drewN HBW.out _⟩
        by_cases hjk : j < k
        · exact HZ.out j hjk f hf
        · obtain rfl : j = k := by omega
          rw [List.getElem?_eq_getElem hlt2] at hf
          rw [← Option.some.inj hf]
          exact HLS.out
      case measure => simp [intOf]; omega
    · have hstop : ∀ f, t'.gs[k]? = some f → ¬ f.n < o.group := fun f hf hlf => hgo ⟨(List.getElem?_eq_some_iff.1 hf).1, by rw [(List.getElem?_eq_some_iff.1 hf).2]; exact hlf⟩
      have HSTOP := Lib.hid hstop
      have HRGo := HRG.out
      by_cases hkl : k < t'.gs.length
      · have hb : Op.bytesLess t'.gs[k].n o.group = false := by rw [less_eq]; exact decide_eq_false (fun h => hgo ⟨hkl, h⟩)
        have hkn : (k : Int) < (t'.gs.length : Int) := by omega
        by_cases heq : t'.gs[k].n = o.group
        · have hpos : pos t'.gs o.group = some t'.gs[k].pos := pos_at hkl (fun j hj f hf e => List.lt_irrefl _ (by have := HZ.out j hj f hf; rw [e] at this; exact this)) heq
          have HPOS := Lib.hid hpos
          have HEQ := Lib.hid heq
          obtain ⟨ag, rfl, g0, g1⟩ := grp_at (HGS.out.after HPW.out.below) hkl
          have hbq : (t'.gs[k].n == o.group) = true := by rw [heq]; exact beq_self_eq_true _
          clear hgo hstop HRGo hpos heq
          go_wp2_with fail
          go_quiet (fail)
          go_wp2_with fail
          go_quiet (fail)
          by_cases y : o.off < t'.gs[k].pos ∨ nx < o.off
          · have y := Lib.hid y
            go_wp2_with fail
            generalize hW9 : wr.drewN _ = W9
            have HP9 := Lib.hid (PB.later HPW.out (hW9 ▸ below_drewN (Below.refl _ wr) _))
            have HB9 : Hid (Below W3.heap.size W3 W9) := Lib.hid (HBW.out.trans ((hW9 ▸ below_drewN (Below.refl _ wr) _ : Below wr.heap.size wr W9).mono HBW.out.size))
            clear hW9 o2 o3 b0 b1 b2 b3
            have o2 := HP9.out.op.cell 2
            have o3 := HP9.out.op.cell 3
            have b0 := HP9.out.top.cell 0
            have b1 := HP9.out.top.cell 1
            have b2 := HP9.out.top.cell 2
            have b3 := HP9.out.top.cell 3
            simp only [List.getElem?_toArray, List.getElem?_cons_zero, List.getElem?_cons_succ] at o2 o3 b0 b1 b2 b3
            by_cases y1 : o.off < t'.gs[k].pos
            · have HE : Hid (comT m.L i t' o.group o.off = ((72, 0), m.L)) := Lib.hid (by rw [comT, HPOS.out, if_pos (.inl y1)])
              go_quiet (fail)
              go_wp2_with fail
              generalize hWA : W9.drewN _ = WA
              have HPA := Lib.hid (PB.later HP9.out (hWA ▸ below_drewN (Below.refl _ W9) _))
              clear hWA
              refine (rbad_any _ 72).mono ?_
              rintro e wb ⟨rfl, hbb⟩
              have HPC := Lib.hid (PB.later (W := WA) HPA.out hbb)
              have q0 := HPC.out.res.cell 0
              have q1 := HPC.out.res.cell 1
              have qf0 := HPC.out.res.frozen 0
              have qf1 := HPC.out.res.frozen 1
              simp only [List.getElem?_toArray, List.getElem?_cons_zero, List.getElem?_cons_succ] at q0 q1
              clear hbb
              go_wp2_with fail
              have c3 := two_ch wb (w.heap.size + 1) (.int .i64 72) (.int .i64 0)
              refine bodyPost_ret (Qb.results_row1 rfl _ _ (w.heap.size + 1) 30 #[.int .i64 72, .int .i64 0] (0, 0) _ rfl (Xr.blk2 HPC.out.res _ _) Tryz.underlying30 rfl Xr.size_res) rfl ?_
              rw [HE.out]
              exact ⟨rfl, rdone_below H.out (HPC.out.below.trans (c3.below (fun k hk h => by omega) HPC.out.below.size))⟩
            · have y2 : nx < o.off := y.out.resolve_left y1
              have HE : Hid (comT m.L i t' o.group o.off = ((72, 0), m.L)) := Lib.hid (by rw [comT, HPOS.out, HNE.out, if_pos (.inr y2)])
              go_region_law (go_simp; go_at_call 51; refine Calls.mono (HRN.out _) ?_; rintro e wn ⟨rfl, hbn⟩; have hbn' : Below W9.heap.size W9 wn := (by first | exact (below_drewN (Below.refl _ W9) _).trans hbn | exact (Xj.below_drew0 W9).trans hbn); have HPN := Lib.hid (PB.later HP9.out hbn'); have n3 := HPN.out.op.cell 3; simp only [List.getElem?_toArray, List.getElem?_cons_zero, List.getElem?_cons_succ] at n3)
              all_goals
                go_wp2_with fail
                refine (rbad_any _ 72).mono ?_
                rintro e wb ⟨rfl, hbb⟩
                have HPC := Lib.hid (PB.later (W := wn) HPN.out hbb)
                have q0 := HPC.out.res.cell 0
                have q1 := HPC.out.res.cell 1
                have qf0 := HPC.out.res.frozen 0
                have qf1 := HPC.out.res.frozen 1
                simp only [List.getElem?_toArray, List.getElem?_cons_zero, List.getElem?_cons_succ] at q0 q1
                clear hbb
                go_wp2_with fail
                have c3 := two_ch wb (w.heap.size + 1) (.int .i64 72) (.int .i64 0)
                refine bodyPost_ret (Qb.results_row1 rfl _ _ (w.heap.size + 1) 30 #[.int .i64 72, .int .i64 0] (0, 0) _ rfl (Xr.blk2 HPC.out.res _ _) Tryz.underlying30 rfl Xr.size_res) rfl ?_
                rw [HE.out]
                exact ⟨rfl, rdone_below H.out (HPC.out.below.trans (c3.below (fun k hk h => by omega) HPC.out.below.size))⟩
          · have y1 : ¬ o.off < t'.gs[k].pos := fun h => y (.inl h)
            have y2 : ¬ nx < o.off := fun h => y (.inr h)
            clear y
            go_upto_region 9 with fail
            generalize hW9 : wr.drewN _ = W9
            have HP9 := Lib.hid (PB.later HPW.out (hW9 ▸ below_drewN (Below.refl _ wr) _))
            have HB9 : Hid (Below W3.heap.size W3 W9) := Lib.hid (HBW.out.trans ((hW9 ▸ below_drewN (Below.refl _ wr) _ : Below wr.heap.size wr W9).mono HBW.out.size))
            clear hW9 o2 o3 b0 b1 b2 b3
            have o2 := HP9.out.op.cell 2
            have o3 := HP9.out.op.cell 3
            have b0 := HP9.out.top.cell 0
            have b1 := HP9.out.top.cell 1
            have b2 := HP9.out.top.cell 2
            have b3 := HP9.out.top.cell 3
            simp only [List.getElem?_toArray, List.getElem?_cons_zero, List.getElem?_cons_succ] at o2 o3 b0 b1 b2 b3
            go_cut [70] (fun s70 wx => s70 = .bool false ∧ Below W9.heap.size W9 wx)
            case first =>
              go_region_law (go_simp; go_at_call 51; refine Calls.mono (HRN.out _) ?_; rintro e wn ⟨rfl, hbn⟩; have hbn' : Below W9.heap.size W9 wn := (by first | exact (below_drewN (Below.refl _ W9) _).trans hbn | exact (Xj.below_drew0 W9).trans hbn); have HPN := Lib.hid (PB.later HP9.out hbn'); have n3 := HPN.out.op.cell 3; simp only [List.getElem?_toArray, List.getElem?_cons_zero, List.getElem?_cons_succ] at n3)
              all_goals
                go_wp2_with fail
                go_meet
                exact ⟨rfl, hbn'⟩
            case rest =>
              obtain ⟨rfl, hbc⟩ := hcut
              have HPC := Lib.hid (PB.later HP9.out hbc)
              have HBC : Hid (Below W3.heap.size W3 wc) := Lib.hid (HB9.out.trans (hbc.mono HB9.out.size))
              clear hbc o2 o3 b0 b1 b2 b3
              have o2 := HPC.out.op.cell 2
              have o3 := HPC.out.op.cell 3
              have b0 := HPC.out.top.cell 0
              have b1 := HPC.out.top.cell 1
              have b2 := HPC.out.top.cell 2
              have b3 := HPC.out.top.cell 3
              simp only [List.getElem?_toArray, List.getElem?_cons_zero, List.getElem?_cons_succ] at o2 o3 b0 b1 b2 b3
              have hng : insG o.group o.off t'.gs = t'.gs.take k ++ ⟨o.group, o.off⟩ :: t'.gs.drop (k + 1) := by rw [insG_at hk HZ.out HSTOP.out, if_pos ⟨_, List.getElem?_eq_getElem hkl, HEQ.out⟩]
              have HE : Hid (comT m.L i t' o.group o.off = ((0, o.off), m.L.set i { t' with gs := insG o.group o.off t'.gs })) := Lib.hid (by rw [comT, HPOS.out, HNE.out, if_neg (by rintro (h | h); exact y1 h; exact y2 h), if_neg (by rintro ⟨h, -⟩; cases h)])
              have HNG := Lib.hid hng
              clear hng
              have hsl : Sl wc (fun _ => False) 2 (.slice (some ag) t'.gs.length cg) t'.gs.length (GCs t'.gs) := (HGS.out.weaken (fun _ _ h => h.elim)).after HPC.out.below
              have hgc : t'.gs.length ≤ cg := HGC.out
              have hs1 := fun W => gslice_upto (some ag) t'.gs.length cg k hgk W
              obtain ⟨A', hs2, hA'⟩ := gslice_from (some ag) t'.gs.length cg (k + 1) (by omega) hgc
              have hr1 : Sl wc (fun _ => False) 2 (.slice (some ag) k cg) k (GCs (t'.gs.take k)) := by rw [GCs_take]; exact hsl.upto (by omega)
              have hr2 : Sl wc (fun _ => False) 2 (.slice A' (t'.gs.length - (k + 1)) (cg - (k + 1))) (t'.gs.length - (k + 1)) (GCs (t'.gs.drop (k + 1))) := by rw [GCs_drop]; exact hsl.cut (by omega) A' hA'
              have HR := Lib.hid (And.intro hr1 hr2)
              have hk0 : (0 : Int) ≤ (k : Int) := by omega
              have hk1 : (k : Int) ≤ (t'.gs.length : Int) := by omega
              have hgc1 : (k : Int) ≤ (cg : Int) := by omega
              have hgc2 : (k : Int) + 1 ≤ (cg : Int) := by omega
              have hgc3 : (k : Int) + 1 ≤ (t'.gs.length : Int) := by omega
              simp only [Int.natCast_add, Int.cast_ofNat_Int] at hs2
              obtain ⟨i0, hi0, hz0, hz1, hz2⟩ := info_parts info_group
              clear hsl hA' hr1 hr2
              generalize wc = v1 at *
              have SW : ∀ W : World, Below v1.heap.size v1 W → W.cell? ⟨w.heap.size, 2, none⟩ = some (.string ⟨o.group.toArray⟩) ∧ W.cell? ⟨w.heap.size, 3, none⟩ = some (.int .i64 o.off) ∧ W.cell? ⟨w.heap.size + 1 + 1, 3, none⟩ = some (.slice (some ag) t'.gs.length cg) := fun W h => by
                have hp := PB.later HPC.out h
                have a2 := hp.op.cell 2
                have a3 := hp.op.cell 3
                have a4 := hp.top.cell 3
                simp only [List.getElem?_toArray, List.getElem?_cons_zero, List.getElem?_cons_succ] at a2 a3 a4
                exact ⟨a2, a3, a4⟩
              have S0 := SW v1 (Below.refl _ _)
              have S1 := SW v1.drew (Xj.below_drew0 _)
              have S2 := SW (v1.alloc (.cells #[.string ⟨o.group.toArray⟩, .int .i64 o.off] 76)) (op_below _ _)
              have S3 := SW (v1.alloc (.cells #[.string ⟨o.group.toArray⟩, .int .i64 o.off] 76)).drew (below_drewN (op_below _ _) 1)
              have HSW := Lib.hid SW
              clear SW o2 o3 b0 b1 b2 b3
              go_upto_region 14 with fail
              go_cut [11] (fun s11 wx => ∃ A6 c6, s11 = .slice A6 (k + 1) c6 ∧ wx.ownsRow v1.heap.size 76 2 (.slice A6 (k + 1) c6) (k + 1) (GCs (t'.gs.take k) ++ GCs [⟨o.group, o.off⟩]) ∧ Below v1.heap.size v1 wx)
              case first =>
                go_region_held3 (fun W => W.cell? ⟨w.heap.size, 2, none⟩ = some (.string ⟨o.group.toArray⟩) ∧ W.cell? ⟨w.heap.size, 3, none⟩ = some (.int .i64 o.off) ∧ W.cell? ⟨w.heap.size + 1 + 1, 3, none⟩ = some (.slice (some ag) t'.gs.length cg)) (first | with_reducible exact S0 | with_reducible exact S1 | with_reducible exact S2 | with_reducible exact S3 | with_reducible exact S5 | with_reducible exact S6 | with_reducible exact S7) (first | (refine step_append_new (by rfl) (.tmp 81) (.tmp 85) _ (by rfl) 76 i0 _ 2 24 Tryz.underlying72 hi0 hz0 hz1 hz2 rfl (by omega) (by rfl) _ _ k (GCs (t'.gs.take k)) (by rfl) (show Sl v1.drew (fun _ => False) 2 _ k (GCs (t'.gs.take k)) from HR.out.1.after (Xj.below_drew0 _)) (GCs_one _) (by simp only [maxLen]; omega) (by omega) ?_; intro A5 c5 w5 ho5 hb5; have HO5 : Hid (w5.ownsRow v1.heap.size 76 2 (.slice A5 k c5) k (GCs (t'.gs.take k))) := Lib.hid ho5; have HB5 : Hid (Below v1.heap.size v1 w5) := Lib.hid (below_of_drew hb5); have HP5 := Lib.hid (HSW.out _ HB5.out); have S5 := HP5.out; have S6 := HSW.out (w5.alloc (.cells #[.string ⟨o.group.toArray⟩, .int .i64 o.off] 76)) (HB5.out.trans ((op_below _ _).mono HB5.out.size)); clear ho5 hb5) | (refine step_append_sh (by rfl) (.tmp 86) (.tmp 92) _ (by rfl) v1.heap.size 76 i0 _ 2 24 Tryz.underlying72 hi0 hz0 hz1 hz2 rfl (by omega) (.slice A5 k c5) k (GCs (t'.gs.take k)) (by rfl) (show (w5.alloc (.cells #[.string ⟨o.group.toArray⟩, .int .i64 o.off] 76)).ownsRow v1.heap.size 76 2 (.slice A5 k c5) k (GCs (t'.gs.take k)) from HO5.out.alloc _) (fun _ => False) _ 1 (GCs [⟨o.group, o.off⟩]) (by rfl) (show Sl (w5.alloc (.cells #[.string ⟨o.group.toArray⟩, .int .i64 o.off] 76)) (fun _ => False) 2 _ 1 _ from group_lit w5 o.group o.off) (GCs_one _) (by simp only [maxLen]; omega) (by omega) (by have := HB5.out.size; simp at this ⊢; omega) ?_; intro A6 c6 w6 happ; have HAP := Lib.hid happ.1; have HB6 := Lib.hid (below_of_app (W1 := v1) (HB5.out.alloc HB5.out.size _) (show (w5.alloc (.cells #[.string ⟨o.group.toArray⟩, .int .i64 o.off] 76)).ownsRow v1.heap.size 76 2 (.slice A5 k c5) k (GCs (t'.gs.take k)) from HO5.out.alloc _) happ); have S7 := HSW.out w6 HB6.out; clear happ) | (refine step_append_new (by rfl) (.tmp 81) (.tmp 85) _ (by rfl) 76 i0 _ 2 24 Tryz.underlying72 hi0 hz0 hz1 hz2 rfl (by omega) (by rfl) _ _ k (GCs (t'.gs.take k)) (by rfl) (show Sl (v1.alloc (.cells #[.string ⟨o.group.toArray⟩, .int .i64 o.off] 76)).drew (fun _ => False) 2 _ k (GCs (t'.gs.take k)) from (HR.out.1.after (op_below v1 _)).after (Xj.below_drew0 _)) (GCs_one _) (by simp only [maxLen]; omega) (by omega) ?_; intro A5 c5 w5 ho5 hb5; have HO5 : Hid (w5.ownsRow v1.heap.size 76 2 (.slice A5 k c5) k (GCs (t'.gs.take k))) := Lib.hid (own_base ho5 (by simp)); have HB5b := Lib.hid (below_of_drew hb5); have HB5 : Hid (Below v1.heap.size v1 w5) := Lib.hid ((op_below v1 _).trans (HB5b.out.mono (by simp))); have HP5 := Lib.hid (HSW.out _ HB5.out); have S5 := HP5.out; have S6 := HSW.out (w5.alloc (.cells #[.string ⟨o.group.toArray⟩, .int .i64 o.off] 76)) (HB5.out.trans ((op_below _ _).mono HB5.out.size)); clear ho5 hb5) | (refine step_append_sh (by rfl) (.tmp 86) (.tmp 92) _ (by rfl) v1.heap.size 76 i0 _ 2 24 Tryz.underlying72 hi0 hz0 hz1 hz2 rfl (by omega) (.slice A5 k c5) k (GCs (t'.gs.take k)) (by rfl) (show w5.ownsRow v1.heap.size 76 2 (.slice A5 k c5) k (GCs (t'.gs.take k)) from HO5.out) (fun _ => False) _ 1 (GCs [⟨o.group, o.off⟩]) (by rfl) (show Sl w5 (fun _ => False) 2 _ 1 _ from (group_lit v1 o.group o.off).after HB5b.out) (GCs_one _) (by simp only [maxLen]; omega) (by omega) (by have := HB5.out.size; simp at this ⊢; omega) ?_; intro A6 c6 w6 happ; have HAP := Lib.hid happ.1; have HB6 := Lib.hid (below_of_app (W1 := v1) HB5.out HO5.out happ); have S7 := HSW.out w6 HB6.out; clear happ) | (refine step_append_new (by rfl) (.tmp 81) (.tmp 85) _ (by rfl) 76 i0 _ 2 24 Tryz.underlying72 hi0 hz0 hz1 hz2 rfl (by omega) (by rfl) _ _ k (GCs (t'.gs.take k)) (by rfl) (show Sl (v1.drew.alloc (.cells #[.string ⟨o.group.toArray⟩, .int .i64 o.off] 76)) (fun _ => False) 2 _ k (GCs (t'.gs.take k)) from (HR.out.1.after (Xj.below_drew0 _)).after (op_below v1.drew _)) (GCs_one _) (by simp only [maxLen]; omega) (by omega) ?_; intro A5 c5 w5 ho5 hb5; have HO5 : Hid (w5.ownsRow v1.heap.size 76 2 (.slice A5 k c5) k (GCs (t'.gs.take k))) := Lib.hid (own_base ho5 (by simp)); have HB5b := Lib.hid hb5; have HB5 : Hid (Below v1.heap.size v1 w5) := Lib.hid (below_of_drew ((op_below v1.drew _).trans (HB5b.out.mono (by simp)))); have HP5 := Lib.hid (HSW.out _ HB5.out); have S5 := HP5.out; have S6 := HSW.out (w5.alloc (.cells #[.string ⟨o.group.toArray⟩, .int .i64 o.off] 76)) (HB5.out.trans ((op_below _ _).mono HB5.out.size)); clear ho5 hb5) | (refine step_append_sh (by rfl) (.tmp 86) (.tmp 92) _ (by rfl) v1.heap.size 76 i0 _ 2 24 Tryz.underlying72 hi0 hz0 hz1 hz2 rfl (by omega) (.slice A5 k c5) k (GCs (t'.gs.take k)) (by rfl) (show w5.ownsRow v1.heap.size 76 2 (.slice A5 k c5) k (GCs (t'.gs.take k)) from HO5.out) (fun _ => False) _ 1 (GCs [⟨o.group, o.off⟩]) (by rfl) (show Sl w5 (fun _ => False) 2 _ 1 _ from (group_lit v1.drew o.group o.off).after HB5b.out) (GCs_one _) (by simp only [maxLen]; omega) (by omega) (by have := HB5.out.size; simp at this ⊢; omega) ?_; intro A6 c6 w6 happ; have HAP := Lib.hid happ.1; have HB6 := Lib.hid (below_of_app (W1 := v1) HB5.out HO5.out happ); have S7 := HSW.out w6 HB6.out; clear happ))
                all_goals
                  go_wp2_with fail
                  go_meet
                  exact ⟨_, _, rfl, HAP.out, HB6.out⟩
              case rest =>
                obtain ⟨A6, c6, rfl, ho6, hb6⟩ := hcut
                have HAP := Lib.hid ho6
                have HB6 := Lib.hid hb6
                clear ho6 hb6 S0 S1 S2 S3
                generalize wc = w6 at *
                have HP6 := Lib.hid (PB.later HPC.out HB6.out)
                have o3 := HP6.out.op.cell 3
                have b3 := HP6.out.top.cell 3
                simp only [List.getElem?_toArray, List.getElem?_cons_zero, List.getElem?_cons_succ] at o3 b3
                have c0 : w6.cell? ⟨q, 0, none⟩ = some (.slice (some ad) l.length cl) := by have := (HP.out.blk.below HP6.out.below HP.out.blk.lt).cell 0; simpa using this
                have db : w6.drew.cell? ⟨w.heap.size + 1 + 1, 3, none⟩ = some (.slice (some ag) t'.gs.length cg) := b3
                have d0 : w6.drew.cell? ⟨q, 0, none⟩ = some (.slice (some ad) l.length cl) := c0
                have HR2 := Lib.hid (show Sl w6.drew (fun _ => False) 2 (.slice A' (t'.gs.length - (k + 1)) (cg - (k + 1))) (t'.gs.length - (k + 1)) (GCs (t'.gs.drop (k + 1))) from (HR.out.2.after HB6.out).after (Xj.below_drew0 w6))
                have HO6 := Lib.hid (show w6.drew.ownsRow v1.heap.size 76 2 (.slice A6 (k + 1) c6) (k + 1) (GCs (t'.gs.take k) ++ GCs [⟨o.group, o.off⟩]) from own_below HAP.out (Xj.below_drew0 w6))
                go_upto_region 17 with fail
                go_cut [] (fun wx => ∃ A7 c7 w7, wx = w7.setCell ⟨ad.block, i * 4 + 3, none⟩ (.slice A7 (k + 1 + (t'.gs.length - (k + 1))) c7) ∧ w7.ownsRow v1.heap.size 76 2 (.slice A7 (k + 1 + (t'.gs.length - (k + 1))) c7) (k + 1 + (t'.gs.length - (k + 1))) (GCs (t'.gs.take k) ++ GCs [⟨o.group, o.off⟩] ++ GCs (t'.gs.drop (k + 1))) ∧ Below v1.heap.size v1 w7)
                case first =>
                  go_region_law (first | (refine step_append_sh (by rfl) (.tmp 102) (.tmp 106) _ (by rfl) v1.heap.size 76 i0 _ 2 24 Tryz.underlying72 hi0 hz0 hz1 hz2 rfl (by omega) (.slice A6 (k + 1) c6) (k + 1) _ (by rfl) HO6.out (fun _ => False) _ (t'.gs.length - (k + 1)) (GCs (t'.gs.drop (k + 1))) (by rfl) HR2.out (GCs_one _) (by simp only [maxLen]; omega) (by omega) (by have := HB6.out.size; simp at this ⊢; omega) ?_; intro A7 c7 w7 happ; have HA7 := Lib.hid happ.1; have HB7 : Hid (Below v1.heap.size v1 w7) := Lib.hid (below_of_app (W1 := v1) (below_drewN HB6.out 1) HO6.out happ); have HP7 := Lib.hid (PB.later HPC.out HB7.out); have HAT7 := (HP.out.later HP7.out.below).at_ hlt; obtain ⟨ad', e7, -, -, hat7⟩ := HAT7; injection e7 with e7; subst e7; have g3 := hat7.a3; have gf := hat7.f3; rw [HX.out] at g3; clear happ hat7; have c7' : w7.cell? ⟨q, 0, none⟩ = some (.slice (some ad) l.length cl) := (by have := (HP.out.blk.below HP7.out.below HP.out.blk.lt).cell 0; simpa using this)))
                  all_goals
                    go_wp2_with fail
                    go_meet
                    have haddr : (⟨(ad.add (i * 4)).block, (ad.add (i * 4)).off + 3, none⟩ : Addr) = ⟨ad.block, i * 4 + 3, none⟩ := by rw [add_zero' HAD.out.1 (i * 4)]
                    rw [haddr]
                    exact ⟨_, _, w7, rfl, HA7.out, HB7.out⟩
                case rest =>
                  obtain ⟨A7, c7, w7, hw, ha7, hb7⟩ := hcut
                  have HA7 := Lib.hid ha7
                  have HB7 := Lib.hid hb7
                  have HP7 := Lib.hid (PB.later HPC.out hb7)
                  clear ha7 hb7 o3 b3 db d0 c0
                  have hadl : ad.block < w.heap.size := (HP.out.slv ad.block rfl).2
                  have hk7 := HP7.out.res.far (p := ⟨ad.block, i * 4 + 3, none⟩) (by show w.heap.size + 1 ≠ ad.block; omega) (.slice A7 (k + 1 + (t'.gs.length - (k + 1))) c7)
                  have hj7 := HP7.out.op.far (p := ⟨ad.block, i * 4 + 3, none⟩) (by show w.heap.size ≠ ad.block; omega) (.slice A7 (k + 1 + (t'.gs.length - (k + 1))) c7)
                  rw [← hw] at hk7 hj7
                  have HW := Lib.hid hw
                  clear hw
                  have HK7 := Lib.hid hk7
                  have q0 := hk7.cell 0
                  have q1 := hk7.cell 1
                  have qf0 := hk7.frozen 0
                  have qf1 := hk7.frozen 1
                  have q3 := hj7.cell 3
                  simp only [List.getElem?_toArray, List.getElem?_cons_zero, List.getElem?_cons_succ] at q0 q1 q3
                  clear hk7 hj7
                  go_wp2_with fail
                  refine bodyPost_ret (Qb.results_row1 rfl _ _ (w.heap.size + 1) 30 #[.int .i64 0, .int .i64 o.off] (0, 0) _ rfl (Xr.blk2 HK7.out _ _) Tryz.underlying30 rfl Xr.size_res) rfl ?_
                  rw [HE.out]
                  refine ⟨rfl, ?_⟩
                  rw [HW.out]
                  refine rcommit_end HL.out HP.out HAD.out.1 hlt HX.out HPB.out.below (by omega) HPB.out.res.lt (HBC.out.trans (HB7.out.mono HBC.out.size)) HBC.out.size ?_
                  have h7 := HA7.out
                  rw [← GCs_app, ← GCs_app] at h7
                  have hgse : insG o.group o.off t'.gs = t'.gs.take k ++ [⟨o.group, o.off⟩] ++ t'.gs.drop (k + 1) := by rw [HNG.out]; simp
                  rw [hgse]
                  have hlen : (t'.gs.take k ++ [(⟨o.group, o.off⟩ : Gp)] ++ t'.gs.drop (k + 1)).length = k + 1 + (t'.gs.length - (k + 1)) := by simp; omega
                  rw [hlen]
                  exact h7
        · have hpos : pos t'.gs o.group = none := pos_of_at HRGo HZ.out hstop (fun f hf => by rw [List.getElem?_eq_getElem hkl] at hf; rw [← Option.some.inj hf]; exact heq)
          have HPOS := Lib.hid hpos
          have HNO : Hid (∀ f, t'.gs[k]? = some f → f.n ≠ o.group) := Lib.hid (fun f hf => by rw [List.getElem?_eq_getElem hkl] at hf; rw [← Option.some.inj hf]; exact heq)
          obtain ⟨ag, rfl, g0, g1⟩ := grp_at (HGS.out.after HPW.out.below) hkl
          have hbq : (t'.gs[k].n == o.group) = false := beq_eq_false_iff_ne.2 heq
          clear hgo hstop HRGo hpos heq
          go_wp2_with fail
          go_quiet (fail)
          go_wp2_with fail
          go_quiet (fail)
          by_cases y : o.off < 0 ∨ nx < o.off
          · have y := Lib.hid y
            go_wp2_with fail
            generalize hW9 : wr.drewN _ = W9
            have HP9 := Lib.hid (PB.later HPW.out (hW9 ▸ below_drewN (Below.refl _ wr) _))
            have HB9 : Hid (Below W3.heap.size W3 W9) := Lib.hid (HBW.out.trans ((hW9 ▸ below_drewN (Below.refl _ wr) _ : Below wr.heap.size wr W9).mono HBW.out.size))
            clear hW9 o2 o3 b0 b1 b2 b3
            have o2 := HP9.out.op.cell 2
            have o3 := HP9.out.op.cell 3
            have b0 := HP9.out.top.cell 0
            have b1 := HP9.out.top.cell 1
            have b2 := HP9.out.top.cell 2
            have b3 := HP9.out.top.cell 3
            simp only [List.getElem?_toArray, List.getElem?_cons_zero, List.getElem?_cons_succ] at o2 o3 b0 b1 b2 b3
            by_cases y1 : o.off < 0
            · have HE : Hid (comT m.L i t' o.group o.off = ((72, 0), m.L)) := Lib.hid (by rw [comT, HPOS.out, if_pos (.inl y1)])
              go_quiet (fail)
              go_wp2_with fail
              generalize hWA : W9.drewN _ = WA
              have HPA := Lib.hid (PB.later HP9.out (hWA ▸ below_drewN (Below.refl _ W9) _))
              clear hWA
              refine (rbad_any _ 72).mono ?_
              rintro e wb ⟨rfl, hbb⟩
              have HPC := Lib.hid (PB.later (W := WA) HPA.out hbb)
              have q0 := HPC.out.res.cell 0
              have q1 := HPC.out.res.cell 1
              have qf0 := HPC.out.res.frozen 0
              have qf1 := HPC.out.res.frozen 1
              simp only [List.getElem?_toArray, List.getElem?_cons_zero, List.getElem?_cons_succ] at q0 q1
              clear hbb
              go_wp2_with fail
              have c3 := two_ch wb (w.heap.size + 1) (.int .i64 72) (.int .i64 0)
              refine bodyPost_ret (Qb.results_row1 rfl _ _ (w.heap.size + 1) 30 #[.int .i64 72, .int .i64 0] (0, 0) _ rfl (Xr.blk2 HPC.out.res _ _) Tryz.underlying30 rfl Xr.size_res) rfl ?_
              rw [HE.out]
              exact ⟨rfl, rdone_below H.out (HPC.out.below.trans (c3.below (fun k hk h => by omega) HPC.out.below.size))⟩
            · have y2 : nx < o.off := y.out.resolve_left y1
              have HE : Hid (comT m.L i t' o.group o.off = ((72, 0), m.L)) := Lib.hid (by rw [comT, HPOS.out, HNE.out, if_pos (.inr y2)])
              go_region_law (go_simp; go_at_call 51; refine Calls.mono (HRN.out _) ?_; rintro e wn ⟨rfl, hbn⟩; have hbn' : Below W9.heap.size W9 wn := (by first | exact (below_drewN (Below.refl _ W9) _).trans hbn | exact (Xj.below_drew0 W9).trans hbn); have HPN := Lib.hid (PB.later HP9.out hbn'); have n3 := HPN.out.op.cell 3; simp only [List.getElem?_toArray, List.getElem?_cons_zero, List.getElem?_cons_succ] at n3)
              all_goals
                go_wp2_with fail
                refine (rbad_any _ 72).mono ?_
                rintro e wb ⟨rfl, hbb⟩
                have HPC := Lib.hid (PB.later (W := wn) HPN.out hbb)
                have q0 := HPC.out.res.cell 0
                have q1 := HPC.out.res.cell 1
                have qf0 := HPC.out.res.frozen 0
                have qf1 := HPC.out.res.frozen 1
                simp only [List.getElem?_toArray, List.getElem?_cons_zero, List.getElem?_cons_succ] at q0 q1
                clear hbb
                go_wp2_with fail
                have c3 := two_ch wb (w.heap.size + 1) (.int .i64 72) (.int .i64 0)
                refine bodyPost_ret (Qb.results_row1 rfl _ _ (w.heap.size + 1) 30 #[.int .i64 72, .int .i64 0] (0, 0) _ rfl (Xr.blk2 HPC.out.res _ _) Tryz.underlying30 rfl Xr.size_res) rfl ?_
                rw [HE.out]
                exact ⟨rfl, rdone_below H.out (HPC.out.below.trans (c3.below (fun k hk h => by omega) HPC.out.below.size))⟩
          · have y1 : ¬ o.off < 0 := fun h => y (.inl h)
            have y2 : ¬ nx < o.off := fun h => y (.inr h)
            clear y
            go_upto_region 9 with fail
            generalize hW9 : wr.drewN _ = W9
            have HP9 := Lib.hid (PB.later HPW.out (hW9 ▸ below_drewN (Below.refl _ wr) _))
            have HB9 : Hid (Below W3.heap.size W3 W9) := Lib.hid (HBW.out.trans ((hW9 ▸ below_drewN (Below.refl _ wr) _ : Below wr.heap.size wr W9).mono HBW.out.size))
            clear hW9 o2 o3 b0 b1 b2 b3
            have o2 := HP9.out.op.cell 2
            have o3 := HP9.out.op.cell 3
            have b0 := HP9.out.top.cell 0
            have b1 := HP9.out.top.cell 1
            have b2 := HP9.out.top.cell 2
            have b3 := HP9.out.top.cell 3
            simp only [List.getElem?_toArray, List.getElem?_cons_zero, List.getElem?_cons_succ] at o2 o3 b0 b1 b2 b3
            go_cut [70] (fun s70 wx => s70 = .bool false ∧ Below W9.heap.size W9 wx)
            case first =>
              go_region_law (go_simp; go_at_call 51; refine Calls.mono (HRN.out _) ?_; rintro e wn ⟨rfl, hbn⟩; have hbn' : Below W9.heap.size W9 wn := (by first | exact (below_drewN (Below.refl _ W9) _).trans hbn | exact (Xj.below_drew0 W9).trans hbn); have HPN := Lib.hid (PB.later HP9.out hbn'); have n3 := HPN.out.op.cell 3; simp only [List.getElem?_toArray, List.getElem?_cons_zero, List.getElem?_cons_succ] at n3)
              all_goals
                go_wp2_with fail
                go_meet
                exact ⟨rfl, hbn'⟩
            case rest =>
              obtain ⟨rfl, hbc⟩ := hcut
              have HPC := Lib.hid (PB.later HP9.out hbc)
              have HBC : Hid (Below W3.heap.size W3 wc) := Lib.hid (HB9.out.trans (hbc.mono HB9.out.size))
              clear hbc o2 o3 b0 b1 b2 b3
              have o2 := HPC.out.op.cell 2
              have o3 := HPC.out.op.cell 3
              have b0 := HPC.out.top.cell 0
              have b1 := HPC.out.top.cell 1
              have b2 := HPC.out.top.cell 2
              have b3 := HPC.out.top.cell 3
              simp only [List.getElem?_toArray, List.getElem?_cons_zero, List.getElem?_cons_succ] at o2 o3 b0 b1 b2 b3
              by_cases hfull : 8 ≤ t'.gs.length
              · have HPC0 := HPC
                clear HPC
                have HE : Hid (comT m.L i t' o.group o.off = ((6, 0), m.L)) := Lib.hid (by rw [comT, HPOS.out, HNE.out, if_neg (by rintro (h | h); exact y1 h; exact y2 h), if_pos ⟨rfl, hfull⟩])
                have hfull' : (8 : Int) ≤ (t'.gs.length : Int) := by omega
                go_wp2_with fail
                refine (rbad_any _ 6).mono ?_
                rintro e wb ⟨rfl, hbb⟩
                have HPC := Lib.hid (PB.later (W := wc) HPC0.out hbb)
                have q0 := HPC.out.res.cell 0
                have q1 := HPC.out.res.cell 1
                have qf0 := HPC.out.res.frozen 0
                have qf1 := HPC.out.res.frozen 1
                simp only [List.getElem?_toArray, List.getElem?_cons_zero, List.getElem?_cons_succ] at q0 q1
                clear hbb
                go_wp2_with fail
                have c3 := two_ch wb (w.heap.size + 1) (.int .i64 6) (.int .i64 0)
                refine bodyPost_ret (Qb.results_row1 rfl _ _ (w.heap.size + 1) 30 #[.int .i64 6, .int .i64 0] (0, 0) _ rfl (Xr.blk2 HPC.out.res _ _) Tryz.underlying30 rfl Xr.size_res) rfl ?_
                rw [HE.out]
                exact ⟨rfl, rdone_below H.out (HPC.out.below.trans (c3.below (fun k hk h => by omega) HPC.out.below.size))⟩
              · have hfull' : (t'.gs.length : Int) < (8 : Int) := by omega
                have hng : insG o.group o.off t'.gs = t'.gs.take k ++ ⟨o.group, o.off⟩ :: t'.gs.drop k := by rw [insG_at hk HZ.out HSTOP.out, if_neg (by rintro ⟨f, h1, h2⟩; exact HNO.out f h1 h2)]
                have HE : Hid (comT m.L i t' o.group o.off = ((0, o.off), m.L.set i { t' with gs := insG o.group o.off t'.gs })) := Lib.hid (by rw [comT, HPOS.out, HNE.out, if_neg (by rintro (h | h); exact y1 h; exact y2 h), if_neg (by rintro ⟨-, h⟩; exact hfull h)])
                have HNG := Lib.hid hng
                clear hng
                have hsl : Sl wc (fun _ => False) 2 (.slice (some ag) t'.gs.length cg) t'.gs.length (GCs t'.gs) := (HGS.out.weaken (fun _ _ h => h.elim)).after HPC.out.below
                have hgc : t'.gs.length ≤ cg := HGC.out
                have hs1 := fun W => gslice_upto (some ag) t'.gs.length cg k hgk W
                obtain ⟨A', hs2, hA'⟩ := gslice_from (some ag) t'.gs.length cg k (by omega) hgc
                have hr1 : Sl wc (fun _ => False) 2 (.slice (some ag) k cg) k (GCs (t'.gs.take k)) := by rw [GCs_take]; exact hsl.upto (by omega)
                have hr2 : Sl wc (fun _ => False) 2 (.slice A' (t'.gs.length - k) (cg - k)) (t'.gs.length - k) (GCs (t'.gs.drop k)) := by rw [GCs_drop]; exact hsl.cut (by omega) A' hA'
                have HR := Lib.hid (And.intro hr1 hr2)
                have hk0 : (0 : Int) ≤ (k : Int) := by omega
                have hk1 : (k : Int) ≤ (t'.gs.length : Int) := by omega
                have hgc1 : (k : Int) ≤ (cg : Int) := by omega
                obtain ⟨i0, hi0, hz0, hz1, hz2⟩ := info_parts info_group
                clear hsl hA' hr1 hr2
                generalize wc = v1 at *
                have SW : ∀ W : World, Below v1.heap.size v1 W → W.cell? ⟨w.heap.size, 2, none⟩ = some (.string ⟨o.group.toArray⟩) ∧ W.cell? ⟨w.heap.size, 3, none⟩ = some (.int .i64 o.off) ∧ W.cell? ⟨w.heap.size + 1 + 1, 3, none⟩ = some (.slice (some ag) t'.gs.length cg) := fun W h => by
                  have hp := PB.later HPC.out h
                  have a2 := hp.op.cell 2
                  have a3 := hp.op.cell 3
                  have a4 := hp.top.cell 3
                  simp only [List.getElem?_toArray, List.getElem?_cons_zero, List.getElem?_cons_succ] at a2 a3 a4
                  exact ⟨a2, a3, a4⟩
                have S0 := SW v1 (Below.refl _ _)
                have S1 := SW v1.drew (Xj.below_drew0 _)
                have S2 := SW (v1.alloc (.cells #[.string ⟨o.group.toArray⟩, .int .i64 o.off] 76)) (op_below _ _)
                have S3 := SW (v1.alloc (.cells #[.string ⟨o.group.toArray⟩, .int .i64 o.off] 76)).drew (below_drewN (op_below _ _) 1)
                have HSW := Lib.hid SW
                clear SW o2 o3 b0 b1 b2 b3
                go_upto_region 14 with fail
                go_cut [11] (fun s11 wx => ∃ A6 c6, s11 = .slice A6 (k + 1) c6 ∧ wx.ownsRow v1.heap.size 76 2 (.slice A6 (k + 1) c6) (k + 1) (GCs (t'.gs.take k) ++ GCs [⟨o.group, o.off⟩]) ∧ Below v1.heap.size v1 wx)
                case first =>
                  go_region_held3 (fun W => W.cell? ⟨w.heap.size, 2, none⟩ = some (.string ⟨o.group.toArray⟩) ∧ W.cell? ⟨w.heap.size, 3, none⟩ = some (.int .i64 o.off) ∧ W.cell? ⟨w.heap.size + 1 + 1, 3, none⟩ = some (.slice (some ag) t'.gs.length cg)) (first | with_reducible exact S0 | with_reducible exact S1 | with_reducible exact S2 | with_reducible exact S3 | with_reducible exact S5 | with_reducible exact S6 | with_reducible exact S7) (first | (refine step_append_new (by rfl) (.tmp 81) (.tmp 85) _ (by rfl) 76 i0 _ 2 24 Tryz.underlying72 hi0 hz0 hz1 hz2 rfl (by omega) (by rfl) _ _ k (GCs (t'.gs.take k)) (by rfl) (show Sl v1.drew (fun _ => False) 2 _ k (GCs (t'.gs.take k)) from HR.out.1.after (Xj.below_drew0 _)) (GCs_one _) (by simp only [maxLen]; omega) (by omega) ?_; intro A5 c5 w5 ho5 hb5; have HO5 : Hid (w5.ownsRow v1.heap.size 76 2 (.slice A5 k c5) k (GCs (t'.gs.take k))) := Lib.hid ho5; have HB5 : Hid (Below v1.heap.size v1 w5) := Lib.hid (below_of_drew hb5); have HP5 := Lib.hid (HSW.out _ HB5.out); have S5 := HP5.out; have S6 := HSW.out (w5.alloc (.cells #[.string ⟨o.group.toArray⟩, .int .i64 o.off] 76)) (HB5.out.trans ((op_below _ _).mono HB5.out.size)); clear ho5 hb5) | (refine step_append_sh (by rfl) (.tmp 86) (.tmp 92) _ (by rfl) v1.heap.size 76 i0 _ 2 24 Tryz.underlying72 hi0 hz0 hz1 hz2 rfl (by omega) (.slice A5 k c5) k (GCs (t'.gs.take k)) (by rfl) (show (w5.alloc (.cells #[.string ⟨o.group.toArray⟩, .int .i64 o.off] 76)).ownsRow v1.heap.size 76 2 (.slice A5 k c5) k (GCs (t'.gs.take k)) from HO5.out.alloc _) (fun _ => False) _ 1 (GCs [⟨o.group, o.off⟩]) (by rfl) (show Sl (w5.alloc (.cells #[.string ⟨o.group.toArray⟩, .int .i64 o.off] 76)) (fun _ => False) 2 _ 1 _ from group_lit w5 o.group o.off) (GCs_one _) (by simp only [maxLen]; omega) (by omega) (by have := HB5.out.size; simp at this ⊢; omega) ?_; intro A6 c6 w6 happ; have HAP := Lib.hid happ.1; have HB6 := Lib.hid (below_of_app (W1 := v1) (HB5.out.alloc HB5.out.size _) (show (w5.alloc (.cells #[.string ⟨o.group.toArray⟩, .int .i64 o.off] 76)).ownsRow v1.heap.size 76 2 (.slice A5 k c5) k (GCs (t'.gs.take k)) from HO5.out.alloc _) happ); have S7 := HSW.out w6 HB6.out; clear happ) | (refine step_append_new (by rfl) (.tmp 81) (.tmp 85) _ (by rfl) 76 i0 _ 2 24 Tryz.underlying72 hi0 hz0 hz1 hz2 rfl (by omega) (by rfl) _ _ k (GCs (t'.gs.take k)) (by rfl) (show Sl (v1.alloc (.cells #[.string ⟨o.group.toArray⟩, .int .i64 o.off] 76)).drew (fun _ => False) 2 _ k (GCs (t'.gs.take k)) from (HR.out.1.after (op_below v1 _)).after (Xj.below_drew0 _)) (GCs_one _) (by simp only [maxLen]; omega) (by omega) ?_; intro A5 c5 w5 ho5 hb5; have HO5 : Hid (w5.ownsRow v1.heap.size 76 2 (.slice A5 k c5) k (GCs (t'.gs.take k))) := Lib.hid (own_base ho5 (by simp)); have HB5b := Lib.hid (below_of_drew hb5); have HB5 : Hid (Below v1.heap.size v1 w5) := Lib.hid ((op_below v1 _).trans (HB5b.out.mono (by simp))); have HP5 := Lib.hid (HSW.out _ HB5.out); have S5 := HP5.out; have S6 := HSW.out (w5.alloc (.cells #[.string ⟨o.group.toArray⟩, .int .i64 o.off] 76)) (HB5.out.trans ((op_below _ _).mono HB5.out.size)); clear ho5 hb5) | (refine step_append_sh (by rfl) (.tmp 86) (.tmp 92) _ (by rfl) v1.heap.size 76 i0 _ 2 24 Tryz.underlying72 hi0 hz0 hz1 hz2 rfl (by omega) (.slice A5 k c5) k (GCs (t'.gs.take k)) (by rfl) (show w5.ownsRow v1.heap.size 76 2 (.slice A5 k c5) k (GCs (t'.gs.take k)) from HO5.out) (fun _ => False) _ 1 (GCs [⟨o.group, o.off⟩]) (by rfl) (show Sl w5 (fun _ => False) 2 _ 1 _ from (group_lit v1 o.group o.off).after HB5b.out) (GCs_one _) (by simp only [maxLen]; omega) (by omega) (by have := HB5.out.size; simp at this ⊢; omega) ?_; intro A6 c6 w6 happ; have HAP := Lib.hid happ.1; have HB6 := Lib.hid (below_of_app (W1 := v1) HB5.out HO5.out happ); have S7 := HSW.out w6 HB6.out; clear happ) | (refine step_append_new (by rfl) (.tmp 81) (.tmp 85) _ (by rfl) 76 i0 _ 2 24 Tryz.underlying72 hi0 hz0 hz1 hz2 rfl (by omega) (by rfl) _ _ k (GCs (t'.gs.take k)) (by rfl) (show Sl (v1.drew.alloc (.cells #[.string ⟨o.group.toArray⟩, .int .i64 o.off] 76)) (fun _ => False) 2 _ k (GCs (t'.gs.take k)) from (HR.out.1.after (Xj.below_drew0 _)).after (op_below v1.drew _)) (GCs_one _) (by simp only [maxLen]; omega) (by omega) ?_; intro A5 c5 w5 ho5 hb5; have HO5 : Hid (w5.ownsRow v1.heap.size 76 2 (.slice A5 k c5) k (GCs (t'.gs.take k))) := Lib.hid (own_base ho5 (by simp)); have HB5b := Lib.hid hb5; have HB5 : Hid (Below v1.heap.size v1 w5) := Lib.hid (below_of_drew ((op_below v1.drew _).trans (HB5b.out.mono (by simp)))); have HP5 := Lib.hid (HSW.out _ HB5.out); have S5 := HP5.out; have S6 := HSW.out (w5.alloc (.cells #[.string ⟨o.group.toArray⟩, .int .i64 o.off] 76)) (HB5.out.trans ((op_below _ _).mono HB5.out.size)); clear ho5 hb5) | (refine step_append_sh (by rfl) (.tmp 86) (.tmp 92) _ (by rfl) v1.heap.size 76 i0 _ 2 24 Tryz.underlying72 hi0 hz0 hz1 hz2 rfl (by omega) (.slice A5 k c5) k (GCs (t'.gs.take k)) (by rfl) (show w5.ownsRow v1.heap.size 76 2 (.slice A5 k c5) k (GCs (t'.gs.take k)) from HO5.out) (fun _ => False) _ 1 (GCs [⟨o.group, o.off⟩]) (by rfl) (show Sl w5 (fun _ => False) 2 _ 1 _ from (group_lit v1.drew o.group o.off).after HB5b.out) (GCs_one _) (by simp only [maxLen]; omega) (by omega) (by have := HB5.out.size; simp at this ⊢; omega) ?_; intro A6 c6 w6 happ; have HAP := Lib.hid happ.1; have HB6 := Lib.hid (below_of_app (W1 := v1) HB5.out HO5.out happ); have S7 := HSW.out w6 HB6.out; clear happ))
                  all_goals
                    go_wp2_with fail
                    go_meet
                    exact ⟨_, _, rfl, HAP.out, HB6.out⟩
                case rest =>
                  obtain ⟨A6, c6, rfl, ho6, hb6⟩ := hcut
                  have HAP := Lib.hid ho6
                  have HB6 := Lib.hid hb6
                  clear ho6 hb6 S0 S1 S2 S3
                  generalize wc = w6 at *
                  have HP6 := Lib.hid (PB.later HPC.out HB6.out)
                  have o3 := HP6.out.op.cell 3
                  have b3 := HP6.out.top.cell 3
                  simp only [List.getElem?_toArray, List.getElem?_cons_zero, List.getElem?_cons_succ] at o3 b3
                  have c0 : w6.cell? ⟨q, 0, none⟩ = some (.slice (some ad) l.length cl) := by have := (HP.out.blk.below HP6.out.below HP.out.blk.lt).cell 0; simpa using this
                  have db : w6.drew.cell? ⟨w.heap.size + 1 + 1, 3, none⟩ = some (.slice (some ag) t'.gs.length cg) := b3
                  have d0 : w6.drew.cell? ⟨q, 0, none⟩ = some (.slice (some ad) l.length cl) := c0
                  have HR2 := Lib.hid (show Sl w6.drew (fun _ => False) 2 (.slice A' (t'.gs.length - k) (cg - k)) (t'.gs.length - k) (GCs (t'.gs.drop k)) from (HR.out.2.after HB6.out).after (Xj.below_drew0 w6))
                  have HO6 := Lib.hid (show w6.drew.ownsRow v1.heap.size 76 2 (.slice A6 (k + 1) c6) (k + 1) (GCs (t'.gs.take k) ++ GCs [⟨o.group, o.off⟩]) from own_below HAP.out (Xj.below_drew0 w6))
                  go_upto_region 17 with fail
                  go_cut [] (fun wx => ∃ A7 c7 w7, wx = w7.setCell ⟨ad.block, i * 4 + 3, none⟩ (.slice A7 (k + 1 + (t'.gs.length - k)) c7) ∧ w7.ownsRow v1.heap.size 76 2 (.slice A7 (k + 1 + (t'.gs.length - k)) c7) (k + 1 + (t'.gs.length - k)) (GCs (t'.gs.take k) ++ GCs [⟨o.group, o.off⟩] ++ GCs (t'.gs.drop k)) ∧ Below v1.heap.size v1 w7)
                  case first =>
                    go_region_law (first | (refine step_append_sh (by rfl) (.tmp 102) (.tmp 106) _ (by rfl) v1.heap.size 76 i0 _ 2 24 Tryz.underlying72 hi0 hz0 hz1 hz2 rfl (by omega) (.slice A6 (k + 1) c6) (k + 1) _ (by rfl) HO6.out (fun _ => False) _ (t'.gs.length - k) (GCs (t'.gs.drop k)) (by rfl) HR2.out (GCs_one _) (by simp only [maxLen]; omega) (by omega) (by have := HB6.out.size; simp at this ⊢; omega) ?_; intro A7 c7 w7 happ; have HA7 := Lib.hid happ.1; have HB7 : Hid (Below v1.heap.size v1 w7) := Lib.hid (below_of_app (W1 := v1) (below_drewN HB6.out 1) HO6.out happ); have HP7 := Lib.hid (PB.later HPC.out HB7.out); have HAT7 := (HP.out.later HP7.out.below).at_ hlt; obtain ⟨ad', e7, -, -, hat7⟩ := HAT7; injection e7 with e7; subst e7; have g3 := hat7.a3; have gf := hat7.f3; rw [HX.out] at g3; clear happ hat7; have c7' : w7.cell? ⟨q, 0, none⟩ = some (.slice (some ad) l.length cl) := (by have := (HP.out.blk.below HP7.out.below HP.out.blk.lt).cell 0; simpa using this)))
                    all_goals
                      go_wp2_with fail
                      go_meet
                      have haddr : (⟨(ad.add (i * 4)).block, (ad.add (i * 4)).off + 3, none⟩ : Addr) = ⟨ad.block, i * 4 + 3, none⟩ := by rw [add_zero' HAD.out.1 (i * 4)]
                      rw [haddr]
                      exact ⟨_, _, w7, rfl, HA7.out, HB7.out⟩
                  case rest =>
                    obtain ⟨A7, c7, w7, hw, ha7, hb7⟩ := hcut
                    have HA7 := Lib.hid ha7
                    have HB7 := Lib.hid hb7
                    have HP7 := Lib.hid (PB.later HPC.out hb7)
                    clear ha7 hb7 o3 b3 db d0 c0
                    have hadl : ad.block < w.heap.size := (HP.out.slv ad.block rfl).2
                    have hk7 := HP7.out.res.far (p := ⟨ad.block, i * 4 + 3, none⟩) (by show w.heap.size + 1 ≠ ad.block; omega) (.slice A7 (k + 1 + (t'.gs.length - k)) c7)
                    have hj7 := HP7.out.op.far (p := ⟨ad.block, i * 4 + 3, none⟩) (by show w.heap.size ≠ ad.block; omega) (.slice A7 (k + 1 + (t'.gs.length - k)) c7)
                    rw [← hw] at hk7 hj7
                    have HW := Lib.hid hw
                    clear hw
                    have HK7 := Lib.hid hk7
                    have q0 := hk7.cell 0
                    have q1 := hk7.cell 1
                    have qf0 := hk7.frozen 0
                    have qf1 := hk7.frozen 1
                    have q3 := hj7.cell 3
                    simp only [List.getElem?_toArray, List.getElem?_cons_zero, List.getElem?_cons_succ] at q0 q1 q3
                    clear hk7 hj7
                    go_wp2_with fail
                    refine bodyPost_ret (Qb.results_row1 rfl _ _ (w.heap.size + 1) 30 #[.int .i64 0, .int .i64 o.off] (0, 0) _ rfl (Xr.blk2 HK7.out _ _) Tryz.underlying30 rfl Xr.size_res) rfl ?_
                    rw [HE.out]
                    refine ⟨rfl, ?_⟩
                    rw [HW.out]
                    refine rcommit_end HL.out HP.out HAD.out.1 hlt HX.out HPB.out.below (by omega) HPB.out.res.lt (HBC.out.trans (HB7.out.mono HBC.out.size)) HBC.out.size ?_
                    have h7 := HA7.out
                    rw [← GCs_app, ← GCs_app] at h7
                    have hgse : insG o.group o.off t'.gs = t'.gs.take k ++ [⟨o.group, o.off⟩] ++ t'.gs.drop k := by rw [HNG.out]; simp
                    rw [hgse]
                    have hlen : (t'.gs.take k ++ [(⟨o.group, o.off⟩ : Gp)] ++ t'.gs.drop k).length = k + 1 + (t'.gs.length - k) := by simp; omega
                    rw [hlen]
                    exact h7
      · have hpos : pos t'.gs o.group = none := pos_of_at HRGo HZ.out hstop (fun f hf => absurd (List.getElem?_eq_some_iff.1 hf).1 hkl)
        have HPOS := Lib.hid hpos
        have HNO : Hid (∀ f, t'.gs[k]? = some f → f.n ≠ o.group) := Lib.hid (fun f hf => absurd (List.getElem?_eq_some_iff.1 hf).1 hkl)
        have hkn : (t'.gs.length : Int) ≤ (k : Int) := by omega
        clear hgo hstop HRGo hpos
        go_wp2_with fail
        go_quiet (fail)
        go_wp2_with fail
        go_quiet (fail)
        by_cases y : o.off < 0 ∨ nx < o.off
        · have y := Lib.hid y
          go_wp2_with fail
          generalize hW9 : wr.drewN _ = W9
          have HP9 := Lib.hid (PB.later HPW.out (hW9 ▸ below_drewN (Below.refl _ wr) _))
          have HB9 : Hid (Below W3.heap.size W3 W9) := Lib.hid (HBW.out.trans ((hW9 ▸ below_drewN (Below.refl _ wr) _ : Below wr.heap.size wr W9).mono HBW.out.size))
          clear hW9 o2 o3 b0 b1 b2 b3
          have o2 := HP9.out.op.cell 2
          have o3 := HP9.out.op.cell 3
          have b0 := HP9.out.top.cell 0
          have b1 := HP9.out.top.cell 1
          have b2 := HP9.out.top.cell 2
          have b3 := HP9.out.top.cell 3
          simp only [List.getElem?_toArray, List.getElem?_cons_zero, List.getElem?_cons_succ] at o2 o3 b0 b1 b2 b3
          by_cases y1 : o.off < 0
          · have HE : Hid (comT m.L i t' o.group o.off = ((72, 0), m.L)) := Lib.hid (by rw [comT, HPOS.out, if_pos (.inl y1)])
            go_quiet (fail)
            go_wp2_with fail
            generalize hWA : W9.drewN _ = WA
            have HPA := Lib.hid (PB.later HP9.out (hWA ▸ below_drewN (Below.refl _ W9) _))
            clear hWA
            refine (rbad_any _ 72).mono ?_
            rintro e wb ⟨rfl, hbb⟩
            have HPC := Lib.hid (PB.later (W := WA) HPA.out hbb)
            have q0 := HPC.out.res.cell 0
            have q1 := HPC.out.res.cell 1
            have qf0 := HPC.out.res.frozen 0
            have qf1 := HPC.out.res.frozen 1
            simp only [List.getElem?_toArray, List.getElem?_cons_zero, List.getElem?_cons_succ] at q0 q1
            clear hbb
            go_wp2_with fail
            have c3 := two_ch wb (w.heap.size + 1) (.int .i64 72) (.int .i64 0)
            refine bodyPost_ret (Qb.results_row1 rfl _ _ (w.heap.size + 1) 30 #[.int .i64 72, .int .i64 0] (0, 0) _ rfl (Xr.blk2 HPC.out.res _ _) Tryz.underlying30 rfl Xr.size_res) rfl ?_
            rw [HE.out]
            exact ⟨rfl, rdone_below H.out (HPC.out.below.trans (c3.below (fun k hk h => by omega) HPC.out.below.size))⟩
          · have y2 : nx < o.off := y.out.resolve_left y1
            have HE : Hid (comT m.L i t' o.group o.off = ((72, 0), m.L)) := Lib.hid (by rw [comT, HPOS.out, HNE.out, if_pos (.inr y2)])
            go_region_law (go_simp; go_at_call 51; refine Calls.mono (HRN.out _) ?_; rintro e wn ⟨rfl, hbn⟩; have hbn' : Below W9.heap.size W9 wn := (by first | exact (below_drewN (Below.refl _ W9) _).trans hbn | exact (Xj.below_drew0 W9).trans hbn); have HPN := Lib.hid (PB.later HP9.out hbn'); have n3 := HPN.out.op.cell 3; simp only [List.getElem?_toArray, List.getElem?_cons_zero, List.getElem?_cons_succ] at n3)
            all_goals
              go_wp2_with fail
              refine (rbad_any _ 72).mono ?_
              rintro e wb ⟨rfl, hbb⟩
              have HPC := Lib.hid (PB.later (W := wn) HPN.out hbb)
              have q0 := HPC.out.res.cell 0
              have q1 := HPC.out.res.cell 1
              have qf0 := HPC.out.res.frozen 0
              have qf1 := HPC.out.res.frozen 1
              simp only [List.getElem?_toArray, List.getElem?_cons_zero, List.getElem?_cons_succ] at q0 q1
              clear hbb
              go_wp2_with fail
              have c3 := two_ch wb (w.heap.size + 1) (.int .i64 72) (.int .i64 0)
              refine bodyPost_ret (Qb.results_row1 rfl _ _ (w.heap.size + 1) 30 #[.int .i64 72, .int .i64 0] (0, 0) _ rfl (Xr.blk2 HPC.out.res _ _) Tryz.underlying30 rfl Xr.size_res) rfl ?_
              rw [HE.out]
              exact ⟨rfl, rdone_below H.out (HPC.out.below.trans (c3.below (fun k hk h => by omega) HPC.out.below.size))⟩
        · have y1 : ¬ o.off < 0 := fun h => y (.inl h)
          have y2 : ¬ nx < o.off := fun h => y (.inr h)
          clear y
          go_upto_region 9 with fail
          generalize hW9 : wr.drewN _ = W9
          have HP9 := Lib.hid (PB.later HPW.out (hW9 ▸ below_drewN (Below.refl _ wr) _))
          have HB9 : Hid (Below W3.heap.size W3 W9) := Lib.hid (HBW.out.trans ((hW9 ▸ below_drewN (Below.refl _ wr) _ : Below wr.heap.size wr W9).mono HBW.out.size))
          clear hW9 o2 o3 b0 b1 b2 b3
          have o2 := HP9.out.op.cell 2
          have o3 := HP9.out.op.cell 3
          have b0 := HP9.out.top.cell 0
          have b1 := HP9.out.top.cell 1
          have b2 := HP9.out.top.cell 2
          have b3 := HP9.out.top.cell 3
          simp only [List.getElem?_toArray, List.getElem?_cons_zero, List.getElem?_cons_succ] at o2 o3 b0 b1 b2 b3
          go_cut [70] (fun s70 wx => s70 = .bool false ∧ Below W9.heap.size W9 wx)
          case first =>
            go_region_law (go_simp; go_at_call 51; refine Calls.mono (HRN.out _) ?_; rintro e wn ⟨rfl, hbn⟩; have hbn' : Below W9.heap.size W9 wn := (by first | exact (below_drewN (Below.refl _ W9) _).trans hbn | exact (Xj.below_drew0 W9).trans hbn); have HPN := Lib.hid (PB.later HP9.out hbn'); have n3 := HPN.out.op.cell 3; simp only [List.getElem?_toArray, List.getElem?_cons_zero, List.getElem?_cons_succ] at n3)
            all_goals
              go_wp2_with fail
              go_meet
              exact ⟨rfl, hbn'⟩
          case rest =>
            obtain ⟨rfl, hbc⟩ := hcut
            have HPC := Lib.hid (PB.later HP9.out hbc)
            have HBC : Hid (Below W3.heap.size W3 wc) := Lib.hid (HB9.out.trans (hbc.mono HB9.out.size))
            clear hbc o2 o3 b0 b1 b2 b3
            have o2 := HPC.out.op.cell 2
            have o3 := HPC.out.op.cell 3
            have b0 := HPC.out.top.cell 0
            have b1 := HPC.out.top.cell 1
            have b2 := HPC.out.top.cell 2
            have b3 := HPC.out.top.cell 3
            simp only [List.getElem?_toArray, List.getElem?_cons_zero, List.getElem?_cons_succ] at o2 o3 b0 b1 b2 b3
            by_cases hfull : 8 ≤ t'.gs.length
            · have HPC0 := HPC
              clear HPC
              have HE : Hid (comT m.L i t' o.group o.off = ((6, 0), m.L)) := Lib.hid (by rw [comT, HPOS.out, HNE.out, if_neg (by rintro (h | h); exact y1 h; exact y2 h), if_pos ⟨rfl, hfull⟩])
              have hfull' : (8 : Int) ≤ (t'.gs.length : Int) := by omega
              go_wp2_with fail
              refine (rbad_any _ 6).mono ?_
              rintro e wb ⟨rfl, hbb⟩
              have HPC := Lib.hid (PB.later (W := wc) HPC0.out hbb)
              have q0 := HPC.out.res.cell 0
              have q1 := HPC.out.res.cell 1
              have qf0 := HPC.out.res.frozen 0
              have qf1 := HPC.out.res.frozen 1
              simp only [List.getElem?_toArray, List.getElem?_cons_zero, List.getElem?_cons_succ] at q0 q1
              clear hbb
              go_wp2_with fail
              have c3 := two_ch wb (w.heap.size + 1) (.int .i64 6) (.int .i64 0)
              refine bodyPost_ret (Qb.results_row1 rfl _ _ (w.heap.size + 1) 30 #[.int .i64 6, .int .i64 0] (0, 0) _ rfl (Xr.blk2 HPC.out.res _ _) Tryz.underlying30 rfl Xr.size_res) rfl ?_
              rw [HE.out]
              exact ⟨rfl, rdone_below H.out (HPC.out.below.trans (c3.below (fun k hk h => by omega) HPC.out.below.size))⟩
            · have hfull' : (t'.gs.length : Int) < (8 : Int) := by omega
              have hng : insG o.group o.off t'.gs = t'.gs.take k ++ ⟨o.group, o.off⟩ :: t'.gs.drop k := by rw [insG_at hk HZ.out HSTOP.out, if_neg (by rintro ⟨f, h1, h2⟩; exact HNO.out f h1 h2)]
              have HE : Hid (comT m.L i t' o.group o.off = ((0, o.off), m.L.set i { t' with gs := insG o.group o.off t'.gs })) := Lib.hid (by rw [comT, HPOS.out, HNE.out, if_neg (by rintro (h | h); exact y1 h; exact y2 h), if_neg (by rintro ⟨-, h⟩; exact hfull h)])
              have HNG := Lib.hid hng
              clear hng
              have hsl : Sl wc (fun _ => False) 2 (.slice Ag t'.gs.length cg) t'.gs.length (GCs t'.gs) := (HGS.out.weaken (fun _ _ h => h.elim)).after HPC.out.below
              have hgc : t'.gs.length ≤ cg := HGC.out
              have hs1 := fun W => gslice_upto Ag t'.gs.length cg k hgk W
              obtain ⟨A', hs2, hA'⟩ := gslice_from Ag t'.gs.length cg k (by omega) hgc
              have hr1 : Sl wc (fun _ => False) 2 (.slice Ag k cg) k (GCs (t'.gs.take k)) := by rw [GCs_take]; exact hsl.upto (by omega)
              have hr2 : Sl wc (fun _ => False) 2 (.slice A' (t'.gs.length - k) (cg - k)) (t'.gs.length - k) (GCs (t'.gs.drop k)) := by rw [GCs_drop]; exact hsl.cut (by omega) A' hA'
              have HR := Lib.hid (And.intro hr1 hr2)
              have hk0 : (0 : Int) ≤ (k : Int) := by omega
              have hk1 : (k : Int) ≤ (t'.gs.length : Int) := by omega
              have hgc1 : (k : Int) ≤ (cg : Int) := by omega
              obtain ⟨i0, hi0, hz0, hz1, hz2⟩ := info_parts info_group
              clear hsl hA' hr1 hr2
              generalize wc = v1 at *
              have SW : ∀ W : World, Below v1.heap.size v1 W → W.cell? ⟨w.heap.size, 2, none⟩ = some (.string ⟨o.group.toArray⟩) ∧ W.cell? ⟨w.heap.size, 3, none⟩ = some (.int .i64 o.off) ∧ W.cell? ⟨w.heap.size + 1 + 1, 3, none⟩ = some (.slice Ag t'.gs.length cg) := fun W h => by
                have hp := PB.later HPC.out h
                have a2 := hp.op.cell 2
                have a3 := hp.op.cell 3
                have a4 := hp.top.cell 3
                simp only [List.getElem?_toArray, List.getElem?_cons_zero, List.getElem?_cons_succ] at a2 a3 a4
                exact ⟨a2, a3, a4⟩
              have S0 := SW v1 (Below.refl _ _)
              have S1 := SW v1.drew (Xj.below_drew0 _)
              have S2 := SW (v1.alloc (.cells #[.string ⟨o.group.toArray⟩, .int .i64 o.off] 76)) (op_below _ _)
              have S3 := SW (v1.alloc (.cells #[.string ⟨o.group.toArray⟩, .int .i64 o.off] 76)).drew (below_drewN (op_below _ _) 1)
              have HSW := Lib.hid SW
              clear SW o2 o3 b0 b1 b2 b3
              go_upto_region 14 with fail
              go_cut [11] (fun s11 wx => ∃ A6 c6, s11 = .slice A6 (k + 1) c6 ∧ wx.ownsRow v1.heap.size 76 2 (.slice A6 (k + 1) c6) (k + 1) (GCs (t'.gs.take k) ++ GCs [⟨o.group, o.off⟩]) ∧ Below v1.heap.size v1 wx)
              case first =>
                go_region_held3 (fun W => W.cell? ⟨w.heap.size, 2, none⟩ = some (.string ⟨o.group.toArray⟩) ∧ W.cell? ⟨w.heap.size, 3, none⟩ = some (.int .i64 o.off) ∧ W.cell? ⟨w.heap.size + 1 + 1, 3, none⟩ = some (.slice Ag t'.gs.length cg)) (first | with_reducible exact S0 | with_reducible exact S1 | with_reducible exact S2 | with_reducible exact S3 | with_reducible exact S5 | with_reducible exact S6 | with_reducible exact S7) (first | (refine step_append_new (by rfl) (.tmp 81) (.tmp 85) _ (by rfl) 76 i0 _ 2 24 Tryz.underlying72 hi0 hz0 hz1 hz2 rfl (by omega) (by rfl) _ _ k (GCs (t'.gs.take k)) (by rfl) (show Sl v1.drew (fun _ => False) 2 _ k (GCs (t'.gs.take k)) from HR.out.1.after (Xj.below_drew0 _)) (GCs_one _) (by simp only [maxLen]; omega) (by omega) ?_; intro A5 c5 w5 ho5 hb5; have HO5 : Hid (w5.ownsRow v1.heap.size 76 2 (.slice A5 k c5) k (GCs (t'.gs.take k))) := Lib.hid ho5; have HB5 : Hid (Below v1.heap.size v1 w5) := Lib.hid (below_of_drew hb5); have HP5 := Lib.hid (HSW.out _ HB5.out); have S5 := HP5.out; have S6 := HSW.out (w5.alloc (.cells #[.string ⟨o.group.toArray⟩, .int .i64 o.off] 76)) (HB5.out.trans ((op_below _ _).mono HB5.out.size)); clear ho5 hb5) | (refine step_append_sh (by rfl) (.tmp 86) (.tmp 92) _ (by rfl) v1.heap.size 76 i0 _ 2 24 Tryz.underlying72 hi0 hz0 hz1 hz2 rfl (by omega) (.slice A5 k c5) k (GCs (t'.gs.take k)) (by rfl) (show (w5.alloc (.cells #[.string ⟨o.group.toArray⟩, .int .i64 o.off] 76)).ownsRow v1.heap.size 76 2 (.slice A5 k c5) k (GCs (t'.gs.take k)) from HO5.out.alloc _) (fun _ => False) _ 1 (GCs [⟨o.group, o.off⟩]) (by rfl) (show Sl (w5.alloc (.cells #[.string ⟨o.group.toArray⟩, .int .i64 o.off] 76)) (fun _ => False) 2 _ 1 _ from group_lit w5 o.group o.off) (GCs_one _) (by simp only [maxLen]; omega) (by omega) (by have := HB5.out.size; simp at this ⊢; omega) ?_; intro A6 c6 w6 happ; have HAP := Lib.hid happ.1; have HB6 := Lib.hid (below_of_app (W1 := v1) (HB5.out.alloc HB5.out.size _) (show (w5.alloc (.cells #[.string ⟨o.group.toArray⟩, .int .i64 o.off] 76)).ownsRow v1.heap.size 76 2 (.slice A5 k c5) k (GCs (t'.gs.take k)) from HO5.out.alloc _) happ); have S7 := HSW.out w6 HB6.out; clear happ) | (refine step_append_new (by rfl) (.tmp 81) (.tmp 85) _ (by rfl) 76 i0 _ 2 24 Tryz.underlying72 hi0 hz0 hz1 hz2 rfl (by omega) (by rfl) _ _ k (GCs (t'.gs.take k)) (by rfl) (show Sl (v1.alloc (.cells #[.string ⟨o.group.toArray⟩, .int .i64 o.off] 76)).drew (fun _ => False) 2 _ k (GCs (t'.gs.take k)) from (HR.out.1.after (op_below v1 _)).after (Xj.below_drew0 _)) (GCs_one _) (by simp only [maxLen]; omega) (by omega) ?_; intro A5 c5 w5 ho5 hb5; have HO5 : Hid (w5.ownsRow v1.heap.size 76 2 (.slice A5 k c5) k (GCs (t'.gs.take k))) := Lib.hid (own_base ho5 (by simp)); have HB5b := Lib.hid (below_of_drew hb5); have HB5 : Hid (Below v1.heap.size v1 w5) := Lib.hid ((op_below v1 _).trans (HB5b.out.mono (by simp))); have HP5 := Lib.hid (HSW.out _ HB5.out); have S5 := HP5.out; have S6 := HSW.out (w5.alloc (.cells #[.string ⟨o.group.toArray⟩, .int .i64 o.off] 76)) (HB5.out.trans ((op_below _ _).mono HB5.out.size)); clear ho5 hb5) | (refine step_append_sh (by rfl) (.tmp 86) (.tmp 92) _ (by rfl) v1.heap.size 76 i0 _ 2 24 Tryz.underlying72 hi0 hz0 hz1 hz2 rfl (by omega) (.slice A5 k c5) k (GCs (t'.gs.take k)) (by rfl) (show w5.ownsRow v1.heap.size 76 2 (.slice A5 k c5) k (GCs (t'.gs.take k)) from HO5.out) (fun _ => False) _ 1 (GCs [⟨o.group, o.off⟩]) (by rfl) (show Sl w5 (fun _ => False) 2 _ 1 _ from (group_lit v1 o.group o.off).after HB5b.out) (GCs_one _) (by simp only [maxLen]; omega) (by omega) (by have := HB5.out.size; simp at this ⊢; omega) ?_; intro A6 c6 w6 happ; have HAP := Lib.hid happ.1; have HB6 := Lib.hid (below_of_app (W1 := v1) HB5.out HO5.out happ); have S7 := HSW.out w6 HB6.out; clear happ) | (refine step_append_new (by rfl) (.tmp 81) (.tmp 85) _ (by rfl) 76 i0 _ 2 24 Tryz.underlying72 hi0 hz0 hz1 hz2 rfl (by omega) (by rfl) _ _ k (GCs (t'.gs.take k)) (by rfl) (show Sl (v1.drew.alloc (.cells #[.string ⟨o.group.toArray⟩, .int .i64 o.off] 76)) (fun _ => False) 2 _ k (GCs (t'.gs.take k)) from (HR.out.1.after (Xj.below_drew0 _)).after (op_below v1.drew _)) (GCs_one _) (by simp only [maxLen]; omega) (by omega) ?_; intro A5 c5 w5 ho5 hb5; have HO5 : Hid (w5.ownsRow v1.heap.size 76 2 (.slice A5 k c5) k (GCs (t'.gs.take k))) := Lib.hid (own_base ho5 (by simp)); have HB5b := Lib.hid hb5; have HB5 : Hid (Below v1.heap.size v1 w5) := Lib.hid (below_of_drew ((op_below v1.drew _).trans (HB5b.out.mono (by simp)))); have HP5 := Lib.hid (HSW.out _ HB5.out); have S5 := HP5.out; have S6 := HSW.out (w5.alloc (.cells #[.string ⟨o.group.toArray⟩, .int .i64 o.off] 76)) (HB5.out.trans ((op_below _ _).mono HB5.out.size)); clear ho5 hb5) | (refine step_append_sh (by rfl) (.tmp 86) (.tmp 92) _ (by rfl) v1.heap.size 76 i0 _ 2 24 Tryz.underlying72 hi0 hz0 hz1 hz2 rfl (by omega) (.slice A5 k c5) k (GCs (t'.gs.take k)) (by rfl) (show w5.ownsRow v1.heap.size 76 2 (.slice A5 k c5) k (GCs (t'.gs.take k)) from HO5.out) (fun _ => False) _ 1 (GCs [⟨o.group, o.off⟩]) (by rfl) (show Sl w5 (fun _ => False) 2 _ 1 _ from (group_lit v1.drew o.group o.off).after HB5b.out) (GCs_one _) (by simp only [maxLen]; omega) (by omega) (by have := HB5.out.size; simp at this ⊢; omega) ?_; intro A6 c6 w6 happ; have HAP := Lib.hid happ.1; have HB6 := Lib.hid (below_of_app (W1 := v1) HB5.out HO5.out happ); have S7 := HSW.out w6 HB6.out; clear happ))
                all_goals
                  go_wp2_with fail
                  go_meet
                  exact ⟨_, _, rfl, HAP.out, HB6.out⟩
              case rest =>
                obtain ⟨A6, c6, rfl, ho6, hb6⟩ := hcut
                have HAP := Lib.hid ho6
                have HB6 := Lib.hid hb6
                clear ho6 hb6 S0 S1 S2 S3
                generalize wc = w6 at *
                have HP6 := Lib.hid (PB.later HPC.out HB6.out)
                have o3 := HP6.out.op.cell 3
                have b3 := HP6.out.top.cell 3
                simp only [List.getElem?_toArray, List.getElem?_cons_zero, List.getElem?_cons_succ] at o3 b3
                have c0 : w6.cell? ⟨q, 0, none⟩ = some (.slice (some ad) l.length cl) := by have := (HP.out.blk.below HP6.out.below HP.out.blk.lt).cell 0; simpa using this
                have db : w6.drew.cell? ⟨w.heap.size + 1 + 1, 3, none⟩ = some (.slice Ag t'.gs.length cg) := b3
                have d0 : w6.drew.cell? ⟨q, 0, none⟩ = some (.slice (some ad) l.length cl) := c0
                have HR2 := Lib.hid (show Sl w6.drew (fun _ => False) 2 (.slice A' (t'.gs.length - k) (cg - k)) (t'.gs.length - k) (GCs (t'.gs.drop k)) from (HR.out.2.after HB6.out).after (Xj.below_drew0 w6))
                have HO6 := Lib.hid (show w6.drew.ownsRow v1.heap.size 76 2 (.slice A6 (k + 1) c6) (k + 1) (GCs (t'.gs.take k) ++ GCs [⟨o.group, o.off⟩]) from own_below HAP.out (Xj.below_drew0 w6))
                go_upto_region 17 with fail
                go_cut [] (fun wx => ∃ A7 c7 w7, wx = w7.setCell ⟨ad.block, i * 4 + 3, none⟩ (.slice A7 (k + 1 + (t'.gs.length - k)) c7) ∧ w7.ownsRow v1.heap.size 76 2 (.slice A7 (k + 1 + (t'.gs.length - k)) c7) (k + 1 + (t'.gs.length - k)) (GCs (t'.gs.take k) ++ GCs [⟨o.group, o.off⟩] ++ GCs (t'.gs.drop k)) ∧ Below v1.heap.size v1 w7)
                case first =>
                  go_region_law (first | (refine step_append_sh (by rfl) (.tmp 102) (.tmp 106) _ (by rfl) v1.heap.size 76 i0 _ 2 24 Tryz.underlying72 hi0 hz0 hz1 hz2 rfl (by omega) (.slice A6 (k + 1) c6) (k + 1) _ (by rfl) HO6.out (fun _ => False) _ (t'.gs.length - k) (GCs (t'.gs.drop k)) (by rfl) HR2.out (GCs_one _) (by simp only [maxLen]; omega) (by omega) (by have := HB6.out.size; simp at this ⊢; omega) ?_; intro A7 c7 w7 happ; have HA7 := Lib.hid happ.1; have HB7 : Hid (Below v1.heap.size v1 w7) := Lib.hid (below_of_app (W1 := v1) (below_drewN HB6.out 1) HO6.out happ); have HP7 := Lib.hid (PB.later HPC.out HB7.out); have HAT7 := (HP.out.later HP7.out.below).at_ hlt; obtain ⟨ad', e7, -, -, hat7⟩ := HAT7; injection e7 with e7; subst e7; have g3 := hat7.a3; have gf := hat7.f3; rw [HX.out] at g3; clear happ hat7; have c7' : w7.cell? ⟨q, 0, none⟩ = some (.slice (some ad) l.length cl) := (by have := (HP.out.blk.below HP7.out.below HP.out.blk.lt).cell 0; simpa using this)))
                  all_goals
                    go_wp2_with fail
                    go_meet
                    have haddr : (⟨(ad.add (i * 4)).block, (ad.add (i * 4)).off + 3, none⟩ : Addr) = ⟨ad.block, i * 4 + 3, none⟩ := by rw [add_zero' HAD.out.1 (i * 4)]
                    rw [haddr]
                    exact ⟨_, _, w7, rfl, HA7.out, HB7.out⟩
                case rest =>
                  obtain ⟨A7, c7, w7, hw, ha7, hb7⟩ := hcut
                  have HA7 := Lib.hid ha7
                  have HB7 := Lib.hid hb7
                  have HP7 := Lib.hid (PB.later HPC.out hb7)
                  clear ha7 hb7 o3 b3 db d0 c0
                  have hadl : ad.block < w.heap.size := (HP.out.slv ad.block rfl).2
                  have hk7 := HP7.out.res.far (p := ⟨ad.block, i * 4 + 3, none⟩) (by show w.heap.size + 1 ≠ ad.block; omega) (.slice A7 (k + 1 + (t'.gs.length - k)) c7)
                  have hj7 := HP7.out.op.far (p := ⟨ad.block, i * 4 + 3, none⟩) (by show w.heap.size ≠ ad.block; omega) (.slice A7 (k + 1 + (t'.gs.length - k)) c7)
                  rw [← hw] at hk7 hj7
                  have HW := Lib.hid hw
                  clear hw
                  have HK7 := Lib.hid hk7
                  have q0 := hk7.cell 0
                  have q1 := hk7.cell 1
                  have qf0 := hk7.frozen 0
                  have qf1 := hk7.frozen 1
                  have q3 := hj7.cell 3
                  simp only [List.getElem?_toArray, List.getElem?_cons_zero, List.getElem?_cons_succ] at q0 q1 q3
                  clear hk7 hj7
                  go_wp2_with fail
                  refine bodyPost_ret (Qb.results_row1 rfl _ _ (w.heap.size + 1) 30 #[.int .i64 0, .int .i64 o.off] (0, 0) _ rfl (Xr.blk2 HK7.out _ _) Tryz.underlying30 rfl Xr.size_res) rfl ?_
                  rw [HE.out]
                  refine ⟨rfl, ?_⟩
                  rw [HW.out]
                  refine rcommit_end HL.out HP.out HAD.out.1 hlt HX.out HPB.out.below (by omega) HPB.out.res.lt (HBC.out.trans (HB7.out.mono HBC.out.size)) HBC.out.size ?_
                  have h7 := HA7.out
                  rw [← GCs_app, ← GCs_app] at h7
                  have hgse : insG o.group o.off t'.gs = t'.gs.take k ++ [⟨o.group, o.off⟩] ++ t'.gs.drop k := by rw [HNG.out]; simp
                  rw [hgse]
                  have hlen : (t'.gs.take k ++ [(⟨o.group, o.off⟩ : Gp)] ++ t'.gs.drop k).length = k + 1 + (t'.gs.length - k) := by simp; omega
                  rw [hlen]
                  exact h7
end Go.Proofs.YtkoedonllfmaaaaGreat.Xv
