import Derived.BigQuiet
import Derived.Deep.RegionHeld3
import Derived.Deep.RegionHeldLaw
import Derived.Test.YtmhmnkpaijoaaaaGreatSZ01
namespace Go.Proofs.YtmhmnkpaijoaaaaGreat.Jk
set_option linter.unusedSimpArgs false
open Go Go.RowKit Ck Kw Ga Kf Pm Pe Pg Pk Qb Qs Lk Ld Jm Ja Jb Jc
attribute [local go_sem ↓] Go.wp_at_zero Go.wp_at_succ
set_option linter.unusedVariables false
set_option maxRecDepth 100000
set_option maxHeartbeats 4000000 in
theorem sameq_any (x y : Q) (A B : Option Addr) (c d : Nat) (X Y : Nat -> Prop) (w : World) (ha : Ls w X (.slice A x.o.recs.length c) x.o.recs) (hb : Ls w Y (.slice B y.o.recs.length d) y.o.recs) (hl : x.o.recs.length <= 140737488355328) :
    Calls Tryz.prog 94 #[QV x A c, QV y B d] w fun e w' => e = .returned (.bool (decide (x = y))) /\ Below w.heap.size w w' := by
  have b2 : Below w.heap.size w ((w.alloc (.cells (QC x A c) 111)).alloc (.cells (QC y B d) 111)) := (op_below w _).trans ((op_below _ _).mono (by simp))
  have k1 : QB ((w.alloc (.cells (QC x A c) 111)).alloc (.cells (QC y B d) 111)) w.heap.size x A c := Blk.alloc (Blk.new w _ _) _
  have k2 : QB ((w.alloc (.cells (QC x A c) 111)).alloc (.cells (QC y B d) 111)) (w.heap.size + 1) y B d := Blk.new_at (by simp) rfl
  have HS := Lib.hid (rsame_any x.o y.o (OV x.o A c) (OV y.o B d) X Y _ ⟨A, c, rfl, ha.after b2⟩ ⟨B, d, rfl, hb.after b2⟩ hl)
  obtain ⟨a0, a1, a2, a3, a4, a5, a6⟩ := k1.cells
  obtain ⟨b0, b1, b2', b3, b4, b5, b6⟩ := k2.cells
  have HB := Lib.hid b2
  clear b2 k1 k2 ha hb
  unfold OV at HS
  unfold QV
  unfold QC at *
  by_cases h1 : x.client = y.client
  . have e1 : (x.client == y.client) = true := by rw [h1]; exact beq_self_eq_true _
    by_cases h2 : x.time = y.time
    . have e2 : (x.time == y.time) = true := by rw [h2]; exact beq_self_eq_true _
      have HR : Hid (decide (x = y) = sameO x.o y.o) := Lib.hid (by rw [sameO_dec, decide_eq_decide]; exact ⟨fun h => by rw [h], fun h => Q_ext h1 h2 h⟩)
      clear h1 h2
      go_enter Tryz.func94, Tryz.ntmps94
      go_wp2_with fail
      refine HS.out.mono ?_
      rintro e w3 ⟨rfl, hb3⟩
      have HB3 := Lib.hid (HB.out.trans (hb3.mono HB.out.size))
      clear hb3
      go_wp2_with fail
      go_ret
      exact ⟨by rw [HR.out]; rfl, HB3.out⟩
    . have e2 : (x.time == y.time) = false := beq_eq_false_iff_ne.2 h2
      have HR : Hid (decide (x = y) = false) := Lib.hid (decide_eq_false (fun h => h2 (by rw [h])))
      clear h1 h2
      go_enter Tryz.func94, Tryz.ntmps94
      go_wp2_with fail
      go_ret
      exact ⟨by rw [HR.out]; rfl, HB.out⟩
  . have e1 : (x.client == y.client) = false := beq_eq_false_iff_ne.2 h1
    have HR : Hid (decide (x = y) = false) := Lib.hid (decide_eq_false (fun h => h1 (by rw [h])))
    clear h1
    go_enter Tryz.func94, Tryz.ntmps94
    go_wp2_with fail
    go_ret
    exact ⟨by rw [HR.out]; rfl, HB.out⟩
set_option maxHeartbeats 8000000 in
theorem rsameb_any (w : World) (X Y : Nat -> Prop) (va vb : Value) (l m : List Sd) (ha : BI w X va l) (hb : BI w Y vb m) (hr : ∀ x ∈ l, x.q.o.recs.length <= 140737488355328) (hl63 : l.length <= 140737488355328) :
    Calls Tryz.prog 61 #[va, vb] w fun e w' => e = .returned (.bool (decide (l = m))) /\ Below w.heap.size w w' := by
  obtain ⟨A, c, rfl, -⟩ := ha.shape
  obtain ⟨B, d, rfl, -⟩ := hb.shape
  have HA := Lib.hid (show S2 w X Y _ _ l m w from ⟨Below.refl _ w, ha, hb⟩)
  have HR := Lib.hid hr
  clear ha hb hr
  by_cases hlen : l.length = m.length
  . have hn : ((l.length : Int) != (m.length : Int)) = false := by simp [hlen]
    have HLEN := Lib.hid hlen
    have hge := guard_sign
    have hqe := run_neq_sign
    clear hlen
    go_enter Tryz.func61, Tryz.ntmps61
    go_wp2_with fail
    go_loopw [5] (fun j wr => ∃ k : Nat, k <= l.length /\ j = .int .i64 k /\ l.take k = m.take k /\ S2 w X Y (.slice A l.length c) (.slice B m.length d) l m wr) (fun j _ => l.length - (intOf j).toNat)
    case atStart => exact ⟨0, Nat.zero_le _, rfl, rfl, HA.out⟩
    case round =>
      obtain ⟨k, hk, rfl, htk, hs⟩ := hrel
      clear HA
      by_cases hlt : k < l.length
      . have hlt2 : k < m.length := by have := HLEN.out; omega
        obtain ⟨ad, Ar, cr, rfl, hat1, hls1⟩ := hs.one.at_ hlt
        obtain ⟨bd, Br, dr, rfl, hat2, hls2⟩ := hs.two.at_ hlt2
        have hrl := HR.out _ (List.getElem_mem hlt)
        have HN1 := Lib.hid (show l[k] = m[k] -> l.take (k + 1) = m.take (k + 1) from fun h => by rw [List.take_succ_eq_append_getElem hlt, List.take_succ_eq_append_getElem hlt2, htk, h])
        have HN2 := Lib.hid (show l[k] ≠ m[k] -> decide (l = m) = false from fun h => decide_eq_false (fun e => h (by subst e; rfl)))
        have hkp : (0 : Int) <= (k : Int) := by omega
        have hkl : (k : Int) < (l.length : Int) := by omega
        have hkm : (k : Int) < (m.length : Int) := by omega
        generalize l[k] = x at *
        generalize m[k] = y at *
        have HS := Lib.hid fun (n : Nat) => sameq_any x.q y.q Ar Br cr dr X Y (wr.drewN n) (hls1.after (below_drewN (Below.refl _ _) n)) (hls2.after (below_drewN (Below.refl _ _) n)) hrl
        have HSS := Lib.hid hs
        have HAT1 := Lib.hid hat1
        have HAT2 := Lib.hid hat2
        obtain ⟨a0, a1, a2, a3, a4, a5, a6, a7, a8⟩ := hat1
        obtain ⟨b0, b1, b2, b3, b4, b5, b6, b7, b8⟩ := hat2
        unfold QV QC at HS
        clear htk hs hls1 hls2 hlt hlt2
        by_cases hsg : x.s = y.s
        . have hqq : ∀ W : World, (binOp .neq 36 (.agg #[.int .i64 x.s.1, .int .i64 x.s.2]) (.agg #[.int .i64 y.s.1, .int .i64 y.s.2])).run Tryz.prog W = .ok (.bool false) W := fun W => by rw [hqe, show sgB (x.s.1, x.s.2) (y.s.1, y.s.2) = true from by rw [hsg]; exact sgB_yes _]; rfl
          have HSG := Lib.hid hsg
          clear hsg hqe
          by_cases hq : x.q = y.q
          . have HS1 := Lib.hid fun n => (HS.out n).mono (fun e w' h => show e = .returned (.bool true) /\ _ from ⟨by rw [h.1, decide_eq_true hq], h.2⟩)
            have HT := Lib.hid (HN1.out (Sd_ext hq HSG.out))
            clear hq HS HN1 HN2
            go_wp2_with fail
            go_region_held3 (fun w' => (w'.cell? (ad.add (k * 9)) = some (.int .i64 x.q.client) /\ w'.cell? ⟨(ad.add (k * 9)).block, (ad.add (k * 9)).off + 1, none⟩ = some (.int .i64 x.q.time) /\ w'.cell? ⟨(ad.add (k * 9)).block, (ad.add (k * 9)).off + 2, none⟩ = some (.int .i64 x.q.o.kind) /\ w'.cell? ⟨(ad.add (k * 9)).block, (ad.add (k * 9)).off + 3, none⟩ = some (.string ⟨x.q.o.topic.toArray⟩) /\ w'.cell? ⟨(ad.add (k * 9)).block, (ad.add (k * 9)).off + 4, none⟩ = some (.string ⟨x.q.o.group.toArray⟩) /\ w'.cell? ⟨(ad.add (k * 9)).block, (ad.add (k * 9)).off + 5, none⟩ = some (.int .i64 x.q.o.off) /\ w'.cell? ⟨(ad.add (k * 9)).block, (ad.add (k * 9)).off + 6, none⟩ = some (.slice Ar x.q.o.recs.length cr) /\ w'.cell? ⟨(ad.add (k * 9)).block, (ad.add (k * 9)).off + 7, none⟩ = some (.int .i64 x.s.1) /\ w'.cell? ⟨(ad.add (k * 9)).block, (ad.add (k * 9)).off + 8, none⟩ = some (.int .i64 x.s.2)) /\ (w'.cell? (bd.add (k * 9)) = some (.int .i64 y.q.client) /\ w'.cell? ⟨(bd.add (k * 9)).block, (bd.add (k * 9)).off + 1, none⟩ = some (.int .i64 y.q.time) /\ w'.cell? ⟨(bd.add (k * 9)).block, (bd.add (k * 9)).off + 2, none⟩ = some (.int .i64 y.q.o.kind) /\ w'.cell? ⟨(bd.add (k * 9)).block, (bd.add (k * 9)).off + 3, none⟩ = some (.string ⟨y.q.o.topic.toArray⟩) /\ w'.cell? ⟨(bd.add (k * 9)).block, (bd.add (k * 9)).off + 4, none⟩ = some (.string ⟨y.q.o.group.toArray⟩) /\ w'.cell? ⟨(bd.add (k * 9)).block, (bd.add (k * 9)).off + 5, none⟩ = some (.int .i64 y.q.o.off) /\ w'.cell? ⟨(bd.add (k * 9)).block, (bd.add (k * 9)).off + 6, none⟩ = some (.slice Br y.q.o.recs.length dr) /\ w'.cell? ⟨(bd.add (k * 9)).block, (bd.add (k * 9)).off + 7, none⟩ = some (.int .i64 y.s.1) /\ w'.cell? ⟨(bd.add (k * 9)).block, (bd.add (k * 9)).off + 8, none⟩ = some (.int .i64 y.s.2))) (first | exact ⟨HAT1.out, HAT2.out⟩ | exact ⟨HA3.out, HB3.out⟩)
              (first
              | (go_at_call 94; refine (HS1.out 1).mono ?_; rintro e w3 ⟨rfl, hb3⟩; have HS3 := Lib.hid (HSS.out.later (Ga.below_of_drew hb3)); have HA3 := Lib.hid (at9_later HAT1.out (Ga.below_of_drew hb3)); have HB3 := Lib.hid (at9_later HAT2.out (Ga.below_of_drew hb3)); clear hb3))
            all_goals
              go_wp2_with fail
              go_roundw
              case rel => exact ⟨k + 1, by omega, by go_num, HT.out, HS3.out⟩
              case measure => simp [intOf]; omega
          . have HS1 := Lib.hid fun n => (HS.out n).mono (fun e w' h => show e = .returned (.bool false) /\ _ from ⟨by rw [h.1, decide_eq_false hq], h.2⟩)
            have HT := Lib.hid (HN2.out (fun h => hq (by rw [h])))
            clear hq HS HN1 HN2
            go_wp2_with fail
            go_region_held3 (fun w' => (w'.cell? (ad.add (k * 9)) = some (.int .i64 x.q.client) /\ w'.cell? ⟨(ad.add (k * 9)).block, (ad.add (k * 9)).off + 1, none⟩ = some (.int .i64 x.q.time) /\ w'.cell? ⟨(ad.add (k * 9)).block, (ad.add (k * 9)).off + 2, none⟩ = some (.int .i64 x.q.o.kind) /\ w'.cell? ⟨(ad.add (k * 9)).block, (ad.add (k * 9)).off + 3, none⟩ = some (.string ⟨x.q.o.topic.toArray⟩) /\ w'.cell? ⟨(ad.add (k * 9)).block, (ad.add (k * 9)).off + 4, none⟩ = some (.string ⟨x.q.o.group.toArray⟩) /\ w'.cell? ⟨(ad.add (k * 9)).block, (ad.add (k * 9)).off + 5, none⟩ = some (.int .i64 x.q.o.off) /\ w'.cell? ⟨(ad.add (k * 9)).block, (ad.add (k * 9)).off + 6, none⟩ = some (.slice Ar x.q.o.recs.length cr) /\ w'.cell? ⟨(ad.add (k * 9)).block, (ad.add (k * 9)).off + 7, none⟩ = some (.int .i64 x.s.1) /\ w'.cell? ⟨(ad.add (k * 9)).block, (ad.add (k * 9)).off + 8, none⟩ = some (.int .i64 x.s.2)) /\ (w'.cell? (bd.add (k * 9)) = some (.int .i64 y.q.client) /\ w'.cell? ⟨(bd.add (k * 9)).block, (bd.add (k * 9)).off + 1, none⟩ = some (.int .i64 y.q.time) /\ w'.cell? ⟨(bd.add (k * 9)).block, (bd.add (k * 9)).off + 2, none⟩ = some (.int .i64 y.q.o.kind) /\ w'.cell? ⟨(bd.add (k * 9)).block, (bd.add (k * 9)).off + 3, none⟩ = some (.string ⟨y.q.o.topic.toArray⟩) /\ w'.cell? ⟨(bd.add (k * 9)).block, (bd.add (k * 9)).off + 4, none⟩ = some (.string ⟨y.q.o.group.toArray⟩) /\ w'.cell? ⟨(bd.add (k * 9)).block, (bd.add (k * 9)).off + 5, none⟩ = some (.int .i64 y.q.o.off) /\ w'.cell? ⟨(bd.add (k * 9)).block, (bd.add (k * 9)).off + 6, none⟩ = some (.slice Br y.q.o.recs.length dr) /\ w'.cell? ⟨(bd.add (k * 9)).block, (bd.add (k * 9)).off + 7, none⟩ = some (.int .i64 y.s.1) /\ w'.cell? ⟨(bd.add (k * 9)).block, (bd.add (k * 9)).off + 8, none⟩ = some (.int .i64 y.s.2))) (first | exact ⟨HAT1.out, HAT2.out⟩ | exact ⟨HA3.out, HB3.out⟩)
              (first
              | (go_at_call 94; refine (HS1.out 1).mono ?_; rintro e w3 ⟨rfl, hb3⟩; have HS3 := Lib.hid (HSS.out.later (Ga.below_of_drew hb3)); have HA3 := Lib.hid (at9_later HAT1.out (Ga.below_of_drew hb3)); have HB3 := Lib.hid (at9_later HAT2.out (Ga.below_of_drew hb3)); clear hb3))
            all_goals
              go_wp2_with fail
              go_ret
              exact ⟨by rw [HT.out]; rfl, HS3.out.below⟩
        . have hqq : ∀ W : World, (binOp .neq 36 (.agg #[.int .i64 x.s.1, .int .i64 x.s.2]) (.agg #[.int .i64 y.s.1, .int .i64 y.s.2])).run Tryz.prog W = .ok (.bool true) W := fun W => by rw [hqe, show sgB (x.s.1, x.s.2) (y.s.1, y.s.2) = false from sgB_no hsg]; rfl
          have HT := Lib.hid (HN2.out (fun h => hsg (by rw [h])))
          clear hsg hqe HS HN1 HN2
          go_wp2_with fail
          go_quiet (fail)
          go_wp2_with fail
          go_ret
          exact ⟨by rw [HT.out]; rfl, below_drewN HSS.out.below _⟩
      . have hke : k = l.length := by omega
        have HN : Hid (decide (l = m) = true) := Lib.hid (by
          rw [hke, List.take_length, HLEN.out, List.take_length] at htk
          exact decide_eq_true htk)
        have HSS := Lib.hid hs
        clear htk hs
        go_wp2_with fail
        go_ret
        exact ⟨by rw [HN.out]; rfl, HSS.out.below⟩
  . have hn : ((l.length : Int) != (m.length : Int)) = true := by simp only [bne_iff_ne, ne_eq]; omega
    have HN : Hid (decide (l = m) = false) := Lib.hid (decide_eq_false (fun h => hlen (by rw [h])))
    clear hlen
    go_enter Tryz.func61, Tryz.ntmps61
    go_wp2_with fail
    go_ret
    exact ⟨by rw [HN.out]; rfl, HA.out.below⟩
end Go.Proofs.YtmhmnkpaijoaaaaGreat.Jk
namespace Go.Proofs.YtmhmnkpaijoaaaaGreat.Prc
set_option linter.unusedSimpArgs false
open Go Go.RowKit Cm Ck Kw Ga Kf Pm Pe Pg Ph Qb Lk Ld Jm Ja Jb Jk Pra Prb
attribute [local go_sem ↓] Go.wp_at_zero Go.wp_at_succ
set_option linter.unusedVariables false
set_option maxRecDepth 100000
set_option maxHeartbeats 4000000 in
theorem ssigns_any (w : World) (X Y : Nat -> Prop) (va vb : Value) (l m : List (Int × Int)) (ha : SS w X va l) (hb : SS w Y vb m) (hl63 : l.length <= 140737488355328) :
    Calls Tryz.prog 60 #[va, vb] w fun e w' => e = .returned (.bool (decide (l = m))) /\ Below w.heap.size w w' := by
  obtain ⟨A, c, rfl⟩ := SS.shape ha
  obtain ⟨B, d, rfl⟩ := SS.shape hb
  have HA := Lib.hid (show T2 w X Y _ _ l m w from ⟨Below.refl _ w, ha, hb⟩)
  clear ha hb
  by_cases hlen : l.length = m.length
  . have hn : ((l.length : Int) != (m.length : Int)) = false := by simp [hlen]
    have HLEN := Lib.hid hlen
    have hge := guard_sign
    have hqe := run_neq_sign
    clear hlen
    go_enter Tryz.func60, Tryz.ntmps60
    go_wp2_with fail
    go_loopw [5] (fun j wr => ∃ k : Nat, k <= l.length /\ j = .int .i64 k /\ l.take k = m.take k /\ T2 w X Y (.slice A l.length c) (.slice B m.length d) l m wr) (fun j _ => l.length - (intOf j).toNat)
    case atStart => exact ⟨0, Nat.zero_le _, rfl, rfl, HA.out⟩
    case round =>
      obtain ⟨k, hk, rfl, htk, hs⟩ := hrel
      clear HA
      by_cases hlt : k < l.length
      . have hlt2 : k < m.length := by have := HLEN.out; omega
        obtain ⟨ad, rfl, a0, a1⟩ := hs.one.at_ hlt
        obtain ⟨bd, rfl, b0, b1⟩ := hs.two.at_ hlt2
        have HN1 := Lib.hid (show l[k] = m[k] -> l.take (k + 1) = m.take (k + 1) from fun h => by rw [List.take_succ_eq_append_getElem hlt, List.take_succ_eq_append_getElem hlt2, htk, h])
        have HN2 := Lib.hid (show l[k] ≠ m[k] -> decide (l = m) = false from fun h => decide_eq_false (fun e => h (by subst e; rfl)))
        have hkp : (0 : Int) <= (k : Int) := by omega
        have hkl : (k : Int) < (l.length : Int) := by omega
        have hkm : (k : Int) < (m.length : Int) := by omega
        generalize l[k] = x at *
        generalize m[k] = y at *
        have HSS := Lib.hid hs
        clear htk hs hlt hlt2
        by_cases hsg : x = y
        . have hqq : ∀ W : World, (binOp .neq 36 (.agg #[.int .i64 x.1, .int .i64 x.2]) (.agg #[.int .i64 y.1, .int .i64 y.2])).run Tryz.prog W = .ok (.bool false) W := fun W => by rw [hqe, show sgB (x.1, x.2) (y.1, y.2) = true from by rw [hsg]; exact sgB_yes _]; rfl
          have HT := Lib.hid (HN1.out hsg)
          clear hsg hqe HN1 HN2
          go_wp2_with fail
          go_quiet (fail)
          go_wp2_with fail
          go_roundw
          case rel => exact ⟨k + 1, by omega, by go_num, HT.out, HSS.out.later (below_drewN (Below.refl _ _) _)⟩
          case measure => simp [intOf]; omega
        . have hqq : ∀ W : World, (binOp .neq 36 (.agg #[.int .i64 x.1, .int .i64 x.2]) (.agg #[.int .i64 y.1, .int .i64 y.2])).run Tryz.prog W = .ok (.bool true) W := fun W => by rw [hqe, show sgB (x.1, x.2) (y.1, y.2) = false from sgB_no hsg]; rfl
          have HT := Lib.hid (HN2.out hsg)
          clear hsg hqe HN1 HN2
          go_wp2_with fail
          go_quiet (fail)
          go_wp2_with fail
          go_ret
          exact ⟨by rw [HT.out]; rfl, below_drewN HSS.out.below _⟩
      . have hke : k = l.length := by omega
        have HN : Hid (decide (l = m) = true) := Lib.hid (by
          rw [hke, List.take_length, HLEN.out, List.take_length] at htk
          exact decide_eq_true htk)
        have HSS := Lib.hid hs
        clear htk hs
        go_wp2_with fail
        go_ret
        exact ⟨by rw [HN.out]; rfl, HSS.out.below⟩
  . have hn : ((l.length : Int) != (m.length : Int)) = true := by simp only [bne_iff_ne, ne_eq]; omega
    have HN : Hid (decide (l = m) = false) := Lib.hid (decide_eq_false (fun h => hlen (by rw [h])))
    clear hlen
    go_enter Tryz.func60, Tryz.ntmps60
    go_wp2_with fail
    go_ret
    exact ⟨by rw [HN.out]; rfl, HA.out.below⟩
set_option maxHeartbeats 4000000 in
theorem rproof_any (w : World) (X Y : Nat -> Prop) (p q : Pd) (rp rq : Pl2) (hp : PI w X p rp) (hq : PI w Y q rq) (hs : p.signs.length <= 140737488355328) (hb : p.batch.length <= 140737488355328) (hr : ∀ x ∈ p.batch, x.q.o.recs.length <= 140737488355328) :
    Calls Tryz.prog 25 #[.agg (PC p rp), .agg (PC q rq)] w fun e w' => e = .returned (.bool (decide (p = q))) /\ Below w.heap.size w w' := by
  have hB : ∀ o o', Below w.heap.size w ((w.alloc o).alloc o') := fun o o' => ((Below.refl _ w).alloc (Nat.le_refl _) _).alloc (by simp) _
  have HB := Lib.hid hB
  have HSI := Lib.hid (fun W (hW : Below w.heap.size w W) => ssigns_any W X Y _ _ p.signs q.signs (hp.signs.after hW) (hq.signs.after hW) hs)
  have HBA := Lib.hid (fun W (hW : Below w.heap.size w W) => rsameb_any W X Y _ _ p.batch q.batch (hp.batch.after hW) (hq.batch.after hW) hr hb)
  have hge := guard_sign
  have hqe := run_eql_sign
  clear hp hq hs hb hr hB
  unfold PC
  by_cases h1 : p.view = q.view
  . by_cases h2 : p.seq = q.seq
    . by_cases h3 : p.dig = q.dig
      . by_cases h4 : p.first = q.first
        . have e1 : (p.view == q.view) = true := by simp [h1]
          have e2 : (p.seq == q.seq) = true := by simp [h2]
          have e3 : (p.dig == q.dig) = true := by simp [h3]
          have e4 : ∀ W : World, (binOp .eql 36 (.agg #[.int .i64 p.first.1, .int .i64 p.first.2]) (.agg #[.int .i64 q.first.1, .int .i64 q.first.2])).run Tryz.prog W = .ok (.bool true) W := fun W => by rw [hqe, show sgB (p.first.1, p.first.2) (q.first.1, q.first.2) = true from by rw [h4]; exact sgB_yes _]
          by_cases h5 : p.signs = q.signs
          . have HS1 := Lib.hid fun W hW => (HSI.out W hW).mono (fun e w' h => show e = .returned (.bool true) /\ _ from ⟨by rw [h.1, decide_eq_true h5], h.2⟩)
            have HD : Hid (decide (p = q) = decide (p.batch = q.batch)) := Lib.hid (by
              by_cases h6 : p.batch = q.batch
              . rw [decide_eq_true h6, decide_eq_true (pd_ext h1 h2 h3 h4 h5 h6)]
              . rw [decide_eq_false h6, decide_eq_false (fun h => h6 (by rw [h]))])
            have hk0 : ∀ o', Blk ((w.alloc (.cells #[.int .i64 p.view, .int .i64 p.seq, .int .i64 p.dig, .int .i64 p.first.1, .int .i64 p.first.2, .slice rp.1.1 p.signs.length rp.1.2, .slice rp.2.1 p.batch.length rp.2.2] 41)).alloc o') w.heap.size 41 #[.int .i64 p.view, .int .i64 p.seq, .int .i64 p.dig, .int .i64 p.first.1, .int .i64 p.first.2, .slice rp.1.1 p.signs.length rp.1.2, .slice rp.2.1 p.batch.length rp.2.2] := fun o' => (Blk.new w _ _).alloc _
            have hk1 : ∀ o, Blk ((w.alloc o).alloc (.cells #[.int .i64 q.view, .int .i64 q.seq, .int .i64 q.dig, .int .i64 q.first.1, .int .i64 q.first.2, .slice rq.1.1 q.signs.length rq.1.2, .slice rq.2.1 q.batch.length rq.2.2] 41)) (w.heap.size + 1) 41 #[.int .i64 q.view, .int .i64 q.seq, .int .i64 q.dig, .int .i64 q.first.1, .int .i64 q.first.2, .slice rq.1.1 q.signs.length rq.1.2, .slice rq.2.1 q.batch.length rq.2.2] := fun o => Blk.new_at (by simp) rfl
            have HK := Lib.hid (And.intro hk0 hk1)
            clear hqe HSI h1 h2 h3 h4 h5 hk0 hk1
            go_enter Tryz.func25, Tryz.ntmps25
            go_wp2_with fail
            refine (HS1.out _ (HB.out _ _)).mono ?_
            rintro e w3 ⟨rfl, hb3⟩
            have c0 := ((HK.out.1 _).below hb3 (HK.out.1 _).lt).cell 6
            have c1 := ((HK.out.2 _).below hb3 (HK.out.2 _).lt).cell 6
            simp only [List.getElem?_toArray, List.getElem?_cons_zero, List.getElem?_cons_succ] at c0 c1
            have HB3 := Lib.hid ((HB.out _ _).trans (hb3.mono (HB.out _ _).size))
            clear hb3 HS1
            go_wp2_with fail
            refine (HBA.out _ HB3.out).mono ?_
            rintro e w4 ⟨rfl, hb4⟩
            have HB4 := Lib.hid (HB3.out.trans (hb4.mono HB3.out.size))
            rw [<- HD.out]
            clear hb4 HBA
            go_wp2_with fail
            go_ret
            exact ⟨rfl, HB4.out⟩
          . have HS1 := Lib.hid fun W hW => (HSI.out W hW).mono (fun e w' h => show e = .returned (.bool false) /\ _ from ⟨by rw [h.1, decide_eq_false h5], h.2⟩)
            have HN : Hid (decide (p = q) = false) := Lib.hid (decide_eq_false (fun h => h5 (by rw [h])))
            clear hqe HSI HBA h1 h2 h3 h4 h5
            go_enter Tryz.func25, Tryz.ntmps25
            go_wp2_with fail
            refine (HS1.out _ (HB.out _ _)).mono ?_
            rintro e w3 ⟨rfl, hb3⟩
            have HB3 := Lib.hid ((HB.out _ _).trans (hb3.mono (HB.out _ _).size))
            clear hb3 HS1
            go_wp2_with fail
            go_ret
            exact ⟨by rw [HN.out]; rfl, HB3.out⟩
        . have e1 : (p.view == q.view) = true := by simp [h1]
          have e2 : (p.seq == q.seq) = true := by simp [h2]
          have e3 : (p.dig == q.dig) = true := by simp [h3]
          have e4 : ∀ W : World, (binOp .eql 36 (.agg #[.int .i64 p.first.1, .int .i64 p.first.2]) (.agg #[.int .i64 q.first.1, .int .i64 q.first.2])).run Tryz.prog W = .ok (.bool false) W := fun W => by rw [hqe, show sgB (p.first.1, p.first.2) (q.first.1, q.first.2) = false from sgB_no h4]
          have HN : Hid (decide (p = q) = false) := Lib.hid (decide_eq_false (fun h => h4 (by rw [h])))
          clear hqe HSI HBA h1 h2 h3 h4
          go_enter Tryz.func25, Tryz.ntmps25
          go_wp2_with fail
          go_ret
          exact ⟨by rw [HN.out]; rfl, HB.out _ _⟩
      . have e1 : (p.view == q.view) = true := by simp [h1]
        have e2 : (p.seq == q.seq) = true := by simp [h2]
        have e3 : (p.dig == q.dig) = false := by rw [beq_eq_false_iff_ne]; exact h3
        have HN : Hid (decide (p = q) = false) := Lib.hid (decide_eq_false (fun h => h3 (by rw [h])))
        clear h1 h2 h3 hqe HSI HBA
        go_enter Tryz.func25, Tryz.ntmps25
        go_wp2_with fail
        go_ret
        exact ⟨by rw [HN.out]; rfl, HB.out _ _⟩
    . have e1 : (p.view == q.view) = true := by simp [h1]
      have e2 : (p.seq == q.seq) = false := by rw [beq_eq_false_iff_ne]; exact h2
      have HN : Hid (decide (p = q) = false) := Lib.hid (decide_eq_false (fun h => h2 (by rw [h])))
      clear h1 h2 hqe HSI HBA
      go_enter Tryz.func25, Tryz.ntmps25
      go_wp2_with fail
      go_ret
      exact ⟨by rw [HN.out]; rfl, HB.out _ _⟩
  . have e1 : (p.view == q.view) = false := by rw [beq_eq_false_iff_ne]; exact h1
    have HN : Hid (decide (p = q) = false) := Lib.hid (decide_eq_false (fun h => h1 (by rw [h])))
    clear h1 hqe HSI HBA
    go_enter Tryz.func25, Tryz.ntmps25
    go_wp2_with fail
    go_ret
    exact ⟨by rw [HN.out]; rfl, HB.out _ _⟩
end Go.Proofs.YtmhmnkpaijoaaaaGreat.Prc
namespace Go.Proofs.YtmhmnkpaijoaaaaGreat.Prd
set_option linter.unusedSimpArgs false
open Go Go.RowKit Cm Ck Kw Ga Kf Pm Pe Pg Ph Qb Lk Ld Jm Ja Jb Jk Pra Prb Prc
attribute [local go_sem ↓] Go.wp_at_zero Go.wp_at_succ
set_option linter.unusedVariables false
set_option maxRecDepth 100000
def Fits (p : Pd) : Prop := p.signs.length <= 140737488355328 /\ p.batch.length <= 140737488355328 /\ ∀ x ∈ p.batch, x.q.o.recs.length <= 140737488355328
set_option maxHeartbeats 4000000 in
theorem sameall_any (w : World) (X Y : Nat -> Prop) (va vb : Value) (l m : List Pd) (ha : PL w X va l) (hb : PL w Y vb m) (hf : ∀ p ∈ l, Fits p) (hl63 : l.length <= 140737488355328) :
    Calls Tryz.prog 26 #[va, vb] w fun e w' => e = .returned (.bool (decide (l = m))) /\ Below w.heap.size w w' := by
  obtain ⟨A, c, rfl, -⟩ := ha.shape
  obtain ⟨B, d, rfl, -⟩ := hb.shape
  have HA := Lib.hid (show U2 w X Y _ _ l m w from ⟨Below.refl _ w, ha, hb⟩)
  have HF := Lib.hid hf
  clear ha hb hf
  by_cases hlen : l.length = m.length
  . have hn : ((l.length : Int) != (m.length : Int)) = false := by simp [hlen]
    have HLEN := Lib.hid hlen
    clear hlen
    go_enter Tryz.func26, Tryz.ntmps26
    go_wp2_with fail
    go_loopw [5] (fun j wr => ∃ k : Nat, k <= l.length /\ j = .int .i64 k /\ l.take k = m.take k /\ U2 w X Y (.slice A l.length c) (.slice B m.length d) l m wr) (fun j _ => l.length - (intOf j).toNat)
    case atStart => exact ⟨0, Nat.zero_le _, rfl, rfl, HA.out⟩
    case round =>
      obtain ⟨k, hk, rfl, htk, hs⟩ := hrel
      clear HA
      by_cases hlt : k < l.length
      . have hlt2 : k < m.length := by have := HLEN.out; omega
        obtain ⟨ad, rp, rfl, hat1, hp1⟩ := hs.one.at_ hlt
        obtain ⟨bd, rq, rfl, hat2, hp2⟩ := hs.two.at_ hlt2
        have hfp := HF.out _ (List.getElem_mem hlt)
        have HN1 := Lib.hid (show l[k] = m[k] -> l.take (k + 1) = m.take (k + 1) from fun h => by rw [List.take_succ_eq_append_getElem hlt, List.take_succ_eq_append_getElem hlt2, htk, h])
        have HN2 := Lib.hid (show l[k] ≠ m[k] -> decide (l = m) = false from fun h => decide_eq_false (fun e => h (by subst e; rfl)))
        have hkp : (0 : Int) <= (k : Int) := by omega
        have hkl : (k : Int) < (l.length : Int) := by omega
        have hkm : (k : Int) < (m.length : Int) := by omega
        generalize l[k] = x at *
        generalize m[k] = y at *
        have HS := Lib.hid fun (n : Nat) => rproof_any (wr.drewN n) X Y x y rp rq (hp1.after (below_drewN (Below.refl _ _) n)) (hp2.after (below_drewN (Below.refl _ _) n)) hfp.1 hfp.2.1 hfp.2.2
        have HSS := Lib.hid hs
        have HAT1 := Lib.hid hat1
        have HAT2 := Lib.hid hat2
        obtain ⟨a0, a1, a2, a3, a4, a5, a6⟩ := hat1
        obtain ⟨b0, b1, b2, b3, b4, b5, b6⟩ := hat2
        unfold PC at HS
        clear htk hs hp1 hp2 hlt hlt2 hfp
        by_cases hq : x = y
        . have HS1 := Lib.hid fun n => (HS.out n).mono (fun e w' h => show e = .returned (.bool true) /\ _ from ⟨by rw [h.1, decide_eq_true hq], h.2⟩)
          have HT := Lib.hid (HN1.out hq)
          clear hq HS HN1 HN2
          go_wp2_with fail
          go_region_held3 (fun w' => (w'.cell? (ad.add (k * 7)) = some (.int .i64 x.view) /\ w'.cell? ⟨(ad.add (k * 7)).block, (ad.add (k * 7)).off + 1, none⟩ = some (.int .i64 x.seq) /\ w'.cell? ⟨(ad.add (k * 7)).block, (ad.add (k * 7)).off + 2, none⟩ = some (.int .i64 x.dig) /\ w'.cell? ⟨(ad.add (k * 7)).block, (ad.add (k * 7)).off + 3, none⟩ = some (.int .i64 x.first.1) /\ w'.cell? ⟨(ad.add (k * 7)).block, (ad.add (k * 7)).off + 4, none⟩ = some (.int .i64 x.first.2) /\ w'.cell? ⟨(ad.add (k * 7)).block, (ad.add (k * 7)).off + 5, none⟩ = some (.slice rp.1.1 x.signs.length rp.1.2) /\ w'.cell? ⟨(ad.add (k * 7)).block, (ad.add (k * 7)).off + 6, none⟩ = some (.slice rp.2.1 x.batch.length rp.2.2)) /\ (w'.cell? (bd.add (k * 7)) = some (.int .i64 y.view) /\ w'.cell? ⟨(bd.add (k * 7)).block, (bd.add (k * 7)).off + 1, none⟩ = some (.int .i64 y.seq) /\ w'.cell? ⟨(bd.add (k * 7)).block, (bd.add (k * 7)).off + 2, none⟩ = some (.int .i64 y.dig) /\ w'.cell? ⟨(bd.add (k * 7)).block, (bd.add (k * 7)).off + 3, none⟩ = some (.int .i64 y.first.1) /\ w'.cell? ⟨(bd.add (k * 7)).block, (bd.add (k * 7)).off + 4, none⟩ = some (.int .i64 y.first.2) /\ w'.cell? ⟨(bd.add (k * 7)).block, (bd.add (k * 7)).off + 5, none⟩ = some (.slice rq.1.1 y.signs.length rq.1.2) /\ w'.cell? ⟨(bd.add (k * 7)).block, (bd.add (k * 7)).off + 6, none⟩ = some (.slice rq.2.1 y.batch.length rq.2.2))) (first | exact ⟨HAT1.out, HAT2.out⟩ | exact ⟨HA3.out, HB3.out⟩)
            (first
            | (go_at_call 25; refine (HS1.out 1).mono ?_; rintro e w3 ⟨rfl, hb3⟩; have HS3 := Lib.hid (HSS.out.later (Ga.below_of_drew hb3)); have HA3 := Lib.hid (HAT1.out.later (Ga.below_of_drew hb3)); have HB3 := Lib.hid (HAT2.out.later (Ga.below_of_drew hb3)); clear hb3))
          all_goals
            go_wp2_with fail
            go_roundw
            case rel => exact ⟨k + 1, by omega, by go_num, HT.out, HS3.out⟩
            case measure => simp [intOf]; omega
        . have HS1 := Lib.hid fun n => (HS.out n).mono (fun e w' h => show e = .returned (.bool false) /\ _ from ⟨by rw [h.1, decide_eq_false hq], h.2⟩)
          have HT := Lib.hid (HN2.out hq)
          clear hq HS HN1 HN2
          go_wp2_with fail
          go_region_held3 (fun w' => (w'.cell? (ad.add (k * 7)) = some (.int .i64 x.view) /\ w'.cell? ⟨(ad.add (k * 7)).block, (ad.add (k * 7)).off + 1, none⟩ = some (.int .i64 x.seq) /\ w'.cell? ⟨(ad.add (k * 7)).block, (ad.add (k * 7)).off + 2, none⟩ = some (.int .i64 x.dig) /\ w'.cell? ⟨(ad.add (k * 7)).block, (ad.add (k * 7)).off + 3, none⟩ = some (.int .i64 x.first.1) /\ w'.cell? ⟨(ad.add (k * 7)).block, (ad.add (k * 7)).off + 4, none⟩ = some (.int .i64 x.first.2) /\ w'.cell? ⟨(ad.add (k * 7)).block, (ad.add (k * 7)).off + 5, none⟩ = some (.slice rp.1.1 x.signs.length rp.1.2) /\ w'.cell? ⟨(ad.add (k * 7)).block, (ad.add (k * 7)).off + 6, none⟩ = some (.slice rp.2.1 x.batch.length rp.2.2)) /\ (w'.cell? (bd.add (k * 7)) = some (.int .i64 y.view) /\ w'.cell? ⟨(bd.add (k * 7)).block, (bd.add (k * 7)).off + 1, none⟩ = some (.int .i64 y.seq) /\ w'.cell? ⟨(bd.add (k * 7)).block, (bd.add (k * 7)).off + 2, none⟩ = some (.int .i64 y.dig) /\ w'.cell? ⟨(bd.add (k * 7)).block, (bd.add (k * 7)).off + 3, none⟩ = some (.int .i64 y.first.1) /\ w'.cell? ⟨(bd.add (k * 7)).block, (bd.add (k * 7)).off + 4, none⟩ = some (.int .i64 y.first.2) /\ w'.cell? ⟨(bd.add (k * 7)).block, (bd.add (k * 7)).off + 5, none⟩ = some (.slice rq.1.1 y.signs.length rq.1.2) /\ w'.cell? ⟨(bd.add (k * 7)).block, (bd.add (k * 7)).off + 6, none⟩ = some (.slice rq.2.1 y.batch.length rq.2.2))) (first | exact ⟨HAT1.out, HAT2.out⟩ | exact ⟨HA3.out, HB3.out⟩)
            (first
            | (go_at_call 25; refine (HS1.out 1).mono ?_; rintro e w3 ⟨rfl, hb3⟩; have HS3 := Lib.hid (HSS.out.later (Ga.below_of_drew hb3)); have HA3 := Lib.hid (HAT1.out.later (Ga.below_of_drew hb3)); have HB3 := Lib.hid (HAT2.out.later (Ga.below_of_drew hb3)); clear hb3))
          all_goals
            go_wp2_with fail
            go_ret
            exact ⟨by rw [HT.out]; rfl, HS3.out.below⟩
      . have hke : k = l.length := by omega
        have HN : Hid (decide (l = m) = true) := Lib.hid (by
          rw [hke, List.take_length, HLEN.out, List.take_length] at htk
          exact decide_eq_true htk)
        have HSS := Lib.hid hs
        clear htk hs
        go_wp2_with fail
        go_ret
        exact ⟨by rw [HN.out]; rfl, HSS.out.below⟩
  . have hn : ((l.length : Int) != (m.length : Int)) = true := by simp only [bne_iff_ne, ne_eq]; omega
    have HN : Hid (decide (l = m) = false) := Lib.hid (decide_eq_false (fun h => hlen (by rw [h])))
    clear hlen
    go_enter Tryz.func26, Tryz.ntmps26
    go_wp2_with fail
    go_ret
    exact ⟨by rw [HN.out]; rfl, HA.out.below⟩
end Go.Proofs.YtmhmnkpaijoaaaaGreat.Prd
namespace Go.Proofs.YtmhmnkpaijoaaaaGreat.Jo
set_option linter.unusedSimpArgs false
open Go Go.RowKit Go.ChangeShapes Go.WideShapes Go.ChangeAt Go.Deep Ck Kf Kp Pm Pe Py Lk Jm Ja Jb
set_option linter.unusedVariables false
set_option maxRecDepth 100000
section
variable {H : Type} {enc : TypeId × Value -> H}
theorem cells_sgn : Tryz.prog.cellsOf 36 = 2 := by kernel_rfl
theorem cells_sd : Tryz.prog.cellsOf 113 = 9 := by kernel_rfl
theorem bytes_sd : Tryz.prog.bytesOf 113 = 104 := by kernel_rfl
theorem open_sg {w : World} {base : Nat} {sp : Nat -> Bool} {held : Bool} {n : Nat} {cs : List Value} {x : DataW H × List MemPlace} (h : DataW.trod enc Tryz.prog w base sp held n 36 cs = some x) :
    ∃ s : Sg, cs = [.int .i64 s.1, .int .i64 s.2] /\ wfS s := by
  obtain ⟨xs, n', _, _, hl, hxl, hf⟩ := DataW.trod_struct Tryz.underlying36 h
  rw [cells_sgn] at hl
  have hxl' : xs.length = 2 := hxl
  match cs, hl with
  | [v0, v1], _ =>
    have f0 : DataW.trod enc Tryz.prog w base sp held n' 3 (([v0, v1].drop 0).take (Tryz.prog.cellsOf 3)) = xs[0]? := hf 0 _ rfl
    have f1 : DataW.trod enc Tryz.prog w base sp held n' 31 (([v0, v1].drop 1).take (Tryz.prog.cellsOf 31)) = xs[1]? := hf 1 _ rfl
    rw [Py.cells_int] at f0
    rw [cells_dig] at f1
    simp only [List.drop_zero, List.drop_succ_cons, List.take_succ_cons, List.take_zero] at f0 f1
    obtain ⟨z0, e0, w0⟩ := one_int Tryz.underlying3 (by omega) f0
    obtain ⟨z1, e1, w1⟩ := one_int Tryz.underlying31 (by omega) f1
    have b0 : -9223372036854775808 <= z0 /\ z0 <= 9223372036854775807 := by simpa [Lit.wf, IntKind.min, IntKind.max, IntKind.signed, IntKind.bits] using w0
    have b1 : -9223372036854775808 <= z1 /\ z1 <= 9223372036854775807 := by simpa [Lit.wf, IntKind.min, IntKind.max, IntKind.signed, IntKind.bits] using w1
    simp only [List.cons.injEq, and_true] at e0 e1
    exact ⟨(z0, z1), by rw [e0, e1], b0.1, b0.2, b1.1, b1.2⟩
theorem open_sd {w : World} {base : Nat} {fuel : Nat} {cs : List Value} {x : DataW H × List MemPlace} (h : DataW.trod enc Tryz.prog w base (fun _ => true) true fuel 113 cs = some x) :
    ∃ (d : Sd) (A : Option Addr) (c : Nat), cs = (DC d A c).toList /\ Ls w (fun k => w.heap.size <= k) (.slice A d.q.o.recs.length c) d.q.o.recs
      /\ wfS d.s /\ wfQ d.q /\ ∀ R, (∀ n ∈ x.1.weights Tryz.prog 113, n <= R) -> far d.q.o R := by
  obtain ⟨xs, n', _, hx, hl, hxl, hf⟩ := DataW.trod_struct Tryz.underlying113 h
  rw [cells_sd] at hl
  have hxl' : xs.length = 2 := hxl
  match cs, hl with
  | [v0, v1, v2, v3, v4, v5, v6, v7, v8], _ =>
    have f0 : DataW.trod enc Tryz.prog w base (fun _ => true) true n' 111 (([v0, v1, v2, v3, v4, v5, v6, v7, v8].drop 0).take (Tryz.prog.cellsOf 111)) = xs[0]? := hf 0 _ rfl
    have f1 : DataW.trod enc Tryz.prog w base (fun _ => true) true n' 36 (([v0, v1, v2, v3, v4, v5, v6, v7, v8].drop 7).take (Tryz.prog.cellsOf 36)) = xs[1]? := hf 1 _ rfl
    rw [cells_req] at f0
    rw [cells_sgn] at f1
    simp only [List.drop_zero, List.drop_succ_cons, List.take_succ_cons, List.take_zero] at f0 f1
    rw [List.getElem?_eq_getElem (by omega)] at f0 f1
    obtain ⟨q, A, c, e0, hls, hwq, hfar⟩ := open_q f0
    obtain ⟨s, e1, hws⟩ := open_sg f1
    simp only [QC, List.cons.injEq, and_true] at e0 e1
    obtain ⟨rfl, rfl, rfl, rfl, rfl, rfl, rfl⟩ := e0
    obtain ⟨rfl, rfl⟩ := e1
    refine ⟨⟨q, s⟩, A, c, rfl, hls, hws, hwq, fun R hR => hfar R fun n hn => ?_⟩
    refine hR n ?_
    rw [hx]
    simp only [DataW.weights, Tryz.underlying113]
    exact DataW.weights_mem_each (ts := [111, 36]) (j := 0) (t := 111) rfl (by simp [List.getElem?_eq_getElem (show 0 < xs.length by omega)]) n hn
theorem open_batch {w : World} {fuel : Nat} {base : Nat} {v : Value} {x : DataW H × List MemPlace} (h : DataW.trod enc Tryz.prog w base (fun _ => true) true fuel 39 [v] = some x) (hR : ∀ n ∈ x.1.weights Tryz.prog 39, n <= 140737488351232) :
    ∃ (l : List Sd), BI w (fun k => w.heap.size <= k) v l /\ l.length * 104 <= 140737488351232 /\ ∀ y ∈ l, far y.q.o 140737488351232 /\ wfS y.s := by
  rcases open_slice Tryz.underlying39 h with ⟨hcs, rfl⟩ | ⟨a, len, cap, m, n, D, Pl, hcs, _, hl, hm, hmm, rfl, hx⟩
  . obtain rfl : v = .slice none 0 0 := by simpa using hcs
    exact ⟨[], bi_nil _ _, by simp, fun y hy => absurd hy (by simp)⟩
  . obtain rfl : v = .slice (some a) len cap := by simpa using hcs
    simp only [if_true] at hmm
    have each : ∀ i, ∃ r : Sd × (Option Addr × Nat), i < len -> (∀ j u, (DC r.1 r.2.1 r.2.2).toList[j]? = some u -> w.cell? (a.add (i * 9 + j)) = some u) /\ Ls w (fun k => w.heap.size <= k) (.slice r.2.1 r.1.q.o.recs.length r.2.2) r.1.q.o.recs /\ far r.1.q.o 140737488351232 /\ wfS r.1.s := by
      intro i
      by_cases hi : i < len
      . obtain ⟨cs', hc, ht⟩ := hx i (by omega)
        obtain ⟨d, Ar, cr, rfl, hb, hws, _, hr⟩ := open_sd ht
        rw [cells_sd] at hc
        obtain ⟨_, _, hcell⟩ := World.cells?_some hc
        have hw := hr 140737488351232 (fun n hn => hR n (by
          simp only [DataW.weights, Tryz.underlying39, List.mem_cons, List.mem_append]
          exact .inr (.inl (all_mem hn (List.mem_map.2 ⟨i, by simpa using hi, rfl⟩)))))
        refine ⟨(d, (Ar, cr)), fun _ => ⟨fun j u hu => ?_, hb, hw, hws⟩⟩
        have hj : j < 9 := (List.getElem?_eq_some_iff.1 hu).1
        have h1 := hcell j hj
        rw [Ck.add_add] at h1
        rw [h1, <- hu, List.getElem?_eq_getElem (show j < (DC d Ar cr).toList.length from hj)]
      . exact ⟨(Sd.zero, (none, 0)), fun h => absurd h hi⟩
    obtain ⟨f, hf⟩ := Classical.axiomOfChoice each
    have hlen : ((List.range len).map fun i => (f i).1).length = len := by simp
    have hrl : ((List.range len).map fun i => (f i).2).length = ((List.range len).map fun i => (f i).1).length := by simp
    refine ⟨(List.range len).map fun i => (f i).1, ⟨(List.range len).map fun i => (f i).2, hrl, ?_, fun i hi => ?_⟩, ?_, fun y hy => ?_⟩
    . refine ⟨some a, cap, by rw [hlen], by rw [flat_length hrl], by rw [hlen]; exact hl, hm, fun hn => ?_⟩
      rw [hlen] at hn
      have h0 := (hf 0 hn).1 0 _ rfl
      refine ⟨a, rfl, by have := World.block_lt_of_cell? w _ h0; rw [Ck.add_block] at this; exact this, by have := World.block_lt_of_cell? w _ h0; rw [Ck.add_block] at this; omega, fun j u hu => ?_⟩
      have hj : j < len * 9 := by
        have := (List.getElem?_eq_some_iff.1 hu).1
        rw [flat_length hrl, hlen] at this
        exact this
      have hi : j / 9 < len := by omega
      have hz : j / 9 < (((List.range len).map fun i => (f i).1).zip ((List.range len).map fun i => (f i).2)).length := by rw [zip_len hrl, hlen]; exact hi
      have hg := flat_get DC_len (((List.range len).map fun i => (f i).1).zip ((List.range len).map fun i => (f i).2)) (j / 9) hz (j % 9) (by omega)
      rw [show j / 9 * 9 + j % 9 = j by omega] at hg
      rw [flat, hg] at hu
      have := (hf (j / 9) hi).1 (j % 9) u (by
        rw [<- hu]
        congr 1
        simp)
      rwa [show j / 9 * 9 + j % 9 = j by omega] at this
    . have hi' : i < len := by simpa using hi
      refine ⟨(f i).2, by simp [hi'], ?_⟩
      have := (hf i hi').2.1
      simpa using this
    . have := hR _ (by simp only [DataW.weights, Tryz.underlying39]; exact List.mem_cons_self)
      rw [bytes_sd] at this
      simp only [List.length_map, List.length_range] at this ⊢
      omega
    . obtain ⟨i, hi, rfl⟩ := List.mem_map.1 hy
      have hi' : i < len := by simpa using hi
      exact (hf i hi').2.2
end
end Go.Proofs.YtmhmnkpaijoaaaaGreat.Jo
namespace Go.Proofs.YtmhmnkpaijoaaaaGreat.Pre
set_option linter.unusedSimpArgs false
open Go Go.RowKit Cm Ck Kw Ga Kf Pm Pe Pg Ph Qb Lk Ld Jm Ja Jb Jk Pra Prb Prc Prd
attribute [local go_sem ↓] Go.wp_at_zero Go.wp_at_succ
set_option linter.unusedVariables false
set_option maxRecDepth 100000
section
variable {w w' : World} {X Y S : Nat -> Prop} {g : Nat} {l : List Pd}
end
theorem get_take {l : List Pd} {n : Int} {k : Nat} (hk : k < l.length) (h : ∀ p ∈ l.take k, p.seq ≠ n) (hn : l[k].seq = n) : getP l n = some l[k] := by
  have e : l = l.take k ++ (l[k] :: l.drop (k + 1)) := by rw [<- List.drop_eq_getElem_cons hk, List.take_append_drop]
  conv => lhs; rw [e]
  rw [get_app, get_none h, Option.none_or]
  unfold getP
  rw [List.find?_cons_of_pos (by simp [hn])]
set_option maxHeartbeats 4000000 in
theorem rget_any (w : World) (X : Nat -> Prop) (g : Nat) (l : List Pd) (n : Int) (h : RH w X g l) (hl : l.length <= 140737488355328) :
    Calls Tryz.prog 24 #[.pointer (some ⟨g, 0, none⟩), .int .i64 n] w (Told w X (getP l n)) := by
  obtain ⟨v, hg, hp⟩ := h
  obtain ⟨A, c, rfl, hc⟩ := hp.shape
  have hzv : ∀ W : World, (zeroValue 41).run Tryz.prog W = .ok (.agg #[.int .i64 0, .int .i64 0, .int .i64 0, .int .i64 0, .int .i64 0, .slice none 0 0, .slice none 0 0]) W := fun W => by kernel_rfl
  have hb0 : ∀ o, Below w.heap.size w (w.alloc o) := fun o => (Below.refl _ w).alloc (Nat.le_refl _) _
  have c0 : ∀ o, (w.alloc o).cell? ⟨g, 0, none⟩ = some (.slice A l.length c) := fun o => (hg.alloc o).cell 0
  have HP := Lib.hid (And.intro hp hg)
  clear hp hg hc
  go_enter Tryz.func24, Tryz.ntmps24
  go_wp2_with fail
  have hbk : Blk (w.alloc (.cells #[.int .i64 0, .int .i64 0, .int .i64 0, .int .i64 0, .int .i64 0, .slice none 0 0, .slice none 0 0] 41)) w.heap.size 41 #[.int .i64 0, .int .i64 0, .int .i64 0, .int .i64 0, .int .i64 0, .slice none 0 0, .slice none 0 0] := Blk.new w _ _
  have HBK := Lib.hid hbk
  have HB0 := Lib.hid (hb0 (.cells #[.int .i64 0, .int .i64 0, .int .i64 0, .int .i64 0, .int .i64 0, .slice none 0 0, .slice none 0 0] 41))
  have c1 := c0 (.cells #[.int .i64 0, .int .i64 0, .int .i64 0, .int .i64 0, .int .i64 0, .slice none 0 0, .slice none 0 0] 41)
  clear hbk hb0 c0
  generalize (w.alloc (.cells #[.int .i64 0, .int .i64 0, .int .i64 0, .int .i64 0, .int .i64 0, .slice none 0 0, .slice none 0 0] 41)) = w0 at *
  go_loopw [6] (fun i wr => ∃ k : Nat, k <= l.length /\ i = .int .i64 k /\ (∀ p ∈ l.take k, p.seq ≠ n) /\ wr = w0) (fun i _ => l.length - (intOf i).toNat)
  case atStart => exact ⟨0, Nat.zero_le _, rfl, fun p hp => by simp at hp, rfl⟩
  case round =>
    obtain ⟨k, hk, rfl, hno, rfl⟩ := hrel
    by_cases hlt : k < l.length
    . obtain ⟨ad, r, rfl, hat, hpi⟩ := HP.out.1.at_ hlt
      have HAT := Lib.hid (hat.later HB0.out)
      obtain ⟨a0, a1, a2, a3, a4, a5, a6⟩ := HAT.out
      have HGT := Lib.hid (get_take hlt hno)
      have hkp : (0 : Int) <= (k : Int) := by omega
      have hkl : (k : Int) < (l.length : Int) := by omega
      have HNO := Lib.hid (show l[k].seq ≠ n -> ∀ p ∈ l.take (k + 1), p.seq ≠ n from fun h p hp => by
        rw [List.take_succ_eq_append_getElem hlt] at hp
        rcases List.mem_append.1 hp with hp | hp
        . exact hno p hp
        . rw [List.mem_singleton.1 hp]; exact h)
      have HPI := Lib.hid hpi
      generalize l[k] = x at *
      clear hno hat hpi hlt
      by_cases hx : x.seq = n
      . have e1 : (x.seq == n) = true := by simp [hx]
        have hz := HBK.out
        have HGE := Lib.hid (HGT.out hx)
        clear hx HGT HNO
        have f0 := hz.frozen 0
        have f1 := hz.frozen 1
        have f2 := hz.frozen 2
        have f3 := hz.frozen 3
        have f4 := hz.frozen 4
        have f5 := hz.frozen 5
        have f6 := hz.frozen 6
        have k0 := hz.cell 0
        have k1 := hz.cell 1
        have k2 := hz.cell 2
        have k3 := hz.cell 3
        have k4 := hz.cell 4
        have k5 := hz.cell 5
        have k6 := hz.cell 6
        simp only [List.getElem?_toArray, List.getElem?_cons_zero, List.getElem?_cons_succ] at k0 k1 k2 k3 k4 k5 k6
        have HZ := Lib.hid hz
        clear hz
        go_wp2_with fail
        refine bodyPost_ret (results_row_tmp rfl _ _ w.heap.size 41 (PC x r) (0, 0) _ rfl (blk7 HZ.out) Tryz.underlying41 rfl size_prep) rfl ?_
        rw [HGE.out]
        have hbe := HB0.out.trans ((ch7 wr w.heap.size (.int .i64 x.view) (.int .i64 x.seq) (.int .i64 x.dig) (.int .i64 x.first.1) (.int .i64 x.first.2) (.slice r.1.1 x.signs.length r.1.2) (.slice r.2.1 x.batch.length r.2.2)).below (fun k hk e => by omega) HB0.out.size)
        exact ⟨r, rfl, (HPI.out.weaken (fun b _ h => .inl h)).after hbe, hbe⟩
      . have e1 : (x.seq == n) = false := by rw [beq_eq_false_iff_ne]; exact hx
        have HT := Lib.hid (HNO.out hx)
        clear hx HGT HNO
        go_wp2_with fail
        go_roundw
        case rel => exact ⟨k + 1, by omega, by go_num, HT.out, trivial⟩
        case measure => simp [intOf]; omega
    . have hke : k = l.length := by omega
      have HG : Hid (getP l n = none) := Lib.hid (get_none (fun p hp => hno p (by rw [hke, List.take_length]; exact hp)))
      clear hno
      have hz := HBK.out
      have f0 := hz.frozen 0
      have f1 := hz.frozen 1
      have f2 := hz.frozen 2
      have f3 := hz.frozen 3
      have f4 := hz.frozen 4
      have f5 := hz.frozen 5
      have f6 := hz.frozen 6
      have k0 := hz.cell 0
      have k1 := hz.cell 1
      have k2 := hz.cell 2
      have k3 := hz.cell 3
      have k4 := hz.cell 4
      have k5 := hz.cell 5
      have k6 := hz.cell 6
      simp only [List.getElem?_toArray, List.getElem?_cons_zero, List.getElem?_cons_succ] at k0 k1 k2 k3 k4 k5 k6
      have HZ := Lib.hid hz
      clear hz
      go_wp2_with fail
      refine bodyPost_ret (results_row_tmp rfl _ _ w.heap.size 41 #[.int .i64 0, .int .i64 0, .int .i64 0, .int .i64 0, .int .i64 0, .slice none 0 0, .slice none 0 0] (0, 0) _ rfl (blk7 HZ.out) Tryz.underlying41 rfl size_prep) rfl ?_
      rw [HG.out]
      have hbe := HB0.out.trans ((ch7 wr w.heap.size (.int .i64 0) (.int .i64 0) (.int .i64 0) (.int .i64 0) (.int .i64 0) (.slice none 0 0) (.slice none 0 0)).below (fun k hk e => by omega) HB0.out.size)
      exact ⟨((none, 0), (none, 0)), rfl, PI_zero _ _, hbe⟩
end Go.Proofs.YtmhmnkpaijoaaaaGreat.Pre
namespace Go.Proofs.YtmhmnkpaijoaaaaGreat.Prf
set_option linter.unusedSimpArgs false
open Go Go.RowKit Cm Ck Kw Ga Kf Pm Pe Pg Ph Qb Lk Ld Jm Ja Jb Jk Pra Prb Prc Prd Pre
attribute [local go_sem ↓] Go.wp_at_zero Go.wp_at_succ
set_option linter.unusedVariables false
set_option maxRecDepth 100000
theorem prep_lit (w : World) (X : Nat -> Prop) (t : TypeId) (p : Pd) (r : Pl2) (hX : ¬ X w.heap.size) : Sl (w.alloc (.cells (PC p r) t)) X 7 (.slice (some ⟨w.heap.size, 0, none⟩) 1 1) 1 (PC p r).toList := by
  refine ⟨_, _, rfl, rfl, Nat.le_refl _, by simp only [maxLen]; omega, fun _ => ⟨_, rfl, by simp, hX, fun j x hx => ?_⟩⟩
  have ha : (⟨w.heap.size, 0, none⟩ : Addr).add j = ⟨w.heap.size, j, none⟩ := by unfold Addr.add; split <;> simp_all
  rw [ha, Blk.cell (Blk.new w t _) j]
  simpa using hx
theorem slide_snoc {l : List Pd} {k : Nat} (hk : k < l.length) (low : Int) : slideP (l.take (k + 1)) low = if low < l[k].seq then slideP (l.take k) low ++ [l[k]] else slideP (l.take k) low := by
  unfold slideP
  rw [List.take_succ_eq_append_getElem hk, List.filter_append]
  by_cases h : low < l[k].seq
  . rw [if_pos h, List.filter_cons_of_pos (by simpa using h)]
    rfl
  . rw [if_neg h, List.filter_cons_of_neg (by simpa using h)]
    simp
set_option maxHeartbeats 4000000 in
theorem rslide_any (w : World) (X : Nat -> Prop) (g : Nat) (l : List Pd) (low : Int) (h : RH w X g l) (hX : ∀ k, X k -> k < w.heap.size) (hl : l.length * 88 <= 140737488355328) :
    Calls Tryz.prog 20 #[.pointer (some ⟨g, 0, none⟩), .int .i64 low] w fun e w' => e = .returned (.tuple #[]) /\ RH w' X g (slideP l low) /\ Ch (fun k => k = g) w w' := by
  obtain ⟨v, hg, hp⟩ := h
  obtain ⟨A, c, rfl, hc⟩ := hp.shape
  have HP := Lib.hid (And.intro hp hg)
  obtain ⟨i0, hi0, hz0, hz1, hz2⟩ := info_parts info_prep
  have c0 : w.cell? ⟨g, 0, none⟩ = some (.slice A l.length c) := hg.cell 0
  have hglt := hg.lt
  clear hp hg hc
  go_enter Tryz.func20, Tryz.ntmps20
  go_wp2_with fail
  go_loopw [4, 5] (fun v i wr => ∃ k : Nat, k <= l.length /\ i = .int .i64 k /\ OP wr w.heap.size (fun q => (X q \/ q = g) \/ w.heap.size <= q) v (slideP (l.take k) low) /\ Below w.heap.size w wr) (fun _ i _ => l.length - (intOf i).toNat)
  case atStart => exact ⟨0, Nat.zero_le _, rfl, OP.nil _ _ _, Below.refl _ _⟩
  case round =>
    obtain ⟨k, hk, rfl, hop, hb⟩ := hrel
    have HB := Lib.hid hb
    have HOP := Lib.hid hop
    have c1 := (hb.cell (p := ⟨g, 0, none⟩) hglt).trans c0
    by_cases hlt : k < l.length
    . obtain ⟨ad, r, rfl, hat, hpi⟩ := HP.out.1.at_ hlt
      obtain ⟨a0, a1, a2, a3, a4, a5, a6⟩ := hat.later hb
      have HSN := Lib.hid (slide_snoc hlt low)
      have hkp : (0 : Int) <= (k : Int) := by omega
      have hkl : (k : Int) < (l.length : Int) := by omega
      have HPI := Lib.hid hpi
      have hlen : (slideP (l.take k) low).length <= k := Nat.le_trans (List.length_filter_le _ _) (by rw [List.length_take]; omega)
      generalize l[k] = x at *
      obtain ⟨rs, hpts, hrow⟩ := hop.ex
      obtain ⟨Ae, ce, rfl⟩ := own_shape hrow
      have HRW := Lib.hid (And.intro hpts hrow)
      clear hop hb hat hpi hpts hrow
      by_cases hx : low < x.seq
      . rw [if_pos hx] at HSN
        have HLIT := Lib.hid (prep_lit wr (fun _ => False) 41 x r (fun h => h))
        have HONE := Lib.hid (PC_one x r)
        unfold PC at HLIT HONE
        go_wp2_with (at_builtin; refine wpList_append_sh _ rfl (.tmp 25) (.tmp 33) _ rfl w.heap.size 41 i0 _ 7 88 Tryz.underlying30 hi0 hz0 hz1 hz2 rfl (by omega) (.slice Ae (slideP (l.take k) low).length ce) (slideP (l.take k) low).length (flatP (slideP (l.take k) low) rs) rfl (HRW.out.2.alloc _) (fun _ => False) _ 1 _ rfl HLIT.out HONE.out (by simp only [maxLen]; omega) (by omega) (by have := HB.out.size; simp; omega) ?_; intro Af cf wd happ)
        have hba : Below wr.heap.size wr (wr.alloc (.cells (PC x r) 41)) := (Below.refl _ _).alloc (Nat.le_refl _) _
        have hc := Ch.of_grown happ.2.1 (fun g hg _ => hg)
        have hw0 := HB.out.size
        have how : ∀ q, (Value.slice Ae (slideP (l.take k) low).length ce).ownBlock = some q -> w.heap.size <= q := fun q hq => (HRW.out.2.lt q hq).1
        have hnew := OP.snoc (r := r) (p := x) (HRW.out.1.after hba) ((HPI.out.weaken (Y := fun q => (X q \/ q = g) \/ w.heap.size <= q) (fun b hb hy => by
          rcases hy with hy | hy
          . exact hy
          . omega)).after (HB.out.trans (hba.mono hw0))) happ hc (fun q hq => .inr (how q hq))
        have HNEW := Lib.hid hnew
        have HBD := Lib.hid ((HB.out.trans (hba.mono hw0)).trans (hc.below (fun q hlt hq => by have := how q hq; omega) (Nat.le_trans hw0 hba.size)))
        clear hnew happ hc
        go_roundw
        case rel => exact ⟨k + 1, by omega, by go_num, by rw [HSN.out]; exact HNEW.out, HBD.out⟩
        case measure => simp [intOf]; omega
      . rw [if_neg hx] at HSN
        go_wp2_with fail
        go_roundw
        case rel => exact ⟨k + 1, by omega, by go_num, by rw [HSN.out]; exact HOP.out, HB.out⟩
        case measure => simp [intOf]; omega
    . have hke : k = l.length := by omega
      subst hke
      rw [List.take_length] at HOP
      have hbk := HP.out.2.below HB.out HP.out.2.lt
      have f1 := hbk.frozen 0
      obtain ⟨rs, hpts, hrow⟩ := HOP.out.ex
      obtain ⟨Ae, ce, rfl⟩ := own_shape hrow
      have HBK := Lib.hid hbk
      clear hop hb hbk hpts hrow
      go_wp2_with fail
      refine bodyPost_end (results_none rfl _ _ _) rfl ?_
      have c2 : Ch (fun k => k = g) wr (wr.setCell ⟨g, 0, none⟩ (.slice Ae (slideP l low).length ce)) := (Ch.refl (fun k => k = g) wr).setCell (p := ⟨g, 0, none⟩) (fun _ => rfl) _
      have hpl : PL wr (fun k => X k \/ k = g) (.slice Ae (slideP l low).length ce) (slideP l low) := HOP.out.pl (fun k hk => .inl hk) (fun k hk h => by
        rcases h with h | h
        . have := hX k h; omega
        . omega)
      refine ⟨rfl, ⟨_, ?_, hpl.ch c2 (fun k _ h => .inr h)⟩, (Ch.of_below (S := fun k => k = g) HB.out (Nat.le_refl _)).trans c2 (fun _ _ h => h)⟩
      have := HBK.out.set_ 0 (.slice Ae (slideP l low).length ce)
      simpa using this
end Go.Proofs.YtmhmnkpaijoaaaaGreat.Prf
namespace Go.Proofs.YtmhmnkpaijoaaaaGreat.Ptd
set_option linter.unusedSimpArgs false
open Go Go.RowKit Ck Cf Kw Ga Kf Pm Pe Pg Ik Lk Jm Ja Jb Jf Jg Jl Jn Kc Kj Pra Prb Prc Prd Pre Prf Prn Prr Psg Psh Psx Pta
attribute [local go_sem ↓] Go.wp_at_zero Go.wp_at_succ
set_option linter.unusedVariables false
set_option maxRecDepth 100000
theorem fits_of {p : Pd} (h : okP p) : Fits p := ⟨h.2.2, h.2.1, h.1⟩
end Go.Proofs.YtmhmnkpaijoaaaaGreat.Ptd
namespace Go.Proofs.YtmhmnkpaijoaaaaGreat.Pte
set_option linter.unusedSimpArgs false
open Go Go.RowKit Ck Cf Kw Ga Kf Pm Pe Pg Ik Lk Jm Ja Jb Jf Jg Jl Jn Kc Kj Pra Prb Prc Prd Pre Prf Prn Prr Prx Psg Psh Psx Pta Ptd
set_option linter.unusedVariables false
section
variable {H : World -> (Nat -> Prop) -> Nat -> List Pd -> Prop} {ok : List Pd -> Pd -> Prop} {okl : List Pd -> Prop} {w W W' : World} {gr gh : Nat} {K : List (Nat × TypeId × Array Value)} {S : Nat -> Prop} {mh mr mh' mr' : List Pd}
theorem HSt.less {K' : List (Nat × TypeId × Array Value)} (h : HSt H w gr K S gh mh mr W) (hK : ∀ e ∈ K', e ∈ K) : HSt H w gr K' S gh mh mr W :=
  ⟨h.hh, h.rh, h.lt, h.lo, h.gs, h.go, h.gl, h.hb, fun e he => h.ks e (hK e he)⟩
theorem HSt.rput (HH : HeldC H ok) (h : HSt H w gr K S gh mh mr W) {x : Pd} {r : Pl2} (hx : PI W (fun k => w.heap.size <= k) x r) (hl : mr.length <= 1599289640355) :
    Calls Tryz.prog 22 #[.pointer (some ⟨gr, 0, none⟩), .agg (PC x r)] W fun e w' => e = .returned (.bool (putP mr x).2) /\ HSt H w gr K S gh mh (putP mr x).1 w' := by
  refine (rput_any W S gr mr x r h.rh (hx.weaken (fun k _ hk => by
    rcases hk with hk | hk
    . exact h.lo k hk
    . rw [hk]; exact h.go)) h.lt (by omega)).mono ?_
  rintro e w' ⟨he, hr, cc⟩
  exact ⟨he, h.doc HH hr cc⟩
theorem HSt.rslide (HH : HeldC H ok) (h : HSt H w gr K S gh mh mr W) (low : Int) (hl : mr.length <= 1599289640355) :
    Calls Tryz.prog 20 #[.pointer (some ⟨gr, 0, none⟩), .int .i64 low] W fun e w' => e = .returned (.tuple #[]) /\ HSt H w gr K S gh mh (slideP mr low) w' := by
  refine (rslide_any W S gr mr low h.rh h.lt (by omega)).mono ?_
  rintro e w' ⟨he, hr, cc⟩
  exact ⟨he, h.doc HH hr cc⟩
end
def stepU (m : List Pd) (d : PuD) : List Pd := if d.slide then slideP m d.low else (putP m d.p).1
def runU (l : List PuD) : List Pd := l.foldl stepU []
theorem runU_step {l : List PuD} {k : Nat} (hk : k < l.length) : runU (l.take (k + 1)) = stepU (runU (l.take k)) l[k] := by
  unfold runU
  rw [List.take_succ_eq_append_getElem hk, List.foldl_append]
  rfl
theorem runU_ok {l : List PuD} (h : ∀ d ∈ l, okV d.p) : ∀ k, k <= l.length -> OkL (runU (l.take k)) k
  | 0, _ => by simpa [runU] using OkL.nil 0
  | k + 1, hk => by
    have ih := runU_ok h k (by omega)
    rw [runU_step (by omega)]
    unfold stepU
    split
    . exact (ih.slide).mono (by omega)
    . exact ih.put (h _ (List.getElem_mem (by omega)))
end Go.Proofs.YtmhmnkpaijoaaaaGreat.Pte
