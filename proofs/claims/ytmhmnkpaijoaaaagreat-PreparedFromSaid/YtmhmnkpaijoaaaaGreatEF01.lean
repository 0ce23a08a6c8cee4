import Derived.BigQuiet
import Derived.Test.YtmhmnkpaijoaaaaGreatSZ01
namespace Go.Proofs.YtmhmnkpaijoaaaaGreat.Jk
set_option linter.unusedSimpArgs false
open Go Go.RowKit Ck Kw Ga Kf Pm Pe Pg Pk Qb Qs Lk Ld Jm Ja Jb Jc
attribute [local go_sem ↓] Go.wp_at_zero Go.wp_at_succ
set_option linter.unusedVariables false
set_option maxRecDepth 100000
set_option maxHeartbeats 4000000 in
theorem sameq_any (x y : Q) (A B : Option Addr) (c d : Nat) (X Y : Nat -> Prop) (w : World) (ha : Ls w X (.slice A x.o.recs.length c) x.o.recs) (hb : Ls w Y (.slice B y.o.recs.length d) y.o.recs) (hl : x.o.recs.length <= 140737488355328) :
    Calls Tryz.prog 94 #[QV x A c, QV y B d] w fun e w' => e = .returned (.bool (decide (x = y))) /\ Below w.heap.size w w' := by
  have b2 : Below w.heap.size w ((w.alloc (.cells (QC x A c) 111)).alloc (.cells (QC y B d) 111)) := (op_below w _).trans ((op_below _ _).mono (by simp))
  have k1 : QB ((w.alloc (.cells (QC x A c) 111)).alloc (.cells (QC y B d) 111)) w.heap.size x A c := Blk.alloc (Blk.new w _ _) _
  have k2 : QB ((w.alloc (.cells (QC x A c) 111)).alloc (.cells (QC y B d) 111)) (w.heap.size + 1) y B d := Blk.new_at (by simp) rfl
  have HS := Lib.hid (rsame_any x.o y.o (OV x.o A c) (OV y.o B d) X Y _ ⟨A, c, rfl, ha.after b2⟩ ⟨B, d, rfl, hb.after b2⟩ hl)
  obtain ⟨a0, a1, a2, a3, a4, a5, a6⟩ := k1.cells
  obtain ⟨b0, b1, b2', b3, b4, b5, b6⟩ := k2.cells
  have HB := Lib.hid b2
  clear b2 k1 k2 ha hb
  unfold OV at HS
  unfold QV
  unfold QC at *
  by_cases h1 : x.client = y.client
  . have e1 : (x.client == y.client) = true := by rw [h1]; exact beq_self_eq_true _
    by_cases h2 : x.time = y.time
    . have e2 : (x.time == y.time) = true := by rw [h2]; exact beq_self_eq_true _
      have HR : Hid (decide (x = y) = sameO x.o y.o) := Lib.hid (by rw [sameO_dec, decide_eq_decide]; exact ⟨fun h => by rw [h], fun h => Q_ext h1 h2 h⟩)
      clear h1 h2
      go_enter Tryz.func94, Tryz.ntmps94
      go_wp2_with fail
      refine HS.out.mono ?_
      rintro e w3 ⟨rfl, hb3⟩
      have HB3 := Lib.hid (HB.out.trans (hb3.mono HB.out.size))
      clear hb3
      go_wp2_with fail
      go_ret
      exact ⟨by rw [HR.out]; rfl, HB3.out⟩
    . have e2 : (x.time == y.time) = false := beq_eq_false_iff_ne.2 h2
      have HR : Hid (decide (x = y) = false) := Lib.hid (decide_eq_false (fun h => h2 (by rw [h])))
      clear h1 h2
      go_enter Tryz.func94, Tryz.ntmps94
      go_wp2_with fail
      go_ret
      exact ⟨by rw [HR.out]; rfl, HB.out⟩
  . have e1 : (x.client == y.client) = false := beq_eq_false_iff_ne.2 h1
    have HR : Hid (decide (x = y) = false) := Lib.hid (decide_eq_false (fun h => h1 (by rw [h])))
    clear h1
    go_enter Tryz.func94, Tryz.ntmps94
    go_wp2_with fail
    go_ret
    exact ⟨by rw [HR.out]; rfl, HB.out⟩
set_option maxHeartbeats 8000000 in
theorem rsameb_any (w : World) (X Y : Nat -> Prop) (va vb : Value) (l m : List Sd) (ha : BI w X va l) (hb : BI w Y vb m) (hr : ∀ x ∈ l, x.q.o.recs.length <= 140737488355328) (hl63 : l.length <= 140737488355328) :
    Calls Tryz.prog 61 #[va, vb] w fun e w' => e = .returned (.bool (decide (l = m))) /\ Below w.heap.size w w' := by
  obtain ⟨A, c, rfl, -⟩ := ha.shape
  obtain ⟨B, d, rfl, -⟩ := hb.shape
  have HA := Lib.hid (show S2 w X Y _ _ l m w from ⟨Below.refl _ w, ha, hb⟩)
  have HR := Lib.hid hr
  clear ha hb hr
  by_cases hlen : l.length = m.length
  . have hn : ((l.length : Int) != (m.length : Int)) = false := by simp [hlen]
    have HLEN := Lib.hid hlen
    have hge := guard_sign
    have hqe := run_neq_sign
    clear hlen
    go_enter Tryz.func61, Tryz.ntmps61
    go_wp2_with fail
    go_loopw [5] (fun j wr => ∃ k : Nat, k <= l.length /\ j = .int .i64 k /\ l.take k = m.take k /\ S2 w X Y (.slice A l.length c) (.slice B m.length d) l m wr) (fun j _ => l.length - (intOf j).toNat)
    case atStart => exact ⟨0, Nat.zero_le _, rfl, rfl, HA.out⟩
    case round =>
      obtain ⟨k, hk, rfl, htk, hs⟩ := hrel
      clear HA
      by_cases hlt : k < l.length
      . have hlt2 : k < m.length := by have := HLEN.out; omega
        obtain ⟨ad, Ar, cr, rfl, hat1, hls1⟩ := hs.one.at_ hlt
        obtain ⟨bd, Br, dr, rfl, hat2, hls2⟩ := hs.two.at_ hlt2
        have hrl := HR.out _ (List.getElem_mem hlt)
        have HN1 := Lib.hid (show l[k] = m[k] -> l.take (k + 1) = m.take (k + 1) from fun h => by rw [List.take_succ_eq_append_getElem hlt, List.take_succ_eq_append_getElem hlt2, htk, h])
        have HN2 := Lib.hid (show l[k] ≠ m[k] -> decide (l = m) = false from fun h => decide_eq_false (fun e => h (by subst e; rfl)))
        have hkp : (0 : Int) <= (k : Int) := by omega
        have hkl : (k : Int) < (l.length : Int) := by omega
        have hkm : (k : Int) < (m.length : Int) := by omega
        generalize l[k] = x at *
        generalize m[k] = y at *
        have HS := Lib.hid fun (n : Nat) => sameq_any x.q y.q Ar Br cr dr X Y (wr.drewN n) (hls1.after (below_drewN (Below.refl _ _) n)) (hls2.after (below_drewN (Below.refl _ _) n)) hrl
        have HSS := Lib.hid hs
        have HAT1 := Lib.hid hat1
        have HAT2 := Lib.hid hat2
        obtain ⟨a0, a1, a2, a3, a4, a5, a6, a7, a8⟩ := hat1
        obtain ⟨b0, b1, b2, b3, b4, b5, b6, b7, b8⟩ := hat2
        unfold QV QC at HS
        clear htk hs hls1 hls2 hlt hlt2
        by_cases hsg : x.s = y.s
        . have hqq : ∀ W : World, (binOp .neq 36 (.agg #[.int .i64 x.s.1, .int .i64 x.s.2]) (.agg #[.int .i64 y.s.1, .int .i64 y.s.2])).run Tryz.prog W = .ok (.bool false) W := fun W => by rw [hqe, show sgB (x.s.1, x.s.2) (y.s.1, y.s.2) = true from by rw [hsg]; exact sgB_yes _]; rfl
          have HSG := Lib.hid hsg
          clear hsg hqe
          by_cases hq : x.q = y.q
          . have HS1 := Lib.hid fun n => (HS.out n).mono (fun e w' h => show e = .returned (.bool true) /\ _ from ⟨by rw [h.1, decide_eq_true hq], h.2⟩)
            have HT := Lib.hid (HN1.out (Sd_ext hq HSG.out))
            clear hq HS HN1 HN2
            go_wp2_with fail
            go_region_held3 (fun w' => (w'.cell? (ad.add (k * 9)) = some (.int .i64 x.q.client) /\ w'.cell? ⟨(ad.add (k * 9)).block, (ad.add (k * 9)).off + 1, none⟩ = some (.int .i64 x.q.time) /\ w'.cell? ⟨(ad.add (k * 9)).block, (ad.add (k * 9)).off + 2, none⟩ = some (.int .i64 x.q.o.kind) /\ w'.cell? ⟨(ad.add (k * 9)).block, (ad.add (k * 9)).off + 3, none⟩ = some (.string ⟨x.q.o.topic.toArray⟩) /\ w'.cell? ⟨(ad.add (k * 9)).block, (ad.add (k * 9)).off + 4, none⟩ = some (.string ⟨x.q.o.group.toArray⟩) /\ w'.cell? ⟨(ad.add (k * 9)).block, (ad.add (k * 9)).off + 5, none⟩ = some (.int .i64 x.q.o.off) /\ w'.cell? ⟨(ad.add (k * 9)).block, (ad.add (k * 9)).off + 6, none⟩ = some (.slice Ar x.q.o.recs.length cr) /\ w'.cell? ⟨(ad.add (k * 9)).block, (ad.add (k * 9)).off + 7, none⟩ = some (.int .i64 x.s.1) /\ w'.cell? ⟨(ad.add (k * 9)).block, (ad.add (k * 9)).off + 8, none⟩ = some (.int .i64 x.s.2)) /\ (w'.cell? (bd.add (k * 9)) = some (.int .i64 y.q.client) /\ w'.cell? ⟨(bd.add (k * 9)).block, (bd.add (k * 9)).off + 1, none⟩ = some (.int .i64 y.q.time) /\ w'.cell? ⟨(bd.add (k * 9)).block, (bd.add (k * 9)).off + 2, none⟩ = some (.int .i64 y.q.o.kind) /\ w'.cell? ⟨(bd.add (k * 9)).block, (bd.add (k * 9)).off + 3, none⟩ = some (.string ⟨y.q.o.topic.toArray⟩) /\ w'.cell? ⟨(bd.add (k * 9)).block, (bd.add (k * 9)).off + 4, none⟩ = some (.string ⟨y.q.o.group.toArray⟩) /\ w'.cell? ⟨(bd.add (k * 9)).block, (bd.add (k * 9)).off + 5, none⟩ = some (.int .i64 y.q.o.off) /\ w'.cell? ⟨(bd.add (k * 9)).block, (bd.add (k * 9)).off + 6, none⟩ = some (.slice Br y.q.o.recs.length dr) /\ w'.cell? ⟨(bd.add (k * 9)).block, (bd.add (k * 9)).off + 7, none⟩ = some (.int .i64 y.s.1) /\ w'.cell? ⟨(bd.add (k * 9)).block, (bd.add (k * 9)).off + 8, none⟩ = some (.int .i64 y.s.2))) (first | exact ⟨HAT1.out, HAT2.out⟩ | exact ⟨HA3.out, HB3.out⟩)
              (first
              | (go_at_call 94; refine (HS1.out 1).mono ?_; rintro e w3 ⟨rfl, hb3⟩; have HS3 := Lib.hid (HSS.out.later (Ga.below_of_drew hb3)); have HA3 := Lib.hid (at9_later HAT1.out (Ga.below_of_drew hb3)); have HB3 := Lib.hid (at9_later HAT2.out (Ga.below_of_drew hb3)); clear hb3))
            all_goals
              go_wp2_with fail
              go_roundw
              case rel => exact ⟨k + 1, by omega, by go_num, HT.out, HS3.out⟩
              case measure => simp [intOf]; omega
          . have HS1 := Lib.hid fun n => (HS.out n).mono (fun e w' h => show e = .returned (.bool false) /\ _ from ⟨by rw [h.1, decide_eq_false hq], h.2⟩)
            have HT := Lib.hid (HN2.out (fun h => hq (by rw [h])))
            clear hq HS HN1 HN2
            go_wp2_with fail
            go_region_held3 (fun w' => (w'.cell? (ad.add (k * 9)) = some (.int .i64 x.q.client) /\ w'.cell? ⟨(ad.add (k * 9)).block, (ad.add (k * 9)).off + 1, none⟩ = some (.int .i64 x.q.time) /\ w'.cell? ⟨(ad.add (k * 9)).block, (ad.add (k * 9)).off + 2, none⟩ = some (.int .i64 x.q.o.kind) /\ w'.cell? ⟨(ad.add (k * 9)).block, (ad.add (k * 9)).off + 3, none⟩ = some (.string ⟨x.q.o.topic.toArray⟩) /\ w'.cell? ⟨(ad.add (k * 9)).block, (ad.add (k * 9)).off + 4, none⟩ = some (.string ⟨x.q.o.group.toArray⟩) /\ w'.cell? ⟨(ad.add (k * 9)).block, (ad.add (k * 9)).off + 5, none⟩ = some (.int .i64 x.q.o.off) /\ w'.cell? ⟨(ad.add (k * 9)).block, (ad.add (k * 9)).off + 6, none⟩ = some (.slice Ar x.q.o.recs.length cr) /\ w'.cell? ⟨(ad.add (k * 9)).block, (ad.add (k * 9)).off + 7, none⟩ = some (.int .i64 x.s.1) /\ w'.cell? ⟨(ad.add (k * 9)).block, (ad.add (k * 9)).off + 8, none⟩ = some (.int .i64 x.s.2)) /\ (w'.cell? (bd.add (k * 9)) = some (.int .i64 y.q.client) /\ w'.cell? ⟨(bd.add (k * 9)).block, (bd.add (k * 9)).off + 1, none⟩ = some (.int .i64 y.q.time) /\ w'.cell? ⟨(bd.add (k * 9)).block, (bd.add (k * 9)).off + 2, none⟩ = some (.int .i64 y.q.o.kind) /\ w'.cell? ⟨(bd.add (k * 9)).block, (bd.add (k * 9)).off + 3, none⟩ = some (.string ⟨y.q.o.topic.toArray⟩) /\ w'.cell? ⟨(bd.add (k * 9)).block, (bd.add (k * 9)).off + 4, none⟩ = some (.string ⟨y.q.o.group.toArray⟩) /\ w'.cell? ⟨(bd.add (k * 9)).block, (bd.add (k * 9)).off + 5, none⟩ = some (.int .i64 y.q.o.off) /\ w'.cell? ⟨(bd.add (k * 9)).block, (bd.add (k * 9)).off + 6, none⟩ = some (.slice Br y.q.o.recs.length dr) /\ w'.cell? ⟨(bd.add (k * 9)).block, (bd.add (k * 9)).off + 7, none⟩ = some (.int .i64 y.s.1) /\ w'.cell? ⟨(bd.add (k * 9)).block, (bd.add (k * 9)).off + 8, none⟩ = some (.int .i64 y.s.2))) (first | exact ⟨HAT1.out, HAT2.out⟩ | exact ⟨HA3.out, HB3.out⟩)
              (first
              | (go_at_call 94; refine (HS1.out 1).mono ?_; rintro e w3 ⟨rfl, hb3⟩; have HS3 := Lib.hid (HSS.out.later (Ga.below_of_drew hb3)); have HA3 := Lib.hid (at9_later HAT1.out (Ga.below_of_drew hb3)); have HB3 := Lib.hid (at9_later HAT2.out (Ga.below_of_drew hb3)); clear hb3))
            all_goals
              go_wp2_with fail
              go_ret
              exact ⟨by rw [HT.out]; rfl, HS3.out.below⟩
        . have hqq : ∀ W : World, (binOp .neq 36 (.agg #[.int .i64 x.s.1, .int .i64 x.s.2]) (.agg #[.int .i64 y.s.1, .int .i64 y.s.2])).run Tryz.prog W = .ok (.bool true) W := fun W => by rw [hqe, show sgB (x.s.1, x.s.2) (y.s.1, y.s.2) = false from sgB_no hsg]; rfl
          have HT := Lib.hid (HN2.out (fun h => hsg (by rw [h])))
          clear hsg hqe HS HN1 HN2
          go_wp2_with fail
          go_quiet (fail)
          go_wp2_with fail
          go_ret
          exact ⟨by rw [HT.out]; rfl, below_drewN HSS.out.below _⟩
      . have hke : k = l.length := by omega
        have HN : Hid (decide (l = m) = true) := Lib.hid (by
          rw [hke, List.take_length, HLEN.out, List.take_length] at htk
          exact decide_eq_true htk)
        have HSS := Lib.hid hs
        clear htk hs
        go_wp2_with fail
        go_ret
        exact ⟨by rw [HN.out]; rfl, HSS.out.below⟩
  . have hn : ((l.length : Int) != (m.length : Int)) = true := by simp only [bne_iff_ne, ne_eq]; omega
    have HN : Hid (decide (l = m) = false) := Lib.hid (decide_eq_false (fun h => hlen (by rw [h])))
    clear hlen
    go_enter Tryz.func61, Tryz.ntmps61
    go_wp2_with fail
    go_ret
    exact ⟨by rw [HN.out]; rfl, HA.out.below⟩
end Go.Proofs.YtmhmnkpaijoaaaaGreat.Jk
namespace Go.Proofs.YtmhmnkpaijoaaaaGreat.Prc
set_option linter.unusedSimpArgs false
open Go Go.RowKit Cm Ck Kw Ga Kf Pm Pe Pg Ph Qb Lk Ld Jm Ja Jb Jk Pra Prb
attribute [local go_sem ↓] Go.wp_at_zero Go.wp_at_succ
set_option linter.unusedVariables false
set_option maxRecDepth 100000
set_option maxHeartbeats 4000000 in
theorem ssigns_any (w : World) (X Y : Nat -> Prop) (va vb : Value) (l m : List (Int × Int)) (ha : SS w X va l) (hb : SS w Y vb m) (hl63 : l.length <= 140737488355328) :
    Calls Tryz.prog 60 #[va, vb] w fun e w' => e = .returned (.bool (decide (l = m))) /\ Below w.heap.size w w' := by
  obtain ⟨A, c, rfl⟩ := SS.shape ha
  obtain ⟨B, d, rfl⟩ := SS.shape hb
  have HA := Lib.hid (show T2 w X Y _ _ l m w from ⟨Below.refl _ w, ha, hb⟩)
  clear ha hb
  by_cases hlen : l.length = m.length
  . have hn : ((l.length : Int) != (m.length : Int)) = false := by simp [hlen]
    have HLEN := Lib.hid hlen
    have hge := guard_sign
    have hqe := run_neq_sign
    clear hlen
    go_enter Tryz.func60, Tryz.ntmps60
    go_wp2_with fail
    go_loopw [5] (fun j wr => ∃ k : Nat, k <= l.length /\ j = .int .i64 k /\ l.take k = m.take k /\ T2 w X Y (.slice A l.length c) (.slice B m.length d) l m wr) (fun j _ => l.length - (intOf j).toNat)
    case atStart => exact ⟨0, Nat.zero_le _, rfl, rfl, HA.out⟩
    case round =>
      obtain ⟨k, hk, rfl, htk, hs⟩ := hrel
      clear HA
      by_cases hlt : k < l.length
      . have hlt2 : k < m.length := by have := HLEN.out; omega
        obtain ⟨ad, rfl, a0, a1⟩ := hs.one.at_ hlt
        obtain ⟨bd, rfl, b0, b1⟩ := hs.two.at_ hlt2
        have HN1 := Lib.hid (show l[k] = m[k] -> l.take (k + 1) = m.take (k + 1) from fun h => by rw [List.take_succ_eq_append_getElem hlt, List.take_succ_eq_append_getElem hlt2, htk, h])
        have HN2 := Lib.hid (show l[k] ≠ m[k] -> decide (l = m) = false from fun h => decide_eq_false (fun e => h (by subst e; rfl)))
        have hkp : (0 : Int) <= (k : Int) := by omega
        have hkl : (k : Int) < (l.length : Int) := by omega
        have hkm : (k : Int) < (m.length : Int) := by omega
        generalize l[k] = x at *
        generalize m[k] = y at *
        have HSS := Lib.hid hs
        clear htk hs hlt hlt2
        by_cases hsg : x = y
        . have hqq : ∀ W : World, (binOp .neq 36 (.agg #[.int .i64 x.1, .int .i64 x.2]) (.agg #[.int .i64 y.1, .int .i64 y.2])).run Tryz.prog W = .ok (.bool false) W := fun W => by rw [hqe, show sgB (x.1, x.2) (y.1, y.2) = true from by rw [hsg]; exact sgB_yes _]; rfl
          have HT := Lib.hid (HN1.out hsg)
          clear hsg hqe HN1 HN2
          go_wp2_with fail
          go_quiet (fail)
          go_wp2_with fail
          go_roundw
          case rel => exact ⟨k + 1, by omega, by go_num, HT.out, HSS.out.later (below_drewN (Below.refl _ _) _)⟩
          case measure => simp [intOf]; omega
        . have hqq : ∀ W : World, (binOp .neq 36 (.agg #[.int .i64 x.1, .int .i64 x.2]) (.agg #[.int .i64 y.1, .int .i64 y.2])).run Tryz.prog W = .ok (.bool true) W := fun W => by rw [hqe, show sgB (x.1, x.2) (y.1, y.2) = false from sgB_no hsg]; rfl
          have HT := Lib.hid (HN2.out hsg)
          clear hsg hqe HN1 HN2
          go_wp2_with fail
          go_quiet (fail)
          go_wp2_with fail
          go_ret
          exact ⟨by rw [HT.out]; rfl, below_drewN HSS.out.below _⟩
      . have hke : k = l.length := by omega
        have HN : Hid (decide (l = m) = true) := Lib.hid (by
          rw [hke, List.take_length, HLEN.out, List.take_length] at htk
          exact decide_eq_true htk)
        have HSS := Lib.hid hs
        clear htk hs
        go_wp2_with fail
        go_ret
        exact ⟨by rw [HN.out]; rfl, HSS.out.below⟩
  . have hn : ((l.length : Int) != (m.length : Int)) = true := by simp only [bne_iff_ne, ne_eq]; omega
    have HN : Hid (decide (l = m) = false) := Lib.hid (decide_eq_false (fun h => hlen (by rw [h])))
    clear hlen
    go_enter Tryz.func60, Tryz.ntmps60
    go_wp2_with fail
    go_ret
    exact ⟨by rw [HN.out]; rfl, HA.out.below⟩
set_option maxHeartbeats 4000000 in
theorem rproof_any (w : World) (X Y : Nat -> Prop) (p q : Pd) (rp rq : Pl2) (hp : PI w X p rp) (hq : PI w Y q rq) (hs : p.signs.length <= 140737488355328) (hb : p.batch.length <= 140737488355328) (hr : ∀ x ∈ p.batch, x.q.o.recs.length <= 140737488355328) :
    Calls Tryz.prog 25 #[.agg (PC p rp), .agg (PC q rq)] w fun e w' => e = .returned (.bool (decide (p = q))) /\ Below w.heap.size w w' := by
  have hB : ∀ o o', Below w.heap.size w ((w.alloc o).alloc o') := fun o o' => ((Below.refl _ w).alloc (Nat.le_refl _) _).alloc (by simp) _
  have HB := Lib.hid hB
  have HSI := Lib.hid (fun W (hW : Below w.heap.size w W) => ssigns_any W X Y _ _ p.signs q.signs (hp.signs.after hW) (hq.signs.after hW) hs)
  have HBA := Lib.hid (fun W (hW : Below w.heap.size w W) => rsameb_any W X Y _ _ p.batch q.batch (hp.batch.after hW) (hq.batch.after hW) hr hb)
  have hge := guard_sign
  have hqe := run_eql_sign
  clear hp hq hs hb hr hB
  unfold PC
  by_cases h1 : p.view = q.view
  . by_cases h2 : p.seq = q.seq
    . by_cases h3 : p.dig = q.dig
      . by_cases h4 : p.first = q.first
        . have e1 : (p.view == q.view) = true := by simp [h1]
          have e2 : (p.seq == q.seq) = true := by simp [h2]
          have e3 : (p.dig == q.dig) = true := by simp [h3]
          have e4 : ∀ W : World, (binOp .eql 36 (.agg #[.int .i64 p.first.1, .int .i64 p.first.2]) (.agg #[.int .i64 q.first.1, .int .i64 q.first.2])).run Tryz.prog W = .ok (.bool true) W := fun W => by rw [hqe, show sgB (p.first.1, p.first.2) (q.first.1, q.first.2) = true from by rw [h4]; exact sgB_yes _]
          by_cases h5 : p.signs = q.signs
          . have HS1 := Lib.hid fun W hW => (HSI.out W hW).mono (fun e w' h => show e = .returned (.bool true) /\ _ from ⟨by rw [h.1, decide_eq_true h5], h.2⟩)
            have HD : Hid (decide (p = q) = decide (p.batch = q.batch)) := Lib.hid (by
              by_cases h6 : p.batch = q.batch
              . rw [decide_eq_true h6, decide_eq_true (pd_ext h1 h2 h3 h4 h5 h6)]
              . rw [decide_eq_false h6, decide_eq_false (fun h => h6 (by rw [h]))])
            have hk0 : ∀ o', Blk ((w.alloc (.cells #[.int .i64 p.view, .int .i64 p.seq, .int .i64 p.dig, .int .i64 p.first.1, .int .i64 p.first.2, .slice rp.1.1 p.signs.length rp.1.2, .slice rp.2.1 p.batch.length rp.2.2] 41)).alloc o') w.heap.size 41 #[.int .i64 p.view, .int .i64 p.seq, .int .i64 p.dig, .int .i64 p.first.1, .int .i64 p.first.2, .slice rp.1.1 p.signs.length rp.1.2, .slice rp.2.1 p.batch.length rp.2.2] := fun o' => (Blk.new w _ _).alloc _
            have hk1 : ∀ o, Blk ((w.alloc o).alloc (.cells #[.int .i64 q.view, .int .i64 q.seq, .int .i64 q.dig, .int .i64 q.first.1, .int .i64 q.first.2, .slice rq.1.1 q.signs.length rq.1.2, .slice rq.2.1 q.batch.length rq.2.2] 41)) (w.heap.size + 1) 41 #[.int .i64 q.view, .int .i64 q.seq, .int .i64 q.dig, .int .i64 q.first.1, .int .i64 q.first.2, .slice rq.1.1 q.signs.length rq.1.2, .slice rq.2.1 q.batch.length rq.2.2] := fun o => Blk.new_at (by simp) rfl
            have HK := Lib.hid (And.intro hk0 hk1)
            clear hqe HSI h1 h2 h3 h4 h5 hk0 hk1
            go_enter Tryz.func25, Tryz.ntmps25
            go_wp2_with fail
            refine (HS1.out _ (HB.out _ _)).mono ?_
            rintro e w3 ⟨rfl, hb3⟩
            have c0 := ((HK.out.1 _).below hb3 (HK.out.1 _).lt).cell 6
            have c1 := ((HK.out.2 _).below hb3 (HK.out.2 _).lt).cell 6
            simp only [List.getElem?_toArray, List.getElem?_cons_zero, List.getElem?_cons_succ] at c0 c1
            have HB3 := Lib.hid ((HB.out _ _).trans (hb3.mono (HB.out _ _).size))
            clear hb3 HS1
            go_wp2_with fail
            refine (HBA.out _ HB3.out).mono ?_
            rintro e w4 ⟨rfl, hb4⟩
            have HB4 := Lib.hid (HB3.out.trans (hb4.mono HB3.out.size))
            rw [<- HD.out]
            clear hb4 HBA
            go_wp2_with fail
            go_ret
            exact ⟨rfl, HB4.out⟩
          . have HS1 := Lib.hid fun W hW => (HSI.out W hW).mono (fun e w' h => show e = .returned (.bool false) /\ _ from ⟨by rw [h.1, decide_eq_false h5], h.2⟩)
            have HN : Hid (decide (p = q) = false) := Lib.hid (decide_eq_false (fun h => h5 (by rw [h])))
            clear hqe HSI HBA h1 h2 h3 h4 h5
            go_enter Tryz.func25, Tryz.ntmps25
            go_wp2_with fail
            refine (HS1.out _ (HB.out _ _)).mono ?_
            rintro e w3 ⟨rfl, hb3⟩
            have HB3 := Lib.hid ((HB.out _ _).trans (hb3.mono (HB.out _ _).size))
            clear hb3 HS1
            go_wp2_with fail
            go_ret
            exact ⟨by rw [HN.out]; rfl, HB3.out⟩
        . have e1 : (p.view == q.view) = true := by simp [h1]
          have e2 : (p.seq == q.seq) = true := by simp [h2]
          have e3 : (p.dig == q.dig) = true := by simp [h3]
          have e4 : ∀ W : World, (binOp .eql 36 (.agg #[.int .i64 p.first.1, .int .i64 p.first.2]) (.agg #[.int .i64 q.first.1, .int .i64 q.first.2])).run Tryz.prog W = .ok (.bool false) W := fun W => by rw [hqe, show sgB (p.first.1, p.first.2) (q.first.1, q.first.2) = false from sgB_no h4]
          have HN : Hid (decide (p = q) = false) := Lib.hid (decide_eq_false (fun h => h4 (by rw [h])))
          clear hqe HSI HBA h1 h2 h3 h4
          go_enter Tryz.func25, Tryz.ntmps25
          go_wp2_with fail
          go_ret
          exact ⟨by rw [HN.out]; rfl, HB.out _ _⟩
      . have e1 : (p.view == q.view) = true := by simp [h1]
        have e2 : (p.seq == q.seq) = true := by simp [h2]
        have e3 : (p.dig == q.dig) = false := by rw [beq_eq_false_iff_ne]; exact h3
        have HN : Hid (decide (p = q) = false) := Lib.hid (decide_eq_false (fun h => h3 (by rw [h])))
        clear h1 h2 h3 hqe HSI HBA
        go_enter Tryz.func25, Tryz.ntmps25
        go_wp2_with fail
        go_ret
        exact ⟨by rw [HN.out]; rfl, HB.out _ _⟩
    . have e1 : (p.view == q.view) = true := by simp [h1]
      have e2 : (p.seq == q.seq) = false := by rw [beq_eq_false_iff_ne]; exact h2
      have HN : Hid (decide (p = q) = false) := Lib.hid (decide_eq_false (fun h => h2 (by rw [h])))
      clear h1 h2 hqe HSI HBA
      go_enter Tryz.func25, Tryz.ntmps25
      go_wp2_with fail
      go_ret
      exact ⟨by rw [HN.out]; rfl, HB.out _ _⟩
  . have e1 : (p.view == q.view) = false := by rw [beq_eq_false_iff_ne]; exact h1
    have HN : Hid (decide (p = q) = false) := Lib.hid (decide_eq_false (fun h => h1 (by rw [h])))
    clear h1 hqe HSI HBA
    go_enter Tryz.func25, Tryz.ntmps25
    go_wp2_with fail
    go_ret
    exact ⟨by rw [HN.out]; rfl, HB.out _ _⟩
end Go.Proofs.YtmhmnkpaijoaaaaGreat.Prc
namespace Go.Proofs.YtmhmnkpaijoaaaaGreat.Prd
set_option linter.unusedSimpArgs false
open Go Go.RowKit Cm Ck Kw Ga Kf Pm Pe Pg Ph Qb Lk Ld Jm Ja Jb Jk Pra Prb Prc
attribute [local go_sem ↓] Go.wp_at_zero Go.wp_at_succ
set_option linter.unusedVariables false
set_option maxRecDepth 100000
def Fits (p : Pd) : Prop := p.signs.length <= 140737488355328 /\ p.batch.length <= 140737488355328 /\ ∀ x ∈ p.batch, x.q.o.recs.length <= 140737488355328
set_option maxHeartbeats 4000000 in
theorem sameall_any (w : World) (X Y : Nat -> Prop) (va vb : Value) (l m : List Pd) (ha : PL w X va l) (hb : PL w Y vb m) (hf : ∀ p ∈ l, Fits p) (hl63 : l.length <= 140737488355328) :
    Calls Tryz.prog 26 #[va, vb] w fun e w' => e = .returned (.bool (decide (l = m))) /\ Below w.heap.size w w' := by
  obtain ⟨A, c, rfl, -⟩ := ha.shape
  obtain ⟨B, d, rfl, -⟩ := hb.shape
  have HA := Lib.hid (show U2 w X Y _ _ l m w from ⟨Below.refl _ w, ha, hb⟩)
  have HF := Lib.hid hf
  clear ha hb hf
  by_cases hlen : l.length = m.length
  . have hn : ((l.length : Int) != (m.length : Int)) = false := by simp [hlen]
    have HLEN := Lib.hid hlen
    clear hlen
    go_enter Tryz.func26, Tryz.ntmps26
    go_wp2_with fail
    go_loopw [5] (fun j wr => ∃ k : Nat, k <= l.length /\ j = .int .i64 k /\ l.take k = m.take k /\ U2 w X Y (.slice A l.length c) (.slice B m.length d) l m wr) (fun j _ => l.length - (intOf j).toNat)
    case atStart => exact ⟨0, Nat.zero_le _, rfl, rfl, HA.out⟩
    case round =>
      obtain ⟨k, hk, rfl, htk, hs⟩ := hrel
      clear HA
      by_cases hlt : k < l.length
      . have hlt2 : k < m.length := by have := HLEN.out; omega
        obtain ⟨ad, rp, rfl, hat1, hp1⟩ := hs.one.at_ hlt
        obtain ⟨bd, rq, rfl, hat2, hp2⟩ := hs.two.at_ hlt2
        have hfp := HF.out _ (List.getElem_mem hlt)
        have HN1 := Lib.hid (show l[k] = m[k] -> l.take (k + 1) = m.take (k + 1) from fun h => by rw [List.take_succ_eq_append_getElem hlt, List.take_succ_eq_append_getElem hlt2, htk, h])
        have HN2 := Lib.hid (show l[k] ≠ m[k] -> decide (l = m) = false from fun h => decide_eq_false (fun e => h (by subst e; rfl)))
        have hkp : (0 : Int) <= (k : Int) := by omega
        have hkl : (k : Int) < (l.length : Int) := by omega
        have hkm : (k : Int) < (m.length : Int) := by omega
        generalize l[k] = x at *
        generalize m[k] = y at *
        have HS := Lib.hid fun (n : Nat) => rproof_any (wr.drewN n) X Y x y rp rq (hp1.after (below_drewN (Below.refl _ _) n)) (hp2.after (below_drewN (Below.refl _ _) n)) hfp.1 hfp.2.1 hfp.2.2
        have HSS := Lib.hid hs
        have HAT1 := Lib.hid hat1
        have HAT2 := Lib.hid hat2
        obtain ⟨a0, a1, a2, a3, a4, a5, a6⟩ := hat1
        obtain ⟨b0, b1, b2, b3, b4, b5, b6⟩ := hat2
        unfold PC at HS
        clear htk hs hp1 hp2 hlt hlt2 hfp
        by_cases hq : x = y
        . have HS1 := Lib.hid fun n => (HS.out n).mono (fun e w' h => show e = .returned (.bool true) /\ _ from ⟨by rw [h.1, decide_eq_true hq], h.2⟩)
          have HT := Lib.hid (HN1.out hq)
          clear hq HS HN1 HN2
          go_wp2_with fail
          go_region_held3 (fun w' => (w'.cell? (ad.add (k * 7)) = some (.int .i64 x.view) /\ w'.cell? ⟨(ad.add (k * 7)).block, (ad.add (k * 7)).off + 1, none⟩ = some (.int .i64 x.seq) /\ w'.cell? ⟨(ad.add (k * 7)).block, (ad.add (k * 7)).off + 2, none⟩ = some (.int .i64 x.dig) /\ w'.cell? ⟨(ad.add (k * 7)).block, (ad.add (k * 7)).off + 3, none⟩ = some (.int .i64 x.first.1) /\ w'.cell? ⟨(ad.add (k * 7)).block, (ad.add (k * 7)).off + 4, none⟩ = some (.int .i64 x.first.2) /\ w'.cell? ⟨(ad.add (k * 7)).block, (ad.add (k * 7)).off + 5, none⟩ = some (.slice rp.1.1 x.signs.length rp.1.2) /\ w'.cell? ⟨(ad.add (k * 7)).block, (ad.add (k * 7)).off + 6, none⟩ = some (.slice rp.2.1 x.batch.length rp.2.2)) /\ (w'.cell? (bd.add (k * 7)) = some (.int .i64 y.view) /\ w'.cell? ⟨(bd.add (k * 7)).block, (bd.add (k * 7)).off + 1, none⟩ = some (.int .i64 y.seq) /\ w'.cell? ⟨(bd.add (k * 7)).block, (bd.add (k * 7)).off + 2, none⟩ = some (.int .i64 y.dig) /\ w'.cell? ⟨(bd.add (k * 7)).block, (bd.add (k * 7)).off + 3, none⟩ = some (.int .i64 y.first.1) /\ w'.cell? ⟨(bd.add (k * 7)).block, (bd.add (k * 7)).off + 4, none⟩ = some (.int .i64 y.first.2) /\ w'.cell? ⟨(bd.add (k * 7)).block, (bd.add (k * 7)).off + 5, none⟩ = some (.slice rq.1.1 y.signs.length rq.1.2) /\ w'.cell? ⟨(bd.add (k * 7)).block, (bd.add (k * 7)).off + 6, none⟩ = some (.slice rq.2.1 y.batch.length rq.2.2))) (first | exact ⟨HAT1.out, HAT2.out⟩ | exact ⟨HA3.out, HB3.out⟩)
            (first
            | (go_at_call 25; refine (HS1.out 1).mono ?_; rintro e w3 ⟨rfl, hb3⟩; have HS3 := Lib.hid (HSS.out.later (Ga.below_of_drew hb3)); have HA3 := Lib.hid (HAT1.out.later (Ga.below_of_drew hb3)); have HB3 := Lib.hid (HAT2.out.later (Ga.below_of_drew hb3)); clear hb3))
          all_goals
            go_wp2_with fail
            go_roundw
            case rel => exact ⟨k + 1, by omega, by go_num, HT.out, HS3.out⟩
            case measure => simp [intOf]; omega
        . have HS1 := Lib.hid fun n => (HS.out n).mono (fun e w' h => show e = .returned (.bool false) /\ _ from ⟨by rw [h.1, decide_eq_false hq], h.2⟩)
          have HT := Lib.hid (HN2.out hq)
          clear hq HS HN1 HN2
          go_wp2_with fail
          go_region_held3 (fun w' => (w'.cell? (ad.add (k * 7)) = some (.int .i64 x.view) /\ w'.cell? ⟨(ad.add (k * 7)).block, (ad.add (k * 7)).off + 1, none⟩ = some (.int .i64 x.seq) /\ w'.cell? ⟨(ad.add (k * 7)).block, (ad.add (k * 7)).off + 2, none⟩ = some (.int .i64 x.dig) /\ w'.cell? ⟨(ad.add (k * 7)).block, (ad.add (k * 7)).off + 3, none⟩ = some (.int .i64 x.first.1) /\ w'.cell? ⟨(ad.add (k * 7)).block, (ad.add (k * 7)).off + 4, none⟩ = some (.int .i64 x.first.2) /\ w'.cell? ⟨(ad.add (k * 7)).block, (ad.add (k * 7)).off + 5, none⟩ = some (.slice rp.1.1 x.signs.length rp.1.2) /\ w'.cell? ⟨(ad.add (k * 7)).block, (ad.add (k * 7)).off + 6, none⟩ = some (.slice rp.2.1 x.batch.length rp.2.2)) /\ (w'.cell? (bd.add (k * 7)) = some (.int .i64 y.view) /\ w'.cell? ⟨(bd.add (k * 7)).block, (bd.add (k * 7)).off + 1, none⟩ = some (.int .i64 y.seq) /\ w'.cell? ⟨(bd.add (k * 7)).block, (bd.add (k * 7)).off + 2, none⟩ = some (.int .i64 y.dig) /\ w'.cell? ⟨(bd.add (k * 7)).block, (bd.add (k * 7)).off + 3, none⟩ = some (.int .i64 y.first.1) /\ w'.cell? ⟨(bd.add (k * 7)).block, (bd.add (k * 7)).off + 4, none⟩ = some (.int .i64 y.first.2) /\ w'.cell? ⟨(bd.add (k * 7)).block, (bd.add (k * 7)).off + 5, none⟩ = some (.slice rq.1.1 y.signs.length rq.1.2) /\ w'.cell? ⟨(bd.add (k * 7)).block, (bd.add (k * 7)).off + 6, none⟩ = some (.slice rq.2.1 y.batch.length rq.2.2))) (first | exact ⟨HAT1.out, HAT2.out⟩ | exact ⟨HA3.out, HB3.out⟩)
            (first
            | (go_at_call 25; refine (HS1.out 1).mono ?_; rintro e w3 ⟨rfl, hb3⟩; have HS3 := Lib.hid (HSS.out.later (Ga.below_of_drew hb3)); have HA3 := Lib.hid (HAT1.out.later (Ga.below_of_drew hb3)); have HB3 := Lib.hid (HAT2.out.later (Ga.below_of_drew hb3)); clear hb3))
          all_goals
            go_wp2_with fail
            go_ret
            exact ⟨by rw [HT.out]; rfl, HS3.out.below⟩
      . have hke : k = l.length := by omega
        have HN : Hid (decide (l = m) = true) := Lib.hid (by
          rw [hke, List.take_length, HLEN.out, List.take_length] at htk
          exact decide_eq_true htk)
        have HSS := Lib.hid hs
        clear htk hs
        go_wp2_with fail
        go_ret
        exact ⟨by rw [HN.out]; rfl, HSS.out.below⟩
  . have hn : ((l.length : Int) != (m.length : Int)) = true := by simp only [bne_iff_ne, ne_eq]; omega
    have HN : Hid (decide (l = m) = false) := Lib.hid (decide_eq_false (fun h => hlen (by rw [h])))
    clear hlen
    go_enter Tryz.func26, Tryz.ntmps26
    go_wp2_with fail
    go_ret
    exact ⟨by rw [HN.out]; rfl, HA.out.below⟩
end Go.Proofs.YtmhmnkpaijoaaaaGreat.Prd
namespace Go.Proofs.YtmhmnkpaijoaaaaGreat.Jo
set_option linter.unusedSimpArgs false
open Go Go.RowKit Go.ChangeShapes Go.WideShapes Go.ChangeAt Go.Deep Ck Kf Kp Pm Pe Py Lk Jm Ja Jb
set_option linter.unusedVariables false
set_option maxRecDepth 100000
section
variable {H : Type} {enc : TypeId × Value -> H}
theorem cells_sgn : Tryz.prog.cellsOf 36 = 2 := by kernel_rfl
theorem cells_sd : Tryz.prog.cellsOf 113 = 9 := by kernel_rfl
theorem bytes_sd : Tryz.prog.bytesOf 113 = 104 := by kernel_rfl
theorem open_sg {w : World} {base : Nat} {sp : Nat -> Bool} {held : Bool} {n : Nat} {cs : List Value} {x : DataW H × List MemPlace} (h : DataW.trod enc Tryz.prog w base sp held n 36 cs = some x) :
    ∃ s : Sg, cs = [.int .i64 s.1, .int .i64 s.2] /\ wfS s := by
  obtain ⟨xs, n', _, _, hl, hxl, hf⟩ := DataW.trod_struct Tryz.underlying36 h
  rw [cells_sgn] at hl
  have hxl' : xs.length = 2 := hxl
  match cs, hl with
  | [v0, v1], _ =>
    have f0 : DataW.trod enc Tryz.prog w base sp held n' 3 (([v0, v1].drop 0).take (Tryz.prog.cellsOf 3)) = xs[0]? := hf 0 _ rfl
    have f1 : DataW.trod enc Tryz.prog w base sp held n' 31 (([v0, v1].drop 1).take (Tryz.prog.cellsOf 31)) = xs[1]? := hf 1 _ rfl
    rw [Py.cells_int] at f0
    rw [cells_dig] at f1
    simp only [List.drop_zero, List.drop_succ_cons, List.take_succ_cons, List.take_zero] at f0 f1
    obtain ⟨z0, e0, w0⟩ := one_int Tryz.underlying3 (by omega) f0
    obtain ⟨z1, e1, w1⟩ := one_int Tryz.underlying31 (by omega) f1
    have b0 : -9223372036854775808 <= z0 /\ z0 <= 9223372036854775807 := by simpa [Lit.wf, IntKind.min, IntKind.max, IntKind.signed, IntKind.bits] using w0
    have b1 : -9223372036854775808 <= z1 /\ z1 <= 9223372036854775807 := by simpa [Lit.wf, IntKind.min, IntKind.max, IntKind.signed, IntKind.bits] using w1
    simp only [List.cons.injEq, and_true] at e0 e1
    exact ⟨(z0, z1), by rw [e0, e1], b0.1, b0.2, b1.1, b1.2⟩
theorem open_sd {w : World} {base : Nat} {fuel : Nat} {cs : List Value} {x : DataW H × List MemPlace} (h : DataW.trod enc Tryz.prog w base (fun _ => true) true fuel 113 cs = some x) :
    ∃ (d : Sd) (A : Option Addr) (c : Nat), cs = (DC d A c).toList /\ Ls w (fun k => w.heap.size <= k) (.slice A d.q.o.recs.length c) d.q.o.recs
      /\ wfS d.s /\ wfQ d.q /\ ∀ R, (∀ n ∈ x.1.weights Tryz.prog 113, n <= R) -> far d.q.o R := by
  obtain ⟨xs, n', _, hx, hl, hxl, hf⟩ := DataW.trod_struct Tryz.underlying113 h
  rw [cells_sd] at hl
  have hxl' : xs.length = 2 := hxl
  match cs, hl with
  | [v0, v1, v2, v3, v4, v5, v6, v7, v8], _ =>
    have f0 : DataW.trod enc Tryz.prog w base (fun _ => true) true n' 111 (([v0, v1, v2, v3, v4, v5, v6, v7, v8].drop 0).take (Tryz.prog.cellsOf 111)) = xs[0]? := hf 0 _ rfl
    have f1 : DataW.trod enc Tryz.prog w base (fun _ => true) true n' 36 (([v0, v1, v2, v3, v4, v5, v6, v7, v8].drop 7).take (Tryz.prog.cellsOf 36)) = xs[1]? := hf 1 _ rfl
    rw [cells_req] at f0
    rw [cells_sgn] at f1
    simp only [List.drop_zero, List.drop_succ_cons, List.take_succ_cons, List.take_zero] at f0 f1
    rw [List.getElem?_eq_getElem (by omega)] at f0 f1
    obtain ⟨q, A, c, e0, hls, hwq, hfar⟩ := open_q f0
    obtain ⟨s, e1, hws⟩ := open_sg f1
    simp only [QC, List.cons.injEq, and_true] at e0 e1
    obtain ⟨rfl, rfl, rfl, rfl, rfl, rfl, rfl⟩ := e0
    obtain ⟨rfl, rfl⟩ := e1
    refine ⟨⟨q, s⟩, A, c, rfl, hls, hws, hwq, fun R hR => hfar R fun n hn => ?_⟩
    refine hR n ?_
    rw [hx]
    simp only [DataW.weights, Tryz.underlying113]
    exact DataW.weights_mem_each (ts := [111, 36]) (j := 0) (t := 111) rfl (by simp [List.getElem?_eq_getElem (show 0 < xs.length by omega)]) n hn
theorem open_batch {w : World} {fuel : Nat} {base : Nat} {v : Value} {x : DataW H × List MemPlace} (h : DataW.trod enc Tryz.prog w base (fun _ => true) true fuel 39 [v] = some x) (hR : ∀ n ∈ x.1.weights Tryz.prog 39, n <= 140737488351232) :
    ∃ (l : List Sd), BI w (fun k => w.heap.size <= k) v l /\ l.length * 104 <= 140737488351232 /\ ∀ y ∈ l, far y.q.o 140737488351232 /\ wfS y.s := by
  rcases open_slice Tryz.underlying39 h with ⟨hcs, rfl⟩ | ⟨a, len, cap, m, n, D, Pl, hcs, _, hl, hm, hmm, rfl, hx⟩
  . obtain rfl : v = .slice none 0 0 := by simpa using hcs
    exact ⟨[], bi_nil _ _, by simp, fun y hy => absurd hy (by simp)⟩
  . obtain rfl : v = .slice (some a) len cap := by simpa using hcs
    simp only [if_true] at hmm
    have each : ∀ i, ∃ r : Sd × (Option Addr × Nat), i < len -> (∀ j u, (DC r.1 r.2.1 r.2.2).toList[j]? = some u -> w.cell? (a.add (i * 9 + j)) = some u) /\ Ls w (fun k => w.heap.size <= k) (.slice r.2.1 r.1.q.o.recs.length r.2.2) r.1.q.o.recs /\ far r.1.q.o 140737488351232 /\ wfS r.1.s := by
      intro i
      by_cases hi : i < len
      . obtain ⟨cs', hc, ht⟩ := hx i (by omega)
        obtain ⟨d, Ar, cr, rfl, hb, hws, _, hr⟩ := open_sd ht
        rw [cells_sd] at hc
        obtain ⟨_, _, hcell⟩ := World.cells?_some hc
        have hw := hr 140737488351232 (fun n hn => hR n (by
          simp only [DataW.weights, Tryz.underlying39, List.mem_cons, List.mem_append]
          exact .inr (.inl (all_mem hn (List.mem_map.2 ⟨i, by simpa using hi, rfl⟩)))))
        refine ⟨(d, (Ar, cr)), fun _ => ⟨fun j u hu => ?_, hb, hw, hws⟩⟩
        have hj : j < 9 := (List.getElem?_eq_some_iff.1 hu).1
        have h1 := hcell j hj
        rw [Ck.add_add] at h1
        rw [h1, <- hu, List.getElem?_eq_getElem (show j < (DC d Ar cr).toList.length from hj)]
      . exact ⟨(Sd.zero, (none, 0)), fun h => absurd h hi⟩
    obtain ⟨f, hf⟩ := Classical.axiomOfChoice each
    have hlen : ((List.range len).map fun i => (f i).1).length = len := by simp
    have hrl : ((List.range len).map fun i => (f i).2).length = ((List.range len).map fun i => (f i).1).length := by simp
    refine ⟨(List.range len).map fun i => (f i).1, ⟨(List.range len).map fun i => (f i).2, hrl, ?_, fun i hi => ?_⟩, ?_, fun y hy => ?_⟩
    . refine ⟨some a, cap, by rw [hlen], by rw [flat_length hrl], by rw [hlen]; exact hl, hm, fun hn => ?_⟩
      rw [hlen] at hn
      have h0 := (hf 0 hn).1 0 _ rfl
      refine ⟨a, rfl, by have := World.block_lt_of_cell? w _ h0; rw [Ck.add_block] at this; exact this, by have := World.block_lt_of_cell? w _ h0; rw [Ck.add_block] at this; omega, fun j u hu => ?_⟩
      have hj : j < len * 9 := by
        have := (List.getElem?_eq_some_iff.1 hu).1
        rw [flat_length hrl, hlen] at this
        exact this
      have hi : j / 9 < len := by omega
      have hz : j / 9 < (((List.range len).map fun i => (f i).1).zip ((List.range len).map fun i => (f i).2)).length := by rw [zip_len hrl, hlen]; exact hi
      have hg := flat_get DC_len (((List.range len).map fun i => (f i).1).zip ((List.range len).map fun i => (f i).2)) (j / 9) hz (j % 9) (by omega)
      rw [show j / 9 * 9 + j % 9 = j by omega] at hg
      rw [flat, hg] at hu
      have := (hf (j / 9) hi).1 (j % 9) u (by
        rw [<- hu]
        congr 1
        simp)
      rwa [show j / 9 * 9 + j % 9 = j by omega] at this
    . have hi' : i < len := by simpa using hi
      refine ⟨(f i).2, by simp [hi'], ?_⟩
      have := (hf i hi').2.1
      simpa using this
    . have := hR _ (by simp only [DataW.weights, Tryz.underlying39]; exact List.mem_cons_self)
      rw [bytes_sd] at this
      simp only [List.length_map, List.length_range] at this ⊢
      omega
    . obtain ⟨i, hi, rfl⟩ := List.mem_map.1 hy
      have hi' : i < len := by simpa using hi
      exact (hf i hi').2.2
end
end Go.Proofs.YtmhmnkpaijoaaaaGreat.Jo
namespace Go.Proofs.YtmhmnkpaijoaaaaGreat.Psg
set_option linter.unusedSimpArgs false
open Go Go.RowKit Cm Ck Kw Ga Kf Pm Pe Pg Ph Qb Lk Ld Jm Ja Jb Jk Pra Prb Prc Prd Pre Prf
attribute [local go_sem ↓] Go.wp_at_zero Go.wp_at_succ
set_option linter.unusedVariables false
set_option maxRecDepth 100000
theorem lastQ_pos {l : List Pd} (h : fromP 0 l = true) : 0 <= lastQ l := by
  have hr := (from_rise.1 h).2.2
  unfold lastQ
  cases hg : l.getLast? with
  | none => simp
  | some p =>
    have := okN_iff.1 (hr p (List.mem_of_getLast? hg))
    simp
    omega
theorem lastQ_take {l : List Pd} {k : Nat} (hk : k < l.length) : lastQ (l.take (k + 1)) = l[k].seq := by
  unfold lastQ
  rw [List.take_succ_eq_append_getElem hk, List.getLast?_concat]
  rfl
def Fromed (w : World) (X : Nat -> Prop) (l : List Pd) (e : Ending) (w' : World) : Prop :=
  Below w.heap.size w w' /\ if fromP 0 l then ∃ g, e = .returned (.tuple #[.pointer (some ⟨g, 0, none⟩), .int .i64 0]) /\ w.heap.size <= g /\ RH w' (fun k => X k /\ k < w.heap.size) g l else e = .returned (.tuple #[.pointer none, .int .i64 1])
set_option maxHeartbeats 4000000 in
theorem rfrom_any (w : World) (X : Nat -> Prop) (v : Value) (l : List Pd) (hp : PL w X v l) (hl : l.length * 88 <= 140737488355328) :
    Calls Tryz.prog 31 #[v] w (Fromed w X l) := by
  obtain ⟨A, c, rfl, hc⟩ := hp.shape
  have HP := Lib.hid hp
  have HL := Lib.hid hl
  have hln : (l.length : Int) <= 1599289640402 := by omega
  clear hp hc hl
  go_enter Tryz.func31, Tryz.ntmps31
  go_wp2_with fail
  go_loopw [4] (fun i wr => ∃ k : Nat, k <= l.length /\ i = .int .i64 k /\ fromP 0 (l.take k) = true /\ ∃ n, wr = w.drewN n) (fun i _ => l.length - (intOf i).toNat)
  case atStart => exact ⟨0, Nat.zero_le _, rfl, rfl, 0, rfl⟩
  case round =>
    obtain ⟨k, hk, rfl, hfr, nd, rfl⟩ := hrel
    by_cases hlt : k < l.length
    . obtain ⟨ad, r, rfl, hat, hpi⟩ := HP.out.at_ hlt
      obtain ⟨a0, a1, a2, a3, a4, a5, a6⟩ := hat
      have HST := Lib.hid (from_step hlt hfr)
      have HPO := Lib.hid (lastQ_pos hfr)
      have HKL := Lib.hid hlt
      have hkp : (0 : Int) <= (k : Int) := by omega
      have hkl : (k : Int) < (l.length : Int) := by omega
      have HPV : Hid (0 < k -> ∃ hk1 : k - 1 < l.length, lastQ (l.take k) = l[k - 1].seq /\ w.cell? ⟨(ad.add ((k - 1) * 7)).block, (ad.add ((k - 1) * 7)).off + 1, none⟩ = some (.int .i64 l[k - 1].seq)) := Lib.hid (fun h0 => by
        have hk1 : k - 1 < l.length := by omega
        refine ⟨hk1, ?_, ?_⟩
        . have := lastQ_take hk1
          rwa [show k - 1 + 1 = k by omega] at this
        . obtain ⟨ad', r', e', hat', -⟩ := HP.out.at_ hk1
          injection e' with e'
          subst e'
          exact hat'.2.1)
      generalize hx : l[k] = x at *
      clear hpi hfr
      by_cases h1 : x.seq < 1
      . have d1 : decide (x.seq < 1) = true := decide_eq_true h1
        have HF := Lib.hid (HST.out.1 (by rw [okN_lo h1]; rfl))
        clear HST HPV HPO
        go_wp2_with fail
        go_quiet (fail)
        all_goals
          go_wp2_with fail
          go_ret2
          unfold Fromed
          rw [HF.out]
          exact ⟨below_drewN (below_drewN (Below.refl _ _) _) _, rfl⟩
      have d1 : decide (x.seq < 1) = false := decide_eq_false h1
      by_cases h2 : 9007199254740992 < x.seq
      . have d2 : decide (9007199254740992 < x.seq) = true := decide_eq_true h2
        have HF := Lib.hid (HST.out.1 (by rw [okN_hi h2]; rfl))
        clear HST HPV HPO
        go_wp2_with fail
        go_quiet (fail)
        all_goals
          go_wp2_with fail
          go_ret2
          unfold Fromed
          rw [HF.out]
          exact ⟨below_drewN (below_drewN (Below.refl _ _) _) _, rfl⟩
      have d2 : decide (9007199254740992 < x.seq) = false := decide_eq_false h2
      have hok : okN x.seq = true := okN_iff.2 ⟨by omega, by omega⟩
      by_cases hk0 : k = 0
      . skip
        have HF := Lib.hid (HST.out.2 (by rw [hok]; have : lastQ (l.take k) = 0 := (by rw [hk0]; rfl); rw [this]; simpa using (show 0 < x.seq by omega)))
        have d3 : decide ((0 : Int) < (k : Int)) = false := decide_eq_false (by omega)
        have d5 : decide (0 < k) = false := decide_eq_false (by omega)
        clear HST HPV HPO hok h1 h2 hk0
        go_wp2_with fail
        go_quiet (fail)
        all_goals
          go_wp2_with fail
          go_roundw
          case rel => exact ⟨k + 1, by have := HKL.out; omega, by go_num, HF.out, _, rfl⟩
          case measure => have := HKL.out; simp [intOf]; omega
      . obtain ⟨j, rfl⟩ : ∃ j, k = j + 1 := ⟨k - 1, by omega⟩
        clear hk0
        obtain ⟨hk1, hlq, hcp⟩ := HPV.out (by omega)
        simp only [Nat.add_sub_cancel] at hk1 hlq hcp
        have d3 : decide ((0 : Int) < (j : Int) + 1) = true := decide_eq_true (by omega)
        have hj0 : (0 : Int) <= (j : Int) := by omega
        have hjl : (j : Int) < (l.length : Int) := by omega
        generalize l[j] = z at *
        by_cases h3 : x.seq <= z.seq
        . have d4 : decide (x.seq <= z.seq) = true := decide_eq_true h3
          have HF := Lib.hid (HST.out.1 (by rw [hlq, decide_eq_false (show ¬ z.seq < x.seq by omega)]; simp))
          clear HST HPV HPO
          go_wp2_with fail
          go_quiet (fail)
          all_goals
            go_wp2_with fail
            go_ret2
            unfold Fromed
            rw [HF.out]
            exact ⟨below_drewN (below_drewN (Below.refl _ _) _) _, rfl⟩
        . have d4 : decide (x.seq <= z.seq) = false := decide_eq_false h3
          have HF := Lib.hid (HST.out.2 (by rw [hok, hlq, decide_eq_true (show z.seq < x.seq by omega)]; rfl))
          clear HST HPV HPO hok h1 h2 h3 hlq
          go_wp2_with fail
          go_quiet (fail)
          all_goals
            go_wp2_with fail
            go_roundw
            case rel => exact ⟨j + 1 + 1, by have := HKL.out; omega, by go_num, HF.out, _, rfl⟩
            case measure => have := HKL.out; simp [intOf]; omega
    . have hke : k = l.length := by omega
      subst hke
      rw [List.take_length] at hfr
      have HF := Lib.hid hfr
      obtain ⟨i7, hi7, hz7, hs7, hy7⟩ := info_parts info_prep
      obtain ⟨rs, hpts, hsl⟩ := HP.out
      have HS := Lib.hid (hsl.drewN nd)
      have HPT := Lib.hid ((Pts.old hpts (Nat.le_refl _)).after (below_drewN (Below.refl _ w) nd))
      have HON := Lib.hid (show ∀ u ∈ flatP l rs, u.oneCell' = true from flatP_one)
      have HLL := Lib.hid (And.intro (flatP_length hpts.1) hpts.1)
      clear hfr hpts hsl hk hlt
      go_wp2_with (at_builtin; refine wpList_append_sh _ rfl (.tmp 44) (.tmp 45) _ rfl w.heap.size 41 i7 _ 7 88 Tryz.underlying30 hi7 hz7 hs7 hy7 rfl (by omega) (.slice none 0 0) 0 [] rfl (World.ownsRow_nil _ _ _ _) _ _ l.length (flatP l rs) rfl HS.out HON.out (by simp only [maxLen]; omega) (by have := HL.out; omega) (Nat.le_refl _) ?_; intro Ae ce wd happ)
      have hbd : Below w.heap.size w wd := (below_drewN (Below.refl _ w) nd).trans ((Ch.of_grown (S := fun _ => False) happ.2.1 (fun k hk _ => by simp [Value.ownBlock] at hk)).below (fun _ _ h => h) (Nat.le_refl _))
      have hba : Below wd.heap.size wd (wd.alloc (.cells #[.slice Ae l.length ce] 67)) := (Below.refl _ wd).alloc (Nat.le_refl _) _
      have hall := hbd.trans (hba.mono hbd.size)
      have hown := happ.1
      simp only [List.nil_append, Nat.zero_add] at hown
      have HR : Hid (RH (wd.alloc (.cells #[.slice Ae l.length ce] 67)) (fun k => X k /\ k < w.heap.size) wd.heap.size l) := Lib.hid ⟨_, Blk.new wd _ _, rs, (HPT.out.after ((Ch.of_grown (S := fun _ => False) happ.2.1 (fun k hk _ => by simp [Value.ownBlock] at hk)).below (fun _ _ h => h) (Nat.le_refl _))).after hba |>.weaken (fun b hb h => by
        rcases h with h | h
        . exact .inl h.1
        . exact .inr (by have := hbd.size; omega)), (Sl.of_own hown (fun k h1 h2 h3 => by omega)).after hba⟩
      go_ret2
      unfold Fromed
      rw [if_pos HF.out]
      exact ⟨hall, _, rfl, hbd.size, HR.out⟩
end Go.Proofs.YtmhmnkpaijoaaaaGreat.Psg
