/-
  Layer 8 (request): the contracts of the document's SameRequest and Same.
-/
import Derived.Test.YtebjjkhiniccgaaGreatW8
import Derived.Test.YtebjjkhiniccgaaGreatQs
import Derived.Test.YtebjjkhiniccgaaGreatW2
import Derived.BigQuiet
namespace Go.Proofs.YtebjjkhiniccgaaGreat.Jk
set_option linter.unusedSimpArgs false
open Go Go.RowKit Ck Kw Ga Kf Pm Pe Pg Pk Qb Qs Lk Ld Jm Ja Jb Jc
attribute [local go_sem ↓] Go.wp_at_zero Go.wp_at_succ
set_option linter.unusedVariables false
set_option maxRecDepth 100000

theorem sameO_dec (a b : O) : sameO a b = decide (a = b) := rfl
theorem Q_ext {x y : Q} (h1 : x.client = y.client) (h2 : x.time = y.time) (h3 : x.o = y.o) : x = y := by cases x; cases y; simp_all
theorem Sd_ext {x y : Sd} (h1 : x.q = y.q) (h2 : x.s = y.s) : x = y := by cases x; cases y; simp_all

set_option maxHeartbeats 4000000 in
theorem sameq_any (x y : Q) (A B : Option Addr) (c d : Nat) (X Y : Nat → Prop) (w : World) (ha : Ls w X (.slice A x.o.recs.length c) x.o.recs) (hb : Ls w Y (.slice B y.o.recs.length d) y.o.recs) (hl : x.o.recs.length ≤ 140737488355328) :
    Calls Tryz.prog 8 #[QV x A c, QV y B d] w fun e w' => e = .returned (.bool (decide (x = y))) ∧ Below w.heap.size w w' := by
  have b2 : Below w.heap.size w ((w.alloc (.cells (QC x A c) 27)).alloc (.cells (QC y B d) 27)) := (op_below w _).trans ((op_below _ _).mono (by simp))
  have k1 : QB ((w.alloc (.cells (QC x A c) 27)).alloc (.cells (QC y B d) 27)) w.heap.size x A c := Blk.alloc (Blk.new w _ _) _
  have k2 : QB ((w.alloc (.cells (QC x A c) 27)).alloc (.cells (QC y B d) 27)) (w.heap.size + 1) y B d := Blk.new_at (by simp) rfl
  have HS := Lib.hid (rsame_any x.o y.o (OV x.o A c) (OV y.o B d) X Y _ ⟨A, c, rfl, ha.after b2⟩ ⟨B, d, rfl, hb.after b2⟩ hl)
  obtain ⟨a0, a1, a2, a3, a4, a5, a6⟩ := k1.cells
  obtain ⟨b0, b1, b2', b3, b4, b5, b6⟩ := k2.cells
  have HB := Lib.hid b2
  clear b2 k1 k2 ha hb
  unfold OV at HS
  unfold QV
  unfold QC at *
  by_cases h1 : x.client = y.client
  · have e1 : (x.client == y.client) = true := by rw [h1]; exact beq_self_eq_true _
    by_cases h2 : x.time = y.time
    · have e2 : (x.time == y.time) = true := by rw [h2]; exact beq_self_eq_true _
      have HR : Hid (decide (x = y) = sameO x.o y.o) := Lib.hid (by rw [sameO_dec, decide_eq_decide]; exact ⟨fun h => by rw [h], fun h => Q_ext h1 h2 h⟩)
      clear h1 h2
      go_enter Tryz.func8, Tryz.ntmps8
      go_wp2_with fail
      refine HS.out.mono ?_
      rintro e w3 ⟨rfl, hb3⟩
      have HB3 := Lib.hid (HB.out.trans (hb3.mono HB.out.size))
      clear hb3
      go_wp2_with fail
      go_ret
      exact ⟨by rw [HR.out]; rfl, HB3.out⟩
    · have e2 : (x.time == y.time) = false := beq_eq_false_iff_ne.2 h2
      have HR : Hid (decide (x = y) = false) := Lib.hid (decide_eq_false (fun h => h2 (by rw [h])))
      clear h1 h2
      go_enter Tryz.func8, Tryz.ntmps8
      go_wp2_with fail
      go_ret
      exact ⟨by rw [HR.out]; rfl, HB.out⟩
  · have e1 : (x.client == y.client) = false := beq_eq_false_iff_ne.2 h1
    have HR : Hid (decide (x = y) = false) := Lib.hid (decide_eq_false (fun h => h1 (by rw [h])))
    clear h1
    go_enter Tryz.func8, Tryz.ntmps8
    go_wp2_with fail
    go_ret
    exact ⟨by rw [HR.out]; rfl, HB.out⟩

theorem at9_later {w w' : World} {ad : Addr} {d : Sd} {A : Option Addr} {c : Nat} (h : At9 w ad d A c) (b : Below w.heap.size w w') : At9 w' ad d A c := by
  have k : ∀ {a : Addr} {v : Value}, w.cell? a = some v → w'.cell? a = some v := fun {a v} hc => by rw [b.cell (World.block_lt_of_cell? w _ hc)]; exact hc
  obtain ⟨a0, a1, a2, a3, a4, a5, a6, a7, a8⟩ := h
  exact ⟨k a0, k a1, k a2, k a3, k a4, k a5, k a6, k a7, k a8⟩
/-- Two batches stand there. -/
structure S2 (w0 : World) (X Y : Nat → Prop) (va vb : Value) (l m : List Sd) (W : World) : Prop where
  below : Below w0.heap.size w0 W
  one : BI W X va l
  two : BI W Y vb m
theorem S2.later {w0 W W' : World} {X Y : Nat → Prop} {va vb : Value} {l m : List Sd} (h : S2 w0 X Y va vb l m W) (b : Below W.heap.size W W') : S2 w0 X Y va vb l m W' := ⟨h.below.trans (b.mono h.below.size), h.one.after b, h.two.after b⟩

set_option maxHeartbeats 8000000 in
theorem rsameb_any (w : World) (X Y : Nat → Prop) (va vb : Value) (l m : List Sd) (ha : BI w X va l) (hb : BI w Y vb m) (hr : ∀ x ∈ l, x.q.o.recs.length ≤ 140737488355328) (hl63 : l.length ≤ 140737488355328) :
    Calls Tryz.prog 11 #[va, vb] w fun e w' => e = .returned (.bool (decide (l = m))) ∧ Below w.heap.size w w' := by
  obtain ⟨A, c, rfl, -⟩ := ha.shape
  obtain ⟨B, d, rfl, -⟩ := hb.shape
  have HA := Lib.hid (show S2 w X Y _ _ l m w from ⟨Below.refl _ w, ha, hb⟩)
  have HR := Lib.hid hr
  clear ha hb hr
  by_cases hlen : l.length = m.length
  · have hn : ((l.length : Int) != (m.length : Int)) = false := by simp [hlen]
    have HLEN := Lib.hid hlen
    have hge := guard_sign
    have hqe := run_neq_sign
    clear hlen
    go_enter Tryz.func11, Tryz.ntmps11
    go_wp2_with fail
    go_loopw [5] (fun j wr => ∃ k : Nat, k ≤ l.length ∧ j = .int .i64 k ∧ l.take k = m.take k ∧ S2 w X Y (.slice A l.length c) (.slice B m.length d) l m wr) (fun j _ => l.length - (intOf j).toNat)
    case atStart => exact ⟨0, Nat.zero_le _, rfl, rfl, HA.out⟩
    case round =>
      obtain ⟨k, hk, rfl, htk, hs⟩ := hrel
      clear HA
      by_cases hlt : k < l.length
      · have hlt2 : k < m.length := by have := HLEN.out; omega
        obtain ⟨ad, Ar, cr, rfl, hat1, hls1⟩ := hs.one.at_ hlt
        obtain ⟨bd, Br, dr, rfl, hat2, hls2⟩ := hs.two.at_ hlt2
        have hrl := HR.out _ (List.getElem_mem hlt)
        have HN1 := Lib.hid (show l[k] = m[k] → l.take (k + 1) = m.take (k + 1) from fun h => by rw [List.take_succ_eq_append_getElem hlt, List.take_succ_eq_append_getElem hlt2, htk, h])
        have HN2 := Lib.hid (show l[k] ≠ m[k] → decide (l = m) = false from fun h => decide_eq_false (fun e => h (by subst e; rfl)))
        have hkp : (0 : Int) ≤ (k : Int) := by omega
        have hkl : (k : Int) < (l.length : Int) := by omega
        have hkm : (k : Int) < (m.length : Int) := by omega
        generalize l[k] = x at *
        generalize m[k] = y at *
        have HS := Lib.hid fun (n : Nat) => sameq_any x.q y.q Ar Br cr dr X Y (wr.drewN n) (hls1.after (below_drewN (Below.refl _ _) n)) (hls2.after (below_drewN (Below.refl _ _) n)) hrl
        have HSS := Lib.hid hs
        have HAT1 := Lib.hid hat1
        have HAT2 := Lib.hid hat2
        obtain ⟨a0, a1, a2, a3, a4, a5, a6, a7, a8⟩ := hat1
        obtain ⟨b0, b1, b2, b3, b4, b5, b6, b7, b8⟩ := hat2
        unfold QV QC at HS
        clear htk hs hls1 hls2 hlt hlt2
        by_cases hsg : x.s = y.s
        · have hqq : ∀ W : World, (binOp .neq 47 (.agg #[.int .i64 x.s.1, .int .i64 x.s.2]) (.agg #[.int .i64 y.s.1, .int .i64 y.s.2])).run Tryz.prog W = .ok (.bool false) W := fun W => by rw [hqe, show sgB (x.s.1, x.s.2) (y.s.1, y.s.2) = true from by rw [hsg]; exact sgB_yes _]; rfl
          have HSG := Lib.hid hsg
          clear hsg hqe
          by_cases hq : x.q = y.q
          · have HS1 := Lib.hid fun n => (HS.out n).mono (fun e w' h => show e = .returned (.bool true) ∧ _ from ⟨by rw [h.1, decide_eq_true hq], h.2⟩)
            have HT := Lib.hid (HN1.out (Sd_ext hq HSG.out))
            clear hq HS HN1 HN2
            go_wp2_with fail
            go_region_held3 (fun w' => (w'.cell? (ad.add (k * 9)) = some (.int .i64 x.q.client) ∧ w'.cell? ⟨(ad.add (k * 9)).block, (ad.add (k * 9)).off + 1, none⟩ = some (.int .i64 x.q.time) ∧ w'.cell? ⟨(ad.add (k * 9)).block, (ad.add (k * 9)).off + 2, none⟩ = some (.int .i64 x.q.o.kind) ∧ w'.cell? ⟨(ad.add (k * 9)).block, (ad.add (k * 9)).off + 3, none⟩ = some (.string ⟨x.q.o.topic.toArray⟩) ∧ w'.cell? ⟨(ad.add (k * 9)).block, (ad.add (k * 9)).off + 4, none⟩ = some (.string ⟨x.q.o.group.toArray⟩) ∧ w'.cell? ⟨(ad.add (k * 9)).block, (ad.add (k * 9)).off + 5, none⟩ = some (.int .i64 x.q.o.off) ∧ w'.cell? ⟨(ad.add (k * 9)).block, (ad.add (k * 9)).off + 6, none⟩ = some (.slice Ar x.q.o.recs.length cr) ∧ w'.cell? ⟨(ad.add (k * 9)).block, (ad.add (k * 9)).off + 7, none⟩ = some (.int .i64 x.s.1) ∧ w'.cell? ⟨(ad.add (k * 9)).block, (ad.add (k * 9)).off + 8, none⟩ = some (.int .i64 x.s.2)) ∧ (w'.cell? (bd.add (k * 9)) = some (.int .i64 y.q.client) ∧ w'.cell? ⟨(bd.add (k * 9)).block, (bd.add (k * 9)).off + 1, none⟩ = some (.int .i64 y.q.time) ∧ w'.cell? ⟨(bd.add (k * 9)).block, (bd.add (k * 9)).off + 2, none⟩ = some (.int .i64 y.q.o.kind) ∧ w'.cell? ⟨(bd.add (k * 9)).block, (bd.add (k * 9)).off + 3, none⟩ = some (.string ⟨y.q.o.topic.toArray⟩) ∧ w'.cell? ⟨(bd.add (k * 9)).block, (bd.add (k * 9)).off + 4, none⟩ = some (.string ⟨y.q.o.group.toArray⟩) ∧ w'.cell? ⟨(bd.add (k * 9)).block, (bd.add (k * 9)).off + 5, none⟩ = some (.int .i64 y.q.o.off) ∧ w'.cell? ⟨(bd.add (k * 9)).block, (bd.add (k * 9)).off + 6, none⟩ = some (.slice Br y.q.o.recs.length dr) ∧ w'.cell? ⟨(bd.add (k * 9)).block, (bd.add (k * 9)).off + 7, none⟩ = some (.int .i64 y.s.1) ∧ w'.cell? ⟨(bd.add (k * 9)).block, (bd.add (k * 9)).off + 8, none⟩ = some (.int .i64 y.s.2))) (first | exact ⟨HAT1.out, HAT2.out⟩ | exact ⟨HA3.out, HB3.out⟩)
              (first
              | (go_at_call 8; refine (HS1.out 1).mono ?_; rintro e w3 ⟨rfl, hb3⟩; have HS3 := Lib.hid (HSS.out.later (Ga.below_of_drew hb3)); have HA3 := Lib.hid (at9_later HAT1.out (Ga.below_of_drew hb3)); have HB3 := Lib.hid (at9_later HAT2.out (Ga.below_of_drew hb3)); clear hb3))
            all_goals
              go_wp2_with fail
              go_roundw
              case rel => exact ⟨k + 1, by omega, by go_num, HT.out, HS3.out⟩
              case measure => simp [intOf]; omega
          · have HS1 := Lib.hid fun n => (HS.out n).mono (fun e w' h => show e = .returned (.bool false) ∧ _ from ⟨by rw [h.1, decide_eq_false hq], h.2⟩)
            have HT := Lib.hid (HN2.out (fun h => hq (by rw [h])))
            clear hq HS HN1 HN2
            go_wp2_with fail
            go_region_held3 (fun w' => (w'.cell? (ad.add (k * 9)) = some (.int .i64 x.q.client) ∧ w'.cell? ⟨(ad.add (k * 9)).block, (ad.add (k * 9)).off + 1, none⟩ = some (.int .i64 x.q.time) ∧ w'.cell? ⟨(ad.add (k * 9)).block, (ad.add (k * 9)).off + 2, none⟩ = some (.int .i64 x.q.o.kind) ∧ w'.cell? ⟨(ad.add (k * 9)).block, (ad.add (k * 9)).off + 3, none⟩ = some (.string ⟨x.q.o.topic.toArray⟩) ∧ w'.cell? ⟨(ad.add (k * 9)).block, (ad.add (k * 9)).off + 4, none⟩ = some (.string ⟨x.q.o.group.toArray⟩) ∧ w'.cell? ⟨(ad.add (k * 9)).block, (ad.add (k * 9)).off + 5, none⟩ = some (.int .i64 x.q.o.off) ∧ w'.cell? ⟨(ad.add (k * 9)).block, (ad.add (k * 9)).off + 6, none⟩ = some (.slice Ar x.q.o.recs.length cr) ∧ w'.cell? ⟨(ad.add (k * 9)).block, (ad.add (k * 9)).off + 7, none⟩ = some (.int .i64 x.s.1) ∧ w'.cell? ⟨(ad.add (k * 9)).block, (ad.add (k * 9)).off + 8, none⟩ = some (.int .i64 x.s.2)) ∧ (w'.cell? (bd.add (k * 9)) = some (.int .i64 y.q.client) ∧ w'.cell? ⟨(bd.add (k * 9)).block, (bd.add (k * 9)).off + 1, none⟩ = some (.int .i64 y.q.time) ∧ w'.cell? ⟨(bd.add (k * 9)).block, (bd.add (k * 9)).off + 2, none⟩ = some (.int .i64 y.q.o.kind) ∧ w'.cell? ⟨(bd.add (k * 9)).block, (bd.add (k * 9)).off + 3, none⟩ = some (.string ⟨y.q.o.topic.toArray⟩) ∧ w'.cell? ⟨(bd.add (k * 9)).block, (bd.add (k * 9)).off + 4, none⟩ = some (.string ⟨y.q.o.group.toArray⟩) ∧ w'.cell? ⟨(bd.add (k * 9)).block, (bd.add (k * 9)).off + 5, none⟩ = some (.int .i64 y.q.o.off) ∧ w'.cell? ⟨(bd.add (k * 9)).block, (bd.add (k * 9)).off + 6, none⟩ = some (.slice Br y.q.o.recs.length dr) ∧ w'.cell? ⟨(bd.add (k * 9)).block, (bd.add (k * 9)).off + 7, none⟩ = some (.int .i64 y.s.1) ∧ w'.cell? ⟨(bd.add (k * 9)).block, (bd.add (k * 9)).off + 8, none⟩ = some (.int .i64 y.s.2))) (first | exact ⟨HAT1.out, HAT2.out⟩ | exact ⟨HA3.out, HB3.out⟩)
              (first
              | (go_at_call 8; refine (HS1.out 1).mono ?_; rintro e w3 ⟨rfl, hb3⟩; have HS3 := Lib.hid (HSS.out.later (Ga.below_of_drew hb3)); have HA3 := Lib.hid (at9_later HAT1.out (Ga.below_of_drew hb3)); have HB3 := Lib.hid (at9_later HAT2.out (Ga.below_of_drew hb3)); clear hb3))
            all_goals
              go_wp2_with fail
              go_ret
              exact ⟨by rw [HT.out]; rfl, HS3.out.below⟩
        · have hqq : ∀ W : World, (binOp .neq 47 (.agg #[.int .i64 x.s.1, .int .i64 x.s.2]) (.agg #[.int .i64 y.s.1, .int .i64 y.s.2])).run Tryz.prog W = .ok (.bool true) W := fun W => by rw [hqe, show sgB (x.s.1, x.s.2) (y.s.1, y.s.2) = false from sgB_no hsg]; rfl
          have HT := Lib.hid (HN2.out (fun h => hsg (by rw [h])))
          clear hsg hqe HS HN1 HN2
          go_wp2_with fail
          go_quiet (fail)
          go_wp2_with fail
          go_ret
          exact ⟨by rw [HT.out]; rfl, below_drewN HSS.out.below _⟩
      · have hke : k = l.length := by omega
        have HN : Hid (decide (l = m) = true) := Lib.hid (by
          rw [hke, List.take_length, HLEN.out, List.take_length] at htk
          exact decide_eq_true htk)
        have HSS := Lib.hid hs
        clear htk hs
        go_wp2_with fail
        go_ret
        exact ⟨by rw [HN.out]; rfl, HSS.out.below⟩
  · have hn : ((l.length : Int) != (m.length : Int)) = true := by simp only [bne_iff_ne, ne_eq]; omega
    have HN : Hid (decide (l = m) = false) := Lib.hid (decide_eq_false (fun h => hlen (by rw [h])))
    clear hlen
    go_enter Tryz.func11, Tryz.ntmps11
    go_wp2_with fail
    go_ret
    exact ⟨by rw [HN.out]; rfl, HA.out.below⟩
end Go.Proofs.YtebjjkhiniccgaaGreat.Jk
