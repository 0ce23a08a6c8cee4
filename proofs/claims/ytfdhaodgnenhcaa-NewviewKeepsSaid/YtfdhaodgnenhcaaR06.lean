/-
  Layer 8 (request): the contracts of the document's SameRequest and Same.
-/
import Derived.Test.YtfdhaodgnenhcaaR04
import Derived.Test.YtfdhaodgnenhcaaR05
import Derived.BigQuiet
import Derived.Test.YtfdhaodgnenhcaaR02
import Derived.Test.YtfdhaodgnenhcaaBulk
import Derived.Test.YtfdhaodgnenhcaaR03
namespace Go.Proofs.Ytfdhaodgnenhcaa.Jk
set_option linter.unusedSimpArgs false
open Go Go.RowKit Ck Kw Ga Kf Pm Pe Pg Qb Qs Lk Ld Jm Ja Jb Jc
attribute [local go_sem ↓] Go.wp_at_zero Go.wp_at_succ
set_option linter.unusedVariables false
set_option maxRecDepth 100000

theorem sameO_dec (a b : O) : sameO a b = decide (a = b) := rfl
theorem Q_ext {x y : Q} (h1 : x.client = y.client) (h2 : x.time = y.time) (h3 : x.o = y.o) : x = y := by cases x; cases y; simp_all
theorem Sd_ext {x y : Sd} (h1 : x.q = y.q) (h2 : x.s = y.s) : x = y := by cases x; cases y; simp_all

set_option maxHeartbeats 4000000 in
theorem sameq_any (x y : Q) (A B : Option Addr) (c d : Nat) (X Y : Nat → Prop) (w : World) (ha : Ls w X (.slice A x.o.recs.length c) x.o.recs) (hb : Ls w Y (.slice B y.o.recs.length d) y.o.recs) (hl : x.o.recs.length ≤ 140737488355328) :
    Calls Try.prog 29 #[QV x A c, QV y B d] w fun e w' => e = .returned (.bool (decide (x = y))) ∧ Below w.heap.size w w' := by
  have b2 : Below w.heap.size w ((w.alloc (.cells (QC x A c) 69)).alloc (.cells (QC y B d) 69)) := (op_below w _).trans ((op_below _ _).mono (by simp))
  have k1 : QB ((w.alloc (.cells (QC x A c) 69)).alloc (.cells (QC y B d) 69)) w.heap.size x A c := Blk.alloc (Blk.new w _ _) _
  have k2 : QB ((w.alloc (.cells (QC x A c) 69)).alloc (.cells (QC y B d) 69)) (w.heap.size + 1) y B d := Blk.new_at (by simp) rfl
  have HS := Lib.hid (rsame_any x.o y.o (OV x.o A c) (OV y.o B d) X Y _ ⟨A, c, rfl, ha.after b2⟩ ⟨B, d, rfl, hb.after b2⟩ hl)
  obtain ⟨a0, a1, a2, a3, a4, a5, a6⟩ := k1.cells
  obtain ⟨b0, b1, b2', b3, b4, b5, b6⟩ := k2.cells
  have HB := Lib.hid b2
  clear b2 k1 k2 ha hb
  unfold OV at HS
  unfold QV
  unfold QC at *
  by_cases h1 : x.client = y.client
  · have e1 : (x.client == y.client) = true := by rw [h1]; exact beq_self_eq_true _
    by_cases h2 : x.time = y.time
    · have e2 : (x.time == y.time) = true := by rw [h2]; exact beq_self_eq_true _
      have HR : Hid (decide (x = y) = sameO x.o y.o) := Lib.hid (by rw [sameO_dec, decide_eq_decide]; exact ⟨fun h => by rw [h], fun h => Q_ext h1 h2 h⟩)
      clear h1 h2
      go_enter Try.func29, Try.ntmps29
      go_wp2_with fail
      refine HS.out.mono ?_
      rintro e w3 ⟨rfl, hb3⟩
      have HB3 := Lib.hid (HB.out.trans (hb3.mono HB.out.size))
      clear hb3
      go_wp2_with fail
      go_ret
      exact ⟨by rw [HR.out]; rfl, HB3.out⟩
    · have e2 : (x.time == y.time) = false := beq_eq_false_iff_ne.2 h2
      have HR : Hid (decide (x = y) = false) := Lib.hid (decide_eq_false (fun h => h2 (by rw [h])))
      clear h1 h2
      go_enter Try.func29, Try.ntmps29
      go_wp2_with fail
      go_ret
      exact ⟨by rw [HR.out]; rfl, HB.out⟩
  · have e1 : (x.client == y.client) = false := beq_eq_false_iff_ne.2 h1
    have HR : Hid (decide (x = y) = false) := Lib.hid (decide_eq_false (fun h => h1 (by rw [h])))
    clear h1
    go_enter Try.func29, Try.ntmps29
    go_wp2_with fail
    go_ret
    exact ⟨by rw [HR.out]; rfl, HB.out⟩

theorem at9_later {w w' : World} {ad : Addr} {d : Sd} {A : Option Addr} {c : Nat} (h : At9 w ad d A c) (b : Below w.heap.size w w') : At9 w' ad d A c := by
  have k : ∀ {a : Addr} {v : Value}, w.cell? a = some v → w'.cell? a = some v := fun {a v} hc => by rw [b.cell (World.block_lt_of_cell? w _ hc)]; exact hc
  obtain ⟨a0, a1, a2, a3, a4, a5, a6, a7, a8⟩ := h
  exact ⟨k a0, k a1, k a2, k a3, k a4, k a5, k a6, k a7, k a8⟩
/-- Two batches stand there. -/
structure S2 (w0 : World) (X Y : Nat → Prop) (va vb : Value) (l m : List Sd) (W : World) : Prop where
  below : Below w0.heap.size w0 W
  one : BI W X va l
  two : BI W Y vb m
theorem S2.later {w0 W W' : World} {X Y : Nat → Prop} {va vb : Value} {l m : List Sd} (h : S2 w0 X Y va vb l m W) (b : Below W.heap.size W W') : S2 w0 X Y va vb l m W' := ⟨h.below.trans (b.mono h.below.size), h.one.after b, h.two.after b⟩

set_option maxHeartbeats 8000000 in
theorem rsameb_any (w : World) (X Y : Nat → Prop) (va vb : Value) (l m : List Sd) (ha : BI w X va l) (hb : BI w Y vb m) (hr : ∀ x ∈ l, x.q.o.recs.length ≤ 140737488355328) (hl63 : l.length ≤ 140737488355328) :
    Calls Try.prog 14 #[va, vb] w fun e w' => e = .returned (.bool (decide (l = m))) ∧ Below w.heap.size w w' := by
  obtain ⟨A, c, rfl, -⟩ := ha.shape
  obtain ⟨B, d, rfl, -⟩ := hb.shape
  have HA := Lib.hid (show S2 w X Y _ _ l m w from ⟨Below.refl _ w, ha, hb⟩)
  have HR := Lib.hid hr
  clear ha hb hr
  by_cases hlen : l.length = m.length
  · have hn : ((l.length : Int) != (m.length : Int)) = false := by simp [hlen]
    have HLEN := Lib.hid hlen
    have hge := guard_sign
    have hqe := run_neq_sign
    clear hlen
    go_enter Try.func14, Try.ntmps14
    go_wp2_with fail
    go_loopw [5] (fun j wr => ∃ k : Nat, k ≤ l.length ∧ j = .int .i64 k ∧ l.take k = m.take k ∧ S2 w X Y (.slice A l.length c) (.slice B m.length d) l m wr) (fun j _ => l.length - (intOf j).toNat)
    case atStart => exact ⟨0, Nat.zero_le _, rfl, rfl, HA.out⟩
    case round =>
      obtain ⟨k, hk, rfl, htk, hs⟩ := hrel
      clear HA
      by_cases hlt : k < l.length
      · have hlt2 : k < m.length := by have := HLEN.out; omega
        obtain ⟨ad, Ar, cr, rfl, hat1, hls1⟩ := hs.one.at_ hlt
        obtain ⟨bd, Br, dr, rfl, hat2, hls2⟩ := hs.two.at_ hlt2
        have hrl := HR.out _ (List.getElem_mem hlt)
        have HN1 := Lib.hid (show l[k] = m[k] → l.take (k + 1) = m.take (k + 1) from fun h => by rw [List.take_succ_eq_append_getElem hlt, List.take_succ_eq_append_getElem hlt2, htk, h])
        have HN2 := Lib.hid (show l[k] ≠ m[k] → decide (l = m) = false from fun h => decide_eq_false (fun e => h (by subst e; rfl)))
        have hkp : (0 : Int) ≤ (k : Int) := by omega
        have hkl : (k : Int) < (l.length : Int) := by omega
        have hkm : (k : Int) < (m.length : Int) := by omega
        generalize l[k] = x at *
        generalize m[k] = y at *
        have HS := Lib.hid fun (n : Nat) => sameq_any x.q y.q Ar Br cr dr X Y (wr.drewN n) (hls1.after (below_drewN (Below.refl _ _) n)) (hls2.after (below_drewN (Below.refl _ _) n)) hrl
        have HSS := Lib.hid hs
        have HAT1 := Lib.hid hat1
        have HAT2 := Lib.hid hat2
        obtain ⟨a0, a1, a2, a3, a4, a5, a6, a7, a8⟩ := hat1
        obtain ⟨b0, b1, b2, b3, b4, b5, b6, b7, b8⟩ := hat2
        unfold QV QC at HS
        clear htk hs hls1 hls2 hlt hlt2
        by_cases hsg : x.s = y.s
        · have hqq : ∀ W : World, (binOp .neq 39 (.agg #[.int .i64 x.s.1, .int .i64 x.s.2]) (.agg #[.int .i64 y.s.1, .int .i64 y.s.2])).run Try.prog W = .ok (.bool false) W := fun W => by rw [hqe, show sgB (x.s.1, x.s.2) (y.s.1, y.s.2) = true from by rw [hsg]; exact sgB_yes _]; rfl
          have HSG := Lib.hid hsg
          clear hsg hqe
          by_cases hq : x.q = y.q
          · have HS1 := Lib.hid fun n => (HS.out n).mono (fun e w' h => show e = .returned (.bool true) ∧ _ from ⟨by rw [h.1, decide_eq_true hq], h.2⟩)
            have HT := Lib.hid (HN1.out (Sd_ext hq HSG.out))
            clear hq HS HN1 HN2
            go_wp2_with fail
            go_region_held3 (fun w' => (w'.cell? (ad.add (k * 9)) = some (.int .i64 x.q.client) ∧ w'.cell? ⟨(ad.add (k * 9)).block, (ad.add (k * 9)).off + 1, none⟩ = some (.int .i64 x.q.time) ∧ w'.cell? ⟨(ad.add (k * 9)).block, (ad.add (k * 9)).off + 2, none⟩ = some (.int .i64 x.q.o.kind) ∧ w'.cell? ⟨(ad.add (k * 9)).block, (ad.add (k * 9)).off + 3, none⟩ = some (.string ⟨x.q.o.topic.toArray⟩) ∧ w'.cell? ⟨(ad.add (k * 9)).block, (ad.add (k * 9)).off + 4, none⟩ = some (.string ⟨x.q.o.group.toArray⟩) ∧ w'.cell? ⟨(ad.add (k * 9)).block, (ad.add (k * 9)).off + 5, none⟩ = some (.int .i64 x.q.o.off) ∧ w'.cell? ⟨(ad.add (k * 9)).block, (ad.add (k * 9)).off + 6, none⟩ = some (.slice Ar x.q.o.recs.length cr) ∧ w'.cell? ⟨(ad.add (k * 9)).block, (ad.add (k * 9)).off + 7, none⟩ = some (.int .i64 x.s.1) ∧ w'.cell? ⟨(ad.add (k * 9)).block, (ad.add (k * 9)).off + 8, none⟩ = some (.int .i64 x.s.2)) ∧ (w'.cell? (bd.add (k * 9)) = some (.int .i64 y.q.client) ∧ w'.cell? ⟨(bd.add (k * 9)).block, (bd.add (k * 9)).off + 1, none⟩ = some (.int .i64 y.q.time) ∧ w'.cell? ⟨(bd.add (k * 9)).block, (bd.add (k * 9)).off + 2, none⟩ = some (.int .i64 y.q.o.kind) ∧ w'.cell? ⟨(bd.add (k * 9)).block, (bd.add (k * 9)).off + 3, none⟩ = some (.string ⟨y.q.o.topic.toArray⟩) ∧ w'.cell? ⟨(bd.add (k * 9)).block, (bd.add (k * 9)).off + 4, none⟩ = some (.string ⟨y.q.o.group.toArray⟩) ∧ w'.cell? ⟨(bd.add (k * 9)).block, (bd.add (k * 9)).off + 5, none⟩ = some (.int .i64 y.q.o.off) ∧ w'.cell? ⟨(bd.add (k * 9)).block, (bd.add (k * 9)).off + 6, none⟩ = some (.slice Br y.q.o.recs.length dr) ∧ w'.cell? ⟨(bd.add (k * 9)).block, (bd.add (k * 9)).off + 7, none⟩ = some (.int .i64 y.s.1) ∧ w'.cell? ⟨(bd.add (k * 9)).block, (bd.add (k * 9)).off + 8, none⟩ = some (.int .i64 y.s.2))) (first | exact ⟨HAT1.out, HAT2.out⟩ | exact ⟨HA3.out, HB3.out⟩)
              (first
              | (go_at_call 29; refine (HS1.out 1).mono ?_; rintro e w3 ⟨rfl, hb3⟩; have HS3 := Lib.hid (HSS.out.later (Ga.below_of_drew hb3)); have HA3 := Lib.hid (at9_later HAT1.out (Ga.below_of_drew hb3)); have HB3 := Lib.hid (at9_later HAT2.out (Ga.below_of_drew hb3)); clear hb3))
            all_goals
              go_wp2_with fail
              go_roundw
              case rel => exact ⟨k + 1, by omega, by go_num, HT.out, HS3.out⟩
              case measure => simp [intOf]; omega
          · have HS1 := Lib.hid fun n => (HS.out n).mono (fun e w' h => show e = .returned (.bool false) ∧ _ from ⟨by rw [h.1, decide_eq_false hq], h.2⟩)
            have HT := Lib.hid (HN2.out (fun h => hq (by rw [h])))
            clear hq HS HN1 HN2
            go_wp2_with fail
            go_region_held3 (fun w' => (w'.cell? (ad.add (k * 9)) = some (.int .i64 x.q.client) ∧ w'.cell? ⟨(ad.add (k * 9)).block, (ad.add (k * 9)).off + 1, none⟩ = some (.int .i64 x.q.time) ∧ w'.cell? ⟨(ad.add (k * 9)).block, (ad.add (k * 9)).off + 2, none⟩ = some (.int .i64 x.q.o.kind) ∧ w'.cell? ⟨(ad.add (k * 9)).block, (ad.add (k * 9)).off + 3, none⟩ = some (.string ⟨x.q.o.topic.toArray⟩) ∧ w'.cell? ⟨(ad.add (k * 9)).block, (ad.add (k * 9)).off + 4, none⟩ = some (.string ⟨x.q.o.group.toArray⟩) ∧ w'.cell? ⟨(ad.add (k * 9)).block, (ad.add (k * 9)).off + 5, none⟩ = some (.int .i64 x.q.o.off) ∧ w'.cell? ⟨(ad.add (k * 9)).block, (ad.add (k * 9)).off + 6, none⟩ = some (.slice Ar x.q.o.recs.length cr) ∧ w'.cell? ⟨(ad.add (k * 9)).block, (ad.add (k * 9)).off + 7, none⟩ = some (.int .i64 x.s.1) ∧ w'.cell? ⟨(ad.add (k * 9)).block, (ad.add (k * 9)).off + 8, none⟩ = some (.int .i64 x.s.2)) ∧ (w'.cell? (bd.add (k * 9)) = some (.int .i64 y.q.client) ∧ w'.cell? ⟨(bd.add (k * 9)).block, (bd.add (k * 9)).off + 1, none⟩ = some (.int .i64 y.q.time) ∧ w'.cell? ⟨(bd.add (k * 9)).block, (bd.add (k * 9)).off + 2, none⟩ = some (.int .i64 y.q.o.kind) ∧ w'.cell? ⟨(bd.add (k * 9)).block, (bd.add (k * 9)).off + 3, none⟩ = some (.string ⟨y.q.o.topic.toArray⟩) ∧ w'.cell? ⟨(bd.add (k * 9)).block, (bd.add (k * 9)).off + 4, none⟩ = some (.string ⟨y.q.o.group.toArray⟩) ∧ w'.cell? ⟨(bd.add (k * 9)).block, (bd.add (k * 9)).off + 5, none⟩ = some (.int .i64 y.q.o.off) ∧ w'.cell? ⟨(bd.add (k * 9)).block, (bd.add (k * 9)).off + 6, none⟩ = some (.slice Br y.q.o.recs.length dr) ∧ w'.cell? ⟨(bd.add (k * 9)).block, (bd.add (k * 9)).off + 7, none⟩ = some (.int .i64 y.s.1) ∧ w'.cell? ⟨(bd.add (k * 9)).block, (bd.add (k * 9)).off + 8, none⟩ = some (.int .i64 y.s.2))) (first | exact ⟨HAT1.out, HAT2.out⟩ | exact ⟨HA3.out, HB3.out⟩)
              (first
              | (go_at_call 29; refine (HS1.out 1).mono ?_; rintro e w3 ⟨rfl, hb3⟩; have HS3 := Lib.hid (HSS.out.later (Ga.below_of_drew hb3)); have HA3 := Lib.hid (at9_later HAT1.out (Ga.below_of_drew hb3)); have HB3 := Lib.hid (at9_later HAT2.out (Ga.below_of_drew hb3)); clear hb3))
            all_goals
              go_wp2_with fail
              go_ret
              exact ⟨by rw [HT.out]; rfl, HS3.out.below⟩
        · have hqq : ∀ W : World, (binOp .neq 39 (.agg #[.int .i64 x.s.1, .int .i64 x.s.2]) (.agg #[.int .i64 y.s.1, .int .i64 y.s.2])).run Try.prog W = .ok (.bool true) W := fun W => by rw [hqe, show sgB (x.s.1, x.s.2) (y.s.1, y.s.2) = false from sgB_no hsg]; rfl
          have HT := Lib.hid (HN2.out (fun h => hsg (by rw [h])))
          clear hsg hqe HS HN1 HN2
          go_wp2_with fail
          go_quiet (fail)
          go_wp2_with fail
          go_ret
          exact ⟨by rw [HT.out]; rfl, below_drewN HSS.out.below _⟩
      · have hke : k = l.length := by omega
        have HN : Hid (decide (l = m) = true) := Lib.hid (by
          rw [hke, List.take_length, HLEN.out, List.take_length] at htk
          exact decide_eq_true htk)
        have HSS := Lib.hid hs
        clear htk hs
        go_wp2_with fail
        go_ret
        exact ⟨by rw [HN.out]; rfl, HSS.out.below⟩
  · have hn : ((l.length : Int) != (m.length : Int)) = true := by simp only [bne_iff_ne, ne_eq]; omega
    have HN : Hid (decide (l = m) = false) := Lib.hid (decide_eq_false (fun h => hlen (by rw [h])))
    clear hlen
    go_enter Try.func14, Try.ntmps14
    go_wp2_with fail
    go_ret
    exact ⟨by rw [HN.out]; rfl, HA.out.below⟩
end Go.Proofs.Ytfdhaodgnenhcaa.Jk

/-
  Layer 15 (prepared): the document's SameSigns, SameProof.
-/
namespace Go.Proofs.Ytfdhaodgnenhcaa.Prc
set_option linter.unusedSimpArgs false
open Go Go.RowKit Cm Ck Kw Ga Kf Pm Pe Pg Ph Qb Lk Ld Jm Ja Jb Jk Pra Prb
attribute [local go_sem ↓] Go.wp_at_zero Go.wp_at_succ
set_option linter.unusedVariables false
set_option maxRecDepth 100000

/-- Two lists of signatures stand there. -/
structure T2 (w0 : World) (X Y : Nat → Prop) (va vb : Value) (l m : List (Int × Int)) (W : World) : Prop where
  below : Below w0.heap.size w0 W
  one : SS W X va l
  two : SS W Y vb m
theorem T2.later {w0 W W' : World} {X Y : Nat → Prop} {va vb : Value} {l m : List (Int × Int)} (h : T2 w0 X Y va vb l m W) (b : Below W.heap.size W W') : T2 w0 X Y va vb l m W' := ⟨h.below.trans (b.mono h.below.size), h.one.after b, h.two.after b⟩
theorem SS.shape {w : World} {X : Nat → Prop} {v : Value} {l : List (Int × Int)} (h : SS w X v l) : ∃ A c, v = .slice A l.length c := by
  obtain ⟨A, c, rfl, _⟩ := h
  exact ⟨A, c, rfl⟩
end Go.Proofs.Ytfdhaodgnenhcaa.Prc

/-
  Layer 15 (prepared): the document's Held: Get, SameAll.
-/
namespace Go.Proofs.Ytfdhaodgnenhcaa.Prd
set_option linter.unusedSimpArgs false
open Go Go.RowKit Cm Ck Kw Ga Kf Pm Pe Pg Ph Qb Lk Ld Jm Ja Jb Jk Pra Prb Prc
attribute [local go_sem ↓] Go.wp_at_zero Go.wp_at_succ
set_option linter.unusedVariables false
set_option maxRecDepth 100000

/-- Two lists of certificates stand there. -/
structure U2 (w0 : World) (X Y : Nat → Prop) (va vb : Value) (l m : List Pd) (W : World) : Prop where
  below : Below w0.heap.size w0 W
  one : PL W X va l
  two : PL W Y vb m
theorem U2.later {w0 W W' : World} {X Y : Nat → Prop} {va vb : Value} {l m : List Pd} (h : U2 w0 X Y va vb l m W) (b : Below W.heap.size W W') : U2 w0 X Y va vb l m W' := ⟨h.below.trans (b.mono h.below.size), h.one.after b, h.two.after b⟩
end Go.Proofs.Ytfdhaodgnenhcaa.Prd

/-
  Layer 15 (prepared): whether certificates may stand in a change, the document's.
-/
namespace Go.Proofs.Ytfdhaodgnenhcaa.Prr
set_option linter.unusedSimpArgs false
open Go Go.RowKit Ck Kw Ga Kf Pm Pe Pg Ph Qb Ik Lk Ld Jm Ja Jb Jc Jd Jk Pra Prb Prc Prd Prh Pri Prj Prk Prl Prm
open Im (num isIn)
attribute [local go_sem ↓] Go.wp_at_zero Go.wp_at_succ
set_option linter.unusedVariables false
set_option maxRecDepth 100000

/-- A certificate's lists are of a size that a machine may have. -/
def okP (x : Pd) : Prop := (∀ y ∈ x.batch, y.q.o.recs.length ≤ 140737488355328) ∧ x.batch.length ≤ 140737488355328 ∧ x.signs.length ≤ 140737488355328
end Go.Proofs.Ytfdhaodgnenhcaa.Prr

/-
  Layer 15 (prepared): a vote is signed (layer 11, the document's).
-/
namespace Go.Proofs.Ytfdhaodgnenhcaa.Prv
set_option linter.unusedSimpArgs false
open Go Go.RowKit Ck Kw Ga Ik Lk Ld Jf Pra Prh Pri Prj Prk Prl Prm
open Im (num isIn add sum)
attribute [local go_sem ↓] Go.wp_at_zero Go.wp_at_succ
set_option linter.unusedVariables false
set_option maxRecDepth 100000

def voteS (L : List (List UInt8)) (key : Int) (b : List UInt8) : Sg := (key, (sum L b : Int))
def vsG (L : List (List UInt8)) (G : List Sg) (key : Int) (b : List UInt8) : List Sg := if sum L b = 0 then G else pay G (voteS L key b)
def vsR (L : List (List UInt8)) (key : Int) (b : List UInt8) : Sg × Int := if sum L b = 0 then ((0, 0), 6) else (ans (voteS L key b), code (voteS L key b))
end Go.Proofs.Ytfdhaodgnenhcaa.Prv

/-
  Layer 15 (prepared): a vote's signature (layer 11, the document's Vote).
-/
namespace Go.Proofs.Ytfdhaodgnenhcaa.Prw
set_option linter.unusedSimpArgs false
open Go Go.RowKit Ck Kw Ga Ik Lk Ld Jf Pra Prh Pri Prj Prk Prl Prm Prv
open Im (num isIn add sum)
attribute [local go_sem ↓] Go.wp_at_zero Go.wp_at_succ
set_option linter.unusedVariables false
set_option maxRecDepth 100000

/-- A vote: key, kind, view, number, digest. -/
structure Vt where
  key : Int
  kind : Int
  view : Int
  seq : Int
def vB (x : Vt) (d : Int) : List UInt8 := voteB x.kind.toNat x.view.toNat x.seq.toNat d.toNat
def vMay (x : Vt) (d : Int) : Bool := mayP x.kind x.view x.seq d
def vT (L : List (List UInt8)) (x : Vt) (d : Int) : List (List UInt8) := if vMay x d then add L (vB x d) else L
def vG (L : List (List UInt8)) (G : List Sg) (x : Vt) (d : Int) : List Sg := if vMay x d then vsG L G x.key (vB x d) else G
def vR (L : List (List UInt8)) (x : Vt) (d : Int) : Sg × Int := if vMay x d then vsR L x.key (vB x d) else ((0, 0), 1)
end Go.Proofs.Ytfdhaodgnenhcaa.Prw

/-
  Layer 8: opening requests, signatures, signed requests, batches and lists of requests under the form's own reach.
-/
namespace Go.Proofs.Ytfdhaodgnenhcaa.Jo
set_option linter.unusedSimpArgs false
open Go Go.RowKit Go.ChangeShapes Go.WideShapes Go.ChangeAt Go.Deep Ck Kf Kp Pm Pe Py Lk Jm Ja Jb
set_option linter.unusedVariables false
set_option maxRecDepth 100000

section
variable {H : Type} {enc : TypeId × Value → H}
theorem cells_req : Try.prog.cellsOf 69 = 7 := by kernel_rfl
theorem cells_sgn : Try.prog.cellsOf 39 = 2 := by kernel_rfl
theorem cells_dig : Try.prog.cellsOf 23 = 1 := by kernel_rfl
theorem cells_sd : Try.prog.cellsOf 71 = 9 := by kernel_rfl
theorem bytes_sd : Try.prog.bytesOf 71 = 104 := by kernel_rfl
def wfQ (q : Q) : Prop := (-9223372036854775808 ≤ q.client ∧ q.client ≤ 9223372036854775807) ∧ (-9223372036854775808 ≤ q.time ∧ q.time ≤ 9223372036854775807)
theorem open_q {w : World} {base : Nat} {fuel : Nat} {cs : List Value} {x : DataW H × List MemPlace} (h : DataW.trod enc Try.prog w base (fun _ => true) true fuel 69 cs = some x) :
    ∃ (q : Q) (A : Option Addr) (c : Nat), cs = (QC q A c).toList ∧ Ls w (fun k => w.heap.size ≤ k) (.slice A q.o.recs.length c) q.o.recs
      ∧ wfQ q ∧ ∀ R, (∀ n ∈ x.1.weights Try.prog 69, n ≤ R) → far q.o R := by
  obtain ⟨xs, n', _, hx, hl, hxl, hf⟩ := DataW.trod_struct Try.underlying69 h
  rw [cells_req] at hl
  have hxl' : xs.length = 3 := hxl
  match cs, hl with
  | [v0, v1, v2, v3, v4, v5, v6], _ =>
    have f0 : DataW.trod enc Try.prog w base (fun _ => true) true n' 3 (([v0, v1, v2, v3, v4, v5, v6].drop 0).take (Try.prog.cellsOf 3)) = xs[0]? := hf 0 _ rfl
    have f1 : DataW.trod enc Try.prog w base (fun _ => true) true n' 2 (([v0, v1, v2, v3, v4, v5, v6].drop 1).take (Try.prog.cellsOf 2)) = xs[1]? := hf 1 _ rfl
    have f2 : DataW.trod enc Try.prog w base (fun _ => true) true n' 67 (([v0, v1, v2, v3, v4, v5, v6].drop 2).take (Try.prog.cellsOf 67)) = xs[2]? := hf 2 _ rfl
    rw [Py.cells_int] at f0
    rw [Py.cells_i64] at f1
    rw [Py.cells_op] at f2
    simp only [List.drop_zero, List.drop_succ_cons, List.take_succ_cons, List.take_zero] at f0 f1 f2
    obtain ⟨z0, e0, w0⟩ := one_int Try.underlying3 (by omega) f0
    obtain ⟨z1, e1, w1⟩ := one_int Try.underlying2 (by omega) f1
    rw [List.getElem?_eq_getElem (by omega)] at f2
    obtain ⟨o, A, c, e2, hls, _, hfar⟩ := open_op f2
    have b0 : -9223372036854775808 ≤ z0 ∧ z0 ≤ 9223372036854775807 := by simpa [Lit.wf, IntKind.min, IntKind.max, IntKind.signed, IntKind.bits] using w0
    have b1 : -9223372036854775808 ≤ z1 ∧ z1 ≤ 9223372036854775807 := by simpa [Lit.wf, IntKind.min, IntKind.max, IntKind.signed, IntKind.bits] using w1
    simp only [List.cons.injEq, and_true] at e0 e1 e2
    obtain ⟨rfl, rfl, rfl, rfl, rfl⟩ := e2
    refine ⟨⟨z0, z1, o⟩, A, c, by rw [e0, e1]; rfl, hls, ⟨b0, b1⟩, fun R hR => hfar R fun n hn => ?_⟩
    refine hR n ?_
    rw [hx]
    simp only [DataW.weights, Try.underlying69]
    exact DataW.weights_mem_each (ts := [3, 2, 67]) (j := 2) (t := 67) rfl (by simp [List.getElem?_eq_getElem (show 2 < xs.length by omega)]) n hn
theorem open_sg {w : World} {base : Nat} {sp : Nat → Bool} {held : Bool} {n : Nat} {cs : List Value} {x : DataW H × List MemPlace} (h : DataW.trod enc Try.prog w base sp held n 39 cs = some x) :
    ∃ s : Sg, cs = [.int .i64 s.1, .int .i64 s.2] ∧ wfS s := by
  obtain ⟨xs, n', _, _, hl, hxl, hf⟩ := DataW.trod_struct Try.underlying39 h
  rw [cells_sgn] at hl
  have hxl' : xs.length = 2 := hxl
  match cs, hl with
  | [v0, v1], _ =>
    have f0 : DataW.trod enc Try.prog w base sp held n' 3 (([v0, v1].drop 0).take (Try.prog.cellsOf 3)) = xs[0]? := hf 0 _ rfl
    have f1 : DataW.trod enc Try.prog w base sp held n' 23 (([v0, v1].drop 1).take (Try.prog.cellsOf 23)) = xs[1]? := hf 1 _ rfl
    rw [Py.cells_int] at f0
    rw [cells_dig] at f1
    simp only [List.drop_zero, List.drop_succ_cons, List.take_succ_cons, List.take_zero] at f0 f1
    obtain ⟨z0, e0, w0⟩ := one_int Try.underlying3 (by omega) f0
    obtain ⟨z1, e1, w1⟩ := one_int Try.underlying23 (by omega) f1
    have b0 : -9223372036854775808 ≤ z0 ∧ z0 ≤ 9223372036854775807 := by simpa [Lit.wf, IntKind.min, IntKind.max, IntKind.signed, IntKind.bits] using w0
    have b1 : -9223372036854775808 ≤ z1 ∧ z1 ≤ 9223372036854775807 := by simpa [Lit.wf, IntKind.min, IntKind.max, IntKind.signed, IntKind.bits] using w1
    simp only [List.cons.injEq, and_true] at e0 e1
    exact ⟨(z0, z1), by rw [e0, e1], b0.1, b0.2, b1.1, b1.2⟩
theorem open_sd {w : World} {base : Nat} {fuel : Nat} {cs : List Value} {x : DataW H × List MemPlace} (h : DataW.trod enc Try.prog w base (fun _ => true) true fuel 71 cs = some x) :
    ∃ (d : Sd) (A : Option Addr) (c : Nat), cs = (DC d A c).toList ∧ Ls w (fun k => w.heap.size ≤ k) (.slice A d.q.o.recs.length c) d.q.o.recs
      ∧ wfS d.s ∧ wfQ d.q ∧ ∀ R, (∀ n ∈ x.1.weights Try.prog 71, n ≤ R) → far d.q.o R := by
  obtain ⟨xs, n', _, hx, hl, hxl, hf⟩ := DataW.trod_struct Try.underlying71 h
  rw [cells_sd] at hl
  have hxl' : xs.length = 2 := hxl
  match cs, hl with
  | [v0, v1, v2, v3, v4, v5, v6, v7, v8], _ =>
    have f0 : DataW.trod enc Try.prog w base (fun _ => true) true n' 69 (([v0, v1, v2, v3, v4, v5, v6, v7, v8].drop 0).take (Try.prog.cellsOf 69)) = xs[0]? := hf 0 _ rfl
    have f1 : DataW.trod enc Try.prog w base (fun _ => true) true n' 39 (([v0, v1, v2, v3, v4, v5, v6, v7, v8].drop 7).take (Try.prog.cellsOf 39)) = xs[1]? := hf 1 _ rfl
    rw [cells_req] at f0
    rw [cells_sgn] at f1
    simp only [List.drop_zero, List.drop_succ_cons, List.take_succ_cons, List.take_zero] at f0 f1
    rw [List.getElem?_eq_getElem (by omega)] at f0 f1
    obtain ⟨q, A, c, e0, hls, hwq, hfar⟩ := open_q f0
    obtain ⟨s, e1, hws⟩ := open_sg f1
    simp only [QC, List.cons.injEq, and_true] at e0 e1
    obtain ⟨rfl, rfl, rfl, rfl, rfl, rfl, rfl⟩ := e0
    obtain ⟨rfl, rfl⟩ := e1
    refine ⟨⟨q, s⟩, A, c, rfl, hls, hws, hwq, fun R hR => hfar R fun n hn => ?_⟩
    refine hR n ?_
    rw [hx]
    simp only [DataW.weights, Try.underlying71]
    exact DataW.weights_mem_each (ts := [69, 39]) (j := 0) (t := 69) rfl (by simp [List.getElem?_eq_getElem (show 0 < xs.length by omega)]) n hn
theorem open_batch {w : World} {fuel : Nat} {base : Nat} {v : Value} {x : DataW H × List MemPlace} (h : DataW.trod enc Try.prog w base (fun _ => true) true fuel 41 [v] = some x) (hR : ∀ n ∈ x.1.weights Try.prog 41, n ≤ 140737488351232) :
    ∃ (l : List Sd), BI w (fun k => w.heap.size ≤ k) v l ∧ l.length * 104 ≤ 140737488351232 ∧ ∀ y ∈ l, far y.q.o 140737488351232 ∧ wfS y.s := by
  rcases open_slice Try.underlying41 h with ⟨hcs, rfl⟩ | ⟨a, len, cap, m, n, D, Pl, hcs, _, hl, hm, hmm, rfl, hx⟩
  · obtain rfl : v = .slice none 0 0 := by simpa using hcs
    exact ⟨[], bi_nil _ _, by simp, fun y hy => absurd hy (by simp)⟩
  · obtain rfl : v = .slice (some a) len cap := by simpa using hcs
    simp only [if_true] at hmm
    have each : ∀ i, ∃ r : Sd × (Option Addr × Nat), i < len → (∀ j u, (DC r.1 r.2.1 r.2.2).toList[j]? = some u → w.cell? (a.add (i * 9 + j)) = some u) ∧ Ls w (fun k => w.heap.size ≤ k) (.slice r.2.1 r.1.q.o.recs.length r.2.2) r.1.q.o.recs ∧ far r.1.q.o 140737488351232 ∧ wfS r.1.s := by
      intro i
      by_cases hi : i < len
      · obtain ⟨cs', hc, ht⟩ := hx i (by omega)
        obtain ⟨d, Ar, cr, rfl, hb, hws, _, hr⟩ := open_sd ht
        rw [cells_sd] at hc
        obtain ⟨_, _, hcell⟩ := World.cells?_some hc
        have hw := hr 140737488351232 (fun n hn => hR n (by
          simp only [DataW.weights, Try.underlying41, List.mem_cons, List.mem_append]
          exact .inr (.inl (all_mem hn (List.mem_map.2 ⟨i, by simpa using hi, rfl⟩)))))
        refine ⟨(d, (Ar, cr)), fun _ => ⟨fun j u hu => ?_, hb, hw, hws⟩⟩
        have hj : j < 9 := (List.getElem?_eq_some_iff.1 hu).1
        have h1 := hcell j hj
        rw [Ck.add_add] at h1
        rw [h1, ← hu, List.getElem?_eq_getElem (show j < (DC d Ar cr).toList.length from hj)]
      · exact ⟨(Sd.zero, (none, 0)), fun h => absurd h hi⟩
    obtain ⟨f, hf⟩ := Classical.axiomOfChoice each
    have hlen : ((List.range len).map fun i => (f i).1).length = len := by simp
    have hrl : ((List.range len).map fun i => (f i).2).length = ((List.range len).map fun i => (f i).1).length := by simp
    refine ⟨(List.range len).map fun i => (f i).1, ⟨(List.range len).map fun i => (f i).2, hrl, ?_, fun i hi => ?_⟩, ?_, fun y hy => ?_⟩
    · refine ⟨some a, cap, by rw [hlen], by rw [flat_length hrl], by rw [hlen]; exact hl, hm, fun hn => ?_⟩
      rw [hlen] at hn
      have h0 := (hf 0 hn).1 0 _ rfl
      refine ⟨a, rfl, by have := World.block_lt_of_cell? w _ h0; rw [Ck.add_block] at this; exact this, by have := World.block_lt_of_cell? w _ h0; rw [Ck.add_block] at this; omega, fun j u hu => ?_⟩
      have hj : j < len * 9 := by
        have := (List.getElem?_eq_some_iff.1 hu).1
        rw [flat_length hrl, hlen] at this
        exact this
      have hi : j / 9 < len := by omega
      have hz : j / 9 < (((List.range len).map fun i => (f i).1).zip ((List.range len).map fun i => (f i).2)).length := by rw [zip_len hrl, hlen]; exact hi
      have hg := flat_get DC_len (((List.range len).map fun i => (f i).1).zip ((List.range len).map fun i => (f i).2)) (j / 9) hz (j % 9) (by omega)
      rw [show j / 9 * 9 + j % 9 = j by omega] at hg
      rw [flat, hg] at hu
      have := (hf (j / 9) hi).1 (j % 9) u (by
        rw [← hu]
        congr 1
        simp)
      rwa [show j / 9 * 9 + j % 9 = j by omega] at this
    · have hi' : i < len := by simpa using hi
      refine ⟨(f i).2, by simp [hi'], ?_⟩
      have := (hf i hi').2.1
      simpa using this
    · have := hR _ (by simp only [DataW.weights, Try.underlying41]; exact List.mem_cons_self)
      rw [bytes_sd] at this
      simp only [List.length_map, List.length_range] at this ⊢
      omega
    · obtain ⟨i, hi, rfl⟩ := List.mem_map.1 hy
      have hi' : i < len := by simpa using hi
      exact (hf i hi').2.2
end
end Go.Proofs.Ytfdhaodgnenhcaa.Jo

/-
  Layer 8 (request): lists of requests in memory, opened; the contract of Digest.
-/
namespace Go.Proofs.Ytfdhaodgnenhcaa.Jl
set_option linter.unusedSimpArgs false
open Go Go.RowKit Go.ChangeShapes Go.WideShapes Go.ChangeAt Go.Deep Ck Kf Kw Ga Kp Pm Pe Py Qb Ik Lk Ld Jm Ja Jb Jc Jd Jf Jg Jh Jn Jo
open Im (num isIn add sum)
attribute [local go_sem ↓] Go.wp_at_zero Go.wp_at_succ
set_option linter.unusedVariables false
set_option maxRecDepth 100000

theorem QC_len (p : Q × (Option Addr × Nat)) : ((QC p.1 p.2.1 p.2.2).toList).length = 7 := rfl
def flatQ (l : List Q) (rs : List (Option Addr × Nat)) : List Value := (l.zip rs).flatMap fun p => (QC p.1 p.2.1 p.2.2).toList
theorem zipQ_len {l : List Q} {rs : List (Option Addr × Nat)} (h : rs.length = l.length) : (l.zip rs).length = l.length := by rw [List.length_zip]; omega
/-- The value v is the requests l; all of it lies in no block of X. -/
def RI (w : World) (X : Nat → Prop) (v : Value) (l : List Q) : Prop :=
  ∃ rs, rs.length = l.length ∧ Sl w X 7 v l.length (flatQ l rs) ∧ ∀ i (h : i < l.length), ∃ r, rs[i]? = some r ∧ Ls w X (.slice r.1 l[i].o.recs.length r.2) l[i].o.recs
section
variable {w w' : World} {X Y S : Nat → Prop} {v : Value} {l : List Q}
theorem RI.after (h : RI w X v l) (hb : Below w.heap.size w w') : RI w' X v l := by
  obtain ⟨rs, h1, h2, h3⟩ := h
  exact ⟨rs, h1, h2.after hb, fun i hi => by obtain ⟨r, h4, h5⟩ := h3 i hi; exact ⟨r, h4, h5.after hb⟩⟩
theorem RI.ch (h : RI w X v l) (c : Ch S w w') (hd : ∀ k, k < w.heap.size → S k → X k) : RI w' X v l := by
  obtain ⟨rs, h1, h2, h3⟩ := h
  exact ⟨rs, h1, h2.ch c hd, fun i hi => by obtain ⟨r, h4, h5⟩ := h3 i hi; exact ⟨r, h4, h5.ch c hd⟩⟩
theorem RI.shape (h : RI w X v l) : ∃ A c, v = .slice A l.length c ∧ l.length ≤ c := by
  obtain ⟨rs, h1, ⟨A, c, rfl, _, hc, _⟩, h3⟩ := h
  exact ⟨A, c, rfl, hc⟩
def At7 (w : World) (ad : Addr) (q : Q) (Ar : Option Addr) (cr : Nat) : Prop :=
  w.cell? ad = some (.int .i64 q.client) ∧ w.cell? ⟨ad.block, ad.off + 1, none⟩ = some (.int .i64 q.time) ∧ w.cell? ⟨ad.block, ad.off + 2, none⟩ = some (.int .i64 q.o.kind) ∧ w.cell? ⟨ad.block, ad.off + 3, none⟩ = some (.string ⟨q.o.topic.toArray⟩)
    ∧ w.cell? ⟨ad.block, ad.off + 4, none⟩ = some (.string ⟨q.o.group.toArray⟩) ∧ w.cell? ⟨ad.block, ad.off + 5, none⟩ = some (.int .i64 q.o.off) ∧ w.cell? ⟨ad.block, ad.off + 6, none⟩ = some (.slice Ar q.o.recs.length cr)
theorem RI.at_ {A : Option Addr} {n c i : Nat} (h : RI w X (.slice A n c) l) (hi : i < l.length) :
    ∃ ad Ar cr, A = some ad ∧ At7 w (ad.add (i * 7)) l[i] Ar cr ∧ Ls w X (.slice Ar l[i].o.recs.length cr) l[i].o.recs := by
  obtain ⟨rs, h1, ⟨A', c', hv, hl, hc, hm, hx⟩, h3⟩ := h
  injection hv with e1 e2 e3
  subst e1
  obtain ⟨⟨Ar, cr⟩, h4, h5⟩ := h3 i hi
  obtain ⟨ad, hA, hb, hX, hcell⟩ := hx (by omega)
  refine ⟨ad, Ar, cr, hA, ?_, h5⟩
  have hz : i < (l.zip rs).length := by rw [zipQ_len h1]; exact hi
  have hr : i < rs.length := by omega
  have he : (l.zip rs)[i] = (l[i], (Ar, cr)) := by
    rw [List.getElem_zip]
    have : rs[i] = (Ar, cr) := by have := List.getElem?_eq_getElem hr; rw [this] at h4; exact Option.some.inj h4
    rw [this]
  have hg : ∀ j, j < 7 → (flatQ l rs)[i * 7 + j]? = ((QC l[i] Ar cr).toList)[j]? := fun j hj => by
    rw [flatQ, flat_get QC_len _ _ hz j hj, he]
  have hof : ∀ j u, j < 7 → ((QC l[i] Ar cr).toList)[j]? = some u → w.cell? ((ad.add (i * 7)).add j) = some u := fun j u hj hu => by
    rw [Ck.add_add]
    exact hcell _ _ (by rw [hg j hj]; exact hu)
  generalize ad.add (i * 7) = a at hof ⊢
  have ha : ∀ j, 0 < j → a.add j = ⟨a.block, a.off + j, none⟩ := fun j hj => by unfold Addr.add; rw [if_neg (by omega)]
  have h0 : a.add 0 = a := by unfold Addr.add; rw [if_pos rfl]
  refine ⟨?_, ?_, ?_, ?_, ?_, ?_, ?_⟩
  · have := hof 0 _ (by omega) rfl; rwa [h0] at this
  · have := hof 1 _ (by omega) rfl; rwa [ha _ (by omega)] at this
  · have := hof 2 _ (by omega) rfl; rwa [ha _ (by omega)] at this
  · have := hof 3 _ (by omega) rfl; rwa [ha _ (by omega)] at this
  · have := hof 4 _ (by omega) rfl; rwa [ha _ (by omega)] at this
  · have := hof 5 _ (by omega) rfl; rwa [ha _ (by omega)] at this
  · have := hof 6 _ (by omega) rfl; rwa [ha _ (by omega)] at this
end
section
variable {H : Type} {enc : TypeId × Value → H}
end

end Go.Proofs.Ytfdhaodgnenhcaa.Jl

/-
  Many things side by side in memory, told apart by a hue of each block (0: nobody turns it).
-/
namespace Go.Proofs.Ytfdhaodgnenhcaa.Prx
set_option linter.unusedSimpArgs false
open Go Go.RowKit Ck Kw Ga Kf Pm Pe Pg Ik Lk Jm Ja Jb Jc Jd Jf Jl
set_option linter.unusedVariables false

/-- The blocks that were made have this hue. -/
def paint (c : Nat → Nat) (i a b : Nat) (k : Nat) : Nat := if a ≤ k ∧ k < b then i else c k
theorem paint_old {c : Nat → Nat} {i a b k : Nat} (h : k < a) : paint c i a b k = c k := by
  unfold paint
  rw [if_neg (by omega)]
theorem paint_new {c : Nat → Nat} {i a b k : Nat} (h : a ≤ k) (h' : k < b) : paint c i a b k = i := by
  unfold paint
  rw [if_pos ⟨h, h'⟩]
/-- No hue beyond what is there. -/
def Hue (W : World) (c : Nat → Nat) : Prop := ∀ k, W.heap.size ≤ k → c k = 0
theorem Hue.paint {W W' : World} {c : Nat → Nat} (i : Nat) (h : Hue W c) (hs : W.heap.size ≤ W'.heap.size) : Hue W' (paint c i W.heap.size W'.heap.size) := fun k hk => by
  unfold Prx.paint
  rw [if_neg (by omega)]
  exact h k (by omega)
theorem Hue.later {W W' : World} {c : Nat → Nat} (h : Hue W c) (hs : W.heap.size ≤ W'.heap.size) : Hue W' c := fun k hk => h k (by omega)
/-- c' is as c was on all that was there. -/
def Ag (W : World) (c c' : Nat → Nat) : Prop := ∀ k, k < W.heap.size → c' k = c k
theorem Ag.refl (W : World) (c : Nat → Nat) : Ag W c c := fun _ _ => rfl
section
variable {W W' : World} {c c' : Nat → Nat} {i j : Nat}
/-- A row of one's own, of one hue. -/
def Row (W : World) (c : Nat → Nat) (j B : Nat) (e : TypeId) (size : Nat) (v : Value) (n : Nat) (xs : List Value) : Prop := W.ownsRow B e size v n xs ∧ ∀ k, v.ownBlock = some k → c k = j
theorem Row.nil (W : World) (c : Nat → Nat) (j B : Nat) (e : TypeId) (size : Nat) : Row W c j B e size (.slice none 0 0) 0 [] := ⟨World.ownsRow_nil _ _ _ _, fun k hk => by simp [Value.ownBlock] at hk⟩
theorem Row.turn {B : Nat} {e : TypeId} {size n : Nat} {v : Value} {xs : List Value} (h : Row W c j B e size v n xs) (cc : Ch (fun k => c k = i) W W') (hi : i ≠ j) (ag : Ag W c c') : Row W' c' j B e size v n xs :=
  ⟨own_ch h.1 cc (fun k hk hx => hi (hx.symm.trans (h.2 k hk))), fun k hk => (ag k (h.1.lt k hk).2).trans (h.2 k hk)⟩
theorem Row.put {B : Nat} {e : TypeId} {size n : Nat} {v v' : Value} {xs ys : List Value} (h : Row W c j B e size v n xs) {m : Nat} (ha : Appended W B e size v m ys v' W') : Row W' (paint c j W.heap.size W'.heap.size) j B e size v' m ys ∧ Ch (fun k => c k = j) W W' := by
  refine ⟨⟨ha.1, fun k hk => ?_⟩, Ch.of_grown ha.2.1 (fun k hk _ => h.2 k hk)⟩
  have hlt := ha.1.lt k hk
  rcases ha.2.2 with q | q
  · rw [q] at hk
    exact (paint_old (h.1.lt k hk).2).trans (h.2 k hk)
  · rw [q] at hk
    injection hk with hk
    exact paint_new (by omega) hlt.2
theorem ls_old {w : World} {X : Nat → Prop} {v : Value} {ls : List (List UInt8)} (h : Ls w X v ls) {B : Nat} (hB : w.heap.size ≤ B) : Ls w (fun k => X k ∨ B ≤ k) v ls := by
  obtain ⟨vals, a, b⟩ := h
  exact ⟨vals, a.old hB, fun i hi => by obtain ⟨u, hu, h⟩ := b i hi; exact ⟨u, hu, h.old hB⟩⟩
theorem batch_old {w : World} {X : Nat → Prop} {v : Value} {l : List Sd} (h : BI w X v l) {B : Nat} (hB : w.heap.size ≤ B) : BI w (fun k => X k ∨ B ≤ k) v l := by
  obtain ⟨rs, h1, h2, h3⟩ := h
  exact ⟨rs, h1, h2.old hB, fun i hi => by obtain ⟨r, h4, h5⟩ := h3 i hi; exact ⟨r, h4, ls_old h5 hB⟩⟩
theorem ls_hue {v : Value} {ls : List (List UInt8)} (h : Ls W (fun k => c k ≠ 0) v ls) (cc : Ch (fun k => c k = i) W W') (hi : i ≠ 0) (ag : Ag W c c') : Ls W' (fun k => c' k ≠ 0) v ls :=
  ((ls_old h (Nat.le_refl _)).ch cc (fun k _ hk => .inl (by rw [hk]; exact hi))).weaken (fun k _ hk => by
    by_cases hl : k < W.heap.size
    · exact .inl (by rw [← ag k hl]; exact hk)
    · exact .inr (by omega))
theorem batch_hue {v : Value} {l : List Sd} (h : BI W (fun k => c k ≠ 0) v l) (cc : Ch (fun k => c k = i) W W') (hi : i ≠ 0) (ag : Ag W c c') : BI W' (fun k => c' k ≠ 0) v l :=
  ((batch_old h (Nat.le_refl _)).ch cc (fun k _ hk => .inl (by rw [hk]; exact hi))).weaken (fun k _ hk => by
    by_cases hl : k < W.heap.size
    · exact .inl (by rw [← ag k hl]; exact hk)
    · exact .inr (by omega))
end
/-- Batches that lie where nobody turns anything. -/
def Bs (W : World) (c : Nat → Nat) (vals : List Value) (bs : List (List Sd)) : Prop := vals.length = bs.length ∧ ∀ i (h : i < bs.length), ∃ u, vals[i]? = some u ∧ BI W (fun k => c k ≠ 0) u bs[i]
theorem Bs.nil (W : World) (c : Nat → Nat) : Bs W c [] [] := ⟨rfl, fun i h => absurd h (by simp)⟩
theorem Bs.turn {W W' : World} {c c' : Nat → Nat} {i : Nat} {vals : List Value} {bs : List (List Sd)} (h : Bs W c vals bs) (cc : Ch (fun k => c k = i) W W') (hi : i ≠ 0) (ag : Ag W c c') : Bs W' c' vals bs :=
  ⟨h.1, fun k hk => by obtain ⟨u, h1, h2⟩ := h.2 k hk; exact ⟨u, h1, batch_hue h2 cc hi ag⟩⟩
theorem Bs.snoc {W : World} {c : Nat → Nat} {vals : List Value} {bs : List (List Sd)} {u : Value} {b : List Sd} (h : Bs W c vals bs) (hu : BI W (fun k => c k ≠ 0) u b) : Bs W c (vals ++ [u]) (bs ++ [b]) := by
  refine ⟨by simp [h.1], fun i hi => ?_⟩
  rw [List.length_append, List.length_singleton] at hi
  by_cases hl : i < bs.length
  · obtain ⟨u', h1, h2⟩ := h.2 i hl
    refine ⟨u', by rw [List.getElem?_append_left (by rw [h.1]; exact hl)]; exact h1, ?_⟩
    rw [List.getElem_append_left hl]
    exact h2
  · have he : i = bs.length := by omega
    subst he
    refine ⟨u, by rw [List.getElem?_append_right (by rw [h.1]; omega), h.1]; simp, ?_⟩
    simpa using hu
/-- Signed requests whose records lie where nobody turns anything. -/
def Ds (W : World) (c : Nat → Nat) (rs : List (Option Addr × Nat)) (R : List Sd) : Prop := rs.length = R.length ∧ ∀ i (h : i < R.length), ∃ r, rs[i]? = some r ∧ Ls W (fun k => c k ≠ 0) (.slice r.1 R[i].q.o.recs.length r.2) R[i].q.o.recs
theorem Ds.nil (W : World) (c : Nat → Nat) : Ds W c [] [] := ⟨rfl, fun i h => absurd h (by simp)⟩
theorem Ds.turn {W W' : World} {c c' : Nat → Nat} {i : Nat} {rs : List (Option Addr × Nat)} {R : List Sd} (h : Ds W c rs R) (cc : Ch (fun k => c k = i) W W') (hi : i ≠ 0) (ag : Ag W c c') : Ds W' c' rs R :=
  ⟨h.1, fun k hk => by obtain ⟨u, h1, h2⟩ := h.2 k hk; exact ⟨u, h1, ls_hue h2 cc hi ag⟩⟩
theorem Ds.snoc {W : World} {c : Nat → Nat} {rs : List (Option Addr × Nat)} {R : List Sd} {A : Option Addr} {n : Nat} {d : Sd} (h : Ds W c rs R) (hu : Ls W (fun k => c k ≠ 0) (.slice A d.q.o.recs.length n) d.q.o.recs) : Ds W c (rs ++ [(A, n)]) (R ++ [d]) := by
  refine ⟨by simp [h.1], fun i hi => ?_⟩
  rw [List.length_append, List.length_singleton] at hi
  by_cases hl : i < R.length
  · obtain ⟨u', h1, h2⟩ := h.2 i hl
    refine ⟨u', by rw [List.getElem?_append_left (by rw [h.1]; exact hl)]; exact h1, ?_⟩
    rw [List.getElem_append_left hl]
    exact h2
  · have he : i = R.length := by omega
    subst he
    refine ⟨(A, n), by rw [List.getElem?_append_right (by rw [h.1]; omega), h.1]; simp, ?_⟩
    simpa using hu
/-- A row that nobody turns any more: its hue is taken off. -/
def off (c : Nat → Nat) (j : Nat) (k : Nat) : Nat := if c k = j then 0 else c k
theorem off_ne {c : Nat → Nat} {j k : Nat} (h : off c j k ≠ 0) : c k ≠ 0 ∧ c k ≠ j := by
  unfold off at h
  split at h
  · exact absurd rfl h
  · exact ⟨h, by assumption⟩
theorem Ds.bi {W : World} {c : Nat → Nat} {j B : Nat} {e : TypeId} {v : Value} {rs : List (Option Addr × Nat)} {R : List Sd} (h : Ds W c rs R) (hr : Row W c j B e 9 v R.length (flat R rs)) : BI W (fun k => off c j k ≠ 0) v R :=
  ⟨rs, h.1, Sl.of_own' hr.1 (fun k hk hx => (off_ne hx).2 (hr.2 k hk)), fun i hi => by
    obtain ⟨r, h4, h5⟩ := h.2 i hi
    exact ⟨r, h4, h5.weaken (fun k _ hk => (off_ne hk).1)⟩⟩
end Go.Proofs.Ytfdhaodgnenhcaa.Prx

/-
  Layer 15 (prepared): where the law's begun stands: tables, ledgers, batches, digests, signatures.
-/
namespace Go.Proofs.Ytfdhaodgnenhcaa.Pry
set_option linter.unusedSimpArgs false
open Go Go.RowKit Ck Kw Ga Kf Pm Pe Pg Ik Lk Jm Ja Jb Jc Jd Jf Jg Jl Jn Prv Prw Prx
set_option linter.unusedVariables false

/-- A stage's seven cells. -/
def SB (p g p' g' : Nat) (vb vd vs : Value) : Array Value := #[.pointer (some ⟨p, 0, none⟩), .pointer (some ⟨g, 0, none⟩), .pointer (some ⟨p', 0, none⟩), .pointer (some ⟨g', 0, none⟩), vb, vd, vs]
section
variable {B : Nat} {w0 W W' : World} {q p g p' g' : Nat} {L1 L1' L L' : List (List UInt8)} {G1 G1' G G' : List Sg} {bs : List (List Sd)} {ds : List Int} {ss : List Sg} {vb vd vs v v' : Value} {R : List Sd} {vals : List Value} {rs : List (Option Addr × Nat)} {c c' : Nat → Nat} {sb : Array Value} {vq : Value} {lq : List Value}
end
end Go.Proofs.Ytfdhaodgnenhcaa.Pry

/-
  Layer 15 (prepared): the document's Digest, and what it leaves; what the law's begun comes to, in plain mathematics.
-/
namespace Go.Proofs.Ytfdhaodgnenhcaa.Prz
set_option linter.unusedSimpArgs false
open Go Go.RowKit Ck Kw Ga Kf Pm Pe Pg Pn Py Qb Qg Ik Lk Lc Ld Jm Ja Jb Jc Jd Jf Jg Jh Jn Prh Pri Prj Prk Prl Prm Prv Prw
open Im (num isIn add sum)
attribute [local go_sem ↓] Go.wp_at_zero Go.wp_at_succ
set_option linter.unusedVariables false
set_option maxRecDepth 100000

/-- One request is sealed. -/
def stepQ (y : List (List UInt8) × List Sg × List Sd) (q : Q) : List (List UInt8) × List Sg × List Sd := (sealT y.1 q, sealG y.1 y.2.1 q, sealS y.1 q y.2.2)
def sealsQ (L : List (List UInt8)) (G : List Sg) (qs : List Q) : List (List UInt8) × List Sg × List Sd := qs.foldl stepQ (L, G, [])
/-- One batch is made. -/
structure Bz where
  L : List (List UInt8)
  G : List Sg
  bs : List (List Sd)
  ds : List Int
def stepB (z : Bz) (qs : List Q) : Bz :=
  ⟨digT (sealsQ z.L z.G qs).1 (sealsQ z.L z.G qs).2.2, (sealsQ z.L z.G qs).2.1, z.bs ++ [(sealsQ z.L z.G qs).2.2], z.ds ++ [(digR (sealsQ z.L z.G qs).1 (sealsQ z.L z.G qs).2.2).1]⟩
/-- One vote is signed: of the batch of that number. -/
structure Vz where
  L : List (List UInt8)
  G : List Sg
  ss : List Sg
def vDig (ds : List Int) (v : Vt × Nat) : Int := (ds[v.2 % ds.length]?).getD 0
def stepV (ds : List Int) (z : Vz) (v : Vt × Nat) : Vz := ⟨vT z.L v.1 (vDig ds v), vG z.L z.G v.1 (vDig ds v), z.ss ++ [(vR z.L v.1 (vDig ds v)).1]⟩
end Go.Proofs.Ytfdhaodgnenhcaa.Prz

/-
  Layer 15 (prepared): the input of the law's begun: lists of requests, votes.
-/
namespace Go.Proofs.Ytfdhaodgnenhcaa.Psa
set_option linter.unusedSimpArgs false
open Go Go.RowKit Ck Kw Ga Kf Pm Pe Pg Ik Lk Jm Ja Jb Jl Jn Prv Prw Prx Pry Prz
set_option linter.unusedVariables false

/-- The value v is these lists of requests. -/
def QQ (w : World) (X : Nat → Prop) (v : Value) (l : List (List Q)) : Prop := ∃ vals, vals.length = l.length ∧ Sl w X 1 v l.length vals ∧ ∀ i (h : i < l.length), ∃ u, vals[i]? = some u ∧ RI w X u l[i]
theorem QQ.after {w w' : World} {X : Nat → Prop} {v : Value} {l : List (List Q)} (h : QQ w X v l) (hb : Below w.heap.size w w') : QQ w' X v l := by
  obtain ⟨vals, h0, h1, h2⟩ := h
  exact ⟨vals, h0, h1.after hb, fun i hi => by obtain ⟨u, h3, h4⟩ := h2 i hi; exact ⟨u, h3, h4.after hb⟩⟩
theorem QQ.shape {w : World} {X : Nat → Prop} {v : Value} {l : List (List Q)} (h : QQ w X v l) : ∃ A c, v = .slice A l.length c := by
  obtain ⟨vals, h0, ⟨A, c, rfl, _⟩, h2⟩ := h
  exact ⟨A, c, rfl⟩
/-- A vote's five cells. -/
def VC (v : Vt × Nat) : List Value := [.int .i64 v.1.key, .int .i64 v.1.kind, .int .i64 v.1.view, .int .i64 v.1.seq, .int .u8 (v.2 : Int)]
theorem VC_len (v : Vt × Nat) : (VC v).length = 5 := rfl
def VL (w : World) (X : Nat → Prop) (v : Value) (l : List (Vt × Nat)) : Prop := Sl w X 5 v l.length (l.flatMap VC)
theorem VL.at_ {w : World} {X : Nat → Prop} {A : Option Addr} {n c i : Nat} {l : List (Vt × Nat)} (h : VL w X (.slice A n c) l) (hi : i < l.length) :
    ∃ ad, A = some ad ∧ w.cell? (ad.add (i * 5)) = some (.int .i64 l[i].1.key) ∧ w.cell? ⟨(ad.add (i * 5)).block, (ad.add (i * 5)).off + 1, none⟩ = some (.int .i64 l[i].1.kind) ∧ w.cell? ⟨(ad.add (i * 5)).block, (ad.add (i * 5)).off + 2, none⟩ = some (.int .i64 l[i].1.view) ∧ w.cell? ⟨(ad.add (i * 5)).block, (ad.add (i * 5)).off + 3, none⟩ = some (.int .i64 l[i].1.seq) ∧ w.cell? ⟨(ad.add (i * 5)).block, (ad.add (i * 5)).off + 4, none⟩ = some (.int .u8 (l[i].2 : Int)) := by
  obtain ⟨A', c', hv, hl, hc, hm, hx⟩ := h
  injection hv with e1 e2 e3
  subst e1
  obtain ⟨ad, hA, hb, hX, hcell⟩ := hx (by omega)
  have hof : ∀ j u, j < 5 → (VC l[i])[j]? = some u → w.cell? ((ad.add (i * 5)).add j) = some u := fun j u hj hu => by
    rw [add_add]
    exact hcell _ _ (by rw [flat_get VC_len l i hi j hj]; exact hu)
  refine ⟨ad, hA, ?_⟩
  generalize ad.add (i * 5) = a at hof ⊢
  have ha : ∀ j, 0 < j → a.add j = ⟨a.block, a.off + j, none⟩ := fun j hj => by unfold Addr.add; rw [if_neg (by omega)]
  have h0 : a.add 0 = a := by unfold Addr.add; rw [if_pos rfl]
  refine ⟨?_, ?_, ?_, ?_, ?_⟩
  · have := hof 0 _ (by omega) rfl; rwa [h0] at this
  · have := hof 1 _ (by omega) rfl; rwa [ha _ (by omega)] at this
  · have := hof 2 _ (by omega) rfl; rwa [ha _ (by omega)] at this
  · have := hof 3 _ (by omega) rfl; rwa [ha _ (by omega)] at this
  · have := hof 4 _ (by omega) rfl; rwa [ha _ (by omega)] at this
/-- What the law's begun is asked of: it lies where nothing is turned. -/
structure CI (w : World) (f : Int) (vb vv vs : Value) (view low : Int) (qss : List (List Q)) (vts : List (Vt × Nat)) : Prop where
  bs : QQ w (fun k => w.heap.size ≤ k) vb qss
  vt : VL w (fun k => w.heap.size ≤ k) vv vts
  hq : ∀ qs ∈ qss, qs.length ≤ 1048576 ∧ ∀ q ∈ qs, q.o.recs.length ≤ 1048576
  hn : qss.length ≤ 1048576
  hv : vts.length ≤ 1048576
  h8 : ∀ v ∈ vts, v.2 < 256
theorem RI.weak {w : World} {X Y : Nat → Prop} {v : Value} {l : List Q} (h : RI w X v l) (hk : ∀ b, b < w.heap.size → Y b → X b) : RI w Y v l := by
  obtain ⟨rs, h1, h2, h3⟩ := h
  exact ⟨rs, h1, h2.weaken hk, fun i hi => by obtain ⟨r, h4, h5⟩ := h3 i hi; exact ⟨r, h4, h5.weaken hk⟩⟩
theorem CI.later {w w' : World} {f : Int} {vb vv vs : Value} {view low : Int} {qss : List (List Q)} {vts : List (Vt × Nat)} (h : CI w f vb vv vs view low qss vts) (b : Below w.heap.size w w') : CI w' f vb vv vs view low qss vts := by
  have hs := b.size
  refine ⟨?_, Sl.weaken (Sl.after h.vt b) (fun k _ hk => by omega), h.hq, h.hn, h.hv, h.h8⟩
  obtain ⟨vals, h0, h1, h2⟩ := h.bs.after b
  exact ⟨vals, h0, h1.weaken (fun k _ hk => by omega), fun i hi => by obtain ⟨u, h3, h4⟩ := h2 i hi; exact ⟨u, h3, RI.weak h4 (fun k _ hk => by omega)⟩⟩
end Go.Proofs.Ytfdhaodgnenhcaa.Psa

/-
  Layer 15 (prepared): the document's sets of brokers (layer 12): Has, List, Many.
-/
namespace Go.Proofs.Ytfdhaodgnenhcaa.Psi
set_option linter.unusedSimpArgs false
open Go Go.RowKit Ck Kw Ga Pra Prh
attribute [local go_sem ↓] Go.wp_at_zero Go.wp_at_succ
set_option linter.unusedVariables false
set_option maxRecDepth 100000

/-- What is left of a set behind so many brokers. -/
def shr (s : Int) : Nat → Int
  | 0 => s
  | k + 1 => shr s k / 2
theorem shr_pos {s : Int} (h : 0 ≤ s) (h' : s < 65536) : ∀ k, 0 ≤ shr s k ∧ shr s k < 65536
  | 0 => ⟨h, h'⟩
  | k + 1 => by
    have := shr_pos h h' k
    simp only [shr]
    omega
def bitS (s : Int) (k : Nat) : Bool := decide (shr s k % 2 = 1)
def hasS (s : Int) (b : Int) : Bool := decide (0 ≤ b) && decide (b < 13) && bitS s b.toNat
theorem has_yes {s b : Int} {k : Nat} (hk : k < 13) (e : (k : Int) = b) (h : shr s k % 2 = 1) : hasS s b = true := by
  subst e
  simp [hasS, bitS, h]
  omega
theorem has_no {s b : Int} (h : ∀ k : Nat, k < 13 → (k : Int) = b → ¬ shr s k % 2 = 1) : hasS s b = false := by
  unfold hasS
  by_cases h1 : 0 ≤ b
  · by_cases h2 : b < 13
    · have := h b.toNat (by omega) (by omega)
      simp [bitS, this]
    · simp [h2]
  · simp [h1]
set_option maxHeartbeats 2000000 in
theorem rhas_any (w : World) (s b : Int) (h0 : 0 ≤ s) (h1 : s < 65536) : Calls Try.prog 15 #[.int .u16 s, .int .i64 b] w fun e w' => e = .returned (.bool (hasS s b)) ∧ w = w' := by
  have HP := Lib.hid (shr_pos h0 h1)
  clear h0 h1
  go_enter Try.func15, Try.ntmps15
  go_wp2_with fail
  go_loopw [0, 5] (fun x i wr => ∃ k : Nat, k ≤ 13 ∧ i = .int .i64 k ∧ x = .int .u16 (shr s k) ∧ (∀ j : Nat, j < k → (j : Int) = b → ¬ shr s j % 2 = 1) ∧ wr = w) (fun _ i _ => 13 - (intOf i).toNat)
  case atStart => exact ⟨0, by omega, rfl, rfl, fun j hj => by omega, rfl⟩
  case round =>
    obtain ⟨k, hk, rfl, rfl, hno, rfl⟩ := hrel
    by_cases hlt : k < 13
    · have hki : (k : Int) < 13 := by omega
      obtain ⟨p1, p2⟩ := HP.out k
      have hm : Int.tmod (shr s k) 2 = shr s k % 2 := Int.tmod_eq_emod_of_nonneg p1
      have hd : Int.tdiv (shr s k) 2 = shr s k / 2 := Int.tdiv_eq_ediv_of_nonneg p1
      have hst : shr s (k + 1) = shr s k / 2 := rfl
      have hw : IntKind.u16.wrap (shr s k / 2) = shr s k / 2 := by simp [IntKind.wrap, IntKind.bits, IntKind.signed]; omega
      have hw2 : IntKind.u16.wrap (shr s k % 2) = shr s k % 2 := by simp [IntKind.wrap, IntKind.bits, IntKind.signed]; omega
      by_cases he : (k : Int) = b
      · by_cases hb : shr s k % 2 = 1
        · have HY := Lib.hid (has_yes hlt he hb)
          have e1 : ((k : Int) == b) = true := by rw [beq_iff_eq]; exact he
          have e2 : (shr s k % 2 == 1) = true := by rw [beq_iff_eq]; exact hb
          generalize shr s k = x at *
          generalize hkk : (k : Int) = ki at *
          clear he hb hno hst hkk
          go_wp2_with fail
          go_ret
          exact ⟨by rw [HY.out]; rfl, rfl⟩
        · have HN := Lib.hid (show ∀ j : Nat, j < k + 1 → (j : Int) = b → ¬ shr s j % 2 = 1 from fun j hj hjb => by
            by_cases hjk : j = k
            · subst hjk; exact hb
            · exact hno j (by omega) hjb)
          have e1 : ((k : Int) == b) = true := by rw [beq_iff_eq]; exact he
          have e2 : (shr s k % 2 == 1) = false := by rw [beq_eq_false_iff_ne]; exact hb
          have HST := Lib.hid hst
          clear he hb hno hst
          generalize shr s k = x at *
          go_wp2_with fail
          go_roundw
          case rel => exact ⟨k + 1, by omega, by go_num, by rw [HST.out], HN.out, trivial⟩
          case measure => simp [intOf]; omega
      · have HN := Lib.hid (show ∀ j : Nat, j < k + 1 → (j : Int) = b → ¬ shr s j % 2 = 1 from fun j hj hjb => by
          by_cases hjk : j = k
          · subst hjk; exact absurd hjb he
          · exact hno j (by omega) hjb)
        have e1 : ((k : Int) == b) = false := by rw [beq_eq_false_iff_ne]; exact he
        have HST := Lib.hid hst
        clear he hno hst
        generalize shr s k = x at *
        go_wp2_with fail
        go_roundw
        case rel => exact ⟨k + 1, by omega, by go_num, by rw [HST.out], HN.out, trivial⟩
        case measure => simp [intOf]; omega
    · have hke : k = 13 := by omega
      subst hke
      have HN := Lib.hid (has_no hno)
      clear hno
      go_wp2_with fail
      go_ret
      exact ⟨by rw [HN.out]; rfl, rfl⟩
end Go.Proofs.Ytfdhaodgnenhcaa.Psi

/-
  Layer 15 (prepared): the document's Held: Get, Slide.
-/
namespace Go.Proofs.Ytfdhaodgnenhcaa.Pre
set_option linter.unusedSimpArgs false
open Go Go.RowKit Cm Ck Kw Ga Kf Pm Pe Pg Ph Qb Lk Ld Jm Ja Jb Jk Pra Prb Prc Prd
attribute [local go_sem ↓] Go.wp_at_zero Go.wp_at_succ
set_option linter.unusedVariables false
set_option maxRecDepth 100000

section
variable {w w' : World} {X Y S : Nat → Prop} {g : Nat} {l : List Pd}
end
theorem PI_zero (w : World) (X : Nat → Prop) : PI w X Pd.zero ((none, 0), (none, 0)) := ⟨Sl.nil _ _ _, bi_nil _ _⟩
theorem blk7 {w : World} {g : Nat} {t : TypeId} {a0 a1 a2 a3 a4 a5 a6 x0 x1 x2 x3 x4 x5 x6 : Value} (h : Blk w g t #[a0, a1, a2, a3, a4, a5, a6]) : Blk ((((((((w).setCell ⟨g, 0, none⟩ x0).setCell ⟨g, 1, none⟩ x1).setCell ⟨g, 2, none⟩ x2).setCell ⟨g, 3, none⟩ x3).setCell ⟨g, 4, none⟩ x4).setCell ⟨g, 5, none⟩ x5).setCell ⟨g, 6, none⟩ x6) g t #[x0, x1, x2, x3, x4, x5, x6] := by
  have := (((((((h).set_ 0 x0).set_ 1 x1).set_ 2 x2).set_ 3 x3).set_ 4 x4).set_ 5 x5).set_ 6 x6
  simpa using this
theorem ch7 (w : World) (g : Nat) (x0 x1 x2 x3 x4 x5 x6 : Value) : Ch (fun k => k = g) w ((((((((w).setCell ⟨g, 0, none⟩ x0).setCell ⟨g, 1, none⟩ x1).setCell ⟨g, 2, none⟩ x2).setCell ⟨g, 3, none⟩ x3).setCell ⟨g, 4, none⟩ x4).setCell ⟨g, 5, none⟩ x5).setCell ⟨g, 6, none⟩ x6) := (((((((Ch.refl (fun k => k = g) w).setCell (p := ⟨g, 0, none⟩) (fun _ => rfl) x0).setCell (p := ⟨g, 1, none⟩) (fun _ => rfl) x1).setCell (p := ⟨g, 2, none⟩) (fun _ => rfl) x2).setCell (p := ⟨g, 3, none⟩) (fun _ => rfl) x3).setCell (p := ⟨g, 4, none⟩) (fun _ => rfl) x4).setCell (p := ⟨g, 5, none⟩) (fun _ => rfl) x5).setCell (p := ⟨g, 6, none⟩) (fun _ => rfl) x6
end Go.Proofs.Ytfdhaodgnenhcaa.Pre

/-
  Layer 15 (prepared): the document's Held: Slide.
-/
namespace Go.Proofs.Ytfdhaodgnenhcaa.Prf
set_option linter.unusedSimpArgs false
open Go Go.RowKit Cm Ck Kw Ga Kf Pm Pe Pg Ph Qb Lk Ld Jm Ja Jb Jk Pra Prb Prc Prd Pre
attribute [local go_sem ↓] Go.wp_at_zero Go.wp_at_succ
set_option linter.unusedVariables false
set_option maxRecDepth 100000

/-- A row of one's own is certificates. -/
structure OP (w : World) (B : Nat) (X : Nat → Prop) (v : Value) (l : List Pd) : Prop where
  ex : ∃ rs, Pts w X l rs ∧ w.ownsRow B 43 7 v l.length (flatP l rs)
theorem OP.nil (w : World) (B : Nat) (X : Nat → Prop) : OP w B X (.slice none 0 0) [] := ⟨[], Pts.nil, World.ownsRow_nil _ _ _ _⟩
theorem OP.below {w w' : World} {B : Nat} {X : Nat → Prop} {v : Value} {l : List Pd} (h : OP w B X v l) (b : Below w.heap.size w w') : OP w' B X v l := by
  obtain ⟨rs, h1, h2⟩ := h.ex
  exact ⟨rs, h1.after b, own_below h2 b⟩
/-- One more. -/
theorem OP.snoc {w w' : World} {B : Nat} {X : Nat → Prop} {v v' : Value} {l : List Pd} {rs : List Pl2} {p : Pd} {r : Pl2} (h : Pts w X l rs) (hp : PI w X p r) (ha : Appended w B 43 7 v (l.length + 1) (flatP l rs ++ (PC p r).toList) v' w') (c : Ch (fun k => v.ownBlock = some k) w w') (hX : ∀ k, v.ownBlock = some k → X k) : OP w' B X v' (l ++ [p]) := by
  refine ⟨rs ++ [r], (h.app (Pts.one hp)).ch c (fun k _ hk => hX k hk), ?_⟩
  rw [flatP_app h.1, flatP_single, List.length_append, List.length_singleton]
  exact ha.1
end Go.Proofs.Ytfdhaodgnenhcaa.Prf
