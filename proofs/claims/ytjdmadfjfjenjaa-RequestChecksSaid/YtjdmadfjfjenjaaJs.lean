/-
  Layer 8: the program's sameSigned, EqualFunc of batches, Same.
-/
import Derived.Test.YtjdmadfjfjenjaaJk
import Derived.Test.YtjdmadfjfjenjaaJc
import Derived.Test.YtjdmadfjfjenjaaW2
import Derived.Test.YtjdmadfjfjenjaaKz
namespace Go.Proofs.Ytjdmadfjfjenjaa.Js
set_option linter.unusedSimpArgs false
open Go Go.RowKit Ck Kf Kw Ga Pm Pe Pk Qb Qs Lk Ld Jm Ja Jb Jc Jk
attribute [local go_sem ↓] Go.wp_at_zero Go.wp_at_succ
set_option linter.unusedVariables false
set_option maxRecDepth 100000


section
open Kz
variable {P : Program} {ops : Array Oper} {Q : Exit → Act → World → Prop}
/-- TWO CALLS, EACH BEHIND A LOAD OF ITS OWN, THE SECOND BEHIND THE FIRST. -/
theorem two_calls {n : Nat} {a : Act} {w : World} {o0 o1 o2 o3 : Oper} {i0 i1 i2 i3 : Nat} {v0 v1 v2 v3 : Value} {f : FuncId} {x0 x1 : Array Value} {L : Array Bool} {C D : World → Prop}
    (h0 : ops[0]? = some o0) (h1 : ops[1]? = some o1) (h2 : ops[2]? = some o2) (h3 : ops[3]? = some o3) (d0 : o0.dst = some i0) (d1 : o1.dst = some i1) (d2 : o2.dst = some i2) (d3 : o3.dst = some i3) (n02 : i0 ≠ i2) (n12 : i1 ≠ i2)
    (r : Region.ready .any ops L = [0, 2]) (r0 : Region.ready .any ops (L.setIfInBounds 0 true) = [1, 2]) (r2 : Region.ready .any ops (L.setIfInBounds 2 true) = [0])
    (r01 : Region.ready .any ops ((L.setIfInBounds 0 true).setIfInBounds 1 true) = [2]) (r02 : Region.ready .any ops ((L.setIfInBounds 0 true).setIfInBounds 2 true) = [1]) (r012 : Region.ready .any ops (((L.setIfInBounds 0 true).setIfInBounds 1 true).setIfInBounds 2 true) = [3])
    (hC : C w) (y0 : ∀ b, b = a ∨ b = a.put (some i2) v2 → Y P ops o0 v0 w b)
    (y2 : ∀ W, C W → ∀ b, b = a ∨ b = a.put (some i0) v0 ∨ b = (a.put (some i0) v0).put (some i1) v1 → Y P ops o2 v2 W b)
    (c1 : ∀ b, b = a.put (some i0) v0 ∨ b = (a.put (some i0) v0).put (some i2) v2 → Region.wanted o1 (yielded ops b.tmps) = true ∧ (execOp b.eval o1).run P w = .ok (.enter f x0) w)
    (k1 : Calls P f x0 w fun e w' => e = .returned v1 ∧ C w')
    (c3 : ∀ W, C W → Region.wanted o3 (yielded ops (((a.put (some i0) v0).put (some i1) v1).put (some i2) v2).tmps) = true ∧ (execOp (((a.put (some i0) v0).put (some i1) v1).put (some i2) v2).eval o3).run P W = .ok (.enter f x1) W)
    (k3 : ∀ W, C W → Calls P f x1 W fun e w' => e = .returned v3 ∧ D w')
    (hend : ∀ W, D W → wpAny P .any ops Q n ((((L.setIfInBounds 0 true).setIfInBounds 1 true).setIfInBounds 2 true).setIfInBounds 3 true) ((((a.put (some i0) v0).put (some i1) v1).put (some i2) v2).put (some i3) v3) W) : wpAny P .any ops Q (n + 4) L a w := by
  have s02 : (L.setIfInBounds 2 true).setIfInBounds 0 true = (L.setIfInBounds 0 true).setIfInBounds 2 true := Array.setIfInBounds_comm _ _ (by omega)
  have t1 : ((L.setIfInBounds 0 true).setIfInBounds 2 true).setIfInBounds 1 true = ((L.setIfInBounds 0 true).setIfInBounds 1 true).setIfInBounds 2 true := Array.setIfInBounds_comm _ _ (by omega)
  have last : ∀ W, C W → wpAny P .any ops Q (n + 1) (((L.setIfInBounds 0 true).setIfInBounds 1 true).setIfInBounds 2 true) (((a.put (some i0) v0).put (some i1) v1).put (some i2) v2) W := fun W hW => by
    refine any_step r012 (by simp) fun i hi => ?_
    simp only [List.mem_cons, List.not_mem_nil, or_false] at hi
    subst hi
    exact op_of_call h3 d3 (c3 W hW).1 (c3 W hW).2 ((k3 W hW).mono fun e w' ⟨he, hd⟩ => ⟨_, he, hend w' hd⟩)
  have second : wpAny P .any ops Q (n + 2) ((L.setIfInBounds 0 true).setIfInBounds 2 true) ((a.put (some i0) v0).put (some i2) v2) w := by
    refine any_step r02 (by simp) fun i hi => ?_
    simp only [List.mem_cons, List.not_mem_nil, or_false] at hi
    subst hi
    refine op_of_call h1 d1 (c1 _ (.inr rfl)).1 (c1 _ (.inr rfl)).2 (k1.mono fun e w' ⟨he, hc⟩ => ⟨_, he, ?_⟩)
    rw [t1, ← put_swap _ v1 v2 n12]
    exact last w' hc
  refine any_step r (by simp) fun i hi => ?_
  simp only [List.mem_cons, List.not_mem_nil, or_false] at hi
  rcases hi with rfl | rfl
  · refine op_of_Y h0 (y0 _ (.inl rfl)) ?_
    rw [d0]
    refine any_step r0 (by simp) fun i hi => ?_
    simp only [List.mem_cons, List.not_mem_nil, or_false] at hi
    rcases hi with rfl | rfl
    · refine op_of_call h1 d1 (c1 _ (.inl rfl)).1 (c1 _ (.inl rfl)).2 (k1.mono fun e w' ⟨he, hc⟩ => ⟨_, he, ?_⟩)
      refine any_step r01 (by simp) fun i hi => ?_
      simp only [List.mem_cons, List.not_mem_nil, or_false] at hi
      subst hi
      refine op_of_Y h2 (y2 _ hc _ (.inr (.inr rfl))) ?_
      rw [d2]
      exact last w' hc
    · refine op_of_Y h2 (y2 _ hC _ (.inr (.inl rfl))) ?_
      rw [d2]
      exact second
  · refine op_of_Y h2 (y2 _ hC _ (.inl rfl)) ?_
    rw [d2]
    refine any_step r2 (by simp) fun i hi => ?_
    simp only [List.mem_cons, List.not_mem_nil, or_false] at hi
    subst hi
    refine op_of_Y h0 (y0 _ (.inr rfl)) ?_
    rw [d0, s02, ← put_swap _ v0 v2 n02]
    exact second
end
theorem k2_start (w : World) (x y : Sd) (A B : Option Addr) (c d : Nat) : K2 w w.heap.size (w.heap.size + 1) x y A B c d ((w.alloc (.cells (DC x A c) 41)).alloc (.cells (DC y B d) 41)) := by
  have hz : (w.alloc (.cells (DC x A c) 41)).heap.size = w.heap.size + 1 := by simp
  refine ⟨(k1_new (Below.refl _ w) x A c).later (op_below _ _), ?_⟩
  rw [← hz]
  exact Blk.new _ _ _
theorem sd_ne_mom {x y : Sd} (h : (mom x == mom y) = false) : decide (x = y) = false := decide_eq_false (fun e => by subst e; rw [beq_self_eq_true] at h; exact Bool.noConfusion h)
theorem mom_eq2 {x y : Sd} (h : (mom x == mom y) = true) : x.q.client = y.q.client ∧ x.q.time = y.q.time := by
  rw [mom, mom, pair_beq, Bool.and_eq_true] at h
  exact ⟨of_decide_eq_true h.1, of_decide_eq_true h.2⟩

set_option maxHeartbeats 8000000 in
theorem samesigned_any (w : World) (x y : Sd) (A B : Option Addr) (c d : Nat) (X Y : Nat → Prop) (ha : Ls w X (.slice A x.q.o.recs.length c) x.q.o.recs) (hb : Ls w Y (.slice B y.q.o.recs.length d) y.q.o.recs) (hl : x.q.o.recs.length ≤ 140737488355328) :
    Calls Try.prog 46 #[DV x A c, DV y B d] w fun e w' => e = .returned (.bool (decide (x = y))) ∧ Below w.heap.size w w' := by
  have hk2 := k2_start w x y A B c d
  have HSO := Lib.hid fun (W : World) (b : Below w.heap.size w W) => same_any x.q.o y.q.o _ _ X Y W (show OI W X (OV x.q.o A c) x.q.o from ⟨A, c, rfl, ha.after b⟩) (show OI W Y (OV y.q.o B d) y.q.o from ⟨B, d, rfl, hb.after b⟩) hl
  have HMX := fun W : World => Lib.hid (moment_any x A c W)
  have HMY := fun W : World => Lib.hid (moment_any y B d W)
  unfold DV DC MV at HMX HMY
  unfold DC at hk2
  unfold OV at HSO
  unfold DV DC
  have hg := guard_moment
  have hge := guard_sign
  have hqe := run_eql_sign
  have hq := run_eql_moment
  clear ha hb hl
  go_enter Try.func46, Try.ntmps46
  go_wp2_with fail
  generalize (w.alloc (.cells #[.int .i64 x.q.client, .int .i64 x.q.time, .int .i64 x.q.o.kind, .string ⟨x.q.o.topic.toArray⟩, .string ⟨x.q.o.group.toArray⟩, .int .i64 x.q.o.off, .slice A x.q.o.recs.length c, .int .i64 x.s.1, .int .i64 x.s.2] 41)).alloc (.cells #[.int .i64 y.q.client, .int .i64 y.q.time, .int .i64 y.q.o.kind, .string ⟨y.q.o.topic.toArray⟩, .string ⟨y.q.o.group.toArray⟩, .int .i64 y.q.o.off, .slice B y.q.o.recs.length d, .int .i64 y.s.1, .int .i64 y.s.2] 41) = w2 at *
  generalize hg1 : w.heap.size = g1 at hk2 ⊢
  generalize hg2 : g1 + 1 = g2 at hk2 ⊢
  have HG1 := Lib.hid hg1
  have HK2 := Lib.hid hk2
  clear hk2 hg1 hg2
  have tok1 : True := trivial
  have tok2 : True := trivial
  by_cases hm : (mom x == mom y) = true
  · have hqq : ∀ W : World, (binOp .eql 119 (MV x) (MV y)).run Try.prog W = .ok (.bool true) W := fun W => by rw [hq, hm]
    unfold MV at hqq
    have HME := Lib.hid (mom_eq2 hm)
    clear hm hq
    by_cases hs : x.s = y.s
    · have hqs : ∀ W : World, (binOp .eql 29 (.agg #[.int .i64 x.s.1, .int .i64 x.s.2]) (.agg #[.int .i64 y.s.1, .int .i64 y.s.2])).run Try.prog W = .ok (.bool true) W := fun W => by rw [hqe, show sgB (x.s.1, x.s.2) (y.s.1, y.s.2) = true from by rw [hs]; exact sgB_yes _]
      have HR : Hid (sameO x.q.o y.q.o = decide (x = y)) := Lib.hid (by
        rw [sameO_dec]
        exact decide_eq_decide.2 ⟨fun h => Sd_ext (Q_ext HME.out.1 HME.out.2 h) hs, fun h => by rw [h]⟩)
      clear hs hqe
      generalize sameO x.q.o y.q.o = so at *
      go_region_held3 (fun w' => (w'.cell? ⟨g1, 0, none⟩ = some (.int .i64 x.q.client) ∧ w'.cell? ⟨g1, 1, none⟩ = some (.int .i64 x.q.time) ∧ w'.cell? ⟨g1, 2, none⟩ = some (.int .i64 x.q.o.kind) ∧ w'.cell? ⟨g1, 3, none⟩ = some (.string ⟨x.q.o.topic.toArray⟩) ∧ w'.cell? ⟨g1, 4, none⟩ = some (.string ⟨x.q.o.group.toArray⟩) ∧ w'.cell? ⟨g1, 5, none⟩ = some (.int .i64 x.q.o.off) ∧ w'.cell? ⟨g1, 6, none⟩ = some (.slice A x.q.o.recs.length c) ∧ w'.cell? ⟨g1, 7, none⟩ = some (.int .i64 x.s.1) ∧ w'.cell? ⟨g1, 8, none⟩ = some (.int .i64 x.s.2)) ∧ (w'.cell? ⟨g2, 0, none⟩ = some (.int .i64 y.q.client) ∧ w'.cell? ⟨g2, 1, none⟩ = some (.int .i64 y.q.time) ∧ w'.cell? ⟨g2, 2, none⟩ = some (.int .i64 y.q.o.kind) ∧ w'.cell? ⟨g2, 3, none⟩ = some (.string ⟨y.q.o.topic.toArray⟩) ∧ w'.cell? ⟨g2, 4, none⟩ = some (.string ⟨y.q.o.group.toArray⟩) ∧ w'.cell? ⟨g2, 5, none⟩ = some (.int .i64 y.q.o.off) ∧ w'.cell? ⟨g2, 6, none⟩ = some (.slice B y.q.o.recs.length d) ∧ w'.cell? ⟨g2, 7, none⟩ = some (.int .i64 y.s.1) ∧ w'.cell? ⟨g2, 8, none⟩ = some (.int .i64 y.s.2))) (first | exact ⟨DK.cells HK2.out.one.one, DK.cells HK2.out.two⟩ | exact ⟨DK.cells HK3.out.one.one, DK.cells HK3.out.two⟩ | exact ⟨DK.cells HK4.out.one.one, DK.cells HK4.out.two⟩ | exact ⟨DK.cells HK5.out.one.one, DK.cells HK5.out.two⟩)
        (first
      | (go_at_call 77; have _t := tok1; clear tok1 _t; refine (HMX _).out.mono ?_; rintro e w3 ⟨rfl, hb3⟩; have HK3 := Lib.hid (HK2.out.drew.later hb3); clear hb3)
      | (go_at_call 77; have _t := tok2; clear tok2 _t; refine (HMY _).out.mono ?_; rintro e w4 ⟨rfl, hb4⟩; have HK4 := Lib.hid (HK3.out.later hb4); clear hb4)
      | (go_at_call 78; refine (HSO.out _ HK4.out.one.below).mono ?_; rintro e w5 ⟨rfl, hb5⟩; have HK5 := Lib.hid (HK4.out.later hb5); clear hb5))
      all_goals
        go_wp2_with fail
        go_ret
        exact ⟨by rw [← HR.out]; rfl, HK5.out.one.below⟩
    · have hqs : ∀ W : World, (binOp .eql 29 (.agg #[.int .i64 x.s.1, .int .i64 x.s.2]) (.agg #[.int .i64 y.s.1, .int .i64 y.s.2])).run Try.prog W = .ok (.bool false) W := fun W => by rw [hqe, show sgB (x.s.1, x.s.2) (y.s.1, y.s.2) = false from sgB_no hs]
      have HR : Hid (decide (x = y) = false) := Lib.hid (decide_eq_false (fun h => hs (by rw [h])))
      clear hs hqe
      have HKD := Lib.hid HK2.out.drew
      have HMX2 := Lib.hid ((moment_any x A c w2.drew).mono fun e w' h => show e = .returned (MV x) ∧ K2 w g1 g2 x y A B c d w' from ⟨h.1, HKD.out.later h.2⟩)
      have HMY2 := Lib.hid fun (W : World) (h : K2 w g1 g2 x y A B c d W) => (moment_any y B d W).mono fun e w' hh => show e = .returned (MV y) ∧ K2 w g1 g2 x y A B c d w' from ⟨hh.1, h.later hh.2⟩
      unfold DV DC MV at HMX2 HMY2
      refine wp_region_any (by kernel_rfl) ?_
      refine two_calls (C := K2 w g1 g2 x y A B c d) (D := K2 w g1 g2 x y A B c d) (n := 18) (i0 := 5) (i1 := 6) (i2 := 7) (i3 := 8) (v0 := .agg #[.int .i64 x.q.client, .int .i64 x.q.time, .int .i64 x.q.o.kind, .string ⟨x.q.o.topic.toArray⟩, .string ⟨x.q.o.group.toArray⟩, .int .i64 x.q.o.off, .slice A x.q.o.recs.length c, .int .i64 x.s.1, .int .i64 x.s.2]) (v1 := .agg #[.int .i64 x.q.client, .int .i64 x.q.time]) (v2 := .agg #[.int .i64 y.q.client, .int .i64 y.q.time, .int .i64 y.q.o.kind, .string ⟨y.q.o.topic.toArray⟩, .string ⟨y.q.o.group.toArray⟩, .int .i64 y.q.o.off, .slice B y.q.o.recs.length d, .int .i64 y.s.1, .int .i64 y.s.2]) (v3 := .agg #[.int .i64 y.q.client, .int .i64 y.q.time]) (f := 77) (x0 := #[.agg #[.int .i64 x.q.client, .int .i64 x.q.time, .int .i64 x.q.o.kind, .string ⟨x.q.o.topic.toArray⟩, .string ⟨x.q.o.group.toArray⟩, .int .i64 x.q.o.off, .slice A x.q.o.recs.length c, .int .i64 x.s.1, .int .i64 x.s.2]]) (x1 := #[.agg #[.int .i64 y.q.client, .int .i64 y.q.time, .int .i64 y.q.o.kind, .string ⟨y.q.o.topic.toArray⟩, .string ⟨y.q.o.group.toArray⟩, .int .i64 y.q.o.off, .slice B y.q.o.recs.length d, .int .i64 y.s.1, .int .i64 y.s.2]]) rfl rfl rfl rfl rfl rfl rfl rfl (by omega) (by omega) (by kernel_rfl) (by kernel_rfl) (by kernel_rfl) (by kernel_rfl) (by kernel_rfl) (by kernel_rfl) HKD.out ?_ ?_ ?_ HMX2.out ?_ HMY2.out ?_
      · rintro b' (rfl | rfl) <;> exact Kz.Y_load rfl rfl rfl (show w2.drew.heap[g1]? = _ from HKD.out.one.one) Try.underlying41 rfl (by kernel_rfl)
      · rintro W hW b' (rfl | rfl | rfl) <;> exact Kz.Y_load rfl rfl rfl (show W.heap[g2]? = _ from hW.two) Try.underlying41 rfl (by kernel_rfl)
      · rintro b' (rfl | rfl) <;> refine ⟨rfl, ?_⟩ <;> (simp only [Act.put]; go_simp)
      · intro W hW
        refine ⟨rfl, ?_⟩
        simp only [Act.put]
        go_simp
      intro w4 hk4
      have HK4 := Lib.hid hk4
      clear hk4 HMX2 HMY2 HMX HMY HSO
      obtain ⟨p0, p1, p2, p3, p4, p5, p6, p7, p8⟩ := DK.cells HK4.out.one.one
      obtain ⟨q0, q1, q2, q3, q4, q5, q6, q7, q8⟩ := DK.cells HK4.out.two
      refine Kz.any_quiet4 (by kernel_rfl) (by kernel_rfl) ?_
      simp only [Act.put, List.setIfInBounds_toArray, List.set_cons_succ, List.set_cons_zero]
      repeat (go_big_quiet_step (fail))
      refine wpQuiet_nil ?_
      intro _ hw'
      obtain ⟨nq, hw''⟩ := hw'
      subst hw''
      all_goals
        go_wp2_with fail
        go_ret
        exact ⟨by rw [HR.out]; rfl, below_drewN HK4.out.one.below _⟩
  · have hm := Bool.eq_false_iff.2 hm
    have hqq : ∀ W : World, (binOp .eql 119 (MV x) (MV y)).run Try.prog W = .ok (.bool false) W := fun W => by rw [hq, hm]
    unfold MV at hqq
    have HR := Lib.hid (sd_ne_mom hm)
    clear hm hq hqe
    have HKD := Lib.hid HK2.out.drew
    have HMX2 := Lib.hid ((moment_any x A c w2.drew).mono fun e w' h => show e = .returned (MV x) ∧ K2 w g1 g2 x y A B c d w' from ⟨h.1, HKD.out.later h.2⟩)
    have HMY2 := Lib.hid fun (W : World) (h : K2 w g1 g2 x y A B c d W) => (moment_any y B d W).mono fun e w' hh => show e = .returned (MV y) ∧ K2 w g1 g2 x y A B c d w' from ⟨hh.1, h.later hh.2⟩
    unfold DV DC MV at HMX2 HMY2
    refine wp_region_any (by kernel_rfl) ?_
    refine two_calls (C := K2 w g1 g2 x y A B c d) (D := K2 w g1 g2 x y A B c d) (n := 18) (i0 := 5) (i1 := 6) (i2 := 7) (i3 := 8) (v0 := .agg #[.int .i64 x.q.client, .int .i64 x.q.time, .int .i64 x.q.o.kind, .string ⟨x.q.o.topic.toArray⟩, .string ⟨x.q.o.group.toArray⟩, .int .i64 x.q.o.off, .slice A x.q.o.recs.length c, .int .i64 x.s.1, .int .i64 x.s.2]) (v1 := .agg #[.int .i64 x.q.client, .int .i64 x.q.time]) (v2 := .agg #[.int .i64 y.q.client, .int .i64 y.q.time, .int .i64 y.q.o.kind, .string ⟨y.q.o.topic.toArray⟩, .string ⟨y.q.o.group.toArray⟩, .int .i64 y.q.o.off, .slice B y.q.o.recs.length d, .int .i64 y.s.1, .int .i64 y.s.2]) (v3 := .agg #[.int .i64 y.q.client, .int .i64 y.q.time]) (f := 77) (x0 := #[.agg #[.int .i64 x.q.client, .int .i64 x.q.time, .int .i64 x.q.o.kind, .string ⟨x.q.o.topic.toArray⟩, .string ⟨x.q.o.group.toArray⟩, .int .i64 x.q.o.off, .slice A x.q.o.recs.length c, .int .i64 x.s.1, .int .i64 x.s.2]]) (x1 := #[.agg #[.int .i64 y.q.client, .int .i64 y.q.time, .int .i64 y.q.o.kind, .string ⟨y.q.o.topic.toArray⟩, .string ⟨y.q.o.group.toArray⟩, .int .i64 y.q.o.off, .slice B y.q.o.recs.length d, .int .i64 y.s.1, .int .i64 y.s.2]]) rfl rfl rfl rfl rfl rfl rfl rfl (by omega) (by omega) (by kernel_rfl) (by kernel_rfl) (by kernel_rfl) (by kernel_rfl) (by kernel_rfl) (by kernel_rfl) HKD.out ?_ ?_ ?_ HMX2.out ?_ HMY2.out ?_
    · rintro b' (rfl | rfl) <;> exact Kz.Y_load rfl rfl rfl (show w2.drew.heap[g1]? = _ from HKD.out.one.one) Try.underlying41 rfl (by kernel_rfl)
    · rintro W hW b' (rfl | rfl | rfl) <;> exact Kz.Y_load rfl rfl rfl (show W.heap[g2]? = _ from hW.two) Try.underlying41 rfl (by kernel_rfl)
    · rintro b' (rfl | rfl) <;> refine ⟨rfl, ?_⟩ <;> (simp only [Act.put]; go_simp)
    · intro W hW
      refine ⟨rfl, ?_⟩
      simp only [Act.put]
      go_simp
    intro w4 hk4
    have HK4 := Lib.hid hk4
    clear hk4 HMX2 HMY2 HMX HMY HSO
    obtain ⟨p0, p1, p2, p3, p4, p5, p6, p7, p8⟩ := DK.cells HK4.out.one.one
    obtain ⟨q0, q1, q2, q3, q4, q5, q6, q7, q8⟩ := DK.cells HK4.out.two
    refine Kz.any_quiet4 (by kernel_rfl) (by kernel_rfl) ?_
    simp only [Act.put, List.setIfInBounds_toArray, List.set_cons_succ, List.set_cons_zero]
    repeat (go_big_quiet_step (fail))
    refine wpQuiet_nil ?_
    intro _ hw'
    obtain ⟨nq, hw''⟩ := hw'
    subst hw''
    all_goals
      go_wp2_with fail
      go_ret
      exact ⟨by rw [HR.out]; rfl, below_drewN HK4.out.one.below _⟩

set_option maxHeartbeats 8000000 in
theorem equalfuncb_any (w : World) (X Y : Nat → Prop) (A B : Option Addr) (c d : Nat) (l m : List Sd) (ha : BI w X (.slice A l.length c) l) (hb : BI w Y (.slice B m.length d) m) (hr : ∀ x ∈ l, x.q.o.recs.length ≤ 140737488355328) (hl63 : l.length ≤ 140737488355328) :
    Calls Try.prog 45 #[.slice A l.length c, .slice B m.length d, .func (.func 46) #[] #[]] w fun e w' => e = .returned (.bool (decide (l = m))) ∧ Below w.heap.size w w' := by
  have HA := Lib.hid (show S2 w X Y _ _ l m w from ⟨Below.refl _ w, ha, hb⟩)
  have HR := Lib.hid hr
  clear ha hb hr
  by_cases hlen : l.length = m.length
  · have h1 : ((l.length : Int) != (m.length : Int)) = false := by simp [hlen]
    have HLEN := Lib.hid hlen
    have hle : l.length ≤ m.length := by omega
    clear hlen
    go_enter Try.func45, Try.ntmps45
    go_wp2_with fail
    go_loopw [17] (fun j wr => ∃ k : Nat, k ≤ l.length ∧ j = .int .i64 k ∧ l.take k = m.take k ∧ S2 w X Y (.slice A l.length c) (.slice B m.length d) l m wr) (fun j _ => l.length - (intOf j).toNat)
    case atStart => exact ⟨0, Nat.zero_le _, rfl, rfl, HA.out⟩
    case round =>
      obtain ⟨k, hk, rfl, htk, hs⟩ := hrel
      clear HA
      by_cases hlt : k < l.length
      · have hlt2 : k < m.length := by have := HLEN.out; omega
        obtain ⟨ad, Ar, cr, rfl, ⟨a0, a1, a2, a3, a4, a5, a6, a7, a8⟩, hls1⟩ := hs.one.at_ hlt
        obtain ⟨bd, Br, dr, rfl, hat2, hls2⟩ := hs.two.at_ hlt2
        have hrl := HR.out _ (List.getElem_mem hlt)
        have HN1 := Lib.hid (show l[k] = m[k] → l.take (k + 1) = m.take (k + 1) from fun h => by rw [List.take_succ_eq_append_getElem hlt, List.take_succ_eq_append_getElem hlt2, htk, h])
        have HN2 := Lib.hid (show l[k] ≠ m[k] → decide (l = m) = false from fun h => decide_eq_false (fun e => h (by subst e; rfl)))
        have hkp : (0 : Int) ≤ (k : Int) := by omega
        have hkl : (k : Int) < (l.length : Int) := by omega
        have hkm : (k : Int) < (m.length : Int) := by omega
        generalize l[k] = x at *
        generalize m[k] = y at *
        have hbb : Below wr.heap.size wr ((wr.alloc (.cells (DC x Ar cr) 41)).alloc (.cells (DC y Br dr) 41)) := (op_below wr _).trans ((op_below _ _).mono (by simp))
        have HS2 := Lib.hid (hs.later hbb)
        have hat3 := at9_later hat2 (op_below wr (.cells (DC x Ar cr) 41))
        have HSG := Lib.hid (samesigned_any _ x y Ar Br cr dr X Y (hls1.after hbb) (hls2.after hbb) hrl)
        clear htk hs hls1 hls2 hat2 hbb
        obtain ⟨b0, b1, b2, b3, b4, b5, b6, b7, b8⟩ := hat3
        unfold DV at HSG
        unfold DC at HS2 HSG b0 b1 b2 b3 b4 b5 b6 b7 b8
        by_cases hxy : x = y
        · rw [decide_eq_true hxy] at HSG
          have HN := Lib.hid (HN1.out hxy)
          clear hxy HN1 HN2
          go_wp2_with fail
          refine HSG.out.mono ?_
          rintro e w3 ⟨rfl, hb3⟩
          have HS3 := Lib.hid (HS2.out.later hb3)
          clear hb3 HSG a0 a1 a2 a3 a4 a5 a6 a7 a8 b0 b1 b2 b3 b4 b5 b6 b7 b8
          go_wp2_with fail
          go_roundw
          case rel => exact ⟨k + 1, by omega, by go_num, HN.out, HS3.out⟩
          case measure => simp [intOf]; omega
        · rw [decide_eq_false hxy] at HSG
          have HN := Lib.hid (HN2.out hxy)
          clear hxy HN1 HN2
          go_wp2_with fail
          refine HSG.out.mono ?_
          rintro e w3 ⟨rfl, hb3⟩
          have HS3 := Lib.hid (HS2.out.later hb3)
          clear hb3 HSG a0 a1 a2 a3 a4 a5 a6 a7 a8 b0 b1 b2 b3 b4 b5 b6 b7 b8
          go_wp2_with fail
          go_ret
          exact ⟨by rw [HN.out]; rfl, HS3.out.below⟩
      · have hke : k = l.length := by omega
        have HN := Lib.hid (show decide (l = m) = true from decide_eq_true (by
          rw [hke, List.take_length, HLEN.out, List.take_length] at htk
          exact htk))
        have HSS := Lib.hid hs
        clear hs htk
        go_wp2_with fail
        go_ret
        exact ⟨by rw [HN.out]; rfl, HSS.out.below⟩
  · have h1 : ((l.length : Int) != (m.length : Int)) = true := by simp only [bne_iff_ne, ne_eq]; omega
    have HN := Lib.hid (show decide (l = m) = false from decide_eq_false (fun e => hlen (by rw [e])))
    clear hlen
    go_enter Try.func45, Try.ntmps45
    go_wp2_with fail
    go_ret
    exact ⟨by rw [HN.out]; rfl, HA.out.below⟩

theorem sameb_any (w : World) (X Y : Nat → Prop) (va vb : Value) (l m : List Sd) (ha : BI w X va l) (hb : BI w Y vb m) (hr : ∀ x ∈ l, x.q.o.recs.length ≤ 140737488355328) (hl63 : l.length ≤ 140737488355328) :
    Calls Try.prog 16 #[va, vb] w fun e w' => e = .returned (.bool (decide (l = m))) ∧ Below w.heap.size w w' := by
  obtain ⟨A, c, rfl, -⟩ := ha.shape
  obtain ⟨B, d, rfl, -⟩ := hb.shape
  have HE := Lib.hid (equalfuncb_any w X Y A B c d l m ha hb hr hl63)
  clear ha hb hr
  go_enter Try.func16, Try.ntmps16
  go_wp2_with fail
  refine HE.out.mono ?_
  rintro e w1 ⟨rfl, hb1⟩
  have HB := Lib.hid hb1
  clear hb1
  go_wp2_with fail
  go_ret
  exact ⟨rfl, HB.out⟩
end Go.Proofs.Ytjdmadfjfjenjaa.Js
