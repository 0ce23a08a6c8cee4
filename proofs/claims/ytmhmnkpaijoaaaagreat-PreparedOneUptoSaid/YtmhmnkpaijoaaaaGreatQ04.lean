/-
  Layer 6 (op): the document's own fields and Check, kind by kind.
-/
import Derived.Test.YtmhmnkpaijoaaaaGreatQ02
import Derived.Test.YtmhmnkpaijoaaaaGreatQ03
import Derived.Test.YtmhmnkpaijoaaaaGreatQ01
import Derived.Test.YtmhmnkpaijoaaaaGreatRows
namespace Go.Proofs.YtmhmnkpaijoaaaaGreat.Ph
set_option linter.unusedSimpArgs false
open Go Go.RowKit Ck Kw Pm Pa Pb Pc Pd Pe Pf Pg
set_option linter.unusedVariables false

theorem results_tmp4 {fn : Func} {t u v x : Tmp} (h : fn.results = #[.tmp t, .tmp u, .tmp v, .tmp x]) (tmps : Array Value) (P : Program) (w : World) :
    (results fn tmps).run P w = .ok (.tuple #[tmps.getD t undef, tmps.getD u undef, tmps.getD v undef, tmps.getD x undef]) w := by
  simp [results, h]
set_option maxRecDepth 100000 in
set_option maxHeartbeats 1000000 in
theorem rfields_any (k : Int) (w : World) :
    Calls Tryz.prog 121 #[.int .i64 k] w fun e w' => e = .returned (.tuple #[.bool (hasT k), .bool (hasG k), .bool (hasO k), .bool (hasR k)]) ∧ w = w' := by
  by_cases h1 : k = 1
  · subst h1
    go_enter Tryz.func121, Tryz.ntmps121
    go_wp2
    refine bodyPost_ret (results_tmp4 rfl _ _ _) rfl ?_
    exact ⟨rfl, rfl⟩
  · by_cases h2 : k = 2
    · subst h2
      clear h1
      go_enter Tryz.func121, Tryz.ntmps121
      go_wp2
      refine bodyPost_ret (results_tmp4 rfl _ _ _) rfl ?_
      exact ⟨rfl, rfl⟩
    · by_cases h3 : k = 3
      · subst h3
        clear h1 h2
        go_enter Tryz.func121, Tryz.ntmps121
        go_wp2
        refine bodyPost_ret (results_tmp4 rfl _ _ _) rfl ?_
        exact ⟨rfl, rfl⟩
      · by_cases h4 : k = 4
        · subst h4
          clear h1 h2 h3
          go_enter Tryz.func121, Tryz.ntmps121
          go_wp2
          refine bodyPost_ret (results_tmp4 rfl _ _ _) rfl ?_
          exact ⟨rfl, rfl⟩
        · have e1 : (k == 1) = false := beq_eq_false_iff_ne.2 h1
          have e2 : (k == 2) = false := beq_eq_false_iff_ne.2 h2
          have e3 : (k == 3) = false := beq_eq_false_iff_ne.2 h3
          have e4 : (k == 4) = false := beq_eq_false_iff_ne.2 h4
          have H : Hid (hasT k = false ∧ hasG k = false ∧ hasO k = false ∧ hasR k = false) := Lib.hid (by simp [hasT, hasG, hasO, hasR, e1, e2, e3, e4])
          rw [H.out.1, H.out.2.1, H.out.2.2.1, H.out.2.2.2]
          clear h1 h2 h3 h4
          go_enter Tryz.func121, Tryz.ntmps121
          go_wp2
          refine bodyPost_ret (results_tmp4 rfl _ _ _) rfl ?_
          exact ⟨rfl, rfl⟩

/-- The operation stands there, beside what was there. -/
structure RK (w0 : World) (g1 : Nat) (o : O) (A : Option Addr) (c : Nat) (W : World) : Prop where
  below : Below w0.heap.size w0 W
  op : OB W g1 o A c
theorem RK.later {w0 W W' : World} {g1 : Nat} {o : O} {A : Option Addr} {c : Nat} (h : RK w0 g1 o A c W) (b : Below W.heap.size W W') : RK w0 g1 o A c W' :=
  ⟨h.below.trans (b.mono h.below.size), Blk.below h.op b (Blk.lt h.op)⟩
theorem rk_start (w : World) (o : O) (A : Option Addr) (c : Nat) : RK w w.heap.size o A c (w.alloc (.cells (OC o A c) 109)) :=
  ⟨(Below.refl _ w).alloc (Nat.le_refl _) _, Blk.new w _ _⟩
theorem recs_none {l : List Tx} (h : l.length < 1) : areRecs l = false := by
  have : decide (0 < l.length) = false := decide_eq_false (by omega)
  simp only [areRecs, this, Bool.false_and]
theorem recs_many {l : List Tx} (h : 4 < l.length) : areRecs l = false := by
  have : decide (l.length ≤ 4) = false := decide_eq_false (by omega)
  simp only [areRecs, this, Bool.and_false, Bool.false_and]
theorem recs_yes {l : List Tx} (h : ¬ l.length < 1) (h4 : ¬ 4 < l.length) (ha : l.all (fun x => decide (x.length ≤ 64)) = true) : areRecs l = true := by
  have q1 : decide (0 < l.length) = true := decide_eq_true (by omega)
  have q2 : decide (l.length ≤ 4) = true := decide_eq_true (by omega)
  simp only [areRecs, ha, q1, q2, Bool.and_self]
theorem all_take {l : List Tx} {k : Nat} (h : k < l.length) : (l.take (k + 1)).all (fun x => decide (x.length ≤ 64)) = ((l.take k).all (fun x => decide (x.length ≤ 64)) && decide (l[k].length ≤ 64)) := by
  rw [List.take_succ_eq_append_getElem h, List.all_append]
  simp
theorem all_not {l : List Tx} {k : Nat} (h : k < l.length) (hk : 64 < l[k].length) : areRecs l = false := by
  have : l.all (fun x => decide (x.length ≤ 64)) = false := by
    rw [List.all_eq_false]
    exact ⟨l[k], List.getElem_mem h, by simp; omega⟩
  simp [areRecs, this]

set_option maxRecDepth 100000 in
set_option maxHeartbeats 2000000 in
theorem rcheck_none (o : O) (A : Option Addr) (c : Nat) (hk : known o.kind = false) (w : World) :
    Calls Tryz.prog 120 #[OV o A c] w fun e w' => e = .returned (.int .i64 (check o)) ∧ Below w.heap.size w w' := by
  have hc : check o = 60 := by simp [check, hk]
  rw [hc]
  have HR := Lib.hid (rfields_any o.kind (w.alloc (.cells (OC o A c) 109)))
  have HC := Lib.hid (rk_start w o A c)
  have hq : o.kind < 0 ∨ 4 < o.kind := by
    simp only [known, Bool.and_eq_false_iff, decide_eq_false_iff_not] at hk
    omega
  clear hc hk
  obtain ⟨kind, topic, group, off, recs⟩ := o
  unfold OV
  simp only at hq HR ⊢
  generalize hasT kind = ht at *
  generalize hasG kind = hg at *
  generalize hasO kind = ho at *
  generalize hasR kind = hr at *
  by_cases h0 : kind < 0
  · have d0 : decide (kind < 0) = true := decide_eq_true h0
    clear hq h0
    go_enter Tryz.func120, Tryz.ntmps120
    go_wp2_with fail
    refine HR.out.mono ?_
    rintro e w2 ⟨rfl, rfl⟩
    obtain ⟨a0, a1, a2, a3, a4⟩ := HC.out.op.cells
    simp only at a0 a1 a2 a3 a4
    go_wp2_with fail
    go_ret
    exact ⟨rfl, HC.out.below⟩
  · have d0 : decide (kind < 0) = false := decide_eq_false h0
    have d4 : decide (4 < kind) = true := decide_eq_true (by omega)
    clear hq h0
    go_enter Tryz.func120, Tryz.ntmps120
    go_wp2_with fail
    refine HR.out.mono ?_
    rintro e w2 ⟨rfl, rfl⟩
    obtain ⟨a0, a1, a2, a3, a4⟩ := HC.out.op.cells
    simp only at a0 a1 a2 a3 a4
    go_wp2_with fail
    go_ret
    exact ⟨rfl, HC.out.below⟩

set_option maxRecDepth 100000 in
set_option maxHeartbeats 4000000 in
theorem rcheck_0 (o : O) (A : Option Addr) (c : Nat) (X : Nat → Prop) (hk : o.kind = 0) (w : World) (hl : o.recs.length ≤ 140737488355328) (hls : Ls w X (.slice A o.recs.length c) o.recs) :
    Calls Tryz.prog 120 #[OV o A c] w fun e w' => e = .returned (.int .i64 (check o)) ∧ Below w.heap.size w w' := by
  have HRF := Lib.hid (rfields_any 0)
  obtain ⟨kind, topic, group, off, recs⟩ := o
  unfold OV
  simp only at hk hl hls ⊢
  subst hk
  have HLS := Lib.hid hls
  have HL := Lib.hid hl
  clear hls
  by_cases h_topic : topic.isEmpty = true
  · have e_topic := List.isEmpty_iff.1 h_topic
    subst e_topic
    clear h_topic
    by_cases h_group : group.isEmpty = true
    · have e_group := List.isEmpty_iff.1 h_group
      subst e_group
      clear h_group
      by_cases h_off : off = 0
      · subst h_off
        by_cases h_recs : recs.isEmpty = true
        · have e_recs := List.isEmpty_iff.1 h_recs
          subst e_recs
          clear h_recs
          go_enter Tryz.func120, Tryz.ntmps120
          go_wp2_with fail
          refine (HRF.out _).mono ?_
          rintro e w2 ⟨he, rfl⟩
          have he : e = .returned (.tuple #[.bool false, .bool false, .bool false, .bool false]) := he
          subst he
          have HC := Lib.hid (rk_start w ⟨0, [], [], 0, []⟩ A c)
          go_wp2_with fail
          obtain ⟨a0, a1, a2, a3, a4⟩ := HC.out.op.cells
          simp only at a0 a1 a2 a3 a4
          go_loop [7] (fun i => ∃ k : Nat, k ≤ ([] : List Tx).length ∧ i = .int .i64 k ∧ (([] : List Tx).take k).all (fun x => decide (x.length ≤ 64)) = true) (fun i => ([] : List Tx).length - (intOf i).toNat)
          case atStart => exact ⟨0, Nat.zero_le _, rfl, rfl⟩
          case round =>
            obtain ⟨k, hk, rfl, hall⟩ := hrel
            have hk0 : k = 0 := by simpa using hk
            subst hk0
            clear hall hk
            go_wp2_with fail
            go_ret
            exact ⟨by rw [show check ⟨0, [], [], 0, []⟩ = 0 from by simp [check, more, known, badName, badRecs, badOff, hasT, hasG, hasO, hasR]]; rfl, HC.out.below⟩
        · have e_recs := Bool.eq_false_iff.2 h_recs
          have p_recs : 0 < recs.length := by cases recs with | nil => exact absurd rfl h_recs | cons _ _ => simp
          clear h_recs
          go_enter Tryz.func120, Tryz.ntmps120
          go_wp2_with fail
          refine (HRF.out _).mono ?_
          rintro e w2 ⟨he, rfl⟩
          have he : e = .returned (.tuple #[.bool false, .bool false, .bool false, .bool false]) := he
          subst he
          have HC := Lib.hid (rk_start w ⟨0, [], [], 0, recs⟩ A c)
          go_wp2_with fail
          go_ret
          exact ⟨by rw [show check ⟨0, [], [], 0, recs⟩ = 60 from by simp [check, more, known, badName, badRecs, badOff, hasT, hasG, hasO, hasR, e_recs]]; rfl, HC.out.below⟩
      · have e_off : (off == 0) = false := beq_eq_false_iff_ne.2 h_off
        have n_off : (off != 0) = true := by rw [bne, e_off]; rfl
        clear h_off
        go_enter Tryz.func120, Tryz.ntmps120
        go_wp2_with fail
        refine (HRF.out _).mono ?_
        rintro e w2 ⟨he, rfl⟩
        have he : e = .returned (.tuple #[.bool false, .bool false, .bool false, .bool false]) := he
        subst he
        have HC := Lib.hid (rk_start w ⟨0, [], [], off, recs⟩ A c)
        go_wp2_with fail
        go_ret
        exact ⟨by rw [show check ⟨0, [], [], off, recs⟩ = 60 from by simp [check, more, known, badName, badRecs, badOff, hasT, hasG, hasO, hasR, n_off]]; rfl, HC.out.below⟩
    · have e_group := Bool.eq_false_iff.2 h_group
      clear h_group
      go_enter Tryz.func120, Tryz.ntmps120
      go_wp2_with fail
      refine (HRF.out _).mono ?_
      rintro e w2 ⟨he, rfl⟩
      have he : e = .returned (.tuple #[.bool false, .bool false, .bool false, .bool false]) := he
      subst he
      have HC := Lib.hid (rk_start w ⟨0, [], group, off, recs⟩ A c)
      go_wp2_with fail
      go_ret
      exact ⟨by rw [show check ⟨0, [], group, off, recs⟩ = 60 from by simp [check, more, known, badName, badRecs, badOff, hasT, hasG, hasO, hasR, e_group]]; rfl, HC.out.below⟩
  · have e_topic := Bool.eq_false_iff.2 h_topic
    clear h_topic
    go_enter Tryz.func120, Tryz.ntmps120
    go_wp2_with fail
    refine (HRF.out _).mono ?_
    rintro e w2 ⟨he, rfl⟩
    have he : e = .returned (.tuple #[.bool false, .bool false, .bool false, .bool false]) := he
    subst he
    have HC := Lib.hid (rk_start w ⟨0, topic, group, off, recs⟩ A c)
    go_wp2_with fail
    go_ret
    exact ⟨by rw [show check ⟨0, topic, group, off, recs⟩ = 60 from by simp [check, more, known, badName, badRecs, badOff, hasT, hasG, hasO, hasR, e_topic]]; rfl, HC.out.below⟩

set_option maxRecDepth 100000 in
set_option maxHeartbeats 4000000 in
theorem rcheck_1 (o : O) (A : Option Addr) (c : Nat) (X : Nat → Prop) (hk : o.kind = 1) (w : World) (hl : o.recs.length ≤ 140737488355328) (hls : Ls w X (.slice A o.recs.length c) o.recs) :
    Calls Tryz.prog 120 #[OV o A c] w fun e w' => e = .returned (.int .i64 (check o)) ∧ Below w.heap.size w w' := by
  have HRF := Lib.hid (rfields_any 1)
  obtain ⟨kind, topic, group, off, recs⟩ := o
  unfold OV
  simp only at hk hl hls ⊢
  subst hk
  have HLS := Lib.hid hls
  have HL := Lib.hid hl
  clear hls
  by_cases h_group : group.isEmpty = true
  · have e_group := List.isEmpty_iff.1 h_group
    subst e_group
    clear h_group
    by_cases h_off : off = 0
    · subst h_off
      by_cases h_recs : recs.isEmpty = true
      · have e_recs := List.isEmpty_iff.1 h_recs
        subst e_recs
        clear h_recs
        go_enter Tryz.func120, Tryz.ntmps120
        go_wp2_with fail
        refine (HRF.out _).mono ?_
        rintro e w2 ⟨he, rfl⟩
        have he : e = .returned (.tuple #[.bool true, .bool false, .bool false, .bool false]) := he
        subst he
        have HC := Lib.hid (rk_start w ⟨1, topic, [], 0, []⟩ A c)
        go_wp2_with fail
        refine (rname_any topic _).mono ?_
        rintro e w5 ⟨he, hb⟩
        have HC5 := Lib.hid (HC.out.later hb)
        clear hb
        obtain ⟨a0, a1, a2, a3, a4⟩ := HC5.out.op.cells
        simp only at a0 a1 a2 a3 a4
        by_cases hn : name topic = true
        · rw [hn] at he
          subst he
          have HN_topic := Lib.hid hn
          clear hn
          go_wp2_with fail
          go_loop [7] (fun i => ∃ k : Nat, k ≤ ([] : List Tx).length ∧ i = .int .i64 k ∧ (([] : List Tx).take k).all (fun x => decide (x.length ≤ 64)) = true) (fun i => ([] : List Tx).length - (intOf i).toNat)
          case atStart => exact ⟨0, Nat.zero_le _, rfl, rfl⟩
          case round =>
            obtain ⟨k, hk, rfl, hall⟩ := hrel
            have hk0 : k = 0 := by simpa using hk
            subst hk0
            clear hall hk
            go_wp2_with fail
            go_ret
            exact ⟨by rw [show check ⟨1, topic, [], 0, []⟩ = 0 from by simp [check, more, known, badName, badRecs, badOff, hasT, hasG, hasO, hasR, HN_topic.out]]; rfl, HC5.out.below⟩
        · have hn := Bool.eq_false_iff.2 hn
          rw [hn] at he
          subst he
          have HN_topic := Lib.hid hn
          clear hn
          go_wp2_with fail
          go_ret
          exact ⟨by rw [show check ⟨1, topic, [], 0, []⟩ = 61 from by simp [check, more, known, badName, badRecs, badOff, hasT, hasG, hasO, hasR, HN_topic.out]]; rfl, HC5.out.below⟩
      · have e_recs := Bool.eq_false_iff.2 h_recs
        have p_recs : 0 < recs.length := by cases recs with | nil => exact absurd rfl h_recs | cons _ _ => simp
        clear h_recs
        go_enter Tryz.func120, Tryz.ntmps120
        go_wp2_with fail
        refine (HRF.out _).mono ?_
        rintro e w2 ⟨he, rfl⟩
        have he : e = .returned (.tuple #[.bool true, .bool false, .bool false, .bool false]) := he
        subst he
        have HC := Lib.hid (rk_start w ⟨1, topic, [], 0, recs⟩ A c)
        go_wp2_with fail
        go_ret
        exact ⟨by rw [show check ⟨1, topic, [], 0, recs⟩ = 60 from by simp [check, more, known, badName, badRecs, badOff, hasT, hasG, hasO, hasR, e_recs]]; rfl, HC.out.below⟩
    · have e_off : (off == 0) = false := beq_eq_false_iff_ne.2 h_off
      have n_off : (off != 0) = true := by rw [bne, e_off]; rfl
      clear h_off
      go_enter Tryz.func120, Tryz.ntmps120
      go_wp2_with fail
      refine (HRF.out _).mono ?_
      rintro e w2 ⟨he, rfl⟩
      have he : e = .returned (.tuple #[.bool true, .bool false, .bool false, .bool false]) := he
      subst he
      have HC := Lib.hid (rk_start w ⟨1, topic, [], off, recs⟩ A c)
      go_wp2_with fail
      go_ret
      exact ⟨by rw [show check ⟨1, topic, [], off, recs⟩ = 60 from by simp [check, more, known, badName, badRecs, badOff, hasT, hasG, hasO, hasR, n_off]]; rfl, HC.out.below⟩
  · have e_group := Bool.eq_false_iff.2 h_group
    clear h_group
    go_enter Tryz.func120, Tryz.ntmps120
    go_wp2_with fail
    refine (HRF.out _).mono ?_
    rintro e w2 ⟨he, rfl⟩
    have he : e = .returned (.tuple #[.bool true, .bool false, .bool false, .bool false]) := he
    subst he
    have HC := Lib.hid (rk_start w ⟨1, topic, group, off, recs⟩ A c)
    go_wp2_with fail
    go_ret
    exact ⟨by rw [show check ⟨1, topic, group, off, recs⟩ = 60 from by simp [check, more, known, badName, badRecs, badOff, hasT, hasG, hasO, hasR, e_group]]; rfl, HC.out.below⟩

set_option maxRecDepth 100000 in
set_option maxHeartbeats 4000000 in
theorem rcheck_2 (o : O) (A : Option Addr) (c : Nat) (X : Nat → Prop) (hk : o.kind = 2) (w : World) (hl : o.recs.length ≤ 140737488355328) (hls : Ls w X (.slice A o.recs.length c) o.recs) :
    Calls Tryz.prog 120 #[OV o A c] w fun e w' => e = .returned (.int .i64 (check o)) ∧ Below w.heap.size w w' := by
  have HRF := Lib.hid (rfields_any 2)
  obtain ⟨kind, topic, group, off, recs⟩ := o
  unfold OV
  simp only at hk hl hls ⊢
  subst hk
  have HLS := Lib.hid hls
  have HL := Lib.hid hl
  clear hls
  by_cases h_group : group.isEmpty = true
  · have e_group := List.isEmpty_iff.1 h_group
    subst e_group
    clear h_group
    by_cases h_off : off = 0
    · subst h_off
      go_enter Tryz.func120, Tryz.ntmps120
      go_wp2_with fail
      refine (HRF.out _).mono ?_
      rintro e w2 ⟨he, rfl⟩
      have he : e = .returned (.tuple #[.bool true, .bool false, .bool false, .bool true]) := he
      subst he
      have HC := Lib.hid (rk_start w ⟨2, topic, [], 0, recs⟩ A c)
      go_wp2_with fail
      refine (rname_any topic _).mono ?_
      rintro e w5 ⟨he, hb⟩
      have HC5 := Lib.hid (HC.out.later hb)
      clear hb
      obtain ⟨a0, a1, a2, a3, a4⟩ := HC5.out.op.cells
      simp only at a0 a1 a2 a3 a4
      by_cases hn : name topic = true
      · rw [hn] at he
        subst he
        have HN_topic := Lib.hid hn
        clear hn
        by_cases hc1 : recs.length < 1
        · have d1 : decide ((recs.length : Int) < 1) = true := decide_eq_true (by omega)
          have HR := Lib.hid (recs_none hc1)
          clear hc1
          go_wp2_with fail
          go_ret
          exact ⟨by rw [show check ⟨2, topic, [], 0, recs⟩ = 62 from by simp [check, more, known, badName, badRecs, badOff, hasT, hasG, hasO, hasR, HN_topic.out, HR.out]]; rfl, HC5.out.below⟩
        · have d1 : decide ((recs.length : Int) < 1) = false := decide_eq_false (by omega)
          by_cases hc2 : 4 < recs.length
          · have d2 : decide (4 < (recs.length : Int)) = true := decide_eq_true (by omega)
            have HR := Lib.hid (recs_many hc2)
            clear hc1 hc2
            go_wp2_with fail
            go_ret
            exact ⟨by rw [show check ⟨2, topic, [], 0, recs⟩ = 62 from by simp [check, more, known, badName, badRecs, badOff, hasT, hasG, hasO, hasR, HN_topic.out, HR.out]]; rfl, HC5.out.below⟩
          · have d2 : decide (4 < (recs.length : Int)) = false := decide_eq_false (by omega)
            go_wp2_with fail
            go_loop [7] (fun i => ∃ k : Nat, k ≤ (recs : List Tx).length ∧ i = .int .i64 k ∧ ((recs : List Tx).take k).all (fun x => decide (x.length ≤ 64)) = true) (fun i => (recs : List Tx).length - (intOf i).toNat)
            case atStart => exact ⟨0, Nat.zero_le _, rfl, rfl⟩
            case round =>
              obtain ⟨k, hk, rfl, hall⟩ := hrel
              by_cases hlt : k < recs.length
              · have hat := all_take hlt
                obtain ⟨ad, Bq, d, rfl, hcell, -⟩ := (HLS.out.after HC5.out.below).at_ hlt
                by_cases h64 : 64 < recs[k].length
                · have HR := Lib.hid (all_not hlt h64)
                  have dl : decide (64 < (recs[k].length : Int)) = true := decide_eq_true (by omega)
                  clear hat hall h64
                  go_wp2_with fail
                  go_ret
                  exact ⟨by rw [show check ⟨2, topic, [], 0, recs⟩ = 62 from by simp [check, more, known, badName, badRecs, badOff, hasT, hasG, hasO, hasR, HN_topic.out, HR.out]]; rfl, HC5.out.below⟩
                · have dl : decide (64 < (recs[k].length : Int)) = false := decide_eq_false (by omega)
                  have HA : Hid ((recs.take (k + 1)).all (fun x => decide (x.length ≤ 64)) = true) := Lib.hid (by rw [hat, hall]; simp; omega)
                  clear hat hall h64
                  go_wp2_with fail
                  go_round
                  case rel => exact ⟨k + 1, by omega, by go_num, HA.out⟩
                  case measure => simp [intOf]; omega
              · have hke : k = recs.length := by omega
                rw [hke, List.take_length] at hall
                have HR := Lib.hid (recs_yes hc1 hc2 hall)
                clear hall
                go_wp2_with fail
                go_ret
                exact ⟨by rw [show check ⟨2, topic, [], 0, recs⟩ = 0 from by simp [check, more, known, badName, badRecs, badOff, hasT, hasG, hasO, hasR, HN_topic.out, HR.out]]; rfl, HC5.out.below⟩
      · have hn := Bool.eq_false_iff.2 hn
        rw [hn] at he
        subst he
        have HN_topic := Lib.hid hn
        clear hn
        go_wp2_with fail
        go_ret
        exact ⟨by rw [show check ⟨2, topic, [], 0, recs⟩ = 61 from by simp [check, more, known, badName, badRecs, badOff, hasT, hasG, hasO, hasR, HN_topic.out]]; rfl, HC5.out.below⟩
    · have e_off : (off == 0) = false := beq_eq_false_iff_ne.2 h_off
      have n_off : (off != 0) = true := by rw [bne, e_off]; rfl
      clear h_off
      go_enter Tryz.func120, Tryz.ntmps120
      go_wp2_with fail
      refine (HRF.out _).mono ?_
      rintro e w2 ⟨he, rfl⟩
      have he : e = .returned (.tuple #[.bool true, .bool false, .bool false, .bool true]) := he
      subst he
      have HC := Lib.hid (rk_start w ⟨2, topic, [], off, recs⟩ A c)
      go_wp2_with fail
      go_ret
      exact ⟨by rw [show check ⟨2, topic, [], off, recs⟩ = 60 from by simp [check, more, known, badName, badRecs, badOff, hasT, hasG, hasO, hasR, n_off]]; rfl, HC.out.below⟩
  · have e_group := Bool.eq_false_iff.2 h_group
    clear h_group
    go_enter Tryz.func120, Tryz.ntmps120
    go_wp2_with fail
    refine (HRF.out _).mono ?_
    rintro e w2 ⟨he, rfl⟩
    have he : e = .returned (.tuple #[.bool true, .bool false, .bool false, .bool true]) := he
    subst he
    have HC := Lib.hid (rk_start w ⟨2, topic, group, off, recs⟩ A c)
    go_wp2_with fail
    go_ret
    exact ⟨by rw [show check ⟨2, topic, group, off, recs⟩ = 60 from by simp [check, more, known, badName, badRecs, badOff, hasT, hasG, hasO, hasR, e_group]]; rfl, HC.out.below⟩

set_option maxRecDepth 100000 in
set_option maxHeartbeats 4000000 in
theorem rcheck_3 (o : O) (A : Option Addr) (c : Nat) (X : Nat → Prop) (hk : o.kind = 3) (w : World) (hl : o.recs.length ≤ 140737488355328) (hls : Ls w X (.slice A o.recs.length c) o.recs) :
    Calls Tryz.prog 120 #[OV o A c] w fun e w' => e = .returned (.int .i64 (check o)) ∧ Below w.heap.size w w' := by
  have HRF := Lib.hid (rfields_any 3)
  obtain ⟨kind, topic, group, off, recs⟩ := o
  unfold OV
  simp only at hk hl hls ⊢
  subst hk
  have HLS := Lib.hid hls
  have HL := Lib.hid hl
  clear hls
  by_cases h_recs : recs.isEmpty = true
  · have e_recs := List.isEmpty_iff.1 h_recs
    subst e_recs
    clear h_recs
    go_enter Tryz.func120, Tryz.ntmps120
    go_wp2_with fail
    refine (HRF.out _).mono ?_
    rintro e w2 ⟨he, rfl⟩
    have he : e = .returned (.tuple #[.bool true, .bool true, .bool true, .bool false]) := he
    subst he
    have HC := Lib.hid (rk_start w ⟨3, topic, group, off, []⟩ A c)
    go_wp2_with fail
    refine (rname_any topic _).mono ?_
    rintro e w5 ⟨he, hb⟩
    have HC5 := Lib.hid (HC.out.later hb)
    clear hb
    obtain ⟨a0, a1, a2, a3, a4⟩ := HC5.out.op.cells
    simp only at a0 a1 a2 a3 a4
    by_cases hn : name topic = true
    · rw [hn] at he
      subst he
      have HN_topic := Lib.hid hn
      clear hn
      go_wp2_with fail
      refine (rname_any group _).mono ?_
      rintro e w6 ⟨he, hb⟩
      have HC6 := Lib.hid (HC5.out.later hb)
      clear hb a0 a1 a2 a3 a4
      obtain ⟨a0, a1, a2, a3, a4⟩ := HC6.out.op.cells
      simp only at a0 a1 a2 a3 a4
      by_cases hn : name group = true
      · rw [hn] at he
        subst he
        have HN_group := Lib.hid hn
        clear hn
        go_wp2_with fail
        go_loop [7] (fun i => ∃ k : Nat, k ≤ ([] : List Tx).length ∧ i = .int .i64 k ∧ (([] : List Tx).take k).all (fun x => decide (x.length ≤ 64)) = true) (fun i => ([] : List Tx).length - (intOf i).toNat)
        case atStart => exact ⟨0, Nat.zero_le _, rfl, rfl⟩
        case round =>
          obtain ⟨k, hk, rfl, hall⟩ := hrel
          have hk0 : k = 0 := by simpa using hk
          subst hk0
          clear hall hk
          by_cases ho : off < 0
          · have d1 : decide (off < 0) = true := decide_eq_true ho
            clear ho
            go_wp2_with fail
            go_ret
            exact ⟨by rw [show check ⟨3, topic, group, off, []⟩ = 60 from by simp [check, more, known, badName, badRecs, badOff, hasT, hasG, hasO, hasR, HN_topic.out, HN_group.out, d1]]; rfl, HC6.out.below⟩
          · have d1 : decide (off < 0) = false := decide_eq_false ho
            by_cases hp : 9007199254740992 < off
            · have d2 : decide (9007199254740992 < off) = true := decide_eq_true hp
              clear ho hp
              go_wp2_with fail
              go_ret
              exact ⟨by rw [show check ⟨3, topic, group, off, []⟩ = 60 from by simp [check, more, known, badName, badRecs, badOff, hasT, hasG, hasO, hasR, HN_topic.out, HN_group.out, d1, d2]]; rfl, HC6.out.below⟩
            · have d2 : decide (9007199254740992 < off) = false := decide_eq_false hp
              clear ho hp
              go_wp2_with fail
              go_ret
              exact ⟨by rw [show check ⟨3, topic, group, off, []⟩ = 0 from by simp [check, more, known, badName, badRecs, badOff, hasT, hasG, hasO, hasR, HN_topic.out, HN_group.out, d1, d2]]; rfl, HC6.out.below⟩
      · have hn := Bool.eq_false_iff.2 hn
        rw [hn] at he
        subst he
        have HN_group := Lib.hid hn
        clear hn
        go_wp2_with fail
        go_ret
        exact ⟨by rw [show check ⟨3, topic, group, off, []⟩ = 61 from by simp [check, more, known, badName, badRecs, badOff, hasT, hasG, hasO, hasR, HN_topic.out, HN_group.out]]; rfl, HC6.out.below⟩
    · have hn := Bool.eq_false_iff.2 hn
      rw [hn] at he
      subst he
      have HN_topic := Lib.hid hn
      clear hn
      go_wp2_with fail
      go_ret
      exact ⟨by rw [show check ⟨3, topic, group, off, []⟩ = 61 from by simp [check, more, known, badName, badRecs, badOff, hasT, hasG, hasO, hasR, HN_topic.out]]; rfl, HC5.out.below⟩
  · have e_recs := Bool.eq_false_iff.2 h_recs
    have p_recs : 0 < recs.length := by cases recs with | nil => exact absurd rfl h_recs | cons _ _ => simp
    clear h_recs
    go_enter Tryz.func120, Tryz.ntmps120
    go_wp2_with fail
    refine (HRF.out _).mono ?_
    rintro e w2 ⟨he, rfl⟩
    have he : e = .returned (.tuple #[.bool true, .bool true, .bool true, .bool false]) := he
    subst he
    have HC := Lib.hid (rk_start w ⟨3, topic, group, off, recs⟩ A c)
    go_wp2_with fail
    go_ret
    exact ⟨by rw [show check ⟨3, topic, group, off, recs⟩ = 60 from by simp [check, more, known, badName, badRecs, badOff, hasT, hasG, hasO, hasR, e_recs]]; rfl, HC.out.below⟩

set_option maxRecDepth 100000 in
set_option maxHeartbeats 4000000 in
theorem rcheck_4 (o : O) (A : Option Addr) (c : Nat) (X : Nat → Prop) (hk : o.kind = 4) (w : World) (hl : o.recs.length ≤ 140737488355328) (hls : Ls w X (.slice A o.recs.length c) o.recs) :
    Calls Tryz.prog 120 #[OV o A c] w fun e w' => e = .returned (.int .i64 (check o)) ∧ Below w.heap.size w w' := by
  have HRF := Lib.hid (rfields_any 4)
  obtain ⟨kind, topic, group, off, recs⟩ := o
  unfold OV
  simp only at hk hl hls ⊢
  subst hk
  have HLS := Lib.hid hls
  have HL := Lib.hid hl
  clear hls
  by_cases h_group : group.isEmpty = true
  · have e_group := List.isEmpty_iff.1 h_group
    subst e_group
    clear h_group
    by_cases h_recs : recs.isEmpty = true
    · have e_recs := List.isEmpty_iff.1 h_recs
      subst e_recs
      clear h_recs
      go_enter Tryz.func120, Tryz.ntmps120
      go_wp2_with fail
      refine (HRF.out _).mono ?_
      rintro e w2 ⟨he, rfl⟩
      have he : e = .returned (.tuple #[.bool true, .bool false, .bool true, .bool false]) := he
      subst he
      have HC := Lib.hid (rk_start w ⟨4, topic, [], off, []⟩ A c)
      go_wp2_with fail
      refine (rname_any topic _).mono ?_
      rintro e w5 ⟨he, hb⟩
      have HC5 := Lib.hid (HC.out.later hb)
      clear hb
      obtain ⟨a0, a1, a2, a3, a4⟩ := HC5.out.op.cells
      simp only at a0 a1 a2 a3 a4
      by_cases hn : name topic = true
      · rw [hn] at he
        subst he
        have HN_topic := Lib.hid hn
        clear hn
        go_wp2_with fail
        go_loop [7] (fun i => ∃ k : Nat, k ≤ ([] : List Tx).length ∧ i = .int .i64 k ∧ (([] : List Tx).take k).all (fun x => decide (x.length ≤ 64)) = true) (fun i => ([] : List Tx).length - (intOf i).toNat)
        case atStart => exact ⟨0, Nat.zero_le _, rfl, rfl⟩
        case round =>
          obtain ⟨k, hk, rfl, hall⟩ := hrel
          have hk0 : k = 0 := by simpa using hk
          subst hk0
          clear hall hk
          by_cases ho : off < 0
          · have d1 : decide (off < 0) = true := decide_eq_true ho
            clear ho
            go_wp2_with fail
            go_ret
            exact ⟨by rw [show check ⟨4, topic, [], off, []⟩ = 60 from by simp [check, more, known, badName, badRecs, badOff, hasT, hasG, hasO, hasR, HN_topic.out, d1]]; rfl, HC5.out.below⟩
          · have d1 : decide (off < 0) = false := decide_eq_false ho
            by_cases hp : 9007199254740992 < off
            · have d2 : decide (9007199254740992 < off) = true := decide_eq_true hp
              clear ho hp
              go_wp2_with fail
              go_ret
              exact ⟨by rw [show check ⟨4, topic, [], off, []⟩ = 60 from by simp [check, more, known, badName, badRecs, badOff, hasT, hasG, hasO, hasR, HN_topic.out, d1, d2]]; rfl, HC5.out.below⟩
            · have d2 : decide (9007199254740992 < off) = false := decide_eq_false hp
              clear ho hp
              go_wp2_with fail
              go_ret
              exact ⟨by rw [show check ⟨4, topic, [], off, []⟩ = 0 from by simp [check, more, known, badName, badRecs, badOff, hasT, hasG, hasO, hasR, HN_topic.out, d1, d2]]; rfl, HC5.out.below⟩
      · have hn := Bool.eq_false_iff.2 hn
        rw [hn] at he
        subst he
        have HN_topic := Lib.hid hn
        clear hn
        go_wp2_with fail
        go_ret
        exact ⟨by rw [show check ⟨4, topic, [], off, []⟩ = 61 from by simp [check, more, known, badName, badRecs, badOff, hasT, hasG, hasO, hasR, HN_topic.out]]; rfl, HC5.out.below⟩
    · have e_recs := Bool.eq_false_iff.2 h_recs
      have p_recs : 0 < recs.length := by cases recs with | nil => exact absurd rfl h_recs | cons _ _ => simp
      clear h_recs
      go_enter Tryz.func120, Tryz.ntmps120
      go_wp2_with fail
      refine (HRF.out _).mono ?_
      rintro e w2 ⟨he, rfl⟩
      have he : e = .returned (.tuple #[.bool true, .bool false, .bool true, .bool false]) := he
      subst he
      have HC := Lib.hid (rk_start w ⟨4, topic, [], off, recs⟩ A c)
      go_wp2_with fail
      go_ret
      exact ⟨by rw [show check ⟨4, topic, [], off, recs⟩ = 60 from by simp [check, more, known, badName, badRecs, badOff, hasT, hasG, hasO, hasR, e_recs]]; rfl, HC.out.below⟩
  · have e_group := Bool.eq_false_iff.2 h_group
    clear h_group
    go_enter Tryz.func120, Tryz.ntmps120
    go_wp2_with fail
    refine (HRF.out _).mono ?_
    rintro e w2 ⟨he, rfl⟩
    have he : e = .returned (.tuple #[.bool true, .bool false, .bool true, .bool false]) := he
    subst he
    have HC := Lib.hid (rk_start w ⟨4, topic, group, off, recs⟩ A c)
    go_wp2_with fail
    go_ret
    exact ⟨by rw [show check ⟨4, topic, group, off, recs⟩ = 60 from by simp [check, more, known, badName, badRecs, badOff, hasT, hasG, hasO, hasR, e_group]]; rfl, HC.out.below⟩

theorem rcheck_any (o : O) (v : Value) (X : Nat → Prop) (w : World) (h : OI w X v o) (hl : o.recs.length ≤ 140737488355328) :
    Calls Tryz.prog 120 #[v] w fun e w' => e = .returned (.int .i64 (check o)) ∧ Below w.heap.size w w' := by
  obtain ⟨A, c, rfl, hls⟩ := h
  by_cases hk : known o.kind = true
  · rcases kind_cases hk with h | h | h | h | h
    · exact rcheck_0 o A c X h w hl hls
    · exact rcheck_1 o A c X h w hl hls
    · exact rcheck_2 o A c X h w hl hls
    · exact rcheck_3 o A c X h w hl hls
    · exact rcheck_4 o A c X h w hl hls
  · exact rcheck_none o A c (Bool.eq_false_iff.2 hk) w

end Go.Proofs.YtmhmnkpaijoaaaaGreat.Ph

/-
  Contracts of layer 1's functions that put: bytes.Equal, digits, NumLen, roomy, addNum, addBytes and their kin.
-/
namespace Go.Proofs.YtmhmnkpaijoaaaaGreat.Ca
set_option linter.unusedSimpArgs false
set_option linter.unusedVariables false
open Go Go.RowKit Ck

/-- bytes.Equal tells whether two byte strings are the same. -/
theorem equal_any (w : World) (X Y : Nat → Prop) (va vb : Value) (n m : Nat) (l k : List UInt8) (ha : Sl w X 1 va n (BVs l)) (hb : Sl w Y 1 vb m (BVs k)) :
    Calls Tryz.prog 157 #[va, vb] w fun e w' => e = .returned (.bool (l == k)) ∧ w = w' := by
  have hn : n = l.length := by obtain ⟨A, c, _, h, _⟩ := ha; rw [BVs_len] at h; omega
  have hm : m = k.length := by obtain ⟨A, c, _, h, _⟩ := hb; rw [BVs_len] at h; omega
  subst hn; subst hm
  have ha' := ha
  have hb' := hb
  obtain ⟨A, c, rfl, -⟩ := ha'
  obtain ⟨B, d, rfl, -⟩ := hb'
  have c1 := run_convert_sl (P := Tryz.prog) w X 32 9 5 A c l Tryz.underlying32 Tryz.underlying5 Tryz.underlying9 ha
  have c2 := run_convert_sl (P := Tryz.prog) w Y 32 9 5 B d k Tryz.underlying32 Tryz.underlying5 Tryz.underlying9 hb
  clear ha hb
  go_enter Tryz.func157, Tryz.ntmps157
  go_wp2
  go_ret
  exact ⟨rfl, rfl⟩

/-- An array of ten bytes, so many of them written. -/
def Ar (pre : List UInt8) : Array Value := (BVs pre ++ List.replicate (10 - pre.length) (Value.int .u8 0)).toArray
theorem Ar_at {pre : List UInt8} {k : Nat} (hk : k = pre.length) (h9 : k ≤ 9) : (Ar pre)[k]? = some (Value.int .u8 0) := by
  simp only [Ar, List.getElem?_toArray]
  rw [List.getElem?_append_right (by rw [BVs_len]; omega), BVs_len, List.getElem?_replicate, if_pos (by omega)]
theorem Ar_set {pre : List UInt8} {k v : Nat} (hk : k = pre.length) (h9 : k ≤ 9) (hv : v < 256) : (Ar pre).setIfInBounds k (Value.int .u8 (v : Int)) = Ar (pre ++ [UInt8.ofNat v]) := by
  subst hk
  have hr : 10 - pre.length = (9 - pre.length) + 1 := by omega
  have hr2 : 10 - (pre ++ [UInt8.ofNat v]).length = 9 - pre.length := by simp only [List.length_append, List.length_singleton]; omega
  simp only [Ar, List.setIfInBounds_toArray]
  rw [hr, hr2, List.replicate_succ, BVs_app, List.append_assoc]
  congr 1
  rw [List.set_append_right _ _ (by rw [BVs_len]; omega), BVs_len]
  simp only [Nat.sub_self, List.set_cons_zero, BVs, List.map_cons, List.map_nil, List.cons_append, List.nil_append]
  rw [BV_of hv]
theorem byte_or (m : Nat) (h : m < 18446744073709551616) : bits .or .u8 (bits .and .u64 (m : Int) 127 % 256) 128 = ((m % 128 + 128 : Nat) : Int) := by
  have h1 : bits .and .u64 (m : Int) 127 = ((m % 128 : Nat) : Int) := by
    rw [show (127 : Int) = ((127 : Nat) : Int) from rfl, u64_and_nat m 127 h (by omega), nat_mask7]
  rw [h1, show ((m % 128 : Nat) : Int) % 256 = ((m % 128 : Nat) : Int) from by omega, show (128 : Int) = ((128 : Nat) : Int) from rfl, u8_or_nat _ _ (by omega) (by omega),
    Nat.or_comm, nat_join 7 128 (m % 128) (by omega) (by omega)]
  omega
theorem Ar_size {pre : List UInt8} (h : pre.length ≤ 10) : (Ar pre).size = 10 := by
  simp only [Ar, List.size_toArray, List.length_append, BVs_len, List.length_replicate]; omega
theorem Ar_one (pre : List UInt8) : (Ar pre).all (·.oneCell') = true := by
  simp only [Ar, List.all_toArray, List.all_append, List.all_replicate, Bool.and_eq_true]
  refine ⟨List.all_eq_true.2 (BVs_one pre), ?_⟩
  split <;> rfl
theorem Blk.setRow {w : World} {g g' : Nat} {t : TypeId} {cs : Array Value} (h : Blk w g t cs) (hne : g ≠ g') (ds : Array Value) : Blk (w.setRow g' ds) g t cs := (setRow_other w g' g ds (by omega)).trans h
theorem below_setRow {B : Nat} {a w : World} (h : Below B a w) {g : Nat} (hg : B ≤ g) (ds : Array Value) : Below B a (w.setRow g ds) :=
  h.trans ⟨rfl, rfl, rfl, by simp, fun k hk => setRow_other w g k ds (by omega)⟩
theorem info_arr : (Tryz.prog.info? 221).map (·.size) = some 10 := by kernel_rfl
theorem digits_end {wr : World} {B m k n : Nat} {pre : List UInt8} {t : TypeId} (hb : Blk wr B t (Ar pre)) (hP : pre ++ Cm.enc m = Cm.enc n) (hk : k = pre.length) (hm : m < 128) :
    k + 1 = (Cm.enc n).length ∧ Blk (wr.setCell ⟨B, k, none⟩ (.int .u8 (m : Int))) B t (Ar (Cm.enc n)) := by
  have h10 := Cm.enc_len n
  rw [Cm.enc_small hm] at hP
  have hl : pre.length + 1 = (Cm.enc n).length := by rw [← hP]; simp
  refine ⟨by omega, ?_⟩
  have := hb.set_ k (.int .u8 (m : Int))
  rw [Ar_set hk (by omega) (by omega), hP] at this
  exact this
theorem digits_step {wr : World} {B m k n : Nat} {pre : List UInt8} {t : TypeId} (hb : Blk wr B t (Ar pre)) (hP : pre ++ Cm.enc m = Cm.enc n) (hk : k = pre.length) (h9 : k ≤ 8) (hm : m < 18446744073709551616) (hbig : 128 ≤ m) :
    Value.int .u64 ((m : Int) / 128) = .int .u64 ((m / 128 : Nat) : Int) ∧ k + 1 = (pre ++ [UInt8.ofNat (m % 128 + 128)]).length ∧ (pre ++ [UInt8.ofNat (m % 128 + 128)]) ++ Cm.enc (m / 128) = Cm.enc n ∧ m / 128 < 18446744073709551616 ∧
      Blk (wr.setCell ⟨B, k, none⟩ (.int .u8 (bits .or .u8 (bits .and .u64 (m : Int) 127 % 256) 128))) B t (Ar (pre ++ [UInt8.ofNat (m % 128 + 128)])) := by
  refine ⟨by simp, by simp [hk], ?_, by omega, ?_⟩
  · rw [← hP, Cm.enc_big hbig hm, List.append_assoc]
    rfl
  · have := hb.set_ k (.int .u8 (bits .or .u8 (bits .and .u64 (m : Int) 127 % 256) 128))
    rw [byte_or m hm, Ar_set hk (by omega) (by omega)] at this
    rw [byte_or m hm]
    exact this

set_option maxRecDepth 100000 in
set_option maxHeartbeats 400000 in
theorem digits_any (n : Nat) (h : n < 18446744073709551616) (w : World) :
    Calls Tryz.prog 161 #[.int .u64 n] w fun e w' => ∃ cs : Array Value, e = .returned (.tuple #[.agg cs, .int .i64 (Cm.enc n).length]) ∧ cs = Ar (Cm.enc n) ∧ Below w.heap.size w w' := by
  go_enter Tryz.func161, Tryz.ntmps161
  go_wp2
  go_loopw [0, 5] (fun a i wr => ∃ (m k : Nat) (pre : List UInt8), a = .int .u64 m ∧ i = .int .i64 k ∧ k = pre.length ∧ pre ++ Cm.enc m = Cm.enc n ∧ m < 18446744073709551616 ∧
      Blk wr (w.heap.size + 1) 221 (Ar pre) ∧ Blk wr w.heap.size 221 (Ar []) ∧ Below w.heap.size w wr)
    (fun a _ _ => (intOf a).toNat)
  case atStart => exact ⟨n, 0, [], rfl, rfl, rfl, rfl, h, Blk.new_at (by simp) rfl, (Blk.new_at rfl rfl).alloc _, ((Below.refl _ _).alloc (Nat.le_refl _) _).alloc (by simp) _⟩
  case round =>
    obtain ⟨m, k, pre, rfl, rfl, hk, hpre, hm, hb1, hb0, hbel⟩ := hrel
    have hlen := Cm.enc_len n
    have hlm := Cm.enc_len m
    have hl2 := congrArg List.length hpre
    rw [List.length_append] at hl2
    by_cases hbig : 128 ≤ m
    · have hlb := Cm.enc_len_big hbig
      have hk8 : k ≤ 8 := by omega
      have hcell := hb1.cell k
      have hfr := hb1.frozen k
      have hc2 := Ar_at hk (by omega)
      rw [hc2] at hcell
      have HP := Lib.hid hpre
      have HK := Lib.hid hk
      have HM := Lib.hid hm
      clear hpre hk hl2 hc2 h hm
      go_wp2
      go_roundw
      case rel =>
        have R := digits_step hb1 HP.out HK.out hk8 HM.out hbig
        exact ⟨m / 128, k + 1, _, R.1, by go_num, R.2.1, R.2.2.1, R.2.2.2.1, R.2.2.2.2, hb0.far (by simp) _, hbel.setCell (by simp) _⟩
      case measure => simp [intOf]; omega
    · have hk9 : k ≤ 9 := by omega
      have hcell := hb1.cell k
      have hfr := hb1.frozen k
      have hc2 := Ar_at hk (by omega)
      rw [hc2] at hcell
      have R := digits_end hb1 hpre hk (by omega)
      have HR := Lib.hid R
      clear R hpre hk hl2 hc2 h hm
      have hi := info_arr
      rw [← Ar_size hlen.1] at hi
      have HI := Lib.hid hi
      clear hi
      go_wp2_with (first
        | (refine wpList_load_row rfl 221 _ rfl (w.heap.size + 1) rfl 221 (Ar (Cm.enc n)) (0, 0) _ HR.out.2 Tryz.underlying221 rfl HI.out ?_)
        | (refine wpList_store_row rfl 221 _ _ rfl w.heap.size (Ar (Cm.enc n)) rfl rfl 221 (Ar []) ?c1 HI.out ?c2 (Ar_one _) ?_))
      case c1 => exact hb0.far (by simp) _
      case c2 => rw [Ar_size (by simp), Ar_size hlen.1]
      refine bodyPost_ret (results_row_tmp rfl _ _ w.heap.size 221 (Ar (Cm.enc n)) (0, 0) _ rfl (setRow_heap _ _ _ _ _ _ (hb0.far (by simp) _)) Tryz.underlying221 rfl HI.out) rfl ?_
      refine ⟨_, ?_, rfl, below_setRow (hbel.setCell (by simp) _) (Nat.le_refl _) _⟩
      rw [← HR.out.1]
      rfl

end Go.Proofs.YtmhmnkpaijoaaaaGreat.Ca

/-
  Contracts of layer 1's functions that put, and of the document's own.
-/
namespace Go.Proofs.YtmhmnkpaijoaaaaGreat.Cb
set_option linter.unusedSimpArgs false
set_option linter.unusedVariables false
open Go Go.RowKit Ck Ca

theorem info_u8 : (Tryz.prog.info? 5).map (fun i => (i.zero, i.size, i.bytes)) = some (some (.int .u8 0), 1, 1) := by kernel_rfl

set_option maxRecDepth 100000 in
set_option maxHeartbeats 400000 in
theorem numlen_any (n : Nat) (h : n < 18446744073709551616) (w : World) :
    Calls Tryz.prog 146 #[.int .u64 n] w fun e w' => e = .returned (.int .i64 (Cm.enc n).length) ∧ Below w.heap.size w w' := by
  have hlen := Cm.enc_len n
  have hi := info_arr
  rw [← Ar_size hlen.1] at hi
  have HI := Lib.hid hi
  have HH := Lib.hid h
  clear hi h
  go_enter Tryz.func146, Tryz.ntmps146
  go_wp2_with (first
    | (go_at_call 161; refine (digits_any n HH.out _).mono ?_; rintro e w1 ⟨cs, rfl, rfl, hb⟩)
    | (refine wpList_store_row rfl 221 _ _ rfl w1.heap.size (Ar (Cm.enc n)) rfl rfl 221 (Ar []) (Blk.new_at rfl rfl) HI.out ?c2 (Ar_one _) ?_))
  case c2 => rw [Ar_size (by simp), Ar_size hlen.1]
  go_ret
  exact ⟨rfl, below_setRow (hb.alloc hb.size _) hb.size _⟩

set_option maxHeartbeats 400000 in
theorem byteslen_any (A : Option Addr) (n c : Nat) (h : n ≤ 140737488355328) (w : World) :
    Calls Tryz.prog 149 #[.slice A n c] w fun e w' => e = .returned (.int .i64 ((Cm.enc n).length + n : Nat)) ∧ Below w.heap.size w w' := by
  have hlen := Cm.enc_len n
  go_enter Tryz.func149, Tryz.ntmps149
  go_wp2_with (go_at_call 146; refine (numlen_any n (by omega) _).mono ?_; rintro e w1 ⟨rfl, hb⟩)
  go_ret
  exact ⟨rfl, hb⟩

set_option maxHeartbeats 400000 in
theorem roomy_any (X : Nat → Prop) (v : Value) (n : Nat) (l : List UInt8) (m : Nat) (w : World) (hv : Sl w X 1 v n (BVs l)) (hn : n ≤ 140737488355328) (hm : n + m ≤ 140737488355328) :
    Calls Tryz.prog 145 #[v, .int .i64 m] w fun e w' => Made w 5 l e w' := by
  have hnl : n = l.length := by obtain ⟨A, c, _, h, _⟩ := hv; rw [BVs_len] at h; omega
  subst hnl
  have hv' := hv
  obtain ⟨A, c, rfl, -⟩ := hv'
  obtain ⟨i0, hi0, hz0, hz1, hz2⟩ := info_parts info_u8
  go_enter Tryz.func145, Tryz.ntmps145
  go_wp2_with (first
    | (refine wpList_make_own _ rfl _ _ 32 rfl w.heap.size 5 i0 _ 1 Tryz.underlying32 hi0 hz0 hz1 .i64 .i64 _ (l.length + m) rfl rfl (by omega) (by rw [hz2]; omega) (by simp only [maxLen]; omega) (Nat.le_refl _) ?_; intro w1 hown1 hg1)
    | (at_builtin; refine wpList_append_sl _ rfl (.tmp 9) (.tmp 10) _ rfl w.heap.size 5 i0 _ 1 1 Tryz.underlying32 hi0 hz0 hz1 hz2 rfl (by omega) (.slice (some ⟨w.heap.size, 0, none⟩) 0 (l.length + m)) 0 [] rfl hown1 X _ l.length (BVs l) rfl (hv.grown hg1 (by simp)) (BVs_one l) (by simp only [maxLen]; omega) (by omega) hg1.size ?_; intro v2 w2 happ))
  go_ret
  refine ⟨v2, rfl, by simpa using happ.1, ?_⟩
  exact (below_of_grown hg1 (by simp)).grown happ.2.1 hg1.size (by simp [Value.ownBlock])

theorem slice_arr (k : Nat) (hk : k ≤ 10) (g : Nat) (W : World) :
    (Instr.sliceAt 221 (.pointer (some ⟨g, 0, none⟩)) none (some (.int .i64 (k : Int))) none).run Tryz.prog W = .ok (.slice (some ⟨g, 0, none⟩) k 10) W := by
  have al : Tryz.prog.arrayLen 221 = 10 := by kernel_rfl
  have he : (sizeOf (Tryz.prog.elem 221)).run Tryz.prog W = .ok 1 W := by kernel_rfl
  rw [run_sliceAt_array_h W 221 _ (by kernel_rfl) .i64 k (by omega) (by rw [al]; omega), he, al]
  simp [Result.andThen, slicedAt, Addr.add]
theorem Sl_arr {w : World} {X : Nat → Prop} {g : Nat} {t : TypeId} {l : List UInt8} (h : Blk w g t (Ar l)) (hl : l.length ≤ 10) (hX : ¬ X g) : Sl w X 1 (.slice (some ⟨g, 0, none⟩) l.length 10) l.length (BVs l) :=
  ⟨_, _, rfl, by simp [BVs_len], hl, by simp only [maxLen]; omega, fun _ => ⟨_, rfl, h.lt, hX, fun j u hu => by
    have hj : j < (BVs l).length := (List.getElem?_eq_some_iff.1 hu).1
    have ha : (⟨g, 0, none⟩ : Addr).add j = ⟨g, j, none⟩ := by unfold Addr.add; split <;> simp_all
    rw [ha, h.cell j]
    simp only [Ar, List.getElem?_toArray]
    rw [List.getElem?_append_left hj]
    exact hu⟩⟩

set_option maxRecDepth 100000 in
set_option maxHeartbeats 400000 in
theorem addnum_any (base : Nat) (v : Value) (n : Nat) (l : List UInt8) (w : World) (hown : w.ownsRow base 5 1 v l.length (BVs l)) (hbase : base ≤ w.heap.size) (hl : l.length ≤ 140737488355318) (h : n < 18446744073709551616) :
    Calls Tryz.prog 144 #[v, .int .u64 n] w fun e w' => Onto w base 5 v (l ++ Cm.enc n) e w' := by
  have hlen := Cm.enc_len n
  obtain ⟨i0, hi0, hz0, hz1, hz2⟩ := info_parts info_u8
  have hi := info_arr
  rw [← Ar_size hlen.1] at hi
  have HI := Lib.hid hi
  have HH := Lib.hid h
  clear hi h
  have hsl := slice_arr _ hlen.1
  go_enter Tryz.func144, Tryz.ntmps144
  go_wp2_with (first
    | (go_at_call 161; refine (digits_any n HH.out _).mono ?_; rintro e w1 ⟨cs, rfl, rfl, hb⟩)
    | (refine wpList_store_row rfl 221 _ _ rfl w1.heap.size (Ar (Cm.enc n)) rfl rfl 221 (Ar []) (Blk.new_at rfl rfl) HI.out ?c2 (Ar_one _) ?_)
    | (at_builtin; refine wpList_append_sl _ rfl (.tmp 12) (.tmp 14) _ rfl base 5 i0 _ 1 1 Tryz.underlying32 hi0 hz0 hz1 hz2 rfl (by omega) v l.length (BVs l) rfl (own_below hown (below_setRow (hb.alloc hb.size _) hb.size _)) (fun _ => False) _ (Cm.enc n).length (BVs (Cm.enc n)) rfl (Sl_arr (setRow_heap _ _ _ _ _ _ (Blk.new_at rfl rfl)) hlen.1 (fun h => h)) (BVs_one _) (by simp only [maxLen]; omega) (by omega) (Nat.le_trans hbase (below_setRow (hb.alloc hb.size _) hb.size _).size) ?_; intro v2 w2 happ))
  case c2 => rw [Ar_size (by simp), Ar_size hlen.1]
  go_ret
  exact Onto.of (below_setRow (hb.alloc hb.size _) hb.size _) happ

set_option maxHeartbeats 400000 in
theorem addbytes_any (base : Nat) (X : Nat → Prop) (v : Value) (l : List UInt8) (A : Option Addr) (n c : Nat) (x : List UInt8) (w : World) (hown : w.ownsRow base 5 1 v l.length (BVs l)) (hbase : base ≤ w.heap.size)
    (hx : Sl w X 1 (.slice A n c) n (BVs x)) (hX : ∀ g, v.ownBlock = some g → X g) (hl : l.length ≤ 140737488355318) (hn : l.length + n ≤ 140737488355318) :
    Calls Tryz.prog 148 #[v, .slice A n c] w fun e w' => Onto w base 5 v (l ++ Cm.encB x) e w' := by
  have hnl : n = x.length := by obtain ⟨A, c, _, h, _⟩ := hx; rw [BVs_len] at h; omega
  subst hnl
  have hlen := Cm.enc_len x.length
  obtain ⟨i0, hi0, hz0, hz1, hz2⟩ := info_parts info_u8
  go_enter Tryz.func148, Tryz.ntmps148
  go_wp2_with (first
    | (go_at_call 144; refine (addnum_any base v x.length l _ hown hbase (by omega) (by omega)).mono ?_; rintro e w1 ⟨v1, rfl, hown1, hg1, hr1⟩)
    | (at_builtin; refine wpList_append_sl _ rfl (.tmp 9) (.tmp 10) _ rfl base 5 i0 _ 1 1 Tryz.underlying32 hi0 hz0 hz1 hz2 rfl (by omega) v1 _ _ rfl hown1 X _ x.length (BVs x) rfl (hx.grown hg1 (fun g hg _ => hX g hg)) (BVs_one _) (by rw [List.length_append]; simp only [maxLen]; omega) (by rw [List.length_append]; omega) (Nat.le_trans hbase hg1.size) ?_; intro v2 w2 happ))
  go_ret
  have R := Onto.of (Below.refl _ _) happ
  rw [Cm.encB, ← List.append_assoc]
  exact R.then_ hg1 hr1

set_option maxHeartbeats 400000 in
theorem putnum_any (X : Nat → Prop) (v : Value) (n : Nat) (b : List UInt8) (m : Nat) (w : World) (hv : Sl w X 1 v n (BVs b)) (hn : n ≤ 140737488355318) (hm : m < 18446744073709551616) :
    Calls Tryz.prog 128 #[v, .int .u64 m] w fun e w' => Made w 5 (b ++ Cm.enc m) e w' := by
  have hnl : n = b.length := by obtain ⟨A, c, _, h, _⟩ := hv; rw [BVs_len] at h; omega
  subst hnl
  have hlen := Cm.enc_len m
  have HM := Lib.hid hm
  clear hm
  go_enter Tryz.func128, Tryz.ntmps128
  go_wp2_with (first
    | (go_at_call 146; refine (numlen_any m HM.out _).mono ?_; rintro e w1 ⟨rfl, hb1⟩)
    | (go_at_call 145; refine (roomy_any X v b.length b (Cm.enc m).length _ (hv.after hb1) (by omega) (by omega)).mono ?_; rintro e w2 ⟨v2, rfl, hown2, hb2⟩)
    | (go_at_call 144; refine (addnum_any w1.heap.size v2 m b _ hown2 hb2.size (by omega) HM.out).mono ?_; rintro e w3 ⟨v3, rfl, hown3, hg3, hr3⟩))
  go_ret
  obtain ⟨v4, he, hown4, hb4⟩ := Made.later hb1 (Made.onto hown2 hb2 ⟨v3, rfl, hown3, hg3, hr3⟩)
  exact ⟨v4, he, own_base hown4 hb1.size, hb4⟩

set_option maxHeartbeats 400000 in
theorem putbytes_any (X : Nat → Prop) (v x : Value) (n k : Nat) (b l : List UInt8) (w : World) (hv : Sl w X 1 v n (BVs b)) (hx : Sl w X 1 x k (BVs l)) (hn : n ≤ 140737488355318) (hk : n + k ≤ 140737488355318) :
    Calls Tryz.prog 130 #[v, x] w fun e w' => Made w 5 (b ++ Cm.encB l) e w' := by
  have hnl : n = b.length := by obtain ⟨A, c, _, h, _⟩ := hv; rw [BVs_len] at h; omega
  have hkl : k = l.length := by obtain ⟨A, c, _, h, _⟩ := hx; rw [BVs_len] at h; omega
  subst hnl; subst hkl
  have hlen := Cm.enc_len l.length
  have hx' := hx
  obtain ⟨A, c, rfl, -⟩ := hx'
  go_enter Tryz.func130, Tryz.ntmps130
  go_wp2_with (first
    | (go_at_call 149; refine (byteslen_any A l.length c (by omega) _).mono ?_; rintro e w1 ⟨rfl, hb1⟩)
    | (go_at_call 145; refine (roomy_any X v b.length b ((Cm.enc l.length).length + l.length) _ (hv.after hb1) (by omega) (by omega)).mono ?_; rintro e w2 ⟨v2, rfl, hown2, hb2⟩)
    | (go_at_call 148; refine (addbytes_any w1.heap.size (w1.heap.size ≤ ·) v2 b A _ c l _ hown2 hb2.size (((hx.after hb1).old' (Nat.le_refl _)).after hb2) (fun g hg => (hown2.lt g hg).1) (by omega) (by omega)).mono ?_; rintro e w3 ⟨v3, rfl, hown3, hg3, hr3⟩))
  go_ret
  obtain ⟨v4, he, hown4, hb4⟩ := Made.later hb1 (Made.onto hown2 hb2 ⟨v3, rfl, hown3, hg3, hr3⟩)
  exact ⟨v4, he, own_base hown4 hb1.size, hb4⟩

end Go.Proofs.YtmhmnkpaijoaaaaGreat.Cb

/-
  Contract of layer 1's PutList.
-/
namespace Go.Proofs.YtmhmnkpaijoaaaaGreat.Cc
set_option linter.unusedSimpArgs false
set_option linter.unusedVariables false
open Go Go.RowKit Ck Ca Cb

set_option maxHeartbeats 400000 in
theorem putlist_any (X Y : Nat → Prop) (v : Value) (n : Nat) (b : List UInt8) (A : Option Addr) (c : Nat) (ls : List (List UInt8)) (w : World) (hv : Sl w X 1 v n (BVs b)) (hls : Ls w Y (.slice A ls.length c) ls)
    (hn : n ≤ 274877906944) (ht : (Cm.encP ls).length ≤ 274877906944) :
    Calls Tryz.prog 178 #[v, .slice A ls.length c] w fun e w' => Made w 5 (b ++ Cm.encL ls) e w' := by
  have hnl : n = b.length := by obtain ⟨A, c, _, h, _⟩ := hv; rw [BVs_len] at h; omega
  subst hnl
  have hlen := Cm.enc_len ls.length
  have hll := Cm.len_le_encP ls
  go_enter Tryz.func178, Tryz.ntmps178
  go_wp2_with (go_at_call 146; refine (numlen_any ls.length (by omega) _).mono ?_; rintro e w1 ⟨rfl, hb1⟩)
  go_loopw [5, 16] (fun m i wr => ∃ k : Nat, k ≤ ls.length ∧ i = .int .i64 k ∧ m = .int .i64 ((Cm.enc ls.length).length + (Cm.encP (ls.take k)).length : Nat) ∧ Below w.heap.size w wr)
    (fun _ i _ => ls.length - (intOf i).toNat)
  case atStart => exact ⟨0, Nat.zero_le _, rfl, by simp [Cm.encP], hb1⟩
  case round =>
    obtain ⟨k, hk, rfl, rfl, hbr⟩ := hrel
    have hle := Cm.encP_le ls k
    by_cases hlt : k < ls.length
    · have hle2 := Cm.encP_le ls (k + 1)
      have htk := Cm.encP_take hlt
      have hpl := Cm.part_le_encP ls k hlt
      have hel := Cm.enc_len ls[k].length
      obtain ⟨ad, B, d, rfl, hcell, hx⟩ := (hls.after hbr).at_ hlt
      have HT := Lib.hid htk
      clear htk
      go_wp2_with (go_at_call 149; refine (byteslen_any B ls[k].length d (by omega) _).mono ?_; rintro e w2 ⟨rfl, hb2⟩)
      go_roundw
      case rel =>
        have HT2 := congrArg List.length HT.out
        rw [List.length_append, Cm.encB_len] at HT2
        exact ⟨k + 1, by omega, by go_num, by rw [HT2]; go_num, hbr.trans (hb2.mono hbr.size)⟩
      case measure => simp [intOf]; omega
    · have hke : k = ls.length := by omega
      subst hke
      rw [List.take_length] at hle ⊢
      go_wp2_with (first
        | (go_at_call 145; refine (roomy_any X v b.length b ((Cm.enc ls.length).length + (Cm.encP ls).length) _ (hv.after hbr) (by omega) (by omega)).mono ?_; rintro e w2 ⟨v2, rfl, hown2, hb2⟩)
        | (go_at_call 144; refine (addnum_any wr.heap.size v2 ls.length b _ hown2 hb2.size (by omega) (by omega)).mono ?_; rintro e w3 ⟨v3, rfl, hown3, hg3, hr3⟩))
      have hown4 := own_base hown3 hbr.size
      have hb4 : Below w.heap.size w w3 := hbr.trans ((hb2.mono hbr.size).grown hg3 (Nat.le_trans hbr.size hb2.size) (fun g hg => Nat.le_trans hbr.size (hown2.lt g hg).1))
      clear hown3 hg3 hr3 hown2 hb2
      go_loopw [0, 34] (fun u i wq => ∃ k : Nat, k ≤ ls.length ∧ i = .int .i64 k ∧ wq.ownsRow w.heap.size 5 1 u (b ++ Cm.enc ls.length ++ Cm.encP (ls.take k)).length (BVs (b ++ Cm.enc ls.length ++ Cm.encP (ls.take k))) ∧ Below w.heap.size w wq)
        (fun _ i _ => ls.length - (intOf i).toNat)
      case atStart => exact ⟨0, Nat.zero_le _, rfl, by simpa [Cm.encP] using hown4, hb4⟩
      case round =>
        obtain ⟨k, hk, rfl, hown, hbq⟩ := hrel
        have hle := Cm.encP_le ls k
        by_cases hlt : k < ls.length
        · have htk := Cm.encP_take hlt
          have hpl := Cm.part_le_encP ls k hlt
          have hx := (hls.old' (Nat.le_refl _)).below hbq (fun k _ h => h)
          obtain ⟨ad, B, d, rfl, hcell, hx⟩ := hx.at_ hlt
          have HT := Lib.hid htk
          clear htk
          go_wp2_with (go_at_call 148; refine (addbytes_any w.heap.size (w.heap.size ≤ ·) _ _ B _ d ls[k] _ hown hbq.size hx (fun g hg => (hown.lt g hg).1) (by simp only [List.length_append]; omega) (by simp only [List.length_append]; omega)).mono ?_; rintro e w5 ⟨v5, rfl, hown5, hg5, hr5⟩)
          go_roundw
          case rel =>
            exact ⟨k + 1, by omega, by go_num, by rw [HT.out, ← List.append_assoc]; exact hown5, hbq.grown hg5 hbq.size (fun g hg => (hown.lt g hg).1)⟩
          case measure => simp [intOf]; omega
        · have hke : k = ls.length := by omega
          subst hke
          rw [List.take_length] at hown
          go_wp2
          go_ret
          exact ⟨_, rfl, by rw [Cm.encL, ← List.append_assoc]; exact hown, hbq⟩

end Go.Proofs.YtmhmnkpaijoaaaaGreat.Cc
