/-
  Layer 6 (op): the document's own fields and Check, kind by kind.
-/
import Derived.Test.YtkoedonllfmaaaaGreatVD09
import Derived.Test.YtkoedonllfmaaaaGreatVD07
namespace Go.Proofs.YtkoedonllfmaaaaGreat.Ph
set_option linter.unusedSimpArgs false
open Go Go.RowKit Ck Kw Pm Pa Pb Pc Pd Pe Pf Pg
set_option linter.unusedVariables false

theorem results_tmp4 {fn : Func} {t u v x : Tmp} (h : fn.results = #[.tmp t, .tmp u, .tmp v, .tmp x]) (tmps : Array Value) (P : Program) (w : World) :
    (results fn tmps).run P w = .ok (.tuple #[tmps.getD t undef, tmps.getD u undef, tmps.getD v undef, tmps.getD x undef]) w := by
  simp [results, h]
set_option maxRecDepth 100000 in
set_option maxHeartbeats 1000000 in
theorem rfields_any (k : Int) (w : World) :
    Calls Tryz.prog 87 #[.int .i64 k] w fun e w' => e = .returned (.tuple #[.bool (hasT k), .bool (hasG k), .bool (hasO k), .bool (hasR k)]) ∧ w = w' := by
  by_cases h1 : k = 1
  · subst h1
    go_enter Tryz.func87, Tryz.ntmps87
    go_wp2
    refine bodyPost_ret (results_tmp4 rfl _ _ _) rfl ?_
    exact ⟨rfl, rfl⟩
  · by_cases h2 : k = 2
    · subst h2
      clear h1
      go_enter Tryz.func87, Tryz.ntmps87
      go_wp2
      refine bodyPost_ret (results_tmp4 rfl _ _ _) rfl ?_
      exact ⟨rfl, rfl⟩
    · by_cases h3 : k = 3
      · subst h3
        clear h1 h2
        go_enter Tryz.func87, Tryz.ntmps87
        go_wp2
        refine bodyPost_ret (results_tmp4 rfl _ _ _) rfl ?_
        exact ⟨rfl, rfl⟩
      · by_cases h4 : k = 4
        · subst h4
          clear h1 h2 h3
          go_enter Tryz.func87, Tryz.ntmps87
          go_wp2
          refine bodyPost_ret (results_tmp4 rfl _ _ _) rfl ?_
          exact ⟨rfl, rfl⟩
        · have e1 : (k == 1) = false := beq_eq_false_iff_ne.2 h1
          have e2 : (k == 2) = false := beq_eq_false_iff_ne.2 h2
          have e3 : (k == 3) = false := beq_eq_false_iff_ne.2 h3
          have e4 : (k == 4) = false := beq_eq_false_iff_ne.2 h4
          have H : Hid (hasT k = false ∧ hasG k = false ∧ hasO k = false ∧ hasR k = false) := Lib.hid (by simp [hasT, hasG, hasO, hasR, e1, e2, e3, e4])
          rw [H.out.1, H.out.2.1, H.out.2.2.1, H.out.2.2.2]
          clear h1 h2 h3 h4
          go_enter Tryz.func87, Tryz.ntmps87
          go_wp2
          refine bodyPost_ret (results_tmp4 rfl _ _ _) rfl ?_
          exact ⟨rfl, rfl⟩

/-- The operation stands there, beside what was there. -/
structure RK (w0 : World) (g1 : Nat) (o : O) (A : Option Addr) (c : Nat) (W : World) : Prop where
  below : Below w0.heap.size w0 W
  op : OB W g1 o A c
theorem RK.later {w0 W W' : World} {g1 : Nat} {o : O} {A : Option Addr} {c : Nat} (h : RK w0 g1 o A c W) (b : Below W.heap.size W W') : RK w0 g1 o A c W' :=
  ⟨h.below.trans (b.mono h.below.size), Blk.below h.op b (Blk.lt h.op)⟩
theorem rk_start (w : World) (o : O) (A : Option Addr) (c : Nat) : RK w w.heap.size o A c (w.alloc (.cells (OC o A c) 38)) :=
  ⟨(Below.refl _ w).alloc (Nat.le_refl _) _, Blk.new w _ _⟩
theorem recs_none {l : List Tx} (h : l.length < 1) : areRecs l = false := by
  have : decide (0 < l.length) = false := decide_eq_false (by omega)
  simp only [areRecs, this, Bool.false_and]
theorem recs_many {l : List Tx} (h : 4 < l.length) : areRecs l = false := by
  have : decide (l.length ≤ 4) = false := decide_eq_false (by omega)
  simp only [areRecs, this, Bool.and_false, Bool.false_and]
theorem recs_yes {l : List Tx} (h : ¬ l.length < 1) (h4 : ¬ 4 < l.length) (ha : l.all (fun x => decide (x.length ≤ 64)) = true) : areRecs l = true := by
  have q1 : decide (0 < l.length) = true := decide_eq_true (by omega)
  have q2 : decide (l.length ≤ 4) = true := decide_eq_true (by omega)
  simp only [areRecs, ha, q1, q2, Bool.and_self]
theorem all_take {l : List Tx} {k : Nat} (h : k < l.length) : (l.take (k + 1)).all (fun x => decide (x.length ≤ 64)) = ((l.take k).all (fun x => decide (x.length ≤ 64)) && decide (l[k].length ≤ 64)) := by
  rw [List.take_succ_eq_append_getElem h, List.all_append]
  simp
theorem all_not {l : List Tx} {k : Nat} (h : k < l.length) (hk : 64 < l[k].length) : areRecs l = false := by
  have : l.all (fun x => decide (x.length ≤ 64)) = false := by
    rw [List.all_eq_false]
    exact ⟨l[k], List.getElem_mem h, by simp; omega⟩
  simp [areRecs, this]

set_option maxRecDepth 100000 in
set_option maxHeartbeats 2000000 in
theorem rcheck_none (o : O) (A : Option Addr) (c : Nat) (hk : known o.kind = false) (w : World) :
    Calls Tryz.prog 46 #[OV o A c] w fun e w' => e = .returned (.int .i64 (check o)) ∧ Below w.heap.size w w' := by
  have hc : check o = 60 := by simp [check, hk]
  rw [hc]
  have HR := Lib.hid (rfields_any o.kind (w.alloc (.cells (OC o A c) 38)))
  have HC := Lib.hid (rk_start w o A c)
  have hq : o.kind < 0 ∨ 4 < o.kind := by
    simp only [known, Bool.and_eq_false_iff, decide_eq_false_iff_not] at hk
    omega
  clear hc hk
  obtain ⟨kind, topic, group, off, recs⟩ := o
  unfold OV
  simp only at hq HR ⊢
  generalize hasT kind = ht at *
  generalize hasG kind = hg at *
  generalize hasO kind = ho at *
  generalize hasR kind = hr at *
  by_cases h0 : kind < 0
  · have d0 : decide (kind < 0) = true := decide_eq_true h0
    clear hq h0
    go_enter Tryz.func46, Tryz.ntmps46
    go_wp2_with fail
    refine HR.out.mono ?_
    rintro e w2 ⟨rfl, rfl⟩
    obtain ⟨a0, a1, a2, a3, a4⟩ := HC.out.op.cells
    simp only at a0 a1 a2 a3 a4
    go_wp2_with fail
    go_ret
    exact ⟨rfl, HC.out.below⟩
  · have d0 : decide (kind < 0) = false := decide_eq_false h0
    have d4 : decide (4 < kind) = true := decide_eq_true (by omega)
    clear hq h0
    go_enter Tryz.func46, Tryz.ntmps46
    go_wp2_with fail
    refine HR.out.mono ?_
    rintro e w2 ⟨rfl, rfl⟩
    obtain ⟨a0, a1, a2, a3, a4⟩ := HC.out.op.cells
    simp only at a0 a1 a2 a3 a4
    go_wp2_with fail
    go_ret
    exact ⟨rfl, HC.out.below⟩

set_option maxRecDepth 100000 in
set_option maxHeartbeats 4000000 in
theorem rcheck_0 (o : O) (A : Option Addr) (c : Nat) (X : Nat → Prop) (hk : o.kind = 0) (w : World) (hl : o.recs.length ≤ 140737488355328) (hls : Ls w X (.slice A o.recs.length c) o.recs) :
    Calls Tryz.prog 46 #[OV o A c] w fun e w' => e = .returned (.int .i64 (check o)) ∧ Below w.heap.size w w' := by
  have HRF := Lib.hid (rfields_any 0)
  obtain ⟨kind, topic, group, off, recs⟩ := o
  unfold OV
  simp only at hk hl hls ⊢
  subst hk
  have HLS := Lib.hid hls
  have HL := Lib.hid hl
  clear hls
  by_cases h_topic : topic.isEmpty = true
  · have e_topic := List.isEmpty_iff.1 h_topic
    subst e_topic
    clear h_topic
    by_cases h_group : group.isEmpty = true
    · have e_group := List.isEmpty_iff.1 h_group
      subst e_group
      clear h_group
      by_cases h_off : off = 0
      · subst h_off
        by_cases h_recs : recs.isEmpty = true
        · have e_recs := List.isEmpty_iff.1 h_recs
          subst e_recs
          clear h_recs
          go_enter Tryz.func46, Tryz.ntmps46
          go_wp2_with fail
          refine (HRF.out _).mono ?_
          rintro e w2 ⟨he, rfl⟩
          have he : e = .returned (.tuple #[.bool false, .bool false, .bool false, .bool false]) := he
          subst he
          have HC := Lib.hid (rk_start w ⟨0, [], [], 0, []⟩ A c)
          go_wp2_with fail
          obtain ⟨a0, a1, a2, a3, a4⟩ := HC.out.op.cells
          simp only at a0 a1 a2 a3 a4
          go_loop [7] (fun i => ∃ k : Nat, k ≤ ([] : List Tx).length ∧ i = .int .i64 k ∧ (([] : List Tx).take k).all (fun x => decide (x.length ≤ 64)) = true) (fun i => ([] : List Tx).length - (intOf i).toNat)
          case atStart => exact ⟨0, Nat.zero_le _, rfl, rfl⟩
          case round =>
            obtain ⟨k, hk, rfl, hall⟩ := hrel
            have hk0 : k = 0 := by simpa using hk
            subst hk0
            clear hall hk
            go_wp2_with fail
            go_ret
            exact ⟨by rw [show check ⟨0, [], [], 0, []⟩ = 0 from by simp [check, more, known, badName, badRecs, badOff, hasT, hasG, hasO, hasR]]; rfl, HC.out.below⟩
        · have e_recs := Bool.eq_false_iff.2 h_recs
          have p_recs : 0 < recs.length := by cases recs with | nil => exact absurd rfl h_recs | cons _ _ => simp
          clear h_recs
          go_enter Tryz.func46, Tryz.ntmps46
          go_wp2_with fail
          refine (HRF.out _).mono ?_
          rintro e w2 ⟨he, rfl⟩
          have he : e = .returned (.tuple #[.bool false, .bool false, .bool false, .bool false]) := he
          subst he
          have HC := Lib.hid (rk_start w ⟨0, [], [], 0, recs⟩ A c)
          go_wp2_with fail
          go_ret
          exact ⟨by rw [show check ⟨0, [], [], 0, recs⟩ = 60 from by simp [check, more, known, badName, badRecs, badOff, hasT, hasG, hasO, hasR, e_recs]]; rfl, HC.out.below⟩
      · have e_off : (off == 0) = false := beq_eq_false_iff_ne.2 h_off
        have n_off : (off != 0) = true := by rw [bne, e_off]; rfl
        clear h_off
        go_enter Tryz.func46, Tryz.ntmps46
        go_wp2_with fail
        refine (HRF.out _).mono ?_
        rintro e w2 ⟨he, rfl⟩
        have he : e = .returned (.tuple #[.bool false, .bool false, .bool false, .bool false]) := he
        subst he
        have HC := Lib.hid (rk_start w ⟨0, [], [], off, recs⟩ A c)
        go_wp2_with fail
        go_ret
        exact ⟨by rw [show check ⟨0, [], [], off, recs⟩ = 60 from by simp [check, more, known, badName, badRecs, badOff, hasT, hasG, hasO, hasR, n_off]]; rfl, HC.out.below⟩
    · have e_group := Bool.eq_false_iff.2 h_group
      clear h_group
      go_enter Tryz.func46, Tryz.ntmps46
      go_wp2_with fail
      refine (HRF.out _).mono ?_
      rintro e w2 ⟨he, rfl⟩
      have he : e = .returned (.tuple #[.bool false, .bool false, .bool false, .bool false]) := he
      subst he
      have HC := Lib.hid (rk_start w ⟨0, [], group, off, recs⟩ A c)
      go_wp2_with fail
      go_ret
      exact ⟨by rw [show check ⟨0, [], group, off, recs⟩ = 60 from by simp [check, more, known, badName, badRecs, badOff, hasT, hasG, hasO, hasR, e_group]]; rfl, HC.out.below⟩
  · have e_topic := Bool.eq_false_iff.2 h_topic
    clear h_topic
    go_enter Tryz.func46, Tryz.ntmps46
    go_wp2_with fail
    refine (HRF.out _).mono ?_
    rintro e w2 ⟨he, rfl⟩
    have he : e = .returned (.tuple #[.bool false, .bool false, .bool false, .bool false]) := he
    subst he
    have HC := Lib.hid (rk_start w ⟨0, topic, group, off, recs⟩ A c)
    go_wp2_with fail
    go_ret
    exact ⟨by rw [show check ⟨0, topic, group, off, recs⟩ = 60 from by simp [check, more, known, badName, badRecs, badOff, hasT, hasG, hasO, hasR, e_topic]]; rfl, HC.out.below⟩

set_option maxRecDepth 100000 in
set_option maxHeartbeats 4000000 in
theorem rcheck_1 (o : O) (A : Option Addr) (c : Nat) (X : Nat → Prop) (hk : o.kind = 1) (w : World) (hl : o.recs.length ≤ 140737488355328) (hls : Ls w X (.slice A o.recs.length c) o.recs) :
    Calls Tryz.prog 46 #[OV o A c] w fun e w' => e = .returned (.int .i64 (check o)) ∧ Below w.heap.size w w' := by
  have HRF := Lib.hid (rfields_any 1)
  obtain ⟨kind, topic, group, off, recs⟩ := o
  unfold OV
  simp only at hk hl hls ⊢
  subst hk
  have HLS := Lib.hid hls
  have HL := Lib.hid hl
  clear hls
  by_cases h_group : group.isEmpty = true
  · have e_group := List.isEmpty_iff.1 h_group
    subst e_group
    clear h_group
    by_cases h_off : off = 0
    · subst h_off
      by_cases h_recs : recs.isEmpty = true
      · have e_recs := List.isEmpty_iff.1 h_recs
        subst e_recs
        clear h_recs
        go_enter Tryz.func46, Tryz.ntmps46
        go_wp2_with fail
        refine (HRF.out _).mono ?_
        rintro e w2 ⟨he, rfl⟩
        have he : e = .returned (.tuple #[.bool true, .bool false, .bool false, .bool false]) := he
        subst he
        have HC := Lib.hid (rk_start w ⟨1, topic, [], 0, []⟩ A c)
        go_wp2_with fail
        refine (rname_any topic _).mono ?_
        rintro e w5 ⟨he, hb⟩
        have HC5 := Lib.hid (HC.out.later hb)
        clear hb
        obtain ⟨a0, a1, a2, a3, a4⟩ := HC5.out.op.cells
        simp only at a0 a1 a2 a3 a4
        by_cases hn : name topic = true
        · rw [hn] at he
          subst he
          have HN_topic := Lib.hid hn
          clear hn
          go_wp2_with fail
          go_loop [7] (fun i => ∃ k : Nat, k ≤ ([] : List Tx).length ∧ i = .int .i64 k ∧ (([] : List Tx).take k).all (fun x => decide (x.length ≤ 64)) = true) (fun i => ([] : List Tx).length - (intOf i).toNat)
          case atStart => exact ⟨0, Nat.zero_le _, rfl, rfl⟩
          case round =>
            obtain ⟨k, hk, rfl, hall⟩ := hrel
            have hk0 : k = 0 := by simpa using hk
            subst hk0
            clear hall hk
            go_wp2_with fail
            go_ret
            exact ⟨by rw [show check ⟨1, topic, [], 0, []⟩ = 0 from by simp [check, more, known, badName, badRecs, badOff, hasT, hasG, hasO, hasR, HN_topic.out]]; rfl, HC5.out.below⟩
        · have hn := Bool.eq_false_iff.2 hn
          rw [hn] at he
          subst he
          have HN_topic := Lib.hid hn
          clear hn
          go_wp2_with fail
          go_ret
          exact ⟨by rw [show check ⟨1, topic, [], 0, []⟩ = 61 from by simp [check, more, known, badName, badRecs, badOff, hasT, hasG, hasO, hasR, HN_topic.out]]; rfl, HC5.out.below⟩
      · have e_recs := Bool.eq_false_iff.2 h_recs
        have p_recs : 0 < recs.length := by cases recs with | nil => exact absurd rfl h_recs | cons _ _ => simp
        clear h_recs
        go_enter Tryz.func46, Tryz.ntmps46
        go_wp2_with fail
        refine (HRF.out _).mono ?_
        rintro e w2 ⟨he, rfl⟩
        have he : e = .returned (.tuple #[.bool true, .bool false, .bool false, .bool false]) := he
        subst he
        have HC := Lib.hid (rk_start w ⟨1, topic, [], 0, recs⟩ A c)
        go_wp2_with fail
        go_ret
        exact ⟨by rw [show check ⟨1, topic, [], 0, recs⟩ = 60 from by simp [check, more, known, badName, badRecs, badOff, hasT, hasG, hasO, hasR, e_recs]]; rfl, HC.out.below⟩
    · have e_off : (off == 0) = false := beq_eq_false_iff_ne.2 h_off
      have n_off : (off != 0) = true := by rw [bne, e_off]; rfl
      clear h_off
      go_enter Tryz.func46, Tryz.ntmps46
      go_wp2_with fail
      refine (HRF.out _).mono ?_
      rintro e w2 ⟨he, rfl⟩
      have he : e = .returned (.tuple #[.bool true, .bool false, .bool false, .bool false]) := he
      subst he
      have HC := Lib.hid (rk_start w ⟨1, topic, [], off, recs⟩ A c)
      go_wp2_with fail
      go_ret
      exact ⟨by rw [show check ⟨1, topic, [], off, recs⟩ = 60 from by simp [check, more, known, badName, badRecs, badOff, hasT, hasG, hasO, hasR, n_off]]; rfl, HC.out.below⟩
  · have e_group := Bool.eq_false_iff.2 h_group
    clear h_group
    go_enter Tryz.func46, Tryz.ntmps46
    go_wp2_with fail
    refine (HRF.out _).mono ?_
    rintro e w2 ⟨he, rfl⟩
    have he : e = .returned (.tuple #[.bool true, .bool false, .bool false, .bool false]) := he
    subst he
    have HC := Lib.hid (rk_start w ⟨1, topic, group, off, recs⟩ A c)
    go_wp2_with fail
    go_ret
    exact ⟨by rw [show check ⟨1, topic, group, off, recs⟩ = 60 from by simp [check, more, known, badName, badRecs, badOff, hasT, hasG, hasO, hasR, e_group]]; rfl, HC.out.below⟩

set_option maxRecDepth 100000 in
set_option maxHeartbeats 4000000 in
theorem rcheck_2 (o : O) (A : Option Addr) (c : Nat) (X : Nat → Prop) (hk : o.kind = 2) (w : World) (hl : o.recs.length ≤ 140737488355328) (hls : Ls w X (.slice A o.recs.length c) o.recs) :
    Calls Tryz.prog 46 #[OV o A c] w fun e w' => e = .returned (.int .i64 (check o)) ∧ Below w.heap.size w w' := by
  have HRF := Lib.hid (rfields_any 2)
  obtain ⟨kind, topic, group, off, recs⟩ := o
  unfold OV
  simp only at hk hl hls ⊢
  subst hk
  have HLS := Lib.hid hls
  have HL := Lib.hid hl
  clear hls
  by_cases h_group : group.isEmpty = true
  · have e_group := List.isEmpty_iff.1 h_group
    subst e_group
    clear h_group
    by_cases h_off : off = 0
    · subst h_off
      go_enter Tryz.func46, Tryz.ntmps46
      go_wp2_with fail
      refine (HRF.out _).mono ?_
      rintro e w2 ⟨he, rfl⟩
      have he : e = .returned (.tuple #[.bool true, .bool false, .bool false, .bool true]) := he
      subst he
      have HC := Lib.hid (rk_start w ⟨2, topic, [], 0, recs⟩ A c)
      go_wp2_with fail
      refine (rname_any topic _).mono ?_
      rintro e w5 ⟨he, hb⟩
      have HC5 := Lib.hid (HC.out.later hb)
      clear hb
      obtain ⟨a0, a1, a2, a3, a4⟩ := HC5.out.op.cells
      simp only at a0 a1 a2 a3 a4
      by_cases hn : name topic = true
      · rw [hn] at he
        subst he
        have HN_topic := Lib.hid hn
        clear hn
        by_cases hc1 : recs.length < 1
        · have d1 : decide ((recs.length : Int) < 1) = true := decide_eq_true (by omega)
          have HR := Lib.hid (recs_none hc1)
          clear hc1
          go_wp2_with fail
          go_ret
          exact ⟨by rw [show check ⟨2, topic, [], 0, recs⟩ = 62 from by simp [check, more, known, badName, badRecs, badOff, hasT, hasG, hasO, hasR, HN_topic.out, HR.out]]; rfl, HC5.out.below⟩
        · have d1 : decide ((recs.length : Int) < 1) = false := decide_eq_false (by omega)
          by_cases hc2 : 4 < recs.length
          · have d2 : decide (4 < (recs.length : Int)) = true := decide_eq_true (by omega)
            have HR := Lib.hid (recs_many hc2)
            clear hc1 hc2
            go_wp2_with fail
            go_ret
            exact ⟨by rw [show check ⟨2, topic, [], 0, recs⟩ = 62 from by simp [check, more, known, badName, badRecs, badOff, hasT, hasG, hasO, hasR, HN_topic.out, HR.out]]; rfl, HC5.out.below⟩
          · have d2 : decide (4 < (recs.length : Int)) = false := decide_eq_false (by omega)
            go_wp2_with fail
            go_loop [7] (fun i => ∃ k : Nat, k ≤ (recs : List Tx).length ∧ i = .int .i64 k ∧ ((recs : List Tx).take k).all (fun x => decide (x.length ≤ 64)) = true) (fun i => (recs : List Tx).length - (intOf i).toNat)
            case atStart => exact ⟨0, Nat.zero_le _, rfl, rfl⟩
            case round =>
              obtain ⟨k, hk, rfl, hall⟩ := hrel
              by_cases hlt : k < recs.length
              · have hat := all_take hlt
                obtain ⟨ad, Bq, d, rfl, hcell, -⟩ := (HLS.out.after HC5.out.below).at_ hlt
                by_cases h64 : 64 < recs[k].length
                · have HR := Lib.hid (all_not hlt h64)
                  have dl : decide (64 < (recs[k].length : Int)) = true := decide_eq_true (by omega)
                  clear hat hall h64
                  go_wp2_with fail
                  go_ret
                  exact ⟨by rw [show check ⟨2, topic, [], 0, recs⟩ = 62 from by simp [check, more, known, badName, badRecs, badOff, hasT, hasG, hasO, hasR, HN_topic.out, HR.out]]; rfl, HC5.out.below⟩
                · have dl : decide (64 < (recs[k].length : Int)) = false := decide_eq_false (by omega)
                  have HA : Hid ((recs.take (k + 1)).all (fun x => decide (x.length ≤ 64)) = true) := Lib.hid (by rw [hat, hall]; simp; omega)
                  clear hat hall h64
                  go_wp2_with fail
                  go_round
                  case rel => exact ⟨k + 1, by omega, by go_num, HA.out⟩
                  case measure => simp [intOf]; omega
              · have hke : k = recs.length := by omega
                rw [hke, List.take_length] at hall
                have HR := Lib.hid (recs_yes hc1 hc2 hall)
                clear hall
                go_wp2_with fail
                go_ret
                exact ⟨by rw [show check ⟨2, topic, [], 0, recs⟩ = 0 from by simp [check, more, known, badName, badRecs, badOff, hasT, hasG, hasO, hasR, HN_topic.out, HR.out]]; rfl, HC5.out.below⟩
      · have hn := Bool.eq_false_iff.2 hn
        rw [hn] at he
        subst he
        have HN_topic := Lib.hid hn
        clear hn
        go_wp2_with fail
        go_ret
        exact ⟨by rw [show check ⟨2, topic, [], 0, recs⟩ = 61 from by simp [check, more, known, badName, badRecs, badOff, hasT, hasG, hasO, hasR, HN_topic.out]]; rfl, HC5.out.below⟩
    · have e_off : (off == 0) = false := beq_eq_false_iff_ne.2 h_off
      have n_off : (off != 0) = true := by rw [bne, e_off]; rfl
      clear h_off
      go_enter Tryz.func46, Tryz.ntmps46
      go_wp2_with fail
      refine (HRF.out _).mono ?_
      rintro e w2 ⟨he, rfl⟩
      have he : e = .returned (.tuple #[.bool true, .bool false, .bool false, .bool true]) := he
      subst he
      have HC := Lib.hid (rk_start w ⟨2, topic, [], off, recs⟩ A c)
      go_wp2_with fail
      go_ret
      exact ⟨by rw [show check ⟨2, topic, [], off, recs⟩ = 60 from by simp [check, more, known, badName, badRecs, badOff, hasT, hasG, hasO, hasR, n_off]]; rfl, HC.out.below⟩
  · have e_group := Bool.eq_false_iff.2 h_group
    clear h_group
    go_enter Tryz.func46, Tryz.ntmps46
    go_wp2_with fail
    refine (HRF.out _).mono ?_
    rintro e w2 ⟨he, rfl⟩
    have he : e = .returned (.tuple #[.bool true, .bool false, .bool false, .bool true]) := he
    subst he
    have HC := Lib.hid (rk_start w ⟨2, topic, group, off, recs⟩ A c)
    go_wp2_with fail
    go_ret
    exact ⟨by rw [show check ⟨2, topic, group, off, recs⟩ = 60 from by simp [check, more, known, badName, badRecs, badOff, hasT, hasG, hasO, hasR, e_group]]; rfl, HC.out.below⟩

set_option maxRecDepth 100000 in
set_option maxHeartbeats 4000000 in
theorem rcheck_3 (o : O) (A : Option Addr) (c : Nat) (X : Nat → Prop) (hk : o.kind = 3) (w : World) (hl : o.recs.length ≤ 140737488355328) (hls : Ls w X (.slice A o.recs.length c) o.recs) :
    Calls Tryz.prog 46 #[OV o A c] w fun e w' => e = .returned (.int .i64 (check o)) ∧ Below w.heap.size w w' := by
  have HRF := Lib.hid (rfields_any 3)
  obtain ⟨kind, topic, group, off, recs⟩ := o
  unfold OV
  simp only at hk hl hls ⊢
  subst hk
  have HLS := Lib.hid hls
  have HL := Lib.hid hl
  clear hls
  by_cases h_recs : recs.isEmpty = true
  · have e_recs := List.isEmpty_iff.1 h_recs
    subst e_recs
    clear h_recs
    go_enter Tryz.func46, Tryz.ntmps46
    go_wp2_with fail
    refine (HRF.out _).mono ?_
    rintro e w2 ⟨he, rfl⟩
    have he : e = .returned (.tuple #[.bool true, .bool true, .bool true, .bool false]) := he
    subst he
    have HC := Lib.hid (rk_start w ⟨3, topic, group, off, []⟩ A c)
    go_wp2_with fail
    refine (rname_any topic _).mono ?_
    rintro e w5 ⟨he, hb⟩
    have HC5 := Lib.hid (HC.out.later hb)
    clear hb
    obtain ⟨a0, a1, a2, a3, a4⟩ := HC5.out.op.cells
    simp only at a0 a1 a2 a3 a4
    by_cases hn : name topic = true
    · rw [hn] at he
      subst he
      have HN_topic := Lib.hid hn
      clear hn
      go_wp2_with fail
      refine (rname_any group _).mono ?_
      rintro e w6 ⟨he, hb⟩
      have HC6 := Lib.hid (HC5.out.later hb)
      clear hb a0 a1 a2 a3 a4
      obtain ⟨a0, a1, a2, a3, a4⟩ := HC6.out.op.cells
      simp only at a0 a1 a2 a3 a4
      by_cases hn : name group = true
      · rw [hn] at he
        subst he
        have HN_group := Lib.hid hn
        clear hn
        go_wp2_with fail
        go_loop [7] (fun i => ∃ k : Nat, k ≤ ([] : List Tx).length ∧ i = .int .i64 k ∧ (([] : List Tx).take k).all (fun x => decide (x.length ≤ 64)) = true) (fun i => ([] : List Tx).length - (intOf i).toNat)
        case atStart => exact ⟨0, Nat.zero_le _, rfl, rfl⟩
        case round =>
          obtain ⟨k, hk, rfl, hall⟩ := hrel
          have hk0 : k = 0 := by simpa using hk
          subst hk0
          clear hall hk
          by_cases ho : off < 0
          · have d1 : decide (off < 0) = true := decide_eq_true ho
            clear ho
            go_wp2_with fail
            go_ret
            exact ⟨by rw [show check ⟨3, topic, group, off, []⟩ = 60 from by simp [check, more, known, badName, badRecs, badOff, hasT, hasG, hasO, hasR, HN_topic.out, HN_group.out, d1]]; rfl, HC6.out.below⟩
          · have d1 : decide (off < 0) = false := decide_eq_false ho
            by_cases hp : 9007199254740992 < off
            · have d2 : decide (9007199254740992 < off) = true := decide_eq_true hp
              clear ho hp
              go_wp2_with fail
              go_ret
              exact ⟨by rw [show check ⟨3, topic, group, off, []⟩ = 60 from by simp [check, more, known, badName, badRecs, badOff, hasT, hasG, hasO, hasR, HN_topic.out, HN_group.out, d1, d2]]; rfl, HC6.out.below⟩
            · have d2 : decide (9007199254740992 < off) = false := decide_eq_false hp
              clear ho hp
              go_wp2_with fail
              go_ret
              exact ⟨by rw [show check ⟨3, topic, group, off, []⟩ = 0 from by simp [check, more, known, badName, badRecs, badOff, hasT, hasG, hasO, hasR, HN_topic.out, HN_group.out, d1, d2]]; rfl, HC6.out.below⟩
      · have hn := Bool.eq_false_iff.2 hn
        rw [hn] at he
        subst he
        have HN_group := Lib.hid hn
        clear hn
        go_wp2_with fail
        go_ret
        exact ⟨by rw [show check ⟨3, topic, group, off, []⟩ = 61 from by simp [check, more, known, badName, badRecs, badOff, hasT, hasG, hasO, hasR, HN_topic.out, HN_group.out]]; rfl, HC6.out.below⟩
    · have hn := Bool.eq_false_iff.2 hn
      rw [hn] at he
      subst he
      have HN_topic := Lib.hid hn
      clear hn
      go_wp2_with fail
      go_ret
      exact ⟨by rw [show check ⟨3, topic, group, off, []⟩ = 61 from by simp [check, more, known, badName, badRecs, badOff, hasT, hasG, hasO, hasR, HN_topic.out]]; rfl, HC5.out.below⟩
  · have e_recs := Bool.eq_false_iff.2 h_recs
    have p_recs : 0 < recs.length := by cases recs with | nil => exact absurd rfl h_recs | cons _ _ => simp
    clear h_recs
    go_enter Tryz.func46, Tryz.ntmps46
    go_wp2_with fail
    refine (HRF.out _).mono ?_
    rintro e w2 ⟨he, rfl⟩
    have he : e = .returned (.tuple #[.bool true, .bool true, .bool true, .bool false]) := he
    subst he
    have HC := Lib.hid (rk_start w ⟨3, topic, group, off, recs⟩ A c)
    go_wp2_with fail
    go_ret
    exact ⟨by rw [show check ⟨3, topic, group, off, recs⟩ = 60 from by simp [check, more, known, badName, badRecs, badOff, hasT, hasG, hasO, hasR, e_recs]]; rfl, HC.out.below⟩

set_option maxRecDepth 100000 in
set_option maxHeartbeats 4000000 in
theorem rcheck_4 (o : O) (A : Option Addr) (c : Nat) (X : Nat → Prop) (hk : o.kind = 4) (w : World) (hl : o.recs.length ≤ 140737488355328) (hls : Ls w X (.slice A o.recs.length c) o.recs) :
    Calls Tryz.prog 46 #[OV o A c] w fun e w' => e = .returned (.int .i64 (check o)) ∧ Below w.heap.size w w' := by
  have HRF := Lib.hid (rfields_any 4)
  obtain ⟨kind, topic, group, off, recs⟩ := o
  unfold OV
  simp only at hk hl hls ⊢
  subst hk
  have HLS := Lib.hid hls
  have HL := Lib.hid hl
  clear hls
  by_cases h_group : group.isEmpty = true
  · have e_group := List.isEmpty_iff.1 h_group
    subst e_group
    clear h_group
    by_cases h_recs : recs.isEmpty = true
    · have e_recs := List.isEmpty_iff.1 h_recs
      subst e_recs
      clear h_recs
      go_enter Tryz.func46, Tryz.ntmps46
      go_wp2_with fail
      refine (HRF.out _).mono ?_
      rintro e w2 ⟨he, rfl⟩
      have he : e = .returned (.tuple #[.bool true, .bool false, .bool true, .bool false]) := he
      subst he
      have HC := Lib.hid (rk_start w ⟨4, topic, [], off, []⟩ A c)
      go_wp2_with fail
      refine (rname_any topic _).mono ?_
      rintro e w5 ⟨he, hb⟩
      have HC5 := Lib.hid (HC.out.later hb)
      clear hb
      obtain ⟨a0, a1, a2, a3, a4⟩ := HC5.out.op.cells
      simp only at a0 a1 a2 a3 a4
      by_cases hn : name topic = true
      · rw [hn] at he
        subst he
        have HN_topic := Lib.hid hn
        clear hn
        go_wp2_with fail
        go_loop [7] (fun i => ∃ k : Nat, k ≤ ([] : List Tx).length ∧ i = .int .i64 k ∧ (([] : List Tx).take k).all (fun x => decide (x.length ≤ 64)) = true) (fun i => ([] : List Tx).length - (intOf i).toNat)
        case atStart => exact ⟨0, Nat.zero_le _, rfl, rfl⟩
        case round =>
          obtain ⟨k, hk, rfl, hall⟩ := hrel
          have hk0 : k = 0 := by simpa using hk
          subst hk0
          clear hall hk
          by_cases ho : off < 0
          · have d1 : decide (off < 0) = true := decide_eq_true ho
            clear ho
            go_wp2_with fail
            go_ret
            exact ⟨by rw [show check ⟨4, topic, [], off, []⟩ = 60 from by simp [check, more, known, badName, badRecs, badOff, hasT, hasG, hasO, hasR, HN_topic.out, d1]]; rfl, HC5.out.below⟩
          · have d1 : decide (off < 0) = false := decide_eq_false ho
            by_cases hp : 9007199254740992 < off
            · have d2 : decide (9007199254740992 < off) = true := decide_eq_true hp
              clear ho hp
              go_wp2_with fail
              go_ret
              exact ⟨by rw [show check ⟨4, topic, [], off, []⟩ = 60 from by simp [check, more, known, badName, badRecs, badOff, hasT, hasG, hasO, hasR, HN_topic.out, d1, d2]]; rfl, HC5.out.below⟩
            · have d2 : decide (9007199254740992 < off) = false := decide_eq_false hp
              clear ho hp
              go_wp2_with fail
              go_ret
              exact ⟨by rw [show check ⟨4, topic, [], off, []⟩ = 0 from by simp [check, more, known, badName, badRecs, badOff, hasT, hasG, hasO, hasR, HN_topic.out, d1, d2]]; rfl, HC5.out.below⟩
      · have hn := Bool.eq_false_iff.2 hn
        rw [hn] at he
        subst he
        have HN_topic := Lib.hid hn
        clear hn
        go_wp2_with fail
        go_ret
        exact ⟨by rw [show check ⟨4, topic, [], off, []⟩ = 61 from by simp [check, more, known, badName, badRecs, badOff, hasT, hasG, hasO, hasR, HN_topic.out]]; rfl, HC5.out.below⟩
    · have e_recs := Bool.eq_false_iff.2 h_recs
      have p_recs : 0 < recs.length := by cases recs with | nil => exact absurd rfl h_recs | cons _ _ => simp
      clear h_recs
      go_enter Tryz.func46, Tryz.ntmps46
      go_wp2_with fail
      refine (HRF.out _).mono ?_
      rintro e w2 ⟨he, rfl⟩
      have he : e = .returned (.tuple #[.bool true, .bool false, .bool true, .bool false]) := he
      subst he
      have HC := Lib.hid (rk_start w ⟨4, topic, [], off, recs⟩ A c)
      go_wp2_with fail
      go_ret
      exact ⟨by rw [show check ⟨4, topic, [], off, recs⟩ = 60 from by simp [check, more, known, badName, badRecs, badOff, hasT, hasG, hasO, hasR, e_recs]]; rfl, HC.out.below⟩
  · have e_group := Bool.eq_false_iff.2 h_group
    clear h_group
    go_enter Tryz.func46, Tryz.ntmps46
    go_wp2_with fail
    refine (HRF.out _).mono ?_
    rintro e w2 ⟨he, rfl⟩
    have he : e = .returned (.tuple #[.bool true, .bool false, .bool true, .bool false]) := he
    subst he
    have HC := Lib.hid (rk_start w ⟨4, topic, group, off, recs⟩ A c)
    go_wp2_with fail
    go_ret
    exact ⟨by rw [show check ⟨4, topic, group, off, recs⟩ = 60 from by simp [check, more, known, badName, badRecs, badOff, hasT, hasG, hasO, hasR, e_group]]; rfl, HC.out.below⟩

theorem rcheck_any (o : O) (v : Value) (X : Nat → Prop) (w : World) (h : OI w X v o) (hl : o.recs.length ≤ 140737488355328) :
    Calls Tryz.prog 46 #[v] w fun e w' => e = .returned (.int .i64 (check o)) ∧ Below w.heap.size w w' := by
  obtain ⟨A, c, rfl, hls⟩ := h
  by_cases hk : known o.kind = true
  · rcases kind_cases hk with h | h | h | h | h
    · exact rcheck_0 o A c X h w hl hls
    · exact rcheck_1 o A c X h w hl hls
    · exact rcheck_2 o A c X h w hl hls
    · exact rcheck_3 o A c X h w hl hls
    · exact rcheck_4 o A c X h w hl hls
  · exact rcheck_none o A c (Bool.eq_false_iff.2 hk) w

end Go.Proofs.YtkoedonllfmaaaaGreat.Ph
