import Derived.Test.YtebjjkhiniccgaaGreatJm
import Derived.Test.YtebjjkhiniccgaaGreatPg
import Derived.Test.YtebjjkhiniccgaaGreatPh
import Derived.Test.YtebjjkhiniccgaaGreatGa
import Derived.Test.YtebjjkhiniccgaaGreatLk
import Derived.Test.YtebjjkhiniccgaaGreatKf
import Derived.Test.YtebjjkhiniccgaaGreatQb
import Derived.Laws.StructEq
import Derived.Deep.RegionHeld3
import Derived.Deep.QuietTactic
import Derived.Deep.MidRow
/-
  Layer 8 (request): requests and signed requests in memory; the contracts of isClient, Key, Check, CheckSign, both sides.
-/
namespace Go.Proofs.YtebjjkhiniccgaaGreat.Ja
set_option linter.unusedSimpArgs false
open Go Go.RowKit Ck Kw Ga Pm Pe Pg Ph Lk Jm
attribute [local go_sem ↓] Go.wp_at_zero Go.wp_at_succ
set_option linter.unusedVariables false

/-- A request as a value: its records lie at A. -/
def QC (q : Q) (A : Option Addr) (c : Nat) : Array Value := #[.int .i64 q.client, .int .i64 q.time, .int .i64 q.o.kind, .string ⟨q.o.topic.toArray⟩, .string ⟨q.o.group.toArray⟩, .int .i64 q.o.off, .slice A q.o.recs.length c]
def QV (q : Q) (A : Option Addr) (c : Nat) : Value := .agg (QC q A c)
def QB (W : World) (g : Nat) (q : Q) (A : Option Addr) (c : Nat) : Prop := Blk W g 27 (QC q A c)
theorem QB.cells {W : World} {g : Nat} {q : Q} {A : Option Addr} {c : Nat} (h : QB W g q A c) :
    W.cell? ⟨g, 0, none⟩ = some (.int .i64 q.client) ∧ W.cell? ⟨g, 1, none⟩ = some (.int .i64 q.time) ∧ W.cell? ⟨g, 2, none⟩ = some (.int .i64 q.o.kind) ∧ W.cell? ⟨g, 3, none⟩ = some (.string ⟨q.o.topic.toArray⟩) ∧ W.cell? ⟨g, 4, none⟩ = some (.string ⟨q.o.group.toArray⟩) ∧ W.cell? ⟨g, 5, none⟩ = some (.int .i64 q.o.off) ∧ W.cell? ⟨g, 6, none⟩ = some (.slice A q.o.recs.length c) :=
  ⟨Blk.cell h 0, Blk.cell h 1, Blk.cell h 2, Blk.cell h 3, Blk.cell h 4, Blk.cell h 5, Blk.cell h 6⟩
/-- The value v is the request q, its records in no block of X. -/
def QI (w : World) (X : Nat → Prop) (v : Value) (q : Q) : Prop := ∃ A c, v = QV q A c ∧ Ls w X (.slice A q.o.recs.length c) q.o.recs
/-- A signed request as a value. -/
def DC (d : Sd) (A : Option Addr) (c : Nat) : Array Value := #[.int .i64 d.q.client, .int .i64 d.q.time, .int .i64 d.q.o.kind, .string ⟨d.q.o.topic.toArray⟩, .string ⟨d.q.o.group.toArray⟩, .int .i64 d.q.o.off, .slice A d.q.o.recs.length c, .int .i64 d.s.1, .int .i64 d.s.2]
def DV (d : Sd) (A : Option Addr) (c : Nat) : Value := .agg (DC d A c)
def DK (W : World) (g : Nat) (d : Sd) (A : Option Addr) (c : Nat) : Prop := Blk W g 53 (DC d A c)
theorem DK.cells {W : World} {g : Nat} {d : Sd} {A : Option Addr} {c : Nat} (h : DK W g d A c) :
    W.cell? ⟨g, 0, none⟩ = some (.int .i64 d.q.client) ∧ W.cell? ⟨g, 1, none⟩ = some (.int .i64 d.q.time) ∧ W.cell? ⟨g, 2, none⟩ = some (.int .i64 d.q.o.kind) ∧ W.cell? ⟨g, 3, none⟩ = some (.string ⟨d.q.o.topic.toArray⟩) ∧ W.cell? ⟨g, 4, none⟩ = some (.string ⟨d.q.o.group.toArray⟩) ∧ W.cell? ⟨g, 5, none⟩ = some (.int .i64 d.q.o.off) ∧ W.cell? ⟨g, 6, none⟩ = some (.slice A d.q.o.recs.length c) ∧ W.cell? ⟨g, 7, none⟩ = some (.int .i64 d.s.1) ∧ W.cell? ⟨g, 8, none⟩ = some (.int .i64 d.s.2) :=
  ⟨Blk.cell h 0, Blk.cell h 1, Blk.cell h 2, Blk.cell h 3, Blk.cell h 4, Blk.cell h 5, Blk.cell h 6, Blk.cell h 7, Blk.cell h 8⟩
def DI (w : World) (X : Nat → Prop) (v : Value) (d : Sd) : Prop := ∃ A c, v = DV d A c ∧ Ls w X (.slice A d.q.o.recs.length c) d.q.o.recs
section
variable {w w' : World} {X Y S : Nat → Prop} {v : Value} {q : Q} {d : Sd}
theorem QI.after (h : QI w X v q) (hb : Below w.heap.size w w') : QI w' X v q := by
  obtain ⟨A, c, hv, hl⟩ := h
  exact ⟨A, c, hv, hl.after hb⟩
theorem QI.weaken (h : QI w X v q) (hk : ∀ b, b < w.heap.size → Y b → X b) : QI w Y v q := by
  obtain ⟨A, c, hv, hl⟩ := h
  exact ⟨A, c, hv, hl.weaken hk⟩
theorem QI.ch (h : QI w X v q) (c : Ch S w w') (hd : ∀ k, k < w.heap.size → S k → X k) : QI w' X v q := by
  obtain ⟨A, c', hv, hl⟩ := h
  exact ⟨A, c', hv, hl.ch c hd⟩
theorem DI.after (h : DI w X v d) (hb : Below w.heap.size w w') : DI w' X v d := by
  obtain ⟨A, c, hv, hl⟩ := h
  exact ⟨A, c, hv, hl.after hb⟩
theorem DI.weaken (h : DI w X v d) (hk : ∀ b, b < w.heap.size → Y b → X b) : DI w Y v d := by
  obtain ⟨A, c, hv, hl⟩ := h
  exact ⟨A, c, hv, hl.weaken hk⟩
theorem DI.ch (h : DI w X v d) (c : Ch S w w') (hd : ∀ k, k < w.heap.size → S k → X k) : DI w' X v d := by
  obtain ⟨A, c', hv, hl⟩ := h
  exact ⟨A, c', hv, hl.ch c hd⟩
end
theorem op_below (w : World) (o : Obj) : Below w.heap.size w (w.alloc o) := (Below.refl _ w).alloc (Nat.le_refl _) o

theorem isclient_any (w : World) (c : Int) : Calls Tryz.prog 80 #[.int .i64 c] w fun e w' => e = .returned (.bool (isC c)) ∧ w = w' := by
  unfold isC
  by_cases h0 : 0 ≤ c
  · have h1 : decide (0 ≤ c) = true := decide_eq_true h0
    go_enter Tryz.func80, Tryz.ntmps80
    go_wp2
    go_ret
    exact ⟨by simp [h0], rfl⟩
  · have h1 : decide (0 ≤ c) = false := decide_eq_false h0
    have h2 : c < 0 := by omega
    go_enter Tryz.func80, Tryz.ntmps80
    go_wp2
    go_ret
    exact ⟨by simp [h0], rfl⟩
theorem key_any (w : World) (c : Int) : Calls Tryz.prog 47 #[.int .i64 c] w fun e w' => e = .returned (.int .i64 (key c)) ∧ w = w' := by
  have HC := Lib.hid (isclient_any w c)
  by_cases hc : isC c = true
  · have h0 := (isC_iff c).1 hc
    have HK := Lib.hid (show key c = 13 + c by rw [key, if_pos hc])
    rw [hc] at HC
    have hw : IntKind.i64.wrap (13 + c) = 13 + c := wrap64 (by omega) (by omega)
    clear hc
    go_enter Tryz.func47, Tryz.ntmps47
    go_wp2_with fail
    refine HC.out.mono ?_
    rintro e w1 ⟨rfl, rfl⟩
    go_wp2_with fail
    go_ret
    exact ⟨by rw [HK.out]; rfl, rfl⟩
  · have HK := Lib.hid (show key c = -1 by rw [key, if_neg hc])
    have hc := Bool.eq_false_iff.2 hc
    rw [hc] at HC
    clear hc
    go_enter Tryz.func47, Tryz.ntmps47
    go_wp2_with fail
    refine HC.out.mono ?_
    rintro e w1 ⟨rfl, rfl⟩
    go_wp2_with fail
    go_ret
    exact ⟨by rw [HK.out]; rfl, rfl⟩
theorem rkey_any (w : World) (c : Int) : Calls Tryz.prog 52 #[.int .i64 c] w fun e w' => e = .returned (.int .i64 (key c)) ∧ w = w' := by
  by_cases h0 : c < 0
  · have HK := Lib.hid (show key c = -1 by rw [key, if_neg]; rw [isC_iff]; omega)
    have h1 : decide (c < 0) = true := decide_eq_true h0
    go_enter Tryz.func52, Tryz.ntmps52
    go_wp2_with fail
    go_ret
    exact ⟨by rw [HK.out]; rfl, rfl⟩
  · have h1 : decide (c < 0) = false := decide_eq_false h0
    by_cases h8 : 8 ≤ c
    · have HK := Lib.hid (show key c = -1 by rw [key, if_neg]; rw [isC_iff]; omega)
      have h2 : decide (8 ≤ c) = true := decide_eq_true h8
      clear h0
      go_enter Tryz.func52, Tryz.ntmps52
      go_wp2_with fail
      go_ret
      exact ⟨by rw [HK.out]; rfl, rfl⟩
    · have HK := Lib.hid (show key c = 13 + c by rw [key, if_pos]; rw [isC_iff]; omega)
      have h2 : decide (8 ≤ c) = false := decide_eq_false h8
      have hw : IntKind.i64.wrap (13 + c) = 13 + c := wrap64 (by omega) (by omega)
      have h3 : 0 ≤ c := by omega
      have h4 : c < 8 := by omega
      clear h0 h8
      go_enter Tryz.func52, Tryz.ntmps52
      go_wp2_with fail
      go_ret
      exact ⟨by rw [HK.out]; rfl, rfl⟩
theorem key_neg {c : Int} (h : isC c = false) : key c = -1 := by rw [key, h]; rfl
theorem key_pos {c : Int} (h : isC c = true) : key c = 13 + c := by rw [key, h]; rfl

set_option maxHeartbeats 1000000 in
theorem check_any (x : Q) (v : Value) (X : Nat → Prop) (w : World) (h : QI w X v x) (hl : x.o.recs.length ≤ 140737488355328) :
    Calls Tryz.prog 72 #[v] w fun e w' => e = .returned (.int .i64 (qcheck x)) ∧ Below w.heap.size w w' := by
  obtain ⟨A, c, rfl, hls⟩ := h
  have hb0 := op_below w (.cells (QC x A c) 27)
  have hq0 : QB (w.alloc (.cells (QC x A c) 27)) w.heap.size x A c := Blk.new w _ _
  have HC := Lib.hid (Pg.check_any x.o (OV x.o A c) X _ ⟨A, c, rfl, hls.after hb0⟩ hl)
  obtain ⟨a0, a1, a2, a3, a4, a5, a6⟩ := hq0.cells
  have HB := Lib.hid hb0
  have HQ : Hid (qcheck x = if (!isC x.client || decide (x.time < 1) || decide (9007199254740992 < x.time)) = true then 80 else check x.o) := Lib.hid rfl
  clear hb0 hq0 hls
  unfold QV
  unfold OV QC at HC
  unfold QC at a0 a1 a2 a3 a4 a5 a6 HB ⊢
  have HI := fun W : World => Lib.hid (isclient_any W x.client)
  by_cases hc : isC x.client = true
  · rw [hc] at HQ; simp only [hc] at HI
    by_cases h1 : x.time < 1
    · have d1 : decide (x.time < 1) = true := decide_eq_true h1
      rw [d1] at HQ
      skip
      clear hc
      go_enter Tryz.func72, Tryz.ntmps72
      go_wp2_with fail
      refine (HI _).out.mono ?_; rintro e w1 ⟨rfl, rfl⟩
      go_wp2_with fail
      go_ret
      exact ⟨by rw [HQ.out]; rfl, HB.out⟩
    · have d1 : decide (x.time < 1) = false := decide_eq_false h1
      rw [d1] at HQ
      by_cases h2 : 9007199254740992 < x.time
      · have d2 : decide (9007199254740992 < x.time) = true := decide_eq_true h2
        rw [d2] at HQ
        skip
        clear hc h1 h2
        go_enter Tryz.func72, Tryz.ntmps72
        go_wp2_with fail
        refine (HI _).out.mono ?_; rintro e w1 ⟨rfl, rfl⟩
        go_wp2_with fail
        go_ret
        exact ⟨by rw [HQ.out]; rfl, HB.out⟩
      · have d2 : decide (9007199254740992 < x.time) = false := decide_eq_false h2
        rw [d2] at HQ
        skip
        clear hc h1 h2
        go_enter Tryz.func72, Tryz.ntmps72
        go_wp2_with fail
        refine (HI _).out.mono ?_; rintro e w1 ⟨rfl, rfl⟩
        go_wp2_with fail
        refine HC.out.mono ?_
        rintro e w1 ⟨rfl, hb1⟩
        have HB1 := Lib.hid (HB.out.trans (hb1.mono HB.out.size))
        clear hb1
        go_wp2_with fail
        go_ret
        exact ⟨by rw [HQ.out]; rfl, HB1.out⟩
  · have hc := Bool.eq_false_iff.2 hc
    rw [hc] at HQ; simp only [hc] at HI
    skip
    clear hc
    go_enter Tryz.func72, Tryz.ntmps72
    go_wp2_with fail
    refine (HI _).out.mono ?_; rintro e w1 ⟨rfl, rfl⟩
    go_wp2_with fail
    go_ret
    exact ⟨by rw [HQ.out]; rfl, HB.out⟩

set_option maxHeartbeats 1000000 in
theorem rcheck_any (x : Q) (v : Value) (X : Nat → Prop) (w : World) (h : QI w X v x) (hl : x.o.recs.length ≤ 140737488355328) :
    Calls Tryz.prog 70 #[v] w fun e w' => e = .returned (.int .i64 (qcheck x)) ∧ Below w.heap.size w w' := by
  obtain ⟨A, c, rfl, hls⟩ := h
  have hb0 := op_below w (.cells (QC x A c) 27)
  have hq0 : QB (w.alloc (.cells (QC x A c) 27)) w.heap.size x A c := Blk.new w _ _
  have HC := Lib.hid (Ph.rcheck_any x.o (OV x.o A c) X _ ⟨A, c, rfl, hls.after hb0⟩ hl)
  obtain ⟨a0, a1, a2, a3, a4, a5, a6⟩ := hq0.cells
  have HB := Lib.hid hb0
  have HQ : Hid (qcheck x = if (!isC x.client || decide (x.time < 1) || decide (9007199254740992 < x.time)) = true then 80 else check x.o) := Lib.hid rfl
  clear hb0 hq0 hls
  unfold QV
  unfold OV QC at HC
  unfold QC at a0 a1 a2 a3 a4 a5 a6 HB ⊢
  have HI := fun W : World => Lib.hid (rkey_any W x.client)
  by_cases hc : isC x.client = true
  · rw [hc] at HQ
    by_cases h1 : x.time < 1
    · have d1 : decide (x.time < 1) = true := decide_eq_true h1
      rw [d1] at HQ
      have hkp := key_pos hc; have hc1 := (isC_iff _).1 hc; have hd : decide (key x.client < 0) = false := decide_eq_false (by omega); clear hkp hc1
      clear hc
      go_enter Tryz.func70, Tryz.ntmps70
      go_wp2_with fail
      refine (HI _).out.mono ?_; rintro e w1 ⟨rfl, rfl⟩
      go_wp2_with fail
      go_ret
      exact ⟨by rw [HQ.out]; rfl, HB.out⟩
    · have d1 : decide (x.time < 1) = false := decide_eq_false h1
      rw [d1] at HQ
      by_cases h2 : 9007199254740992 < x.time
      · have d2 : decide (9007199254740992 < x.time) = true := decide_eq_true h2
        rw [d2] at HQ
        have hkp := key_pos hc; have hc1 := (isC_iff _).1 hc; have hd : decide (key x.client < 0) = false := decide_eq_false (by omega); clear hkp hc1
        clear hc h1 h2
        go_enter Tryz.func70, Tryz.ntmps70
        go_wp2_with fail
        refine (HI _).out.mono ?_; rintro e w1 ⟨rfl, rfl⟩
        go_wp2_with fail
        go_ret
        exact ⟨by rw [HQ.out]; rfl, HB.out⟩
      · have d2 : decide (9007199254740992 < x.time) = false := decide_eq_false h2
        rw [d2] at HQ
        have hkp := key_pos hc; have hc1 := (isC_iff _).1 hc; have hd : decide (key x.client < 0) = false := decide_eq_false (by omega); clear hkp hc1
        clear hc h1 h2
        go_enter Tryz.func70, Tryz.ntmps70
        go_wp2_with fail
        refine (HI _).out.mono ?_; rintro e w1 ⟨rfl, rfl⟩
        go_wp2_with fail
        refine HC.out.mono ?_
        rintro e w1 ⟨rfl, hb1⟩
        have HB1 := Lib.hid (HB.out.trans (hb1.mono HB.out.size))
        clear hb1
        go_wp2_with fail
        go_ret
        exact ⟨by rw [HQ.out]; rfl, HB1.out⟩
  · have hc := Bool.eq_false_iff.2 hc
    rw [hc] at HQ
    have hkp := key_neg hc; have hd : decide (key x.client < 0) = true := decide_eq_true (by omega); clear hkp
    clear hc
    go_enter Tryz.func70, Tryz.ntmps70
    go_wp2_with fail
    refine (HI _).out.mono ?_; rintro e w1 ⟨rfl, rfl⟩
    go_wp2_with fail
    go_ret
    exact ⟨by rw [HQ.out]; rfl, HB.out⟩

set_option maxHeartbeats 1000000 in
theorem csign_any (s : Int × Int) (w : World) :
    Calls Tryz.prog 99 #[GV s] w fun e w' => e = .returned (.int .i64 (scheck s)) ∧ Below w.heap.size w w' := by
  obtain ⟨k, d⟩ := s
  have hb0 := op_below w (.cells #[.int .i64 k, .int .i64 d] 47)
  have hq0 : Blk (w.alloc (.cells #[.int .i64 k, .int .i64 d] 47)) w.heap.size 47 #[.int .i64 k, .int .i64 d] := Blk.new w _ _
  have a0 : (w.alloc (.cells #[.int .i64 k, .int .i64 d] 47)).cell? ⟨w.heap.size, 0, none⟩ = some (.int .i64 k) := hq0.cell 0
  have a1 : (w.alloc (.cells #[.int .i64 k, .int .i64 d] 47)).cell? ⟨w.heap.size, 1, none⟩ = some (.int .i64 d) := hq0.cell 1
  have HB := Lib.hid hb0
  have HQ : Hid (scheck (k, d) = if (decide (k < 0) || decide (21 ≤ k) || decide (d < 1) || decide (9007199254740992 < d)) = true then 81 else 0) := Lib.hid rfl
  clear hb0 hq0
  unfold GV
  simp only
  by_cases h1 : k < 0
  · have d1 : decide (k < 0) = true := decide_eq_true h1
    rw [d1] at HQ
    go_enter Tryz.func99, Tryz.ntmps99
    go_wp2_with fail
    go_ret
    exact ⟨by rw [HQ.out]; rfl, HB.out⟩
  · have d1 : decide (k < 0) = false := decide_eq_false h1
    rw [d1] at HQ
    by_cases h2 : 21 ≤ k
    · have d2 : decide (21 ≤ k) = true := decide_eq_true h2
      rw [d2] at HQ
      clear h1
      go_enter Tryz.func99, Tryz.ntmps99
      go_wp2_with fail
      go_ret
      exact ⟨by rw [HQ.out]; rfl, HB.out⟩
    · have d2 : decide (21 ≤ k) = false := decide_eq_false h2
      rw [d2] at HQ
      by_cases h3 : d < 1
      · have d3 : decide (d < 1) = true := decide_eq_true h3
        rw [d3] at HQ
        clear h1 h2
        go_enter Tryz.func99, Tryz.ntmps99
        go_wp2_with fail
        go_ret
        exact ⟨by rw [HQ.out]; rfl, HB.out⟩
      · have d3 : decide (d < 1) = false := decide_eq_false h3
        rw [d3] at HQ
        by_cases h4 : 9007199254740992 < d
        · have d4 : decide (9007199254740992 < d) = true := decide_eq_true h4
          rw [d4] at HQ
          clear h1 h2 h3
          go_enter Tryz.func99, Tryz.ntmps99
          go_wp2_with fail
          go_ret
          exact ⟨by rw [HQ.out]; rfl, HB.out⟩
        · have d4 : decide (9007199254740992 < d) = false := decide_eq_false h4
          rw [d4] at HQ
          clear h1 h2 h3 h4
          go_enter Tryz.func99, Tryz.ntmps99
          go_wp2_with fail
          go_ret
          exact ⟨by rw [HQ.out]; rfl, HB.out⟩

set_option maxHeartbeats 1000000 in
theorem rcsign_any (s : Int × Int) (w : World) :
    Calls Tryz.prog 71 #[GV s] w fun e w' => e = .returned (.int .i64 (scheck s)) ∧ Below w.heap.size w w' := by
  obtain ⟨k, d⟩ := s
  have hb0 := op_below w (.cells #[.int .i64 k, .int .i64 d] 47)
  have hq0 : Blk (w.alloc (.cells #[.int .i64 k, .int .i64 d] 47)) w.heap.size 47 #[.int .i64 k, .int .i64 d] := Blk.new w _ _
  have a0 : (w.alloc (.cells #[.int .i64 k, .int .i64 d] 47)).cell? ⟨w.heap.size, 0, none⟩ = some (.int .i64 k) := hq0.cell 0
  have a1 : (w.alloc (.cells #[.int .i64 k, .int .i64 d] 47)).cell? ⟨w.heap.size, 1, none⟩ = some (.int .i64 d) := hq0.cell 1
  have HB := Lib.hid hb0
  have HQ : Hid (scheck (k, d) = if (decide (k < 0) || decide (21 ≤ k) || decide (d < 1) || decide (9007199254740992 < d)) = true then 81 else 0) := Lib.hid rfl
  clear hb0 hq0
  unfold GV
  simp only
  by_cases h1 : k < 0
  · have d1 : decide (k < 0) = true := decide_eq_true h1
    rw [d1] at HQ
    go_enter Tryz.func71, Tryz.ntmps71
    go_wp2_with fail
    go_ret
    exact ⟨by rw [HQ.out]; rfl, HB.out⟩
  · have d1 : decide (k < 0) = false := decide_eq_false h1
    rw [d1] at HQ
    by_cases h2 : 21 ≤ k
    · have d2 : decide (21 ≤ k) = true := decide_eq_true h2
      rw [d2] at HQ
      clear h1
      go_enter Tryz.func71, Tryz.ntmps71
      go_wp2_with fail
      go_ret
      exact ⟨by rw [HQ.out]; rfl, HB.out⟩
    · have d2 : decide (21 ≤ k) = false := decide_eq_false h2
      rw [d2] at HQ
      by_cases h3 : d < 1
      · have d3 : decide (d < 1) = true := decide_eq_true h3
        rw [d3] at HQ
        clear h1 h2
        go_enter Tryz.func71, Tryz.ntmps71
        go_wp2_with fail
        go_ret
        exact ⟨by rw [HQ.out]; rfl, HB.out⟩
      · have d3 : decide (d < 1) = false := decide_eq_false h3
        rw [d3] at HQ
        by_cases h4 : 9007199254740992 < d
        · have d4 : decide (9007199254740992 < d) = true := decide_eq_true h4
          rw [d4] at HQ
          clear h1 h2 h3
          go_enter Tryz.func71, Tryz.ntmps71
          go_wp2_with fail
          go_ret
          exact ⟨by rw [HQ.out]; rfl, HB.out⟩
        · have d4 : decide (9007199254740992 < d) = false := decide_eq_false h4
          rw [d4] at HQ
          clear h1 h2 h3 h4
          go_enter Tryz.func71, Tryz.ntmps71
          go_wp2_with fail
          go_ret
          exact ⟨by rw [HQ.out]; rfl, HB.out⟩

end Go.Proofs.YtebjjkhiniccgaaGreat.Ja

/-
  Layer 8 (request): batches in memory; the contracts of momentOf, checkSigned, isTwice, CheckBatch.
-/
namespace Go.Proofs.YtebjjkhiniccgaaGreat.Jb
set_option linter.unusedSimpArgs false
open Go Go.RowKit Ck Kw Ga Kf Pm Pe Pg Ph Qb Lk Jm Ja
attribute [local go_sem ↓] Go.wp_at_zero Go.wp_at_succ
set_option linter.unusedVariables false

theorem DC_len (p : Sd × (Option Addr × Nat)) : ((DC p.1 p.2.1 p.2.2).toList).length = 9 := rfl
/-- The cells of a batch: its requests' records lie where rs says. -/
def flat (l : List Sd) (rs : List (Option Addr × Nat)) : List Value := (l.zip rs).flatMap fun p => (DC p.1 p.2.1 p.2.2).toList
theorem zip_len {l : List Sd} {rs : List (Option Addr × Nat)} (h : rs.length = l.length) : (l.zip rs).length = l.length := by rw [List.length_zip]; omega
theorem flat_length {l : List Sd} {rs : List (Option Addr × Nat)} (h : rs.length = l.length) : (flat l rs).length = l.length * 9 := by rw [flat, flat_len DC_len, zip_len h]
/-- The value v is the batch l; all of it lies in no block of X. -/
def BI (w : World) (X : Nat → Prop) (v : Value) (l : List Sd) : Prop :=
  ∃ rs, rs.length = l.length ∧ Sl w X 9 v l.length (flat l rs) ∧ ∀ i (h : i < l.length), ∃ r, rs[i]? = some r ∧ Ls w X (.slice r.1 l[i].q.o.recs.length r.2) l[i].q.o.recs
section
variable {w w' : World} {X Y S : Nat → Prop} {v : Value} {l : List Sd}
theorem BI.after (h : BI w X v l) (hb : Below w.heap.size w w') : BI w' X v l := by
  obtain ⟨rs, h1, h2, h3⟩ := h
  exact ⟨rs, h1, h2.after hb, fun i hi => by obtain ⟨r, h4, h5⟩ := h3 i hi; exact ⟨r, h4, h5.after hb⟩⟩
theorem BI.weaken (h : BI w X v l) (hk : ∀ b, b < w.heap.size → Y b → X b) : BI w Y v l := by
  obtain ⟨rs, h1, h2, h3⟩ := h
  exact ⟨rs, h1, h2.weaken hk, fun i hi => by obtain ⟨r, h4, h5⟩ := h3 i hi; exact ⟨r, h4, h5.weaken hk⟩⟩
theorem BI.ch (h : BI w X v l) (c : Ch S w w') (hd : ∀ k, k < w.heap.size → S k → X k) : BI w' X v l := by
  obtain ⟨rs, h1, h2, h3⟩ := h
  exact ⟨rs, h1, h2.ch c hd, fun i hi => by obtain ⟨r, h4, h5⟩ := h3 i hi; exact ⟨r, h4, h5.ch c hd⟩⟩
theorem BI.shape (h : BI w X v l) : ∃ A c, v = .slice A l.length c ∧ l.length ≤ c := by
  obtain ⟨rs, h1, ⟨A, c, rfl, _, hc, _⟩, h3⟩ := h
  exact ⟨A, c, rfl, hc⟩
theorem bi_nil (w : World) (X : Nat → Prop) : BI w X (.slice none 0 0) [] := ⟨[], rfl, Sl.nil _ _ _, fun i hi => absurd hi (by simp)⟩
/-- What stands at a place of a batch. -/
def At9 (w : World) (ad : Addr) (d : Sd) (Ar : Option Addr) (cr : Nat) : Prop :=
  w.cell? ad = some (.int .i64 d.q.client) ∧ w.cell? ⟨ad.block, ad.off + 1, none⟩ = some (.int .i64 d.q.time) ∧ w.cell? ⟨ad.block, ad.off + 2, none⟩ = some (.int .i64 d.q.o.kind) ∧ w.cell? ⟨ad.block, ad.off + 3, none⟩ = some (.string ⟨d.q.o.topic.toArray⟩)
    ∧ w.cell? ⟨ad.block, ad.off + 4, none⟩ = some (.string ⟨d.q.o.group.toArray⟩) ∧ w.cell? ⟨ad.block, ad.off + 5, none⟩ = some (.int .i64 d.q.o.off) ∧ w.cell? ⟨ad.block, ad.off + 6, none⟩ = some (.slice Ar d.q.o.recs.length cr)
    ∧ w.cell? ⟨ad.block, ad.off + 7, none⟩ = some (.int .i64 d.s.1) ∧ w.cell? ⟨ad.block, ad.off + 8, none⟩ = some (.int .i64 d.s.2)
theorem BI.at_ {A : Option Addr} {n c i : Nat} (h : BI w X (.slice A n c) l) (hi : i < l.length) :
    ∃ ad Ar cr, A = some ad ∧ At9 w (ad.add (i * 9)) l[i] Ar cr ∧ Ls w X (.slice Ar l[i].q.o.recs.length cr) l[i].q.o.recs := by
  obtain ⟨rs, h1, ⟨A', c', hv, hl, hc, hm, hx⟩, h3⟩ := h
  injection hv with e1 e2 e3
  subst e1
  obtain ⟨⟨Ar, cr⟩, h4, h5⟩ := h3 i hi
  obtain ⟨ad, hA, hb, hX, hcell⟩ := hx (by omega)
  refine ⟨ad, Ar, cr, hA, ?_, h5⟩
  have hz : i < (l.zip rs).length := by rw [zip_len h1]; exact hi
  have hr : i < rs.length := by omega
  have he : (l.zip rs)[i] = (l[i], (Ar, cr)) := by
    rw [List.getElem_zip]
    have : rs[i] = (Ar, cr) := by have := List.getElem?_eq_getElem hr; rw [this] at h4; exact Option.some.inj h4
    rw [this]
  have hg : ∀ j, j < 9 → (flat l rs)[i * 9 + j]? = ((DC l[i] Ar cr).toList)[j]? := fun j hj => by
    rw [flat, flat_get DC_len _ _ hz j hj, he]
  have hof : ∀ j u, j < 9 → ((DC l[i] Ar cr).toList)[j]? = some u → w.cell? ((ad.add (i * 9)).add j) = some u := fun j u hj hu => by
    rw [add_add]
    exact hcell _ _ (by rw [hg j hj]; exact hu)
  generalize ad.add (i * 9) = a at hof ⊢
  have ha : ∀ j, 0 < j → a.add j = ⟨a.block, a.off + j, none⟩ := fun j hj => by unfold Addr.add; rw [if_neg (by omega)]
  have h0 : a.add 0 = a := by unfold Addr.add; rw [if_pos rfl]
  refine ⟨?_, ?_, ?_, ?_, ?_, ?_, ?_, ?_, ?_⟩
  · have := hof 0 _ (by omega) rfl; rwa [h0] at this
  · have := hof 1 _ (by omega) rfl; rwa [ha _ (by omega)] at this
  · have := hof 2 _ (by omega) rfl; rwa [ha _ (by omega)] at this
  · have := hof 3 _ (by omega) rfl; rwa [ha _ (by omega)] at this
  · have := hof 4 _ (by omega) rfl; rwa [ha _ (by omega)] at this
  · have := hof 5 _ (by omega) rfl; rwa [ha _ (by omega)] at this
  · have := hof 6 _ (by omega) rfl; rwa [ha _ (by omega)] at this
  · have := hof 7 _ (by omega) rfl; rwa [ha _ (by omega)] at this
  · have := hof 8 _ (by omega) rfl; rwa [ha _ (by omega)] at this
end

/-- A moment. -/
theorem size_moment : (Tryz.prog.info? 144).map (·.size) = some 2 := by kernel_rfl
theorem blk2 {w : World} {g : Nat} {t : TypeId} {a b x0 x1 : Value} (h : Blk w g t #[a, b]) : Blk ((w.setCell ⟨g, 0, none⟩ x0).setCell ⟨g, 1, none⟩ x1) g t #[x0, x1] := by
  have := (h.set_ 0 x0).set_ 1 x1
  simpa using this
def MV (d : Sd) : Value := .agg #[.int .i64 d.q.client, .int .i64 d.q.time]
set_option maxRecDepth 100000 in
set_option maxHeartbeats 1000000 in
theorem moment_any (d : Sd) (A : Option Addr) (c : Nat) (w : World) :
    Calls Tryz.prog 100 #[DV d A c] w fun e w' => e = .returned (MV d) ∧ Below w.heap.size w w' := by
  have b1 := op_below w (.cells (DC d A c) 53)
  have b2 : Below w.heap.size w ((w.alloc (.cells (DC d A c) 53)).alloc (.cells #[.int .i64 0, .int .i64 0] 144)) := b1.alloc b1.size _
  have k0 : DK ((w.alloc (.cells (DC d A c) 53)).alloc (.cells #[.int .i64 0, .int .i64 0] 144)) w.heap.size d A c := Blk.alloc (Blk.new w _ _) _
  obtain ⟨a0, a1, -⟩ := k0.cells
  clear b1 b2 k0
  unfold DV MV
  unfold DC at *
  go_enter Tryz.func100, Tryz.ntmps100
  go_wp2_with fail
  refine bodyPost_ret (results_row1 rfl _ _ (w.heap.size + 1) 144 #[.int .i64 d.q.client, .int .i64 d.q.time] (0, 0) _ rfl (Blk.new_at (by simp) rfl) Tryz.underlying144 rfl size_moment) rfl ?_
  exact ⟨rfl, (op_below w _).trans ((op_below _ _).mono (by simp))⟩
theorem guard_moment : Tryz.prog.eqGuardType Tryz.prog.depth 144 = false := by kernel_rfl
theorem stood_moment : Tryz.prog.stoodInHeld 144 = false := by kernel_rfl
theorem fields_moment : Tryz.prog.underlying 144 = some (.struct (Tryz.prog.fieldsOf 144)) := by kernel_rfl
theorem pair_beq (a b c e : Int) : ((a, b) == (c, e)) = (decide (a = c) && decide (b = e)) := by
  rw [Bool.eq_iff_iff]
  simp
theorem run_eql_moment (W : World) (x y : Sd) : (binOp .eql 144 (MV x) (MV y)).run Tryz.prog W = .ok (.bool (mom x == mom y)) W := by
  unfold MV mom
  obtain ⟨a, ha⟩ : ∃ a, a = x.q.client := ⟨_, rfl⟩
  obtain ⟨b, hb⟩ : ∃ b, b = x.q.time := ⟨_, rfl⟩
  obtain ⟨c, hc⟩ : ∃ c, c = y.q.client := ⟨_, rfl⟩
  obtain ⟨e, he⟩ : ∃ e, e = y.q.time := ⟨_, rfl⟩
  rw [← ha, ← hb, ← hc, ← he, pair_beq]
  rw [run_eql_struct, show (10000 : Nat) = 9998 + 1 + 1 from rfl, run_equalIn_struct W (9998 + 1) 144 _ _ fields_moment stood_moment]
  have hf : (Tryz.prog.fieldsOf 144).toList = [{ name := "client", type := 3, offset := 0, embedded := false, tag := "", pkgPath := "bulla/request", byteOffset := 0 }, { name := "time", type := 2, offset := 1, embedded := false, tag := "", pkgPath := "bulla/request", byteOffset := 8 }] := by kernel_rfl
  rw [hf]
  have h1 := fun (x y : Int) (W : World) => run_equalIn_int (P := Tryz.prog) W 9998 3 .i64 .i64 x y Tryz.underlying3
  have h2 := fun (x y : Int) (W : World) => run_equalIn_int (P := Tryz.prog) W 9998 2 .i64 .i64 x y Tryz.underlying2
  have p1 : ∀ (u v : Value) (W : World), (part 3 #[u, v] 0).run Tryz.prog W = .ok u W := fun u v W => by simp [part, isAgg, run_underlying Tryz.underlying3]
  have p2 : ∀ (u v : Value) (W : World), (part 2 #[u, v] 1).run Tryz.prog W = .ok v W := fun u v W => by simp [part, isAgg, run_underlying Tryz.underlying2]
  clear ha hb hc he
  by_cases hac : a = c
  · by_cases hbe : b = e
    · subst hac; subst hbe
      simp [Op.eqFields, p1, p2, h1, h2, Result.andThen]
    · subst hac
      simp [Op.eqFields, p1, p2, h1, h2, Result.andThen, hbe]
  · simp [Op.eqFields, p1, h1, Result.andThen, hac]

set_option maxHeartbeats 1000000 in
theorem signed_any (d : Sd) (A : Option Addr) (c : Nat) (X : Nat → Prop) (w : World) (hls : Ls w X (.slice A d.q.o.recs.length c) d.q.o.recs) (hl : d.q.o.recs.length ≤ 140737488355328) :
    Calls Tryz.prog 67 #[DV d A c] w fun e w' => e = .returned (.int .i64 (dcheck d)) ∧ Below w.heap.size w w' := by
  have b1 := op_below w (.cells (DC d A c) 53)
  have k0 : DK (w.alloc (.cells (DC d A c) 53)) w.heap.size d A c := Blk.new w _ _
  have HC := Lib.hid (check_any d.q (QV d.q A c) X _ ⟨A, c, rfl, hls.after b1⟩ hl)
  obtain ⟨a0, a1, a2, a3, a4, a5, a6, a7, a8⟩ := k0.cells
  have HB := Lib.hid b1
  have HK := Lib.hid k0
  have HQ : Hid (dcheck d = if qcheck d.q ≠ 0 then qcheck d.q else scheck d.s) := Lib.hid rfl
  clear b1 k0 hls
  unfold QV QC at HC
  unfold DV
  unfold DC at a0 a1 a2 a3 a4 a5 a6 a7 a8 HC HB ⊢
  go_enter Tryz.func67, Tryz.ntmps67
  go_wp2_with fail
  refine HC.out.mono ?_
  rintro e w1 ⟨he, hb1⟩
  have HB1 := Lib.hid (HB.out.trans (hb1.mono HB.out.size))
  obtain ⟨-, -, -, -, -, -, -, b7, b8⟩ := DK.cells (HK.out.below hb1 HK.out.lt)
  clear a0 a1 a2 a3 a4 a5 a6 a7 a8 hb1
  by_cases hq : qcheck d.q = 0
  · rw [hq] at he HQ
    subst he
    go_wp2_with fail
    refine (csign_any d.s _).mono ?_
    rintro e w2 ⟨rfl, hb2⟩
    have HB2 := Lib.hid (HB1.out.trans (hb2.mono HB1.out.size))
    clear hb2 hq
    go_wp2_with fail
    go_ret
    exact ⟨by rw [HQ.out]; rfl, HB2.out⟩
  · have hd : (qcheck d.q != 0) = true := by simpa using hq
    rw [if_pos hq] at HQ
    subst he
    have hd2 : (qcheck d.q == 0) = false := by simpa using hq
    clear hq
    go_wp2_with fail
    go_ret
    exact ⟨by rw [HQ.out]; rfl, HB1.out⟩
end Go.Proofs.YtebjjkhiniccgaaGreat.Jb

/-
  Layer 8 (request): the contracts of isTwice and CheckBatch.
-/
namespace Go.Proofs.YtebjjkhiniccgaaGreat.Jc
set_option linter.unusedSimpArgs false
open Go Go.RowKit Ck Kw Ga Kf Pm Pe Pg Ph Qb Lk Jm Ja Jb
attribute [local go_sem ↓] Go.wp_at_zero Go.wp_at_succ
set_option linter.unusedVariables false

theorem slice_upto (A : Option Addr) (n c k : Nat) (hk : k ≤ c) (W : World) : (Instr.slice 39 (.slice A n c) none (some (.int .i64 (k : Int))) none).run Tryz.prog W = .ok (.slice A k c) W := by
  have he : ∀ W : World, (sizeOf (Tryz.prog.elem 39)).run Tryz.prog W = .ok 9 W := fun _ => by kernel_rfl
  rw [run_slice_h W 39 A n c (by kernel_rfl) .i64 k (by omega) (by omega), he]
  simp only [Result.andThen_ok, sliced, Int.toNat_natCast]
  congr 2
  by_cases h0 : c = 0
  · simp [h0]
  · cases A <;> simp [h0, Addr.add]
theorem size_signed : (Tryz.prog.info? 53).map (·.size) = some 9 := by kernel_rfl
/-- A signed request is read whole. -/
theorem run_ld {W : World} {g : Nat} {d : Sd} {A : Option Addr} {c : Nat} (h : DK W g d A c) : (Instr.loadAt 53 (.pointer (some ⟨g, 0, none⟩))).run Tryz.prog W = .ok (.agg (DC d A c)) W :=
  run_loadAt_mid W g 0 53 (DC d A c).toList _ (fun j v hv => by rw [Nat.zero_add, Blk.cell h j]; simpa using hv) Tryz.underlying53 rfl size_signed
theorem hasM_of {l : List Sd} {i k : Nat} (hk : k < i) (hl : k < l.length) {x : Sd} (h : (mom x == mom l[k]) = true) : hasM (l.take i) x = true := by
  unfold hasM
  rw [List.any_eq_true]
  refine ⟨l[k], ?_, h⟩
  rw [List.mem_take_iff_getElem]
  exact ⟨k, by omega, rfl⟩
theorem hasM_nil (x : Sd) : hasM [] x = false := rfl
/-- A signed request lies there. -/
structure K1 (w0 : World) (g : Nat) (d : Sd) (A : Option Addr) (c : Nat) (W : World) : Prop where
  below : Below w0.heap.size w0 W
  new : w0.heap.size ≤ g
  one : DK W g d A c
theorem K1.later {w0 W W' : World} {g : Nat} {d : Sd} {A : Option Addr} {c : Nat} (h : K1 w0 g d A c W) (b : Below W.heap.size W W') : K1 w0 g d A c W' := ⟨h.below.trans (b.mono h.below.size), h.new, h.one.below b h.one.lt⟩
theorem k1_new {w0 W : World} (h : Below w0.heap.size w0 W) (d : Sd) (A : Option Addr) (c : Nat) : K1 w0 W.heap.size d A c (W.alloc (.cells (DC d A c) 53)) := ⟨h.alloc h.size _, h.size, Blk.new W _ _⟩
structure K2 (w0 : World) (g1 g2 : Nat) (x y : Sd) (A B : Option Addr) (c d : Nat) (W : World) : Prop where
  one : K1 w0 g1 x A c W
  two : DK W g2 y B d
theorem K2.later {w0 W W' : World} {g1 g2 : Nat} {x y : Sd} {A B : Option Addr} {c d : Nat} (h : K2 w0 g1 g2 x y A B c d W) (b : Below W.heap.size W W') : K2 w0 g1 g2 x y A B c d W' := ⟨h.one.later b, h.two.below b h.two.lt⟩
theorem K2.drew {w0 W : World} {g1 g2 : Nat} {x y : Sd} {A B : Option Addr} {c d : Nat} (h : K2 w0 g1 g2 x y A B c d W) : K2 w0 g1 g2 x y A B c d W.drew := h.later ⟨rfl, rfl, rfl, Nat.le_refl _, fun _ _ => rfl⟩

set_option maxRecDepth 100000 in
set_option maxHeartbeats 8000000 in
theorem twice_any (w : World) (X : Nat → Prop) (A : Option Addr) (c : Nat) (l : List Sd) (h : BI w X (.slice A l.length c) l) (h4 : l.length ≤ 4) :
    Calls Tryz.prog 68 #[.slice A l.length c] w fun e w' => e = .returned (.bool (twice l)) ∧ Below w.heap.size w w' := by
  obtain ⟨_, _, e, hc⟩ := h.shape
  injection e with e1 _ e2
  subst e1; subst e2
  have HB := Lib.hid h
  have HT : Hid (twI (l.take 0) (l.drop 0) = twice l) := Lib.hid rfl
  have hq := run_eql_moment
  have hg := guard_moment
  have HCC := Lib.hid hc
  clear h hc
  go_enter Tryz.func68, Tryz.ntmps68
  go_wp2_with fail
  go_loopw [9] (fun j wr => ∃ i : Nat, i ≤ l.length ∧ j = .int .i64 i ∧ twI (l.take i) (l.drop i) = twice l ∧ Below w.heap.size w wr) (fun j _ => l.length - (intOf j).toNat)
  case atStart => exact ⟨0, Nat.zero_le _, rfl, HT.out, Below.refl _ w⟩
  case round =>
    obtain ⟨i, hi, rfl, htw, hb⟩ := hrel
    clear HT
    by_cases hlt : i < l.length
    · rw [twI_step hlt] at htw
      obtain ⟨ad, Ar, cr, rfl, ⟨a0, a1, a2, a3, a4, a5, a6, a7, a8⟩, hls⟩ := (HB.out.after hb).at_ hlt
      have HTW := Lib.hid htw
      have hk1 := k1_new hb l[i] Ar cr
      have HLT := Lib.hid hlt
      have HBB := Lib.hid hb
      clear htw hls hb
      have hsl := slice_upto (some ad) l.length c i (by have := HCC.out; omega)
      generalize hx : l[i] = x at *
      have HX := Lib.hid hx
      clear hx
      unfold DC at hk1
      go_wp2_with fail
      generalize wr.alloc (.cells #[.int .i64 x.q.client, .int .i64 x.q.time, .int .i64 x.q.o.kind, .string ⟨x.q.o.topic.toArray⟩, .string ⟨x.q.o.group.toArray⟩, .int .i64 x.q.o.off, .slice Ar x.q.o.recs.length cr, .int .i64 x.s.1, .int .i64 x.s.2] 53) = w1 at *
      generalize wr.heap.size = g1 at *
      have HK := Lib.hid hk1
      clear hk1 a0 a1 a2 a3 a4 a5 a6 a7 a8
      have HM0 : Hid (hasM (l.take 0) x = false) := Lib.hid rfl
      go_loopw [18] (fun j wr => ∃ k : Nat, k ≤ i ∧ j = .int .i64 k ∧ hasM (l.take k) x = false ∧ K1 w g1 x Ar cr wr) (fun j _ => i - (intOf j).toNat)
      case atStart => exact ⟨0, Nat.zero_le _, rfl, HM0.out, HK.out⟩
      case round =>
        obtain ⟨k, hk, rfl, hm, hk1⟩ := hrel
        clear HM0 HK
        by_cases hlt2 : k < i
        · have hl2 : k < l.length := by omega
          obtain ⟨ad', Ar2, cr2, hA, ⟨a0, a1, a2, a3, a4, a5, a6, a7, a8⟩, hls⟩ := (HB.out.after hk1.below).at_ hl2
          obtain rfl : ad = ad' := Option.some.inj hA
          have hst := hasM_take (x := x) hl2
          have hof : (mom x == mom l[k]) = true → hasM (l.take i) x = true := fun e => hasM_of hlt2 hl2 e
          generalize hy : l[k] = y at *
          have HHM : Hid (hasM (l.take (k + 1)) x = (mom x == mom y)) := Lib.hid (by rw [hst, hm, Bool.false_or])
          have HOF := Lib.hid hof
          have hk2 : K2 w g1 wr.heap.size x y Ar Ar2 cr cr2 (wr.alloc (.cells (DC y Ar2 cr2) 53)) := ⟨hk1.later (op_below _ _), Blk.new wr _ _⟩
          clear hst hm hls hA hy hof hk1 hl2
          unfold DC at hk2
          go_wp2_with fail
          generalize wr.alloc (.cells #[.int .i64 y.q.client, .int .i64 y.q.time, .int .i64 y.q.o.kind, .string ⟨y.q.o.topic.toArray⟩, .string ⟨y.q.o.group.toArray⟩, .int .i64 y.q.o.off, .slice Ar2 y.q.o.recs.length cr2, .int .i64 y.s.1, .int .i64 y.s.2] 53) = w2 at *
          generalize wr.heap.size = g2 at *
          clear a0 a1 a2 a3 a4 a5 a6 a7 a8
          have HK2 := Lib.hid hk2
          have HMX := fun W : World => Lib.hid (moment_any x Ar cr W)
          have HMY := fun W : World => Lib.hid (moment_any y Ar2 cr2 W)
          unfold DV DC MV at HMX HMY
          clear hk2
          by_cases heq : (mom x == mom y) = true
          · rw [heq] at HHM HOF
            have hqq : ∀ W : World, (binOp .eql 144 (MV x) (MV y)).run Tryz.prog W = .ok (.bool true) W := fun W => by rw [hq, heq]
            unfold MV at hqq
            clear heq hq
            have tok1 : True := trivial
            go_region_held3 (fun w' => (w'.cell? ⟨g1, 0, none⟩ = some (.int .i64 x.q.client) ∧ w'.cell? ⟨g1, 1, none⟩ = some (.int .i64 x.q.time) ∧ w'.cell? ⟨g1, 2, none⟩ = some (.int .i64 x.q.o.kind) ∧ w'.cell? ⟨g1, 3, none⟩ = some (.string ⟨x.q.o.topic.toArray⟩) ∧ w'.cell? ⟨g1, 4, none⟩ = some (.string ⟨x.q.o.group.toArray⟩) ∧ w'.cell? ⟨g1, 5, none⟩ = some (.int .i64 x.q.o.off) ∧ w'.cell? ⟨g1, 6, none⟩ = some (.slice Ar x.q.o.recs.length cr) ∧ w'.cell? ⟨g1, 7, none⟩ = some (.int .i64 x.s.1) ∧ w'.cell? ⟨g1, 8, none⟩ = some (.int .i64 x.s.2)) ∧ (w'.cell? ⟨g2, 0, none⟩ = some (.int .i64 y.q.client) ∧ w'.cell? ⟨g2, 1, none⟩ = some (.int .i64 y.q.time) ∧ w'.cell? ⟨g2, 2, none⟩ = some (.int .i64 y.q.o.kind) ∧ w'.cell? ⟨g2, 3, none⟩ = some (.string ⟨y.q.o.topic.toArray⟩) ∧ w'.cell? ⟨g2, 4, none⟩ = some (.string ⟨y.q.o.group.toArray⟩) ∧ w'.cell? ⟨g2, 5, none⟩ = some (.int .i64 y.q.o.off) ∧ w'.cell? ⟨g2, 6, none⟩ = some (.slice Ar2 y.q.o.recs.length cr2) ∧ w'.cell? ⟨g2, 7, none⟩ = some (.int .i64 y.s.1) ∧ w'.cell? ⟨g2, 8, none⟩ = some (.int .i64 y.s.2))) (first | exact ⟨DK.cells HK2.out.one.one, DK.cells HK2.out.two⟩ | exact ⟨DK.cells HK3.out.one.one, DK.cells HK3.out.two⟩ | exact ⟨DK.cells HK4.out.one.one, DK.cells HK4.out.two⟩)
              (first
              | (go_at_call 100; have _t := tok1; clear tok1 _t; refine (HMX _).out.mono ?_; rintro e w3 ⟨rfl, hb3⟩; have HK3 := Lib.hid (HK2.out.drew.later hb3); clear hb3)
              | (go_at_call 100; refine (HMY _).out.mono ?_; rintro e w4 ⟨rfl, hb4⟩; have HK4 := Lib.hid (HK3.out.later hb4); clear hb4))
            all_goals
              go_wp2_with fail
              go_ret
              exact ⟨by rw [← HTW.out, HOF.out trivial]; rfl, HK4.out.one.below⟩
          · have heq := Bool.eq_false_iff.2 heq
            rw [heq] at HHM
            have hqq : ∀ W : World, (binOp .eql 144 (MV x) (MV y)).run Tryz.prog W = .ok (.bool false) W := fun W => by rw [hq, heq]
            unfold MV at hqq
            clear heq hq
            have tok1 : True := trivial
            go_region_held3 (fun w' => (w'.cell? ⟨g1, 0, none⟩ = some (.int .i64 x.q.client) ∧ w'.cell? ⟨g1, 1, none⟩ = some (.int .i64 x.q.time) ∧ w'.cell? ⟨g1, 2, none⟩ = some (.int .i64 x.q.o.kind) ∧ w'.cell? ⟨g1, 3, none⟩ = some (.string ⟨x.q.o.topic.toArray⟩) ∧ w'.cell? ⟨g1, 4, none⟩ = some (.string ⟨x.q.o.group.toArray⟩) ∧ w'.cell? ⟨g1, 5, none⟩ = some (.int .i64 x.q.o.off) ∧ w'.cell? ⟨g1, 6, none⟩ = some (.slice Ar x.q.o.recs.length cr) ∧ w'.cell? ⟨g1, 7, none⟩ = some (.int .i64 x.s.1) ∧ w'.cell? ⟨g1, 8, none⟩ = some (.int .i64 x.s.2)) ∧ (w'.cell? ⟨g2, 0, none⟩ = some (.int .i64 y.q.client) ∧ w'.cell? ⟨g2, 1, none⟩ = some (.int .i64 y.q.time) ∧ w'.cell? ⟨g2, 2, none⟩ = some (.int .i64 y.q.o.kind) ∧ w'.cell? ⟨g2, 3, none⟩ = some (.string ⟨y.q.o.topic.toArray⟩) ∧ w'.cell? ⟨g2, 4, none⟩ = some (.string ⟨y.q.o.group.toArray⟩) ∧ w'.cell? ⟨g2, 5, none⟩ = some (.int .i64 y.q.o.off) ∧ w'.cell? ⟨g2, 6, none⟩ = some (.slice Ar2 y.q.o.recs.length cr2) ∧ w'.cell? ⟨g2, 7, none⟩ = some (.int .i64 y.s.1) ∧ w'.cell? ⟨g2, 8, none⟩ = some (.int .i64 y.s.2))) (first | exact ⟨DK.cells HK2.out.one.one, DK.cells HK2.out.two⟩ | exact ⟨DK.cells HK3.out.one.one, DK.cells HK3.out.two⟩ | exact ⟨DK.cells HK4.out.one.one, DK.cells HK4.out.two⟩)
              (first
              | (go_at_call 100; have _t := tok1; clear tok1 _t; refine (HMX _).out.mono ?_; rintro e w3 ⟨rfl, hb3⟩; have HK3 := Lib.hid (HK2.out.drew.later hb3); clear hb3)
              | (go_at_call 100; refine (HMY _).out.mono ?_; rintro e w4 ⟨rfl, hb4⟩; have HK4 := Lib.hid (HK3.out.later hb4); clear hb4))
            all_goals
              go_wp2_with fail
              go_roundw
              case rel => exact ⟨k + 1, by omega, by go_num, HHM.out, HK4.out.one⟩
              case measure => simp [intOf]; omega
        · have hke : k = i := by omega
          subst hke
          have HN := Lib.hid hm
          have HK1 := Lib.hid hk1
          clear hm hk1
          go_wp2_with fail
          go_roundw
          case rel => exact ⟨k + 1, by omega, by go_num, by rw [← HTW.out, HN.out]; rfl, HK1.out.below⟩
          case measure => simp [intOf]; omega
    · have hz : l.drop i = [] := List.drop_eq_nil_iff.2 (by omega)
      rw [hz] at htw
      have HN : Hid (twice l = false) := Lib.hid htw.symm
      have HBB := Lib.hid hb
      clear htw hz hb
      go_wp2_with fail
      go_ret
      exact ⟨by rw [HN.out]; rfl, HBB.out⟩

set_option maxRecDepth 100000 in
set_option maxHeartbeats 4000000 in
theorem cbatch_any (w : World) (X : Nat → Prop) (v : Value) (l : List Sd) (h : BI w X v l) (hr : ∀ x ∈ l, x.q.o.recs.length ≤ 140737488355328) (hl63 : l.length ≤ 140737488355328) :
    Calls Tryz.prog 38 #[v] w fun e w' => e = .returned (.int .i64 (bcheck l)) ∧ Below w.heap.size w w' := by
  obtain ⟨A, c, rfl, -⟩ := h.shape
  by_cases h4 : 4 < l.length
  · have hd : decide (4 < (l.length : Int)) = true := decide_eq_true (by omega)
    have HN : Hid (bcheck l = 3) := Lib.hid (by rw [bcheck, if_pos h4])
    clear h
    go_enter Tryz.func38, Tryz.ntmps38
    go_wp2_with fail
    go_ret
    exact ⟨by rw [HN.out]; rfl, Below.refl _ w⟩
  · have hd : decide (4 < (l.length : Int)) = false := decide_eq_false (by omega)
    have h4' : l.length ≤ 4 := by omega
    have HB := Lib.hid h
    have HR := Lib.hid hr
    have HQ : Hid (bcheck l = if lcheck l ≠ 0 then lcheck l else if twice l then 5 else 0) := Lib.hid (by rw [bcheck, if_neg h4])
    clear h hr h4
    go_enter Tryz.func38, Tryz.ntmps38
    go_wp2_with fail
    go_loopw [11] (fun j wr => ∃ i : Nat, i ≤ l.length ∧ j = .int .i64 i ∧ lcheck (l.drop i) = lcheck l ∧ Below w.heap.size w wr) (fun j _ => l.length - (intOf j).toNat)
    case atStart => exact ⟨0, Nat.zero_le _, rfl, rfl, Below.refl _ w⟩
    case round =>
      obtain ⟨i, hi, rfl, hlc, hb⟩ := hrel
      by_cases hlt : i < l.length
      · rw [lcheck_drop hlt] at hlc
        obtain ⟨ad, Ar, cr, rfl, ⟨a0, a1, a2, a3, a4, a5, a6, a7, a8⟩, hls⟩ := (HB.out.after hb).at_ hlt
        have hrl := HR.out _ (List.getElem_mem hlt)
        generalize hx : l[i] = x at *
        have hk1 := k1_new hb x Ar cr
        have HC := Lib.hid (signed_any x Ar cr X _ (hls.after (op_below wr (.cells (DC x Ar cr) 53))) hrl)
        have HBB := Lib.hid hb
        have HLC := Lib.hid hlc
        clear hlc hls hb hx
        unfold DV at HC
        unfold DC at hk1 HC
        go_wp2_with fail
        generalize wr.alloc (.cells #[.int .i64 x.q.client, .int .i64 x.q.time, .int .i64 x.q.o.kind, .string ⟨x.q.o.topic.toArray⟩, .string ⟨x.q.o.group.toArray⟩, .int .i64 x.q.o.off, .slice Ar x.q.o.recs.length cr, .int .i64 x.s.1, .int .i64 x.s.2] 53) = w1 at *
        generalize wr.heap.size = g1 at *
        have HK := Lib.hid hk1
        clear hk1 a0 a1 a2 a3 a4 a5 a6 a7 a8
        refine HC.out.mono ?_
        rintro e w2 ⟨he, hb2⟩
        have HK2 := Lib.hid (HK.out.later hb2)
        clear hb2
        by_cases hd0 : dcheck x = 0
        · rw [hd0] at he
          subst he
          have HN := Lib.hid (show lcheck (l.drop (i + 1)) = lcheck l by rw [← HLC.out, if_neg (by rw [hd0]; simp)])
          clear hd0
          go_wp2_with fail
          go_roundw
          case rel => exact ⟨i + 1, by omega, by go_num, HN.out, HK2.out.below⟩
          case measure => simp [intOf]; omega
        · subst he
          have HN := Lib.hid (show bcheck l = dcheck x by
            have e : dcheck x = lcheck l := by have := HLC.out; rwa [if_pos hd0] at this
            rw [HQ.out, ← e, if_pos hd0])
          have hne : (dcheck x != 0) = true := by simpa using hd0
          have hne2 : (dcheck x == 0) = false := by simpa using hd0
          clear hd0
          go_wp2_with fail
          go_ret
          exact ⟨by rw [HN.out]; rfl, HK2.out.below⟩
      · have hz : l.drop i = [] := List.drop_eq_nil_iff.2 (by omega)
        rw [hz] at hlc
        have HN : Hid (bcheck l = if twice l then 5 else 0) := Lib.hid (by rw [HQ.out, ← hlc]; rfl)
        have HBB := Lib.hid hb
        have HTA := Lib.hid (twice_any wr X A c l (HB.out.after hb) h4')
        clear hlc hz hb
        go_wp2_with fail
        refine HTA.out.mono ?_
        rintro e w2 ⟨he, hb2⟩
        have HB2 := Lib.hid (HBB.out.trans (hb2.mono HBB.out.size))
        clear hb2
        by_cases ht : twice l = true
        · rw [ht] at he HN
          subst he
          clear ht
          go_wp2_with fail
          go_ret
          exact ⟨by rw [HN.out]; rfl, HB2.out⟩
        · have ht := Bool.eq_false_iff.2 ht
          rw [ht] at he HN
          subst he
          clear ht
          go_wp2_with fail
          go_ret
          exact ⟨by rw [HN.out]; rfl, HB2.out⟩
end Go.Proofs.YtebjjkhiniccgaaGreat.Jc
