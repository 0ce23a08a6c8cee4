/-
  Layer 8 (request): requests and signed requests in memory; the contracts of isClient, Key, Check, CheckSign, both sides.
-/
import Derived.Test.YtjdmadfjfjenjaaJm
import Derived.Test.YtjdmadfjfjenjaaPg
import Derived.Test.YtjdmadfjfjenjaaPh
import Derived.Test.YtjdmadfjfjenjaaGa
import Derived.Test.YtjdmadfjfjenjaaLk
namespace Go.Proofs.Ytjdmadfjfjenjaa.Ja
set_option linter.unusedSimpArgs false
open Go Go.RowKit Ck Kw Ga Pm Pe Pg Ph Lk Jm
attribute [local go_sem ↓] Go.wp_at_zero Go.wp_at_succ
set_option linter.unusedVariables false

/-- A request as a value: its records lie at A. -/
def QC (q : Q) (A : Option Addr) (c : Nat) : Array Value := #[.int .i64 q.client, .int .i64 q.time, .int .i64 q.o.kind, .string ⟨q.o.topic.toArray⟩, .string ⟨q.o.group.toArray⟩, .int .i64 q.o.off, .slice A q.o.recs.length c]
def QV (q : Q) (A : Option Addr) (c : Nat) : Value := .agg (QC q A c)
def QB (W : World) (g : Nat) (q : Q) (A : Option Addr) (c : Nat) : Prop := Blk W g 26 (QC q A c)
theorem QB.cells {W : World} {g : Nat} {q : Q} {A : Option Addr} {c : Nat} (h : QB W g q A c) :
    W.cell? ⟨g, 0, none⟩ = some (.int .i64 q.client) ∧ W.cell? ⟨g, 1, none⟩ = some (.int .i64 q.time) ∧ W.cell? ⟨g, 2, none⟩ = some (.int .i64 q.o.kind) ∧ W.cell? ⟨g, 3, none⟩ = some (.string ⟨q.o.topic.toArray⟩) ∧ W.cell? ⟨g, 4, none⟩ = some (.string ⟨q.o.group.toArray⟩) ∧ W.cell? ⟨g, 5, none⟩ = some (.int .i64 q.o.off) ∧ W.cell? ⟨g, 6, none⟩ = some (.slice A q.o.recs.length c) :=
  ⟨Blk.cell h 0, Blk.cell h 1, Blk.cell h 2, Blk.cell h 3, Blk.cell h 4, Blk.cell h 5, Blk.cell h 6⟩
/-- The value v is the request q, its records in no block of X. -/
def QI (w : World) (X : Nat → Prop) (v : Value) (q : Q) : Prop := ∃ A c, v = QV q A c ∧ Ls w X (.slice A q.o.recs.length c) q.o.recs
/-- A signed request as a value. -/
def DC (d : Sd) (A : Option Addr) (c : Nat) : Array Value := #[.int .i64 d.q.client, .int .i64 d.q.time, .int .i64 d.q.o.kind, .string ⟨d.q.o.topic.toArray⟩, .string ⟨d.q.o.group.toArray⟩, .int .i64 d.q.o.off, .slice A d.q.o.recs.length c, .int .i64 d.s.1, .int .i64 d.s.2]
def DV (d : Sd) (A : Option Addr) (c : Nat) : Value := .agg (DC d A c)
def DK (W : World) (g : Nat) (d : Sd) (A : Option Addr) (c : Nat) : Prop := Blk W g 41 (DC d A c)
theorem DK.cells {W : World} {g : Nat} {d : Sd} {A : Option Addr} {c : Nat} (h : DK W g d A c) :
    W.cell? ⟨g, 0, none⟩ = some (.int .i64 d.q.client) ∧ W.cell? ⟨g, 1, none⟩ = some (.int .i64 d.q.time) ∧ W.cell? ⟨g, 2, none⟩ = some (.int .i64 d.q.o.kind) ∧ W.cell? ⟨g, 3, none⟩ = some (.string ⟨d.q.o.topic.toArray⟩) ∧ W.cell? ⟨g, 4, none⟩ = some (.string ⟨d.q.o.group.toArray⟩) ∧ W.cell? ⟨g, 5, none⟩ = some (.int .i64 d.q.o.off) ∧ W.cell? ⟨g, 6, none⟩ = some (.slice A d.q.o.recs.length c) ∧ W.cell? ⟨g, 7, none⟩ = some (.int .i64 d.s.1) ∧ W.cell? ⟨g, 8, none⟩ = some (.int .i64 d.s.2) :=
  ⟨Blk.cell h 0, Blk.cell h 1, Blk.cell h 2, Blk.cell h 3, Blk.cell h 4, Blk.cell h 5, Blk.cell h 6, Blk.cell h 7, Blk.cell h 8⟩
def DI (w : World) (X : Nat → Prop) (v : Value) (d : Sd) : Prop := ∃ A c, v = DV d A c ∧ Ls w X (.slice A d.q.o.recs.length c) d.q.o.recs
section
variable {w w' : World} {X Y S : Nat → Prop} {v : Value} {q : Q} {d : Sd}
theorem QI.after (h : QI w X v q) (hb : Below w.heap.size w w') : QI w' X v q := by
  obtain ⟨A, c, hv, hl⟩ := h
  exact ⟨A, c, hv, hl.after hb⟩
theorem QI.weaken (h : QI w X v q) (hk : ∀ b, b < w.heap.size → Y b → X b) : QI w Y v q := by
  obtain ⟨A, c, hv, hl⟩ := h
  exact ⟨A, c, hv, hl.weaken hk⟩
theorem QI.ch (h : QI w X v q) (c : Ch S w w') (hd : ∀ k, k < w.heap.size → S k → X k) : QI w' X v q := by
  obtain ⟨A, c', hv, hl⟩ := h
  exact ⟨A, c', hv, hl.ch c hd⟩
theorem DI.after (h : DI w X v d) (hb : Below w.heap.size w w') : DI w' X v d := by
  obtain ⟨A, c, hv, hl⟩ := h
  exact ⟨A, c, hv, hl.after hb⟩
theorem DI.weaken (h : DI w X v d) (hk : ∀ b, b < w.heap.size → Y b → X b) : DI w Y v d := by
  obtain ⟨A, c, hv, hl⟩ := h
  exact ⟨A, c, hv, hl.weaken hk⟩
theorem DI.ch (h : DI w X v d) (c : Ch S w w') (hd : ∀ k, k < w.heap.size → S k → X k) : DI w' X v d := by
  obtain ⟨A, c', hv, hl⟩ := h
  exact ⟨A, c', hv, hl.ch c hd⟩
end
theorem op_below (w : World) (o : Obj) : Below w.heap.size w (w.alloc o) := (Below.refl _ w).alloc (Nat.le_refl _) o

theorem isclient_any (w : World) (c : Int) : Calls Try.prog 40 #[.int .i64 c] w fun e w' => e = .returned (.bool (isC c)) ∧ w = w' := by
  unfold isC
  by_cases h0 : 0 ≤ c
  · have h1 : decide (0 ≤ c) = true := decide_eq_true h0
    go_enter Try.func40, Try.ntmps40
    go_wp2
    go_ret
    exact ⟨by simp [h0], rfl⟩
  · have h1 : decide (0 ≤ c) = false := decide_eq_false h0
    have h2 : c < 0 := by omega
    go_enter Try.func40, Try.ntmps40
    go_wp2
    go_ret
    exact ⟨by simp [h0], rfl⟩
theorem key_any (w : World) (c : Int) : Calls Try.prog 14 #[.int .i64 c] w fun e w' => e = .returned (.int .i64 (key c)) ∧ w = w' := by
  have HC := Lib.hid (isclient_any w c)
  by_cases hc : isC c = true
  · have h0 := (isC_iff c).1 hc
    have HK := Lib.hid (show key c = 13 + c by rw [key, if_pos hc])
    rw [hc] at HC
    have hw : IntKind.i64.wrap (13 + c) = 13 + c := wrap64 (by omega) (by omega)
    clear hc
    go_enter Try.func14, Try.ntmps14
    go_wp2_with fail
    refine HC.out.mono ?_
    rintro e w1 ⟨rfl, rfl⟩
    go_wp2_with fail
    go_ret
    exact ⟨by rw [HK.out]; rfl, rfl⟩
  · have HK := Lib.hid (show key c = -1 by rw [key, if_neg hc])
    have hc := Bool.eq_false_iff.2 hc
    rw [hc] at HC
    clear hc
    go_enter Try.func14, Try.ntmps14
    go_wp2_with fail
    refine HC.out.mono ?_
    rintro e w1 ⟨rfl, rfl⟩
    go_wp2_with fail
    go_ret
    exact ⟨by rw [HK.out]; rfl, rfl⟩
theorem rkey_any (w : World) (c : Int) : Calls Try.prog 15 #[.int .i64 c] w fun e w' => e = .returned (.int .i64 (key c)) ∧ w = w' := by
  by_cases h0 : c < 0
  · have HK := Lib.hid (show key c = -1 by rw [key, if_neg]; rw [isC_iff]; omega)
    have h1 : decide (c < 0) = true := decide_eq_true h0
    go_enter Try.func15, Try.ntmps15
    go_wp2_with fail
    go_ret
    exact ⟨by rw [HK.out]; rfl, rfl⟩
  · have h1 : decide (c < 0) = false := decide_eq_false h0
    by_cases h8 : 8 ≤ c
    · have HK := Lib.hid (show key c = -1 by rw [key, if_neg]; rw [isC_iff]; omega)
      have h2 : decide (8 ≤ c) = true := decide_eq_true h8
      clear h0
      go_enter Try.func15, Try.ntmps15
      go_wp2_with fail
      go_ret
      exact ⟨by rw [HK.out]; rfl, rfl⟩
    · have HK := Lib.hid (show key c = 13 + c by rw [key, if_pos]; rw [isC_iff]; omega)
      have h2 : decide (8 ≤ c) = false := decide_eq_false h8
      have hw : IntKind.i64.wrap (13 + c) = 13 + c := wrap64 (by omega) (by omega)
      have h3 : 0 ≤ c := by omega
      have h4 : c < 8 := by omega
      clear h0 h8
      go_enter Try.func15, Try.ntmps15
      go_wp2_with fail
      go_ret
      exact ⟨by rw [HK.out]; rfl, rfl⟩
theorem key_neg {c : Int} (h : isC c = false) : key c = -1 := by rw [key, h]; rfl
theorem key_pos {c : Int} (h : isC c = true) : key c = 13 + c := by rw [key, h]; rfl

set_option maxHeartbeats 1000000 in
theorem check_any (x : Q) (v : Value) (X : Nat → Prop) (w : World) (h : QI w X v x) (hl : x.o.recs.length ≤ 140737488355328) :
    Calls Try.prog 8 #[v] w fun e w' => e = .returned (.int .i64 (qcheck x)) ∧ Below w.heap.size w w' := by
  obtain ⟨A, c, rfl, hls⟩ := h
  have hb0 := op_below w (.cells (QC x A c) 26)
  have hq0 : QB (w.alloc (.cells (QC x A c) 26)) w.heap.size x A c := Blk.new w _ _
  have HC := Lib.hid (Pg.check_any x.o (OV x.o A c) X _ ⟨A, c, rfl, hls.after hb0⟩ hl)
  obtain ⟨a0, a1, a2, a3, a4, a5, a6⟩ := hq0.cells
  have HB := Lib.hid hb0
  have HQ : Hid (qcheck x = if (!isC x.client || decide (x.time < 1) || decide (9007199254740992 < x.time)) = true then 80 else check x.o) := Lib.hid rfl
  clear hb0 hq0 hls
  unfold QV
  unfold OV QC at HC
  unfold QC at a0 a1 a2 a3 a4 a5 a6 HB ⊢
  have HI := fun W : World => Lib.hid (isclient_any W x.client)
  by_cases hc : isC x.client = true
  · rw [hc] at HQ; simp only [hc] at HI
    by_cases h1 : x.time < 1
    · have d1 : decide (x.time < 1) = true := decide_eq_true h1
      rw [d1] at HQ
      skip
      clear hc
      go_enter Try.func8, Try.ntmps8
      go_wp2_with fail
      refine (HI _).out.mono ?_; rintro e w1 ⟨rfl, rfl⟩
      go_wp2_with fail
      go_ret
      exact ⟨by rw [HQ.out]; rfl, HB.out⟩
    · have d1 : decide (x.time < 1) = false := decide_eq_false h1
      rw [d1] at HQ
      by_cases h2 : 9007199254740992 < x.time
      · have d2 : decide (9007199254740992 < x.time) = true := decide_eq_true h2
        rw [d2] at HQ
        skip
        clear hc h1 h2
        go_enter Try.func8, Try.ntmps8
        go_wp2_with fail
        refine (HI _).out.mono ?_; rintro e w1 ⟨rfl, rfl⟩
        go_wp2_with fail
        go_ret
        exact ⟨by rw [HQ.out]; rfl, HB.out⟩
      · have d2 : decide (9007199254740992 < x.time) = false := decide_eq_false h2
        rw [d2] at HQ
        skip
        clear hc h1 h2
        go_enter Try.func8, Try.ntmps8
        go_wp2_with fail
        refine (HI _).out.mono ?_; rintro e w1 ⟨rfl, rfl⟩
        go_wp2_with fail
        refine HC.out.mono ?_
        rintro e w1 ⟨rfl, hb1⟩
        have HB1 := Lib.hid (HB.out.trans (hb1.mono HB.out.size))
        clear hb1
        go_wp2_with fail
        go_ret
        exact ⟨by rw [HQ.out]; rfl, HB1.out⟩
  · have hc := Bool.eq_false_iff.2 hc
    rw [hc] at HQ; simp only [hc] at HI
    skip
    clear hc
    go_enter Try.func8, Try.ntmps8
    go_wp2_with fail
    refine (HI _).out.mono ?_; rintro e w1 ⟨rfl, rfl⟩
    go_wp2_with fail
    go_ret
    exact ⟨by rw [HQ.out]; rfl, HB.out⟩

set_option maxHeartbeats 1000000 in
theorem rcheck_any (x : Q) (v : Value) (X : Nat → Prop) (w : World) (h : QI w X v x) (hl : x.o.recs.length ≤ 140737488355328) :
    Calls Try.prog 9 #[v] w fun e w' => e = .returned (.int .i64 (qcheck x)) ∧ Below w.heap.size w w' := by
  obtain ⟨A, c, rfl, hls⟩ := h
  have hb0 := op_below w (.cells (QC x A c) 26)
  have hq0 : QB (w.alloc (.cells (QC x A c) 26)) w.heap.size x A c := Blk.new w _ _
  have HC := Lib.hid (Ph.rcheck_any x.o (OV x.o A c) X _ ⟨A, c, rfl, hls.after hb0⟩ hl)
  obtain ⟨a0, a1, a2, a3, a4, a5, a6⟩ := hq0.cells
  have HB := Lib.hid hb0
  have HQ : Hid (qcheck x = if (!isC x.client || decide (x.time < 1) || decide (9007199254740992 < x.time)) = true then 80 else check x.o) := Lib.hid rfl
  clear hb0 hq0 hls
  unfold QV
  unfold OV QC at HC
  unfold QC at a0 a1 a2 a3 a4 a5 a6 HB ⊢
  have HI := fun W : World => Lib.hid (rkey_any W x.client)
  by_cases hc : isC x.client = true
  · rw [hc] at HQ
    by_cases h1 : x.time < 1
    · have d1 : decide (x.time < 1) = true := decide_eq_true h1
      rw [d1] at HQ
      have hkp := key_pos hc; have hc1 := (isC_iff _).1 hc; have hd : decide (key x.client < 0) = false := decide_eq_false (by omega); clear hkp hc1
      clear hc
      go_enter Try.func9, Try.ntmps9
      go_wp2_with fail
      refine (HI _).out.mono ?_; rintro e w1 ⟨rfl, rfl⟩
      go_wp2_with fail
      go_ret
      exact ⟨by rw [HQ.out]; rfl, HB.out⟩
    · have d1 : decide (x.time < 1) = false := decide_eq_false h1
      rw [d1] at HQ
      by_cases h2 : 9007199254740992 < x.time
      · have d2 : decide (9007199254740992 < x.time) = true := decide_eq_true h2
        rw [d2] at HQ
        have hkp := key_pos hc; have hc1 := (isC_iff _).1 hc; have hd : decide (key x.client < 0) = false := decide_eq_false (by omega); clear hkp hc1
        clear hc h1 h2
        go_enter Try.func9, Try.ntmps9
        go_wp2_with fail
        refine (HI _).out.mono ?_; rintro e w1 ⟨rfl, rfl⟩
        go_wp2_with fail
        go_ret
        exact ⟨by rw [HQ.out]; rfl, HB.out⟩
      · have d2 : decide (9007199254740992 < x.time) = false := decide_eq_false h2
        rw [d2] at HQ
        have hkp := key_pos hc; have hc1 := (isC_iff _).1 hc; have hd : decide (key x.client < 0) = false := decide_eq_false (by omega); clear hkp hc1
        clear hc h1 h2
        go_enter Try.func9, Try.ntmps9
        go_wp2_with fail
        refine (HI _).out.mono ?_; rintro e w1 ⟨rfl, rfl⟩
        go_wp2_with fail
        refine HC.out.mono ?_
        rintro e w1 ⟨rfl, hb1⟩
        have HB1 := Lib.hid (HB.out.trans (hb1.mono HB.out.size))
        clear hb1
        go_wp2_with fail
        go_ret
        exact ⟨by rw [HQ.out]; rfl, HB1.out⟩
  · have hc := Bool.eq_false_iff.2 hc
    rw [hc] at HQ
    have hkp := key_neg hc; have hd : decide (key x.client < 0) = true := decide_eq_true (by omega); clear hkp
    clear hc
    go_enter Try.func9, Try.ntmps9
    go_wp2_with fail
    refine (HI _).out.mono ?_; rintro e w1 ⟨rfl, rfl⟩
    go_wp2_with fail
    go_ret
    exact ⟨by rw [HQ.out]; rfl, HB.out⟩

set_option maxHeartbeats 1000000 in
theorem csign_any (s : Int × Int) (w : World) :
    Calls Try.prog 10 #[GV s] w fun e w' => e = .returned (.int .i64 (scheck s)) ∧ Below w.heap.size w w' := by
  obtain ⟨k, d⟩ := s
  have hb0 := op_below w (.cells #[.int .i64 k, .int .i64 d] 29)
  have hq0 : Blk (w.alloc (.cells #[.int .i64 k, .int .i64 d] 29)) w.heap.size 29 #[.int .i64 k, .int .i64 d] := Blk.new w _ _
  have a0 : (w.alloc (.cells #[.int .i64 k, .int .i64 d] 29)).cell? ⟨w.heap.size, 0, none⟩ = some (.int .i64 k) := hq0.cell 0
  have a1 : (w.alloc (.cells #[.int .i64 k, .int .i64 d] 29)).cell? ⟨w.heap.size, 1, none⟩ = some (.int .i64 d) := hq0.cell 1
  have HB := Lib.hid hb0
  have HQ : Hid (scheck (k, d) = if (decide (k < 0) || decide (21 ≤ k) || decide (d < 1) || decide (9007199254740992 < d)) = true then 81 else 0) := Lib.hid rfl
  clear hb0 hq0
  unfold GV
  simp only
  by_cases h1 : k < 0
  · have d1 : decide (k < 0) = true := decide_eq_true h1
    rw [d1] at HQ
    go_enter Try.func10, Try.ntmps10
    go_wp2_with fail
    go_ret
    exact ⟨by rw [HQ.out]; rfl, HB.out⟩
  · have d1 : decide (k < 0) = false := decide_eq_false h1
    rw [d1] at HQ
    by_cases h2 : 21 ≤ k
    · have d2 : decide (21 ≤ k) = true := decide_eq_true h2
      rw [d2] at HQ
      clear h1
      go_enter Try.func10, Try.ntmps10
      go_wp2_with fail
      go_ret
      exact ⟨by rw [HQ.out]; rfl, HB.out⟩
    · have d2 : decide (21 ≤ k) = false := decide_eq_false h2
      rw [d2] at HQ
      by_cases h3 : d < 1
      · have d3 : decide (d < 1) = true := decide_eq_true h3
        rw [d3] at HQ
        clear h1 h2
        go_enter Try.func10, Try.ntmps10
        go_wp2_with fail
        go_ret
        exact ⟨by rw [HQ.out]; rfl, HB.out⟩
      · have d3 : decide (d < 1) = false := decide_eq_false h3
        rw [d3] at HQ
        by_cases h4 : 9007199254740992 < d
        · have d4 : decide (9007199254740992 < d) = true := decide_eq_true h4
          rw [d4] at HQ
          clear h1 h2 h3
          go_enter Try.func10, Try.ntmps10
          go_wp2_with fail
          go_ret
          exact ⟨by rw [HQ.out]; rfl, HB.out⟩
        · have d4 : decide (9007199254740992 < d) = false := decide_eq_false h4
          rw [d4] at HQ
          clear h1 h2 h3 h4
          go_enter Try.func10, Try.ntmps10
          go_wp2_with fail
          go_ret
          exact ⟨by rw [HQ.out]; rfl, HB.out⟩

set_option maxHeartbeats 1000000 in
theorem rcsign_any (s : Int × Int) (w : World) :
    Calls Try.prog 11 #[GV s] w fun e w' => e = .returned (.int .i64 (scheck s)) ∧ Below w.heap.size w w' := by
  obtain ⟨k, d⟩ := s
  have hb0 := op_below w (.cells #[.int .i64 k, .int .i64 d] 29)
  have hq0 : Blk (w.alloc (.cells #[.int .i64 k, .int .i64 d] 29)) w.heap.size 29 #[.int .i64 k, .int .i64 d] := Blk.new w _ _
  have a0 : (w.alloc (.cells #[.int .i64 k, .int .i64 d] 29)).cell? ⟨w.heap.size, 0, none⟩ = some (.int .i64 k) := hq0.cell 0
  have a1 : (w.alloc (.cells #[.int .i64 k, .int .i64 d] 29)).cell? ⟨w.heap.size, 1, none⟩ = some (.int .i64 d) := hq0.cell 1
  have HB := Lib.hid hb0
  have HQ : Hid (scheck (k, d) = if (decide (k < 0) || decide (21 ≤ k) || decide (d < 1) || decide (9007199254740992 < d)) = true then 81 else 0) := Lib.hid rfl
  clear hb0 hq0
  unfold GV
  simp only
  by_cases h1 : k < 0
  · have d1 : decide (k < 0) = true := decide_eq_true h1
    rw [d1] at HQ
    go_enter Try.func11, Try.ntmps11
    go_wp2_with fail
    go_ret
    exact ⟨by rw [HQ.out]; rfl, HB.out⟩
  · have d1 : decide (k < 0) = false := decide_eq_false h1
    rw [d1] at HQ
    by_cases h2 : 21 ≤ k
    · have d2 : decide (21 ≤ k) = true := decide_eq_true h2
      rw [d2] at HQ
      clear h1
      go_enter Try.func11, Try.ntmps11
      go_wp2_with fail
      go_ret
      exact ⟨by rw [HQ.out]; rfl, HB.out⟩
    · have d2 : decide (21 ≤ k) = false := decide_eq_false h2
      rw [d2] at HQ
      by_cases h3 : d < 1
      · have d3 : decide (d < 1) = true := decide_eq_true h3
        rw [d3] at HQ
        clear h1 h2
        go_enter Try.func11, Try.ntmps11
        go_wp2_with fail
        go_ret
        exact ⟨by rw [HQ.out]; rfl, HB.out⟩
      · have d3 : decide (d < 1) = false := decide_eq_false h3
        rw [d3] at HQ
        by_cases h4 : 9007199254740992 < d
        · have d4 : decide (9007199254740992 < d) = true := decide_eq_true h4
          rw [d4] at HQ
          clear h1 h2 h3
          go_enter Try.func11, Try.ntmps11
          go_wp2_with fail
          go_ret
          exact ⟨by rw [HQ.out]; rfl, HB.out⟩
        · have d4 : decide (9007199254740992 < d) = false := decide_eq_false h4
          rw [d4] at HQ
          clear h1 h2 h3 h4
          go_enter Try.func11, Try.ntmps11
          go_wp2_with fail
          go_ret
          exact ⟨by rw [HQ.out]; rfl, HB.out⟩

end Go.Proofs.Ytjdmadfjfjenjaa.Ja
