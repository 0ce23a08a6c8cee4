/-
  Layer 8 (request): requests and signed requests in memory; the contracts of isClient, Key, Check, CheckSign, both sides.
-/
import Derived.Test.YtobphijbhghgmaaGreatO04
import Derived.Test.YtobphijbhghgmaaGreatO02
import Derived.Test.YtobphijbhghgmaaGreatO03
import Derived.Test.YtobphijbhghgmaaGreatO01
import Derived.Laws.StructEq
import Derived.Deep.RegionHeld3
import Derived.Lib.AppendZeros
import Derived.Lib.AppendZerosOnto
import Derived.Lib.BufferWrite
import Derived.Lib.UnsafeStr
import Derived.Lib.Strings
import Derived.Lib.Walk
import Derived.Laws.MakeOwn
import Derived.Outline
import Derived.Lib.MinMax
import Derived.Deep.QuietTactic
import Derived.BigQuiet
namespace Go.Proofs.YtobphijbhghgmaaGreat.Ja
set_option linter.unusedSimpArgs false
open Go Go.RowKit Ck Kw Ga Pm Pe Pg Ph Lk Jm
attribute [local go_sem ↓] Go.wp_at_zero Go.wp_at_succ
set_option linter.unusedVariables false

/-- A request as a value: its records lie at A. -/
def QC (q : Q) (A : Option Addr) (c : Nat) : Array Value := #[.int .i64 q.client, .int .i64 q.time, .int .i64 q.o.kind, .string ⟨q.o.topic.toArray⟩, .string ⟨q.o.group.toArray⟩, .int .i64 q.o.off, .slice A q.o.recs.length c]
def QV (q : Q) (A : Option Addr) (c : Nat) : Value := .agg (QC q A c)
def QB (W : World) (g : Nat) (q : Q) (A : Option Addr) (c : Nat) : Prop := Blk W g 100 (QC q A c)
theorem QB.cells {W : World} {g : Nat} {q : Q} {A : Option Addr} {c : Nat} (h : QB W g q A c) :
    W.cell? ⟨g, 0, none⟩ = some (.int .i64 q.client) ∧ W.cell? ⟨g, 1, none⟩ = some (.int .i64 q.time) ∧ W.cell? ⟨g, 2, none⟩ = some (.int .i64 q.o.kind) ∧ W.cell? ⟨g, 3, none⟩ = some (.string ⟨q.o.topic.toArray⟩) ∧ W.cell? ⟨g, 4, none⟩ = some (.string ⟨q.o.group.toArray⟩) ∧ W.cell? ⟨g, 5, none⟩ = some (.int .i64 q.o.off) ∧ W.cell? ⟨g, 6, none⟩ = some (.slice A q.o.recs.length c) :=
  ⟨Blk.cell h 0, Blk.cell h 1, Blk.cell h 2, Blk.cell h 3, Blk.cell h 4, Blk.cell h 5, Blk.cell h 6⟩
/-- The value v is the request q, its records in no block of X. -/
def QI (w : World) (X : Nat → Prop) (v : Value) (q : Q) : Prop := ∃ A c, v = QV q A c ∧ Ls w X (.slice A q.o.recs.length c) q.o.recs
/-- A signed request as a value. -/
def DC (d : Sd) (A : Option Addr) (c : Nat) : Array Value := #[.int .i64 d.q.client, .int .i64 d.q.time, .int .i64 d.q.o.kind, .string ⟨d.q.o.topic.toArray⟩, .string ⟨d.q.o.group.toArray⟩, .int .i64 d.q.o.off, .slice A d.q.o.recs.length c, .int .i64 d.s.1, .int .i64 d.s.2]
def DV (d : Sd) (A : Option Addr) (c : Nat) : Value := .agg (DC d A c)
def DK (W : World) (g : Nat) (d : Sd) (A : Option Addr) (c : Nat) : Prop := Blk W g 104 (DC d A c)
theorem DK.cells {W : World} {g : Nat} {d : Sd} {A : Option Addr} {c : Nat} (h : DK W g d A c) :
    W.cell? ⟨g, 0, none⟩ = some (.int .i64 d.q.client) ∧ W.cell? ⟨g, 1, none⟩ = some (.int .i64 d.q.time) ∧ W.cell? ⟨g, 2, none⟩ = some (.int .i64 d.q.o.kind) ∧ W.cell? ⟨g, 3, none⟩ = some (.string ⟨d.q.o.topic.toArray⟩) ∧ W.cell? ⟨g, 4, none⟩ = some (.string ⟨d.q.o.group.toArray⟩) ∧ W.cell? ⟨g, 5, none⟩ = some (.int .i64 d.q.o.off) ∧ W.cell? ⟨g, 6, none⟩ = some (.slice A d.q.o.recs.length c) ∧ W.cell? ⟨g, 7, none⟩ = some (.int .i64 d.s.1) ∧ W.cell? ⟨g, 8, none⟩ = some (.int .i64 d.s.2) :=
  ⟨Blk.cell h 0, Blk.cell h 1, Blk.cell h 2, Blk.cell h 3, Blk.cell h 4, Blk.cell h 5, Blk.cell h 6, Blk.cell h 7, Blk.cell h 8⟩
def DI (w : World) (X : Nat → Prop) (v : Value) (d : Sd) : Prop := ∃ A c, v = DV d A c ∧ Ls w X (.slice A d.q.o.recs.length c) d.q.o.recs
section
variable {w w' : World} {X Y S : Nat → Prop} {v : Value} {q : Q} {d : Sd}
theorem QI.after (h : QI w X v q) (hb : Below w.heap.size w w') : QI w' X v q := by
  obtain ⟨A, c, hv, hl⟩ := h
  exact ⟨A, c, hv, hl.after hb⟩
theorem QI.weaken (h : QI w X v q) (hk : ∀ b, b < w.heap.size → Y b → X b) : QI w Y v q := by
  obtain ⟨A, c, hv, hl⟩ := h
  exact ⟨A, c, hv, hl.weaken hk⟩
theorem QI.ch (h : QI w X v q) (c : Ch S w w') (hd : ∀ k, k < w.heap.size → S k → X k) : QI w' X v q := by
  obtain ⟨A, c', hv, hl⟩ := h
  exact ⟨A, c', hv, hl.ch c hd⟩
theorem DI.after (h : DI w X v d) (hb : Below w.heap.size w w') : DI w' X v d := by
  obtain ⟨A, c, hv, hl⟩ := h
  exact ⟨A, c, hv, hl.after hb⟩
theorem DI.weaken (h : DI w X v d) (hk : ∀ b, b < w.heap.size → Y b → X b) : DI w Y v d := by
  obtain ⟨A, c, hv, hl⟩ := h
  exact ⟨A, c, hv, hl.weaken hk⟩
theorem DI.ch (h : DI w X v d) (c : Ch S w w') (hd : ∀ k, k < w.heap.size → S k → X k) : DI w' X v d := by
  obtain ⟨A, c', hv, hl⟩ := h
  exact ⟨A, c', hv, hl.ch c hd⟩
end
theorem op_below (w : World) (o : Obj) : Below w.heap.size w (w.alloc o) := (Below.refl _ w).alloc (Nat.le_refl _) o

theorem isclient_any (w : World) (c : Int) : Calls Tryz.prog 152 #[.int .i64 c] w fun e w' => e = .returned (.bool (isC c)) ∧ w = w' := by
  unfold isC
  by_cases h0 : 0 ≤ c
  · have h1 : decide (0 ≤ c) = true := decide_eq_true h0
    go_enter Tryz.func152, Tryz.ntmps152
    go_wp2
    go_ret
    exact ⟨by simp [h0], rfl⟩
  · have h1 : decide (0 ≤ c) = false := decide_eq_false h0
    have h2 : c < 0 := by omega
    go_enter Tryz.func152, Tryz.ntmps152
    go_wp2
    go_ret
    exact ⟨by simp [h0], rfl⟩
theorem key_pos {c : Int} (h : isC c = true) : key c = 13 + c := by rw [key, h]; rfl

set_option maxHeartbeats 1000000 in
theorem check_any (x : Q) (v : Value) (X : Nat → Prop) (w : World) (h : QI w X v x) (hl : x.o.recs.length ≤ 140737488355328) :
    Calls Tryz.prog 125 #[v] w fun e w' => e = .returned (.int .i64 (qcheck x)) ∧ Below w.heap.size w w' := by
  obtain ⟨A, c, rfl, hls⟩ := h
  have hb0 := op_below w (.cells (QC x A c) 100)
  have hq0 : QB (w.alloc (.cells (QC x A c) 100)) w.heap.size x A c := Blk.new w _ _
  have HC := Lib.hid (Pg.check_any x.o (OV x.o A c) X _ ⟨A, c, rfl, hls.after hb0⟩ hl)
  obtain ⟨a0, a1, a2, a3, a4, a5, a6⟩ := hq0.cells
  have HB := Lib.hid hb0
  have HQ : Hid (qcheck x = if (!isC x.client || decide (x.time < 1) || decide (9007199254740992 < x.time)) = true then 80 else check x.o) := Lib.hid rfl
  clear hb0 hq0 hls
  unfold QV
  unfold OV QC at HC
  unfold QC at a0 a1 a2 a3 a4 a5 a6 HB ⊢
  have HI := fun W : World => Lib.hid (isclient_any W x.client)
  by_cases hc : isC x.client = true
  · rw [hc] at HQ; simp only [hc] at HI
    by_cases h1 : x.time < 1
    · have d1 : decide (x.time < 1) = true := decide_eq_true h1
      rw [d1] at HQ
      skip
      clear hc
      go_enter Tryz.func125, Tryz.ntmps125
      go_wp2_with fail
      refine (HI _).out.mono ?_; rintro e w1 ⟨rfl, rfl⟩
      go_wp2_with fail
      go_ret
      exact ⟨by rw [HQ.out]; rfl, HB.out⟩
    · have d1 : decide (x.time < 1) = false := decide_eq_false h1
      rw [d1] at HQ
      by_cases h2 : 9007199254740992 < x.time
      · have d2 : decide (9007199254740992 < x.time) = true := decide_eq_true h2
        rw [d2] at HQ
        skip
        clear hc h1 h2
        go_enter Tryz.func125, Tryz.ntmps125
        go_wp2_with fail
        refine (HI _).out.mono ?_; rintro e w1 ⟨rfl, rfl⟩
        go_wp2_with fail
        go_ret
        exact ⟨by rw [HQ.out]; rfl, HB.out⟩
      · have d2 : decide (9007199254740992 < x.time) = false := decide_eq_false h2
        rw [d2] at HQ
        skip
        clear hc h1 h2
        go_enter Tryz.func125, Tryz.ntmps125
        go_wp2_with fail
        refine (HI _).out.mono ?_; rintro e w1 ⟨rfl, rfl⟩
        go_wp2_with fail
        refine HC.out.mono ?_
        rintro e w1 ⟨rfl, hb1⟩
        have HB1 := Lib.hid (HB.out.trans (hb1.mono HB.out.size))
        clear hb1
        go_wp2_with fail
        go_ret
        exact ⟨by rw [HQ.out]; rfl, HB1.out⟩
  · have hc := Bool.eq_false_iff.2 hc
    rw [hc] at HQ; simp only [hc] at HI
    skip
    clear hc
    go_enter Tryz.func125, Tryz.ntmps125
    go_wp2_with fail
    refine (HI _).out.mono ?_; rintro e w1 ⟨rfl, rfl⟩
    go_wp2_with fail
    go_ret
    exact ⟨by rw [HQ.out]; rfl, HB.out⟩

set_option maxHeartbeats 1000000 in
theorem csign_any (s : Int × Int) (w : World) :
    Calls Tryz.prog 126 #[GV s] w fun e w' => e = .returned (.int .i64 (scheck s)) ∧ Below w.heap.size w w' := by
  obtain ⟨k, d⟩ := s
  have hb0 := op_below w (.cells #[.int .i64 k, .int .i64 d] 102)
  have hq0 : Blk (w.alloc (.cells #[.int .i64 k, .int .i64 d] 102)) w.heap.size 102 #[.int .i64 k, .int .i64 d] := Blk.new w _ _
  have a0 : (w.alloc (.cells #[.int .i64 k, .int .i64 d] 102)).cell? ⟨w.heap.size, 0, none⟩ = some (.int .i64 k) := hq0.cell 0
  have a1 : (w.alloc (.cells #[.int .i64 k, .int .i64 d] 102)).cell? ⟨w.heap.size, 1, none⟩ = some (.int .i64 d) := hq0.cell 1
  have HB := Lib.hid hb0
  have HQ : Hid (scheck (k, d) = if (decide (k < 0) || decide (21 ≤ k) || decide (d < 1) || decide (9007199254740992 < d)) = true then 81 else 0) := Lib.hid rfl
  clear hb0 hq0
  unfold GV
  simp only
  by_cases h1 : k < 0
  · have d1 : decide (k < 0) = true := decide_eq_true h1
    rw [d1] at HQ
    go_enter Tryz.func126, Tryz.ntmps126
    go_wp2_with fail
    go_ret
    exact ⟨by rw [HQ.out]; rfl, HB.out⟩
  · have d1 : decide (k < 0) = false := decide_eq_false h1
    rw [d1] at HQ
    by_cases h2 : 21 ≤ k
    · have d2 : decide (21 ≤ k) = true := decide_eq_true h2
      rw [d2] at HQ
      clear h1
      go_enter Tryz.func126, Tryz.ntmps126
      go_wp2_with fail
      go_ret
      exact ⟨by rw [HQ.out]; rfl, HB.out⟩
    · have d2 : decide (21 ≤ k) = false := decide_eq_false h2
      rw [d2] at HQ
      by_cases h3 : d < 1
      · have d3 : decide (d < 1) = true := decide_eq_true h3
        rw [d3] at HQ
        clear h1 h2
        go_enter Tryz.func126, Tryz.ntmps126
        go_wp2_with fail
        go_ret
        exact ⟨by rw [HQ.out]; rfl, HB.out⟩
      · have d3 : decide (d < 1) = false := decide_eq_false h3
        rw [d3] at HQ
        by_cases h4 : 9007199254740992 < d
        · have d4 : decide (9007199254740992 < d) = true := decide_eq_true h4
          rw [d4] at HQ
          clear h1 h2 h3
          go_enter Tryz.func126, Tryz.ntmps126
          go_wp2_with fail
          go_ret
          exact ⟨by rw [HQ.out]; rfl, HB.out⟩
        · have d4 : decide (9007199254740992 < d) = false := decide_eq_false h4
          rw [d4] at HQ
          clear h1 h2 h3 h4
          go_enter Tryz.func126, Tryz.ntmps126
          go_wp2_with fail
          go_ret
          exact ⟨by rw [HQ.out]; rfl, HB.out⟩

end Go.Proofs.YtobphijbhghgmaaGreat.Ja

/-
  Generic: rows of elements of several cells, laid out flat.
-/
namespace Go.Proofs.YtobphijbhghgmaaGreat.Kf
set_option linter.unusedSimpArgs false
open Go Go.RowKit Ck Kw
set_option linter.unusedVariables false

section
variable {α : Type} {m : Nat} {F : α → List Value} (hF : ∀ x, (F x).length = m)
include hF
theorem flat_len (l : List α) : (l.flatMap F).length = l.length * m := by
  induction l with
  | nil => simp
  | cons x l ih => rw [List.flatMap_cons, List.length_append, ih, List.length_cons, hF, Nat.succ_mul]; omega
theorem flat_get (l : List α) (i : Nat) (hi : i < l.length) (j : Nat) (hj : j < m) : (l.flatMap F)[i * m + j]? = (F l[i])[j]? := by
  induction l generalizing i with
  | nil => exact absurd hi (by simp)
  | cons x l ih =>
    have hx := hF x
    rw [List.flatMap_cons]
    cases i with
    | zero => rw [List.getElem?_append_left (by omega)]; simp
    | succ i =>
      rw [List.getElem?_append_right (by rw [hx, Nat.succ_mul]; omega), hx, show (i + 1) * m + j - m = i * m + j from by rw [Nat.succ_mul]; omega]
      exact ih i (by simpa using hi)
theorem flat_take (l : List α) (i : Nat) : (l.take i).flatMap F = (l.flatMap F).take (i * m) := by
  induction l generalizing i with
  | nil => simp
  | cons x l ih =>
    have hx := hF x
    cases i with
    | zero => simp
    | succ i => rw [List.take_succ_cons, List.flatMap_cons, List.flatMap_cons, ih, List.take_append, hx, List.take_of_length_le (l := F x) (by rw [Nat.succ_mul]; omega), show (i + 1) * m - m = i * m from by rw [Nat.succ_mul]; omega]
/-- One cell of one element is turned. -/
theorem flat_set (l : List α) (i : Nat) (hi : i < l.length) (x : α) (j : Nat) (hj : j < m) (u : Value) (hx : F x = (F l[i]).set j u) : (l.flatMap F).set (i * m + j) u = (l.set i x).flatMap F := by
  induction l generalizing i with
  | nil => exact absurd hi (by simp)
  | cons y l ih =>
    have hy := hF y
    cases i with
    | zero =>
      simp only [List.flatMap_cons, List.set_cons_zero, Nat.zero_mul, Nat.zero_add]
      rw [List.set_append_left _ _ (by omega), hx]
      rfl
    | succ i =>
      simp only [List.flatMap_cons, List.set_cons_succ]
      rw [List.set_append_right _ _ (by rw [Nat.succ_mul]; omega), hy, show (i + 1) * m + j - m = i * m + j from by rw [Nat.succ_mul]; omega]
      rw [ih i (by simpa using hi) hx]
end

end Go.Proofs.YtobphijbhghgmaaGreat.Kf

/-
  Layer 6 (op): the contract of read, kind by kind.
-/
namespace Go.Proofs.YtobphijbhghgmaaGreat.Qb
set_option linter.unusedSimpArgs false
open Go Go.RowKit Ck Kw Ca Cb Ce Cf Ch Ci Pm Pa Pe Pf Pg Ph Ppi Pk
set_option linter.unusedVariables false

theorem results_row1 {P : Program} {fn : Func} {p : Tmp} {ty : TypeId} (h : fn.results = #[.cell p ty]) (tmps : Array Value) (w : World) (g : Nat) (t : TypeId) (cs : Array Value) (fr : Nat × Nat) (d : TypeDesc)
    (hp : tmps.getD p undef = .pointer (some ⟨g, 0, none⟩)) (hg : w.heap[g]? = some (.cells cs t fr))
    (hu : P.underlying ty = some d) (hd : (match d with | .struct _ | .array _ _ => true | _ => false) = true) (hi : (P.info? ty).map (·.size) = some cs.size) :
    (results fn tmps).run P w = .ok (.agg cs) w := by
  have hp' : tmps[p]?.getD undef = .pointer (some ⟨g, 0, none⟩) := by simpa using hp
  simp [results, h, hp', asAddr, run_loadVar_row w g t ty cs fr d hg hu hd hi]
theorem size_op : (Tryz.prog.info? 98).map (·.size) = some 5 := by kernel_rfl
theorem blk5 {w : World} {g : Nat} {t : TypeId} {a b c d e x0 x1 x2 x3 x4 : Value} (h : Blk w g t #[a, b, c, d, e]) :
    Blk (((((w.setCell ⟨g, 0, none⟩ x0).setCell ⟨g, 1, none⟩ x1).setCell ⟨g, 2, none⟩ x2).setCell ⟨g, 3, none⟩ x3).setCell ⟨g, 4, none⟩ x4) g t #[x0, x1, x2, x3, x4] := by
  have := ((((h.set_ 0 x0).set_ 1 x1).set_ 2 x2).set_ 3 x3).set_ 4 x4
  simpa using this
theorem Blk.cells5 {W : World} {g : Nat} {t : TypeId} {a b c d e : Value} (h : Blk W g t #[a, b, c, d, e]) :
    (W.cell? ⟨g, 0, none⟩ = some a ∧ W.cell? ⟨g, 1, none⟩ = some b ∧ W.cell? ⟨g, 2, none⟩ = some c ∧ W.cell? ⟨g, 3, none⟩ = some d ∧ W.cell? ⟨g, 4, none⟩ = some e) ∧
    (W.frozen? ⟨g, 0, none⟩ = false ∧ W.frozen? ⟨g, 1, none⟩ = false ∧ W.frozen? ⟨g, 2, none⟩ = false ∧ W.frozen? ⟨g, 3, none⟩ = false ∧ W.frozen? ⟨g, 4, none⟩ = false) :=
  ⟨⟨h.cell 0, h.cell 1, h.cell 2, h.cell 3, h.cell 4⟩, ⟨h.frozen 0, h.frozen 1, h.frozen 2, h.frozen 3, h.frozen 4⟩⟩

/-- The cells of no operation. -/
def Z5 : Array Value := #[.int .i64 0, .string ⟨#[]⟩, .string ⟨#[]⟩, .int .i64 0, .slice none 0 0]
/-- Within the call: the result's cells, the operation's, its kind's fields, the reader. -/
structure RD (w0 : World) (X : Nat → Prop) (g g1 g2 g3 : Nat) (k : Int) (cs : Array Value) (s : Cm.RS) (W : World) : Prop where
  grown : w0.grownBy W (some g)
  old : g < w0.heap.size
  new1 : w0.heap.size ≤ g1
  new2 : w0.heap.size ≤ g2
  new3 : w0.heap.size ≤ g3
  far : g1 ≠ g2
  far3 : g3 ≠ g2
  far4 : g3 ≠ g1
  res : Blk W g1 98 Z5
  op : Blk W g2 98 cs
  fld : FB W g3 k
  rd : CR W (fun k => X k ∨ w0.heap.size ≤ k) g s
section
variable {w0 W W' : World} {X : Nat → Prop} {g g1 g2 g3 : Nat} {k : Int} {cs cs' : Array Value} {s s' : Cm.RS}
theorem RD.next (h : RD w0 X g g1 g2 g3 k cs s W) (hg : W.grownBy W' (some g)) (hc : CR W' (fun k => X k ∨ w0.heap.size ≤ k) g s') : RD w0 X g g1 g2 g3 k cs s' W' := by
  have o := h.old; have n1 := h.new1; have n2 := h.new2; have n3 := h.new3
  exact ⟨h.grown.trans hg, h.old, h.new1, h.new2, h.new3, h.far, h.far3, h.far4, h.res.grown hg (by simp; omega), h.op.grown hg (by simp; omega), Blk.grown h.fld hg (by simp; omega), hc⟩
theorem RD.later (h : RD w0 X g g1 g2 g3 k cs s W) (hb : Below W.heap.size W W') : RD w0 X g g1 g2 g3 k cs s W' :=
  h.next (grown_of_below hb _) (h.rd.after hb)
theorem RD.put (h : RD w0 X g g1 g2 g3 k cs s W) (i : Nat) (u : Value) (hcs : cs.setIfInBounds i u = cs') : RD w0 X g g1 g2 g3 k cs' s (W.setCell ⟨g2, i, none⟩ u) := by
  subst hcs
  have o := h.old; have n1 := h.new1; have n2 := h.new2; have n3 := h.new3; have f1 := h.far; have f3 := h.far3
  exact ⟨grown_setCell h.grown (.inr n2) u, h.old, h.new1, h.new2, h.new3, h.far, h.far3, h.far4, h.res.far f1 u, h.op.set_ i u, Blk.far h.fld f3 u,
    h.rd.grown (row := some g2) (grown_setCell (World.grownBy.refl W (some g2)) (.inl rfl) u) (by simp; omega) (fun q hq _ => by injection hq with hq; exact .inr (by omega))⟩
end
theorem res_blk {W : World} {g1 : Nat} (h : Blk W g1 98 Z5) (x0 x1 x2 x3 x4 : Value) :
    (((((W.setCell ⟨g1, 0, none⟩ x0).setCell ⟨g1, 1, none⟩ x1).setCell ⟨g1, 2, none⟩ x2).setCell ⟨g1, 3, none⟩ x3).setCell ⟨g1, 4, none⟩ x4).heap[g1]? = some (.cells #[x0, x1, x2, x3, x4] 98 (0, 0)) := blk5 h
end Go.Proofs.YtobphijbhghgmaaGreat.Qb

/-
  Layer 8 (request): batches in memory; the contracts of momentOf, checkSigned, isTwice, CheckBatch.
-/
namespace Go.Proofs.YtobphijbhghgmaaGreat.Jb
set_option linter.unusedSimpArgs false
open Go Go.RowKit Ck Kw Ga Kf Pm Pe Pg Ph Qb Lk Jm Ja
attribute [local go_sem ↓] Go.wp_at_zero Go.wp_at_succ
set_option linter.unusedVariables false

theorem DC_len (p : Sd × (Option Addr × Nat)) : ((DC p.1 p.2.1 p.2.2).toList).length = 9 := rfl
/-- The cells of a batch: its requests' records lie where rs says. -/
def flat (l : List Sd) (rs : List (Option Addr × Nat)) : List Value := (l.zip rs).flatMap fun p => (DC p.1 p.2.1 p.2.2).toList
theorem zip_len {l : List Sd} {rs : List (Option Addr × Nat)} (h : rs.length = l.length) : (l.zip rs).length = l.length := by rw [List.length_zip]; omega
theorem flat_length {l : List Sd} {rs : List (Option Addr × Nat)} (h : rs.length = l.length) : (flat l rs).length = l.length * 9 := by rw [flat, flat_len DC_len, zip_len h]
/-- The value v is the batch l; all of it lies in no block of X. -/
def BI (w : World) (X : Nat → Prop) (v : Value) (l : List Sd) : Prop :=
  ∃ rs, rs.length = l.length ∧ Sl w X 9 v l.length (flat l rs) ∧ ∀ i (h : i < l.length), ∃ r, rs[i]? = some r ∧ Ls w X (.slice r.1 l[i].q.o.recs.length r.2) l[i].q.o.recs
section
variable {w w' : World} {X Y S : Nat → Prop} {v : Value} {l : List Sd}
theorem BI.after (h : BI w X v l) (hb : Below w.heap.size w w') : BI w' X v l := by
  obtain ⟨rs, h1, h2, h3⟩ := h
  exact ⟨rs, h1, h2.after hb, fun i hi => by obtain ⟨r, h4, h5⟩ := h3 i hi; exact ⟨r, h4, h5.after hb⟩⟩
theorem BI.weaken (h : BI w X v l) (hk : ∀ b, b < w.heap.size → Y b → X b) : BI w Y v l := by
  obtain ⟨rs, h1, h2, h3⟩ := h
  exact ⟨rs, h1, h2.weaken hk, fun i hi => by obtain ⟨r, h4, h5⟩ := h3 i hi; exact ⟨r, h4, h5.weaken hk⟩⟩
theorem BI.ch (h : BI w X v l) (c : Ch S w w') (hd : ∀ k, k < w.heap.size → S k → X k) : BI w' X v l := by
  obtain ⟨rs, h1, h2, h3⟩ := h
  exact ⟨rs, h1, h2.ch c hd, fun i hi => by obtain ⟨r, h4, h5⟩ := h3 i hi; exact ⟨r, h4, h5.ch c hd⟩⟩
theorem BI.shape (h : BI w X v l) : ∃ A c, v = .slice A l.length c ∧ l.length ≤ c := by
  obtain ⟨rs, h1, ⟨A, c, rfl, _, hc, _⟩, h3⟩ := h
  exact ⟨A, c, rfl, hc⟩
theorem bi_nil (w : World) (X : Nat → Prop) : BI w X (.slice none 0 0) [] := ⟨[], rfl, Sl.nil _ _ _, fun i hi => absurd hi (by simp)⟩
/-- What stands at a place of a batch. -/
def At9 (w : World) (ad : Addr) (d : Sd) (Ar : Option Addr) (cr : Nat) : Prop :=
  w.cell? ad = some (.int .i64 d.q.client) ∧ w.cell? ⟨ad.block, ad.off + 1, none⟩ = some (.int .i64 d.q.time) ∧ w.cell? ⟨ad.block, ad.off + 2, none⟩ = some (.int .i64 d.q.o.kind) ∧ w.cell? ⟨ad.block, ad.off + 3, none⟩ = some (.string ⟨d.q.o.topic.toArray⟩)
    ∧ w.cell? ⟨ad.block, ad.off + 4, none⟩ = some (.string ⟨d.q.o.group.toArray⟩) ∧ w.cell? ⟨ad.block, ad.off + 5, none⟩ = some (.int .i64 d.q.o.off) ∧ w.cell? ⟨ad.block, ad.off + 6, none⟩ = some (.slice Ar d.q.o.recs.length cr)
    ∧ w.cell? ⟨ad.block, ad.off + 7, none⟩ = some (.int .i64 d.s.1) ∧ w.cell? ⟨ad.block, ad.off + 8, none⟩ = some (.int .i64 d.s.2)
theorem BI.at_ {A : Option Addr} {n c i : Nat} (h : BI w X (.slice A n c) l) (hi : i < l.length) :
    ∃ ad Ar cr, A = some ad ∧ At9 w (ad.add (i * 9)) l[i] Ar cr ∧ Ls w X (.slice Ar l[i].q.o.recs.length cr) l[i].q.o.recs := by
  obtain ⟨rs, h1, ⟨A', c', hv, hl, hc, hm, hx⟩, h3⟩ := h
  injection hv with e1 e2 e3
  subst e1
  obtain ⟨⟨Ar, cr⟩, h4, h5⟩ := h3 i hi
  obtain ⟨ad, hA, hb, hX, hcell⟩ := hx (by omega)
  refine ⟨ad, Ar, cr, hA, ?_, h5⟩
  have hz : i < (l.zip rs).length := by rw [zip_len h1]; exact hi
  have hr : i < rs.length := by omega
  have he : (l.zip rs)[i] = (l[i], (Ar, cr)) := by
    rw [List.getElem_zip]
    have : rs[i] = (Ar, cr) := by have := List.getElem?_eq_getElem hr; rw [this] at h4; exact Option.some.inj h4
    rw [this]
  have hg : ∀ j, j < 9 → (flat l rs)[i * 9 + j]? = ((DC l[i] Ar cr).toList)[j]? := fun j hj => by
    rw [flat, flat_get DC_len _ _ hz j hj, he]
  have hof : ∀ j u, j < 9 → ((DC l[i] Ar cr).toList)[j]? = some u → w.cell? ((ad.add (i * 9)).add j) = some u := fun j u hj hu => by
    rw [add_add]
    exact hcell _ _ (by rw [hg j hj]; exact hu)
  generalize ad.add (i * 9) = a at hof ⊢
  have ha : ∀ j, 0 < j → a.add j = ⟨a.block, a.off + j, none⟩ := fun j hj => by unfold Addr.add; rw [if_neg (by omega)]
  have h0 : a.add 0 = a := by unfold Addr.add; rw [if_pos rfl]
  refine ⟨?_, ?_, ?_, ?_, ?_, ?_, ?_, ?_, ?_⟩
  · have := hof 0 _ (by omega) rfl; rwa [h0] at this
  · have := hof 1 _ (by omega) rfl; rwa [ha _ (by omega)] at this
  · have := hof 2 _ (by omega) rfl; rwa [ha _ (by omega)] at this
  · have := hof 3 _ (by omega) rfl; rwa [ha _ (by omega)] at this
  · have := hof 4 _ (by omega) rfl; rwa [ha _ (by omega)] at this
  · have := hof 5 _ (by omega) rfl; rwa [ha _ (by omega)] at this
  · have := hof 6 _ (by omega) rfl; rwa [ha _ (by omega)] at this
  · have := hof 7 _ (by omega) rfl; rwa [ha _ (by omega)] at this
  · have := hof 8 _ (by omega) rfl; rwa [ha _ (by omega)] at this
end

/-- A moment. -/
theorem size_moment : (Tryz.prog.info? 201).map (·.size) = some 2 := by kernel_rfl
theorem blk2 {w : World} {g : Nat} {t : TypeId} {a b x0 x1 : Value} (h : Blk w g t #[a, b]) : Blk ((w.setCell ⟨g, 0, none⟩ x0).setCell ⟨g, 1, none⟩ x1) g t #[x0, x1] := by
  have := (h.set_ 0 x0).set_ 1 x1
  simpa using this
def MV (d : Sd) : Value := .agg #[.int .i64 d.q.client, .int .i64 d.q.time]
set_option maxRecDepth 100000 in
set_option maxHeartbeats 1000000 in
theorem moment_any (d : Sd) (A : Option Addr) (c : Nat) (w : World) :
    Calls Tryz.prog 127 #[DV d A c] w fun e w' => e = .returned (MV d) ∧ Below w.heap.size w w' := by
  have b1 := op_below w (.cells (DC d A c) 104)
  have b2 : Below w.heap.size w ((w.alloc (.cells (DC d A c) 104)).alloc (.cells #[.int .i64 0, .int .i64 0] 201)) := b1.alloc b1.size _
  have k0 : DK ((w.alloc (.cells (DC d A c) 104)).alloc (.cells #[.int .i64 0, .int .i64 0] 201)) w.heap.size d A c := Blk.alloc (Blk.new w _ _) _
  obtain ⟨a0, a1, -⟩ := k0.cells
  clear b1 b2 k0
  unfold DV MV
  unfold DC at *
  go_enter Tryz.func127, Tryz.ntmps127
  go_wp2_with fail
  refine bodyPost_ret (results_row1 rfl _ _ (w.heap.size + 1) 201 #[.int .i64 d.q.client, .int .i64 d.q.time] (0, 0) _ rfl (Blk.new_at (by simp) rfl) Tryz.underlying201 rfl size_moment) rfl ?_
  exact ⟨rfl, (op_below w _).trans ((op_below _ _).mono (by simp))⟩
theorem guard_moment : Tryz.prog.eqGuardType Tryz.prog.depth 201 = false := by kernel_rfl
theorem stood_moment : Tryz.prog.stoodInHeld 201 = false := by kernel_rfl
theorem fields_moment : Tryz.prog.underlying 201 = some (.struct (Tryz.prog.fieldsOf 201)) := by kernel_rfl
theorem pair_beq (a b c e : Int) : ((a, b) == (c, e)) = (decide (a = c) && decide (b = e)) := by
  rw [Bool.eq_iff_iff]
  simp
theorem run_eql_moment (W : World) (x y : Sd) : (binOp .eql 201 (MV x) (MV y)).run Tryz.prog W = .ok (.bool (mom x == mom y)) W := by
  unfold MV mom
  obtain ⟨a, ha⟩ : ∃ a, a = x.q.client := ⟨_, rfl⟩
  obtain ⟨b, hb⟩ : ∃ b, b = x.q.time := ⟨_, rfl⟩
  obtain ⟨c, hc⟩ : ∃ c, c = y.q.client := ⟨_, rfl⟩
  obtain ⟨e, he⟩ : ∃ e, e = y.q.time := ⟨_, rfl⟩
  rw [← ha, ← hb, ← hc, ← he, pair_beq]
  rw [run_eql_struct, show (10000 : Nat) = 9998 + 1 + 1 from rfl, run_equalIn_struct W (9998 + 1) 201 _ _ fields_moment stood_moment]
  have hf : (Tryz.prog.fieldsOf 201).toList = [{ name := "client", type := 3, offset := 0, embedded := false, tag := "", pkgPath := "bulla/request", byteOffset := 0 }, { name := "time", type := 2, offset := 1, embedded := false, tag := "", pkgPath := "bulla/request", byteOffset := 8 }] := by kernel_rfl
  rw [hf]
  have h1 := fun (x y : Int) (W : World) => run_equalIn_int (P := Tryz.prog) W 9998 3 .i64 .i64 x y Tryz.underlying3
  have h2 := fun (x y : Int) (W : World) => run_equalIn_int (P := Tryz.prog) W 9998 2 .i64 .i64 x y Tryz.underlying2
  have p1 : ∀ (u v : Value) (W : World), (part 3 #[u, v] 0).run Tryz.prog W = .ok u W := fun u v W => by simp [part, isAgg, run_underlying Tryz.underlying3]
  have p2 : ∀ (u v : Value) (W : World), (part 2 #[u, v] 1).run Tryz.prog W = .ok v W := fun u v W => by simp [part, isAgg, run_underlying Tryz.underlying2]
  clear ha hb hc he
  by_cases hac : a = c
  · by_cases hbe : b = e
    · subst hac; subst hbe
      simp [Op.eqFields, p1, p2, h1, h2, Result.andThen]
    · subst hac
      simp [Op.eqFields, p1, p2, h1, h2, Result.andThen, hbe]
  · simp [Op.eqFields, p1, h1, Result.andThen, hac]

set_option maxHeartbeats 1000000 in
theorem signed_any (d : Sd) (A : Option Addr) (c : Nat) (X : Nat → Prop) (w : World) (hls : Ls w X (.slice A d.q.o.recs.length c) d.q.o.recs) (hl : d.q.o.recs.length ≤ 140737488355328) :
    Calls Tryz.prog 106 #[DV d A c] w fun e w' => e = .returned (.int .i64 (dcheck d)) ∧ Below w.heap.size w w' := by
  have b1 := op_below w (.cells (DC d A c) 104)
  have k0 : DK (w.alloc (.cells (DC d A c) 104)) w.heap.size d A c := Blk.new w _ _
  have HC := Lib.hid (check_any d.q (QV d.q A c) X _ ⟨A, c, rfl, hls.after b1⟩ hl)
  obtain ⟨a0, a1, a2, a3, a4, a5, a6, a7, a8⟩ := k0.cells
  have HB := Lib.hid b1
  have HK := Lib.hid k0
  have HQ : Hid (dcheck d = if qcheck d.q ≠ 0 then qcheck d.q else scheck d.s) := Lib.hid rfl
  clear b1 k0 hls
  unfold QV QC at HC
  unfold DV
  unfold DC at a0 a1 a2 a3 a4 a5 a6 a7 a8 HC HB ⊢
  go_enter Tryz.func106, Tryz.ntmps106
  go_wp2_with fail
  refine HC.out.mono ?_
  rintro e w1 ⟨he, hb1⟩
  have HB1 := Lib.hid (HB.out.trans (hb1.mono HB.out.size))
  obtain ⟨-, -, -, -, -, -, -, b7, b8⟩ := DK.cells (HK.out.below hb1 HK.out.lt)
  clear a0 a1 a2 a3 a4 a5 a6 a7 a8 hb1
  by_cases hq : qcheck d.q = 0
  · rw [hq] at he HQ
    subst he
    go_wp2_with fail
    refine (csign_any d.s _).mono ?_
    rintro e w2 ⟨rfl, hb2⟩
    have HB2 := Lib.hid (HB1.out.trans (hb2.mono HB1.out.size))
    clear hb2 hq
    go_wp2_with fail
    go_ret
    exact ⟨by rw [HQ.out]; rfl, HB2.out⟩
  · have hd : (qcheck d.q != 0) = true := by simpa using hq
    rw [if_pos hq] at HQ
    subst he
    have hd2 : (qcheck d.q == 0) = false := by simpa using hq
    clear hq
    go_wp2_with fail
    go_ret
    exact ⟨by rw [HQ.out]; rfl, HB1.out⟩
end Go.Proofs.YtobphijbhghgmaaGreat.Jb

/-
  Layer 6 (op): the document's own Put, kind by kind, and its Bytes.
-/
namespace Go.Proofs.YtobphijbhghgmaaGreat.Pn
set_option linter.unusedSimpArgs false
open Go Go.RowKit Ck Kw Ca Cb Cc Cd Ci Pm Pa Pe Pf Pg Ph Ppi Kx Pk
set_option linter.unusedVariables false

/-- The operation stands there, and a row of the call's own. -/
structure RB (w0 : World) (g1 : Nat) (o : O) (A : Option Addr) (c : Nat) (v : Value) (l : Tx) (W : World) : Prop where
  rk : RK w0 g1 o A c W
  row : W.ownsRow w0.heap.size 5 1 v l.length (BVs l)
theorem RB.put {w0 W W1 W2 : World} {g1 : Nat} {o : O} {A : Option Addr} {c : Nat} {v' : Value} {l' : Tx} (h : RK w0 g1 o A c W) (b1 : Below W.heap.size W W1) (hown : W2.ownsRow W1.heap.size 5 1 v' l'.length (BVs l')) (b2 : Below W1.heap.size W1 W2) : RB w0 g1 o A c v' l' W2 := by
  have b : Below W.heap.size W W2 := b1.trans (b2.mono b1.size)
  exact ⟨h.later b, own_base hown (Nat.le_trans h.below.size b1.size)⟩
end Go.Proofs.YtobphijbhghgmaaGreat.Pn

/-
  Layer 6 (op): the contracts of slices.Grow, slices.Concat, strings.Clone.
-/
namespace Go.Proofs.YtobphijbhghgmaaGreat.Pj
set_option linter.unusedSimpArgs false
open Go Go.RowKit Ck Kw Ca Cb Pm Pa
set_option linter.unusedVariables false

set_option maxRecDepth 100000 in
set_option maxHeartbeats 1000000 in
theorem grow_any (n : Nat) (hn : n ≤ 140737488355328) (w : World) :
    Calls Tryz.prog 153 #[.slice none 0 0, .int .i64 n] w fun e w' => ∃ v, e = .returned v ∧ w'.ownsRow w.heap.size 5 1 v 0 [] ∧ Below w.heap.size w w' := by
  obtain ⟨i0, hi0, hz0, hz1, hz2⟩ := info_parts info_u8
  by_cases h0 : n = 0
  · subst h0
    go_enter Tryz.func153, Tryz.ntmps153
    go_wp2
    go_ret
    exact ⟨_, rfl, World.ownsRow_nil _ _ _ _, Below.refl _ _⟩
  · have hp : 0 < n := by omega
    have hrun := fun (W : World) (ty : TypeId) => Lib.run_append_nil_zeros (P := Tryz.prog) W 25 3 ty 5 i0 (.int .u8 0) .i64 .i64 Tryz.underlying25 Tryz.underlying3 hi0 hz0 n hp (by omega) (by omega) (by rw [hz2]; omega)
    have hge := fun (W : World) => grownCap_ge W n 0 5
    have hle := fun (W : World) => grownCap_le_maxLen W n 0 5 (by unfold maxLen; omega)
    generalize hG : grownCap w n 0 5 = G at *
    have hg1 := hge w
    have hg2 := hle w
    have hrw := hrun w
    rw [hG] at hg1 hg2 hrw
    have hg3 : G ≤ 9223372036854775807 := by unfold maxLen at hg2; exact hg2
    have HG2 := Lib.hid hg2
    have HRW := Lib.hid hrw
    have HG := Lib.hid hG
    have h0' : ¬ (G = 0) := by omega
    clear hrun hge hle hrw hG hg2 h0
    go_enter Tryz.func153, Tryz.ntmps153
    go_wp2_with (at_builtin; refine Lib.wpList_append_run _ rfl _ _ _ _ rfl _ _ rfl rfl _ _ (HRW.out _) ?_)
    go_ret
    refine ⟨_, rfl, ⟨by simp, .inr ⟨w.heap.size, G, _, rfl, Nat.le_refl _, heap_alloc_new w.drew _, Nat.zero_le _, HG2.out, ?_, by simp⟩⟩, ?_⟩
    · rw [Array.size_append, size_zeroCells, size_zeroCells]
      simp [Value.cells]
      omega
    · exact ((Below.refl _ w).drew).alloc (Nat.le_refl _) _

theorem flat_take {ls : List Tx} {k : Nat} (h : k < ls.length) : (ls.take (k + 1)).flatten = (ls.take k).flatten ++ ls[k] := by
  rw [List.take_succ_eq_append_getElem h, List.flatten_append]
  simp
theorem flat_le {ls : List Tx} (k : Nat) : (ls.take k).flatten.length ≤ ls.flatten.length := by
  have : ls.flatten = (ls.take k).flatten ++ (ls.drop k).flatten := by rw [← List.flatten_append, List.take_append_drop]
  rw [this, List.length_append]
  omega
set_option maxRecDepth 100000 in
set_option maxHeartbeats 2000000 in
theorem concat_any (w : World) (X : Nat → Prop) (A : Option Addr) (c : Nat) (ls : List Tx) (hls : Ls w X (.slice A ls.length c) ls) (hl : ls.length ≤ 1000000) (ht : ls.flatten.length ≤ 140737488355328) :
    Calls Tryz.prog 129 #[.slice A ls.length c] w fun e w' => Made w 5 ls.flatten e w' := by
  have HLS := Lib.hid hls
  have HT := Lib.hid ht
  obtain ⟨i0, hi0, hz0, hz1, hz2⟩ := info_parts info_u8
  clear hls ht
  go_enter Tryz.func129, Tryz.ntmps129
  go_wp2
  go_loop [3, 11] (fun z i => ∃ k : Nat, k ≤ ls.length ∧ i = .int .i64 k ∧ z = .int .i64 ((ls.take k).flatten.length : Nat)) (fun _ i => ls.length - (intOf i).toNat)
  case atStart => exact ⟨0, Nat.zero_le _, rfl, rfl⟩
  case round =>
    obtain ⟨k, hk, rfl, rfl⟩ := hrel
    have hle := flat_le (ls := ls) k
    by_cases hlt : k < ls.length
    · have hle1 := flat_le (ls := ls) (k + 1)
      have ht := HT.out
      obtain ⟨ad, B, d, rfl, hcell, -⟩ := HLS.out.at_ hlt
      have HF := Lib.hid (congrArg List.length (flat_take hlt))
      have hsum : (ls.take k).flatten.length + ls[k].length ≤ 140737488355328 := by
        have := HF.out
        rw [List.length_append] at this
        omega
      generalize hq : (ls.take k).flatten.length = q at *
      have HQ := Lib.hid hq
      clear hq hle hle1 ht
      go_wp2
      go_round
      case rel =>
        refine ⟨k + 1, by omega, by go_num, ?_⟩
        rw [HF.out, List.length_append, HQ.out]
        go_num
      case measure => simp [intOf]; omega
    · have hke : k = ls.length := by omega
      subst hke
      rw [List.take_length] at hle ⊢
      have ht := HT.out
      generalize hq : ls.flatten.length = q at *
      have HQ := Lib.hid hq
      clear hq hle
      go_wp2_with (go_at_call 153; refine (grow_any q ht _).mono ?_; rintro e w1 ⟨v1, rfl, hown1, hb1⟩)
      go_loopw [6, 27] (fun u i wr => ∃ k : Nat, k ≤ ls.length ∧ i = .int .i64 k ∧ wr.ownsRow w.heap.size 5 1 u (ls.take k).flatten.length (BVs (ls.take k).flatten) ∧ Below w.heap.size w wr) (fun _ i _ => ls.length - (intOf i).toNat)
      case atStart => exact ⟨0, Nat.zero_le _, rfl, hown1, hb1⟩
      case round =>
        obtain ⟨k, hk, rfl, hown, hb⟩ := hrel
        have HB := Lib.hid hb
        by_cases hlt : k < ls.length
        · have hx := HLS.out.after hb
          obtain ⟨ad, B, d, rfl, hcell, hx⟩ := hx.at_ hlt
          have HF := Lib.hid (flat_take hlt)
          have HFL := Lib.hid (congrArg List.length (flat_take hlt))
          have hsum : (ls.take k).flatten.length + ls[k].length ≤ 140737488355328 := by
            have := flat_le (ls := ls) (k + 1)
            have h2 := HFL.out
            rw [List.length_append] at h2
            have := HQ.out
            omega
          have hsz := hb.size
          clear hb
          go_wp2_with (at_builtin; refine wpList_append_sl _ rfl (.tmp 31) (.tmp 32) _ rfl w.heap.size 5 i0 _ 1 1 Tryz.underlying25 hi0 hz0 hz1 hz2 rfl (by omega) u6 _ _ rfl hown X _ ls[k].length (BVs ls[k]) rfl hx (BVs_one _) (by simp only [maxLen]; omega) (by omega) hsz ?_; intro v2 w2 happ)
          go_roundw
          case rel =>
            refine ⟨k + 1, by omega, by go_num, ?_, HB.out.grown happ.2.1 hsz (fun g hg => (hown.lt g hg).1)⟩
            rw [HF.out, List.length_append, BVs_app]
            exact happ.1
          case measure => simp [intOf]; omega
        · have hke : k = ls.length := by omega
          subst hke
          rw [List.take_length] at hown
          go_wp2
          go_ret
          exact ⟨_, rfl, hown, HB.out⟩

set_option maxRecDepth 100000 in
set_option maxHeartbeats 2000000 in
theorem slclone_any (l : Tx) (w : World) (hlim : l.length ≤ 140737488355328) :
    Calls Tryz.prog 159 #[SV l] w fun e w' => e = .returned (SV l) ∧ Below w.heap.size w w' := by
  unfold SV
  have hsl := sv_size l
  generalize hs : ByteArray.mk l.toArray = s at *
  have hlim' : s.size ≤ 140737488355328 := by omega
  clear hs hsl hlim
  by_cases h0 : s.size = 0
  · have hs : s = ⟨#[]⟩ := by
      apply ByteArray.ext
      exact Array.eq_empty_of_size_eq_zero h0
    subst hs
    go_enter Tryz.func159, Tryz.ntmps159
    go_wp2
    go_ret
    exact ⟨rfl, Below.refl _ _⟩
  · obtain ⟨i0, hi, hz0, hz1, hz2⟩ := info_parts info_u8
    have hinfo : (Tryz.prog.info? 5).map (·.size) = some 1 := by rw [hi]; simp [hz1]
    have hco : Tryz.prog.cellsOf 5 = 1 := by simp [Program.cellsOf, hi, hz1]
    obtain ⟨M, hM⟩ : ∃ M, M = madeCells (Value.int .u8 0).cells (((s.size : Nat) : Int).toNat * i0.size) := ⟨_, rfl⟩
    have hMs : M.size = s.size := by rw [hM, size_madeCells, hz1]; simp
    have hmk : ∀ W : World, (Instr.makeSlice 25 (.int .i64 (s.size : Int)) (.int .i64 (s.size : Int))).run Tryz.prog W = .ok (.slice (some ⟨W.heap.size, 0, none⟩) s.size s.size) (W.alloc (.cells M 5)) := fun W => by
      have h := run_make (P := Tryz.prog) W 25 5 i0 (.int .u8 0) Tryz.underlying25 hi hz0 .i64 .i64 (s.size : Int) (s.size : Int) (by omega) (by omega) (by rw [hz2]; omega) (by omega)
      rw [← hM] at h
      simpa using h
    clear hM
    have hcp := Lib.run_copy_row_string (P := Tryz.prog) (w.alloc (.cells M 5)) 25 9 3 5 w.heap.size 0 s.size s.size s M 5 Tryz.underlying25 hinfo (heap_alloc_new w _) (Nat.le_refl _) (by omega)
    obtain ⟨Y, hY⟩ : ∃ Y, Y = (M.toList.take 0 ++ Lib.byteCells s.data.toList ++ M.toList.drop (0 + s.size)).toArray := ⟨_, rfl⟩
    rw [← hY] at hcp
    have hYl : Y.toList = Lib.byteCells s.data.toList := by
      rw [hY, List.toList_toArray, List.take_zero, List.nil_append, List.drop_of_length_le (by rw [Array.length_toList]; omega), List.append_nil]
    have hYs : Y.size = s.size := by rw [← Array.length_toList, hYl, Lib.byteCells_length, ← Lib.size_eq]
    have hgY : ((w.alloc (.cells M 5)).setRow w.heap.size Y).heap[w.heap.size]? = some (.cells Y 5 (0, 0)) := setRow_heap _ _ M _ 5 (0, 0) (heap_alloc_new w _)
    have hne : s.data.toList ≠ [] := fun e => h0 (by rw [Lib.size_eq, e]; rfl)
    have hUS := Lib.run_unsafeString_row (P := Tryz.prog) ((w.alloc (.cells M 5)).setRow w.heap.size Y) 239 3 9 5 Tryz.underlying239 hco w.heap.size Y.size (by unfold World.shape?; rw [hgY]) s.data.toList hne (by rw [← Lib.size_eq]; omega) (by rw [← Lib.size_eq]; omega)
      (fun j x hx => Lib.cells_of_row hgY Y.size j _ (by rw [List.take_of_length_le (by rw [Array.length_toList]; exact Nat.le_refl _), hYl]; simp [Lib.byteCells, hx]))
    rw [← Lib.size_eq] at hUS
    clear hY
    go_enter Tryz.func159, Tryz.ntmps159
    go_wp2
    go_ret
    have hb1 : Below w.heap.size w (w.alloc (.cells M 5)) := (Below.refl _ w).alloc (Nat.le_refl _) _
    have hb2 : Below w.heap.size (w.alloc (.cells M 5)) ((w.alloc (.cells M 5)).setRow w.heap.size Y) := ⟨rfl, rfl, rfl, by simp, fun k hk => setRow_other _ _ _ _ (by omega)⟩
    exact ⟨rfl, Lib.below_freeze (hb1.trans hb2) (p := ⟨w.heap.size, 0, none⟩) (Nat.le_refl _) _⟩

theorem sclone_any (l : Tx) (w : World) (hlim : l.length ≤ 140737488355328) :
    Calls Tryz.prog 136 #[SV l] w fun e w' => e = .returned (SV l) ∧ Below w.heap.size w w' := by
  have HC := Lib.hid (slclone_any l w hlim)
  unfold SV at HC ⊢
  go_enter Tryz.func136, Tryz.ntmps136
  go_wp2_with (go_at_call 159; refine HC.out.mono ?_; rintro e w1 ⟨rfl, hb⟩)
  go_ret
  exact ⟨rfl, hb⟩

end Go.Proofs.YtobphijbhghgmaaGreat.Pj

/-
  Layer 6 (op): the contract of bullalaw06.begun; the walk of the statement OpNames.
-/
namespace Go.Proofs.YtobphijbhghgmaaGreat.Pl
set_option linter.unusedSimpArgs false
open Go Go.RowKit Ck Kw Ca Cb Cc Ci Pm Pa Pe Pf Pg Ph Ppi Kx Pk
set_option linter.unusedVariables false

/-- The operation that begun asks about. -/
def o0 : O := ⟨2, [116], [], 0, [[9]]⟩
def W0 (w : World) : World := (w.alloc (.cells #[.int .u8 9] 5)).alloc (.cells #[.slice (some ⟨w.heap.size, 0, none⟩) 1 1] 145)
end Go.Proofs.YtobphijbhghgmaaGreat.Pl

/-
  Layer 6 (op): the contracts of Put and PutResult, the document's PutResult, and the walk of the statement OpBytes.
-/
namespace Go.Proofs.YtobphijbhghgmaaGreat.Po
set_option linter.unusedSimpArgs false
open Go Go.RowKit Ck Kw Ca Cb Cc Cd Ci Pm Pa Pe Pf Pg Ph Ppi Pj Kx Pk Pl Pn
attribute [local go_sem ↓] Go.wp_at_zero Go.wp_at_succ
set_option linter.unusedVariables false

theorem two_new {W : World} {X : Nat → Prop} {t : TypeId} {va vb : Value} {a b : Tx} (ha : Sl W X 1 va a.length (BVs a)) (hb : Sl W X 1 vb b.length (BVs b)) (hX : ¬ X W.heap.size) :
    Ls (W.alloc (.cells #[va, vb] t)) X (.slice (some ⟨W.heap.size, 0, none⟩) 2 2) [a, b] := by
  refine ⟨[va, vb], ⟨_, _, rfl, rfl, Nat.le_refl _, by simp only [maxLen]; omega, fun _ => ⟨_, rfl, by simp, hX, fun j u hu => ?_⟩⟩, fun i hi => ?_⟩
  · have h2 : (⟨W.heap.size, 0, none⟩ : Addr).add j = ⟨W.heap.size, j, none⟩ := by unfold Addr.add; split <;> simp_all
    rw [h2, Blk.cell (Blk.new W t _) j]
    simpa using hu
  · have hi2 : i = 0 ∨ i = 1 := by simp at hi; omega
    rcases hi2 with rfl | rfl
    · exact ⟨va, rfl, ha.alloc _⟩
    · exact ⟨vb, rfl, hb.alloc _⟩

set_option maxRecDepth 100000 in
set_option maxHeartbeats 1000000 in
theorem put_any (o : O) (v : Value) (X Y : Nat → Prop) (vb : Value) (nb : Nat) (b : Tx) (w : World) (h : OI w X v o) (hl : o.recs.length ≤ 140737488355328) (hb : Sl w Y 1 vb nb (BVs b)) (hbl : b.length ≤ 140737488351232) :
    Calls Tryz.prog 154 #[vb, v] w fun e w' => Made w 5 (b ++ form o) e w' := by
  have hnb : nb = b.length := by obtain ⟨_, _, _, h, _⟩ := hb; rw [BVs_len] at h; omega
  subst hnb
  obtain ⟨A, c, rfl, hls⟩ := h
  have hls1 := hls.after (rk_start w o A c).below
  have HB := Lib.hid (bytes_any o (OV o A c) X _ ⟨A, c, rfl, hls1⟩ hl)
  have HC := Lib.hid (rk_start w o A c)
  have HSB := Lib.hid hb
  have hfl := form_len o
  clear hls hls1
  obtain ⟨Ab, cb, rfl, -⟩ := hb
  unfold OV at HB ⊢
  go_enter Tryz.func154, Tryz.ntmps154
  go_wp2_with fail
  refine HB.out.mono ?_
  rintro e w2 ⟨v2, rfl, hown2, hb2⟩
  obtain ⟨A2, c2, rfl⟩ := own_shape hown2
  have HB2 := Lib.hid (HC.out.below.trans (hb2.mono HC.out.below.size))
  have HL : Hid (Ls (w2.alloc (.cells #[.slice Ab b.length cb, .slice A2 (form o).length c2] 25)) (fun _ => False) (.slice (some ⟨w2.heap.size, 0, none⟩) 2 2) [b, form o]) := Lib.hid (two_new ((HSB.out.after HB2.out).weaken (fun _ _ h => h.elim)) (Sl.of_own hown2 (fun _ _ _ h => h)) (fun h => h))
  have HB3 : Hid (Below w.heap.size w (w2.alloc (.cells #[.slice Ab b.length cb, .slice A2 (form o).length c2] 25))) := Lib.hid (HB2.out.alloc HB2.out.size _)
  clear hown2 hb2
  go_wp2_with fail
  refine (concat_any _ _ _ _ [b, form o] HL.out (by simp) (by simp; omega)).mono ?_
  rintro e w4 ⟨v4, rfl, hown4, hb4⟩
  have HO4 := Lib.hid hown4
  have HB4 := Lib.hid (HB3.out.trans (hb4.mono HB3.out.size))
  clear hown4 hb4
  go_wp2_with fail
  go_ret
  refine ⟨v4, rfl, ?_, HB4.out⟩
  have := own_base HO4.out HB3.out.size
  simpa using this

theorem max_nat (e : Int) (he : e ≤ 9223372036854775807) : ∃ n : Nat, max e 0 = (n : Int) ∧ max 0 e = (n : Int) ∧ n ≤ 9223372036854775807 := by
  refine ⟨(max e 0).toNat, ?_, ?_, ?_⟩ <;> omega

set_option maxRecDepth 100000 in
set_option maxHeartbeats 1000000 in
theorem putres_any (Y : Nat → Prop) (vb : Value) (nb : Nat) (b : Tx) (e f : Int) (w : World) (hb : Sl w Y 1 vb nb (BVs b)) (hbl : b.length ≤ 140737488351232) (he : e ≤ 9223372036854775807) (hf : f ≤ 9223372036854775807) :
    Calls Tryz.prog 105 #[vb, .agg #[.int .i64 e, .int .i64 f]] w fun e' w' => Made w 5 (b ++ resB e f) e' w' := by
  have hnb : nb = b.length := by obtain ⟨_, _, _, h, _⟩ := hb; rw [BVs_len] at h; omega
  subst hnb
  obtain ⟨n, hn, -, hn63⟩ := max_nat e he
  obtain ⟨m, hm, -, hm63⟩ := max_nat f hf
  have HR : Hid (resB e f = Cm.enc n ++ Cm.enc m) := Lib.hid (by rw [resB, hn, hm, Int.toNat_natCast, Int.toNat_natCast])
  have hwn := wrap_u64' n (by omega)
  have hwm := wrap_u64' m (by omega)
  have ln := Cm.enc_len n
  have HN := Lib.hid hn63
  have HM := Lib.hid hm63
  have HSB := Lib.hid hb
  have HW0 : Hid (Below w.heap.size w (w.alloc (.cells #[.int .i64 e, .int .i64 f] 69))) := Lib.hid ((Below.refl _ w).alloc (Nat.le_refl _) _)
  have HK0 : Hid (Blk (w.alloc (.cells #[.int .i64 e, .int .i64 f] 69)) w.heap.size 69 #[.int .i64 e, .int .i64 f]) := Lib.hid (Blk.new _ _ _)
  clear hn63 hm63 he hf hb
  go_enter Tryz.func105, Tryz.ntmps105
  go_wp2_with fail
  refine (putnum_any Y vb b.length b n _ (HSB.out.after HW0.out) (by omega) (by have := HN.out; omega)).mono ?_
  rintro e1 w1 ⟨v1, rfl, hown1, hb1⟩
  have HO1 := Lib.hid hown1
  have HB1 := Lib.hid (HW0.out.trans (hb1.mono HW0.out.size))
  have hk1 := HK0.out.below hb1 HK0.out.lt
  have k0 := hk1.cell 0
  have k1 := hk1.cell 1
  simp only [List.getElem?_toArray, List.getElem?_cons_zero, List.getElem?_cons_succ] at k0 k1
  clear hown1 hb1 hk1
  go_wp2_with fail
  refine (putnum_any (fun _ => False) v1 _ (b ++ Cm.enc n) m _ (Sl.of_own HO1.out (fun _ _ _ h => h)) (by rw [List.length_append]; omega) (by have := HM.out; omega)).mono ?_
  rintro e2 w2 ⟨v2, rfl, hown2, hb2⟩
  have HO2 := Lib.hid hown2
  have HB2 := Lib.hid (HB1.out.trans (hb2.mono HB1.out.size))
  clear hown2 hb2
  go_wp2_with fail
  go_ret
  refine ⟨v2, rfl, ?_, HB2.out⟩
  rw [HR.out, ← List.append_assoc]
  exact own_base HO2.out HB1.out.size

end Go.Proofs.YtobphijbhghgmaaGreat.Po

/-
  Layer 6 (op): the contracts of Same, the document's and the program's.
-/
namespace Go.Proofs.YtobphijbhghgmaaGreat.Qs
set_option linter.unusedSimpArgs false
open Go Go.RowKit Ck Kw Ca Cb Pm Pa Pe Pf Pg Ph Ppi Pk
set_option linter.unusedVariables false

/-- Two operations stand there. -/
structure SB (w0 : World) (g1 g2 : Nat) (a b : O) (A B : Option Addr) (c d : Nat) (X Y : Nat → Prop) (W : World) : Prop where
  below : Below w0.heap.size w0 W
  one : OB W g1 a A c
  two : OB W g2 b B d
  la : Ls W X (.slice A a.recs.length c) a.recs
  lb : Ls W Y (.slice B b.recs.length d) b.recs
theorem SB.drewN {w0 W : World} {g1 g2 : Nat} {a b : O} {A B : Option Addr} {c d : Nat} {X Y : Nat → Prop} (h : SB w0 g1 g2 a b A B c d X Y W) (n : Nat) : SB w0 g1 g2 a b A B c d X Y (W.drewN n) :=
  ⟨below_drewN h.below n, h.one, h.two, h.la, h.lb⟩

end Go.Proofs.YtobphijbhghgmaaGreat.Qs

/-
  Layer 6 (op): bytes.HasPrefix; the walk of the statement OpApart.
-/
namespace Go.Proofs.YtobphijbhghgmaaGreat.Qf
set_option linter.unusedSimpArgs false
open Go Go.RowKit Ck Kw Ca Cb Ci Pm Pa Pe Pf Pg Ph Ppi Pk Pl Qs
set_option linter.unusedVariables false

def pre (k l : Tx) : Bool := decide (k <+: l)
/-- A row of new bytes, kept. -/
structure VB (w0 : World) (v : Value) (l : Tx) (W : World) : Prop where
  below : Below w0.heap.size w0 W
  row : Sl W (fun k => k < w0.heap.size) 1 v l.length (BVs l)
theorem VB.later {w0 W W' : World} {v : Value} {l : Tx} (h : VB w0 v l W) (b : Below W.heap.size W W') : VB w0 v l W' := ⟨h.below.trans (b.mono h.below.size), h.row.after b⟩

end Go.Proofs.YtobphijbhghgmaaGreat.Qf

/-
  Layer 6 (op): slices.Clone at bytes; the walk of the statement OpBytes.
-/
namespace Go.Proofs.YtobphijbhghgmaaGreat.Qa
set_option linter.unusedSimpArgs false
open Go Go.RowKit Ck Kw Ca Cb Cc Cd Ci Pm Pa Pe Pf Pg Ph Ppi Pj Kx Pk Pl Pn Po Qs Qf
attribute [local go_sem ↓] Go.wp_at_zero Go.wp_at_succ
set_option linter.unusedVariables false

set_option maxHeartbeats 400000 in
theorem sclb_any (X : Nat → Prop) (v : Value) (n : Nat) (b : List UInt8) (w : World) (hv : Sl w X 1 v n (BVs b)) (hn : n ≤ 140737488355328) :
    Calls Tryz.prog 128 #[v] w fun e w' => Made w 5 b e w' := by
  have hnl : n = b.length := by obtain ⟨A, c, _, h, _⟩ := hv; rw [BVs_len] at h; omega
  subst hnl
  obtain ⟨i0, hi0, hz0, hz1, hz2⟩ := info_parts info_u8
  have hv' := hv
  obtain ⟨A, c, rfl, -⟩ := hv'
  have heq := fun (W : World) => Lib.run_eql_slice_nil (P := Tryz.prog) W 25 5 A b.length c 0 0 Tryz.underlying25
  rcases A with _ | ad
  · obtain ⟨h0, _⟩ := hv.none_
    have hb : b = [] := List.eq_nil_of_length_eq_zero h0
    subst hb
    simp only [List.length_nil] at heq
    clear hv h0
    go_enter Tryz.func128, Tryz.ntmps128
    go_wp2
    go_ret
    exact ⟨_, rfl, World.ownsRow_nil _ _ _ _, Below.refl _ _⟩
  · go_enter Tryz.func128, Tryz.ntmps128
    go_wp2_with (at_builtin; refine wpList_append_sl _ rfl (.tmp 5) (.tmp 6) _ rfl w.heap.size 5 i0 _ 1 1 Tryz.underlying25 hi0 hz0 hz1 hz2 rfl (by omega) (.slice (some ⟨w.heap.size, 0, none⟩) 0 0) 0 [] rfl (World.ownsRow_made w #[] 0 (Nat.le_refl _) (by simp only [maxLen]; omega) rfl) X _ b.length (BVs b) rfl (hv.alloc _) (BVs_one _) (by simp only [maxLen]; omega) (by omega) (by simp) ?_; intro v2 w2 happ)
    go_ret
    refine ⟨v2, rfl, by simpa using happ.1, ?_⟩
    exact ((Below.refl _ _).alloc (Nat.le_refl _) _).grown happ.2.1 (by simp) (by simp [Value.ownBlock])


/-- What stands there: the operation, the result, the bytes. -/
structure ST (w0 : World) (o : O) (A : Option Addr) (c : Nat) (e f : Int) (vb : Value) (b : Tx) (W : World) : Prop where
  below : Below w0.heap.size w0 W
  op : OB W w0.heap.size o A c
  res : Blk W (w0.heap.size + 1) 69 #[.int .i64 e, .int .i64 f]
  ls : Ls W (fun k => w0.heap.size ≤ k) (.slice A o.recs.length c) o.recs
  b : Sl W (fun k => w0.heap.size ≤ k) 1 vb b.length (BVs b)
section
variable {w0 W W' : World} {o : O} {A : Option Addr} {c : Nat} {e f : Int} {vb : Value} {b : Tx}
theorem ST.later (h : ST w0 o A c e f vb b W) (hb : Below W.heap.size W W') : ST w0 o A c e f vb b W' :=
  ⟨h.below.trans (hb.mono h.below.size), Blk.below h.op hb (Blk.lt h.op), h.res.below hb h.res.lt, h.ls.after hb, h.b.after hb⟩
theorem ST.drew (h : ST w0 o A c e f vb b W) : ST w0 o A c e f vb b W.drew := ⟨below_drewN h.below 1, h.op, h.res, h.ls, h.b⟩
theorem ST.cells (h : ST w0 o A c e f vb b W) : W.cell? ⟨w0.heap.size, 0, none⟩ = some (.int .i64 o.kind) ∧ W.cell? ⟨w0.heap.size, 1, none⟩ = some (.string ⟨o.topic.toArray⟩) ∧ W.cell? ⟨w0.heap.size, 2, none⟩ = some (.string ⟨o.group.toArray⟩) ∧ W.cell? ⟨w0.heap.size, 3, none⟩ = some (.int .i64 o.off) ∧ W.cell? ⟨w0.heap.size, 4, none⟩ = some (.slice A o.recs.length c) ∧
    W.cell? ⟨w0.heap.size + 1, 0, none⟩ = some (.int .i64 e) ∧ W.cell? ⟨w0.heap.size + 1, 1, none⟩ = some (.int .i64 f) :=
  ⟨h.op.cells.1, h.op.cells.2.1, h.op.cells.2.2.1, h.op.cells.2.2.2.1, h.op.cells.2.2.2.2, h.res.cell 0, h.res.cell 1⟩
end
end Go.Proofs.YtobphijbhghgmaaGreat.Qa
