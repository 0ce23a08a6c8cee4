import Derived.Test.YtcmknopgoiabbaaPa
import Derived.BigQuiet
import Derived.Deep.QuietTactic
import Derived.Test.YtcmknopgoiabbaaPg
/-
  Layer 6 (op): the document's own runes and names.
-/
namespace Go.Proofs.Ytcmknopgoiabbaa.Pb
set_option linter.unusedSimpArgs false
open Go Go.RowKit Ck Kw Pm Pa
set_option linter.unusedVariables false

theorem gath_le {m : Nat} (l : Tx) (hm : m ≤ 32) (h0 : 0 < m) : ∀ k, k ≤ 3 → gath l m k ≤ 8388607 := by
  have b0 : gath l m 0 < m := Nat.mod_lt _ h0
  have e1 : gath l m 1 = gath l m 0 * 64 + byte l 1 % 64 := rfl
  have e2 : gath l m 2 = gath l m 1 * 64 + byte l 2 % 64 := rfl
  have e3 : gath l m 3 = gath l m 2 * 64 + byte l 3 % 64 := rfl
  intro k hk
  have : k = 0 ∨ k = 1 ∨ k = 2 ∨ k = 3 := by omega
  rcases this with rfl | rfl | rfl | rfl <;> omega
theorem byte_ix {l : Tx} {k : Nat} (h : k < (ByteArray.mk l.toArray).size) : ((ByteArray.mk l.toArray)[k]'h).toNat = byte l k := by
  rw [byte_get (by rw [← sv_size l]; exact h)]
  rfl
theorem and31 (b : Nat) (h : b < 256) : bits .and .i64 (b : Int) 31 = ((b % 32 : Nat) : Int) := by
  have : ∀ b : Fin 256, bits .and .i64 ((b.val : Nat) : Int) 31 = ((b.val % 32 : Nat) : Int) := by decide +kernel
  exact this ⟨b, h⟩
theorem and15 (b : Nat) (h : b < 256) : bits .and .i64 (b : Int) 15 = ((b % 16 : Nat) : Int) := by
  have : ∀ b : Fin 256, bits .and .i64 ((b.val : Nat) : Int) 15 = ((b.val % 16 : Nat) : Int) := by decide +kernel
  exact this ⟨b, h⟩
theorem and7 (b : Nat) (h : b < 256) : bits .and .i64 (b : Int) 7 = ((b % 8 : Nat) : Int) := by
  have : ∀ b : Fin 256, bits .and .i64 ((b.val : Nat) : Int) 7 = ((b.val % 8 : Nat) : Int) := by decide +kernel
  exact this ⟨b, h⟩

theorem lits_at (w : World) (nq k z : Nat) (h : (#[.int .i64 0, .int .i64 0, .int .i64 128, .int .i64 2048, .int .i64 65536] : Array Value)[k]? = some (.int .i64 (z : Int))) :
    ((w.drewN nq).alloc (.cells #[.int .i64 0, .int .i64 0, .int .i64 128, .int .i64 2048, .int .i64 65536] 3)).cell? ⟨w.heap.size, k, none⟩ = some (.int .i64 (z : Int)) :=
  (Blk.cell (Blk.new (w.drewN nq) 3 #[.int .i64 0, .int .i64 0, .int .i64 128, .int .i64 2048, .int .i64 65536]) k).trans h
/-- What rune1 answers. -/
def Rune (l : Tx) (w : World) (e : Ending) (w' : World) : Prop := e = .returned (.tuple #[.int .i64 ((r1 l).1 : Nat), .int .i64 ((r1 l).2 : Nat)]) ∧ Below w.heap.size w w'
theorem rune_of {l : Tx} {w w' : World} {v n : Nat} (h : r1 l = (v, n)) (hb : Below w.heap.size w w') : Rune l w (.returned (.tuple #[.int .i64 (v : Nat), .int .i64 (n : Nat)])) w' := by
  rw [Rune, h]
  exact ⟨rfl, hb⟩
end Go.Proofs.Ytcmknopgoiabbaa.Pb

/-
  Layer 6 (op): the document's own Runes and Name.
-/
namespace Go.Proofs.Ytcmknopgoiabbaa.Pd
set_option linter.unusedSimpArgs false
open Go Go.RowKit Ck Kw Pm Pa Pb
set_option linter.unusedVariables false

theorem extract_tail (l : Tx) (n : Nat) : (ByteArray.mk l.toArray).extract n l.length = ⟨(l.drop n).toArray⟩ := by
  apply ByteArray.ext
  rw [ByteArray.data_extract]
  apply Array.ext'
  rw [Array.toList_extract]
  simp [sv_size]
  rw [← List.length_drop, List.take_length]
theorem r1_cases (l : Tx) : (r1 l = (0, 0) ∧ Bar (dec l).1) ∨ (r1 l = dec l ∧ 1 ≤ (dec l).2 ∧ (dec l).1 ≤ 1114111) := by
  unfold r1
  split
  · rename_i h
    exact .inl ⟨rfl, by rw [h]; exact .inr (.inr (.inr rfl))⟩
  · exact .inr ⟨rfl, dec_width l, dec_lt l⟩

end Go.Proofs.Ytcmknopgoiabbaa.Pd

/-
  Layer 6 (op): the document's own fields and Check, kind by kind.
-/
namespace Go.Proofs.Ytcmknopgoiabbaa.Ph
set_option linter.unusedSimpArgs false
open Go Go.RowKit Ck Kw Pm Pa Pb Pd Pe Pf Pg
set_option linter.unusedVariables false

theorem results_tmp4 {fn : Func} {t u v x : Tmp} (h : fn.results = #[.tmp t, .tmp u, .tmp v, .tmp x]) (tmps : Array Value) (P : Program) (w : World) :
    (results fn tmps).run P w = .ok (.tuple #[tmps.getD t undef, tmps.getD u undef, tmps.getD v undef, tmps.getD x undef]) w := by
  simp [results, h]
/-- The operation stands there, beside what was there. -/
structure RK (w0 : World) (g1 : Nat) (o : O) (A : Option Addr) (c : Nat) (W : World) : Prop where
  below : Below w0.heap.size w0 W
  op : OB W g1 o A c
theorem RK.later {w0 W W' : World} {g1 : Nat} {o : O} {A : Option Addr} {c : Nat} (h : RK w0 g1 o A c W) (b : Below W.heap.size W W') : RK w0 g1 o A c W' :=
  ⟨h.below.trans (b.mono h.below.size), Blk.below h.op b (Blk.lt h.op)⟩
theorem rk_start (w : World) (o : O) (A : Option Addr) (c : Nat) : RK w w.heap.size o A c (w.alloc (.cells (OC o A c) 29)) :=
  ⟨(Below.refl _ w).alloc (Nat.le_refl _) _, Blk.new w _ _⟩
theorem recs_none {l : List Tx} (h : l.length < 1) : areRecs l = false := by
  have : decide (0 < l.length) = false := decide_eq_false (by omega)
  simp only [areRecs, this, Bool.false_and]
theorem recs_many {l : List Tx} (h : 4 < l.length) : areRecs l = false := by
  have : decide (l.length ≤ 4) = false := decide_eq_false (by omega)
  simp only [areRecs, this, Bool.and_false, Bool.false_and]
theorem recs_yes {l : List Tx} (h : ¬ l.length < 1) (h4 : ¬ 4 < l.length) (ha : l.all (fun x => decide (x.length ≤ 64)) = true) : areRecs l = true := by
  have q1 : decide (0 < l.length) = true := decide_eq_true (by omega)
  have q2 : decide (l.length ≤ 4) = true := decide_eq_true (by omega)
  simp only [areRecs, ha, q1, q2, Bool.and_self]
theorem all_take {l : List Tx} {k : Nat} (h : k < l.length) : (l.take (k + 1)).all (fun x => decide (x.length ≤ 64)) = ((l.take k).all (fun x => decide (x.length ≤ 64)) && decide (l[k].length ≤ 64)) := by
  rw [List.take_succ_eq_append_getElem h, List.all_append]
  simp
theorem all_not {l : List Tx} {k : Nat} (h : k < l.length) (hk : 64 < l[k].length) : areRecs l = false := by
  have : l.all (fun x => decide (x.length ≤ 64)) = false := by
    rw [List.all_eq_false]
    exact ⟨l[k], List.getElem_mem h, by simp; omega⟩
  simp [areRecs, this]

end Go.Proofs.Ytcmknopgoiabbaa.Ph
