/-
  Layer 7: a map of what was done, by client and time.
-/
import Derived.Test.YtcmknopgoiabbaaAn
import Derived.Test.YtcmknopgoiabbaaTq
import Derived.DeepKeys4
namespace Go.Proofs.Ytcmknopgoiabbaa.Bv
set_option linter.unusedSimpArgs false
open Go Go.RowKit Ck Kw Ga Kf Km Pm Pz Tm Tn Tq Aa An
set_option linter.unusedVariables false

theorem laidOut : laidOutB Try.prog = true := by kernel_rfl
theorem row_k : (38 : TypeId) < Try.prog.types.size := of_decide_eq_true (by kernel_rfl)
theorem wide_k : (match Try.prog.underlying 38 with | some (.array _ _) | some (.struct _) => true | _ => false) = true := by rw [Try.underlying38]
set_option maxRecDepth 100000 in
theorem law_k : Maps.Keyed Try.prog 38 := Maps.Keyed.of_law (deep_law_laid laidOut (m := 2) (by omega) row_k (by kernel_rfl) wide_k)
/-- A key. -/
def kv (c t : Int) : Value := .agg #[.int .i64 c, .int .i64 t]
def InR (z : Int) : Prop := -9223372036854775808 ≤ z ∧ z ≤ 9223372036854775807
theorem key_kv {c t : Int} (hc : InR c) (ht : InR t) : ∃ l, keyOf Try.prog 38 (kv c t) = some l := by
  have h1 : (Lit.int .i64 c).wf = true := by unfold InR at hc; simp [Lit.wf, IntKind.min, IntKind.max, IntKind.bits, IntKind.signed]; omega
  have h2 : (Lit.int .i64 t).wf = true := by unfold InR at ht; simp [Lit.wf, IntKind.min, IntKind.max, IntKind.bits, IntKind.signed]; omega
  have h3 : Try.prog.keyType 38 = true := by kernel_rfl
  have h4 : (kv c t).formed Try.prog 38 = true := by
    have hc2 : Try.prog.cellsOf 38 = 2 := by kernel_rfl
    simp [kv, Value.formed, Try.underlying38, hc2]
  have hc2 : Try.prog.cellsOf 38 = 2 := by kernel_rfl
  have hc1 : Try.prog.cellsOf 2 = 1 := by kernel_rfl
  have hz : ∃ n, Try.prog.types.size + 1 = n + 2 := ⟨Try.prog.types.size - 1, by have h : (1 : Nat) ≤ Try.prog.types.size := of_decide_eq_true (by kernel_rfl); omega⟩
  obtain ⟨n, hn⟩ := hz
  have hk : Try.prog.keyLits (n + 2) 38 [.int .i64 c, .int .i64 t] = some [.int .i64 c, .int .i64 t] := by
    simp [Program.keyLits, Try.underlying38, Try.underlying2, hc2, hc1, h1, h2, List.range, List.range.loop]
  refine ⟨.string (keyBytes [.int .i64 c, .int .i64 t]), ?_⟩
  unfold keyOf
  rw [Try.underlying38]
  simp only [h3, h4, Bool.and_self, if_true, hn]
  rw [show (kv c t).cells.toList = [.int .i64 c, .int .i64 t] from rfl, hk]
  rfl
theorem kv_inj {c t c' t' : Int} {l : Lit} (h : keyOf Try.prog 38 (kv c t) = some l) (h' : keyOf Try.prog 38 (kv c' t') = some l) : c = c' ∧ t = t' := by
  have := law_k.inj h h'
  simp only [kv, Value.agg.injEq, Array.mk.injEq, List.cons.injEq, Value.int.injEq, true_and, and_true] at this
  exact this
/-- What a map of yes and no holds. -/
def boElem (v : Value) : Option (DataW Unit × List MemPlace) :=
  match v with
  | .bool b => some (.lit (.bool b), [])
  | _ => none
theorem boElem_mk (b : Bool) : boElem (.bool b) = some (.lit (.bool b), []) := rfl
theorem boElem_at {v : Value} {b : Bool} {ps : List MemPlace} (h : boElem v = some (.lit (.bool b), ps)) : v = .bool b := by
  cases v <;> simp [boElem] at h
  rw [h.1]
theorem zero_bool (w : World) : (zeroValue 4).run Try.prog w = .ok (.bool false) w := by kernel_rfl
/-- What was done of state s: all of it lies at or ahead of each client's last time. -/
structure DM (w : World) (m n : Nat) (s : St) (D : DataW Unit) (f : Lit → Bool) : Prop where
  own : w.ownsMap Try.prog 38 boElem m n D
  at_ : ∀ l, D.atKey l (.lit (.bool false)) = .lit (.bool (f l))
  done : ∀ c t l, keyOf Try.prog 38 (kv c t) = some l → f l = true → 0 ≤ c ∧ t ≤ tm s c
theorem DM.look {w : World} {m n : Nat} {s : St} {D : DataW Unit} {f : Lit → Bool} (h : DM w m n s D f) {c t : Int} {l : Lit} (hl : keyOf Try.prog 38 (kv c t) = some l) :
    (Instr.lookup 26 (.map (some m)) (kv c t) false).run Try.prog w = .ok (.bool (f l)) w := by
  obtain ⟨v, ps, hrun, hv⟩ := h.own.lookup law_k Try.underlying26 (zero_bool w) (zd := .lit (.bool false)) (zp := []) (boElem_mk false) hl
  rw [h.at_] at hv
  rw [hrun, boElem_at hv]
end Go.Proofs.Ytcmknopgoiabbaa.Bv
