/-
  A region that draws its order, whose first three operations are quiet and whose fourth waits for them and is waited for by all others: the three in any order, the fourth, and behind it one walk of quiet operations.
-/
import Derived.Test.YtjdmadfjfjenjaaCk
import Derived.Deep.Quiet
import Derived.Deep.QuietTactic
import Derived.BigQuiet
namespace Go.Proofs.Ytjdmadfjfjenjaa.Kz
set_option linter.unusedSimpArgs false
set_option linter.unusedVariables false
open Go Go.RowKit

section
variable {P : Program} {ops : Array Oper} {Q : Exit → Act → World → Prop}

theorem any_step {n : Nat} {L : Array Bool} {a : Act} {w : World} {is : List Nat} (hr : Region.ready .any ops L = is) (hne : is ≠ []) (h : ∀ i ∈ is, wpOp P ops Q i (wpAny P .any ops Q n (L.setIfInBounds i true)) a w) : wpAny P .any ops Q (n + 1) L a w :=
  ⟨fun h0 => absurd (hr.symm.trans h0) hne, fun i hi => h i (by rw [← hr]; exact hi)⟩

/-- The operation yields v here, in the very world. -/
def Y (P : Program) (ops : Array Oper) (o : Oper) (v : Value) (w : World) (b : Act) : Prop := Region.wanted o (yielded ops b.tmps) = true ∧ (execOp b.eval o).run P w = .ok (.value v) w

theorem op_of_Y {i : Nat} {o : Oper} {v : Value} {w : World} {b : Act} {K : Act → World → Prop} (hi : ops[i]? = some o) (hy : Y P ops o v w b) (h : K (b.put o.dst v) w) : wpOp P ops Q i K b w := by
  unfold wpOp
  simp only [hi, hy.1, if_true]
  left
  unfold Oper.wp
  rw [hy.2]
  exact h

theorem put_swap (b : Act) {i j : Nat} (x y : Value) (h : i ≠ j) : (b.put (some i) x).put (some j) y = (b.put (some j) y).put (some i) x := by
  simp only [Act.put]
  rw [Array.setIfInBounds_comm _ _ h]

/-- THREE QUIET OPERATIONS IN ANY ORDER. -/
theorem head3 {n : Nat} {a : Act} {w : World} {o0 o1 o2 : Oper} {i0 i1 i2 : Nat} {v0 v1 v2 : Value} {L : Array Bool}
    (h0 : ops[0]? = some o0) (h1 : ops[1]? = some o1) (h2 : ops[2]? = some o2) (d0 : o0.dst = some i0) (d1 : o1.dst = some i1) (d2 : o2.dst = some i2) (n01 : i0 ≠ i1) (n02 : i0 ≠ i2) (n12 : i1 ≠ i2)
    (r : Region.ready .any ops L = [0, 1, 2]) (r0 : Region.ready .any ops (L.setIfInBounds 0 true) = [1, 2]) (r1 : Region.ready .any ops (L.setIfInBounds 1 true) = [0, 2]) (r2 : Region.ready .any ops (L.setIfInBounds 2 true) = [0, 1])
    (r01 : Region.ready .any ops ((L.setIfInBounds 0 true).setIfInBounds 1 true) = [2]) (r02 : Region.ready .any ops ((L.setIfInBounds 0 true).setIfInBounds 2 true) = [1]) (r12 : Region.ready .any ops ((L.setIfInBounds 1 true).setIfInBounds 2 true) = [0])
    (y0 : ∀ b, b = a ∨ b = a.put (some i1) v1 ∨ b = a.put (some i2) v2 ∨ b = (a.put (some i1) v1).put (some i2) v2 → Y P ops o0 v0 w b)
    (y1 : ∀ b, b = a ∨ b = a.put (some i0) v0 ∨ b = a.put (some i2) v2 ∨ b = (a.put (some i0) v0).put (some i2) v2 → Y P ops o1 v1 w b)
    (y2 : ∀ b, b = a ∨ b = a.put (some i0) v0 ∨ b = a.put (some i1) v1 ∨ b = (a.put (some i0) v0).put (some i1) v1 → Y P ops o2 v2 w b)
    (hend : wpAny P .any ops Q n (((L.setIfInBounds 0 true).setIfInBounds 1 true).setIfInBounds 2 true) (((a.put (some i0) v0).put (some i1) v1).put (some i2) v2) w) : wpAny P .any ops Q (n + 3) L a w := by
  have s01 : (L.setIfInBounds 1 true).setIfInBounds 0 true = (L.setIfInBounds 0 true).setIfInBounds 1 true := Array.setIfInBounds_comm _ _ (by omega)
  have s02 : (L.setIfInBounds 2 true).setIfInBounds 0 true = (L.setIfInBounds 0 true).setIfInBounds 2 true := Array.setIfInBounds_comm _ _ (by omega)
  have s12 : (L.setIfInBounds 2 true).setIfInBounds 1 true = (L.setIfInBounds 1 true).setIfInBounds 2 true := Array.setIfInBounds_comm _ _ (by omega)
  have t1 : ((L.setIfInBounds 0 true).setIfInBounds 2 true).setIfInBounds 1 true = ((L.setIfInBounds 0 true).setIfInBounds 1 true).setIfInBounds 2 true := Array.setIfInBounds_comm _ _ (by omega)
  have t2 : ((L.setIfInBounds 1 true).setIfInBounds 2 true).setIfInBounds 0 true = ((L.setIfInBounds 0 true).setIfInBounds 1 true).setIfInBounds 2 true := by
    rw [Array.setIfInBounds_comm _ _ (by omega : (2 : Nat) ≠ 0), s01]
  have p10 := put_swap a v0 v1 n01
  have p20 := put_swap a v0 v2 n02
  have p21 := put_swap a v1 v2 n12
  refine any_step r (by simp) fun i hi => ?_
  simp only [List.mem_cons, List.not_mem_nil, or_false] at hi
  rcases hi with rfl | rfl | rfl
  · refine op_of_Y h0 (y0 _ (.inl rfl)) ?_
    rw [d0]
    refine any_step r0 (by simp) fun i hi => ?_
    simp only [List.mem_cons, List.not_mem_nil, or_false] at hi
    rcases hi with rfl | rfl
    · refine op_of_Y h1 (y1 _ (.inr (.inl rfl))) ?_
      rw [d1]
      refine any_step r01 (by simp) fun i hi => ?_
      simp only [List.mem_cons, List.not_mem_nil, or_false] at hi
      subst hi
      refine op_of_Y h2 (y2 _ (.inr (.inr (.inr rfl)))) ?_
      rw [d2]
      exact hend
    · refine op_of_Y h2 (y2 _ (.inr (.inl rfl))) ?_
      rw [d2]
      refine any_step r02 (by simp) fun i hi => ?_
      simp only [List.mem_cons, List.not_mem_nil, or_false] at hi
      subst hi
      refine op_of_Y h1 (y1 _ (.inr (.inr (.inr rfl)))) ?_
      rw [d1, t1, ← put_swap _ v1 v2 n12]
      exact hend
  · refine op_of_Y h1 (y1 _ (.inl rfl)) ?_
    rw [d1]
    refine any_step r1 (by simp) fun i hi => ?_
    simp only [List.mem_cons, List.not_mem_nil, or_false] at hi
    rcases hi with rfl | rfl
    · refine op_of_Y h0 (y0 _ (.inr (.inl rfl))) ?_
      rw [d0, s01, ← p10]
      refine any_step r01 (by simp) fun i hi => ?_
      simp only [List.mem_cons, List.not_mem_nil, or_false] at hi
      subst hi
      refine op_of_Y h2 (y2 _ (.inr (.inr (.inr rfl)))) ?_
      rw [d2]
      exact hend
    · refine op_of_Y h2 (y2 _ (.inr (.inr (.inl rfl)))) ?_
      rw [d2]
      refine any_step r12 (by simp) fun i hi => ?_
      simp only [List.mem_cons, List.not_mem_nil, or_false] at hi
      subst hi
      refine op_of_Y h0 (y0 _ (.inr (.inr (.inr rfl)))) ?_
      rw [d0, t2, ← put_swap _ v0 v2 n02, ← p10]
      exact hend
  · refine op_of_Y h2 (y2 _ (.inl rfl)) ?_
    rw [d2]
    refine any_step r2 (by simp) fun i hi => ?_
    simp only [List.mem_cons, List.not_mem_nil, or_false] at hi
    rcases hi with rfl | rfl
    · refine op_of_Y h0 (y0 _ (.inr (.inr (.inl rfl)))) ?_
      rw [d0, s02, ← p20]
      refine any_step r02 (by simp) fun i hi => ?_
      simp only [List.mem_cons, List.not_mem_nil, or_false] at hi
      subst hi
      refine op_of_Y h1 (y1 _ (.inr (.inr (.inr rfl)))) ?_
      rw [d1, t1, ← put_swap _ v1 v2 n12]
      exact hend
    · refine op_of_Y h1 (y1 _ (.inr (.inr (.inl rfl)))) ?_
      rw [d1, s12, ← p21]
      refine any_step r12 (by simp) fun i hi => ?_
      simp only [List.mem_cons, List.not_mem_nil, or_false] at hi
      subst hi
      refine op_of_Y h0 (y0 _ (.inr (.inr (.inr rfl)))) ?_
      rw [d0, t2, ← put_swap _ v0 v2 n02, ← p10]
      exact hend

theorem Y_move {o : Oper} {x : Operand} {v : Value} {w : World} {b : Act} (hg : o.guard = none) (ho : o.op = .move x) (hx : b.eval x = v) : Y P ops o v w b := by
  refine ⟨by simp [Region.wanted, hg], ?_⟩
  unfold execOp
  simp only [ho, hx]
  rfl
theorem Y_load {o : Oper} {ty : TypeId} {x : Operand} {w : World} {b : Act} {g : Nat} {t : TypeId} {cs : Array Value} {fr : Nat × Nat} {d : TypeDesc} (hg : o.guard = none) (ho : o.op = .load ty x) (hx : b.eval x = .pointer (some ⟨g, 0, none⟩)) (hh : w.heap[g]? = some (.cells cs t fr))
    (hu : P.underlying ty = some d) (hd : (match d with | .struct _ | .array _ _ => true | _ => false) = true) (hi : (P.info? ty).map (·.size) = some cs.size) : Y P ops o (.agg cs) w b := by
  refine ⟨by simp [Region.wanted, hg], ?_⟩
  unfold execOp
  simp only [ho, hx, Instr.loadAt, Instr.sureAddr, Sem.run_bind, Sem.run_pure, Result.andThen_ok, run_loadVar_row w g t ty cs fr d hh hu hd hi]
/-- A call of a Go function. -/
theorem op_of_call {i j : Nat} {o : Oper} {f : FuncId} {args : Array Value} {w : World} {b : Act} {K : Act → World → Prop} (hi : ops[i]? = some o) (hd : o.dst = some j) (hw : Region.wanted o (yielded ops b.tmps) = true) (hx : (execOp b.eval o).run P w = .ok (.enter f args) w)
    (h : Calls P f args w fun e w' => ∃ v, e = .returned v ∧ K (b.put (some j) v) w') : wpOp P ops Q i K b w := by
  unfold wpOp
  simp only [hi, hw, if_true]
  left
  unfold Oper.wp
  rw [hx]
  exact h.mono fun e w' ⟨v, he, hk⟩ => by subst he; rw [← hd] at hk; exact hk
theorem quiet_left {f : FuncId} {args : Array Value} {w : World} {n : Nat} {v : Value}
    (h : Calls P f args (w.drewN n) fun e w' => e = .returned v ∧ w.drewN n = w') : Calls P f args (w.drewN n) fun e w'' => e = .returned v ∧ ∃ m, w'' = w.drewN m :=
  h.mono fun _ _ ⟨he, hm⟩ => ⟨he, n, hm.symm⟩

/-- BEHIND IT ONE WALK OF QUIET OPERATIONS, from a place on. -/
theorem any_quiet {C : World → Prop} (hs : Region.noSelect ops = true) (l : List Oper) (k : Nat) (L : Array Bool) (a : Act) (w : World) (hl : ∀ j, l[j]? = ops[k + j]?) (hB : Region.lexFrom .any ops l.length k L = true) (hC : C w)
    (h : wpQuiet P ops C (fun a' => ∀ w', C w' → Q .normal a' w') l a) : wpAny P .any ops Q l.length L a w :=
  wpAny_of_quiet (Q := fun a' => ∀ w', C w' → Q .normal a' w') (fun _ w' hw' h => h w' hw') _ _ _ _ hC (wpAnyQ_lex hs l k L a hl hB h)
theorem any_quiet4 {o0 o1 o2 o3 : Oper} {l : List Oper} {L : Array Bool} {a : Act} {w : World} (hs : Region.noSelect (o0 :: o1 :: o2 :: o3 :: l).toArray = true) (hB : Region.lexFrom .any (o0 :: o1 :: o2 :: o3 :: l).toArray l.length 4 L = true)
    (h : wpQuiet P (o0 :: o1 :: o2 :: o3 :: l).toArray (fun w' => ∃ n, w' = w.drewN n) (fun a' => ∀ w', (∃ n, w' = w.drewN n) → Q .normal a' w') l a) : wpAny P .any (o0 :: o1 :: o2 :: o3 :: l).toArray Q l.length L a w :=
  any_quiet hs l 4 L a w (fun j => by simp [Nat.add_comm 4 j]) hB ⟨0, rfl⟩ h
end

end Go.Proofs.Ytjdmadfjfjenjaa.Kz
