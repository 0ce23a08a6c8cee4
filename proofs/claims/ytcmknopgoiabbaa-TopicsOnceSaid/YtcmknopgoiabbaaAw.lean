/-
  A list of requests, as it was read: clients and times are numbers of their kind.
-/
import Derived.Test.YtcmknopgoiabbaaAq
import Derived.Test.YtcmknopgoiabbaaBv
namespace Go.Proofs.Ytcmknopgoiabbaa.Aw
set_option linter.unusedSimpArgs false
open Go Go.RowKit Go.ChangeShapes Go.WideShapes Go.ChangeAt Go.Deep Ck Kp Pm Pe Py Ao Aq Bv
set_option linter.unusedVariables false

section
variable {H : Type} {enc : TypeId × Value → H}
theorem inr_of {z : Int} (h : (Lit.int .i64 z).wf = true) : InR z := by
  unfold InR
  simp [Lit.wf, IntKind.min, IntKind.max, IntKind.bits, IntKind.signed] at h
  omega
set_option maxRecDepth 100000 in
theorem req_in {w : World} {base : Nat} {fuel : Nat} {c t : Int} {v2 v3 v4 v5 v6 : Value} {x : DataW H × List MemPlace} (h : DataW.trod enc Try.prog w base (fun _ => true) true fuel 31 [.int .i64 c, .int .i64 t, v2, v3, v4, v5, v6] = some x) : InR c ∧ InR t := by
  obtain ⟨xs, n', _, hx, hl, hxl, hf⟩ := DataW.trod_struct Try.underlying31 h
  have hxl' : xs.length = 3 := hxl
  have f0 : DataW.trod enc Try.prog w base (fun _ => true) true n' 3 (([.int .i64 c, .int .i64 t, v2, v3, v4, v5, v6].drop 0).take (Try.prog.cellsOf 3)) = xs[0]? := hf 0 _ rfl
  have f1 : DataW.trod enc Try.prog w base (fun _ => true) true n' 2 (([.int .i64 c, .int .i64 t, v2, v3, v4, v5, v6].drop 1).take (Try.prog.cellsOf 2)) = xs[1]? := hf 1 _ rfl
  rw [cells_int] at f0
  rw [cells_i64] at f1
  simp only [List.drop_zero, List.drop_succ_cons, List.take_succ_cons, List.take_zero] at f0 f1
  obtain ⟨z0, e0, w0⟩ := one_int Try.underlying3 (by omega) f0
  obtain ⟨z1, e1, w1⟩ := one_int Try.underlying2 (by omega) f1
  simp only [List.cons.injEq, and_true, Value.int.injEq, true_and] at e0 e1
  subst e0; subst e1
  exact ⟨inr_of w0, inr_of w1⟩
set_option maxRecDepth 100000 in
theorem reqs_in {w : World} {fuel : Nat} {base : Nat} {A : Option Addr} {c : Nat} {rs : List Rq} {x : DataW H × List MemPlace} (h : DataW.trod enc Try.prog w base (fun _ => true) true fuel 22 [.slice A rs.length c] = some x) (hq : Rqs w A rs) :
    ∀ i (hi : i < rs.length), InR rs[i].client ∧ InR rs[i].time := by
  rcases open_slice Try.underlying22 h with ⟨hcs, rfl⟩ | ⟨a, len, cap, m, n, D, Pl, hcs, _, hl, hm, hmm, rfl, hx⟩
  · intro i hi
    simp only [List.cons.injEq, Value.slice.injEq, and_true] at hcs
    omega
  · intro i hi
    simp only [List.cons.injEq, Value.slice.injEq, and_true] at hcs
    obtain ⟨rfl, rfl, rfl⟩ := hcs
    simp only [if_true] at hmm
    obtain ⟨cs', hc, ht⟩ := hx i (by omega)
    obtain ⟨ad, Ar, cr, hA, _, a0, a1, -⟩ := hq i hi
    injection hA with hA
    subst hA
    obtain ⟨r, Ar', cr', rfl, hb, hr⟩ := open_req ht
    rw [cells_req] at hc
    obtain ⟨_, _, hcell⟩ := World.cells?_some hc
    have h0 : w.cell? (a.add (i * 7)) = some (.int .i64 r.client) := by
      have := hcell 0 (by omega)
      rw [Ck.add_add] at this
      simpa using this
    have h1 := hcell 1 (by omega)
    have hg : (a.add (i * 7)).add 1 = ⟨(a.add (i * 7)).block, (a.add (i * 7)).off + 1, none⟩ := by
      generalize a.add (i * 7) = ak
      unfold Addr.add
      rw [if_neg (by omega)]
    rw [hg] at h1
    have e0 : r.client = rs[i].client := by
      have := h0.symm.trans a0
      simpa using this
    have e1 : r.time = rs[i].time := by
      have := h1.symm.trans a1
      simpa using this
    have := req_in ht
    rw [e0, e1] at this
    exact this
end
end Go.Proofs.Ytcmknopgoiabbaa.Aw
