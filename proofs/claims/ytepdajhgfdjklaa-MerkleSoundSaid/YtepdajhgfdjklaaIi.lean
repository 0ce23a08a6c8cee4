/-
  Contracts of the document's table: SameAll, Open, Sum.
-/
import Derived.Test.YtepdajhgfdjklaaIh
namespace Go.Proofs.Ytepdajhgfdjklaa.Ii
open Go Go.RowKit Ck Im Ik Ia Ib Ic Ig Ie Ih

theorem quiet_left {f : FuncId} {args : Array Value} {w : World} {n : Nat} {v : Value}
    (h : Calls Try.prog f args (w.drewN n) fun e w' => e = .returned v ∧ w.drewN n = w') : Calls Try.prog f args (w.drewN n) fun e w'' => e = .returned v ∧ ∃ m, w'' = w.drewN m :=
  h.mono fun _ _ ⟨he, hm⟩ => ⟨he, n, hm.symm⟩

/-- Are the lists the same? (A word of its own.) -/
def sameB (a b : List Tx) : Bool := decide (a = b)

theorem BVs_one1 (l : List UInt8) : ∀ u ∈ BVs l, u.oneCell' = true := BVs_one l

end Go.Proofs.Ytepdajhgfdjklaa.Ii
