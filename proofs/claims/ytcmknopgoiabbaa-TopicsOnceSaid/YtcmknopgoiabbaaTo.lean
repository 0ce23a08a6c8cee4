/-
  The plain mathematics of layer 7 (topics): what is asked of topics.
-/
import Derived.Test.YtcmknopgoiabbaaTq
namespace Go.Proofs.Ytcmknopgoiabbaa.To
set_option linter.unusedSimpArgs false
set_option linter.unusedVariables false
open Cm Pm Pz Tm Tn Tq
/-- What Bounds answers. -/
def boundsT (L : List Tp) (s : Tx) : Int × Int × Int := match findT L s with
  | none => (0, 0, 4)
  | some t => (t.base, t.next, 0)
/-- What Get answers. -/
def getT (L : List Tp) (s : Tx) (k : Int) : Tx × Int := match findT L s with
  | none => ([], 4)
  | some t => if k < t.base ∨ t.next ≤ k then ([], 72) else (t.recs.getD (k - t.base).toNat [], 0)
/-- What Committed answers. -/
def commT (L : List Tp) (s g : Tx) : Int × Int := match findT L s with
  | none => (0, 4)
  | some t => match pos t.gs g with
    | none => (0, 4)
    | some k => (k, 0)
end Go.Proofs.Ytcmknopgoiabbaa.To
