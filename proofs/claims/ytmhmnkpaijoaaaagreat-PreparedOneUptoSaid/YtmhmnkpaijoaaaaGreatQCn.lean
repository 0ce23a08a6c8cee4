/-
  Contract of the document's own reader of layer 1: Num.
-/
import Derived.Test.YtmhmnkpaijoaaaaGreatQCi
namespace Go.Proofs.YtmhmnkpaijoaaaaGreat.Cn
set_option linter.unusedSimpArgs false
set_option linter.unusedVariables false
open Go Go.RowKit Ck Ca Cb Cf

theorem wrap_u64 (n : Nat) (hn : n < 18446744073709551616) : IntKind.u64.wrap (n : Int) = (n : Int) := by
  simp [IntKind.wrap, IntKind.bits, IntKind.signed]
  omega
end Go.Proofs.YtmhmnkpaijoaaaaGreat.Cn
