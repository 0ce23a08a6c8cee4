/-
  Contract of layer 1's PutList.
-/
import Derived.Test.YtepdajhgfdjklaaCb
namespace Go.Proofs.Ytepdajhgfdjklaa.Cc
open Go Go.RowKit Ck Ca Cb

end Go.Proofs.Ytepdajhgfdjklaa.Cc
