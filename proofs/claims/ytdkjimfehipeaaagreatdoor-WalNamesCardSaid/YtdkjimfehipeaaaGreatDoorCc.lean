/-
  Contract of layer 1's PutList.
-/
import Derived.Test.YtdkjimfehipeaaaGreatDoorCb
namespace Go.Proofs.YtdkjimfehipeaaaGreatDoor.Cc
open Go Go.RowKit Ck Ca Cb

end Go.Proofs.YtdkjimfehipeaaaGreatDoor.Cc
