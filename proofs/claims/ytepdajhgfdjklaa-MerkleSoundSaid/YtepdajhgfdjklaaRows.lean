/-
  No cell of these rows narrows 'for every input' (looked for: loops, veiled, ifaces, maps, wideKeys, modest, calm, conditions, laid).
  DERIVED. THE GIVEN ROWS OF THIS SEAT. 7 by the template 'for every input the law returns true; each argument reads behind the call as it read before'; 0 by the template 'total and deterministic' (their statements: YtepdajhgfdjklaaTotals.lean).
  GIVEN WITH THE SEED: the statements are not yours to turn. If you find one false, say at which input.
  Laid BY PROGRAM, IN A SANDBOX (cutbox-rows.mjs): the forced cells as the released guide's own fill.sh prints them over the translation 0814ca1e2659a831… (all of the seat's roots in one cut). By AI agents, Wed Nov 11 2026. No macro, syntax, notation, axiom, sorry.
-/
import Derived.Test.YtepdajhgfdjklaaChecked
import GoSem.Claim
import GoSem.ClaimJoined
import GoSem.ClaimMapViews
import Derived.JoinedTies
import Derived.KernelRfl
namespace Go.Proofs.Ytepdajhgfdjklaa
/- THE CELL 'sum', in the pinned program and in every row, IS THE sha256 OF THE DUMP (.gsa) THAT YtepdajhgfdjklaaProg.lean LOADS. Nothing in Lean hashes anything: it is a label: what it is worth is what the hold of that sum in a sandbox is worth. -/
noncomputable def Try.pinned : Pinned := { name := "ytepdajhgfdjklaa", sum := "0814ca1e2659a831665dfdec21c6f9df3293674871a9aa5592ae4e526bef301b", checked := Try.checked }
namespace Rows
def none {H : Type} : Left H := { results := [], args := [] }

/-- 'bullalaw05.MerkleRoots': WHATEVER THE INPUT: true; the input reads as it did. -/
def merkleRootsSpec : ChangeSpec := { name := "merkleRoots", fn := fun _ => fun
  | [d1, d2, d3] => { results := [.lit (.bool true)], args := [d1, d2, d3] }
  | _ => none }
def merkleRootsRow : OpenClaim := { program := "ytepdajhgfdjklaa", sum := "0814ca1e2659a831665dfdec21c6f9df3293674871a9aa5592ae4e526bef301b", func := "bulla/bullalaw05.MerkleRoots", spec := "merkleRoots", inPlace := ["maps.clone"], unfollowed := true, recurses := true, apart := false }
def MerkleRootsSaid : Prop := merkleRootsRow.holds Try.pinned (OpenSpec.ofChange merkleRootsSpec)

/-- ITS FALSE NEIGHBOUR: 'it returns false'. Refute it at one input. -/
def merkleRootsWrong : ChangeSpec := { name := "merkleRoots", fn := fun _ => fun
  | [d1, d2, d3] => { results := [.lit (.bool false)], args := [d1, d2, d3] }
  | _ => none }
def MerkleRootsWrongFalsely : Prop := merkleRootsRow.holds Try.pinned (OpenSpec.ofChange merkleRootsWrong)

/-- 'bullalaw05.MerkleParts': WHATEVER THE INPUT: true; the input reads as it did. -/
def merklePartsSpec : ChangeSpec := { name := "merkleParts", fn := fun _ => fun
  | [d] => { results := [.lit (.bool true)], args := [d] }
  | _ => none }
def merklePartsRow : OpenClaim := { program := "ytepdajhgfdjklaa", sum := "0814ca1e2659a831665dfdec21c6f9df3293674871a9aa5592ae4e526bef301b", func := "bulla/bullalaw05.MerkleParts", spec := "merkleParts", inPlace := ["maps.clone"], unfollowed := true, recurses := true, apart := false }
def MerklePartsSaid : Prop := merklePartsRow.holds Try.pinned (OpenSpec.ofChange merklePartsSpec)

/-- ITS FALSE NEIGHBOUR: 'it returns false'. Refute it at one input. -/
def merklePartsWrong : ChangeSpec := { name := "merkleParts", fn := fun _ => fun
  | [d] => { results := [.lit (.bool false)], args := [d] }
  | _ => none }
def MerklePartsWrongFalsely : Prop := merklePartsRow.holds Try.pinned (OpenSpec.ofChange merklePartsWrong)

/-- 'bullalaw05.MerkleVerifies': WHATEVER THE INPUT: true; the input reads as it did. -/
def merkleVerifiesSpec : ChangeSpec := { name := "merkleVerifies", fn := fun _ => fun
  | [d1, d2] => { results := [.lit (.bool true)], args := [d1, d2] }
  | _ => none }
def merkleVerifiesRow : OpenClaim := { program := "ytepdajhgfdjklaa", sum := "0814ca1e2659a831665dfdec21c6f9df3293674871a9aa5592ae4e526bef301b", func := "bulla/bullalaw05.MerkleVerifies", spec := "merkleVerifies", inPlace := ["maps.clone"], unfollowed := true, recurses := true, apart := false }
def MerkleVerifiesSaid : Prop := merkleVerifiesRow.holds Try.pinned (OpenSpec.ofChange merkleVerifiesSpec)

/-- ITS FALSE NEIGHBOUR: 'it returns false'. Refute it at one input. -/
def merkleVerifiesWrong : ChangeSpec := { name := "merkleVerifies", fn := fun _ => fun
  | [d1, d2] => { results := [.lit (.bool false)], args := [d1, d2] }
  | _ => none }
def MerkleVerifiesWrongFalsely : Prop := merkleVerifiesRow.holds Try.pinned (OpenSpec.ofChange merkleVerifiesWrong)

/-- 'bullalaw05.MerkleComplete': WHATEVER THE INPUT: true; the input reads as it did. -/
def merkleCompleteSpec : ChangeSpec := { name := "merkleComplete", fn := fun _ => fun
  | [d1, d2] => { results := [.lit (.bool true)], args := [d1, d2] }
  | _ => none }
def merkleCompleteRow : OpenClaim := { program := "ytepdajhgfdjklaa", sum := "0814ca1e2659a831665dfdec21c6f9df3293674871a9aa5592ae4e526bef301b", func := "bulla/bullalaw05.MerkleComplete", spec := "merkleComplete", inPlace := ["maps.clone"], unfollowed := true, recurses := true, apart := false }
def MerkleCompleteSaid : Prop := merkleCompleteRow.holds Try.pinned (OpenSpec.ofChange merkleCompleteSpec)

/-- ITS FALSE NEIGHBOUR: 'it returns false'. Refute it at one input. -/
def merkleCompleteWrong : ChangeSpec := { name := "merkleComplete", fn := fun _ => fun
  | [d1, d2] => { results := [.lit (.bool false)], args := [d1, d2] }
  | _ => none }
def MerkleCompleteWrongFalsely : Prop := merkleCompleteRow.holds Try.pinned (OpenSpec.ofChange merkleCompleteWrong)

/-- 'bullalaw05.MerkleSound': WHATEVER THE INPUT: true; the input reads as it did. -/
def merkleSoundSpec : ChangeSpec := { name := "merkleSound", fn := fun _ => fun
  | [d1, d2, d3] => { results := [.lit (.bool true)], args := [d1, d2, d3] }
  | _ => none }
def merkleSoundRow : OpenClaim := { program := "ytepdajhgfdjklaa", sum := "0814ca1e2659a831665dfdec21c6f9df3293674871a9aa5592ae4e526bef301b", func := "bulla/bullalaw05.MerkleSound", spec := "merkleSound", inPlace := ["maps.clone"], unfollowed := true, recurses := true, apart := false }
def MerkleSoundSaid : Prop := merkleSoundRow.holds Try.pinned (OpenSpec.ofChange merkleSoundSpec)

/-- ITS FALSE NEIGHBOUR: 'it returns false'. Refute it at one input. -/
def merkleSoundWrong : ChangeSpec := { name := "merkleSound", fn := fun _ => fun
  | [d1, d2, d3] => { results := [.lit (.bool false)], args := [d1, d2, d3] }
  | _ => none }
def MerkleSoundWrongFalsely : Prop := merkleSoundRow.holds Try.pinned (OpenSpec.ofChange merkleSoundWrong)

/-- 'bullalaw05.MerkleApart': WHATEVER THE INPUT: true; the input reads as it did. -/
def merkleApartSpec : ChangeSpec := { name := "merkleApart", fn := fun _ => fun
  | [d1, d2] => { results := [.lit (.bool true)], args := [d1, d2] }
  | _ => none }
def merkleApartRow : OpenClaim := { program := "ytepdajhgfdjklaa", sum := "0814ca1e2659a831665dfdec21c6f9df3293674871a9aa5592ae4e526bef301b", func := "bulla/bullalaw05.MerkleApart", spec := "merkleApart", inPlace := ["maps.clone"], unfollowed := true, recurses := true, apart := false }
def MerkleApartSaid : Prop := merkleApartRow.holds Try.pinned (OpenSpec.ofChange merkleApartSpec)

/-- ITS FALSE NEIGHBOUR: 'it returns false'. Refute it at one input. -/
def merkleApartWrong : ChangeSpec := { name := "merkleApart", fn := fun _ => fun
  | [d1, d2] => { results := [.lit (.bool false)], args := [d1, d2] }
  | _ => none }
def MerkleApartWrongFalsely : Prop := merkleApartRow.holds Try.pinned (OpenSpec.ofChange merkleApartWrong)

/-- 'bullalaw05.MerkleNone': WHATEVER THE INPUT: true; the input reads as it did. -/
def merkleNoneSpec : ChangeSpec := { name := "merkleNone", fn := fun _ => fun
  | [d1, d2] => { results := [.lit (.bool true)], args := [d1, d2] }
  | _ => none }
def merkleNoneRow : OpenClaim := { program := "ytepdajhgfdjklaa", sum := "0814ca1e2659a831665dfdec21c6f9df3293674871a9aa5592ae4e526bef301b", func := "bulla/bullalaw05.MerkleNone", spec := "merkleNone", inPlace := ["maps.clone"], unfollowed := true, recurses := true, apart := false }
def MerkleNoneSaid : Prop := merkleNoneRow.holds Try.pinned (OpenSpec.ofChange merkleNoneSpec)

/-- ITS FALSE NEIGHBOUR: 'it returns false'. Refute it at one input. -/
def merkleNoneWrong : ChangeSpec := { name := "merkleNone", fn := fun _ => fun
  | [d1, d2] => { results := [.lit (.bool false)], args := [d1, d2] }
  | _ => none }
def MerkleNoneWrongFalsely : Prop := merkleNoneRow.holds Try.pinned (OpenSpec.ofChange merkleNoneWrong)

/- THE SECOND FORM. 'bulk': how many values and letters a reading holds, each counted each time it is reached (what is shared counts as often as it is met; a slice's spare places count too). A statement '..UptoSaid' is the law's where the arguments, and the package variables that the reading takes, are together of bulk at most 1048576: NARROWER than '..Said'. Prove '..Said' where nothing that the law and all that it calls make is longer than what came in: it says more and counts as full. Else prove '..UptoSaid'. A law counts once. -/
mutual
def uptoBulk {H : Type} : DataW H → Nat
  | .lit (.string bytes) => bytes.length + 1
  | .lit _ => 1
  | .nil => 1
  | .ptr d => uptoBulk d + 1
  | .slice elems spare => uptoBulkAll elems + uptoBulkAll spare + 1
  | .agg parts => uptoBulkAll parts + 1
  | .iface _ d => uptoBulk d + 1
  | .map entries => uptoBulkEntries entries + 1
  | .held _ => 1
def uptoBulkAll {H : Type} : List (DataW H) → Nat
  | [] => 0
  | d :: r => uptoBulk d + uptoBulkAll r
def uptoBulkEntries {H : Type} : List (Lit × DataW H) → Nat
  | [] => 0
  | x :: r => uptoBulkEntry x + uptoBulkEntries r
def uptoBulkEntry {H : Type} : Lit × DataW H → Nat
  | (.string bytes, d) => bytes.length + uptoBulk d + 1
  | (_, d) => uptoBulk d + 1
 end
def uptoSmall : (H : Type) → List (DataW H) → Bool := fun _ ds => decide (uptoBulkAll ds ≤ 1048576)
def OpenSpec.upto (s : _root_.Go.ChangeSpec) : _root_.Go.OpenSpec := { _root_.Go.OpenSpec.ofChange s with cond := some uptoSmall }

/-- 'bullalaw05.MerkleRoots', WHERE WHAT IT READS IS OF BULK AT MOST 1048576: true; the input reads as it did. -/
def merkleRootsUptoRow : OpenClaim := { program := "ytepdajhgfdjklaa", sum := "0814ca1e2659a831665dfdec21c6f9df3293674871a9aa5592ae4e526bef301b", func := "bulla/bullalaw05.MerkleRoots", spec := "merkleRoots", inPlace := ["maps.clone"], unfollowed := true, recurses := true, apart := false, narrowed := true }
def MerkleRootsUptoSaid : Prop := merkleRootsUptoRow.holds Try.pinned (OpenSpec.upto merkleRootsSpec)

/-- 'bullalaw05.MerkleParts', WHERE WHAT IT READS IS OF BULK AT MOST 1048576: true; the input reads as it did. -/
def merklePartsUptoRow : OpenClaim := { program := "ytepdajhgfdjklaa", sum := "0814ca1e2659a831665dfdec21c6f9df3293674871a9aa5592ae4e526bef301b", func := "bulla/bullalaw05.MerkleParts", spec := "merkleParts", inPlace := ["maps.clone"], unfollowed := true, recurses := true, apart := false, narrowed := true }
def MerklePartsUptoSaid : Prop := merklePartsUptoRow.holds Try.pinned (OpenSpec.upto merklePartsSpec)

/-- 'bullalaw05.MerkleVerifies', WHERE WHAT IT READS IS OF BULK AT MOST 1048576: true; the input reads as it did. -/
def merkleVerifiesUptoRow : OpenClaim := { program := "ytepdajhgfdjklaa", sum := "0814ca1e2659a831665dfdec21c6f9df3293674871a9aa5592ae4e526bef301b", func := "bulla/bullalaw05.MerkleVerifies", spec := "merkleVerifies", inPlace := ["maps.clone"], unfollowed := true, recurses := true, apart := false, narrowed := true }
def MerkleVerifiesUptoSaid : Prop := merkleVerifiesUptoRow.holds Try.pinned (OpenSpec.upto merkleVerifiesSpec)

/-- 'bullalaw05.MerkleComplete', WHERE WHAT IT READS IS OF BULK AT MOST 1048576: true; the input reads as it did. -/
def merkleCompleteUptoRow : OpenClaim := { program := "ytepdajhgfdjklaa", sum := "0814ca1e2659a831665dfdec21c6f9df3293674871a9aa5592ae4e526bef301b", func := "bulla/bullalaw05.MerkleComplete", spec := "merkleComplete", inPlace := ["maps.clone"], unfollowed := true, recurses := true, apart := false, narrowed := true }
def MerkleCompleteUptoSaid : Prop := merkleCompleteUptoRow.holds Try.pinned (OpenSpec.upto merkleCompleteSpec)

/-- 'bullalaw05.MerkleSound', WHERE WHAT IT READS IS OF BULK AT MOST 1048576: true; the input reads as it did. -/
def merkleSoundUptoRow : OpenClaim := { program := "ytepdajhgfdjklaa", sum := "0814ca1e2659a831665dfdec21c6f9df3293674871a9aa5592ae4e526bef301b", func := "bulla/bullalaw05.MerkleSound", spec := "merkleSound", inPlace := ["maps.clone"], unfollowed := true, recurses := true, apart := false, narrowed := true }
def MerkleSoundUptoSaid : Prop := merkleSoundUptoRow.holds Try.pinned (OpenSpec.upto merkleSoundSpec)

/-- 'bullalaw05.MerkleApart', WHERE WHAT IT READS IS OF BULK AT MOST 1048576: true; the input reads as it did. -/
def merkleApartUptoRow : OpenClaim := { program := "ytepdajhgfdjklaa", sum := "0814ca1e2659a831665dfdec21c6f9df3293674871a9aa5592ae4e526bef301b", func := "bulla/bullalaw05.MerkleApart", spec := "merkleApart", inPlace := ["maps.clone"], unfollowed := true, recurses := true, apart := false, narrowed := true }
def MerkleApartUptoSaid : Prop := merkleApartUptoRow.holds Try.pinned (OpenSpec.upto merkleApartSpec)

/-- 'bullalaw05.MerkleNone', WHERE WHAT IT READS IS OF BULK AT MOST 1048576: true; the input reads as it did. -/
def merkleNoneUptoRow : OpenClaim := { program := "ytepdajhgfdjklaa", sum := "0814ca1e2659a831665dfdec21c6f9df3293674871a9aa5592ae4e526bef301b", func := "bulla/bullalaw05.MerkleNone", spec := "merkleNone", inPlace := ["maps.clone"], unfollowed := true, recurses := true, apart := false, narrowed := true }
def MerkleNoneUptoSaid : Prop := merkleNoneUptoRow.holds Try.pinned (OpenSpec.upto merkleNoneSpec)

end Rows
end Go.Proofs.Ytepdajhgfdjklaa
