/-
  No cell of these rows narrows 'for every input' (looked for: loops, veiled, ifaces, maps, wideKeys, modest, calm, conditions, laid).
  DERIVED. THE GIVEN ROWS OF THIS SEAT. 2 by the template 'for every input the law returns true; each argument reads behind the call as it read before'; 0 by the template 'total and deterministic' (their statements: YtcmknopgoiabbaaTotals.lean).
  GIVEN WITH THE SEED: the statements are not yours to turn. If you find one false, say at which input.
  Laid BY PROGRAM, IN A SANDBOX (cutbox-rows.mjs): the forced cells as the released guide's own fill.sh prints them over the translation a1ec688d7f9841c9… (all of the seat's roots in one cut). By AI agents, Wed Nov 11 2026. No macro, syntax, notation, axiom, sorry.
-/
import Derived.Test.YtcmknopgoiabbaaChecked
import GoSem.Claim
import GoSem.ClaimJoined
import GoSem.ClaimMapViews
import Derived.JoinedTies
import Derived.KernelRfl
namespace Go.Proofs.Ytcmknopgoiabbaa
/- THE CELL 'sum', in the pinned program and in every row, IS THE sha256 OF THE DUMP (.gsa) THAT YtcmknopgoiabbaaProg.lean LOADS. Nothing in Lean hashes anything: it is a label: what it is worth is what the hold of that sum in a sandbox is worth. -/
noncomputable def Try.pinned : Pinned := { name := "ytcmknopgoiabbaa", sum := "a1ec688d7f9841c9b1469fac8c94c2e77b3c642e294f14757c2b51e5b8a107ab", checked := Try.checked }
namespace Rows
def none {H : Type} : Left H := { results := [], args := [] }

/-- 'bullalaw07.TopicsOnce': WHATEVER THE INPUT: true; the input reads as it did. -/
def topicsOnceSpec : ChangeSpec := { name := "topicsOnce", fn := fun _ => fun
  | [d] => { results := [.lit (.bool true)], args := [d] }
  | _ => none }
def topicsOnceRow : OpenClaim := { program := "ytcmknopgoiabbaa", sum := "a1ec688d7f9841c9b1469fac8c94c2e77b3c642e294f14757c2b51e5b8a107ab", func := "bulla/bullalaw07.TopicsOnce", spec := "topicsOnce", unfollowed := true, recurses := true, plainKeys := false, apart := false }
def TopicsOnceSaid : Prop := topicsOnceRow.holds Try.pinned (OpenSpec.ofChange topicsOnceSpec)

/-- ITS FALSE NEIGHBOUR: 'it returns false'. Refute it at one input. -/
def topicsOnceWrong : ChangeSpec := { name := "topicsOnce", fn := fun _ => fun
  | [d] => { results := [.lit (.bool false)], args := [d] }
  | _ => none }
def TopicsOnceWrongFalsely : Prop := topicsOnceRow.holds Try.pinned (OpenSpec.ofChange topicsOnceWrong)

/-- 'bullalaw07.TopicsStays': WHATEVER THE INPUT: true; the input reads as it did. -/
def topicsStaysSpec : ChangeSpec := { name := "topicsStays", fn := fun _ => fun
  | [d] => { results := [.lit (.bool true)], args := [d] }
  | _ => none }
def topicsStaysRow : OpenClaim := { program := "ytcmknopgoiabbaa", sum := "a1ec688d7f9841c9b1469fac8c94c2e77b3c642e294f14757c2b51e5b8a107ab", func := "bulla/bullalaw07.TopicsStays", spec := "topicsStays", unfollowed := true, recurses := true, plainKeys := false, apart := false }
def TopicsStaysSaid : Prop := topicsStaysRow.holds Try.pinned (OpenSpec.ofChange topicsStaysSpec)

/-- ITS FALSE NEIGHBOUR: 'it returns false'. Refute it at one input. -/
def topicsStaysWrong : ChangeSpec := { name := "topicsStays", fn := fun _ => fun
  | [d] => { results := [.lit (.bool false)], args := [d] }
  | _ => none }
def TopicsStaysWrongFalsely : Prop := topicsStaysRow.holds Try.pinned (OpenSpec.ofChange topicsStaysWrong)

/- THE SECOND FORM. 'bulk': how many values and letters a reading holds, each counted each time it is reached (what is shared counts as often as it is met; a slice's spare places count too). A statement '..UptoSaid' is the law's where the arguments, and the package variables that the reading takes, are together of bulk at most 1048576: NARROWER than '..Said'. Prove '..Said' where nothing that the law and all that it calls make is longer than what came in: it says more and counts as full. Else prove '..UptoSaid'. A law counts once. -/
mutual
def uptoBulk {H : Type} : DataW H → Nat
  | .lit (.string bytes) => bytes.length + 1
  | .lit _ => 1
  | .nil => 1
  | .ptr d => uptoBulk d + 1
  | .slice elems spare => uptoBulkAll elems + uptoBulkAll spare + 1
  | .agg parts => uptoBulkAll parts + 1
  | .iface _ d => uptoBulk d + 1
  | .map entries => uptoBulkEntries entries + 1
  | .held _ => 1
def uptoBulkAll {H : Type} : List (DataW H) → Nat
  | [] => 0
  | d :: r => uptoBulk d + uptoBulkAll r
def uptoBulkEntries {H : Type} : List (Lit × DataW H) → Nat
  | [] => 0
  | x :: r => uptoBulkEntry x + uptoBulkEntries r
def uptoBulkEntry {H : Type} : Lit × DataW H → Nat
  | (.string bytes, d) => bytes.length + uptoBulk d + 1
  | (_, d) => uptoBulk d + 1
 end
def uptoSmall : (H : Type) → List (DataW H) → Bool := fun _ ds => decide (uptoBulkAll ds ≤ 1048576)
def OpenSpec.upto (s : _root_.Go.ChangeSpec) : _root_.Go.OpenSpec := { _root_.Go.OpenSpec.ofChange s with cond := some uptoSmall }

/-- 'bullalaw07.TopicsOnce', WHERE WHAT IT READS IS OF BULK AT MOST 1048576: true; the input reads as it did. -/
def topicsOnceUptoRow : OpenClaim := { program := "ytcmknopgoiabbaa", sum := "a1ec688d7f9841c9b1469fac8c94c2e77b3c642e294f14757c2b51e5b8a107ab", func := "bulla/bullalaw07.TopicsOnce", spec := "topicsOnce", unfollowed := true, recurses := true, plainKeys := false, apart := false, narrowed := true }
def TopicsOnceUptoSaid : Prop := topicsOnceUptoRow.holds Try.pinned (OpenSpec.upto topicsOnceSpec)

/-- 'bullalaw07.TopicsStays', WHERE WHAT IT READS IS OF BULK AT MOST 1048576: true; the input reads as it did. -/
def topicsStaysUptoRow : OpenClaim := { program := "ytcmknopgoiabbaa", sum := "a1ec688d7f9841c9b1469fac8c94c2e77b3c642e294f14757c2b51e5b8a107ab", func := "bulla/bullalaw07.TopicsStays", spec := "topicsStays", unfollowed := true, recurses := true, plainKeys := false, apart := false, narrowed := true }
def TopicsStaysUptoSaid : Prop := topicsStaysUptoRow.holds Try.pinned (OpenSpec.upto topicsStaysSpec)

end Rows
end Go.Proofs.Ytcmknopgoiabbaa
