/-
  No cell of these rows narrows 'for every input' (looked for: loops, veiled, ifaces, maps, wideKeys, modest, calm, conditions, laid).
  DERIVED. THE GIVEN ROWS OF THIS SEAT. 5 by the template 'for every input the law returns true; each argument reads behind the call as it read before'; 0 by the template 'total and deterministic' (their statements: YtnhppmdhhmekdaaTotals.lean).
  GIVEN WITH THE SEED: the statements are not yours to turn. If you find one false, say at which input.
  Laid BY PROGRAM, IN A SANDBOX (cutbox-rows.mjs): the forced cells as the released guide's own fill.sh prints them over the translation a6b755a89446875c… (all of the seat's roots in one cut). By AI agents, Wed Nov 11 2026. No macro, syntax, notation, axiom, sorry.
-/
import Derived.Test.YtnhppmdhhmekdaaChecked
import GoSem.Claim
import GoSem.ClaimJoined
import GoSem.ClaimMapViews
import Derived.JoinedTies
import Derived.KernelRfl
namespace Go.Proofs.Ytnhppmdhhmekdaa
/- THE CELL 'sum', in the pinned program and in every row, IS THE sha256 OF THE DUMP (.gsa) THAT YtnhppmdhhmekdaaProg.lean LOADS. Nothing in Lean hashes anything: it is a label: what it is worth is what the hold of that sum in a sandbox is worth. -/
noncomputable def Try.pinned : Pinned := { name := "ytnhppmdhhmekdaa", sum := "a6b755a89446875c261d9a3e395b29fddae6f917395588898f96759ad5d378bf", checked := Try.checked }
namespace Rows
def none {H : Type} : Left H := { results := [], args := [] }

/-- 'bullalaw02.IdealSums': WHATEVER THE INPUT: true; the input reads as it did. -/
def idealSumsSpec : ChangeSpec := { name := "idealSums", fn := fun _ => fun
  | [d1, d2, d3] => { results := [.lit (.bool true)], args := [d1, d2, d3] }
  | _ => none }
def idealSumsRow : OpenClaim := { program := "ytnhppmdhhmekdaa", sum := "a6b755a89446875c261d9a3e395b29fddae6f917395588898f96759ad5d378bf", func := "bulla/bullalaw02.IdealSums", spec := "idealSums", inPlace := ["maps.clone"], plainKeys := false, apart := false }
def IdealSumsSaid : Prop := idealSumsRow.holds Try.pinned (OpenSpec.ofChange idealSumsSpec)

/-- ITS FALSE NEIGHBOUR: 'it returns false'. Refute it at one input. -/
def idealSumsWrong : ChangeSpec := { name := "idealSums", fn := fun _ => fun
  | [d1, d2, d3] => { results := [.lit (.bool false)], args := [d1, d2, d3] }
  | _ => none }
def IdealSumsWrongFalsely : Prop := idealSumsRow.holds Try.pinned (OpenSpec.ofChange idealSumsWrong)

/-- 'bullalaw02.IdealFrom': WHATEVER THE INPUT: true; the input reads as it did. -/
def idealFromSpec : ChangeSpec := { name := "idealFrom", fn := fun _ => fun
  | [d1, d2] => { results := [.lit (.bool true)], args := [d1, d2] }
  | _ => none }
def idealFromRow : OpenClaim := { program := "ytnhppmdhhmekdaa", sum := "a6b755a89446875c261d9a3e395b29fddae6f917395588898f96759ad5d378bf", func := "bulla/bullalaw02.IdealFrom", spec := "idealFrom", plainKeys := false, apart := false }
def IdealFromSaid : Prop := idealFromRow.holds Try.pinned (OpenSpec.ofChange idealFromSpec)

/-- ITS FALSE NEIGHBOUR: 'it returns false'. Refute it at one input. -/
def idealFromWrong : ChangeSpec := { name := "idealFrom", fn := fun _ => fun
  | [d1, d2] => { results := [.lit (.bool false)], args := [d1, d2] }
  | _ => none }
def IdealFromWrongFalsely : Prop := idealFromRow.holds Try.pinned (OpenSpec.ofChange idealFromWrong)

/-- 'bullalaw02.IdealSigns': WHATEVER THE INPUT: true; the input reads as it did. -/
def idealSignsSpec : ChangeSpec := { name := "idealSigns", fn := fun _ => fun
  | [d1, d2] => { results := [.lit (.bool true)], args := [d1, d2] }
  | _ => none }
def idealSignsRow : OpenClaim := { program := "ytnhppmdhhmekdaa", sum := "a6b755a89446875c261d9a3e395b29fddae6f917395588898f96759ad5d378bf", func := "bulla/bullalaw02.IdealSigns", spec := "idealSigns", inPlace := ["maps.clone"], plainKeys := false, apart := false }
def IdealSignsSaid : Prop := idealSignsRow.holds Try.pinned (OpenSpec.ofChange idealSignsSpec)

/-- ITS FALSE NEIGHBOUR: 'it returns false'. Refute it at one input. -/
def idealSignsWrong : ChangeSpec := { name := "idealSigns", fn := fun _ => fun
  | [d1, d2] => { results := [.lit (.bool false)], args := [d1, d2] }
  | _ => none }
def IdealSignsWrongFalsely : Prop := idealSignsRow.holds Try.pinned (OpenSpec.ofChange idealSignsWrong)

/-- 'bullalaw02.IdealNobody': WHATEVER THE INPUT: true; the input reads as it did. -/
def idealNobodySpec : ChangeSpec := { name := "idealNobody", fn := fun _ => fun
  | [d1, d2] => { results := [.lit (.bool true)], args := [d1, d2] }
  | _ => none }
def idealNobodyRow : OpenClaim := { program := "ytnhppmdhhmekdaa", sum := "a6b755a89446875c261d9a3e395b29fddae6f917395588898f96759ad5d378bf", func := "bulla/bullalaw02.IdealNobody", spec := "idealNobody", plainKeys := false, apart := false }
def IdealNobodySaid : Prop := idealNobodyRow.holds Try.pinned (OpenSpec.ofChange idealNobodySpec)

/-- ITS FALSE NEIGHBOUR: 'it returns false'. Refute it at one input. -/
def idealNobodyWrong : ChangeSpec := { name := "idealNobody", fn := fun _ => fun
  | [d1, d2] => { results := [.lit (.bool false)], args := [d1, d2] }
  | _ => none }
def IdealNobodyWrongFalsely : Prop := idealNobodyRow.holds Try.pinned (OpenSpec.ofChange idealNobodyWrong)

/-- 'bullalaw02.IdealNone': WHATEVER THE INPUT: true; the input reads as it did. -/
def idealNoneSpec : ChangeSpec := { name := "idealNone", fn := fun _ => fun
  | [d1, d2] => { results := [.lit (.bool true)], args := [d1, d2] }
  | _ => none }
def idealNoneRow : OpenClaim := { program := "ytnhppmdhhmekdaa", sum := "a6b755a89446875c261d9a3e395b29fddae6f917395588898f96759ad5d378bf", func := "bulla/bullalaw02.IdealNone", spec := "idealNone", inPlace := ["maps.clone"], plainKeys := false, apart := false }
def IdealNoneSaid : Prop := idealNoneRow.holds Try.pinned (OpenSpec.ofChange idealNoneSpec)

/-- ITS FALSE NEIGHBOUR: 'it returns false'. Refute it at one input. -/
def idealNoneWrong : ChangeSpec := { name := "idealNone", fn := fun _ => fun
  | [d1, d2] => { results := [.lit (.bool false)], args := [d1, d2] }
  | _ => none }
def IdealNoneWrongFalsely : Prop := idealNoneRow.holds Try.pinned (OpenSpec.ofChange idealNoneWrong)

/- THE SECOND FORM. 'bulk': how many values and letters a reading holds, each counted each time it is reached (what is shared counts as often as it is met; a slice's spare places count too). A statement '..UptoSaid' is the law's where the arguments, and the package variables that the reading takes, are together of bulk at most 1048576: NARROWER than '..Said'. Prove '..Said' where nothing that the law and all that it calls make is longer than what came in: it says more and counts as full. Else prove '..UptoSaid'. A law counts once. -/
mutual
def uptoBulk {H : Type} : DataW H → Nat
  | .lit (.string bytes) => bytes.length + 1
  | .lit _ => 1
  | .nil => 1
  | .ptr d => uptoBulk d + 1
  | .slice elems spare => uptoBulkAll elems + uptoBulkAll spare + 1
  | .agg parts => uptoBulkAll parts + 1
  | .iface _ d => uptoBulk d + 1
  | .map entries => uptoBulkEntries entries + 1
  | .held _ => 1
def uptoBulkAll {H : Type} : List (DataW H) → Nat
  | [] => 0
  | d :: r => uptoBulk d + uptoBulkAll r
def uptoBulkEntries {H : Type} : List (Lit × DataW H) → Nat
  | [] => 0
  | x :: r => uptoBulkEntry x + uptoBulkEntries r
def uptoBulkEntry {H : Type} : Lit × DataW H → Nat
  | (.string bytes, d) => bytes.length + uptoBulk d + 1
  | (_, d) => uptoBulk d + 1
 end
def uptoSmall : (H : Type) → List (DataW H) → Bool := fun _ ds => decide (uptoBulkAll ds ≤ 1048576)
def OpenSpec.upto (s : _root_.Go.ChangeSpec) : _root_.Go.OpenSpec := { _root_.Go.OpenSpec.ofChange s with cond := some uptoSmall }

/-- 'bullalaw02.IdealSums', WHERE WHAT IT READS IS OF BULK AT MOST 1048576: true; the input reads as it did. -/
def idealSumsUptoRow : OpenClaim := { program := "ytnhppmdhhmekdaa", sum := "a6b755a89446875c261d9a3e395b29fddae6f917395588898f96759ad5d378bf", func := "bulla/bullalaw02.IdealSums", spec := "idealSums", inPlace := ["maps.clone"], plainKeys := false, apart := false, narrowed := true }
def IdealSumsUptoSaid : Prop := idealSumsUptoRow.holds Try.pinned (OpenSpec.upto idealSumsSpec)

/-- 'bullalaw02.IdealFrom', WHERE WHAT IT READS IS OF BULK AT MOST 1048576: true; the input reads as it did. -/
def idealFromUptoRow : OpenClaim := { program := "ytnhppmdhhmekdaa", sum := "a6b755a89446875c261d9a3e395b29fddae6f917395588898f96759ad5d378bf", func := "bulla/bullalaw02.IdealFrom", spec := "idealFrom", plainKeys := false, apart := false, narrowed := true }
def IdealFromUptoSaid : Prop := idealFromUptoRow.holds Try.pinned (OpenSpec.upto idealFromSpec)

/-- 'bullalaw02.IdealSigns', WHERE WHAT IT READS IS OF BULK AT MOST 1048576: true; the input reads as it did. -/
def idealSignsUptoRow : OpenClaim := { program := "ytnhppmdhhmekdaa", sum := "a6b755a89446875c261d9a3e395b29fddae6f917395588898f96759ad5d378bf", func := "bulla/bullalaw02.IdealSigns", spec := "idealSigns", inPlace := ["maps.clone"], plainKeys := false, apart := false, narrowed := true }
def IdealSignsUptoSaid : Prop := idealSignsUptoRow.holds Try.pinned (OpenSpec.upto idealSignsSpec)

/-- 'bullalaw02.IdealNobody', WHERE WHAT IT READS IS OF BULK AT MOST 1048576: true; the input reads as it did. -/
def idealNobodyUptoRow : OpenClaim := { program := "ytnhppmdhhmekdaa", sum := "a6b755a89446875c261d9a3e395b29fddae6f917395588898f96759ad5d378bf", func := "bulla/bullalaw02.IdealNobody", spec := "idealNobody", plainKeys := false, apart := false, narrowed := true }
def IdealNobodyUptoSaid : Prop := idealNobodyUptoRow.holds Try.pinned (OpenSpec.upto idealNobodySpec)

/-- 'bullalaw02.IdealNone', WHERE WHAT IT READS IS OF BULK AT MOST 1048576: true; the input reads as it did. -/
def idealNoneUptoRow : OpenClaim := { program := "ytnhppmdhhmekdaa", sum := "a6b755a89446875c261d9a3e395b29fddae6f917395588898f96759ad5d378bf", func := "bulla/bullalaw02.IdealNone", spec := "idealNone", inPlace := ["maps.clone"], plainKeys := false, apart := false, narrowed := true }
def IdealNoneUptoSaid : Prop := idealNoneUptoRow.holds Try.pinned (OpenSpec.upto idealNoneSpec)

end Rows
end Go.Proofs.Ytnhppmdhhmekdaa
