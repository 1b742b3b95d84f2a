/-
  No cell of these rows narrows 'for every input' (looked for: loops, veiled, ifaces, maps, wideKeys, modest, calm, conditions, laid).
  DERIVED. THE GIVEN ROWS OF THIS SEAT. 14 by the template 'for every input the law returns true; each argument reads behind the call as it read before'; 0 by the template 'total and deterministic' (their statements: YtpdkgnfblnblbaaTotals.lean).
  GIVEN WITH THE SEED: the statements are not yours to turn. If you find one false, say at which input.
  Laid BY PROGRAM, IN A SANDBOX (cutbox-rows.mjs): the forced cells as the released guide's own fill.sh prints them over the translation f7667fdcf7cf11f9… (all of the seat's roots in one cut). By AI agents, Wed Nov 11 2026. No macro, syntax, notation, axiom, sorry.
-/
import Derived.Test.YtpdkgnfblnblbaaChecked
import GoSem.Claim
import GoSem.ClaimJoined
import GoSem.ClaimMapViews
import Derived.JoinedTies
import Derived.KernelRfl
namespace Go.Proofs.Ytpdkgnfblnblbaa
/- THE CELL 'sum', in the pinned program and in every row, IS THE sha256 OF THE DUMP (.gsa) THAT YtpdkgnfblnblbaaProg.lean LOADS. Nothing in Lean hashes anything: it is a label: what it is worth is what the hold of that sum in a sandbox is worth. -/
noncomputable def Try.pinned : Pinned := { name := "ytpdkgnfblnblbaa", sum := "f7667fdcf7cf11f9169776cd63c71b4bf6eb4e813d7f7684a6a1d824147c9aaf", checked := Try.checked }
namespace Rows
def none {H : Type} : Left H := { results := [], args := [] }

/-- 'tensilelaw08.RoundExplains': WHATEVER THE INPUT: true; the input reads as it did. -/
def roundExplainsSpec : ChangeSpec := { name := "roundExplains", fn := fun _ => fun
  | [d1, d2] => { results := [.lit (.bool true)], args := [d1, d2] }
  | _ => none }
def roundExplainsRow : OpenClaim := { program := "ytpdkgnfblnblbaa", sum := "f7667fdcf7cf11f9169776cd63c71b4bf6eb4e813d7f7684a6a1d824147c9aaf", func := "tensile/tensilelaw08.RoundExplains", spec := "roundExplains", unfollowed := true, recurses := true, plainKeys := false, apart := false }
def RoundExplainsSaid : Prop := roundExplainsRow.holds Try.pinned (OpenSpec.ofChange roundExplainsSpec)

/-- ITS FALSE NEIGHBOUR: 'it returns false'. Refute it at one input. -/
def roundExplainsWrong : ChangeSpec := { name := "roundExplains", fn := fun _ => fun
  | [d1, d2] => { results := [.lit (.bool false)], args := [d1, d2] }
  | _ => none }
def RoundExplainsWrongFalsely : Prop := roundExplainsRow.holds Try.pinned (OpenSpec.ofChange roundExplainsWrong)

/-- 'tensilelaw08.RoundSpans': WHATEVER THE INPUT: true; the input reads as it did. -/
def roundSpansSpec : ChangeSpec := { name := "roundSpans", fn := fun _ => fun
  | [d1, d2] => { results := [.lit (.bool true)], args := [d1, d2] }
  | _ => none }
def roundSpansRow : OpenClaim := { program := "ytpdkgnfblnblbaa", sum := "f7667fdcf7cf11f9169776cd63c71b4bf6eb4e813d7f7684a6a1d824147c9aaf", func := "tensile/tensilelaw08.RoundSpans", spec := "roundSpans", unfollowed := true, recurses := true, plainKeys := false, apart := false }
def RoundSpansSaid : Prop := roundSpansRow.holds Try.pinned (OpenSpec.ofChange roundSpansSpec)

/-- ITS FALSE NEIGHBOUR: 'it returns false'. Refute it at one input. -/
def roundSpansWrong : ChangeSpec := { name := "roundSpans", fn := fun _ => fun
  | [d1, d2] => { results := [.lit (.bool false)], args := [d1, d2] }
  | _ => none }
def RoundSpansWrongFalsely : Prop := roundSpansRow.holds Try.pinned (OpenSpec.ofChange roundSpansWrong)

/-- 'tensilelaw08.RoundLeasts': WHATEVER THE INPUT: true; the input reads as it did. -/
def roundLeastsSpec : ChangeSpec := { name := "roundLeasts", fn := fun _ => fun
  | [d] => { results := [.lit (.bool true)], args := [d] }
  | _ => none }
def roundLeastsRow : OpenClaim := { program := "ytpdkgnfblnblbaa", sum := "f7667fdcf7cf11f9169776cd63c71b4bf6eb4e813d7f7684a6a1d824147c9aaf", func := "tensile/tensilelaw08.RoundLeasts", spec := "roundLeasts", unfollowed := true, recurses := true, plainKeys := false, apart := false }
def RoundLeastsSaid : Prop := roundLeastsRow.holds Try.pinned (OpenSpec.ofChange roundLeastsSpec)

/-- ITS FALSE NEIGHBOUR: 'it returns false'. Refute it at one input. -/
def roundLeastsWrong : ChangeSpec := { name := "roundLeasts", fn := fun _ => fun
  | [d] => { results := [.lit (.bool false)], args := [d] }
  | _ => none }
def RoundLeastsWrongFalsely : Prop := roundLeastsRow.holds Try.pinned (OpenSpec.ofChange roundLeastsWrong)

/-- 'tensilelaw08.RoundConvicts': WHATEVER THE INPUT: true; the input reads as it did. -/
def roundConvictsSpec : ChangeSpec := { name := "roundConvicts", fn := fun _ => fun
  | [d] => { results := [.lit (.bool true)], args := [d] }
  | _ => none }
def roundConvictsRow : OpenClaim := { program := "ytpdkgnfblnblbaa", sum := "f7667fdcf7cf11f9169776cd63c71b4bf6eb4e813d7f7684a6a1d824147c9aaf", func := "tensile/tensilelaw08.RoundConvicts", spec := "roundConvicts", unfollowed := true, recurses := true, plainKeys := false, apart := false }
def RoundConvictsSaid : Prop := roundConvictsRow.holds Try.pinned (OpenSpec.ofChange roundConvictsSpec)

/-- ITS FALSE NEIGHBOUR: 'it returns false'. Refute it at one input. -/
def roundConvictsWrong : ChangeSpec := { name := "roundConvicts", fn := fun _ => fun
  | [d] => { results := [.lit (.bool false)], args := [d] }
  | _ => none }
def RoundConvictsWrongFalsely : Prop := roundConvictsRow.holds Try.pinned (OpenSpec.ofChange roundConvictsWrong)

/-- 'tensilelaw08.RoundShifts': WHATEVER THE INPUT: true; the input reads as it did. -/
def roundShiftsSpec : ChangeSpec := { name := "roundShifts", fn := fun _ => fun
  | [d1, d2, d3] => { results := [.lit (.bool true)], args := [d1, d2, d3] }
  | _ => none }
def roundShiftsRow : OpenClaim := { program := "ytpdkgnfblnblbaa", sum := "f7667fdcf7cf11f9169776cd63c71b4bf6eb4e813d7f7684a6a1d824147c9aaf", func := "tensile/tensilelaw08.RoundShifts", spec := "roundShifts", unfollowed := true, recurses := true, plainKeys := false, apart := false }
def RoundShiftsSaid : Prop := roundShiftsRow.holds Try.pinned (OpenSpec.ofChange roundShiftsSpec)

/-- ITS FALSE NEIGHBOUR: 'it returns false'. Refute it at one input. -/
def roundShiftsWrong : ChangeSpec := { name := "roundShifts", fn := fun _ => fun
  | [d1, d2, d3] => { results := [.lit (.bool false)], args := [d1, d2, d3] }
  | _ => none }
def RoundShiftsWrongFalsely : Prop := roundShiftsRow.holds Try.pinned (OpenSpec.ofChange roundShiftsWrong)

/-- 'tensilelaw08.RoundNames': WHATEVER THE INPUT: true; the input reads as it did. -/
def roundNamesSpec : ChangeSpec := { name := "roundNames", fn := fun _ => fun
  | [] => { results := [.lit (.bool true)], args := [] }
  | _ => none }
def roundNamesRow : OpenClaim := { program := "ytpdkgnfblnblbaa", sum := "f7667fdcf7cf11f9169776cd63c71b4bf6eb4e813d7f7684a6a1d824147c9aaf", func := "tensile/tensilelaw08.RoundNames", spec := "roundNames", unfollowed := true, recurses := true, plainKeys := false, apart := false }
def RoundNamesSaid : Prop := roundNamesRow.holds Try.pinned (OpenSpec.ofChange roundNamesSpec)

/-- ITS FALSE NEIGHBOUR: 'it returns false'. Refute it at one input. -/
def roundNamesWrong : ChangeSpec := { name := "roundNames", fn := fun _ => fun
  | [] => { results := [.lit (.bool false)], args := [] }
  | _ => none }
def RoundNamesWrongFalsely : Prop := roundNamesRow.holds Try.pinned (OpenSpec.ofChange roundNamesWrong)

/-- 'tensilelaw08.RoundTruth': WHATEVER THE INPUT: true; the input reads as it did. -/
def roundTruthSpec : ChangeSpec := { name := "roundTruth", fn := fun _ => fun
  | [d1, d2, d3, d4] => { results := [.lit (.bool true)], args := [d1, d2, d3, d4] }
  | _ => none }
def roundTruthRow : OpenClaim := { program := "ytpdkgnfblnblbaa", sum := "f7667fdcf7cf11f9169776cd63c71b4bf6eb4e813d7f7684a6a1d824147c9aaf", func := "tensile/tensilelaw08.RoundTruth", spec := "roundTruth", unfollowed := true, recurses := true, plainKeys := false, apart := false }
def RoundTruthSaid : Prop := roundTruthRow.holds Try.pinned (OpenSpec.ofChange roundTruthSpec)

/-- ITS FALSE NEIGHBOUR: 'it returns false'. Refute it at one input. -/
def roundTruthWrong : ChangeSpec := { name := "roundTruth", fn := fun _ => fun
  | [d1, d2, d3, d4] => { results := [.lit (.bool false)], args := [d1, d2, d3, d4] }
  | _ => none }
def RoundTruthWrongFalsely : Prop := roundTruthRow.holds Try.pinned (OpenSpec.ofChange roundTruthWrong)

/-- 'tensilelaw08.RoundMore': WHATEVER THE INPUT: true; the input reads as it did. -/
def roundMoreSpec : ChangeSpec := { name := "roundMore", fn := fun _ => fun
  | [d1, d2, d3] => { results := [.lit (.bool true)], args := [d1, d2, d3] }
  | _ => none }
def roundMoreRow : OpenClaim := { program := "ytpdkgnfblnblbaa", sum := "f7667fdcf7cf11f9169776cd63c71b4bf6eb4e813d7f7684a6a1d824147c9aaf", func := "tensile/tensilelaw08.RoundMore", spec := "roundMore", unfollowed := true, recurses := true, plainKeys := false, apart := false }
def RoundMoreSaid : Prop := roundMoreRow.holds Try.pinned (OpenSpec.ofChange roundMoreSpec)

/-- ITS FALSE NEIGHBOUR: 'it returns false'. Refute it at one input. -/
def roundMoreWrong : ChangeSpec := { name := "roundMore", fn := fun _ => fun
  | [d1, d2, d3] => { results := [.lit (.bool false)], args := [d1, d2, d3] }
  | _ => none }
def RoundMoreWrongFalsely : Prop := roundMoreRow.holds Try.pinned (OpenSpec.ofChange roundMoreWrong)

/-- 'tensilelaw08.RoundEnds': WHATEVER THE INPUT: true; the input reads as it did. -/
def roundEndsSpec : ChangeSpec := { name := "roundEnds", fn := fun _ => fun
  | [d1, d2, d3, d4] => { results := [.lit (.bool true)], args := [d1, d2, d3, d4] }
  | _ => none }
def roundEndsRow : OpenClaim := { program := "ytpdkgnfblnblbaa", sum := "f7667fdcf7cf11f9169776cd63c71b4bf6eb4e813d7f7684a6a1d824147c9aaf", func := "tensile/tensilelaw08.RoundEnds", spec := "roundEnds", unfollowed := true, recurses := true, plainKeys := false, apart := false }
def RoundEndsSaid : Prop := roundEndsRow.holds Try.pinned (OpenSpec.ofChange roundEndsSpec)

/-- ITS FALSE NEIGHBOUR: 'it returns false'. Refute it at one input. -/
def roundEndsWrong : ChangeSpec := { name := "roundEnds", fn := fun _ => fun
  | [d1, d2, d3, d4] => { results := [.lit (.bool false)], args := [d1, d2, d3, d4] }
  | _ => none }
def RoundEndsWrongFalsely : Prop := roundEndsRow.holds Try.pinned (OpenSpec.ofChange roundEndsWrong)

/-- 'tensilelaw08.RoundKinder': WHATEVER THE INPUT: true; the input reads as it did. -/
def roundKinderSpec : ChangeSpec := { name := "roundKinder", fn := fun _ => fun
  | [d1, d2, d3, d4, d5] => { results := [.lit (.bool true)], args := [d1, d2, d3, d4, d5] }
  | _ => none }
def roundKinderRow : OpenClaim := { program := "ytpdkgnfblnblbaa", sum := "f7667fdcf7cf11f9169776cd63c71b4bf6eb4e813d7f7684a6a1d824147c9aaf", func := "tensile/tensilelaw08.RoundKinder", spec := "roundKinder", unfollowed := true, recurses := true, plainKeys := false, apart := false }
def RoundKinderSaid : Prop := roundKinderRow.holds Try.pinned (OpenSpec.ofChange roundKinderSpec)

/-- ITS FALSE NEIGHBOUR: 'it returns false'. Refute it at one input. -/
def roundKinderWrong : ChangeSpec := { name := "roundKinder", fn := fun _ => fun
  | [d1, d2, d3, d4, d5] => { results := [.lit (.bool false)], args := [d1, d2, d3, d4, d5] }
  | _ => none }
def RoundKinderWrongFalsely : Prop := roundKinderRow.holds Try.pinned (OpenSpec.ofChange roundKinderWrong)

/-- 'tensilelaw08.RoundApart': WHATEVER THE INPUT: true; the input reads as it did. -/
def roundApartSpec : ChangeSpec := { name := "roundApart", fn := fun _ => fun
  | [d1, d2] => { results := [.lit (.bool true)], args := [d1, d2] }
  | _ => none }
def roundApartRow : OpenClaim := { program := "ytpdkgnfblnblbaa", sum := "f7667fdcf7cf11f9169776cd63c71b4bf6eb4e813d7f7684a6a1d824147c9aaf", func := "tensile/tensilelaw08.RoundApart", spec := "roundApart", unfollowed := true, recurses := true, plainKeys := false, apart := false }
def RoundApartSaid : Prop := roundApartRow.holds Try.pinned (OpenSpec.ofChange roundApartSpec)

/-- ITS FALSE NEIGHBOUR: 'it returns false'. Refute it at one input. -/
def roundApartWrong : ChangeSpec := { name := "roundApart", fn := fun _ => fun
  | [d1, d2] => { results := [.lit (.bool false)], args := [d1, d2] }
  | _ => none }
def RoundApartWrongFalsely : Prop := roundApartRow.holds Try.pinned (OpenSpec.ofChange roundApartWrong)

/-- 'tensilelaw08.RoundAlike': WHATEVER THE INPUT: true; the input reads as it did. -/
def roundAlikeSpec : ChangeSpec := { name := "roundAlike", fn := fun _ => fun
  | [d1, d2, d3, d4] => { results := [.lit (.bool true)], args := [d1, d2, d3, d4] }
  | _ => none }
def roundAlikeRow : OpenClaim := { program := "ytpdkgnfblnblbaa", sum := "f7667fdcf7cf11f9169776cd63c71b4bf6eb4e813d7f7684a6a1d824147c9aaf", func := "tensile/tensilelaw08.RoundAlike", spec := "roundAlike", unfollowed := true, recurses := true, plainKeys := false, apart := false }
def RoundAlikeSaid : Prop := roundAlikeRow.holds Try.pinned (OpenSpec.ofChange roundAlikeSpec)

/-- ITS FALSE NEIGHBOUR: 'it returns false'. Refute it at one input. -/
def roundAlikeWrong : ChangeSpec := { name := "roundAlike", fn := fun _ => fun
  | [d1, d2, d3, d4] => { results := [.lit (.bool false)], args := [d1, d2, d3, d4] }
  | _ => none }
def RoundAlikeWrongFalsely : Prop := roundAlikeRow.holds Try.pinned (OpenSpec.ofChange roundAlikeWrong)

/-- 'tensilelaw08.RoundMoved': WHATEVER THE INPUT: true; the input reads as it did. -/
def roundMovedSpec : ChangeSpec := { name := "roundMoved", fn := fun _ => fun
  | [d1, d2, d3, d4] => { results := [.lit (.bool true)], args := [d1, d2, d3, d4] }
  | _ => none }
def roundMovedRow : OpenClaim := { program := "ytpdkgnfblnblbaa", sum := "f7667fdcf7cf11f9169776cd63c71b4bf6eb4e813d7f7684a6a1d824147c9aaf", func := "tensile/tensilelaw08.RoundMoved", spec := "roundMoved", unfollowed := true, recurses := true, plainKeys := false, apart := false }
def RoundMovedSaid : Prop := roundMovedRow.holds Try.pinned (OpenSpec.ofChange roundMovedSpec)

/-- ITS FALSE NEIGHBOUR: 'it returns false'. Refute it at one input. -/
def roundMovedWrong : ChangeSpec := { name := "roundMoved", fn := fun _ => fun
  | [d1, d2, d3, d4] => { results := [.lit (.bool false)], args := [d1, d2, d3, d4] }
  | _ => none }
def RoundMovedWrongFalsely : Prop := roundMovedRow.holds Try.pinned (OpenSpec.ofChange roundMovedWrong)

/-- 'tensilelaw08.RoundOrder': WHATEVER THE INPUT: true; the input reads as it did. -/
def roundOrderSpec : ChangeSpec := { name := "roundOrder", fn := fun _ => fun
  | [d1, d2, d3] => { results := [.lit (.bool true)], args := [d1, d2, d3] }
  | _ => none }
def roundOrderRow : OpenClaim := { program := "ytpdkgnfblnblbaa", sum := "f7667fdcf7cf11f9169776cd63c71b4bf6eb4e813d7f7684a6a1d824147c9aaf", func := "tensile/tensilelaw08.RoundOrder", spec := "roundOrder", unfollowed := true, recurses := true, plainKeys := false, apart := false }
def RoundOrderSaid : Prop := roundOrderRow.holds Try.pinned (OpenSpec.ofChange roundOrderSpec)

/-- ITS FALSE NEIGHBOUR: 'it returns false'. Refute it at one input. -/
def roundOrderWrong : ChangeSpec := { name := "roundOrder", fn := fun _ => fun
  | [d1, d2, d3] => { results := [.lit (.bool false)], args := [d1, d2, d3] }
  | _ => none }
def RoundOrderWrongFalsely : Prop := roundOrderRow.holds Try.pinned (OpenSpec.ofChange roundOrderWrong)

/- THE SECOND FORM. 'bulk': how many values and letters a reading holds, each counted each time it is reached (what is shared counts as often as it is met; a slice's spare places count too). A statement '..UptoSaid' is the law's where the arguments, and the package variables that the reading takes, are together of bulk at most 1048576: NARROWER than '..Said'. Prove '..Said' where nothing that the law and all that it calls make is longer than what came in: it says more and counts as full. Else prove '..UptoSaid'. A law counts once. -/
mutual
def uptoBulk {H : Type} : DataW H → Nat
  | .lit (.string bytes) => bytes.length + 1
  | .lit _ => 1
  | .nil => 1
  | .ptr d => uptoBulk d + 1
  | .slice elems spare => uptoBulkAll elems + uptoBulkAll spare + 1
  | .agg parts => uptoBulkAll parts + 1
  | .iface _ d => uptoBulk d + 1
  | .map entries => uptoBulkEntries entries + 1
  | .held _ => 1
def uptoBulkAll {H : Type} : List (DataW H) → Nat
  | [] => 0
  | d :: r => uptoBulk d + uptoBulkAll r
def uptoBulkEntries {H : Type} : List (Lit × DataW H) → Nat
  | [] => 0
  | x :: r => uptoBulkEntry x + uptoBulkEntries r
def uptoBulkEntry {H : Type} : Lit × DataW H → Nat
  | (.string bytes, d) => bytes.length + uptoBulk d + 1
  | (_, d) => uptoBulk d + 1
 end
def uptoSmall : (H : Type) → List (DataW H) → Bool := fun _ ds => decide (uptoBulkAll ds ≤ 1048576)
def OpenSpec.upto (s : _root_.Go.ChangeSpec) : _root_.Go.OpenSpec := { _root_.Go.OpenSpec.ofChange s with cond := some uptoSmall }

/-- 'tensilelaw08.RoundExplains', WHERE WHAT IT READS IS OF BULK AT MOST 1048576: true; the input reads as it did. -/
def roundExplainsUptoRow : OpenClaim := { program := "ytpdkgnfblnblbaa", sum := "f7667fdcf7cf11f9169776cd63c71b4bf6eb4e813d7f7684a6a1d824147c9aaf", func := "tensile/tensilelaw08.RoundExplains", spec := "roundExplains", unfollowed := true, recurses := true, plainKeys := false, apart := false, narrowed := true }
def RoundExplainsUptoSaid : Prop := roundExplainsUptoRow.holds Try.pinned (OpenSpec.upto roundExplainsSpec)

/-- 'tensilelaw08.RoundSpans', WHERE WHAT IT READS IS OF BULK AT MOST 1048576: true; the input reads as it did. -/
def roundSpansUptoRow : OpenClaim := { program := "ytpdkgnfblnblbaa", sum := "f7667fdcf7cf11f9169776cd63c71b4bf6eb4e813d7f7684a6a1d824147c9aaf", func := "tensile/tensilelaw08.RoundSpans", spec := "roundSpans", unfollowed := true, recurses := true, plainKeys := false, apart := false, narrowed := true }
def RoundSpansUptoSaid : Prop := roundSpansUptoRow.holds Try.pinned (OpenSpec.upto roundSpansSpec)

/-- 'tensilelaw08.RoundLeasts', WHERE WHAT IT READS IS OF BULK AT MOST 1048576: true; the input reads as it did. -/
def roundLeastsUptoRow : OpenClaim := { program := "ytpdkgnfblnblbaa", sum := "f7667fdcf7cf11f9169776cd63c71b4bf6eb4e813d7f7684a6a1d824147c9aaf", func := "tensile/tensilelaw08.RoundLeasts", spec := "roundLeasts", unfollowed := true, recurses := true, plainKeys := false, apart := false, narrowed := true }
def RoundLeastsUptoSaid : Prop := roundLeastsUptoRow.holds Try.pinned (OpenSpec.upto roundLeastsSpec)

/-- 'tensilelaw08.RoundConvicts', WHERE WHAT IT READS IS OF BULK AT MOST 1048576: true; the input reads as it did. -/
def roundConvictsUptoRow : OpenClaim := { program := "ytpdkgnfblnblbaa", sum := "f7667fdcf7cf11f9169776cd63c71b4bf6eb4e813d7f7684a6a1d824147c9aaf", func := "tensile/tensilelaw08.RoundConvicts", spec := "roundConvicts", unfollowed := true, recurses := true, plainKeys := false, apart := false, narrowed := true }
def RoundConvictsUptoSaid : Prop := roundConvictsUptoRow.holds Try.pinned (OpenSpec.upto roundConvictsSpec)

/-- 'tensilelaw08.RoundShifts', WHERE WHAT IT READS IS OF BULK AT MOST 1048576: true; the input reads as it did. -/
def roundShiftsUptoRow : OpenClaim := { program := "ytpdkgnfblnblbaa", sum := "f7667fdcf7cf11f9169776cd63c71b4bf6eb4e813d7f7684a6a1d824147c9aaf", func := "tensile/tensilelaw08.RoundShifts", spec := "roundShifts", unfollowed := true, recurses := true, plainKeys := false, apart := false, narrowed := true }
def RoundShiftsUptoSaid : Prop := roundShiftsUptoRow.holds Try.pinned (OpenSpec.upto roundShiftsSpec)

/-- 'tensilelaw08.RoundNames', WHERE WHAT IT READS IS OF BULK AT MOST 1048576: true; the input reads as it did. -/
def roundNamesUptoRow : OpenClaim := { program := "ytpdkgnfblnblbaa", sum := "f7667fdcf7cf11f9169776cd63c71b4bf6eb4e813d7f7684a6a1d824147c9aaf", func := "tensile/tensilelaw08.RoundNames", spec := "roundNames", unfollowed := true, recurses := true, plainKeys := false, apart := false, narrowed := true }
def RoundNamesUptoSaid : Prop := roundNamesUptoRow.holds Try.pinned (OpenSpec.upto roundNamesSpec)

/-- 'tensilelaw08.RoundTruth', WHERE WHAT IT READS IS OF BULK AT MOST 1048576: true; the input reads as it did. -/
def roundTruthUptoRow : OpenClaim := { program := "ytpdkgnfblnblbaa", sum := "f7667fdcf7cf11f9169776cd63c71b4bf6eb4e813d7f7684a6a1d824147c9aaf", func := "tensile/tensilelaw08.RoundTruth", spec := "roundTruth", unfollowed := true, recurses := true, plainKeys := false, apart := false, narrowed := true }
def RoundTruthUptoSaid : Prop := roundTruthUptoRow.holds Try.pinned (OpenSpec.upto roundTruthSpec)

/-- 'tensilelaw08.RoundMore', WHERE WHAT IT READS IS OF BULK AT MOST 1048576: true; the input reads as it did. -/
def roundMoreUptoRow : OpenClaim := { program := "ytpdkgnfblnblbaa", sum := "f7667fdcf7cf11f9169776cd63c71b4bf6eb4e813d7f7684a6a1d824147c9aaf", func := "tensile/tensilelaw08.RoundMore", spec := "roundMore", unfollowed := true, recurses := true, plainKeys := false, apart := false, narrowed := true }
def RoundMoreUptoSaid : Prop := roundMoreUptoRow.holds Try.pinned (OpenSpec.upto roundMoreSpec)

/-- 'tensilelaw08.RoundEnds', WHERE WHAT IT READS IS OF BULK AT MOST 1048576: true; the input reads as it did. -/
def roundEndsUptoRow : OpenClaim := { program := "ytpdkgnfblnblbaa", sum := "f7667fdcf7cf11f9169776cd63c71b4bf6eb4e813d7f7684a6a1d824147c9aaf", func := "tensile/tensilelaw08.RoundEnds", spec := "roundEnds", unfollowed := true, recurses := true, plainKeys := false, apart := false, narrowed := true }
def RoundEndsUptoSaid : Prop := roundEndsUptoRow.holds Try.pinned (OpenSpec.upto roundEndsSpec)

/-- 'tensilelaw08.RoundKinder', WHERE WHAT IT READS IS OF BULK AT MOST 1048576: true; the input reads as it did. -/
def roundKinderUptoRow : OpenClaim := { program := "ytpdkgnfblnblbaa", sum := "f7667fdcf7cf11f9169776cd63c71b4bf6eb4e813d7f7684a6a1d824147c9aaf", func := "tensile/tensilelaw08.RoundKinder", spec := "roundKinder", unfollowed := true, recurses := true, plainKeys := false, apart := false, narrowed := true }
def RoundKinderUptoSaid : Prop := roundKinderUptoRow.holds Try.pinned (OpenSpec.upto roundKinderSpec)

/-- 'tensilelaw08.RoundApart', WHERE WHAT IT READS IS OF BULK AT MOST 1048576: true; the input reads as it did. -/
def roundApartUptoRow : OpenClaim := { program := "ytpdkgnfblnblbaa", sum := "f7667fdcf7cf11f9169776cd63c71b4bf6eb4e813d7f7684a6a1d824147c9aaf", func := "tensile/tensilelaw08.RoundApart", spec := "roundApart", unfollowed := true, recurses := true, plainKeys := false, apart := false, narrowed := true }
def RoundApartUptoSaid : Prop := roundApartUptoRow.holds Try.pinned (OpenSpec.upto roundApartSpec)

/-- 'tensilelaw08.RoundAlike', WHERE WHAT IT READS IS OF BULK AT MOST 1048576: true; the input reads as it did. -/
def roundAlikeUptoRow : OpenClaim := { program := "ytpdkgnfblnblbaa", sum := "f7667fdcf7cf11f9169776cd63c71b4bf6eb4e813d7f7684a6a1d824147c9aaf", func := "tensile/tensilelaw08.RoundAlike", spec := "roundAlike", unfollowed := true, recurses := true, plainKeys := false, apart := false, narrowed := true }
def RoundAlikeUptoSaid : Prop := roundAlikeUptoRow.holds Try.pinned (OpenSpec.upto roundAlikeSpec)

/-- 'tensilelaw08.RoundMoved', WHERE WHAT IT READS IS OF BULK AT MOST 1048576: true; the input reads as it did. -/
def roundMovedUptoRow : OpenClaim := { program := "ytpdkgnfblnblbaa", sum := "f7667fdcf7cf11f9169776cd63c71b4bf6eb4e813d7f7684a6a1d824147c9aaf", func := "tensile/tensilelaw08.RoundMoved", spec := "roundMoved", unfollowed := true, recurses := true, plainKeys := false, apart := false, narrowed := true }
def RoundMovedUptoSaid : Prop := roundMovedUptoRow.holds Try.pinned (OpenSpec.upto roundMovedSpec)

/-- 'tensilelaw08.RoundOrder', WHERE WHAT IT READS IS OF BULK AT MOST 1048576: true; the input reads as it did. -/
def roundOrderUptoRow : OpenClaim := { program := "ytpdkgnfblnblbaa", sum := "f7667fdcf7cf11f9169776cd63c71b4bf6eb4e813d7f7684a6a1d824147c9aaf", func := "tensile/tensilelaw08.RoundOrder", spec := "roundOrder", unfollowed := true, recurses := true, plainKeys := false, apart := false, narrowed := true }
def RoundOrderUptoSaid : Prop := roundOrderUptoRow.holds Try.pinned (OpenSpec.upto roundOrderSpec)

end Rows
end Go.Proofs.Ytpdkgnfblnblbaa
