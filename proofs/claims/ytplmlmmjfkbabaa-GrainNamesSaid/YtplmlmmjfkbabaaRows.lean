/-
  No cell of these rows narrows 'for every input' (looked for: loops, veiled, ifaces, maps, wideKeys, modest, calm, conditions, laid).
  DERIVED. THE GIVEN ROWS OF THIS SEAT. 14 by the template 'for every input the law returns true; each argument reads behind the call as it read before'; 0 by the template 'total and deterministic' (their statements: YtplmlmmjfkbabaaTotals.lean).
  GIVEN WITH THE SEED: the statements are not yours to turn. If you find one false, say at which input.
  Laid BY PROGRAM, IN A SANDBOX (cutbox-rows.mjs): the forced cells as the released guide's own fill.sh prints them over the translation 1679a136eabbf065… (all of the seat's roots in one cut). By AI agents, Wed Nov 11 2026. No macro, syntax, notation, axiom, sorry.
-/
import Derived.Test.YtplmlmmjfkbabaaChecked
import GoSem.Claim
import GoSem.ClaimJoined
import GoSem.ClaimMapViews
import Derived.JoinedTies
import Derived.KernelRfl
namespace Go.Proofs.Ytplmlmmjfkbabaa
/- THE CELL 'sum', in the pinned program and in every row, IS THE sha256 OF THE DUMP (.gsa) THAT YtplmlmmjfkbabaaProg.lean LOADS. Nothing in Lean hashes anything: it is a label: what it is worth is what the hold of that sum in a sandbox is worth. -/
noncomputable def Try.pinned : Pinned := { name := "ytplmlmmjfkbabaa", sum := "1679a136eabbf0655ecf5a52f113445f61b29d524a18865264e52c676734ebbe", checked := Try.checked }
namespace Rows
def none {H : Type} : Left H := { results := [], args := [] }

/-- 'tensilelaw07.GrainGrades': WHATEVER THE INPUT: true; the input reads as it did. -/
def grainGradesSpec : ChangeSpec := { name := "grainGrades", fn := fun _ => fun
  | [d] => { results := [.lit (.bool true)], args := [d] }
  | _ => none }
def grainGradesRow : OpenClaim := { program := "ytplmlmmjfkbabaa", sum := "1679a136eabbf0655ecf5a52f113445f61b29d524a18865264e52c676734ebbe", func := "tensile/tensilelaw07.GrainGrades", spec := "grainGrades", unfollowed := true, recurses := true, plainKeys := false, apart := false }
def GrainGradesSaid : Prop := grainGradesRow.holds Try.pinned (OpenSpec.ofChange grainGradesSpec)

/-- ITS FALSE NEIGHBOUR: 'it returns false'. Refute it at one input. -/
def grainGradesWrong : ChangeSpec := { name := "grainGrades", fn := fun _ => fun
  | [d] => { results := [.lit (.bool false)], args := [d] }
  | _ => none }
def GrainGradesWrongFalsely : Prop := grainGradesRow.holds Try.pinned (OpenSpec.ofChange grainGradesWrong)

/-- 'tensilelaw07.GrainBetweens': WHATEVER THE INPUT: true; the input reads as it did. -/
def grainBetweensSpec : ChangeSpec := { name := "grainBetweens", fn := fun _ => fun
  | [d1, d2, d3] => { results := [.lit (.bool true)], args := [d1, d2, d3] }
  | _ => none }
def grainBetweensRow : OpenClaim := { program := "ytplmlmmjfkbabaa", sum := "1679a136eabbf0655ecf5a52f113445f61b29d524a18865264e52c676734ebbe", func := "tensile/tensilelaw07.GrainBetweens", spec := "grainBetweens", unfollowed := true, recurses := true, plainKeys := false, apart := false }
def GrainBetweensSaid : Prop := grainBetweensRow.holds Try.pinned (OpenSpec.ofChange grainBetweensSpec)

/-- ITS FALSE NEIGHBOUR: 'it returns false'. Refute it at one input. -/
def grainBetweensWrong : ChangeSpec := { name := "grainBetweens", fn := fun _ => fun
  | [d1, d2, d3] => { results := [.lit (.bool false)], args := [d1, d2, d3] }
  | _ => none }
def GrainBetweensWrongFalsely : Prop := grainBetweensRow.holds Try.pinned (OpenSpec.ofChange grainBetweensWrong)

/-- 'tensilelaw07.GrainShows': WHATEVER THE INPUT: true; the input reads as it did. -/
def grainShowsSpec : ChangeSpec := { name := "grainShows", fn := fun _ => fun
  | [d1, d2, d3, d4] => { results := [.lit (.bool true)], args := [d1, d2, d3, d4] }
  | _ => none }
def grainShowsRow : OpenClaim := { program := "ytplmlmmjfkbabaa", sum := "1679a136eabbf0655ecf5a52f113445f61b29d524a18865264e52c676734ebbe", func := "tensile/tensilelaw07.GrainShows", spec := "grainShows", unfollowed := true, recurses := true, plainKeys := false, apart := false }
def GrainShowsSaid : Prop := grainShowsRow.holds Try.pinned (OpenSpec.ofChange grainShowsSpec)

/-- ITS FALSE NEIGHBOUR: 'it returns false'. Refute it at one input. -/
def grainShowsWrong : ChangeSpec := { name := "grainShows", fn := fun _ => fun
  | [d1, d2, d3, d4] => { results := [.lit (.bool false)], args := [d1, d2, d3, d4] }
  | _ => none }
def GrainShowsWrongFalsely : Prop := grainShowsRow.holds Try.pinned (OpenSpec.ofChange grainShowsWrong)

/-- 'tensilelaw07.GrainFinests': WHATEVER THE INPUT: true; the input reads as it did. -/
def grainFinestsSpec : ChangeSpec := { name := "grainFinests", fn := fun _ => fun
  | [d] => { results := [.lit (.bool true)], args := [d] }
  | _ => none }
def grainFinestsRow : OpenClaim := { program := "ytplmlmmjfkbabaa", sum := "1679a136eabbf0655ecf5a52f113445f61b29d524a18865264e52c676734ebbe", func := "tensile/tensilelaw07.GrainFinests", spec := "grainFinests", unfollowed := true, recurses := true, plainKeys := false, apart := false }
def GrainFinestsSaid : Prop := grainFinestsRow.holds Try.pinned (OpenSpec.ofChange grainFinestsSpec)

/-- ITS FALSE NEIGHBOUR: 'it returns false'. Refute it at one input. -/
def grainFinestsWrong : ChangeSpec := { name := "grainFinests", fn := fun _ => fun
  | [d] => { results := [.lit (.bool false)], args := [d] }
  | _ => none }
def GrainFinestsWrongFalsely : Prop := grainFinestsRow.holds Try.pinned (OpenSpec.ofChange grainFinestsWrong)

/-- 'tensilelaw07.GrainChains': WHATEVER THE INPUT: true; the input reads as it did. -/
def grainChainsSpec : ChangeSpec := { name := "grainChains", fn := fun _ => fun
  | [d1, d2, d3, d4] => { results := [.lit (.bool true)], args := [d1, d2, d3, d4] }
  | _ => none }
def grainChainsRow : OpenClaim := { program := "ytplmlmmjfkbabaa", sum := "1679a136eabbf0655ecf5a52f113445f61b29d524a18865264e52c676734ebbe", func := "tensile/tensilelaw07.GrainChains", spec := "grainChains", unfollowed := true, recurses := true, plainKeys := false, apart := false }
def GrainChainsSaid : Prop := grainChainsRow.holds Try.pinned (OpenSpec.ofChange grainChainsSpec)

/-- ITS FALSE NEIGHBOUR: 'it returns false'. Refute it at one input. -/
def grainChainsWrong : ChangeSpec := { name := "grainChains", fn := fun _ => fun
  | [d1, d2, d3, d4] => { results := [.lit (.bool false)], args := [d1, d2, d3, d4] }
  | _ => none }
def GrainChainsWrongFalsely : Prop := grainChainsRow.holds Try.pinned (OpenSpec.ofChange grainChainsWrong)

/-- 'tensilelaw07.GrainDoubts': WHATEVER THE INPUT: true; the input reads as it did. -/
def grainDoubtsSpec : ChangeSpec := { name := "grainDoubts", fn := fun _ => fun
  | [d] => { results := [.lit (.bool true)], args := [d] }
  | _ => none }
def grainDoubtsRow : OpenClaim := { program := "ytplmlmmjfkbabaa", sum := "1679a136eabbf0655ecf5a52f113445f61b29d524a18865264e52c676734ebbe", func := "tensile/tensilelaw07.GrainDoubts", spec := "grainDoubts", unfollowed := true, recurses := true, plainKeys := false, apart := false }
def GrainDoubtsSaid : Prop := grainDoubtsRow.holds Try.pinned (OpenSpec.ofChange grainDoubtsSpec)

/-- ITS FALSE NEIGHBOUR: 'it returns false'. Refute it at one input. -/
def grainDoubtsWrong : ChangeSpec := { name := "grainDoubts", fn := fun _ => fun
  | [d] => { results := [.lit (.bool false)], args := [d] }
  | _ => none }
def GrainDoubtsWrongFalsely : Prop := grainDoubtsRow.holds Try.pinned (OpenSpec.ofChange grainDoubtsWrong)

/-- 'tensilelaw07.GrainNames': WHATEVER THE INPUT: true; the input reads as it did. -/
def grainNamesSpec : ChangeSpec := { name := "grainNames", fn := fun _ => fun
  | [] => { results := [.lit (.bool true)], args := [] }
  | _ => none }
def grainNamesRow : OpenClaim := { program := "ytplmlmmjfkbabaa", sum := "1679a136eabbf0655ecf5a52f113445f61b29d524a18865264e52c676734ebbe", func := "tensile/tensilelaw07.GrainNames", spec := "grainNames", unfollowed := true, recurses := true, plainKeys := false, apart := false }
def GrainNamesSaid : Prop := grainNamesRow.holds Try.pinned (OpenSpec.ofChange grainNamesSpec)

/-- ITS FALSE NEIGHBOUR: 'it returns false'. Refute it at one input. -/
def grainNamesWrong : ChangeSpec := { name := "grainNames", fn := fun _ => fun
  | [] => { results := [.lit (.bool false)], args := [] }
  | _ => none }
def GrainNamesWrongFalsely : Prop := grainNamesRow.holds Try.pinned (OpenSpec.ofChange grainNamesWrong)

/-- 'tensilelaw07.GrainTruth': WHATEVER THE INPUT: true; the input reads as it did. -/
def grainTruthSpec : ChangeSpec := { name := "grainTruth", fn := fun _ => fun
  | [d1, d2, d3] => { results := [.lit (.bool true)], args := [d1, d2, d3] }
  | _ => none }
def grainTruthRow : OpenClaim := { program := "ytplmlmmjfkbabaa", sum := "1679a136eabbf0655ecf5a52f113445f61b29d524a18865264e52c676734ebbe", func := "tensile/tensilelaw07.GrainTruth", spec := "grainTruth", unfollowed := true, recurses := true, plainKeys := false, apart := false }
def GrainTruthSaid : Prop := grainTruthRow.holds Try.pinned (OpenSpec.ofChange grainTruthSpec)

/-- ITS FALSE NEIGHBOUR: 'it returns false'. Refute it at one input. -/
def grainTruthWrong : ChangeSpec := { name := "grainTruth", fn := fun _ => fun
  | [d1, d2, d3] => { results := [.lit (.bool false)], args := [d1, d2, d3] }
  | _ => none }
def GrainTruthWrongFalsely : Prop := grainTruthRow.holds Try.pinned (OpenSpec.ofChange grainTruthWrong)

/-- 'tensilelaw07.GrainEnds': WHATEVER THE INPUT: true; the input reads as it did. -/
def grainEndsSpec : ChangeSpec := { name := "grainEnds", fn := fun _ => fun
  | [d1, d2] => { results := [.lit (.bool true)], args := [d1, d2] }
  | _ => none }
def grainEndsRow : OpenClaim := { program := "ytplmlmmjfkbabaa", sum := "1679a136eabbf0655ecf5a52f113445f61b29d524a18865264e52c676734ebbe", func := "tensile/tensilelaw07.GrainEnds", spec := "grainEnds", unfollowed := true, recurses := true, plainKeys := false, apart := false }
def GrainEndsSaid : Prop := grainEndsRow.holds Try.pinned (OpenSpec.ofChange grainEndsSpec)

/-- ITS FALSE NEIGHBOUR: 'it returns false'. Refute it at one input. -/
def grainEndsWrong : ChangeSpec := { name := "grainEnds", fn := fun _ => fun
  | [d1, d2] => { results := [.lit (.bool false)], args := [d1, d2] }
  | _ => none }
def GrainEndsWrongFalsely : Prop := grainEndsRow.holds Try.pinned (OpenSpec.ofChange grainEndsWrong)

/-- 'tensilelaw07.GrainMore': WHATEVER THE INPUT: true; the input reads as it did. -/
def grainMoreSpec : ChangeSpec := { name := "grainMore", fn := fun _ => fun
  | [d1, d2, d3, d4] => { results := [.lit (.bool true)], args := [d1, d2, d3, d4] }
  | _ => none }
def grainMoreRow : OpenClaim := { program := "ytplmlmmjfkbabaa", sum := "1679a136eabbf0655ecf5a52f113445f61b29d524a18865264e52c676734ebbe", func := "tensile/tensilelaw07.GrainMore", spec := "grainMore", unfollowed := true, recurses := true, plainKeys := false, apart := false }
def GrainMoreSaid : Prop := grainMoreRow.holds Try.pinned (OpenSpec.ofChange grainMoreSpec)

/-- ITS FALSE NEIGHBOUR: 'it returns false'. Refute it at one input. -/
def grainMoreWrong : ChangeSpec := { name := "grainMore", fn := fun _ => fun
  | [d1, d2, d3, d4] => { results := [.lit (.bool false)], args := [d1, d2, d3, d4] }
  | _ => none }
def GrainMoreWrongFalsely : Prop := grainMoreRow.holds Try.pinned (OpenSpec.ofChange grainMoreWrong)

/-- 'tensilelaw07.GrainThree': WHATEVER THE INPUT: true; the input reads as it did. -/
def grainThreeSpec : ChangeSpec := { name := "grainThree", fn := fun _ => fun
  | [d1, d2, d3, d4] => { results := [.lit (.bool true)], args := [d1, d2, d3, d4] }
  | _ => none }
def grainThreeRow : OpenClaim := { program := "ytplmlmmjfkbabaa", sum := "1679a136eabbf0655ecf5a52f113445f61b29d524a18865264e52c676734ebbe", func := "tensile/tensilelaw07.GrainThree", spec := "grainThree", unfollowed := true, recurses := true, plainKeys := false, apart := false }
def GrainThreeSaid : Prop := grainThreeRow.holds Try.pinned (OpenSpec.ofChange grainThreeSpec)

/-- ITS FALSE NEIGHBOUR: 'it returns false'. Refute it at one input. -/
def grainThreeWrong : ChangeSpec := { name := "grainThree", fn := fun _ => fun
  | [d1, d2, d3, d4] => { results := [.lit (.bool false)], args := [d1, d2, d3, d4] }
  | _ => none }
def GrainThreeWrongFalsely : Prop := grainThreeRow.holds Try.pinned (OpenSpec.ofChange grainThreeWrong)

/-- 'tensilelaw07.GrainOrder': WHATEVER THE INPUT: true; the input reads as it did. -/
def grainOrderSpec : ChangeSpec := { name := "grainOrder", fn := fun _ => fun
  | [d1, d2, d3, d4] => { results := [.lit (.bool true)], args := [d1, d2, d3, d4] }
  | _ => none }
def grainOrderRow : OpenClaim := { program := "ytplmlmmjfkbabaa", sum := "1679a136eabbf0655ecf5a52f113445f61b29d524a18865264e52c676734ebbe", func := "tensile/tensilelaw07.GrainOrder", spec := "grainOrder", unfollowed := true, recurses := true, plainKeys := false, apart := false }
def GrainOrderSaid : Prop := grainOrderRow.holds Try.pinned (OpenSpec.ofChange grainOrderSpec)

/-- ITS FALSE NEIGHBOUR: 'it returns false'. Refute it at one input. -/
def grainOrderWrong : ChangeSpec := { name := "grainOrder", fn := fun _ => fun
  | [d1, d2, d3, d4] => { results := [.lit (.bool false)], args := [d1, d2, d3, d4] }
  | _ => none }
def GrainOrderWrongFalsely : Prop := grainOrderRow.holds Try.pinned (OpenSpec.ofChange grainOrderWrong)

/-- 'tensilelaw07.GrainTurned': WHATEVER THE INPUT: true; the input reads as it did. -/
def grainTurnedSpec : ChangeSpec := { name := "grainTurned", fn := fun _ => fun
  | [d] => { results := [.lit (.bool true)], args := [d] }
  | _ => none }
def grainTurnedRow : OpenClaim := { program := "ytplmlmmjfkbabaa", sum := "1679a136eabbf0655ecf5a52f113445f61b29d524a18865264e52c676734ebbe", func := "tensile/tensilelaw07.GrainTurned", spec := "grainTurned", unfollowed := true, recurses := true, plainKeys := false, apart := false }
def GrainTurnedSaid : Prop := grainTurnedRow.holds Try.pinned (OpenSpec.ofChange grainTurnedSpec)

/-- ITS FALSE NEIGHBOUR: 'it returns false'. Refute it at one input. -/
def grainTurnedWrong : ChangeSpec := { name := "grainTurned", fn := fun _ => fun
  | [d] => { results := [.lit (.bool false)], args := [d] }
  | _ => none }
def GrainTurnedWrongFalsely : Prop := grainTurnedRow.holds Try.pinned (OpenSpec.ofChange grainTurnedWrong)

/-- 'tensilelaw07.GrainDoubtful': WHATEVER THE INPUT: true; the input reads as it did. -/
def grainDoubtfulSpec : ChangeSpec := { name := "grainDoubtful", fn := fun _ => fun
  | [d1, d2] => { results := [.lit (.bool true)], args := [d1, d2] }
  | _ => none }
def grainDoubtfulRow : OpenClaim := { program := "ytplmlmmjfkbabaa", sum := "1679a136eabbf0655ecf5a52f113445f61b29d524a18865264e52c676734ebbe", func := "tensile/tensilelaw07.GrainDoubtful", spec := "grainDoubtful", unfollowed := true, recurses := true, plainKeys := false, apart := false }
def GrainDoubtfulSaid : Prop := grainDoubtfulRow.holds Try.pinned (OpenSpec.ofChange grainDoubtfulSpec)

/-- ITS FALSE NEIGHBOUR: 'it returns false'. Refute it at one input. -/
def grainDoubtfulWrong : ChangeSpec := { name := "grainDoubtful", fn := fun _ => fun
  | [d1, d2] => { results := [.lit (.bool false)], args := [d1, d2] }
  | _ => none }
def GrainDoubtfulWrongFalsely : Prop := grainDoubtfulRow.holds Try.pinned (OpenSpec.ofChange grainDoubtfulWrong)

/- THE SECOND FORM. 'bulk': how many values and letters a reading holds, each counted each time it is reached (what is shared counts as often as it is met; a slice's spare places count too). A statement '..UptoSaid' is the law's where the arguments, and the package variables that the reading takes, are together of bulk at most 1048576: NARROWER than '..Said'. Prove '..Said' where nothing that the law and all that it calls make is longer than what came in: it says more and counts as full. Else prove '..UptoSaid'. A law counts once. -/
mutual
def uptoBulk {H : Type} : DataW H → Nat
  | .lit (.string bytes) => bytes.length + 1
  | .lit _ => 1
  | .nil => 1
  | .ptr d => uptoBulk d + 1
  | .slice elems spare => uptoBulkAll elems + uptoBulkAll spare + 1
  | .agg parts => uptoBulkAll parts + 1
  | .iface _ d => uptoBulk d + 1
  | .map entries => uptoBulkEntries entries + 1
  | .held _ => 1
def uptoBulkAll {H : Type} : List (DataW H) → Nat
  | [] => 0
  | d :: r => uptoBulk d + uptoBulkAll r
def uptoBulkEntries {H : Type} : List (Lit × DataW H) → Nat
  | [] => 0
  | x :: r => uptoBulkEntry x + uptoBulkEntries r
def uptoBulkEntry {H : Type} : Lit × DataW H → Nat
  | (.string bytes, d) => bytes.length + uptoBulk d + 1
  | (_, d) => uptoBulk d + 1
 end
def uptoSmall : (H : Type) → List (DataW H) → Bool := fun _ ds => decide (uptoBulkAll ds ≤ 1048576)
def OpenSpec.upto (s : _root_.Go.ChangeSpec) : _root_.Go.OpenSpec := { _root_.Go.OpenSpec.ofChange s with cond := some uptoSmall }

/-- 'tensilelaw07.GrainGrades', WHERE WHAT IT READS IS OF BULK AT MOST 1048576: true; the input reads as it did. -/
def grainGradesUptoRow : OpenClaim := { program := "ytplmlmmjfkbabaa", sum := "1679a136eabbf0655ecf5a52f113445f61b29d524a18865264e52c676734ebbe", func := "tensile/tensilelaw07.GrainGrades", spec := "grainGrades", unfollowed := true, recurses := true, plainKeys := false, apart := false, narrowed := true }
def GrainGradesUptoSaid : Prop := grainGradesUptoRow.holds Try.pinned (OpenSpec.upto grainGradesSpec)

/-- 'tensilelaw07.GrainBetweens', WHERE WHAT IT READS IS OF BULK AT MOST 1048576: true; the input reads as it did. -/
def grainBetweensUptoRow : OpenClaim := { program := "ytplmlmmjfkbabaa", sum := "1679a136eabbf0655ecf5a52f113445f61b29d524a18865264e52c676734ebbe", func := "tensile/tensilelaw07.GrainBetweens", spec := "grainBetweens", unfollowed := true, recurses := true, plainKeys := false, apart := false, narrowed := true }
def GrainBetweensUptoSaid : Prop := grainBetweensUptoRow.holds Try.pinned (OpenSpec.upto grainBetweensSpec)

/-- 'tensilelaw07.GrainShows', WHERE WHAT IT READS IS OF BULK AT MOST 1048576: true; the input reads as it did. -/
def grainShowsUptoRow : OpenClaim := { program := "ytplmlmmjfkbabaa", sum := "1679a136eabbf0655ecf5a52f113445f61b29d524a18865264e52c676734ebbe", func := "tensile/tensilelaw07.GrainShows", spec := "grainShows", unfollowed := true, recurses := true, plainKeys := false, apart := false, narrowed := true }
def GrainShowsUptoSaid : Prop := grainShowsUptoRow.holds Try.pinned (OpenSpec.upto grainShowsSpec)

/-- 'tensilelaw07.GrainFinests', WHERE WHAT IT READS IS OF BULK AT MOST 1048576: true; the input reads as it did. -/
def grainFinestsUptoRow : OpenClaim := { program := "ytplmlmmjfkbabaa", sum := "1679a136eabbf0655ecf5a52f113445f61b29d524a18865264e52c676734ebbe", func := "tensile/tensilelaw07.GrainFinests", spec := "grainFinests", unfollowed := true, recurses := true, plainKeys := false, apart := false, narrowed := true }
def GrainFinestsUptoSaid : Prop := grainFinestsUptoRow.holds Try.pinned (OpenSpec.upto grainFinestsSpec)

/-- 'tensilelaw07.GrainChains', WHERE WHAT IT READS IS OF BULK AT MOST 1048576: true; the input reads as it did. -/
def grainChainsUptoRow : OpenClaim := { program := "ytplmlmmjfkbabaa", sum := "1679a136eabbf0655ecf5a52f113445f61b29d524a18865264e52c676734ebbe", func := "tensile/tensilelaw07.GrainChains", spec := "grainChains", unfollowed := true, recurses := true, plainKeys := false, apart := false, narrowed := true }
def GrainChainsUptoSaid : Prop := grainChainsUptoRow.holds Try.pinned (OpenSpec.upto grainChainsSpec)

/-- 'tensilelaw07.GrainDoubts', WHERE WHAT IT READS IS OF BULK AT MOST 1048576: true; the input reads as it did. -/
def grainDoubtsUptoRow : OpenClaim := { program := "ytplmlmmjfkbabaa", sum := "1679a136eabbf0655ecf5a52f113445f61b29d524a18865264e52c676734ebbe", func := "tensile/tensilelaw07.GrainDoubts", spec := "grainDoubts", unfollowed := true, recurses := true, plainKeys := false, apart := false, narrowed := true }
def GrainDoubtsUptoSaid : Prop := grainDoubtsUptoRow.holds Try.pinned (OpenSpec.upto grainDoubtsSpec)

/-- 'tensilelaw07.GrainNames', WHERE WHAT IT READS IS OF BULK AT MOST 1048576: true; the input reads as it did. -/
def grainNamesUptoRow : OpenClaim := { program := "ytplmlmmjfkbabaa", sum := "1679a136eabbf0655ecf5a52f113445f61b29d524a18865264e52c676734ebbe", func := "tensile/tensilelaw07.GrainNames", spec := "grainNames", unfollowed := true, recurses := true, plainKeys := false, apart := false, narrowed := true }
def GrainNamesUptoSaid : Prop := grainNamesUptoRow.holds Try.pinned (OpenSpec.upto grainNamesSpec)

/-- 'tensilelaw07.GrainTruth', WHERE WHAT IT READS IS OF BULK AT MOST 1048576: true; the input reads as it did. -/
def grainTruthUptoRow : OpenClaim := { program := "ytplmlmmjfkbabaa", sum := "1679a136eabbf0655ecf5a52f113445f61b29d524a18865264e52c676734ebbe", func := "tensile/tensilelaw07.GrainTruth", spec := "grainTruth", unfollowed := true, recurses := true, plainKeys := false, apart := false, narrowed := true }
def GrainTruthUptoSaid : Prop := grainTruthUptoRow.holds Try.pinned (OpenSpec.upto grainTruthSpec)

/-- 'tensilelaw07.GrainEnds', WHERE WHAT IT READS IS OF BULK AT MOST 1048576: true; the input reads as it did. -/
def grainEndsUptoRow : OpenClaim := { program := "ytplmlmmjfkbabaa", sum := "1679a136eabbf0655ecf5a52f113445f61b29d524a18865264e52c676734ebbe", func := "tensile/tensilelaw07.GrainEnds", spec := "grainEnds", unfollowed := true, recurses := true, plainKeys := false, apart := false, narrowed := true }
def GrainEndsUptoSaid : Prop := grainEndsUptoRow.holds Try.pinned (OpenSpec.upto grainEndsSpec)

/-- 'tensilelaw07.GrainMore', WHERE WHAT IT READS IS OF BULK AT MOST 1048576: true; the input reads as it did. -/
def grainMoreUptoRow : OpenClaim := { program := "ytplmlmmjfkbabaa", sum := "1679a136eabbf0655ecf5a52f113445f61b29d524a18865264e52c676734ebbe", func := "tensile/tensilelaw07.GrainMore", spec := "grainMore", unfollowed := true, recurses := true, plainKeys := false, apart := false, narrowed := true }
def GrainMoreUptoSaid : Prop := grainMoreUptoRow.holds Try.pinned (OpenSpec.upto grainMoreSpec)

/-- 'tensilelaw07.GrainThree', WHERE WHAT IT READS IS OF BULK AT MOST 1048576: true; the input reads as it did. -/
def grainThreeUptoRow : OpenClaim := { program := "ytplmlmmjfkbabaa", sum := "1679a136eabbf0655ecf5a52f113445f61b29d524a18865264e52c676734ebbe", func := "tensile/tensilelaw07.GrainThree", spec := "grainThree", unfollowed := true, recurses := true, plainKeys := false, apart := false, narrowed := true }
def GrainThreeUptoSaid : Prop := grainThreeUptoRow.holds Try.pinned (OpenSpec.upto grainThreeSpec)

/-- 'tensilelaw07.GrainOrder', WHERE WHAT IT READS IS OF BULK AT MOST 1048576: true; the input reads as it did. -/
def grainOrderUptoRow : OpenClaim := { program := "ytplmlmmjfkbabaa", sum := "1679a136eabbf0655ecf5a52f113445f61b29d524a18865264e52c676734ebbe", func := "tensile/tensilelaw07.GrainOrder", spec := "grainOrder", unfollowed := true, recurses := true, plainKeys := false, apart := false, narrowed := true }
def GrainOrderUptoSaid : Prop := grainOrderUptoRow.holds Try.pinned (OpenSpec.upto grainOrderSpec)

/-- 'tensilelaw07.GrainTurned', WHERE WHAT IT READS IS OF BULK AT MOST 1048576: true; the input reads as it did. -/
def grainTurnedUptoRow : OpenClaim := { program := "ytplmlmmjfkbabaa", sum := "1679a136eabbf0655ecf5a52f113445f61b29d524a18865264e52c676734ebbe", func := "tensile/tensilelaw07.GrainTurned", spec := "grainTurned", unfollowed := true, recurses := true, plainKeys := false, apart := false, narrowed := true }
def GrainTurnedUptoSaid : Prop := grainTurnedUptoRow.holds Try.pinned (OpenSpec.upto grainTurnedSpec)

/-- 'tensilelaw07.GrainDoubtful', WHERE WHAT IT READS IS OF BULK AT MOST 1048576: true; the input reads as it did. -/
def grainDoubtfulUptoRow : OpenClaim := { program := "ytplmlmmjfkbabaa", sum := "1679a136eabbf0655ecf5a52f113445f61b29d524a18865264e52c676734ebbe", func := "tensile/tensilelaw07.GrainDoubtful", spec := "grainDoubtful", unfollowed := true, recurses := true, plainKeys := false, apart := false, narrowed := true }
def GrainDoubtfulUptoSaid : Prop := grainDoubtfulUptoRow.holds Try.pinned (OpenSpec.upto grainDoubtfulSpec)

end Rows
end Go.Proofs.Ytplmlmmjfkbabaa
