/-
  No cell of these rows narrows 'for every input' (looked for: loops, veiled, ifaces, maps, wideKeys, modest, calm, conditions, laid).
  DERIVED. THE GIVEN ROWS OF THIS SEAT. 13 by the template 'for every input the law returns true; each argument reads behind the call as it read before'; 0 by the template 'total and deterministic' (their statements: YtfijaafkagcmmaaTotals.lean).
  GIVEN WITH THE SEED: the statements are not yours to turn. If you find one false, say at which input.
  Laid BY PROGRAM, IN A SANDBOX (cutbox-rows.mjs): the forced cells as the released guide's own fill.sh prints them over the translation 1b797fdd54d95bca… (all of the seat's roots in one cut). By AI agents, Wed Nov 11 2026. No macro, syntax, notation, axiom, sorry.
-/
import Derived.Test.YtfijaafkagcmmaaChecked
import GoSem.Claim
import GoSem.ClaimJoined
import GoSem.ClaimMapViews
import Derived.JoinedTies
import Derived.KernelRfl
namespace Go.Proofs.Ytfijaafkagcmmaa
/- THE CELL 'sum', in the pinned program and in every row, IS THE sha256 OF THE DUMP (.gsa) THAT YtfijaafkagcmmaaProg.lean LOADS. Nothing in Lean hashes anything: it is a label: what it is worth is what the hold of that sum in a sandbox is worth. -/
noncomputable def Try.pinned : Pinned := { name := "ytfijaafkagcmmaa", sum := "1b797fdd54d95bcad331d6d10961353729a78d0bc7f1983df52dc90644fb606e", checked := Try.checked }
namespace Rows
def none {H : Type} : Left H := { results := [], args := [] }

/-- 'tensilelaw05.CreepAllows': WHATEVER THE INPUT: true; the input reads as it did. -/
def creepAllowsSpec : ChangeSpec := { name := "creepAllows", fn := fun _ => fun
  | [d1, d2, d3] => { results := [.lit (.bool true)], args := [d1, d2, d3] }
  | _ => none }
def creepAllowsRow : OpenClaim := { program := "ytfijaafkagcmmaa", sum := "1b797fdd54d95bcad331d6d10961353729a78d0bc7f1983df52dc90644fb606e", func := "tensile/tensilelaw05.CreepAllows", spec := "creepAllows", unfollowed := true, recurses := true, plainKeys := false, apart := false }
def CreepAllowsSaid : Prop := creepAllowsRow.holds Try.pinned (OpenSpec.ofChange creepAllowsSpec)

/-- ITS FALSE NEIGHBOUR: 'it returns false'. Refute it at one input. -/
def creepAllowsWrong : ChangeSpec := { name := "creepAllows", fn := fun _ => fun
  | [d1, d2, d3] => { results := [.lit (.bool false)], args := [d1, d2, d3] }
  | _ => none }
def CreepAllowsWrongFalsely : Prop := creepAllowsRow.holds Try.pinned (OpenSpec.ofChange creepAllowsWrong)

/-- 'tensilelaw05.CreepRates': WHATEVER THE INPUT: true; the input reads as it did. -/
def creepRatesSpec : ChangeSpec := { name := "creepRates", fn := fun _ => fun
  | [d1, d2] => { results := [.lit (.bool true)], args := [d1, d2] }
  | _ => none }
def creepRatesRow : OpenClaim := { program := "ytfijaafkagcmmaa", sum := "1b797fdd54d95bcad331d6d10961353729a78d0bc7f1983df52dc90644fb606e", func := "tensile/tensilelaw05.CreepRates", spec := "creepRates", unfollowed := true, recurses := true, plainKeys := false, apart := false }
def CreepRatesSaid : Prop := creepRatesRow.holds Try.pinned (OpenSpec.ofChange creepRatesSpec)

/-- ITS FALSE NEIGHBOUR: 'it returns false'. Refute it at one input. -/
def creepRatesWrong : ChangeSpec := { name := "creepRates", fn := fun _ => fun
  | [d1, d2] => { results := [.lit (.bool false)], args := [d1, d2] }
  | _ => none }
def CreepRatesWrongFalsely : Prop := creepRatesRow.holds Try.pinned (OpenSpec.ofChange creepRatesWrong)

/-- 'tensilelaw05.CreepStretches': WHATEVER THE INPUT: true; the input reads as it did. -/
def creepStretchesSpec : ChangeSpec := { name := "creepStretches", fn := fun _ => fun
  | [d1, d2, d3, d4] => { results := [.lit (.bool true)], args := [d1, d2, d3, d4] }
  | _ => none }
def creepStretchesRow : OpenClaim := { program := "ytfijaafkagcmmaa", sum := "1b797fdd54d95bcad331d6d10961353729a78d0bc7f1983df52dc90644fb606e", func := "tensile/tensilelaw05.CreepStretches", spec := "creepStretches", unfollowed := true, recurses := true, plainKeys := false, apart := false }
def CreepStretchesSaid : Prop := creepStretchesRow.holds Try.pinned (OpenSpec.ofChange creepStretchesSpec)

/-- ITS FALSE NEIGHBOUR: 'it returns false'. Refute it at one input. -/
def creepStretchesWrong : ChangeSpec := { name := "creepStretches", fn := fun _ => fun
  | [d1, d2, d3, d4] => { results := [.lit (.bool false)], args := [d1, d2, d3, d4] }
  | _ => none }
def CreepStretchesWrongFalsely : Prop := creepStretchesRow.holds Try.pinned (OpenSpec.ofChange creepStretchesWrong)

/-- 'tensilelaw05.CreepLives': WHATEVER THE INPUT: true; the input reads as it did. -/
def creepLivesSpec : ChangeSpec := { name := "creepLives", fn := fun _ => fun
  | [d1, d2, d3, d4] => { results := [.lit (.bool true)], args := [d1, d2, d3, d4] }
  | _ => none }
def creepLivesRow : OpenClaim := { program := "ytfijaafkagcmmaa", sum := "1b797fdd54d95bcad331d6d10961353729a78d0bc7f1983df52dc90644fb606e", func := "tensile/tensilelaw05.CreepLives", spec := "creepLives", unfollowed := true, recurses := true, plainKeys := false, apart := false }
def CreepLivesSaid : Prop := creepLivesRow.holds Try.pinned (OpenSpec.ofChange creepLivesSpec)

/-- ITS FALSE NEIGHBOUR: 'it returns false'. Refute it at one input. -/
def creepLivesWrong : ChangeSpec := { name := "creepLives", fn := fun _ => fun
  | [d1, d2, d3, d4] => { results := [.lit (.bool false)], args := [d1, d2, d3, d4] }
  | _ => none }
def CreepLivesWrongFalsely : Prop := creepLivesRow.holds Try.pinned (OpenSpec.ofChange creepLivesWrong)

/-- 'tensilelaw05.CreepDoubts': WHATEVER THE INPUT: true; the input reads as it did. -/
def creepDoubtsSpec : ChangeSpec := { name := "creepDoubts", fn := fun _ => fun
  | [d1, d2] => { results := [.lit (.bool true)], args := [d1, d2] }
  | _ => none }
def creepDoubtsRow : OpenClaim := { program := "ytfijaafkagcmmaa", sum := "1b797fdd54d95bcad331d6d10961353729a78d0bc7f1983df52dc90644fb606e", func := "tensile/tensilelaw05.CreepDoubts", spec := "creepDoubts", unfollowed := true, recurses := true, plainKeys := false, apart := false }
def CreepDoubtsSaid : Prop := creepDoubtsRow.holds Try.pinned (OpenSpec.ofChange creepDoubtsSpec)

/-- ITS FALSE NEIGHBOUR: 'it returns false'. Refute it at one input. -/
def creepDoubtsWrong : ChangeSpec := { name := "creepDoubts", fn := fun _ => fun
  | [d1, d2] => { results := [.lit (.bool false)], args := [d1, d2] }
  | _ => none }
def CreepDoubtsWrongFalsely : Prop := creepDoubtsRow.holds Try.pinned (OpenSpec.ofChange creepDoubtsWrong)

/-- 'tensilelaw05.CreepNames': WHATEVER THE INPUT: true; the input reads as it did. -/
def creepNamesSpec : ChangeSpec := { name := "creepNames", fn := fun _ => fun
  | [] => { results := [.lit (.bool true)], args := [] }
  | _ => none }
def creepNamesRow : OpenClaim := { program := "ytfijaafkagcmmaa", sum := "1b797fdd54d95bcad331d6d10961353729a78d0bc7f1983df52dc90644fb606e", func := "tensile/tensilelaw05.CreepNames", spec := "creepNames", unfollowed := true, recurses := true, plainKeys := false, apart := false }
def CreepNamesSaid : Prop := creepNamesRow.holds Try.pinned (OpenSpec.ofChange creepNamesSpec)

/-- ITS FALSE NEIGHBOUR: 'it returns false'. Refute it at one input. -/
def creepNamesWrong : ChangeSpec := { name := "creepNames", fn := fun _ => fun
  | [] => { results := [.lit (.bool false)], args := [] }
  | _ => none }
def CreepNamesWrongFalsely : Prop := creepNamesRow.holds Try.pinned (OpenSpec.ofChange creepNamesWrong)

/-- 'tensilelaw05.CreepTruth': WHATEVER THE INPUT: true; the input reads as it did. -/
def creepTruthSpec : ChangeSpec := { name := "creepTruth", fn := fun _ => fun
  | [d1, d2, d3, d4, d5] => { results := [.lit (.bool true)], args := [d1, d2, d3, d4, d5] }
  | _ => none }
def creepTruthRow : OpenClaim := { program := "ytfijaafkagcmmaa", sum := "1b797fdd54d95bcad331d6d10961353729a78d0bc7f1983df52dc90644fb606e", func := "tensile/tensilelaw05.CreepTruth", spec := "creepTruth", unfollowed := true, recurses := true, plainKeys := false, apart := false }
def CreepTruthSaid : Prop := creepTruthRow.holds Try.pinned (OpenSpec.ofChange creepTruthSpec)

/-- ITS FALSE NEIGHBOUR: 'it returns false'. Refute it at one input. -/
def creepTruthWrong : ChangeSpec := { name := "creepTruth", fn := fun _ => fun
  | [d1, d2, d3, d4, d5] => { results := [.lit (.bool false)], args := [d1, d2, d3, d4, d5] }
  | _ => none }
def CreepTruthWrongFalsely : Prop := creepTruthRow.holds Try.pinned (OpenSpec.ofChange creepTruthWrong)

/-- 'tensilelaw05.CreepCut': WHATEVER THE INPUT: true; the input reads as it did. -/
def creepCutSpec : ChangeSpec := { name := "creepCut", fn := fun _ => fun
  | [d1, d2, d3, d4, d5, d6] => { results := [.lit (.bool true)], args := [d1, d2, d3, d4, d5, d6] }
  | _ => none }
def creepCutRow : OpenClaim := { program := "ytfijaafkagcmmaa", sum := "1b797fdd54d95bcad331d6d10961353729a78d0bc7f1983df52dc90644fb606e", func := "tensile/tensilelaw05.CreepCut", spec := "creepCut", unfollowed := true, recurses := true, plainKeys := false, apart := false }
def CreepCutSaid : Prop := creepCutRow.holds Try.pinned (OpenSpec.ofChange creepCutSpec)

/-- ITS FALSE NEIGHBOUR: 'it returns false'. Refute it at one input. -/
def creepCutWrong : ChangeSpec := { name := "creepCut", fn := fun _ => fun
  | [d1, d2, d3, d4, d5, d6] => { results := [.lit (.bool false)], args := [d1, d2, d3, d4, d5, d6] }
  | _ => none }
def CreepCutWrongFalsely : Prop := creepCutRow.holds Try.pinned (OpenSpec.ofChange creepCutWrong)

/-- 'tensilelaw05.CreepMore': WHATEVER THE INPUT: true; the input reads as it did. -/
def creepMoreSpec : ChangeSpec := { name := "creepMore", fn := fun _ => fun
  | [d1, d2, d3, d4, d5] => { results := [.lit (.bool true)], args := [d1, d2, d3, d4, d5] }
  | _ => none }
def creepMoreRow : OpenClaim := { program := "ytfijaafkagcmmaa", sum := "1b797fdd54d95bcad331d6d10961353729a78d0bc7f1983df52dc90644fb606e", func := "tensile/tensilelaw05.CreepMore", spec := "creepMore", unfollowed := true, recurses := true, plainKeys := false, apart := false }
def CreepMoreSaid : Prop := creepMoreRow.holds Try.pinned (OpenSpec.ofChange creepMoreSpec)

/-- ITS FALSE NEIGHBOUR: 'it returns false'. Refute it at one input. -/
def creepMoreWrong : ChangeSpec := { name := "creepMore", fn := fun _ => fun
  | [d1, d2, d3, d4, d5] => { results := [.lit (.bool false)], args := [d1, d2, d3, d4, d5] }
  | _ => none }
def CreepMoreWrongFalsely : Prop := creepMoreRow.holds Try.pinned (OpenSpec.ofChange creepMoreWrong)

/-- 'tensilelaw05.CreepEnds': WHATEVER THE INPUT: true; the input reads as it did. -/
def creepEndsSpec : ChangeSpec := { name := "creepEnds", fn := fun _ => fun
  | [d1, d2, d3] => { results := [.lit (.bool true)], args := [d1, d2, d3] }
  | _ => none }
def creepEndsRow : OpenClaim := { program := "ytfijaafkagcmmaa", sum := "1b797fdd54d95bcad331d6d10961353729a78d0bc7f1983df52dc90644fb606e", func := "tensile/tensilelaw05.CreepEnds", spec := "creepEnds", unfollowed := true, recurses := true, plainKeys := false, apart := false }
def CreepEndsSaid : Prop := creepEndsRow.holds Try.pinned (OpenSpec.ofChange creepEndsSpec)

/-- ITS FALSE NEIGHBOUR: 'it returns false'. Refute it at one input. -/
def creepEndsWrong : ChangeSpec := { name := "creepEnds", fn := fun _ => fun
  | [d1, d2, d3] => { results := [.lit (.bool false)], args := [d1, d2, d3] }
  | _ => none }
def CreepEndsWrongFalsely : Prop := creepEndsRow.holds Try.pinned (OpenSpec.ofChange creepEndsWrong)

/-- 'tensilelaw05.CreepLonger': WHATEVER THE INPUT: true; the input reads as it did. -/
def creepLongerSpec : ChangeSpec := { name := "creepLonger", fn := fun _ => fun
  | [d1, d2, d3, d4, d5] => { results := [.lit (.bool true)], args := [d1, d2, d3, d4, d5] }
  | _ => none }
def creepLongerRow : OpenClaim := { program := "ytfijaafkagcmmaa", sum := "1b797fdd54d95bcad331d6d10961353729a78d0bc7f1983df52dc90644fb606e", func := "tensile/tensilelaw05.CreepLonger", spec := "creepLonger", unfollowed := true, recurses := true, plainKeys := false, apart := false }
def CreepLongerSaid : Prop := creepLongerRow.holds Try.pinned (OpenSpec.ofChange creepLongerSpec)

/-- ITS FALSE NEIGHBOUR: 'it returns false'. Refute it at one input. -/
def creepLongerWrong : ChangeSpec := { name := "creepLonger", fn := fun _ => fun
  | [d1, d2, d3, d4, d5] => { results := [.lit (.bool false)], args := [d1, d2, d3, d4, d5] }
  | _ => none }
def CreepLongerWrongFalsely : Prop := creepLongerRow.holds Try.pinned (OpenSpec.ofChange creepLongerWrong)

/-- 'tensilelaw05.CreepLife': WHATEVER THE INPUT: true; the input reads as it did. -/
def creepLifeSpec : ChangeSpec := { name := "creepLife", fn := fun _ => fun
  | [d1, d2, d3, d4] => { results := [.lit (.bool true)], args := [d1, d2, d3, d4] }
  | _ => none }
def creepLifeRow : OpenClaim := { program := "ytfijaafkagcmmaa", sum := "1b797fdd54d95bcad331d6d10961353729a78d0bc7f1983df52dc90644fb606e", func := "tensile/tensilelaw05.CreepLife", spec := "creepLife", unfollowed := true, recurses := true, plainKeys := false, apart := false }
def CreepLifeSaid : Prop := creepLifeRow.holds Try.pinned (OpenSpec.ofChange creepLifeSpec)

/-- ITS FALSE NEIGHBOUR: 'it returns false'. Refute it at one input. -/
def creepLifeWrong : ChangeSpec := { name := "creepLife", fn := fun _ => fun
  | [d1, d2, d3, d4] => { results := [.lit (.bool false)], args := [d1, d2, d3, d4] }
  | _ => none }
def CreepLifeWrongFalsely : Prop := creepLifeRow.holds Try.pinned (OpenSpec.ofChange creepLifeWrong)

/-- 'tensilelaw05.CreepDoubtful': WHATEVER THE INPUT: true; the input reads as it did. -/
def creepDoubtfulSpec : ChangeSpec := { name := "creepDoubtful", fn := fun _ => fun
  | [d1, d2, d3] => { results := [.lit (.bool true)], args := [d1, d2, d3] }
  | _ => none }
def creepDoubtfulRow : OpenClaim := { program := "ytfijaafkagcmmaa", sum := "1b797fdd54d95bcad331d6d10961353729a78d0bc7f1983df52dc90644fb606e", func := "tensile/tensilelaw05.CreepDoubtful", spec := "creepDoubtful", unfollowed := true, recurses := true, plainKeys := false, apart := false }
def CreepDoubtfulSaid : Prop := creepDoubtfulRow.holds Try.pinned (OpenSpec.ofChange creepDoubtfulSpec)

/-- ITS FALSE NEIGHBOUR: 'it returns false'. Refute it at one input. -/
def creepDoubtfulWrong : ChangeSpec := { name := "creepDoubtful", fn := fun _ => fun
  | [d1, d2, d3] => { results := [.lit (.bool false)], args := [d1, d2, d3] }
  | _ => none }
def CreepDoubtfulWrongFalsely : Prop := creepDoubtfulRow.holds Try.pinned (OpenSpec.ofChange creepDoubtfulWrong)

/- THE SECOND FORM. 'bulk': how many values and letters a reading holds, each counted each time it is reached (what is shared counts as often as it is met; a slice's spare places count too). A statement '..UptoSaid' is the law's where the arguments, and the package variables that the reading takes, are together of bulk at most 1048576: NARROWER than '..Said'. Prove '..Said' where nothing that the law and all that it calls make is longer than what came in: it says more and counts as full. Else prove '..UptoSaid'. A law counts once. -/
mutual
def uptoBulk {H : Type} : DataW H → Nat
  | .lit (.string bytes) => bytes.length + 1
  | .lit _ => 1
  | .nil => 1
  | .ptr d => uptoBulk d + 1
  | .slice elems spare => uptoBulkAll elems + uptoBulkAll spare + 1
  | .agg parts => uptoBulkAll parts + 1
  | .iface _ d => uptoBulk d + 1
  | .map entries => uptoBulkEntries entries + 1
  | .held _ => 1
def uptoBulkAll {H : Type} : List (DataW H) → Nat
  | [] => 0
  | d :: r => uptoBulk d + uptoBulkAll r
def uptoBulkEntries {H : Type} : List (Lit × DataW H) → Nat
  | [] => 0
  | x :: r => uptoBulkEntry x + uptoBulkEntries r
def uptoBulkEntry {H : Type} : Lit × DataW H → Nat
  | (.string bytes, d) => bytes.length + uptoBulk d + 1
  | (_, d) => uptoBulk d + 1
 end
def uptoSmall : (H : Type) → List (DataW H) → Bool := fun _ ds => decide (uptoBulkAll ds ≤ 1048576)
def OpenSpec.upto (s : _root_.Go.ChangeSpec) : _root_.Go.OpenSpec := { _root_.Go.OpenSpec.ofChange s with cond := some uptoSmall }

/-- 'tensilelaw05.CreepAllows', WHERE WHAT IT READS IS OF BULK AT MOST 1048576: true; the input reads as it did. -/
def creepAllowsUptoRow : OpenClaim := { program := "ytfijaafkagcmmaa", sum := "1b797fdd54d95bcad331d6d10961353729a78d0bc7f1983df52dc90644fb606e", func := "tensile/tensilelaw05.CreepAllows", spec := "creepAllows", unfollowed := true, recurses := true, plainKeys := false, apart := false, narrowed := true }
def CreepAllowsUptoSaid : Prop := creepAllowsUptoRow.holds Try.pinned (OpenSpec.upto creepAllowsSpec)

/-- 'tensilelaw05.CreepRates', WHERE WHAT IT READS IS OF BULK AT MOST 1048576: true; the input reads as it did. -/
def creepRatesUptoRow : OpenClaim := { program := "ytfijaafkagcmmaa", sum := "1b797fdd54d95bcad331d6d10961353729a78d0bc7f1983df52dc90644fb606e", func := "tensile/tensilelaw05.CreepRates", spec := "creepRates", unfollowed := true, recurses := true, plainKeys := false, apart := false, narrowed := true }
def CreepRatesUptoSaid : Prop := creepRatesUptoRow.holds Try.pinned (OpenSpec.upto creepRatesSpec)

/-- 'tensilelaw05.CreepStretches', WHERE WHAT IT READS IS OF BULK AT MOST 1048576: true; the input reads as it did. -/
def creepStretchesUptoRow : OpenClaim := { program := "ytfijaafkagcmmaa", sum := "1b797fdd54d95bcad331d6d10961353729a78d0bc7f1983df52dc90644fb606e", func := "tensile/tensilelaw05.CreepStretches", spec := "creepStretches", unfollowed := true, recurses := true, plainKeys := false, apart := false, narrowed := true }
def CreepStretchesUptoSaid : Prop := creepStretchesUptoRow.holds Try.pinned (OpenSpec.upto creepStretchesSpec)

/-- 'tensilelaw05.CreepLives', WHERE WHAT IT READS IS OF BULK AT MOST 1048576: true; the input reads as it did. -/
def creepLivesUptoRow : OpenClaim := { program := "ytfijaafkagcmmaa", sum := "1b797fdd54d95bcad331d6d10961353729a78d0bc7f1983df52dc90644fb606e", func := "tensile/tensilelaw05.CreepLives", spec := "creepLives", unfollowed := true, recurses := true, plainKeys := false, apart := false, narrowed := true }
def CreepLivesUptoSaid : Prop := creepLivesUptoRow.holds Try.pinned (OpenSpec.upto creepLivesSpec)

/-- 'tensilelaw05.CreepDoubts', WHERE WHAT IT READS IS OF BULK AT MOST 1048576: true; the input reads as it did. -/
def creepDoubtsUptoRow : OpenClaim := { program := "ytfijaafkagcmmaa", sum := "1b797fdd54d95bcad331d6d10961353729a78d0bc7f1983df52dc90644fb606e", func := "tensile/tensilelaw05.CreepDoubts", spec := "creepDoubts", unfollowed := true, recurses := true, plainKeys := false, apart := false, narrowed := true }
def CreepDoubtsUptoSaid : Prop := creepDoubtsUptoRow.holds Try.pinned (OpenSpec.upto creepDoubtsSpec)

/-- 'tensilelaw05.CreepNames', WHERE WHAT IT READS IS OF BULK AT MOST 1048576: true; the input reads as it did. -/
def creepNamesUptoRow : OpenClaim := { program := "ytfijaafkagcmmaa", sum := "1b797fdd54d95bcad331d6d10961353729a78d0bc7f1983df52dc90644fb606e", func := "tensile/tensilelaw05.CreepNames", spec := "creepNames", unfollowed := true, recurses := true, plainKeys := false, apart := false, narrowed := true }
def CreepNamesUptoSaid : Prop := creepNamesUptoRow.holds Try.pinned (OpenSpec.upto creepNamesSpec)

/-- 'tensilelaw05.CreepTruth', WHERE WHAT IT READS IS OF BULK AT MOST 1048576: true; the input reads as it did. -/
def creepTruthUptoRow : OpenClaim := { program := "ytfijaafkagcmmaa", sum := "1b797fdd54d95bcad331d6d10961353729a78d0bc7f1983df52dc90644fb606e", func := "tensile/tensilelaw05.CreepTruth", spec := "creepTruth", unfollowed := true, recurses := true, plainKeys := false, apart := false, narrowed := true }
def CreepTruthUptoSaid : Prop := creepTruthUptoRow.holds Try.pinned (OpenSpec.upto creepTruthSpec)

/-- 'tensilelaw05.CreepCut', WHERE WHAT IT READS IS OF BULK AT MOST 1048576: true; the input reads as it did. -/
def creepCutUptoRow : OpenClaim := { program := "ytfijaafkagcmmaa", sum := "1b797fdd54d95bcad331d6d10961353729a78d0bc7f1983df52dc90644fb606e", func := "tensile/tensilelaw05.CreepCut", spec := "creepCut", unfollowed := true, recurses := true, plainKeys := false, apart := false, narrowed := true }
def CreepCutUptoSaid : Prop := creepCutUptoRow.holds Try.pinned (OpenSpec.upto creepCutSpec)

/-- 'tensilelaw05.CreepMore', WHERE WHAT IT READS IS OF BULK AT MOST 1048576: true; the input reads as it did. -/
def creepMoreUptoRow : OpenClaim := { program := "ytfijaafkagcmmaa", sum := "1b797fdd54d95bcad331d6d10961353729a78d0bc7f1983df52dc90644fb606e", func := "tensile/tensilelaw05.CreepMore", spec := "creepMore", unfollowed := true, recurses := true, plainKeys := false, apart := false, narrowed := true }
def CreepMoreUptoSaid : Prop := creepMoreUptoRow.holds Try.pinned (OpenSpec.upto creepMoreSpec)

/-- 'tensilelaw05.CreepEnds', WHERE WHAT IT READS IS OF BULK AT MOST 1048576: true; the input reads as it did. -/
def creepEndsUptoRow : OpenClaim := { program := "ytfijaafkagcmmaa", sum := "1b797fdd54d95bcad331d6d10961353729a78d0bc7f1983df52dc90644fb606e", func := "tensile/tensilelaw05.CreepEnds", spec := "creepEnds", unfollowed := true, recurses := true, plainKeys := false, apart := false, narrowed := true }
def CreepEndsUptoSaid : Prop := creepEndsUptoRow.holds Try.pinned (OpenSpec.upto creepEndsSpec)

/-- 'tensilelaw05.CreepLonger', WHERE WHAT IT READS IS OF BULK AT MOST 1048576: true; the input reads as it did. -/
def creepLongerUptoRow : OpenClaim := { program := "ytfijaafkagcmmaa", sum := "1b797fdd54d95bcad331d6d10961353729a78d0bc7f1983df52dc90644fb606e", func := "tensile/tensilelaw05.CreepLonger", spec := "creepLonger", unfollowed := true, recurses := true, plainKeys := false, apart := false, narrowed := true }
def CreepLongerUptoSaid : Prop := creepLongerUptoRow.holds Try.pinned (OpenSpec.upto creepLongerSpec)

/-- 'tensilelaw05.CreepLife', WHERE WHAT IT READS IS OF BULK AT MOST 1048576: true; the input reads as it did. -/
def creepLifeUptoRow : OpenClaim := { program := "ytfijaafkagcmmaa", sum := "1b797fdd54d95bcad331d6d10961353729a78d0bc7f1983df52dc90644fb606e", func := "tensile/tensilelaw05.CreepLife", spec := "creepLife", unfollowed := true, recurses := true, plainKeys := false, apart := false, narrowed := true }
def CreepLifeUptoSaid : Prop := creepLifeUptoRow.holds Try.pinned (OpenSpec.upto creepLifeSpec)

/-- 'tensilelaw05.CreepDoubtful', WHERE WHAT IT READS IS OF BULK AT MOST 1048576: true; the input reads as it did. -/
def creepDoubtfulUptoRow : OpenClaim := { program := "ytfijaafkagcmmaa", sum := "1b797fdd54d95bcad331d6d10961353729a78d0bc7f1983df52dc90644fb606e", func := "tensile/tensilelaw05.CreepDoubtful", spec := "creepDoubtful", unfollowed := true, recurses := true, plainKeys := false, apart := false, narrowed := true }
def CreepDoubtfulUptoSaid : Prop := creepDoubtfulUptoRow.holds Try.pinned (OpenSpec.upto creepDoubtfulSpec)

end Rows
end Go.Proofs.Ytfijaafkagcmmaa
