/- A region that only reads, its calls too, within a round of a range over a function. No condition. -/
import Derived.Test.YtfijaafkagcmmaaBAJ
import Derived.Lib.QuietBelow
import Derived.Deep.QuietTactic
import Derived.BigQuiet
namespace Go.Proofs.Ytfijaafkagcmmaa
open Go.RowKit
variable {P : Program} {Q : Exit → Act → World → Prop}

theorem wpIn_region_quiet_round {l id : Nat} {C : World → Prop} {ops : Array Oper} {a : Act} {w : World} (hlo : ¬ LetsOut Q) (hm : P.follows .mixedOrders = true) (hB : Region.lexB .any ops = true) (hd : noDefer ops = true) (hC : C { w with drawn := w.drawn + 1 })
    (h : wpQuiet P ops C (fun a' => ∀ w', C w' → Q .normal a' w') ops.toList a) : (Code.region id ops true).wpIn (Fence.wide.inRound l) 0 P Q a w := by
  simp only [Region.lexB, Bool.and_eq_true] at hB
  refine wpIn_region_any hm (wpAny_round hd hlo _ _ _ _ (wpAny_of_quiet (Q := fun a' => ∀ w', C w' → Q .normal a' w') (fun _ w' hw' h => h w' hw') _ _ _ _ hC ?_))
  have := wpAnyQ_lex (C := C) (md := .any) hB.1 ops.toList 0 (Array.replicate ops.size false) a (by simp) (by simpa using hB.2) h
  simpa using this

open Go.Sort in
theorem wpIn_region_below_round {l id : Nat} {ops : List Oper} {a : Act} {w : World} (hlo : ¬ LetsOut Q) (hm : P.follows .mixedOrders = true) (hB : (Region.lexB .any ops.toArray && noDefer ops.toArray) = true)
    (h : wpQuiet P ops.toArray (fun w' => ∃ p : Regrown, w' = grow (redrawn w p.d) p.os) (fun a' => ∀ w', (∃ p : Regrown, w' = grow (redrawn w p.d) p.os) → Q .normal a' w') ops a) : (Code.region id ops.toArray true).wpIn (Fence.wide.inRound l) 0 P Q a w := by
  simp only [Bool.and_eq_true] at hB
  exact wpIn_region_quiet_round (C := fun w' => ∃ p : Regrown, w' = grow (redrawn w p.d) p.os) hlo hm hB.1 hB.2 ⟨⟨w.drawn + 1, #[]⟩, by rw [grow_empty]; rfl⟩ (by simpa using h)
end Go.Proofs.Ytfijaafkagcmmaa
