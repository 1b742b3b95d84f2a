/- One range in another: the law's test. No condition. Plain facts for CreepMore. -/
import Derived.Test.YtfijaafkagcmmaaF1
namespace Go.Proofs.Ytfijaafkagcmmaa
open Go.RowKit Go.Shelf
attribute [local irreducible] arrV wpQuiet

def insideB (a b : Rg) : Bool := decide (b.lo ≤ a.lo) && decide (a.hi ≤ b.hi)
set_option maxHeartbeats 400000 in
theorem inside_any (a b : Rg) (w : World) :
    Calls Try.prog 51 #[.agg #[.int .i64 a.lo, .int .i64 a.hi], .agg #[.int .i64 b.lo, .int .i64 b.hi]] w fun e w' => e = .returned (.bool (insideB a b)) ∧ Below w.heap.size w w' := by
  have eI : insideB a b = (decide (b.lo ≤ a.lo) && decide (a.hi ≤ b.hi)) := rfl
  rw [eI]
  generalize a.lo = al at *
  generalize a.hi = ah at *
  generalize b.lo = bl at *
  generalize b.hi = bh at *
  clear eI
  go_enter Try.func51, Try.ntmps51
  go_wp2
  all_goals
    go_ret
    refine ⟨ret_bool ?_, below2 _ _ _⟩
    simp [*]
    try (intros; omega)
end Go.Proofs.Ytfijaafkagcmmaa
