/- Small contracts of ranges, pictures and comparisons. No condition. -/
import Derived.Test.YtplmlmmjfkbabaaK
import Derived.Deep.QuietTactic
import Derived.Laws.StructEq
import Derived.Maps.Keyed
import Derived.Laws.EntriesVeiled
namespace Go.Proofs.Ytplmlmmjfkbabaa
open Go.RowKit

def hasB (lo hi n : Int) : Bool := decide (lo ≤ n ∧ n ≤ hi)
def picB (n p : Int) : Bool := decide (0 ≤ p ∧ p < n)

set_option maxHeartbeats 400000 in
theorem has_any (lo hi n : Int) (w : World) :
    Calls Try.prog 57 #[.agg #[.int .i64 lo, .int .i64 hi], .int .i64 n] w fun e w' => e = .returned (.bool (hasB lo hi n)) ∧ Below w.heap.size w w' := by
  go_enter Try.func57, Try.ntmps57
  go_wp2
  all_goals
    go_ret
    refine ⟨ret_bool ?_, box_below _ _⟩
    simp [hasB, *]
    try omega
set_option maxHeartbeats 400000 in
theorem cut_any (lo hi lo2 hi2 : Int) (w : World) :
    Calls Try.prog 81 #[.agg #[.int .i64 lo, .int .i64 hi], .agg #[.int .i64 lo2, .int .i64 hi2]] w fun e w' => e = .returned (.agg #[.int .i64 (max lo lo2), .int .i64 (min hi hi2)]) ∧ Below w.heap.size w w' := by
  go_enter Try.func81, Try.ntmps81
  go_wp2
  all_goals
    refine bodyPost_ret (v := .agg #[.int .i64 (max lo lo2), .int .i64 (min hi hi2)]) ?_ rfl ⟨rfl, below3 _ _ _ _⟩
    simp [results, Try.results81, go_sem]
    try omega
set_option maxHeartbeats 400000 in
theorem everyGrade_any (w : World) :
    Calls Try.prog 56 #[] w fun e w' => e = .returned (.agg #[.int .i64 0, .int .i64 100]) ∧ Below w.heap.size w w' := by
  go_enter Try.func56, Try.ntmps56
  go_wp2
  all_goals
    refine bodyPost_ret (v := .agg #[.int .i64 0, .int .i64 100]) ?_ rfl ⟨rfl, box_below _ _⟩
    simp [results, Try.results56, go_sem]
set_option maxHeartbeats 400000 in
theorem everyDiff_any (w : World) :
    Calls Try.prog 88 #[] w fun e w' => e = .returned (.agg #[.int .i64 (-100), .int .i64 100]) ∧ Below w.heap.size w w' := by
  go_enter Try.func88, Try.ntmps88
  go_wp2
  all_goals
    refine bodyPost_ret (v := .agg #[.int .i64 (-100), .int .i64 100]) ?_ rfl ⟨rfl, box_below _ _⟩
    simp [results, Try.results88, go_sem]
set_option maxHeartbeats 400000 in
theorem hasPicture_any (n p : Int) (v : Value) (hv : v.oneCell' = true) (w : World) :
    Calls Try.prog 87 #[.agg #[.int .i64 n, v], .int .i64 p] w fun e w' => e = .returned (.bool (picB n p)) ∧ Below w.heap.size w w' := by
  go_enter Try.func87, Try.ntmps87
  go_wp2
  all_goals
    go_ret
    refine ⟨ret_bool ?_, box_below _ _⟩
    simp [picB, *]
    try omega
set_option maxHeartbeats 400000 in
theorem place_any (p : Int) (w : World) (h : -1 ≤ p ∧ p ≤ 1000) :
    Calls Try.prog 74 #[.int .i64 p] w fun e w' => e = .returned (.int .i64 (pl p : Int)) ∧ Below w.heap.size w w' := by
  have hw : IntKind.i64.wrap (p + 1) = (pl p : Int) := by rw [IntWalk.i64_in _ (by omega)]; unfold pl; omega
  go_enter Try.func74, Try.ntmps74
  go_wp2
  go_ret
  exact ⟨rfl, Below.refl _ _⟩
set_option maxHeartbeats 400000 in
theorem plus_any (lo hi lo2 hi2 : Int) (w : World) (h1 : IntKind.i64.wrap (lo + lo2) = lo + lo2) (h2 : IntKind.i64.wrap (hi + hi2) = hi + hi2) :
    Calls Try.prog 80 #[.agg #[.int .i64 lo, .int .i64 hi], .agg #[.int .i64 lo2, .int .i64 hi2]] w fun e w' => e = .returned (.agg #[.int .i64 (lo + lo2), .int .i64 (hi + hi2)]) ∧ Below w.heap.size w w' := by
  go_enter Try.func80, Try.ntmps80
  go_wp2
  all_goals
    refine bodyPost_ret (v := .agg #[.int .i64 (lo + lo2), .int .i64 (hi + hi2)]) ?_ rfl ⟨rfl, below3 _ _ _ _⟩
    simp [results, Try.results80, go_sem]
set_option maxHeartbeats 400000 in
theorem low_any (lo hi : Int) (w : World) : Calls Try.prog 76 #[.agg #[.int .i64 lo, .int .i64 hi]] w fun e w' => e = .returned (.int .i64 lo) ∧ Below w.heap.size w w' := by
  go_enter Try.func76, Try.ntmps76
  go_wp2
  go_ret
  exact ⟨rfl, box_below _ _⟩
set_option maxHeartbeats 400000 in
theorem high_any (lo hi : Int) (w : World) : Calls Try.prog 75 #[.agg #[.int .i64 lo, .int .i64 hi]] w fun e w' => e = .returned (.int .i64 hi) ∧ Below w.heap.size w w' := by
  go_enter Try.func75, Try.ntmps75
  go_wp2
  go_ret
  exact ⟨rfl, box_below _ _⟩
set_option maxHeartbeats 400000 in
theorem endOf_any (b : Bool) (w : World) : Calls Try.prog 54 #[.bool b] w fun e w' => e = .returned (.func (.func (if b then 75 else 76)) #[] #[]) ∧ Below w.heap.size w w' := by
  cases b <;>
  · go_enter Try.func54, Try.ntmps54
    go_wp2
    go_ret
    exact ⟨rfl, Below.refl _ _⟩
/-- A bound: where it comes from, where it leads, by how much. -/
structure Bd where
  f : Int
  t : Int
  lo : Int
  hi : Int
def leftB (c : Cm) : Bd := ⟨c.r, c.l, c.lo, c.hi⟩
def rightB (c : Cm) : Bd := ⟨c.l, c.r, -c.hi, -c.lo⟩
def bdV (b : Bd) : Value := .agg #[.int .i64 b.f, .int .i64 b.t, .int .i64 b.lo, .int .i64 b.hi]
def cmV (c : Cm) : Value := .agg #[.int .i64 c.l, .int .i64 c.r, .int .i64 c.lo, .int .i64 c.hi]
set_option maxHeartbeats 400000 in
theorem ofLeft_any (c : Cm) (w : World) : Calls Try.prog 97 #[cmV c] w fun e w' => e = .returned (bdV (leftB c)) ∧ Below w.heap.size w w' := by
  obtain ⟨l, r, lo, hi⟩ := c
  simp only [cmV, bdV, leftB]
  go_enter Try.func97, Try.ntmps97
  go_wp2
  refine bodyPost_ret (v := .agg #[.int .i64 r, .int .i64 l, .int .i64 lo, .int .i64 hi]) ?_ rfl ⟨rfl, below2 _ _ _⟩
  simp [results, Try.results97, go_sem]
set_option maxHeartbeats 400000 in
theorem ofRight_any (c : Cm) (w : World) (h1 : IntKind.i64.wrap (-c.hi) = -c.hi) (h2 : IntKind.i64.wrap (-c.lo) = -c.lo) : Calls Try.prog 98 #[cmV c] w fun e w' => e = .returned (bdV (rightB c)) ∧ Below w.heap.size w w' := by
  obtain ⟨l, r, lo, hi⟩ := c
  simp only [cmV, bdV, rightB] at *
  go_enter Try.func98, Try.ntmps98
  go_wp2
  refine bodyPost_ret (v := .agg #[.int .i64 l, .int .i64 r, .int .i64 (-hi), .int .i64 (-lo)]) ?_ rfl ⟨rfl, below2 _ _ _⟩
  simp [results, Try.results98, go_sem]
set_option maxHeartbeats 400000 in
theorem sides_any (w : World) : Calls Try.prog 95 #[] w fun e w' => e = .returned (.agg #[.func (.func 97) #[] #[], .func (.func 98) #[] #[]]) ∧ Below w.heap.size w w' := by
  go_enter Try.func95, Try.ntmps95
  go_wp2
  refine bodyPost_ret (v := .agg #[.func (.func 97) #[] #[], .func (.func 98) #[] #[]]) ?_ rfl ⟨rfl, box_below _ _⟩
  simp [results, Try.results95, go_sem]
set_option maxHeartbeats 400000 in
/-- Of a number and one other. -/
theorem least_any (a b : Int) (g cap : Nat) (t : TypeId) (w : World) (hb : w.heap[g]? = some (.cells #[.int .i64 b] t (0, 0))) : Calls Try.prog 96 #[.int .i64 a, .slice (some ⟨g, 0, none⟩) 1 cap] w fun e w' => e = .returned (.int .i64 (min a b)) ∧ Below w.heap.size w w' := by
  have c0 := cell_of_row w g 0 _ _ _ hb
  have l0 := lt_of_block hb
  simp at c0
  have HBT := Lib.hid (Below.refl w.heap.size w)
  clear hb
  have hw9 : IntKind.i64.wrap ((0 : Int) + 1) = 1 := by decide
  go_enter Try.func96, Try.ntmps96
  go_wp2
  go_loopw [0, 9] (fun s i wr => wr = w ∧ ((i = .int .i64 0 ∧ s = .int .i64 a) ∨ (i = .int .i64 1 ∧ s = .int .i64 (min a b)))) (fun _ i _ => 1 - (intOf i).toNat)
  case atStart => exact ⟨rfl, .inl ⟨rfl, rfl⟩⟩
  case round =>
    obtain ⟨rfl, ⟨rfl, rfl⟩ | ⟨rfl, rfl⟩⟩ := hrel
    · go_wp2
      go_roundw
      case rel =>
        refine ⟨trivial, .inr ⟨rfl, ?_⟩⟩
        congr 1
        split <;> omega
      case measure => simp [intOf]
    · go_wp2
      go_ret
      exact ⟨rfl, HBT.out⟩
end Go.Proofs.Ytplmlmmjfkbabaa
