/- Small contracts of segments, ends and lives. No condition. -/
import Derived.Test.YtfijaafkagcmmaaS
import Derived.Laws.EntriesVeiled
namespace Go.Proofs.Ytfijaafkagcmmaa
open Go.RowKit

def rateB (lo hi : Int) : Bool := withinB lo hi 0 1000 && decide (hi - lo ≤ 20)
def segB (n : Nat) (b lo hi : Int) : Bool := bandB n b && withinB lo hi 0 1000000

set_option maxHeartbeats 400000 in
theorem band_any (a : Option Addr) (n cap : Nat) (b : Int) (w : World) (hn : n ≤ maxLen) :
    Calls Try.prog 86 #[.agg #[.slice a n cap], .int .i64 b] w fun e w' => e = .returned (.bool (bandB n b)) ∧ Below w.heap.size w w' := by
  unfold maxLen at hn
  go_enter Try.func86, Try.ntmps86
  go_wp2
  all_goals
    go_ret
    refine ⟨ret_bool ?_, box_below _ _⟩
    simp [bandB, *]
    try omega
set_option maxHeartbeats 400000 in
theorem segment_any (a : Option Addr) (n cap : Nat) (b lo hi : Int) (w : World) (hn : n ≤ maxLen) :
    Calls Try.prog 81 #[.agg #[.slice a n cap], .agg #[.int .i64 b, .int .i64 lo, .int .i64 hi]] w fun e w' => e = .returned (.bool (segB n b lo hi)) ∧ Below w.heap.size w w' := by
  have e0 : segB n b lo hi = (bandB n b && withinB lo hi 0 1000000) := rfl
  have B0 := Lib.hid fun w => band_any a n cap b w hn
  have W0 := Lib.hid (within_any lo hi 0 1000000)
  rw [e0]; clear e0
  have hB := below2 w (.cells #[.slice a n cap] 33) (.cells #[.int .i64 b, .int .i64 lo, .int .i64 hi] 76)
  generalize withinB lo hi 0 1000000 = z at *
  cases h : bandB n b with
  | false =>
    rw [h] at B0
    clear h
    go_enter Try.func81, Try.ntmps81
    go_wp2_with (go_at_call 86; refine (B0.out _).mono ?_; rintro e w1 ⟨rfl, hb1⟩)
    go_ret
    exact ⟨rfl, below_to hB hb1⟩
  | true =>
    rw [h] at B0
    clear h
    go_enter Try.func81, Try.ntmps81
    go_wp2_with (first
      | (go_at_call 86; refine (B0.out _).mono ?_; rintro e w1 ⟨rfl, hb1⟩
         have k1 : w1.cell? ⟨w.heap.size + 1, 1, none⟩ = some (.int .i64 lo) := (hb1.cell (p := ⟨w.heap.size + 1, 1, none⟩) (by simp)).trans (by simp [go_sem])
         have k2 : w1.cell? ⟨w.heap.size + 1, 2, none⟩ = some (.int .i64 hi) := (hb1.cell (p := ⟨w.heap.size + 1, 2, none⟩) (by simp)).trans (by simp [go_sem]))
      | (go_at_call 105; refine (W0.out _).mono ?_; rintro e w2 ⟨rfl, hb2⟩))
    go_ret
    exact ⟨rfl, below_to (below_to hB hb1) hb2⟩
set_option maxHeartbeats 400000 in
theorem isOfRates_any (lo hi : Int) (w : World) :
    Calls Try.prog 97 #[.agg #[.int .i64 lo, .int .i64 hi]] w fun e w' => e = .returned (.bool (rateB lo hi)) ∧ Below w.heap.size w w' := by
  have e0 : rateB lo hi = (withinB lo hi 0 1000 && decide (hi - lo ≤ 20)) := rfl
  have W0 := Lib.hid (within_any lo hi 0 1000)
  have hw : withinB lo hi 0 1000 = true → 0 ≤ lo ∧ lo ≤ hi ∧ hi ≤ 1000 := by simp [withinB]
  rw [e0]; clear e0
  cases h : withinB lo hi 0 1000 with
  | false =>
    rw [h] at W0
    clear h hw
    go_enter Try.func97, Try.ntmps97
    go_wp2_with (go_at_call 105; refine (W0.out _).mono ?_; rintro e w1 ⟨rfl, hb1⟩)
    go_ret
    exact ⟨rfl, below_to (box_below _ _) hb1⟩
  | true =>
    obtain ⟨h1, h2, h3⟩ := hw h
    rw [h] at W0
    clear h hw
    have hwr : IntKind.i64.wrap (hi - lo) = hi - lo := IntWalk.i64_in _ (by omega)
    go_enter Try.func97, Try.ntmps97
    go_wp2_with (go_at_call 105; refine (W0.out _).mono ?_; rintro e w1 ⟨rfl, hb1⟩; obtain ⟨k0, k1⟩ := after1 hb1)
    go_ret
    exact ⟨by simp, below_to (box_below _ _) hb1⟩
set_option maxHeartbeats 400000 in
theorem every_any (w : World) :
    Calls Try.prog 87 #[] w fun e w' => e = .returned (.agg #[.int .i64 0, .int .i64 10000000000]) ∧ Below w.heap.size w w' := by
  go_enter Try.func87, Try.ntmps87
  go_wp2
  refine bodyPost_ret (v := .agg #[.int .i64 0, .int .i64 10000000000]) ?_ rfl ⟨rfl, box_below _ _⟩
  simp [results, Try.results87, go_sem]
set_option maxHeartbeats 400000 in
theorem short_any (a : Option Addr) (n cap : Nat) (w : World) (hn : n ≤ maxLen) :
    Calls Try.prog 79 #[.slice a n cap] w fun e w' => e = .returned (.bool (decide ((n : Int) ≤ 8))) ∧ Below w.heap.size w w' := by
  unfold maxLen at hn
  go_enter Try.func79, Try.ntmps79
  go_wp2
  all_goals
    go_ret
    exact ⟨ret_bool (by simp [*]), Below.refl _ _⟩
set_option maxHeartbeats 400000 in
theorem runShort_any (a : Option Addr) (n cap : Nat) (lo hi : Int) (w : World) (hn : n ≤ maxLen) :
    Calls Try.prog 90 #[.agg #[.slice a n cap, .int .i64 lo, .int .i64 hi]] w fun e w' => e = .returned (.bool (decide ((n : Int) ≤ 8))) ∧ Below w.heap.size w w' := by
  have S0 := Lib.hid fun w => short_any a n cap w hn
  go_enter Try.func90, Try.ntmps90
  go_wp2_with (go_at_call 79; refine (S0.out _).mono ?_; rintro e w1 ⟨rfl, hb1⟩)
  go_ret
  exact ⟨rfl, below_to (box_below _ _) hb1⟩
set_option maxHeartbeats 400000 in
theorem high_any (lo hi : Int) (w : World) :
    Calls Try.prog 82 #[.agg #[.int .i64 lo, .int .i64 hi]] w fun e w' => e = .returned (.int .i64 hi) ∧ Below w.heap.size w w' := by
  go_enter Try.func82, Try.ntmps82
  go_wp2
  go_ret
  exact ⟨rfl, box_below _ _⟩
set_option maxHeartbeats 400000 in
theorem low_any (lo hi : Int) (w : World) :
    Calls Try.prog 84 #[.agg #[.int .i64 lo, .int .i64 hi]] w fun e w' => e = .returned (.int .i64 lo) ∧ Below w.heap.size w w' := by
  go_enter Try.func84, Try.ntmps84
  go_wp2
  go_ret
  exact ⟨rfl, box_below _ _⟩
set_option maxHeartbeats 400000 in
theorem above_any (a b : Int) (w : World) :
    Calls Try.prog 83 #[.int .i64 a, .int .i64 b] w fun e w' => e = .returned (.bool (decide (b < a))) ∧ Below w.heap.size w w' := by
  go_enter Try.func83, Try.ntmps83
  go_wp2
  all_goals
    go_ret
    exact ⟨ret_bool (by simp [*]), Below.refl _ _⟩
set_option maxHeartbeats 400000 in
theorem belowN_any (a b : Int) (w : World) :
    Calls Try.prog 85 #[.int .i64 a, .int .i64 b] w fun e w' => e = .returned (.bool (decide (a < b))) ∧ Below w.heap.size w w' := by
  go_enter Try.func85, Try.ntmps85
  go_wp2
  all_goals
    go_ret
    exact ⟨ret_bool (by simp [*]), Below.refl _ _⟩
def endV (high : Bool) : Value := if high then .agg #[.func (.func 82) #[] #[], .func (.func 83) #[] #[]] else .agg #[.func (.func 84) #[] #[], .func (.func 85) #[] #[]]
set_option maxHeartbeats 400000 in
theorem endAt_any (high : Bool) (w : World) :
    Calls Try.prog 64 #[.bool high] w fun e w' => e = .returned (endV high) ∧ Below w.heap.size w w' := by
  cases high with
  | false =>
    go_enter Try.func64, Try.ntmps64
    go_wp2
    refine bodyPost_ret (v := endV false) ?_ rfl ⟨rfl, box_below _ _⟩
    simp [results, Try.results64, go_sem, endV]
  | true =>
    go_enter Try.func64, Try.ntmps64
    go_wp2
    refine bodyPost_ret (v := endV true) ?_ rfl ⟨rfl, box_below _ _⟩
    simp [results, Try.results64, go_sem, endV]
set_option maxHeartbeats 400000 in
theorem hours_any (st r : Int) (w : World) (h0 : 0 ≤ st) (h1 : st ≤ 10000000000) (h2 : 0 ≤ r) (h3 : r ≤ 1000) :
    Calls Try.prog 89 #[.int .i64 st, .int .i64 r] w fun e w' => e = .returned (.int .i64 (hoursP st r)) ∧ Below w.heap.size w w' := by
  by_cases hs : st = 0
  · subst hs
    have e0 : hoursP 0 r = 0 := by simp [hoursP]
    rw [e0]
    go_enter Try.func89, Try.ntmps89
    go_wp2
    go_ret
    exact ⟨rfl, Below.refl _ _⟩
  · have n0 : (st == 0) = false := by rw [beq_eq_false_iff_ne]; exact hs
    by_cases hr : r = 0
    · subst hr
      have e0 : hoursP st 0 = -1 := by simp [hoursP, hs]
      rw [e0]
      clear hs
      go_enter Try.func89, Try.ntmps89
      go_wp2
      go_ret
      exact ⟨rfl, Below.refl _ _⟩
    · have n1 : (r == 0) = false := by rw [beq_eq_false_iff_ne]; exact hr
      have e0 : hoursP st r = (st - 1) / r + 1 := by simp [hoursP, hs, hr]
      have q1 : 0 ≤ (st - 1) / r := Int.ediv_nonneg (by omega) h2
      have q2 : (st - 1) / r ≤ st - 1 := Int.ediv_le_self _ (by omega)
      have hq : Int.tdiv (st - 1) r = (st - 1) / r := Int.tdiv_eq_ediv_of_nonneg (by omega)
      have w1 : IntKind.i64.wrap (st - 1) = st - 1 := IntWalk.i64_in _ (by omega)
      have w2 : IntKind.i64.wrap ((st - 1) / r) = (st - 1) / r := IntWalk.i64_in _ (by omega)
      have w3 : IntKind.i64.wrap ((st - 1) / r + 1) = (st - 1) / r + 1 := IntWalk.i64_in _ (by omega)
      rw [e0]
      clear hs e0 q1 q2
      go_enter Try.func89, Try.ntmps89
      go_wp2
      go_ret
      exact ⟨rfl, Below.refl _ _⟩
end Go.Proofs.Ytfijaafkagcmmaa
