/- The range of a picture, or of Chart; whether a chain may begin there: contracts. Condition: nothing is great. -/
import Derived.Test.YtplmlmmjfkbabaaUA
import Derived.Test.YtplmlmmjfkbabaaWJ
namespace Go.Proofs.Ytplmlmmjfkbabaa
open Go.RowKit Go.Shelf
attribute [local irreducible] arrV wpQuiet mat shl

set_option maxRecDepth 100000 in
set_option maxHeartbeats 4000000 in
theorem grade_int (n : Int) (v : Value) (d : Dm) (p : Int) (w : World) (hp : -1 ≤ p ∧ p < 8) (hd : Mid d) :
    Calls Try.prog 73 #[.agg (shl n v d), .int .i64 p] w fun e w' => e = .returned (.agg #[.int .i64 (-d (pl p) 0), .int .i64 (d 0 (pl p))]) ∧ Below w.heap.size w w' := by
  have HX := Lib.hid (box2 w (.cells (shl n v d) 85) (.cells #[.int .i64 0, .int .i64 0] 41))
  have HB := Lib.hid (below2 w (.cells (shl n v d) 85) (.cells #[.int .i64 0, .int .i64 0] 41))
  have hdi := fun w => difference_any n v d p (-1) w hp (by omega) hd
  rw [pl_chart] at hdi
  have HDI := Lib.hid hdi
  clear hdi hd
  go_enter Try.func73, Try.ntmps73
  go_wp2_with (first
    | (refine wpList_load_sh rfl (.tmp 2) rfl w.heap.size rfl 85 n v d HX.out.1 ?_)
    | fail)
  generalize World.alloc (World.alloc w _) _ = W at *
  refine (HDI.out _).mono ?_
  rintro e w1 ⟨rfl, hb1⟩
  have hx1 := (hb1.block _ (lt_of_block HX.out.2)).trans HX.out.2
  have HX1 := Lib.hid hx1
  have HB1 := Lib.hid (below_to HB.out hb1)
  have k0 := cell_of_row w1 (w.heap.size + 1) 0 _ _ _ hx1
  have k1 := cell_of_row w1 (w.heap.size + 1) 1 _ _ _ hx1
  simp only [List.getElem?_toArray, List.getElem?_cons_zero, List.getElem?_cons_succ] at k0 k1
  have f0 := frozen_of_row w1 (w.heap.size + 1) 0 _ _ hx1
  have f1 := frozen_of_row w1 (w.heap.size + 1) 1 _ _ hx1
  have l1 := lt_of_block hx1
  clear hb1 hx1 HX HB
  go_wp2
  refine bodyPost_ret (v := .agg #[.int .i64 (-d (pl p) 0), .int .i64 (d 0 (pl p))]) ?_ rfl ⟨rfl, (HB1.out.setCell (p := ⟨w.heap.size + 1, 0, none⟩) (by show w.heap.size ≤ w.heap.size + 1; omega) _).setCell (p := ⟨w.heap.size + 1, 1, none⟩) (by show w.heap.size ≤ w.heap.size + 1; omega) _⟩
  simp [results, Try.results73, go_sem, *]


def endF (hi : Bool) : Nat := if hi then 75 else 76
theorem end_any (hi : Bool) (x y : Int) (w : World) : Calls Try.prog (endF hi) #[.agg #[.int .i64 x, .int .i64 y]] w fun e w' => e = .returned (.int .i64 (enR hi ⟨x, y⟩)) ∧ Below w.heap.size w w' := by
  cases hi
  · exact low_any x y w
  · exact high_any x y w
theorem end_call (hi : Bool) (args : Array Value) (w : World) : (callFunc (endF hi) args).run Try.prog w = .ok (.enter (endF hi) args) w := by cases hi <;> rfl
theorem end_grade (hi : Bool) (d : Dm) (p : Int) : enR hi ⟨-d (pl p) 0, d 0 (pl p)⟩ = eD d hi p := by cases hi <;> rfl
theorem end_base (hi : Bool) : enR hi ⟨0, 100⟩ = baseE hi := by cases hi <;> rfl
instance (d : Dm) (hi : Bool) (p : Int) : Decidable (BegO d hi p) := by unfold BegO; infer_instance
def begB (d : Dm) (hi : Bool) (p : Int) : Bool := decide (BegO d hi p)
set_option maxRecDepth 100000 in
set_option maxHeartbeats 4000000 in
theorem begins_any (n : Int) (v : Value) (d : Dm) (p : Int) (hi : Bool) (w : World) (hp : -1 ≤ p ∧ p < 8) (hd : Mid d) :
    Calls Try.prog 83 #[.agg (shl n v d), .int .i64 p, .func (.func (endF hi)) #[] #[]] w fun e w' => e = .returned (.bool (begB d hi p)) ∧ Below w.heap.size w w' := by
  have HX := Lib.hid (heap_alloc_new w (.cells (shl n v d) 85))
  have HB := Lib.hid (box_below w (.cells (shl n v d) 85))
  have HGR := Lib.hid fun w => grade_int n v d p w hp hd
  have HEN := Lib.hid fun w => end_any hi (-d (pl p) 0) (d 0 (pl p)) w
  have HEB := Lib.hid fun w => end_any hi 0 100 w
  rw [end_grade] at HEN
  rw [end_base] at HEB
  clear hd
  have hcf := end_call hi
  by_cases h1 : p = -1
  · have e1 : (p == -1) = true := by simp [h1]
    have e2 : begB d hi p = true := decide_eq_true (.inl h1)
    rw [e2]
    clear h1 e2 hp
    go_enter Try.func83, Try.ntmps83
    go_wp2
    go_ret
    exact ⟨rfl, HB.out⟩
  · have e1 : (p == -1) = false := by simp [h1]
    obtain ⟨C, hC⟩ : ∃ C, (eD d hi p == baseE hi) = C := ⟨_, rfl⟩
    have e2 : begB d hi p = C := by
      rw [← hC, Bool.eq_iff_iff, beq_iff_eq]
      exact ⟨fun h => (of_decide_eq_true h).resolve_left h1, fun h => decide_eq_true (.inr h)⟩
    rw [e2]
    clear h1 e2 hp
    go_enter Try.func83, Try.ntmps83
    go_wp2_with fail
    refine wp_load_row 85 (.tmp 3) rfl w.heap.size rfl 85 (shl n v d) (0, 0) _ HX.out Try.underlying85 rfl (by rw [shl_size]; exact s85) ?_
    go_wp2_with fail
    generalize World.alloc w _ = W at *
    refine (HGR.out W).mono ?_
    rintro e w1 ⟨rfl, hb⟩
    have HB1 := Lib.hid (below_to HB.out hb)
    clear hb HB HX
    go_wp2_with fail
    refine (HEN.out w1).mono ?_
    rintro e w2 ⟨rfl, hb⟩
    have HB2 := Lib.hid (below_to HB1.out hb)
    clear hb HB1
    go_wp2_with fail
    refine (everyGrade_any w2).mono ?_
    rintro e w3 ⟨rfl, hb⟩
    have HB3 := Lib.hid (below_to HB2.out hb)
    clear hb HB2
    go_wp2_with fail
    refine (HEB.out w3).mono ?_
    rintro e w4 ⟨rfl, hb⟩
    have HB4 := Lib.hid (below_to HB3.out hb)
    clear hb HB3
    go_wp2_with fail
    go_ret
    exact ⟨rfl, HB4.out⟩
end Go.Proofs.Ytplmlmmjfkbabaa
