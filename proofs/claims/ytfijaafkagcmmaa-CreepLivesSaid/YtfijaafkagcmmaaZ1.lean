/- What the chapter shows: the law's own example, its contract. No condition. -/
import Derived.Test.YtfijaafkagcmmaaY2
namespace Go.Proofs.Ytfijaafkagcmmaa
open Go.RowKit Go.Shelf
attribute [local irreducible] arrV wpQuiet

set_option maxHeartbeats 400000 in
theorem between_any (a b : Int) (w : World) :
    Calls Try.prog 45 #[.int .i64 a, .int .i64 b] w fun e w' => e = .returned (.agg #[.int .i64 a, .int .i64 b]) ∧ Below w.heap.size w w' := by
  go_enter Try.func45, Try.ntmps45
  go_wp2
  refine bodyPost_ret (v := .agg #[.int .i64 a, .int .i64 b]) ?_ rfl ⟨rfl, box_below _ _⟩
  simp [results, Try.results45, go_sem]

def hotL : List Rg := [⟨1, 3⟩, ⟨2, 8⟩]
def madeL : List Rn := [⟨[⟨0, ⟨100, 100⟩⟩, ⟨1, ⟨10, 10⟩⟩], ⟨220, 250⟩⟩, ⟨[⟨1, ⟨20, 30⟩⟩], ⟨90, 100⟩⟩]
def planL : List Sg := [⟨0, ⟨1000, 1000⟩⟩, ⟨1, ⟨10, 20⟩⟩]
theorem ok_L : okL hotL madeL = [[2, 3], [2, 4], [2, 5]] := by decide +kernel
theorem hot_rgs : RgsOk hotL := ⟨by decide, by decide, fun r hr => by
  simp only [hotL, List.mem_cons, List.not_mem_nil, or_false] at hr
  rcases hr with rfl | rfl <;> decide⟩
theorem room_L : RoomOk hotL madeL := ⟨⟨hot_rgs, by decide +kernel⟩, by decide, fun r hr => by
  simp only [madeL, List.mem_cons, List.not_mem_nil, or_false] at hr
  rcases hr with rfl | rfl
  · refine ⟨⟨by decide, fun s hs => ?_⟩, by decide, by decide, by decide⟩
    simp only [List.mem_cons, List.not_mem_nil, or_false] at hs
    rcases hs with rfl | rfl <;> exact ⟨by decide, by decide, by decide, by decide, by decide⟩
  · refine ⟨⟨by decide, fun s hs => ?_⟩, by decide, by decide, by decide⟩
    simp only [List.mem_cons, List.not_mem_nil, or_false] at hs
    rcases hs with rfl
    exact ⟨by decide, by decide, by decide, by decide, by decide⟩⟩
theorem plan_L : PlanOk hotL.length planL := ⟨by decide, fun s hs => by
  simp only [planL, List.mem_cons, List.not_mem_nil, or_false] at hs
  rcases hs with rfl | rfl <;> exact ⟨by decide, by decide, by decide, by decide, by decide⟩⟩
theorem ne_L : okL hotL madeL ≠ [] := by rw [ok_L]; simp
theorem rg_L : rangesL (okL hotL madeL) hotL.length = [⟨2, 2⟩, ⟨3, 5⟩] := by rw [ok_L]; decide +kernel
theorem st_L : (stretchL (okL hotL madeL) planL).lo = 2030 ∧ (stretchL (okL hotL madeL) planL).hi = 2100 := by rw [ok_L]; decide +kernel
theorem li_L : (lifeL (okL hotL madeL) 1 1000).lo = 200 ∧ (lifeL (okL hotL madeL) 1 1000).hi = 334 := by rw [ok_L]; decide +kernel

set_option maxRecDepth 100000 in
set_option maxHeartbeats 1000000 in
theorem hot_any (w : World) :
    Calls Try.prog 43 #[] w fun e w' => (∃ v, e = .returned (.agg #[v]) ∧ RgsV w'.heap.size w' v hotL) ∧ Below w.heap.size w w' := by
  have HX := Lib.hid (heap_alloc_new w (.cells #[.slice none 0 0] 33))
  have HB := Lib.hid (box_below w (.cells #[.slice none 0 0] 33))
  go_enter Try.func43, Try.ntmps43
  go_wp2_with fail
  refine (between_any _ _ _).mono ?_
  rintro e w1 ⟨rfl, hb1⟩
  have HX1 := Lib.hid ((hb1.block _ (lt_of_block HX.out)).trans HX.out)
  have HB1 := Lib.hid (below_to HB.out hb1)
  clear hb1
  go_wp2_with fail
  refine (between_any _ _ _).mono ?_
  rintro e w2 ⟨rfl, hb2⟩
  have HX2 := Lib.hid ((hb2.block _ (lt_of_block HX1.out)).trans HX1.out)
  have HB2 := Lib.hid (below_to HB1.out hb2)
  clear hb2
  go_wp2_with (first
    | (refine wpList_build rfl 31 50 2 _ rfl el31.u #[.int .i64 1, .int .i64 3, .int .i64 2, .int .i64 8] (by kernel_rfl) ?_
       have hn := heap_alloc_new w2 (.cells #[.int .i64 1, .int .i64 3, .int .i64 2, .int .i64 8] 50)
       have hbn := box_below w2 (.cells #[.int .i64 1, .int .i64 3, .int .i64 2, .int .i64 8] 50)
       have hx := (hbn.block _ (lt_of_block HX2.out)).trans HX2.out
       have HN := Lib.hid hn
       have HB3 := Lib.hid (below_to HB2.out hbn)
       have hgw : w2.heap.size ≠ w.heap.size := by have := lt_of_block HX2.out; omega
       have HXX := Lib.hid hx
       have d0 := cell_of_row _ w.heap.size 0 _ _ _ hx
       have f0 := frozen_of_row _ w.heap.size 0 _ _ hx
       have l0 := lt_of_block hx
       simp only [List.getElem?_toArray, List.getElem?_cons_zero] at d0
       clear hn hbn hx
       generalize World.alloc w2 _ = w3 at *
       generalize w2.heap.size = g at *)
    | fail)
  have q1 := heap_setCell_same w3 w.heap.size 0 _ 33 (.slice (some ⟨g, 0, none⟩) 2 2) HXX.out
  have q2 := (heap_setCell_other w3 ⟨w.heap.size, 0, none⟩ g (.slice (some ⟨g, 0, none⟩) 2 2) hgw).trans HN.out
  have c1 := cell_of_row _ w.heap.size 0 _ _ _ q1
  simp at c1
  refine bodyPost_ret (v := .agg #[.slice (some ⟨g, 0, none⟩) 2 2]) ?_ rfl ⟨⟨_, rfl, some ⟨g, 0, none⟩, 2, rfl, fun _ => ⟨g, 0, rfl, lt_of_block q2, fun i hi => ?_⟩⟩, HB3.out.setCell (p := ⟨w.heap.size, 0, none⟩) (Nat.le_refl _) _⟩
  · simp [results, Try.results43, go_sem, *]
  · have hi2 : i < 2 := hi
    match i, hi2 with
    | 0, _ => exact ⟨cell_of_row _ g 0 _ _ _ q2, cell_of_row _ g 1 _ _ _ q2⟩
    | 1, _ => exact ⟨cell_of_row _ g 2 _ _ _ q2, cell_of_row _ g 3 _ _ _ q2⟩
end Go.Proofs.Ytfijaafkagcmmaa
