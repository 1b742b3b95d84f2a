/- What the chapter shows: the law's own example, its contract. No condition. What the chapter shows: its runs, and that the program answers as it says. No condition. -/
import Derived.Test.YtfijaafkagcmmaaY2J
namespace Go.Proofs.Ytfijaafkagcmmaa
open Go.RowKit Go.Shelf
attribute [local irreducible] arrV wpQuiet

set_option maxHeartbeats 400000 in
theorem between_any (a b : Int) (w : World) :
    Calls Try.prog 45 #[.int .i64 a, .int .i64 b] w fun e w' => e = .returned (.agg #[.int .i64 a, .int .i64 b]) ∧ Below w.heap.size w w' := by
  go_enter Try.func45, Try.ntmps45
  go_wp2
  refine bodyPost_ret (v := .agg #[.int .i64 a, .int .i64 b]) ?_ rfl ⟨rfl, box_below _ _⟩
  simp [results, Try.results45, go_sem]

def hotL : List Rg := [⟨1, 3⟩, ⟨2, 8⟩]
def madeL : List Rn := [⟨[⟨0, ⟨100, 100⟩⟩, ⟨1, ⟨10, 10⟩⟩], ⟨220, 250⟩⟩, ⟨[⟨1, ⟨20, 30⟩⟩], ⟨90, 100⟩⟩]
def planL : List Sg := [⟨0, ⟨1000, 1000⟩⟩, ⟨1, ⟨10, 20⟩⟩]
theorem ok_L : okL hotL madeL = [[2, 3], [2, 4], [2, 5]] := by decide +kernel
theorem hot_rgs : RgsOk hotL := ⟨by decide, by decide, fun r hr => by
  simp only [hotL, List.mem_cons, List.not_mem_nil, or_false] at hr
  rcases hr with rfl | rfl <;> decide⟩
theorem room_L : RoomOk hotL madeL := ⟨⟨hot_rgs, by decide +kernel⟩, by decide, fun r hr => by
  simp only [madeL, List.mem_cons, List.not_mem_nil, or_false] at hr
  rcases hr with rfl | rfl
  · refine ⟨⟨by decide, fun s hs => ?_⟩, by decide, by decide, by decide⟩
    simp only [List.mem_cons, List.not_mem_nil, or_false] at hs
    rcases hs with rfl | rfl <;> exact ⟨by decide, by decide, by decide, by decide, by decide⟩
  · refine ⟨⟨by decide, fun s hs => ?_⟩, by decide, by decide, by decide⟩
    simp only [List.mem_cons, List.not_mem_nil, or_false] at hs
    rcases hs with rfl
    exact ⟨by decide, by decide, by decide, by decide, by decide⟩⟩
theorem plan_L : PlanOk hotL.length planL := ⟨by decide, fun s hs => by
  simp only [planL, List.mem_cons, List.not_mem_nil, or_false] at hs
  rcases hs with rfl | rfl <;> exact ⟨by decide, by decide, by decide, by decide, by decide⟩⟩
theorem ne_L : okL hotL madeL ≠ [] := by rw [ok_L]; simp
theorem rg_L : rangesL (okL hotL madeL) hotL.length = [⟨2, 2⟩, ⟨3, 5⟩] := by rw [ok_L]; decide +kernel
theorem st_L : (stretchL (okL hotL madeL) planL).lo = 2030 ∧ (stretchL (okL hotL madeL) planL).hi = 2100 := by rw [ok_L]; decide +kernel
theorem li_L : (lifeL (okL hotL madeL) 1 1000).lo = 200 ∧ (lifeL (okL hotL madeL) 1 1000).hi = 334 := by rw [ok_L]; decide +kernel

set_option maxRecDepth 100000 in
set_option maxHeartbeats 1000000 in
theorem hot_any (w : World) :
    Calls Try.prog 43 #[] w fun e w' => (∃ v, e = .returned (.agg #[v]) ∧ RgsV w'.heap.size w' v hotL) ∧ Below w.heap.size w w' := by
  have HX := Lib.hid (heap_alloc_new w (.cells #[.slice none 0 0] 33))
  have HB := Lib.hid (box_below w (.cells #[.slice none 0 0] 33))
  go_enter Try.func43, Try.ntmps43
  go_wp2_with fail
  refine (between_any _ _ _).mono ?_
  rintro e w1 ⟨rfl, hb1⟩
  have HX1 := Lib.hid ((hb1.block _ (lt_of_block HX.out)).trans HX.out)
  have HB1 := Lib.hid (below_to HB.out hb1)
  clear hb1
  go_wp2_with fail
  refine (between_any _ _ _).mono ?_
  rintro e w2 ⟨rfl, hb2⟩
  have HX2 := Lib.hid ((hb2.block _ (lt_of_block HX1.out)).trans HX1.out)
  have HB2 := Lib.hid (below_to HB1.out hb2)
  clear hb2
  go_wp2_with (first
    | (refine wpList_build rfl 31 50 2 _ rfl el31.u #[.int .i64 1, .int .i64 3, .int .i64 2, .int .i64 8] (by kernel_rfl) ?_
       have hn := heap_alloc_new w2 (.cells #[.int .i64 1, .int .i64 3, .int .i64 2, .int .i64 8] 50)
       have hbn := box_below w2 (.cells #[.int .i64 1, .int .i64 3, .int .i64 2, .int .i64 8] 50)
       have hx := (hbn.block _ (lt_of_block HX2.out)).trans HX2.out
       have HN := Lib.hid hn
       have HB3 := Lib.hid (below_to HB2.out hbn)
       have hgw : w2.heap.size ≠ w.heap.size := by have := lt_of_block HX2.out; omega
       have HXX := Lib.hid hx
       have d0 := cell_of_row _ w.heap.size 0 _ _ _ hx
       have f0 := frozen_of_row _ w.heap.size 0 _ _ hx
       have l0 := lt_of_block hx
       simp only [List.getElem?_toArray, List.getElem?_cons_zero] at d0
       clear hn hbn hx
       generalize World.alloc w2 _ = w3 at *
       generalize w2.heap.size = g at *)
    | fail)
  have q1 := heap_setCell_same w3 w.heap.size 0 _ 33 (.slice (some ⟨g, 0, none⟩) 2 2) HXX.out
  have q2 := (heap_setCell_other w3 ⟨w.heap.size, 0, none⟩ g (.slice (some ⟨g, 0, none⟩) 2 2) hgw).trans HN.out
  have c1 := cell_of_row _ w.heap.size 0 _ _ _ q1
  simp at c1
  refine bodyPost_ret (v := .agg #[.slice (some ⟨g, 0, none⟩) 2 2]) ?_ rfl ⟨⟨_, rfl, some ⟨g, 0, none⟩, 2, rfl, fun _ => ⟨g, 0, rfl, lt_of_block q2, fun i hi => ?_⟩⟩, HB3.out.setCell (p := ⟨w.heap.size, 0, none⟩) (Nat.le_refl _) _⟩
  · simp [results, Try.results43, go_sem, *]
  · have hi2 : i < 2 := hi
    match i, hi2 with
    | 0, _ => exact ⟨cell_of_row _ g 0 _ _ _ q2, cell_of_row _ g 1 _ _ _ q2⟩
    | 1, _ => exact ⟨cell_of_row _ g 2 _ _ _ q2, cell_of_row _ g 3 _ _ _ q2⟩
end Go.Proofs.Ytfijaafkagcmmaa
namespace Go.Proofs.Ytfijaafkagcmmaa
open Go.RowKit Go.Shelf
attribute [local irreducible] arrV wpQuiet

set_option maxRecDepth 100000 in
set_option maxHeartbeats 1000000 in
theorem made_any (w : World) :
    Calls Try.prog 44 #[] w fun e w' => (∃ v, e = .returned v ∧ RunsV w'.heap.size w' v madeL) ∧ Below w.heap.size w w' := by
  have HB0 := Lib.hid (Below.refl w.heap.size w)
  go_enter Try.func44, Try.ntmps44
  go_wp2_with fail
  refine (between_any _ _ _).mono ?_
  rintro e w1 ⟨rfl, hb1⟩
  have HB1 := Lib.hid (below_to HB0.out hb1)
  clear hb1
  go_wp2_with fail
  refine (between_any _ _ _).mono ?_
  rintro e w2 ⟨rfl, hb2⟩
  have HB2 := Lib.hid (below_to HB1.out hb2)
  clear hb2
  go_wp2_with (first
    | (refine wpList_build rfl 55 76 2 _ rfl el55.u #[.int .i64 0, .int .i64 100, .int .i64 100, .int .i64 1, .int .i64 10, .int .i64 10] (by kernel_rfl) ?_
       have hn := heap_alloc_new w2 (.cells #[.int .i64 0, .int .i64 100, .int .i64 100, .int .i64 1, .int .i64 10, .int .i64 10] 76)
       have hbn := box_below w2 (.cells #[.int .i64 0, .int .i64 100, .int .i64 100, .int .i64 1, .int .i64 10, .int .i64 10] 76)
       have N1 := Lib.hid hn
       have HB3 := Lib.hid (below_to HB2.out hbn)
       clear hn hbn
       generalize World.alloc w2 _ = w3 at *
       generalize w2.heap.size = g3 at *)
    | fail)
  refine (between_any _ _ _).mono ?_
  rintro e w4 ⟨rfl, hb4⟩
  have HB4 := Lib.hid (below_to HB3.out hb4)
  replace N1 := Lib.hid ((hb4.block _ (lt_of_block N1.out)).trans N1.out)
  clear hb4
  go_wp2_with fail
  refine (between_any _ _ _).mono ?_
  rintro e w5 ⟨rfl, hb5⟩
  have HB5 := Lib.hid (below_to HB4.out hb5)
  replace N1 := Lib.hid ((hb5.block _ (lt_of_block N1.out)).trans N1.out)
  clear hb5
  go_wp2_with (first
    | (refine wpList_build rfl 55 76 1 _ rfl el55.u #[.int .i64 1, .int .i64 20, .int .i64 30] (by kernel_rfl) ?_
       have hn := heap_alloc_new w5 (.cells #[.int .i64 1, .int .i64 20, .int .i64 30] 76)
       have hbn := box_below w5 (.cells #[.int .i64 1, .int .i64 20, .int .i64 30] 76)
       have N2 := Lib.hid hn
       have HB6 := Lib.hid (below_to HB5.out hbn)
       replace N1 := Lib.hid ((hbn.block _ (lt_of_block N1.out)).trans N1.out)
       clear hn hbn
       generalize World.alloc w5 _ = w6 at *
       generalize w5.heap.size = g6 at *)
    | fail)
  refine (between_any _ _ _).mono ?_
  rintro e w7 ⟨rfl, hb7⟩
  have HB7 := Lib.hid (below_to HB6.out hb7)
  replace N1 := Lib.hid ((hb7.block _ (lt_of_block N1.out)).trans N1.out)
  replace N2 := Lib.hid ((hb7.block _ (lt_of_block N2.out)).trans N2.out)
  clear hb7
  go_wp2_with (first
    | (refine wpList_build rfl 37 78 2 _ rfl el37.u #[.slice (some ⟨g3, 0, none⟩) 2 2, .int .i64 220, .int .i64 250, .slice (some ⟨g6, 0, none⟩) 1 1, .int .i64 90, .int .i64 100] (by kernel_rfl) ?_
       have hn := heap_alloc_new w7 (.cells #[.slice (some ⟨g3, 0, none⟩) 2 2, .int .i64 220, .int .i64 250, .slice (some ⟨g6, 0, none⟩) 1 1, .int .i64 90, .int .i64 100] 78)
       have hbn := box_below w7 (.cells #[.slice (some ⟨g3, 0, none⟩) 2 2, .int .i64 220, .int .i64 250, .slice (some ⟨g6, 0, none⟩) 1 1, .int .i64 90, .int .i64 100] 78)
       have N3 := Lib.hid hn
       have HB8 := Lib.hid (below_to HB7.out hbn)
       replace N1 := Lib.hid ((hbn.block _ (lt_of_block N1.out)).trans N1.out)
       replace N2 := Lib.hid ((hbn.block _ (lt_of_block N2.out)).trans N2.out)
       clear hn hbn
       generalize World.alloc w7 _ = w8 at *
       generalize w7.heap.size = g8 at *)
    | fail)
  go_ret
  refine ⟨⟨_, rfl, some ⟨g8, 0, none⟩, 2, rfl, fun _ => ⟨g8, 0, rfl, lt_of_block N3.out, fun i hi => ?_⟩⟩, HB8.out⟩
  have hi2 : i < 2 := hi
  match i, hi2 with
  | 0, _ =>
    refine ⟨_, cell_of_row _ g8 0 _ _ _ N3.out, cell_of_row _ g8 1 _ _ _ N3.out, cell_of_row _ g8 2 _ _ _ N3.out, some ⟨g3, 0, none⟩, 2, rfl, fun _ => ⟨g3, 0, rfl, lt_of_block N1.out, fun j hj => ?_⟩⟩
    have hj2 : j < 2 := hj
    match j, hj2 with
    | 0, _ => exact ⟨cell_of_row _ g3 0 _ _ _ N1.out, cell_of_row _ g3 1 _ _ _ N1.out, cell_of_row _ g3 2 _ _ _ N1.out⟩
    | 1, _ => exact ⟨cell_of_row _ g3 3 _ _ _ N1.out, cell_of_row _ g3 4 _ _ _ N1.out, cell_of_row _ g3 5 _ _ _ N1.out⟩
  | 1, _ =>
    refine ⟨_, cell_of_row _ g8 3 _ _ _ N3.out, cell_of_row _ g8 4 _ _ _ N3.out, cell_of_row _ g8 5 _ _ _ N3.out, some ⟨g6, 0, none⟩, 1, rfl, fun _ => ⟨g6, 0, rfl, lt_of_block N2.out, fun j hj => ?_⟩⟩
    have hj2 : j < 1 := hj
    match j, hj2 with
    | 0, _ => exact ⟨cell_of_row _ g6 0 _ _ _ N2.out, cell_of_row _ g6 1 _ _ _ N2.out, cell_of_row _ g6 2 _ _ _ N2.out⟩

/-- The material and the runs of the chapter, in memory. -/
theorem shown_room {w w1 w2 : World} {mv rv : Value} (h1 : RgsV w1.heap.size w1 mv hotL) (hb2 : Below w1.heap.size w1 w2) (h2 : RunsV w2.heap.size w2 rv madeL) : RoomV w2.heap.size w2 mv rv hotL madeL :=
  ⟨Nat.le_refl _, (h1.same (.below (Nat.le_refl _) hb2)).up hb2.size, h2⟩

set_option maxRecDepth 100000 in
set_option maxHeartbeats 4000000 in
theorem awake_any (w : World) : Calls Try.prog 17 #[] w fun e w' => e = .returned (.bool true) ∧ Below w.heap.size w w' := by
  go_enter Try.func17, Try.ntmps17
  go_wp2_with fail
  refine (hot_any _).mono ?_
  rintro e w1 ⟨⟨mv, rfl, hm1⟩, hb1⟩
  have HB1 := Lib.hid hb1
  go_wp2_with fail
  refine (made_any _).mono ?_
  rintro e w2 ⟨⟨rv, rfl, hr2⟩, hb2⟩
  have HB2 := Lib.hid (below_to HB1.out hb2)
  have hroom := shown_room (w := w) hm1 hb2 hr2
  have hrk := Rates_ok w2.heap.size mv rv hotL madeL w2 room_L hroom ne_L
  rw [rg_L, ok_L] at hrk
  have HRK := Lib.hid hrk
  clear hm1 hb1 hb2 hr2 hroom hrk
  go_wp2_with fail
  refine HRK.out.mono ?_
  rintro e w3 ⟨⟨v, rfl, hown⟩, hb3⟩
  have HB3 := Lib.hid (below_to HB2.out hb3)
  obtain ⟨g, cap, rfl, hbg, hlg, hcell⟩ := own_head hown (by decide)
  obtain ⟨k0, k1, -⟩ := hcell 0 (by decide)
  obtain ⟨k2, k3, -⟩ := hcell 1 (by decide)
  have k0' : w3.cell? ⟨g, 0, none⟩ = some (.int .i64 2) := k0
  have k1' : w3.cell? ⟨g, 1, none⟩ = some (.int .i64 2) := k1
  have k2' : w3.cell? ⟨g, 2, none⟩ = some (.int .i64 3) := k2
  have k3' : w3.cell? ⟨g, 3, none⟩ = some (.int .i64 5) := k3
  have hl2 : ([⟨2, 2⟩, ⟨3, 5⟩] : List Rg).length = 2 := rfl
  have hl3 : (([[2, 3], [2, 4], [2, 5]] : List (List Int)).length : Int) = 3 := rfl
  have KK : Hid (w3.cell? ⟨g, 0, none⟩ = some (.int .i64 2) ∧ w3.cell? ⟨g, 1, none⟩ = some (.int .i64 2) ∧ w3.cell? ⟨g, 2, none⟩ = some (.int .i64 3) ∧ w3.cell? ⟨g, 3, none⟩ = some (.int .i64 5)) := Lib.hid ⟨k0', k1', k2', k3'⟩
  rw [hl2, hl3]
  clear hown hcell k0 k1 k2 k3 k0' k1' k2' k3' hb3 hl2 hl3 HRK
  go_wp2_with fail
  refine (hot_any _).mono ?_
  rintro e w4 ⟨⟨mv2, rfl, hm4⟩, hb4⟩
  have HB4 := Lib.hid (below_to HB3.out hb4)
  have HG4 := Lib.hid hb4
  go_wp2_with fail
  refine (made_any _).mono ?_
  rintro e w5 ⟨⟨rv2, rfl, hr5⟩, hb5⟩
  have HB5 := Lib.hid (below_to HB4.out hb5)
  have HG5 := Lib.hid (below_to HG4.out hb5)
  have HROOM := Lib.hid (shown_room (w := w) hm4 hb5 hr5)
  clear hm4 hb4 hr5 hb5
  go_wp2_with fail
  refine (between_any _ _ _).mono ?_
  rintro e w6 ⟨rfl, hb6⟩
  have HB6 := Lib.hid (below_to HB5.out hb6)
  have HG6 := Lib.hid (below_to HG5.out hb6)
  replace HROOM := Lib.hid (HROOM.out.below hb6)
  clear hb6
  go_wp2_with fail
  refine (between_any _ _ _).mono ?_
  rintro e w7 ⟨rfl, hb7⟩
  have HB7 := Lib.hid (below_to HB6.out hb7)
  have HG7 := Lib.hid (below_to HG6.out hb7)
  replace HROOM := Lib.hid (HROOM.out.below hb7)
  clear hb7
  go_wp2_with (first
    | (refine wpList_build rfl 55 76 2 _ rfl el55.u #[.int .i64 0, .int .i64 1000, .int .i64 1000, .int .i64 1, .int .i64 10, .int .i64 20] (by kernel_rfl) ?_
       have hn := heap_alloc_new w7 (.cells #[.int .i64 0, .int .i64 1000, .int .i64 1000, .int .i64 1, .int .i64 10, .int .i64 20] 76)
       have hbn := box_below w7 (.cells #[.int .i64 0, .int .i64 1000, .int .i64 1000, .int .i64 1, .int .i64 10, .int .i64 20] 76)
       have HB8 := Lib.hid (below_to HB7.out hbn)
       have HG8 := Lib.hid (below_to HG7.out hbn)
       replace HROOM := Lib.hid (HROOM.out.below hbn)
       have HPV : Hid (SegsV (World.alloc w7 (.cells #[.int .i64 0, .int .i64 1000, .int .i64 1000, .int .i64 1, .int .i64 10, .int .i64 20] 76)).heap.size (World.alloc w7 (.cells #[.int .i64 0, .int .i64 1000, .int .i64 1000, .int .i64 1, .int .i64 10, .int .i64 20] 76)) (.slice (some ⟨w7.heap.size, 0, none⟩) 2 2) planL) := Lib.hid ⟨some ⟨w7.heap.size, 0, none⟩, 2, rfl, fun _ => ⟨w7.heap.size, 0, rfl, by simp, fun j hj => by
         have hj2 : j < 2 := hj
         match j, hj2 with
         | 0, _ => exact ⟨cell_of_row _ w7.heap.size 0 _ _ _ hn, cell_of_row _ w7.heap.size 1 _ _ _ hn, cell_of_row _ w7.heap.size 2 _ _ _ hn⟩
         | 1, _ => exact ⟨cell_of_row _ w7.heap.size 3 _ _ _ hn, cell_of_row _ w7.heap.size 4 _ _ _ hn, cell_of_row _ w7.heap.size 5 _ _ _ hn⟩⟩⟩
       clear hn hbn
       generalize World.alloc w7 _ = w8 at *
       generalize w7.heap.size = g8 at *)
    | fail)
  have hst := Stretch_ok w8.heap.size mv2 rv2 (.slice (some ⟨g8, 0, none⟩) 2 2) hotL madeL planL w8 room_L ⟨Nat.le_refl _, HROOM.out.m.up HROOM.out.lt, HROOM.out.r.up HROOM.out.lt⟩ plan_L HPV.out ne_L
  rw [st_L.1, st_L.2] at hst
  refine hst.mono ?_
  rintro e w9 ⟨rfl, hb9⟩
  have HB9 := Lib.hid (below_to HB8.out hb9)
  have HG9 := Lib.hid (below_to HG8.out hb9)
  clear hst hb9
  go_wp2_with fail
  have hbx := box_below w9 (.cells #[.int .i64 2030, .int .i64 2100] 50)
  have hnx := heap_alloc_new w9 (.cells #[.int .i64 2030, .int .i64 2100] 50)
  have HB10 := Lib.hid (below_to HB9.out hbx)
  have HG10 := Lib.hid (below_to HG9.out hbx)
  have N10 := Lib.hid hnx
  clear hbx hnx
  generalize World.alloc w9 _ = w10 at *
  generalize w9.heap.size = b9 at *
  refine (hot_any _).mono ?_
  rintro e w11 ⟨⟨mv3, rfl, hm11⟩, hb11⟩
  have HB11 := Lib.hid (below_to HB10.out hb11)
  have HG11 := Lib.hid (below_to HG10.out hb11)
  replace N10 := Lib.hid ((hb11.block _ (lt_of_block N10.out)).trans N10.out)
  go_wp2_with fail
  refine (made_any _).mono ?_
  rintro e w12 ⟨⟨rv3, rfl, hr12⟩, hb12⟩
  have HB12 := Lib.hid (below_to HB11.out hb12)
  have HG12 := Lib.hid (below_to HG11.out hb12)
  replace N10 := Lib.hid ((hb12.block _ (lt_of_block N10.out)).trans N10.out)
  have hli := Life_ok w12.heap.size mv3 rv3 hotL madeL 1 1000 w12 room_L (shown_room (w := w) hm11 hb12 hr12) (by decide) (by decide) ne_L
  rw [li_L.1, li_L.2] at hli
  have HLI := Lib.hid hli
  clear hm11 hb11 hr12 hb12 hli
  go_wp2_with fail
  refine HLI.out.mono ?_
  rintro e w13 ⟨rfl, hb13⟩
  have HB13 := Lib.hid (below_to HB12.out hb13)
  have HG13 := Lib.hid (below_to HG12.out hb13)
  replace N10 := Lib.hid ((hb13.block _ (lt_of_block N10.out)).trans N10.out)
  clear hb13
  go_wp2
  have hby := box_below w13 (.cells #[.int .i64 200, .int .i64 334] 50)
  have hny := heap_alloc_new w13 (.cells #[.int .i64 200, .int .i64 334] 50)
  have HB14 := Lib.hid (below_to HB13.out hby)
  have hg14 := below_to HG13.out hby
  have n10 := (hby.block _ (lt_of_block N10.out)).trans N10.out
  have a0 := (hg14.cell (p := ⟨g, 0, none⟩) hlg).trans KK.out.1
  have a1 := (hg14.cell (p := ⟨g, 1, none⟩) hlg).trans KK.out.2.1
  have a2 := (hg14.cell (p := ⟨g, 2, none⟩) hlg).trans KK.out.2.2.1
  have a3 := (hg14.cell (p := ⟨g, 3, none⟩) hlg).trans KK.out.2.2.2
  have b0 := cell_of_row _ b9 0 _ _ _ n10
  have b1 := cell_of_row _ b9 1 _ _ _ n10
  have e0 := cell_of_row _ w13.heap.size 0 _ _ _ hny
  have e1 := cell_of_row _ w13.heap.size 1 _ _ _ hny
  simp only [List.getElem?_toArray, List.getElem?_cons_zero, List.getElem?_cons_succ] at b0 b1 e0 e1
  clear hby hny hg14 n10
  generalize World.alloc w13 _ = w14 at *
  generalize w13.heap.size = b13 at *
  have ga0 := cell_regrown a0
  have ga1 := cell_regrown a1
  have ga2 := cell_regrown a2
  have ga3 := cell_regrown a3
  have gb0 := cell_regrown b0
  have gb1 := cell_regrown b1
  have ge0 := cell_regrown e0
  have ge1 := cell_regrown e1
  have q1 := fun w => eqr50 2 2 2 2 w
  have q2 := fun w => eqr50 3 5 3 5 w
  have q3 := fun w => eqr50 2030 2100 2030 2100 w
  have q4 := fun w => eqr50 200 334 200 334 w
  clear a0 a1 a2 a3 b0 b1 e0 e1 hbg hlg HROOM HPV
  refine wp_region_quiet_below (by kernel_rfl) (by kernel_rfl) ?_
  repeat (quiet_step (exact Calls.regrown_of (between_any _ _ _)))
  refine wpQuiet_nil ?_
  intro _ hw'
  obtain ⟨⟨dq, osq⟩, hw''⟩ := hw'
  subst hw''
  go_wp2
  go_ret
  exact ⟨rfl, below_to HB14.out (below_regrown w14 dq osq)⟩
end Go.Proofs.Ytfijaafkagcmmaa
