/- Rates, Stretch and Life, in a valid room: contracts. Conditions: these. -/
import Derived.Test.YtfijaafkagcmmaaY1
namespace Go.Proofs.Ytfijaafkagcmmaa
open Go.RowKit Go.Shelf
attribute [local irreducible] arrV

theorem someB_ne {L : List (List Int)} (h : L ≠ []) : failE (someB L) = 0 := by
  cases L with
  | nil => exact absurd rfl h
  | cons a l => rfl
theorem someB_nil {L : List (List Int)} (h : L = []) : failE (someB L) = 9 := by rw [h]; rfl

set_option maxRecDepth 100000 in
set_option maxHeartbeats 1000000 in
theorem Rates_ok (n : Nat) (mv rv : Value) (ms : List Rg) (rs : List Rn) (w : World) (hK : RoomOk ms rs) (hV : RoomV n w mv rv ms rs) (hne : okL ms rs ≠ []) :
    Calls Try.prog 27 #[.agg #[mv], rv] w fun e w' => (∃ v, e = .returned (.tuple #[v, .int .i64 (okL ms rs).length, .int .i64 0]) ∧ w'.ownsRow w.heap.size 50 2 v (rangesL (okL ms rs) ms.length).length (flatR (rangesL (okL ms rs) ms.length))) ∧ Below w.heap.size w w' := by
  have HCA := Lib.hid fun w' (h : Below w.heap.size w w') => checkAllowed_ok n mv rv ms rs w' hK (hV.below h)
  rw [someB_ne hne] at HCA
  have HRA := Lib.hid fun w' (h : Below w.heap.size w w') => ranges_any n mv rv ms rs w' hK (hV.below h) hne
  obtain ⟨am, capm, rfl, -⟩ := hV.m
  obtain ⟨ar, capr, rfl, -⟩ := hV.r
  have HX := Lib.hid (box2 w (.cells #[.slice am ms.length capm] 33) (.cells #[.slice am ms.length capm, .slice ar rs.length capr] 100)).2
  have HB := Lib.hid (below2 w (.cells #[.slice am ms.length capm] 33) (.cells #[.slice am ms.length capm, .slice ar rs.length capr] 100))
  clear hV hK
  go_enter Try.func27, Try.ntmps27
  go_wp2_with fail
  refine (HCA.out _ HB.out).mono ?_
  rintro e w1 ⟨rfl, hb1⟩
  obtain ⟨c0, c1, hx1⟩ := two_cells HX.out hb1
  have HB1 := Lib.hid (below_to HB.out hb1)
  clear hb1 hx1
  go_wp2_with fail
  refine (HRA.out _ HB1.out).mono ?_
  rintro e w2 ⟨⟨v, rfl, hown⟩, hb2⟩
  have HO := Lib.hid (ownsRow_mono HB1.out.size hown)
  have HB2 := Lib.hid (below_to HB1.out hb2)
  clear hb2 hown c0 c1
  go_wp2
  go_ret3
  exact ⟨⟨v, rfl, HO.out⟩, HB2.out⟩
set_option maxRecDepth 100000 in
set_option maxHeartbeats 1000000 in
theorem Rates_fail (n : Nat) (mv rv : Value) (ms : List Rg) (rs : List Rn) (w : World) (hK : RoomOk ms rs) (hV : RoomV n w mv rv ms rs) (hne : okL ms rs = []) :
    Calls Try.prog 27 #[.agg #[mv], rv] w fun e w' => e = .returned (.tuple #[.slice none 0 0, .int .i64 0, .int .i64 9]) ∧ Below w.heap.size w w' := by
  have HCA := Lib.hid fun w' (h : Below w.heap.size w w') => checkAllowed_ok n mv rv ms rs w' hK (hV.below h)
  rw [someB_nil hne] at HCA
  obtain ⟨am, capm, rfl, -⟩ := hV.m
  obtain ⟨ar, capr, rfl, -⟩ := hV.r
  have HB := Lib.hid (below2 w (.cells #[.slice am ms.length capm] 33) (.cells #[.slice am ms.length capm, .slice ar rs.length capr] 100))
  clear hV hK
  go_enter Try.func27, Try.ntmps27
  go_wp2_with fail
  refine (HCA.out _ HB.out).mono ?_
  rintro e w1 ⟨rfl, hb1⟩
  have HB1 := Lib.hid (below_to HB.out hb1)
  clear hb1
  go_wp2
  go_ret3
  exact ⟨rfl, HB1.out⟩

set_option maxRecDepth 100000 in
set_option maxHeartbeats 1000000 in
theorem Stretch_ok (n : Nat) (mv rv pv : Value) (ms : List Rg) (rs : List Rn) (ss : List Sg) (w : World) (hK : RoomOk ms rs) (hV : RoomV n w mv rv ms rs) (hP : PlanOk ms.length ss) (hPV : SegsV n w pv ss) (hne : okL ms rs ≠ []) :
    Calls Try.prog 30 #[.agg #[mv], rv, pv] w fun e w' => e = .returned (.tuple #[.agg #[.int .i64 (stretchL (okL ms rs) ss).lo, .int .i64 (stretchL (okL ms rs) ss).hi], .int .i64 0]) ∧ Below w.heap.size w w' := by
  have hn := hV.lt
  have HCA := Lib.hid fun w' (h : Below w.heap.size w w') => checkPlan_ok n mv rv pv ms rs ss w' hK (hV.below h) hP (hPV.same (.below hn h))
  rw [someB_ne hne] at HCA
  have HRA := Lib.hid fun w' (h : Below w.heap.size w w') => rstretch_any n mv rv pv ms rs ss w' hK (hV.below h) hP (hPV.same (.below hn h)) hne
  obtain ⟨am, capm, rfl, -⟩ := hV.m
  obtain ⟨ar, capr, rfl, -⟩ := hV.r
  obtain ⟨ap, capp, rfl, -⟩ := hPV
  obtain ⟨-, y1, y2⟩ := box3 w (.cells #[.slice am ms.length capm] 33) (.cells #[.int .i64 0, .int .i64 0] 50) (.cells #[.slice am ms.length capm, .slice ar rs.length capr] 100)
  have HX := Lib.hid y2
  have HR := Lib.hid y1
  have HB := Lib.hid (below3 w (.cells #[.slice am ms.length capm] 33) (.cells #[.int .i64 0, .int .i64 0] 50) (.cells #[.slice am ms.length capm, .slice ar rs.length capr] 100))
  generalize (stretchL (okL ms rs) ss).lo = lo at *
  generalize (stretchL (okL ms rs) ss).hi = hi at *
  clear hV hK y1 y2
  go_enter Try.func30, Try.ntmps30
  go_wp2_with fail
  refine (HCA.out _ HB.out).mono ?_
  rintro e w1 ⟨rfl, hb1⟩
  obtain ⟨c0, c1, hx1⟩ := two_cells HX.out hb1
  have HR1 := Lib.hid ((hb1.block _ (lt_of_block HR.out)).trans HR.out)
  have HB1 := Lib.hid (below_to HB.out hb1)
  clear hb1 hx1
  go_wp2_with fail
  refine (HRA.out _ HB1.out).mono ?_
  rintro e w2 ⟨rfl, hb2⟩
  have hr2 := (hb2.block _ (lt_of_block HR1.out)).trans HR1.out
  have HR2 := Lib.hid hr2
  have d0 := cell_of_row w2 (w.heap.size + 1) 0 _ _ _ hr2
  have d1 := cell_of_row w2 (w.heap.size + 1) 1 _ _ _ hr2
  have f0 := frozen_of_row w2 (w.heap.size + 1) 0 _ _ hr2
  have f1 := frozen_of_row w2 (w.heap.size + 1) 1 _ _ hr2
  have l1 := lt_of_block hr2
  simp at d0 d1
  have HB2 := Lib.hid (below_to HB1.out hb2)
  clear hb2 hr2 c0 c1
  go_wp2
  refine bodyPost_ret (v := .tuple #[.agg #[.int .i64 lo, .int .i64 hi], .int .i64 0]) ?_ rfl ⟨rfl, put2_below _ _ HB2.out (by omega)⟩
  simp [results, Try.results30, go_sem, *]
set_option maxRecDepth 100000 in
set_option maxHeartbeats 1000000 in
theorem Stretch_fail (n : Nat) (mv rv pv : Value) (ms : List Rg) (rs : List Rn) (ss : List Sg) (w : World) (hK : RoomOk ms rs) (hV : RoomV n w mv rv ms rs) (hP : PlanOk ms.length ss) (hPV : SegsV n w pv ss) (hne : okL ms rs = []) :
    Calls Try.prog 30 #[.agg #[mv], rv, pv] w fun e w' => e = .returned (.tuple #[.agg #[.int .i64 0, .int .i64 0], .int .i64 9]) ∧ Below w.heap.size w w' := by
  have hn := hV.lt
  have HCA := Lib.hid fun w' (h : Below w.heap.size w w') => checkPlan_ok n mv rv pv ms rs ss w' hK (hV.below h) hP (hPV.same (.below hn h))
  rw [someB_nil hne] at HCA
  obtain ⟨am, capm, rfl, -⟩ := hV.m
  obtain ⟨ar, capr, rfl, -⟩ := hV.r
  obtain ⟨ap, capp, rfl, -⟩ := hPV
  obtain ⟨-, y1, y2⟩ := box3 w (.cells #[.slice am ms.length capm] 33) (.cells #[.int .i64 0, .int .i64 0] 50) (.cells #[.slice am ms.length capm, .slice ar rs.length capr] 100)
  have HR := Lib.hid y1
  have HB := Lib.hid (below3 w (.cells #[.slice am ms.length capm] 33) (.cells #[.int .i64 0, .int .i64 0] 50) (.cells #[.slice am ms.length capm, .slice ar rs.length capr] 100))
  clear hV hK y1 y2
  go_enter Try.func30, Try.ntmps30
  go_wp2_with fail
  refine (HCA.out _ HB.out).mono ?_
  rintro e w1 ⟨rfl, hb1⟩
  have hr2 := (hb1.block _ (lt_of_block HR.out)).trans HR.out
  have d0 := cell_of_row w1 (w.heap.size + 1) 0 _ _ _ hr2
  have d1 := cell_of_row w1 (w.heap.size + 1) 1 _ _ _ hr2
  have f0 := frozen_of_row w1 (w.heap.size + 1) 0 _ _ hr2
  have f1 := frozen_of_row w1 (w.heap.size + 1) 1 _ _ hr2
  have l1 := lt_of_block hr2
  simp at d0 d1
  have HB1 := Lib.hid (below_to HB.out hb1)
  clear hb1 hr2
  go_wp2
  refine bodyPost_ret (v := .tuple #[.agg #[.int .i64 0, .int .i64 0], .int .i64 9]) ?_ rfl ⟨rfl, ?_⟩
  · simp [results, Try.results30, go_sem, *]
  · exact put2_below _ _ HB1.out (by omega)

set_option maxRecDepth 100000 in
set_option maxHeartbeats 1000000 in
theorem Life_ok (n : Nat) (mv rv : Value) (ms : List Rg) (rs : List Rn) (b st : Int) (w : World) (hK : RoomOk ms rs) (hV : RoomV n w mv rv ms rs) (hb : 0 ≤ b ∧ b < ms.length) (hst : 0 ≤ st ∧ st ≤ 10000000000) (hne : okL ms rs ≠ []) :
    Calls Try.prog 36 #[.agg #[mv], rv, .int .i64 b, .int .i64 st] w fun e w' => e = .returned (.tuple #[.agg #[.int .i64 (lifeL (okL ms rs) b st).lo, .int .i64 (lifeL (okL ms rs) b st).hi], .int .i64 0]) ∧ Below w.heap.size w w' := by
  have HCA := Lib.hid fun w' (h : Below w.heap.size w w') => checkLife_ok n mv rv ms rs b st w' hK (hV.below h) hb hst
  rw [someB_ne hne] at HCA
  have HRA := Lib.hid fun w' (h : Below w.heap.size w w') => life_any n mv rv ms rs b st w' hK (hV.below h) hne hb hst
  obtain ⟨am, capm, rfl, -⟩ := hV.m
  obtain ⟨ar, capr, rfl, -⟩ := hV.r
  obtain ⟨-, y1, y2⟩ := box3 w (.cells #[.slice am ms.length capm] 33) (.cells #[.int .i64 0, .int .i64 0] 50) (.cells #[.slice am ms.length capm, .slice ar rs.length capr] 100)
  have HX := Lib.hid y2
  have HR := Lib.hid y1
  have HB := Lib.hid (below3 w (.cells #[.slice am ms.length capm] 33) (.cells #[.int .i64 0, .int .i64 0] 50) (.cells #[.slice am ms.length capm, .slice ar rs.length capr] 100))
  generalize (lifeL (okL ms rs) b st).lo = lo at *
  generalize (lifeL (okL ms rs) b st).hi = hi at *
  clear hV hK y1 y2 hb hst
  go_enter Try.func36, Try.ntmps36
  go_wp2_with fail
  refine (HCA.out _ HB.out).mono ?_
  rintro e w1 ⟨rfl, hb1⟩
  obtain ⟨c0, c1, hx1⟩ := two_cells HX.out hb1
  have HR1 := Lib.hid ((hb1.block _ (lt_of_block HR.out)).trans HR.out)
  have HB1 := Lib.hid (below_to HB.out hb1)
  clear hb1 hx1
  go_wp2_with fail
  refine (HRA.out _ HB1.out).mono ?_
  rintro e w2 ⟨rfl, hb2⟩
  have hr2 := (hb2.block _ (lt_of_block HR1.out)).trans HR1.out
  have d0 := cell_of_row w2 (w.heap.size + 1) 0 _ _ _ hr2
  have d1 := cell_of_row w2 (w.heap.size + 1) 1 _ _ _ hr2
  have f0 := frozen_of_row w2 (w.heap.size + 1) 0 _ _ hr2
  have f1 := frozen_of_row w2 (w.heap.size + 1) 1 _ _ hr2
  have l1 := lt_of_block hr2
  simp at d0 d1
  have HB2 := Lib.hid (below_to HB1.out hb2)
  clear hb2 hr2 c0 c1
  go_wp2
  refine bodyPost_ret (v := .tuple #[.agg #[.int .i64 lo, .int .i64 hi], .int .i64 0]) ?_ rfl ⟨rfl, put2_below _ _ HB2.out (by omega)⟩
  simp [results, Try.results36, go_sem, *]
set_option maxRecDepth 100000 in
set_option maxHeartbeats 1000000 in
theorem Life_fail (n : Nat) (mv rv : Value) (ms : List Rg) (rs : List Rn) (b st : Int) (w : World) (hK : RoomOk ms rs) (hV : RoomV n w mv rv ms rs) (hb : 0 ≤ b ∧ b < ms.length) (hst : 0 ≤ st ∧ st ≤ 10000000000) (hne : okL ms rs = []) :
    Calls Try.prog 36 #[.agg #[mv], rv, .int .i64 b, .int .i64 st] w fun e w' => e = .returned (.tuple #[.agg #[.int .i64 0, .int .i64 0], .int .i64 9]) ∧ Below w.heap.size w w' := by
  have HCA := Lib.hid fun w' (h : Below w.heap.size w w') => checkLife_ok n mv rv ms rs b st w' hK (hV.below h) hb hst
  rw [someB_nil hne] at HCA
  obtain ⟨am, capm, rfl, -⟩ := hV.m
  obtain ⟨ar, capr, rfl, -⟩ := hV.r
  obtain ⟨-, y1, y2⟩ := box3 w (.cells #[.slice am ms.length capm] 33) (.cells #[.int .i64 0, .int .i64 0] 50) (.cells #[.slice am ms.length capm, .slice ar rs.length capr] 100)
  have HR := Lib.hid y1
  have HB := Lib.hid (below3 w (.cells #[.slice am ms.length capm] 33) (.cells #[.int .i64 0, .int .i64 0] 50) (.cells #[.slice am ms.length capm, .slice ar rs.length capr] 100))
  clear hV hK y1 y2 hb hst
  go_enter Try.func36, Try.ntmps36
  go_wp2_with fail
  refine (HCA.out _ HB.out).mono ?_
  rintro e w1 ⟨rfl, hb1⟩
  have hr2 := (hb1.block _ (lt_of_block HR.out)).trans HR.out
  have d0 := cell_of_row w1 (w.heap.size + 1) 0 _ _ _ hr2
  have d1 := cell_of_row w1 (w.heap.size + 1) 1 _ _ _ hr2
  have f0 := frozen_of_row w1 (w.heap.size + 1) 0 _ _ hr2
  have f1 := frozen_of_row w1 (w.heap.size + 1) 1 _ _ hr2
  have l1 := lt_of_block hr2
  simp at d0 d1
  have HB1 := Lib.hid (below_to HB.out hb1)
  clear hb1 hr2
  go_wp2
  refine bodyPost_ret (v := .tuple #[.agg #[.int .i64 0, .int .i64 0], .int .i64 9]) ?_ rfl ⟨rfl, ?_⟩
  · simp [results, Try.results36, go_sem, *]
  · exact put2_below _ _ HB1.out (by omega)
end Go.Proofs.Ytfijaafkagcmmaa
