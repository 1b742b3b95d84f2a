/- The checks of plans and lives in a valid room: contracts. Conditions: these. -/
import Derived.Test.YtfijaafkagcmmaaO
namespace Go.Proofs.Ytfijaafkagcmmaa
open Go.RowKit Go.Shelf
attribute [local irreducible] arrV

set_option maxRecDepth 100000 in
set_option maxHeartbeats 1000000 in
theorem checkPlan_ok (n : Nat) (mv rv pv : Value) (ms : List Rg) (rs : List Rn) (ss : List Sg) (w : World) (hK : RoomOk ms rs) (hV : RoomV n w mv rv ms rs) (hP : PlanOk ms.length ss) (hPV : SegsV n w pv ss) :
    Calls Try.prog 61 #[.agg #[mv, rv], pv] w fun e w' => e = .returned (.int .i64 (failE (someB (okL ms rs)))) ∧ Below w.heap.size w w' := by
  have hn := hV.lt
  have hlen := hK.mat.len
  have hpl := hP.len
  have HCA := Lib.hid fun w' (h : Below w.heap.size w w') => checkAllowed_ok n mv rv ms rs w' hK (hV.below h)
  obtain ⟨am, capm, rfl, -⟩ := hV.m
  obtain ⟨ar, capr, rfl, -⟩ := hV.r
  have hsg := segs_ok n ms.length am capm pv ss
  rw [plan_segs hP.sg] at hsg
  have HSG := Lib.hid fun w' (h : Below w.heap.size w w') => hsg w' (by simp [maxLen]; omega) (by simp [maxLen]; omega) (hPV.same (.below hn h)) (Nat.le_trans hn h.size)
  obtain ⟨ap, capp, rfl, -⟩ := hPV
  have hsh := short_any ap ss.length capp
  rw [show decide ((ss.length : Int) ≤ 8) = true by simp; omega] at hsh
  have HSH := Lib.hid fun w' => hsh w' (by simp [maxLen]; omega)
  have HX := Lib.hid (heap_alloc_new w (.cells #[.slice am ms.length capm, .slice ar rs.length capr] 100))
  have HB := Lib.hid (box_below w (.cells #[.slice am ms.length capm, .slice ar rs.length capr] 100))
  clear hV hK hP hsg hsh
  go_enter Try.func61, Try.ntmps61
  go_wp2_with fail
  refine (HCA.out _ HB.out).mono ?_
  rintro e w1 ⟨rfl, hb1⟩
  obtain ⟨c0, c1, hx1⟩ := two_cells HX.out hb1
  have HX1 := Lib.hid hx1
  have HB1 := Lib.hid (below_to HB.out hb1)
  clear hb1 hx1
  cases hz : someB (okL ms rs) with
  | false =>
    have e0 : Hid (failE (someB (okL ms rs)) = 9) := Lib.hid (by rw [hz]; rfl)
    rw [show failE false = 9 from rfl]
    clear hz
    go_wp2
    go_ret
    exact ⟨by rw [e0.out]; rfl, HB1.out⟩
  | true =>
    have e0 : Hid (failE (someB (okL ms rs)) = 0) := Lib.hid (by rw [hz]; rfl)
    rw [show failE true = 0 from rfl]
    clear hz
    go_wp2_with fail
    refine (HSH.out _).mono ?_
    rintro e w2 ⟨rfl, hb2⟩
    clear c0 c1
    obtain ⟨c0, c1, hx2⟩ := two_cells HX1.out hb2
    have HB2 := Lib.hid (below_to HB1.out hb2)
    clear hb2 hx2
    go_wp2_with fail
    refine (HSG.out _ HB2.out).mono ?_
    rintro e w3 ⟨rfl, hb3⟩
    have HB3 := Lib.hid (below_to HB2.out hb3)
    clear hb3
    go_wp2
    go_ret
    exact ⟨by rw [e0.out]; rfl, HB3.out⟩

set_option maxRecDepth 100000 in
set_option maxHeartbeats 1000000 in
theorem checkLife_ok (n : Nat) (mv rv : Value) (ms : List Rg) (rs : List Rn) (b st : Int) (w : World) (hK : RoomOk ms rs) (hV : RoomV n w mv rv ms rs) (hb : 0 ≤ b ∧ b < ms.length) (hst : 0 ≤ st ∧ st ≤ 10000000000) :
    Calls Try.prog 67 #[.agg #[mv, rv], .int .i64 b, .int .i64 st] w fun e w' => e = .returned (.int .i64 (failE (someB (okL ms rs)))) ∧ Below w.heap.size w w' := by
  have hn := hV.lt
  have hlen := hK.mat.len
  have HCA := Lib.hid fun w' (h : Below w.heap.size w w') => checkAllowed_ok n mv rv ms rs w' hK (hV.below h)
  obtain ⟨am, capm, rfl, -⟩ := hV.m
  obtain ⟨ar, capr, rfl, -⟩ := hV.r
  have hbn := band_any am ms.length capm b
  rw [show bandB ms.length b = true by simp [bandB]; omega] at hbn
  have HBN := Lib.hid fun w' => hbn w' (by simp [maxLen]; omega)
  have hev := every_any
  have HEV := Lib.hid hev
  have hha := has_any 0 10000000000 st
  rw [show hasB 0 10000000000 st = true by simp [hasB]; omega] at hha
  have HHA := Lib.hid hha
  have HX := Lib.hid (heap_alloc_new w (.cells #[.slice am ms.length capm, .slice ar rs.length capr] 100))
  have HB := Lib.hid (box_below w (.cells #[.slice am ms.length capm, .slice ar rs.length capr] 100))
  clear hV hK hbn hev hha hb hst
  go_enter Try.func67, Try.ntmps67
  go_wp2_with fail
  refine (HCA.out _ HB.out).mono ?_
  rintro e w1 ⟨rfl, hb1⟩
  obtain ⟨c0, c1, hx1⟩ := two_cells HX.out hb1
  have HX1 := Lib.hid hx1
  have HB1 := Lib.hid (below_to HB.out hb1)
  clear hb1 hx1
  cases hz : someB (okL ms rs) with
  | false =>
    have e0 : Hid (failE (someB (okL ms rs)) = 9) := Lib.hid (by rw [hz]; rfl)
    rw [show failE false = 9 from rfl]
    clear hz
    go_wp2
    go_ret
    exact ⟨by rw [e0.out]; rfl, HB1.out⟩
  | true =>
    have e0 : Hid (failE (someB (okL ms rs)) = 0) := Lib.hid (by rw [hz]; rfl)
    rw [show failE true = 0 from rfl]
    clear hz
    go_wp2_with fail
    refine (HBN.out _).mono ?_
    rintro e w2 ⟨rfl, hb2⟩
    have HB2 := Lib.hid (below_to HB1.out hb2)
    clear hb2 c0 c1
    go_wp2_with fail
    refine (HEV.out _).mono ?_
    rintro e w3 ⟨rfl, hb3⟩
    have HB3 := Lib.hid (below_to HB2.out hb3)
    clear hb3
    go_wp2_with fail
    refine (HHA.out _).mono ?_
    rintro e w4 ⟨rfl, hb4⟩
    have HB4 := Lib.hid (below_to HB3.out hb4)
    clear hb4
    go_wp2
    go_ret
    exact ⟨by rw [e0.out]; rfl, HB4.out⟩
end Go.Proofs.Ytfijaafkagcmmaa
