/- Shows, in a valid room: contracts. Conditions: these. -/
import Derived.Test.YtfijaafkagcmmaaE2J
namespace Go.Proofs.Ytfijaafkagcmmaa
open Go.RowKit Go.Shelf
attribute [local irreducible] arrV wpQuiet

theorem pad3_ld (x : List Int) (i : Nat) : ld (pad3 x) i = ld x i := by
  have := pad3_rt (x := x) (i : Int)
  simpa [rt, ld] using this
theorem ints_arr {w : World} {b : Nat} {x : List Int} (hb : w.heap[b]? = some (.cells (arrV (pad3 x)) 105 (0, 0))) (hx : x.length ≤ 3) : IntsV w.heap.size w (.slice (some ⟨b, 0, none⟩) x.length 3) x :=
  ⟨_, 3, rfl, hx, fun _ => ⟨b, 0, rfl, lt_of_block hb, fun i hi => by
    rw [Nat.zero_add, cell_of_row w b i _ _ _ hb, arrV_get _ i (by rw [pad3_len hx]; omega), pad3_ld]⟩⟩

set_option maxRecDepth 100000 in
set_option maxHeartbeats 2000000 in
theorem Shows_ok (n : Nat) (high : Bool) (mv rv pv : Value) (ms : List Rg) (rs : List Rn) (ss : List Sg) (w : World) (hK : RoomOk ms rs) (hV : RoomV n w mv rv ms rs) (hP : PlanOk ms.length ss) (hPV : SegsV n w pv ss) (hne : okL ms rs ≠ []) :
    Calls Try.prog 32 #[.agg #[mv], rv, pv, .bool high] w fun e w' => (∃ v x, e = .returned (.tuple #[v, .int .i64 0]) ∧ IntsV w'.heap.size w' v x ∧ Far high ss (okL ms rs) x) ∧ Below w.heap.size w w' := by
  have hn := hV.lt
  have hlen := hK.mat.len
  have hone := hK.mat.one
  have HCA := Lib.hid fun w' (h : Below w.heap.size w w') => checkPlan_ok n mv rv pv ms rs ss w' hK (hV.below h) hP (hPV.same (.below hn h))
  rw [someB_ne hne] at HCA
  have HRA := Lib.hid fun w' (h : Below w.heap.size w w') => reaching_any n high mv rv pv ms rs ss w' hK (hV.below h) hP (hPV.same (.below hn h)) hne
  have HLX : Hid (∀ x, Far high ss (okL ms rs) x → x.length = ms.length) := Lib.hid fun x h => len_of (mem_okL.1 h.1).1
  have HEA := Lib.hid (endAt_any high)
  generalize endV high = ev at *
  obtain ⟨am, capm, rfl, -⟩ := hV.m
  obtain ⟨ar, capr, rfl, -⟩ := hV.r
  obtain ⟨ap, capp, rfl, -⟩ := hPV
  have HX := Lib.hid (box2 w (.cells #[.slice am ms.length capm] 33) (.cells #[.slice am ms.length capm, .slice ar rs.length capr] 100)).2
  have HB := Lib.hid (below2 w (.cells #[.slice am ms.length capm] 33) (.cells #[.slice am ms.length capm, .slice ar rs.length capr] 100))
  have hlm3 : (ms.length : Int) ≤ 3 := by omega
  have hlm0 : (0 : Int) ≤ ms.length := by omega
  clear hV hK hP hne hn
  go_enter Try.func32, Try.ntmps32
  go_wp2_with fail
  refine (HCA.out _ HB.out).mono ?_
  rintro e w1 ⟨rfl, hb1⟩
  have HX1 := Lib.hid ((hb1.block _ (lt_of_block HX.out)).trans HX.out)
  have HB1 := Lib.hid (below_to HB.out hb1)
  clear hb1
  go_wp2_with fail
  have HC : Hid (∀ w', Below w1.heap.size w1 w' → w'.cell? ⟨w.heap.size + 1, 0, none⟩ = some (.slice am ms.length capm) ∧ w'.cell? ⟨w.heap.size + 1, 1, none⟩ = some (.slice ar rs.length capr)) := Lib.hid fun w' h => by
    have z1 := (h.block _ (lt_of_block HX1.out)).trans HX1.out
    exact ⟨cell_of_row w' (w.heap.size + 1) 0 _ _ _ z1, cell_of_row w' (w.heap.size + 1) 1 _ _ _ z1⟩
  refine wp_region_noPanic ?_
  refine wp_region_acts (fun w' => Below w1.heap.size w1 w') (fun _ _ h hb => grow_to h hb) (below_drawn _) (by kernel_rfl) (fun _ _ _ _ _ h => h)
    [.take 0, .take 1, .take 2, .float 5, .call 3, .call 4, .join] [6] (by kernel_rfl) ?_
  iterate 3
    (refine GWalk.takes rfl rfl ?_; apply Exists.intro; refine ⟨fun w' hS => ?_, ?_⟩; (obtain ⟨d0, d1⟩ := HC.out w' hS; clear hS; go_simp; with_reducible rfl); simp only [List.getElem_toArray, List.getElem_cons_succ, List.getElem_cons_zero, Act.put, List.setIfInBounds_toArray, List.set_cons_zero, List.set_cons_succ])
  refine GWalk.floats (.cells #[.int .i64 0, .int .i64 0, .int .i64 0] 105) (fun b => .pointer (some ⟨b, 0, none⟩)) rfl rfl rfl (fun w1 => ?_) ?_
  · kernel_rfl
  simp only [List.nil_append, List.cons_append]
  refine GWalk.calls rfl rfl ?_; apply Exists.intro; apply Exists.intro; refine ⟨fun w' hS => ?_, fun v1 hb1 hS1 hO1 => ?_⟩; (clear hS; go_simp; exact ⟨rfl, rfl⟩)
  refine (HEA.out v1).mono ?_
  rintro e u1 ⟨rfl, hbb1⟩
  refine ⟨_, rfl, hbb1, grow_to hS1 hbb1, ?_⟩
  simp only [List.getElem_toArray, List.getElem_cons_succ, List.getElem_cons_zero, Act.put, List.setIfInBounds_toArray, List.set_cons_zero, List.set_cons_succ]
  clear hb1 hS1 hO1 hbb1
  refine GWalk.calls rfl rfl ?_; apply Exists.intro; apply Exists.intro; refine ⟨fun w' hS => ?_, fun v2 hb2 hS2 hO2 => ?_⟩; (clear hS; go_simp; exact ⟨rfl, rfl⟩)
  refine (HRA.out v2 (below_to HB1.out hS2)).mono ?_
  rintro e u2 ⟨⟨x, rfl, hfar⟩, hbb2⟩
  refine ⟨_, rfl, hbb2, grow_to hS2 hbb2, ?_⟩
  simp only [List.getElem_toArray, List.getElem_cons_succ, List.getElem_cons_zero, Act.put, List.setIfInBounds_toArray, List.set_cons_zero, List.set_cons_succ]
  clear hb2 hS2 hO2 hbb2
  have hlx := HLX.out x hfar
  refine GWalk.joins fun w9 b9 hb9 hb91 hb92 hb93 hb94 => ?_
  simp only [List.getElem_toArray, List.getElem_cons_succ, List.getElem_cons_zero, Act.put, List.setIfInBounds_toArray, List.set_cons_zero, List.set_cons_succ]
  refine GWalk.fin fun w10 hb10 hS10 => ?_
  have hz8 := (hb10.block _ hb92).trans hb94
  have hp3 := pad3_len (x := x) (by omega)
  have hlz : (arrV (pad3 x)).size = 3 := by rw [arrV_size, hp3]
  have n1 := set_whole b9 105 w10 #[.int .i64 0, .int .i64 0, .int .i64 0] (arrV (pad3 x)) (by rw [hlz]; rfl) hz8
  have n3 := below_cells (b := b9) hb91 (arrV (pad3 x)).toList 0 w10 hS10
  refine Tail.skip rfl rfl (exec_store_row 105 (.tmp 12) (.tmp 26) rfl b9 0 (arrV (pad3 x)) rfl rfl (there_block hz8 (by rw [hlz]; exact Nat.le_refl _)) (s105.trans (by rw [hlz])) (arrV_one _)) n3 ?_
  simp only [List.getElem_toArray, List.getElem_cons_succ, List.getElem_cons_zero, Act.put, List.setIfInBounds_toArray, List.set_cons_zero, List.set_cons_succ]
  have hne9 : b9 ≠ w.heap.size + 1 := by have := lt_of_block HX1.out; omega
  generalize w10.setCells b9 0 _ = w11 at *
  refine Tail.done (NoPanic.normal ?_)
  have HI := Lib.hid (ints_arr n1 (by omega))
  have HF := Lib.hid hfar
  have HXB := Lib.hid ((n3.block _ (lt_of_block HX1.out)).trans HX1.out)
  have HBB := Lib.hid (below_to HB1.out n3)
  have c0 := cell_of_row w11 (w.heap.size + 1) 0 _ _ _ HXB.out
  simp at c0
  have l0 := lt_of_block HXB.out
  clear n1 n3 hz8 hb9 hb10 hS10 hb91 hb92 hb93 hb94 hp3 hlz HC HRA HCA
  have hcl := clone_any w11.heap.size b9 0 3 x w11 (by omega) (by omega) (Nat.le_refl _) HI.out
  rw [hlx] at hcl
  have HCL := Lib.hid hcl
  clear hcl
  go_wp2_with fail
  refine HCL.out.mono ?_
  rintro e w12 ⟨⟨v, rfl, hv⟩, hb12⟩
  have HV := Lib.hid hv
  have HB12 := Lib.hid (below_to HBB.out hb12)
  clear hb12 hv c0 l0 HCL
  go_wp2
  go_ret2
  exact ⟨⟨v, x, rfl, HV.out, HF.out⟩, HB12.out⟩
set_option maxRecDepth 100000 in
set_option maxHeartbeats 1000000 in
theorem Shows_fail (n : Nat) (high : Bool) (mv rv pv : Value) (ms : List Rg) (rs : List Rn) (ss : List Sg) (w : World) (hK : RoomOk ms rs) (hV : RoomV n w mv rv ms rs) (hP : PlanOk ms.length ss) (hPV : SegsV n w pv ss) (hne : okL ms rs = []) :
    Calls Try.prog 32 #[.agg #[mv], rv, pv, .bool high] w fun e w' => e = .returned (.tuple #[.slice none 0 0, .int .i64 9]) ∧ Below w.heap.size w w' := by
  have hn := hV.lt
  have HCA := Lib.hid fun w' (h : Below w.heap.size w w') => checkPlan_ok n mv rv pv ms rs ss w' hK (hV.below h) hP (hPV.same (.below hn h))
  rw [someB_nil hne] at HCA
  obtain ⟨am, capm, rfl, -⟩ := hV.m
  obtain ⟨ar, capr, rfl, -⟩ := hV.r
  obtain ⟨ap, capp, rfl, -⟩ := hPV
  have HB := Lib.hid (below2 w (.cells #[.slice am ms.length capm] 33) (.cells #[.slice am ms.length capm, .slice ar rs.length capr] 100))
  clear hV hK hP hne hn
  go_enter Try.func32, Try.ntmps32
  go_wp2_with fail
  refine (HCA.out _ HB.out).mono ?_
  rintro e w1 ⟨rfl, hb1⟩
  have HB1 := Lib.hid (below_to HB.out hb1)
  clear hb1
  go_wp2
  go_ret2
  exact ⟨rfl, HB1.out⟩
end Go.Proofs.Ytfijaafkagcmmaa
