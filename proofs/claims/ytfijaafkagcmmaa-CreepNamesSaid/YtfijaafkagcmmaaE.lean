/- Whether a run allows rates; lists that are tested by a function: contracts. Conditions: rates and runs that are valid. -/
import Derived.Test.YtfijaafkagcmmaaD
namespace Go.Proofs.Ytfijaafkagcmmaa
open Go.RowKit Go.Shelf
attribute [local irreducible] arrV

theorem u105 : Try.prog.underlying 105 = some (.array 3 3) := by kernel_rfl
theorem s105 : (Try.prog.info? 105).map (·.size) = some 3 := by kernel_rfl

set_option maxRecDepth 100000 in
set_option maxHeartbeats 1000000 in
theorem fits_any (n nb : Nat) (x : List Int) (v : Value) (r : Rn) (w : World) (hx3 : x.length = 3) (hx : Rates x) (hnb : nb ≤ 3) (hR : RnOk nb r) (hV : SegsV n w v r.ss) (hn : n ≤ w.heap.size) :
    Calls Try.prog 57 #[.agg (arrV x), .agg #[v, .int .i64 r.seen.lo, .int .i64 r.seen.hi]] w fun e w' => e = .returned (.bool (fitsB r x)) ∧ Below w.heap.size w w' := by
  have hfm := fits_meets hR hx
  have HST := Lib.hid fun w' (hs : Same n w w') (hn' : n ≤ w'.heap.size) => stretch_any n nb x v r.ss w' hx3 hx hnb hR.toPlanOk (hV.same hs) hn'
  have HM := Lib.hid (meets_any (loS r.ss x) (hiS r.ss x) r.seen.lo r.seen.hi)
  obtain ⟨a, cap, rfl, -⟩ := hV
  simp only [gt_iff_lt] at hfm
  rw [hfm] at HM
  obtain ⟨y0, y1⟩ := box2 w (.cells (arrV x) 105) (.cells #[.slice a r.ss.length cap, .int .i64 r.seen.lo, .int .i64 r.seen.hi] 78)
  have hbb := below2 w (.cells (arrV x) 105) (.cells #[.slice a r.ss.length cap, .int .i64 r.seen.lo, .int .i64 r.seen.hi] 78)
  have Y0 := Lib.hid y0
  have Y1 := Lib.hid y1
  have HBB := Lib.hid hbb
  clear y0 y1 hbb hfm hR
  generalize fitsB r x = z at *
  generalize loS r.ss x = sl at *
  generalize hiS r.ss x = sh at *
  go_enter Try.func57, Try.ntmps57
  go_wp2
  generalize World.alloc (World.alloc w _) _ = W at *
  have HC : Hid (∀ w1, Below W.heap.size W w1 → w1.rangeAt w.heap.size 0 (x.map iV) ∧ w1.cell? ⟨w.heap.size + 1, 0, none⟩ = some (.slice a r.ss.length cap) ∧ w1.cell? ⟨w.heap.size + 1, 1, none⟩ = some (.int .i64 r.seen.lo) ∧ w1.cell? ⟨w.heap.size + 1, 2, none⟩ = some (.int .i64 r.seen.hi)) := Lib.hid fun w1 hS => by
    have z0 := (hS.block w.heap.size (lt_of_block Y0.out)).trans Y0.out
    have z1 := (hS.block (w.heap.size + 1) (lt_of_block Y1.out)).trans Y1.out
    exact ⟨range_block (t := 105) (by rw [arr_list']; exact z0), cell_of_row w1 _ 0 _ _ _ z1, cell_of_row w1 _ 1 _ _ _ z1, cell_of_row w1 _ 2 _ _ _ z1⟩
  have hsx : (Try.prog.info? 105).map (·.size) = some (x.map iV).length := s105.trans (by rw [List.length_map, hx3])
  refine wp_region_noPanic ?_
  refine wp_region_chain (fun w1 => Below W.heap.size W w1) (fun w1 w2 h hb => h.trans (hb.mono h.size)) (below_drawn _) (by kernel_rfl) (fun _ _ _ _ _ h => h)
    [(false, 0), (false, 1), (false, 2), (false, 4), (false, 5), (true, 3), (true, 6)] [7] (by kernel_rfl) ?_
  (refine Walk.take (v := .agg (arrV x)) rfl rfl (fun w2 hS => exec_load_row 105 (.tmp 2) rfl w.heap.size 0 rfl (x.map iV) (.array 3 3) (HC.out w2 hS).1 u105 rfl hsx (arrV x) (arr_list' _)) ?_; simp only [List.getElem_toArray, List.getElem_cons_succ, List.getElem_cons_zero, Act.put, List.setIfInBounds_toArray, List.set_cons_zero, List.set_cons_succ])
  iterate 4
    (refine Walk.takes rfl rfl ?_; apply Exists.intro; refine ⟨fun w1 hS => ?_, ?_⟩; (obtain ⟨-, d0, d1, d2⟩ := HC.out w1 hS; go_simp; with_reducible rfl); simp only [List.getElem_toArray, List.getElem_cons_succ, List.getElem_cons_zero, Act.put, List.setIfInBounds_toArray, List.set_cons_zero, List.set_cons_succ])
  refine Walk.calls rfl rfl ?_; apply Exists.intro; apply Exists.intro; refine ⟨fun w2 hS => ?_, fun w2 hb2 => ?_⟩; (clear hS; go_simp; exact ⟨rfl, rfl⟩)
  have hs2 : Below w.heap.size w w2 := HBB.out.trans (((below_drawn W).trans hb2).mono HBB.out.size)
  refine (HST.out w2 (.below hn hs2) (by have := hs2.size; omega)).mono ?_
  rintro e w3 ⟨rfl, hb3⟩
  refine ⟨_, rfl, hb3, ?_⟩
  simp only [List.getElem_toArray, List.getElem_cons_succ, List.getElem_cons_zero, Act.put, List.setIfInBounds_toArray, List.set_cons_zero, List.set_cons_succ]
  refine Walk.calls rfl rfl ?_; apply Exists.intro; apply Exists.intro; refine ⟨fun w2 hS => ?_, fun w2 hb2 => ?_⟩; (clear hS; go_simp; exact ⟨rfl, rfl⟩)
  refine (HM.out _).mono ?_
  rintro e w5 ⟨rfl, hb5⟩
  refine ⟨_, rfl, hb5, ?_⟩
  simp only [List.getElem_toArray, List.getElem_cons_succ, List.getElem_cons_zero, Act.put, List.setIfInBounds_toArray, List.set_cons_zero, List.set_cons_succ]
  refine Walk.fin ?_
  rintro w6 hb6 hS6
  refine Tail.value rfl rfl (by go_simp; with_reducible rfl) (Tail.done (NoPanic.normal ?_))
  simp only [List.getElem_toArray, List.getElem_cons_succ, List.getElem_cons_zero, Act.put, List.setIfInBounds_toArray, List.set_cons_zero, List.set_cons_succ]
  have HZ := Lib.hid (below_to HBB.out hS6)
  clear hS6 hb6 hb5 hb3 hs2
  go_wp2
  go_ret
  exact ⟨rfl, HZ.out⟩
end Go.Proofs.Ytfijaafkagcmmaa
