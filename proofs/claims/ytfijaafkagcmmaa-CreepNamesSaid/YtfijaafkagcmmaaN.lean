/- The checks of a room on valid materials, runs and plans: contracts. Conditions: these. -/
import Derived.Test.YtfijaafkagcmmaaM
namespace Go.Proofs.Ytfijaafkagcmmaa
open Go.RowKit Go.Shelf
attribute [local irreducible] arrV

theorem segB_ok {n : Nat} {s : Sg} (h : SgOk n s) : segB n s.b s.h.lo s.h.hi = true := by
  have h1 := h.b0
  have h2 := h.bn
  have h3 := h.lo
  have h4 := h.le
  have h5 := h.hi
  simp only [segB, bandB, withinB, Bool.and_eq_true, decide_eq_true_eq]
  omega
theorem plan_segs {n : Nat} {ss : List Sg} (h : ∀ s, s ∈ ss → SgOk n s) : allN (fun q => segB n (sg ss q).b (sg ss q).h.lo (sg ss q).h.hi) ss.length = true :=
  allN_yes fun q hq => segB_ok (h _ (sg_mem hq))

set_option maxRecDepth 100000 in
theorem segs_ok (n nb : Nat) (a : Option Addr) (cap : Nat) (v : Value) (ss : List Sg) (w : World) (hnb : nb ≤ maxLen) (hl : ss.length ≤ maxLen) (hV : SegsV n w v ss) (hn : n ≤ w.heap.size) :
    Calls Try.prog 80 #[v, .func (.func 81) #[.agg #[.slice a nb cap]] #[]] w fun e w' => e = .returned (.bool (allN (fun q => segB nb (sg ss q).b (sg ss q).h.lo (sg ss q).h.hi) ss.length)) ∧ Below w.heap.size w w' :=
  each_seg n 81 #[.agg #[.slice a nb cap]] v ss _ w hl hV hn (fun _ _ => rfl) (fun q w' _ _ _ => segment_any a nb cap _ _ _ w' hnb)

set_option maxRecDepth 100000 in
set_option maxHeartbeats 1000000 in
theorem isRun_ok (n nb : Nat) (am : Option Addr) (capm : Nat) (v : Value) (r : Rn) (w : World) (hnb : nb ≤ maxLen) (hR : RnOk nb r) (hV : SegsV n w v r.ss) (hn : n ≤ w.heap.size) :
    Calls Try.prog 91 #[.agg #[.slice am nb capm], .agg #[v, .int .i64 r.seen.lo, .int .i64 r.seen.hi]] w fun e w' => e = .returned (.bool true) ∧ Below w.heap.size w w' := by
  have hall := plan_segs hR.sg
  have HST := Lib.hid fun w' (hs : Same n w w') (hn' : n ≤ w'.heap.size) => segs_ok n nb am capm v r.ss w' hnb (by have := hR.len; simp [maxLen]; omega) (hV.same hs) hn'
  rw [hall] at HST
  have hwi : withinB r.seen.lo r.seen.hi 0 10000000000 = true := by
    have h1 := hR.lo
    have h2 := hR.le
    have h3 := hR.hi
    simp only [withinB, decide_eq_true_eq]
    omega
  have HW := Lib.hid (within_any r.seen.lo r.seen.hi 0 10000000000)
  rw [hwi] at HW
  have HE := Lib.hid every_any
  obtain ⟨a, cap, rfl, -⟩ := hV
  obtain ⟨y0, y1⟩ := box2 w (.cells #[.slice am nb capm] 33) (.cells #[.slice a r.ss.length cap, .int .i64 r.seen.lo, .int .i64 r.seen.hi] 78)
  have hbb := below2 w (.cells #[.slice am nb capm] 33) (.cells #[.slice a r.ss.length cap, .int .i64 r.seen.lo, .int .i64 r.seen.hi] 78)
  have Y0 := Lib.hid y0
  have Y1 := Lib.hid y1
  have HBB := Lib.hid hbb
  clear y0 y1 hbb hR hall hwi
  go_enter Try.func91, Try.ntmps91
  go_wp2
  generalize World.alloc (World.alloc w _) _ = W at *
  have HC : Hid (∀ w1, Below W.heap.size W w1 → w1.cell? ⟨w.heap.size, 0, none⟩ = some (.slice am nb capm) ∧ w1.cell? ⟨w.heap.size + 1, 0, none⟩ = some (.slice a r.ss.length cap) ∧ w1.cell? ⟨w.heap.size + 1, 1, none⟩ = some (.int .i64 r.seen.lo) ∧ w1.cell? ⟨w.heap.size + 1, 2, none⟩ = some (.int .i64 r.seen.hi)) := Lib.hid fun w1 hS => by
    have z0 := (hS.block w.heap.size (lt_of_block Y0.out)).trans Y0.out
    have z1 := (hS.block (w.heap.size + 1) (lt_of_block Y1.out)).trans Y1.out
    exact ⟨cell_of_row w1 _ 0 _ _ _ z0, cell_of_row w1 _ 0 _ _ _ z1, cell_of_row w1 _ 1 _ _ _ z1, cell_of_row w1 _ 2 _ _ _ z1⟩
  refine wp_region_noPanic ?_
  refine wp_region_chain (fun w1 => Below W.heap.size W w1) (fun w1 w2 h hb => h.trans (hb.mono h.size)) (below_drawn _) (by kernel_rfl) (fun _ _ _ _ _ h => h)
    [(false, 0), (false, 1), (false, 2), (false, 3), (true, 4), (false, 5), (false, 6), (false, 7), (true, 8), (true, 9)] [10, 11] (by kernel_rfl) ?_
  iterate 4
    (refine Walk.takes rfl rfl ?_; apply Exists.intro; refine ⟨fun w1 hS => ?_, ?_⟩; (obtain ⟨d0, d1, d2, d3⟩ := HC.out w1 hS; go_simp; with_reducible rfl); simp only [List.getElem_toArray, List.getElem_cons_succ, List.getElem_cons_zero, Act.put, List.setIfInBounds_toArray, List.set_cons_zero, List.set_cons_succ])
  refine Walk.calls rfl rfl ?_; apply Exists.intro; apply Exists.intro; refine ⟨fun w2 hS => ?_, fun w2 hb2 => ?_⟩; (clear hS; go_simp; exact ⟨rfl, rfl⟩)
  have hs2 : Below w.heap.size w w2 := HBB.out.trans (((below_drawn W).trans hb2).mono HBB.out.size)
  refine (HST.out w2 (.below hn hs2) (by have := hs2.size; omega)).mono ?_
  rintro e w3 ⟨rfl, hb3⟩
  refine ⟨_, rfl, hb3, ?_⟩
  simp only [List.getElem_toArray, List.getElem_cons_succ, List.getElem_cons_zero, Act.put, List.setIfInBounds_toArray, List.set_cons_zero, List.set_cons_succ]
  iterate 3
    (refine Walk.takes rfl rfl ?_; apply Exists.intro; refine ⟨fun w1 hS => ?_, ?_⟩; (obtain ⟨d0, d1, d2, d3⟩ := HC.out w1 hS; go_simp; with_reducible rfl); simp only [List.getElem_toArray, List.getElem_cons_succ, List.getElem_cons_zero, Act.put, List.setIfInBounds_toArray, List.set_cons_zero, List.set_cons_succ])
  refine Walk.calls rfl rfl ?_; apply Exists.intro; apply Exists.intro; refine ⟨fun w2 hS => ?_, fun w2 hb2 => ?_⟩; (clear hS; go_simp; exact ⟨rfl, rfl⟩)
  refine (HE.out _).mono ?_
  rintro e w5 ⟨rfl, hb5⟩
  refine ⟨_, rfl, hb5, ?_⟩
  simp only [List.getElem_toArray, List.getElem_cons_succ, List.getElem_cons_zero, Act.put, List.setIfInBounds_toArray, List.set_cons_zero, List.set_cons_succ]
  refine Walk.calls rfl rfl ?_; apply Exists.intro; apply Exists.intro; refine ⟨fun w2 hS => ?_, fun w2 hb2 => ?_⟩; (clear hS; go_simp; exact ⟨rfl, rfl⟩)
  refine (HW.out _).mono ?_
  rintro e w7 ⟨rfl, hb7⟩
  refine ⟨_, rfl, hb7, ?_⟩
  simp only [List.getElem_toArray, List.getElem_cons_succ, List.getElem_cons_zero, Act.put, List.setIfInBounds_toArray, List.set_cons_zero, List.set_cons_succ]
  refine Walk.fin ?_
  rintro w6 hb6 hS6
  iterate 2
    (refine Tail.value rfl rfl (by go_simp; with_reducible rfl) ?_; simp only [List.getElem_toArray, List.getElem_cons_succ, List.getElem_cons_zero, Act.put, List.setIfInBounds_toArray, List.set_cons_zero, List.set_cons_succ])
  refine Tail.done (NoPanic.normal ?_)
  have HZ := Lib.hid (below_to HBB.out hS6)
  clear hS6 hb6 hb5 hb3 hs2 hb7
  go_wp2
  go_ret
  exact ⟨rfl, HZ.out⟩
end Go.Proofs.Ytfijaafkagcmmaa
