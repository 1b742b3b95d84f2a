/- The counter of bounds: contracts. -/
import Derived.Test.YtfjlnejeffkdoaaM
import Derived.Test.YtfjlnejeffkdoaaQ
import Derived.Deep.DeepCutAuto
namespace Go.Proofs.Ytfjlnejeffkdoaa
open Go.RowKit

theorem But.new {T : Nat → Prop} {w A : World} (h : But T w A) {b j : Nat} {v : Value} (hb : w.heap.size ≤ b) : But T w (A.setCell ⟨b, j, none⟩ v) :=
  ⟨h.os, h.tape, h.output, by simpa [World.setCell] using h.size, fun k hk hn => (heap_setCell_other A ⟨b, j, none⟩ k v (by show k ≠ b; omega)).trans (h.block k hk hn)⟩

/-- What the counter of bounds leaves: the range in block ba, the mark in block bb. -/
def Took (ba bb : Nat) (lo hi : Int) (w : World) (e : Ending) (w' : World) : Prop :=
  e = .returned (.agg #[.int .i64 lo, .int .i64 hi]) ∧ w'.heap[ba]? = some (.cells #[.int .i64 lo, .int .i64 hi] 51 (0, 0)) ∧ w'.heap[bb]? = some (.cells #[.bool true] 4 (0, 0)) ∧ But (fun k => k = ba ∨ k = bb) w w'

set_option maxHeartbeats 300000 in
theorem take_first (n lo hi : Int) (ba bb : Nat) (w : World) (hne : ba ≠ bb) (ha : w.heap[ba]? = some (.cells #[.int .i64 lo, .int .i64 hi] 51 (0, 0))) (hb : w.heap[bb]? = some (.cells #[.bool false] 4 (0, 0))) :
    Calls Try.prog 89 #[.int .i64 n, .pointer (some ⟨bb, 0, none⟩), .pointer (some ⟨ba, 0, none⟩)] w (Took ba bb n n w) := by
  have a0 := cell_of_row w ba 0 _ _ _ ha
  have a1 := cell_of_row w ba 1 _ _ _ ha
  have b0 := cell_of_row w bb 0 _ _ _ hb
  have f0 := frozen_of_row w ba 0 _ _ ha
  have f1 := frozen_of_row w ba 1 _ _ ha
  have g0 := frozen_of_row w bb 0 _ _ hb
  simp at a0 a1 b0
  have la := lt_of_block ha
  have lb := lt_of_block hb
  have hne' : bb ≠ ba := fun e => hne e.symm
  have HA := Lib.hid ha
  have HB := Lib.hid hb
  clear ha hb
  go_enter Try.func89, Try.ntmps89
  go_upto_region 3 with (fail)
  have hA1 := heap_setCell_same w ba 0 _ 51 (.int .i64 n) HA.out
  have hA2 := heap_setCell_same _ ba 1 _ 51 (.int .i64 n) hA1
  have hA3 := (heap_setCell_other ((w.setCell ⟨ba, 0, none⟩ (.int .i64 n)).setCell ⟨ba, 1, none⟩ (.int .i64 n)) ⟨bb, 0, none⟩ ba (.bool true) hne).trans hA2
  have hB1 := (heap_setCell_other w ⟨ba, 0, none⟩ bb (.int .i64 n) hne').trans HB.out
  have hB2 := (heap_setCell_other (w.setCell ⟨ba, 0, none⟩ (.int .i64 n)) ⟨ba, 1, none⟩ bb (.int .i64 n) hne').trans hB1
  have hB3 := heap_setCell_same _ bb 0 _ 4 (.bool true) hB2
  have hb3 : But (fun k => k = ba ∨ k = bb) w (((w.setCell ⟨ba, 0, none⟩ (.int .i64 n)).setCell ⟨ba, 1, none⟩ (.int .i64 n)).setCell ⟨bb, 0, none⟩ (.bool true)) :=
    (((But.setCell w _ (.inl rfl)).trans (But.setCell _ _ (.inl rfl))).trans (But.setCell _ _ (.inr rfl)))
  have hsz : (((w.setCell ⟨ba, 0, none⟩ (.int .i64 n)).setCell ⟨ba, 1, none⟩ (.int .i64 n)).setCell ⟨bb, 0, none⟩ (.bool true)).heap.size = w.heap.size := by simp [World.setCell]
  simp at hA3 hB3
  clear hA1 hA2 hB1 hB2 a0 a1 b0 f0 f1 g0 HA HB
  generalize World.setCell (World.setCell (World.setCell w _ _) _ _) _ _ = W at *
  have lA := lt_of_block hA3
  have lB := lt_of_block hB3
  have hA4 := (Below.heap_alloc W (.cells #[.int .i64 0, .int .i64 0] 51) ba lA).trans hA3
  have hB4 := (Below.heap_alloc W (.cells #[.int .i64 0, .int .i64 0] 51) bb lB).trans hB3
  have hN4 := heap_alloc_new W (.cells #[.int .i64 0, .int .i64 0] 51)
  have hb4 := hb3.trans (But.of_below (T := fun k => k = ba ∨ k = bb) (grow_alloc W (.cells #[.int .i64 0, .int .i64 0] 51)))
  rw [hsz] at hN4
  have lN := lt_of_block hN4
  have hnA : w.heap.size ≠ ba := by omega
  have hnB : w.heap.size ≠ bb := by omega
  have hnA' : ba ≠ w.heap.size := by omega
  clear hA3 hB3 hb3 lA lB
  generalize World.alloc W _ = W4 at *
  have c0 := cell_of_row W4 ba 0 _ _ _ hA4
  have c1 := cell_of_row W4 ba 1 _ _ _ hA4
  have f0 := frozen_of_row W4 ba 0 _ _ hA4
  have f1 := frozen_of_row W4 ba 1 _ _ hA4
  have n0 := cell_of_row W4 w.heap.size 0 _ _ _ hN4
  have n1 := cell_of_row W4 w.heap.size 1 _ _ _ hN4
  have m0 := frozen_of_row W4 w.heap.size 0 _ _ hN4
  have m1 := frozen_of_row W4 w.heap.size 1 _ _ hN4
  simp at c0 c1 n0 n1
  have HA4 := Lib.hid hA4
  have HB4 := Lib.hid hB4
  have HN4 := Lib.hid hN4
  have Hb4 := Lib.hid hb4
  clear hA4 hB4 hN4 hb4 hsz
  go_upto_region 4 with (fail)
  have k1 := heap_setCell_same W4 ba 0 _ 51 (.int .i64 n) HA4.out
  have k2 := heap_setCell_same _ ba 1 _ 51 (.int .i64 n) k1
  have kB := (heap_setCell_other (W4.setCell ⟨ba, 0, none⟩ (.int .i64 n)) ⟨ba, 1, none⟩ bb (.int .i64 n) hne').trans ((heap_setCell_other W4 ⟨ba, 0, none⟩ bb (.int .i64 n) hne').trans HB4.out)
  have kN := (heap_setCell_other (W4.setCell ⟨ba, 0, none⟩ (.int .i64 n)) ⟨ba, 1, none⟩ w.heap.size (.int .i64 n) hnA).trans ((heap_setCell_other W4 ⟨ba, 0, none⟩ w.heap.size (.int .i64 n) hnA).trans HN4.out)
  have kb := (Hb4.out.trans (But.setCell (T := fun k => k = ba ∨ k = bb) W4 (j := 0) (.int .i64 n) (.inl rfl))).trans (But.setCell (T := fun k => k = ba ∨ k = bb) (W4.setCell ⟨ba, 0, none⟩ (.int .i64 n)) (j := 1) (.int .i64 n) (.inl rfl))
  simp at k2
  clear k1 c0 c1 f0 f1 n0 n1 m0 m1 HA4 HB4 HN4 Hb4
  generalize World.setCell (World.setCell W4 _ _) _ _ = W5 at *
  have c0 := cell_of_row W5 ba 0 _ _ _ k2
  have c1 := cell_of_row W5 ba 1 _ _ _ k2
  have n0 := cell_of_row W5 w.heap.size 0 _ _ _ kN
  have n1 := cell_of_row W5 w.heap.size 1 _ _ _ kN
  have m0 := frozen_of_row W5 w.heap.size 0 _ _ kN
  have m1 := frozen_of_row W5 w.heap.size 1 _ _ kN
  simp at c0 c1 n0 n1
  have K2 := Lib.hid k2
  have KB := Lib.hid kB
  have Kb := Lib.hid kb
  clear k2 kB kb kN
  go_wp2
  exact bodyPost_ret (v := .agg #[.int .i64 n, .int .i64 n]) (by simp [results, Try.results89, go_sem, *]) rfl ⟨rfl,
    (heap_setCell_other _ ⟨w.heap.size, 1, none⟩ ba _ hnA').trans ((heap_setCell_other _ ⟨w.heap.size, 0, none⟩ ba _ hnA').trans K2.out),
    (heap_setCell_other _ ⟨w.heap.size, 1, none⟩ bb _ (fun e => hnB e.symm)).trans ((heap_setCell_other _ ⟨w.heap.size, 0, none⟩ bb _ (fun e => hnB e.symm)).trans KB.out),
    (Kb.out.new (Nat.le_refl _)).new (Nat.le_refl _)⟩


set_option maxHeartbeats 400000 in
theorem take_nn (n lo hi : Int) (h1 : n < lo) (h2 : hi < n) (ba bb : Nat) (w : World) (hne : ba ≠ bb) (ha : w.heap[ba]? = some (.cells #[.int .i64 lo, .int .i64 hi] 51 (0, 0))) (hb : w.heap[bb]? = some (.cells #[.bool true] 4 (0, 0))) :
    Calls Try.prog 89 #[.int .i64 n, .pointer (some ⟨bb, 0, none⟩), .pointer (some ⟨ba, 0, none⟩)] w (Took ba bb n n w) := by
  have lA := lt_of_block ha
  have lB := lt_of_block hb
  have hne' : bb ≠ ba := fun e => hne e.symm
  have hA4 := (Below.heap_alloc w (.cells #[.int .i64 0, .int .i64 0] 51) ba lA).trans ha
  have hB4 := (Below.heap_alloc w (.cells #[.int .i64 0, .int .i64 0] 51) bb lB).trans hb
  have hN4 := heap_alloc_new w (.cells #[.int .i64 0, .int .i64 0] 51)
  have hb4 := But.of_below (T := fun k => k = ba ∨ k = bb) (grow_alloc w (.cells #[.int .i64 0, .int .i64 0] 51))
  have hnA : w.heap.size ≠ ba := by omega
  have hnB : w.heap.size ≠ bb := by omega
  have hnA' : ba ≠ w.heap.size := by omega
  clear ha hb
  go_enter Try.func89, Try.ntmps89
  go_upto_region 1 with (fail)
  generalize World.alloc w _ = W4 at *
  have c0 := cell_of_row W4 ba 0 _ _ _ hA4
  have c1 := cell_of_row W4 ba 1 _ _ _ hA4
  have b0 := cell_of_row W4 bb 0 _ _ _ hB4
  have f0 := frozen_of_row W4 ba 0 _ _ hA4
  have f1 := frozen_of_row W4 ba 1 _ _ hA4
  have n0 := cell_of_row W4 w.heap.size 0 _ _ _ hN4
  have n1 := cell_of_row W4 w.heap.size 1 _ _ _ hN4
  have m0 := frozen_of_row W4 w.heap.size 0 _ _ hN4
  have m1 := frozen_of_row W4 w.heap.size 1 _ _ hN4
  simp at c0 c1 b0 n0 n1
  have HA4 := Lib.hid hA4
  have HB4 := Lib.hid hB4
  have HN4 := Lib.hid hN4
  have Hb4 := Lib.hid hb4
  clear hA4 hB4 hN4 hb4
  go_upto_region 4 with (fail)
  clear b0
  have k1 := heap_setCell_same W4 ba 0 _ 51 (.int .i64 n) HA4.out
  have k2 := heap_setCell_same _ ba 1 _ 51 (.int .i64 n) k1
  have kB := (heap_setCell_other (W4.setCell ⟨ba, 0, none⟩ (.int .i64 n)) ⟨ba, 1, none⟩ bb (.int .i64 n) hne').trans ((heap_setCell_other W4 ⟨ba, 0, none⟩ bb (.int .i64 n) hne').trans HB4.out)
  have kN := (heap_setCell_other (W4.setCell ⟨ba, 0, none⟩ (.int .i64 n)) ⟨ba, 1, none⟩ w.heap.size (.int .i64 n) hnA).trans ((heap_setCell_other W4 ⟨ba, 0, none⟩ w.heap.size (.int .i64 n) hnA).trans HN4.out)
  have kb := (Hb4.out.trans (But.setCell (T := fun k => k = ba ∨ k = bb) W4 (j := 0) (.int .i64 n) (.inl rfl))).trans (But.setCell (T := fun k => k = ba ∨ k = bb) (W4.setCell ⟨ba, 0, none⟩ (.int .i64 n)) (j := 1) (.int .i64 n) (.inl rfl))
  simp at k2
  clear k1 c0 c1 f0 f1 n0 n1 m0 m1 HA4 HB4 HN4 Hb4
  generalize World.setCell (World.setCell W4 _ _) _ _ = W5 at *
  have c0 := cell_of_row W5 ba 0 _ _ _ k2
  have c1 := cell_of_row W5 ba 1 _ _ _ k2
  have n0 := cell_of_row W5 w.heap.size 0 _ _ _ kN
  have n1 := cell_of_row W5 w.heap.size 1 _ _ _ kN
  have m0 := frozen_of_row W5 w.heap.size 0 _ _ kN
  have m1 := frozen_of_row W5 w.heap.size 1 _ _ kN
  simp at c0 c1 n0 n1
  have K2 := Lib.hid k2
  have KB := Lib.hid kB
  have Kb := Lib.hid kb
  clear k2 kB kb kN
  go_wp2
  exact bodyPost_ret (v := .agg #[.int .i64 n, .int .i64 n]) (by simp [results, Try.results89, go_sem, *]) rfl ⟨rfl,
    (heap_setCell_other _ ⟨w.heap.size, 1, none⟩ ba _ hnA').trans ((heap_setCell_other _ ⟨w.heap.size, 0, none⟩ ba _ hnA').trans K2.out),
    (heap_setCell_other _ ⟨w.heap.size, 1, none⟩ bb _ (fun e => hnB e.symm)).trans ((heap_setCell_other _ ⟨w.heap.size, 0, none⟩ bb _ (fun e => hnB e.symm)).trans KB.out),
    (Kb.out.new (Nat.le_refl _)).new (Nat.le_refl _)⟩

set_option maxHeartbeats 400000 in
theorem take_nh (n lo hi : Int) (h1 : n < lo) (h2 : ¬ hi < n) (ba bb : Nat) (w : World) (hne : ba ≠ bb) (ha : w.heap[ba]? = some (.cells #[.int .i64 lo, .int .i64 hi] 51 (0, 0))) (hb : w.heap[bb]? = some (.cells #[.bool true] 4 (0, 0))) :
    Calls Try.prog 89 #[.int .i64 n, .pointer (some ⟨bb, 0, none⟩), .pointer (some ⟨ba, 0, none⟩)] w (Took ba bb n hi w) := by
  have lA := lt_of_block ha
  have lB := lt_of_block hb
  have hne' : bb ≠ ba := fun e => hne e.symm
  have hA4 := (Below.heap_alloc w (.cells #[.int .i64 0, .int .i64 0] 51) ba lA).trans ha
  have hB4 := (Below.heap_alloc w (.cells #[.int .i64 0, .int .i64 0] 51) bb lB).trans hb
  have hN4 := heap_alloc_new w (.cells #[.int .i64 0, .int .i64 0] 51)
  have hb4 := But.of_below (T := fun k => k = ba ∨ k = bb) (grow_alloc w (.cells #[.int .i64 0, .int .i64 0] 51))
  have hnA : w.heap.size ≠ ba := by omega
  have hnB : w.heap.size ≠ bb := by omega
  have hnA' : ba ≠ w.heap.size := by omega
  clear ha hb
  go_enter Try.func89, Try.ntmps89
  go_upto_region 1 with (fail)
  generalize World.alloc w _ = W4 at *
  have c0 := cell_of_row W4 ba 0 _ _ _ hA4
  have c1 := cell_of_row W4 ba 1 _ _ _ hA4
  have b0 := cell_of_row W4 bb 0 _ _ _ hB4
  have f0 := frozen_of_row W4 ba 0 _ _ hA4
  have f1 := frozen_of_row W4 ba 1 _ _ hA4
  have n0 := cell_of_row W4 w.heap.size 0 _ _ _ hN4
  have n1 := cell_of_row W4 w.heap.size 1 _ _ _ hN4
  have m0 := frozen_of_row W4 w.heap.size 0 _ _ hN4
  have m1 := frozen_of_row W4 w.heap.size 1 _ _ hN4
  simp at c0 c1 b0 n0 n1
  have HA4 := Lib.hid hA4
  have HB4 := Lib.hid hB4
  have HN4 := Lib.hid hN4
  have Hb4 := Lib.hid hb4
  clear hA4 hB4 hN4 hb4
  go_upto_region 4 with (fail)
  clear b0
  have k1 := heap_setCell_same W4 ba 0 _ 51 (.int .i64 n) HA4.out
  have k2 := heap_setCell_same _ ba 1 _ 51 (.int .i64 hi) k1
  have kB := (heap_setCell_other (W4.setCell ⟨ba, 0, none⟩ (.int .i64 n)) ⟨ba, 1, none⟩ bb (.int .i64 hi) hne').trans ((heap_setCell_other W4 ⟨ba, 0, none⟩ bb (.int .i64 n) hne').trans HB4.out)
  have kN := (heap_setCell_other (W4.setCell ⟨ba, 0, none⟩ (.int .i64 n)) ⟨ba, 1, none⟩ w.heap.size (.int .i64 hi) hnA).trans ((heap_setCell_other W4 ⟨ba, 0, none⟩ w.heap.size (.int .i64 n) hnA).trans HN4.out)
  have kb := (Hb4.out.trans (But.setCell (T := fun k => k = ba ∨ k = bb) W4 (j := 0) (.int .i64 n) (.inl rfl))).trans (But.setCell (T := fun k => k = ba ∨ k = bb) (W4.setCell ⟨ba, 0, none⟩ (.int .i64 n)) (j := 1) (.int .i64 hi) (.inl rfl))
  simp at k2
  clear k1 c0 c1 f0 f1 n0 n1 m0 m1 HA4 HB4 HN4 Hb4
  generalize World.setCell (World.setCell W4 _ _) _ _ = W5 at *
  have c0 := cell_of_row W5 ba 0 _ _ _ k2
  have c1 := cell_of_row W5 ba 1 _ _ _ k2
  have n0 := cell_of_row W5 w.heap.size 0 _ _ _ kN
  have n1 := cell_of_row W5 w.heap.size 1 _ _ _ kN
  have m0 := frozen_of_row W5 w.heap.size 0 _ _ kN
  have m1 := frozen_of_row W5 w.heap.size 1 _ _ kN
  simp at c0 c1 n0 n1
  have K2 := Lib.hid k2
  have KB := Lib.hid kB
  have Kb := Lib.hid kb
  clear k2 kB kb kN
  go_wp2
  exact bodyPost_ret (v := .agg #[.int .i64 n, .int .i64 hi]) (by simp [results, Try.results89, go_sem, *]) rfl ⟨rfl,
    (heap_setCell_other _ ⟨w.heap.size, 1, none⟩ ba _ hnA').trans ((heap_setCell_other _ ⟨w.heap.size, 0, none⟩ ba _ hnA').trans K2.out),
    (heap_setCell_other _ ⟨w.heap.size, 1, none⟩ bb _ (fun e => hnB e.symm)).trans ((heap_setCell_other _ ⟨w.heap.size, 0, none⟩ bb _ (fun e => hnB e.symm)).trans KB.out),
    (Kb.out.new (Nat.le_refl _)).new (Nat.le_refl _)⟩

set_option maxHeartbeats 400000 in
theorem take_ln (n lo hi : Int) (h1 : ¬ n < lo) (h2 : hi < n) (ba bb : Nat) (w : World) (hne : ba ≠ bb) (ha : w.heap[ba]? = some (.cells #[.int .i64 lo, .int .i64 hi] 51 (0, 0))) (hb : w.heap[bb]? = some (.cells #[.bool true] 4 (0, 0))) :
    Calls Try.prog 89 #[.int .i64 n, .pointer (some ⟨bb, 0, none⟩), .pointer (some ⟨ba, 0, none⟩)] w (Took ba bb lo n w) := by
  have lA := lt_of_block ha
  have lB := lt_of_block hb
  have hne' : bb ≠ ba := fun e => hne e.symm
  have hA4 := (Below.heap_alloc w (.cells #[.int .i64 0, .int .i64 0] 51) ba lA).trans ha
  have hB4 := (Below.heap_alloc w (.cells #[.int .i64 0, .int .i64 0] 51) bb lB).trans hb
  have hN4 := heap_alloc_new w (.cells #[.int .i64 0, .int .i64 0] 51)
  have hb4 := But.of_below (T := fun k => k = ba ∨ k = bb) (grow_alloc w (.cells #[.int .i64 0, .int .i64 0] 51))
  have hnA : w.heap.size ≠ ba := by omega
  have hnB : w.heap.size ≠ bb := by omega
  have hnA' : ba ≠ w.heap.size := by omega
  clear ha hb
  go_enter Try.func89, Try.ntmps89
  go_upto_region 1 with (fail)
  generalize World.alloc w _ = W4 at *
  have c0 := cell_of_row W4 ba 0 _ _ _ hA4
  have c1 := cell_of_row W4 ba 1 _ _ _ hA4
  have b0 := cell_of_row W4 bb 0 _ _ _ hB4
  have f0 := frozen_of_row W4 ba 0 _ _ hA4
  have f1 := frozen_of_row W4 ba 1 _ _ hA4
  have n0 := cell_of_row W4 w.heap.size 0 _ _ _ hN4
  have n1 := cell_of_row W4 w.heap.size 1 _ _ _ hN4
  have m0 := frozen_of_row W4 w.heap.size 0 _ _ hN4
  have m1 := frozen_of_row W4 w.heap.size 1 _ _ hN4
  simp at c0 c1 b0 n0 n1
  have HA4 := Lib.hid hA4
  have HB4 := Lib.hid hB4
  have HN4 := Lib.hid hN4
  have Hb4 := Lib.hid hb4
  clear hA4 hB4 hN4 hb4
  go_upto_region 4 with (fail)
  clear b0
  have k1 := heap_setCell_same W4 ba 0 _ 51 (.int .i64 lo) HA4.out
  have k2 := heap_setCell_same _ ba 1 _ 51 (.int .i64 n) k1
  have kB := (heap_setCell_other (W4.setCell ⟨ba, 0, none⟩ (.int .i64 lo)) ⟨ba, 1, none⟩ bb (.int .i64 n) hne').trans ((heap_setCell_other W4 ⟨ba, 0, none⟩ bb (.int .i64 lo) hne').trans HB4.out)
  have kN := (heap_setCell_other (W4.setCell ⟨ba, 0, none⟩ (.int .i64 lo)) ⟨ba, 1, none⟩ w.heap.size (.int .i64 n) hnA).trans ((heap_setCell_other W4 ⟨ba, 0, none⟩ w.heap.size (.int .i64 lo) hnA).trans HN4.out)
  have kb := (Hb4.out.trans (But.setCell (T := fun k => k = ba ∨ k = bb) W4 (j := 0) (.int .i64 lo) (.inl rfl))).trans (But.setCell (T := fun k => k = ba ∨ k = bb) (W4.setCell ⟨ba, 0, none⟩ (.int .i64 lo)) (j := 1) (.int .i64 n) (.inl rfl))
  simp at k2
  clear k1 c0 c1 f0 f1 n0 n1 m0 m1 HA4 HB4 HN4 Hb4
  generalize World.setCell (World.setCell W4 _ _) _ _ = W5 at *
  have c0 := cell_of_row W5 ba 0 _ _ _ k2
  have c1 := cell_of_row W5 ba 1 _ _ _ k2
  have n0 := cell_of_row W5 w.heap.size 0 _ _ _ kN
  have n1 := cell_of_row W5 w.heap.size 1 _ _ _ kN
  have m0 := frozen_of_row W5 w.heap.size 0 _ _ kN
  have m1 := frozen_of_row W5 w.heap.size 1 _ _ kN
  simp at c0 c1 n0 n1
  have K2 := Lib.hid k2
  have KB := Lib.hid kB
  have Kb := Lib.hid kb
  clear k2 kB kb kN
  go_wp2
  exact bodyPost_ret (v := .agg #[.int .i64 lo, .int .i64 n]) (by simp [results, Try.results89, go_sem, *]) rfl ⟨rfl,
    (heap_setCell_other _ ⟨w.heap.size, 1, none⟩ ba _ hnA').trans ((heap_setCell_other _ ⟨w.heap.size, 0, none⟩ ba _ hnA').trans K2.out),
    (heap_setCell_other _ ⟨w.heap.size, 1, none⟩ bb _ (fun e => hnB e.symm)).trans ((heap_setCell_other _ ⟨w.heap.size, 0, none⟩ bb _ (fun e => hnB e.symm)).trans KB.out),
    (Kb.out.new (Nat.le_refl _)).new (Nat.le_refl _)⟩

set_option maxHeartbeats 400000 in
theorem take_lh (n lo hi : Int) (h1 : ¬ n < lo) (h2 : ¬ hi < n) (ba bb : Nat) (w : World) (hne : ba ≠ bb) (ha : w.heap[ba]? = some (.cells #[.int .i64 lo, .int .i64 hi] 51 (0, 0))) (hb : w.heap[bb]? = some (.cells #[.bool true] 4 (0, 0))) :
    Calls Try.prog 89 #[.int .i64 n, .pointer (some ⟨bb, 0, none⟩), .pointer (some ⟨ba, 0, none⟩)] w (Took ba bb lo hi w) := by
  have lA := lt_of_block ha
  have lB := lt_of_block hb
  have hne' : bb ≠ ba := fun e => hne e.symm
  have hA4 := (Below.heap_alloc w (.cells #[.int .i64 0, .int .i64 0] 51) ba lA).trans ha
  have hB4 := (Below.heap_alloc w (.cells #[.int .i64 0, .int .i64 0] 51) bb lB).trans hb
  have hN4 := heap_alloc_new w (.cells #[.int .i64 0, .int .i64 0] 51)
  have hb4 := But.of_below (T := fun k => k = ba ∨ k = bb) (grow_alloc w (.cells #[.int .i64 0, .int .i64 0] 51))
  have hnA : w.heap.size ≠ ba := by omega
  have hnB : w.heap.size ≠ bb := by omega
  have hnA' : ba ≠ w.heap.size := by omega
  clear ha hb
  go_enter Try.func89, Try.ntmps89
  go_upto_region 1 with (fail)
  generalize World.alloc w _ = W4 at *
  have c0 := cell_of_row W4 ba 0 _ _ _ hA4
  have c1 := cell_of_row W4 ba 1 _ _ _ hA4
  have b0 := cell_of_row W4 bb 0 _ _ _ hB4
  have f0 := frozen_of_row W4 ba 0 _ _ hA4
  have f1 := frozen_of_row W4 ba 1 _ _ hA4
  have n0 := cell_of_row W4 w.heap.size 0 _ _ _ hN4
  have n1 := cell_of_row W4 w.heap.size 1 _ _ _ hN4
  have m0 := frozen_of_row W4 w.heap.size 0 _ _ hN4
  have m1 := frozen_of_row W4 w.heap.size 1 _ _ hN4
  simp at c0 c1 b0 n0 n1
  have HA4 := Lib.hid hA4
  have HB4 := Lib.hid hB4
  have HN4 := Lib.hid hN4
  have Hb4 := Lib.hid hb4
  clear hA4 hB4 hN4 hb4
  go_upto_region 4 with (fail)
  clear b0
  have k1 := heap_setCell_same W4 ba 0 _ 51 (.int .i64 lo) HA4.out
  have k2 := heap_setCell_same _ ba 1 _ 51 (.int .i64 hi) k1
  have kB := (heap_setCell_other (W4.setCell ⟨ba, 0, none⟩ (.int .i64 lo)) ⟨ba, 1, none⟩ bb (.int .i64 hi) hne').trans ((heap_setCell_other W4 ⟨ba, 0, none⟩ bb (.int .i64 lo) hne').trans HB4.out)
  have kN := (heap_setCell_other (W4.setCell ⟨ba, 0, none⟩ (.int .i64 lo)) ⟨ba, 1, none⟩ w.heap.size (.int .i64 hi) hnA).trans ((heap_setCell_other W4 ⟨ba, 0, none⟩ w.heap.size (.int .i64 lo) hnA).trans HN4.out)
  have kb := (Hb4.out.trans (But.setCell (T := fun k => k = ba ∨ k = bb) W4 (j := 0) (.int .i64 lo) (.inl rfl))).trans (But.setCell (T := fun k => k = ba ∨ k = bb) (W4.setCell ⟨ba, 0, none⟩ (.int .i64 lo)) (j := 1) (.int .i64 hi) (.inl rfl))
  simp at k2
  clear k1 c0 c1 f0 f1 n0 n1 m0 m1 HA4 HB4 HN4 Hb4
  generalize World.setCell (World.setCell W4 _ _) _ _ = W5 at *
  have c0 := cell_of_row W5 ba 0 _ _ _ k2
  have c1 := cell_of_row W5 ba 1 _ _ _ k2
  have n0 := cell_of_row W5 w.heap.size 0 _ _ _ kN
  have n1 := cell_of_row W5 w.heap.size 1 _ _ _ kN
  have m0 := frozen_of_row W5 w.heap.size 0 _ _ kN
  have m1 := frozen_of_row W5 w.heap.size 1 _ _ kN
  simp at c0 c1 n0 n1
  have K2 := Lib.hid k2
  have KB := Lib.hid kB
  have Kb := Lib.hid kb
  clear k2 kB kb kN
  go_wp2
  exact bodyPost_ret (v := .agg #[.int .i64 lo, .int .i64 hi]) (by simp [results, Try.results89, go_sem, *]) rfl ⟨rfl,
    (heap_setCell_other _ ⟨w.heap.size, 1, none⟩ ba _ hnA').trans ((heap_setCell_other _ ⟨w.heap.size, 0, none⟩ ba _ hnA').trans K2.out),
    (heap_setCell_other _ ⟨w.heap.size, 1, none⟩ bb _ (fun e => hnB e.symm)).trans ((heap_setCell_other _ ⟨w.heap.size, 0, none⟩ bb _ (fun e => hnB e.symm)).trans KB.out),
    (Kb.out.new (Nat.le_refl _)).new (Nat.le_refl _)⟩

theorem take_next (n lo hi : Int) (ba bb : Nat) (w : World) (hne : ba ≠ bb) (ha : w.heap[ba]? = some (.cells #[.int .i64 lo, .int .i64 hi] 51 (0, 0))) (hb : w.heap[bb]? = some (.cells #[.bool true] 4 (0, 0))) :
    Calls Try.prog 89 #[.int .i64 n, .pointer (some ⟨bb, 0, none⟩), .pointer (some ⟨ba, 0, none⟩)] w (Took ba bb (min lo n) (max hi n) w) := by
  by_cases h1 : n < lo
  · by_cases h2 : hi < n
    · rw [show min lo n = n by omega, show max hi n = n by omega]; exact take_nn n lo hi h1 h2 ba bb w hne ha hb
    · rw [show min lo n = n by omega, show max hi n = hi by omega]; exact take_nh n lo hi h1 h2 ba bb w hne ha hb
  · by_cases h2 : hi < n
    · rw [show min lo n = lo by omega, show max hi n = n by omega]; exact take_ln n lo hi h1 h2 ba bb w hne ha hb
    · rw [show min lo n = lo by omega, show max hi n = hi by omega]; exact take_lh n lo hi h1 h2 ba bb w hne ha hb

end Go.Proofs.Ytfjlnejeffkdoaa
