/- The four numbers that are read, and the tables: contracts. The counter of bounds: contracts. The least and the greatest loads: contracts. The truths at the ends: an iterator, its contract. The truths that are raised: an iterator, its contract. Whether a drop and a meeting happen with a place: contracts. The choices at a meeting: a contract. The choices at a drop: a contract. -/
import Derived.Test.YtfjlnejeffkdoaaL
import Derived.Laws.EntriesVeiled
import Derived.Test.YtfjlnejeffkdoaaQ
import Derived.Deep.DeepCutAuto
import Derived.Shelf.Abstract
import Derived.Shelf.RegionOpen
import Derived.OwnWalkIn
import Derived.TacticsInMore
import Derived.LoopNIn
import Derived.LoopIn
import Derived.Great.Walk
namespace Go.Proofs.Ytfjlnejeffkdoaa
open Go.RowKit
attribute [local irreducible] arrV

set_option maxHeartbeats 400000 in
theorem f_strength (v0 v1 v2 v3 v4 v5 v6 : Int) (w : World) :
    Calls Try.prog 78 #[.agg #[.int .i64 v0, .int .i64 v1, .int .i64 v2, .int .i64 v3, .int .i64 v4, .int .i64 v5, .int .i64 v6]] w fun e w' => e = .returned (.tuple #[.int .i64 v1, .int .i64 v0]) ∧ Below w.heap.size w w' := by
  have hB := box_below w (.cells #[.int .i64 v0, .int .i64 v1, .int .i64 v2, .int .i64 v3, .int .i64 v4, .int .i64 v5, .int .i64 v6] 37)
  have hc := box_cell w #[.int .i64 v0, .int .i64 v1, .int .i64 v2, .int .i64 v3, .int .i64 v4, .int .i64 v5, .int .i64 v6] 37
  have ca := hc 1
  have cb := hc 0
  clear hc
  go_enter Try.func78, Try.ntmps78
  go_wp2
  generalize World.alloc w _ = W at *
  simp at ca cb
  go_quiet (fail)
  go_wp2
  go_ret2
  exact ⟨rfl, below_dN hB⟩

set_option maxHeartbeats 400000 in
theorem f_yield (v0 v1 v2 v3 v4 v5 v6 : Int) (w : World) :
    Calls Try.prog 80 #[.agg #[.int .i64 v0, .int .i64 v1, .int .i64 v2, .int .i64 v3, .int .i64 v4, .int .i64 v5, .int .i64 v6]] w fun e w' => e = .returned (.tuple #[.int .i64 v2, .int .i64 v3]) ∧ Below w.heap.size w w' := by
  have hB := box_below w (.cells #[.int .i64 v0, .int .i64 v1, .int .i64 v2, .int .i64 v3, .int .i64 v4, .int .i64 v5, .int .i64 v6] 37)
  have hc := box_cell w #[.int .i64 v0, .int .i64 v1, .int .i64 v2, .int .i64 v3, .int .i64 v4, .int .i64 v5, .int .i64 v6] 37
  have ca := hc 2
  have cb := hc 3
  clear hc
  go_enter Try.func80, Try.ntmps80
  go_wp2
  generalize World.alloc w _ = W at *
  simp at ca cb
  go_quiet (fail)
  go_wp2
  go_ret2
  exact ⟨rfl, below_dN hB⟩

set_option maxHeartbeats 400000 in
theorem f_proof (v0 v1 v2 v3 v4 v5 v6 : Int) (w : World) :
    Calls Try.prog 82 #[.agg #[.int .i64 v0, .int .i64 v1, .int .i64 v2, .int .i64 v3, .int .i64 v4, .int .i64 v5, .int .i64 v6]] w fun e w' => e = .returned (.tuple #[.int .i64 v4, .int .i64 v5]) ∧ Below w.heap.size w w' := by
  have hB := box_below w (.cells #[.int .i64 v0, .int .i64 v1, .int .i64 v2, .int .i64 v3, .int .i64 v4, .int .i64 v5, .int .i64 v6] 37)
  have hc := box_cell w #[.int .i64 v0, .int .i64 v1, .int .i64 v2, .int .i64 v3, .int .i64 v4, .int .i64 v5, .int .i64 v6] 37
  have ca := hc 4
  have cb := hc 5
  clear hc
  go_enter Try.func82, Try.ntmps82
  go_wp2
  generalize World.alloc w _ = W at *
  simp at ca cb
  go_quiet (fail)
  go_wp2
  go_ret2
  exact ⟨rfl, below_dN hB⟩

set_option maxHeartbeats 400000 in
theorem f_work (v0 v1 v2 v3 v4 v5 v6 : Int) (w : World) :
    Calls Try.prog 84 #[.agg #[.int .i64 v0, .int .i64 v1, .int .i64 v2, .int .i64 v3, .int .i64 v4, .int .i64 v5, .int .i64 v6]] w fun e w' => e = .returned (.tuple #[.int .i64 0, .int .i64 v6]) ∧ Below w.heap.size w w' := by
  have hB := box_below w (.cells #[.int .i64 v0, .int .i64 v1, .int .i64 v2, .int .i64 v3, .int .i64 v4, .int .i64 v5, .int .i64 v6] 37)
  have hc := box_cell w #[.int .i64 v0, .int .i64 v1, .int .i64 v2, .int .i64 v3, .int .i64 v4, .int .i64 v5, .int .i64 v6] 37
  have ca := hc 0
  have cb := hc 6
  clear hc
  go_enter Try.func84, Try.ntmps84
  go_wp2
  generalize World.alloc w _ = W at *
  simp at ca cb
  go_quiet (fail)
  go_wp2
  go_ret2
  exact ⟨rfl, below_dN hB⟩

def fnV (n : Nat) : Value := .func (.func n) #[] #[]
/-- What a kind names: the functions of its quantity. -/
def qty : Nat → Nat × Nat
  | 0 => (77, 78)
  | 1 => (79, 80)
  | 2 => (81, 82)
  | _ => (83, 84)

set_option maxHeartbeats 400000 in
theorem qty0 (w : World) : Calls Try.prog 57 #[.int .u8 0] w fun e w' => e = .returned (.tuple #[.agg #[.func (.func 77) #[] #[], .func (.func 78) #[] #[]], .bool true]) ∧ Below w.heap.size w w' := by
  go_enter Try.func57, Try.ntmps57
  go_wp2
  refine bodyPost_ret (v := .tuple #[.agg #[.func (.func 77) #[] #[], .func (.func 78) #[] #[]], .bool true]) (by simp [results, Try.results57, go_sem]) rfl ⟨rfl, ?_⟩
  first | exact box_below _ _ | (refine Below.setCell (Below.setCell (box_below _ _) ?_ _) ?_ _ <;> simp)

set_option maxHeartbeats 400000 in
theorem qty1 (w : World) : Calls Try.prog 57 #[.int .u8 1] w fun e w' => e = .returned (.tuple #[.agg #[.func (.func 79) #[] #[], .func (.func 80) #[] #[]], .bool true]) ∧ Below w.heap.size w w' := by
  go_enter Try.func57, Try.ntmps57
  go_wp2
  refine bodyPost_ret (v := .tuple #[.agg #[.func (.func 79) #[] #[], .func (.func 80) #[] #[]], .bool true]) (by simp [results, Try.results57, go_sem]) rfl ⟨rfl, ?_⟩
  first | exact box_below _ _ | (refine Below.setCell (Below.setCell (box_below _ _) ?_ _) ?_ _ <;> simp)

set_option maxHeartbeats 400000 in
theorem qty2 (w : World) : Calls Try.prog 57 #[.int .u8 2] w fun e w' => e = .returned (.tuple #[.agg #[.func (.func 81) #[] #[], .func (.func 82) #[] #[]], .bool true]) ∧ Below w.heap.size w w' := by
  go_enter Try.func57, Try.ntmps57
  go_wp2
  refine bodyPost_ret (v := .tuple #[.agg #[.func (.func 81) #[] #[], .func (.func 82) #[] #[]], .bool true]) (by simp [results, Try.results57, go_sem]) rfl ⟨rfl, ?_⟩
  first | exact box_below _ _ | (refine Below.setCell (Below.setCell (box_below _ _) ?_ _) ?_ _ <;> simp)

set_option maxHeartbeats 400000 in
theorem qty3 (w : World) : Calls Try.prog 57 #[.int .u8 3] w fun e w' => e = .returned (.tuple #[.agg #[.func (.func 83) #[] #[], .func (.func 84) #[] #[]], .bool true]) ∧ Below w.heap.size w w' := by
  go_enter Try.func57, Try.ntmps57
  go_wp2
  refine bodyPost_ret (v := .tuple #[.agg #[.func (.func 83) #[] #[], .func (.func 84) #[] #[]], .bool true]) (by simp [results, Try.results57, go_sem]) rfl ⟨rfl, ?_⟩
  first | exact box_below _ _ | (refine Below.setCell (Below.setCell (box_below _ _) ?_ _) ?_ _ <;> simp)

set_option maxHeartbeats 400000 in
theorem qty_no (k : Int) (hk : 4 ≤ k) (w : World) : Calls Try.prog 57 #[.int .u8 k] w fun e w' => e = .returned (.tuple #[.agg #[.nilFunc, .nilFunc], .bool false]) ∧ Below w.heap.size w w' := by
  have h0 : (k == 0) = false := by rw [beq_eq_false_iff_ne]; omega
  have h1 : (k == 1) = false := by rw [beq_eq_false_iff_ne]; omega
  have h2 : (k == 2) = false := by rw [beq_eq_false_iff_ne]; omega
  have h3 : (k == 3) = false := by rw [beq_eq_false_iff_ne]; omega
  go_enter Try.func57, Try.ntmps57
  go_wp2
  refine bodyPost_ret (v := .tuple #[.agg #[.nilFunc, .nilFunc], .bool false]) (by simp [results, Try.results57, go_sem]) rfl ⟨rfl, ?_⟩
  first | exact box_below _ _ | (refine Below.setCell (Below.setCell (box_below _ _) ?_ _) ?_ _ <;> simp)

set_option maxHeartbeats 400000 in
theorem raised_fn (v d k o : Value) (w : World) : Calls Try.prog 77 #[.agg #[v, d, k, o]] w fun e w' => e = .returned (.func (.func 91) #[] #[.pointer (some ⟨w.heap.size, 0, none⟩)]) ∧ w' = w.alloc (.cells #[v, d, k, o] 94) := by
  go_enter Try.func77, Try.ntmps77
  go_wp2
  go_ret
  exact ⟨rfl, rfl⟩

set_option maxHeartbeats 400000 in
theorem ends_fn (v d k o : Value) (w : World) : Calls Try.prog 83 #[.agg #[v, d, k, o]] w fun e w' => e = .returned (.func (.func 98) #[] #[.pointer (some ⟨w.heap.size, 0, none⟩)]) ∧ w' = w.alloc (.cells #[v, d, k, o] 94) := by
  go_enter Try.func83, Try.ntmps83
  go_wp2
  go_ret
  exact ⟨rfl, rfl⟩

set_option maxHeartbeats 400000 in
theorem search_fn (v d k o c h : Value) (w : World) : Calls Try.prog 93 #[.agg #[v, d, k, o], .agg #[c, h]] w fun e w' => e = .returned (.func (.func 100) #[] #[.pointer (some ⟨w.heap.size, 0, none⟩), .pointer (some ⟨w.heap.size + 1, 0, none⟩)]) ∧ w' = (w.alloc (.cells #[v, d, k, o] 94)).alloc (.cells #[c, h] 149) := by
  go_enter Try.func93, Try.ntmps93
  go_wp2
  go_ret
  exact ⟨rfl, rfl⟩
set_option maxHeartbeats 400000 in
theorem numbers_fn (v d k o f g : Value) (w : World) : Calls Try.prog 76 #[.agg #[v, d, k, o], .agg #[f, g]] w fun e w' => e = .returned (.func (.func 90) #[] #[.pointer (some ⟨w.heap.size + 1, 0, none⟩), .pointer (some ⟨w.heap.size, 0, none⟩)]) ∧ w' = (w.alloc (.cells #[v, d, k, o] 94)).alloc (.cells #[f, g] 105) := by
  go_enter Try.func76, Try.ntmps76
  go_wp2
  go_ret
  exact ⟨rfl, rfl⟩
set_option maxHeartbeats 400000 in
theorem points_fn (v d k o f g : Value) (w : World) : Calls Try.prog 59 #[.agg #[v, d, k, o], .agg #[f, g]] w fun e w' => e = .returned (.func (.func 86) #[] #[.pointer (some ⟨w.heap.size, 0, none⟩), .pointer (some ⟨w.heap.size + 1, 0, none⟩)]) ∧ w' = (w.alloc (.cells #[v, d, k, o] 94)).alloc (.cells #[f, g] 105) := by
  go_enter Try.func59, Try.ntmps59
  go_wp2
  go_ret
  exact ⟨rfl, rfl⟩
set_option maxHeartbeats 400000 in
theorem bounds_fn (w : World) : Calls Try.prog 75 #[] w fun e w' => e = .returned (.func (.func 89) #[] #[.pointer (some ⟨w.heap.size + 1, 0, none⟩), .pointer (some ⟨w.heap.size, 0, none⟩)]) ∧ w' = (w.alloc (.cells #[.int .i64 0, .int .i64 0] 51)).alloc (.cells #[.bool false] 4) := by
  go_enter Try.func75, Try.ntmps75
  go_wp2
  go_ret
  exact ⟨rfl, by simp [go_sem]⟩
end Go.Proofs.Ytfjlnejeffkdoaa

namespace Go.Proofs.Ytfjlnejeffkdoaa
open Go.RowKit

theorem But.new {T : Nat → Prop} {w A : World} (h : But T w A) {b j : Nat} {v : Value} (hb : w.heap.size ≤ b) : But T w (A.setCell ⟨b, j, none⟩ v) :=
  ⟨h.os, h.tape, h.output, by simpa [World.setCell] using h.size, fun k hk hn => (heap_setCell_other A ⟨b, j, none⟩ k v (by show k ≠ b; omega)).trans (h.block k hk hn)⟩

/-- What the counter of bounds leaves: the range in block ba, the mark in block bb. -/
def Took (ba bb : Nat) (lo hi : Int) (w : World) (e : Ending) (w' : World) : Prop :=
  e = .returned (.agg #[.int .i64 lo, .int .i64 hi]) ∧ w'.heap[ba]? = some (.cells #[.int .i64 lo, .int .i64 hi] 51 (0, 0)) ∧ w'.heap[bb]? = some (.cells #[.bool true] 4 (0, 0)) ∧ But (fun k => k = ba ∨ k = bb) w w'

set_option maxHeartbeats 300000 in
theorem take_first (n lo hi : Int) (ba bb : Nat) (w : World) (hne : ba ≠ bb) (ha : w.heap[ba]? = some (.cells #[.int .i64 lo, .int .i64 hi] 51 (0, 0))) (hb : w.heap[bb]? = some (.cells #[.bool false] 4 (0, 0))) :
    Calls Try.prog 89 #[.int .i64 n, .pointer (some ⟨bb, 0, none⟩), .pointer (some ⟨ba, 0, none⟩)] w (Took ba bb n n w) := by
  have a0 := cell_of_row w ba 0 _ _ _ ha
  have a1 := cell_of_row w ba 1 _ _ _ ha
  have b0 := cell_of_row w bb 0 _ _ _ hb
  have f0 := frozen_of_row w ba 0 _ _ ha
  have f1 := frozen_of_row w ba 1 _ _ ha
  have g0 := frozen_of_row w bb 0 _ _ hb
  simp at a0 a1 b0
  have la := lt_of_block ha
  have lb := lt_of_block hb
  have hne' : bb ≠ ba := fun e => hne e.symm
  have HA := Lib.hid ha
  have HB := Lib.hid hb
  clear ha hb
  go_enter Try.func89, Try.ntmps89
  go_upto_region 3 with (fail)
  have hA1 := heap_setCell_same w ba 0 _ 51 (.int .i64 n) HA.out
  have hA2 := heap_setCell_same _ ba 1 _ 51 (.int .i64 n) hA1
  have hA3 := (heap_setCell_other ((w.setCell ⟨ba, 0, none⟩ (.int .i64 n)).setCell ⟨ba, 1, none⟩ (.int .i64 n)) ⟨bb, 0, none⟩ ba (.bool true) hne).trans hA2
  have hB1 := (heap_setCell_other w ⟨ba, 0, none⟩ bb (.int .i64 n) hne').trans HB.out
  have hB2 := (heap_setCell_other (w.setCell ⟨ba, 0, none⟩ (.int .i64 n)) ⟨ba, 1, none⟩ bb (.int .i64 n) hne').trans hB1
  have hB3 := heap_setCell_same _ bb 0 _ 4 (.bool true) hB2
  have hb3 : But (fun k => k = ba ∨ k = bb) w (((w.setCell ⟨ba, 0, none⟩ (.int .i64 n)).setCell ⟨ba, 1, none⟩ (.int .i64 n)).setCell ⟨bb, 0, none⟩ (.bool true)) :=
    (((But.setCell w _ (.inl rfl)).trans (But.setCell _ _ (.inl rfl))).trans (But.setCell _ _ (.inr rfl)))
  have hsz : (((w.setCell ⟨ba, 0, none⟩ (.int .i64 n)).setCell ⟨ba, 1, none⟩ (.int .i64 n)).setCell ⟨bb, 0, none⟩ (.bool true)).heap.size = w.heap.size := by simp [World.setCell]
  simp at hA3 hB3
  clear hA1 hA2 hB1 hB2 a0 a1 b0 f0 f1 g0 HA HB
  generalize World.setCell (World.setCell (World.setCell w _ _) _ _) _ _ = W at *
  have lA := lt_of_block hA3
  have lB := lt_of_block hB3
  have hA4 := (Below.heap_alloc W (.cells #[.int .i64 0, .int .i64 0] 51) ba lA).trans hA3
  have hB4 := (Below.heap_alloc W (.cells #[.int .i64 0, .int .i64 0] 51) bb lB).trans hB3
  have hN4 := heap_alloc_new W (.cells #[.int .i64 0, .int .i64 0] 51)
  have hb4 := hb3.trans (But.of_below (T := fun k => k = ba ∨ k = bb) (grow_alloc W (.cells #[.int .i64 0, .int .i64 0] 51)))
  rw [hsz] at hN4
  have lN := lt_of_block hN4
  have hnA : w.heap.size ≠ ba := by omega
  have hnB : w.heap.size ≠ bb := by omega
  have hnA' : ba ≠ w.heap.size := by omega
  clear hA3 hB3 hb3 lA lB
  generalize World.alloc W _ = W4 at *
  have c0 := cell_of_row W4 ba 0 _ _ _ hA4
  have c1 := cell_of_row W4 ba 1 _ _ _ hA4
  have f0 := frozen_of_row W4 ba 0 _ _ hA4
  have f1 := frozen_of_row W4 ba 1 _ _ hA4
  have n0 := cell_of_row W4 w.heap.size 0 _ _ _ hN4
  have n1 := cell_of_row W4 w.heap.size 1 _ _ _ hN4
  have m0 := frozen_of_row W4 w.heap.size 0 _ _ hN4
  have m1 := frozen_of_row W4 w.heap.size 1 _ _ hN4
  simp at c0 c1 n0 n1
  have HA4 := Lib.hid hA4
  have HB4 := Lib.hid hB4
  have HN4 := Lib.hid hN4
  have Hb4 := Lib.hid hb4
  clear hA4 hB4 hN4 hb4 hsz
  go_upto_region 4 with (fail)
  have k1 := heap_setCell_same W4 ba 0 _ 51 (.int .i64 n) HA4.out
  have k2 := heap_setCell_same _ ba 1 _ 51 (.int .i64 n) k1
  have kB := (heap_setCell_other (W4.setCell ⟨ba, 0, none⟩ (.int .i64 n)) ⟨ba, 1, none⟩ bb (.int .i64 n) hne').trans ((heap_setCell_other W4 ⟨ba, 0, none⟩ bb (.int .i64 n) hne').trans HB4.out)
  have kN := (heap_setCell_other (W4.setCell ⟨ba, 0, none⟩ (.int .i64 n)) ⟨ba, 1, none⟩ w.heap.size (.int .i64 n) hnA).trans ((heap_setCell_other W4 ⟨ba, 0, none⟩ w.heap.size (.int .i64 n) hnA).trans HN4.out)
  have kb := (Hb4.out.trans (But.setCell (T := fun k => k = ba ∨ k = bb) W4 (j := 0) (.int .i64 n) (.inl rfl))).trans (But.setCell (T := fun k => k = ba ∨ k = bb) (W4.setCell ⟨ba, 0, none⟩ (.int .i64 n)) (j := 1) (.int .i64 n) (.inl rfl))
  simp at k2
  clear k1 c0 c1 f0 f1 n0 n1 m0 m1 HA4 HB4 HN4 Hb4
  generalize World.setCell (World.setCell W4 _ _) _ _ = W5 at *
  have c0 := cell_of_row W5 ba 0 _ _ _ k2
  have c1 := cell_of_row W5 ba 1 _ _ _ k2
  have n0 := cell_of_row W5 w.heap.size 0 _ _ _ kN
  have n1 := cell_of_row W5 w.heap.size 1 _ _ _ kN
  have m0 := frozen_of_row W5 w.heap.size 0 _ _ kN
  have m1 := frozen_of_row W5 w.heap.size 1 _ _ kN
  simp at c0 c1 n0 n1
  have K2 := Lib.hid k2
  have KB := Lib.hid kB
  have Kb := Lib.hid kb
  clear k2 kB kb kN
  go_wp2
  exact bodyPost_ret (v := .agg #[.int .i64 n, .int .i64 n]) (by simp [results, Try.results89, go_sem, *]) rfl ⟨rfl,
    (heap_setCell_other _ ⟨w.heap.size, 1, none⟩ ba _ hnA').trans ((heap_setCell_other _ ⟨w.heap.size, 0, none⟩ ba _ hnA').trans K2.out),
    (heap_setCell_other _ ⟨w.heap.size, 1, none⟩ bb _ (fun e => hnB e.symm)).trans ((heap_setCell_other _ ⟨w.heap.size, 0, none⟩ bb _ (fun e => hnB e.symm)).trans KB.out),
    (Kb.out.new (Nat.le_refl _)).new (Nat.le_refl _)⟩


set_option maxHeartbeats 400000 in
theorem take_nn (n lo hi : Int) (h1 : n < lo) (h2 : hi < n) (ba bb : Nat) (w : World) (hne : ba ≠ bb) (ha : w.heap[ba]? = some (.cells #[.int .i64 lo, .int .i64 hi] 51 (0, 0))) (hb : w.heap[bb]? = some (.cells #[.bool true] 4 (0, 0))) :
    Calls Try.prog 89 #[.int .i64 n, .pointer (some ⟨bb, 0, none⟩), .pointer (some ⟨ba, 0, none⟩)] w (Took ba bb n n w) := by
  have lA := lt_of_block ha
  have lB := lt_of_block hb
  have hne' : bb ≠ ba := fun e => hne e.symm
  have hA4 := (Below.heap_alloc w (.cells #[.int .i64 0, .int .i64 0] 51) ba lA).trans ha
  have hB4 := (Below.heap_alloc w (.cells #[.int .i64 0, .int .i64 0] 51) bb lB).trans hb
  have hN4 := heap_alloc_new w (.cells #[.int .i64 0, .int .i64 0] 51)
  have hb4 := But.of_below (T := fun k => k = ba ∨ k = bb) (grow_alloc w (.cells #[.int .i64 0, .int .i64 0] 51))
  have hnA : w.heap.size ≠ ba := by omega
  have hnB : w.heap.size ≠ bb := by omega
  have hnA' : ba ≠ w.heap.size := by omega
  clear ha hb
  go_enter Try.func89, Try.ntmps89
  go_upto_region 1 with (fail)
  generalize World.alloc w _ = W4 at *
  have c0 := cell_of_row W4 ba 0 _ _ _ hA4
  have c1 := cell_of_row W4 ba 1 _ _ _ hA4
  have b0 := cell_of_row W4 bb 0 _ _ _ hB4
  have f0 := frozen_of_row W4 ba 0 _ _ hA4
  have f1 := frozen_of_row W4 ba 1 _ _ hA4
  have n0 := cell_of_row W4 w.heap.size 0 _ _ _ hN4
  have n1 := cell_of_row W4 w.heap.size 1 _ _ _ hN4
  have m0 := frozen_of_row W4 w.heap.size 0 _ _ hN4
  have m1 := frozen_of_row W4 w.heap.size 1 _ _ hN4
  simp at c0 c1 b0 n0 n1
  have HA4 := Lib.hid hA4
  have HB4 := Lib.hid hB4
  have HN4 := Lib.hid hN4
  have Hb4 := Lib.hid hb4
  clear hA4 hB4 hN4 hb4
  go_upto_region 4 with (fail)
  clear b0
  have k1 := heap_setCell_same W4 ba 0 _ 51 (.int .i64 n) HA4.out
  have k2 := heap_setCell_same _ ba 1 _ 51 (.int .i64 n) k1
  have kB := (heap_setCell_other (W4.setCell ⟨ba, 0, none⟩ (.int .i64 n)) ⟨ba, 1, none⟩ bb (.int .i64 n) hne').trans ((heap_setCell_other W4 ⟨ba, 0, none⟩ bb (.int .i64 n) hne').trans HB4.out)
  have kN := (heap_setCell_other (W4.setCell ⟨ba, 0, none⟩ (.int .i64 n)) ⟨ba, 1, none⟩ w.heap.size (.int .i64 n) hnA).trans ((heap_setCell_other W4 ⟨ba, 0, none⟩ w.heap.size (.int .i64 n) hnA).trans HN4.out)
  have kb := (Hb4.out.trans (But.setCell (T := fun k => k = ba ∨ k = bb) W4 (j := 0) (.int .i64 n) (.inl rfl))).trans (But.setCell (T := fun k => k = ba ∨ k = bb) (W4.setCell ⟨ba, 0, none⟩ (.int .i64 n)) (j := 1) (.int .i64 n) (.inl rfl))
  simp at k2
  clear k1 c0 c1 f0 f1 n0 n1 m0 m1 HA4 HB4 HN4 Hb4
  generalize World.setCell (World.setCell W4 _ _) _ _ = W5 at *
  have c0 := cell_of_row W5 ba 0 _ _ _ k2
  have c1 := cell_of_row W5 ba 1 _ _ _ k2
  have n0 := cell_of_row W5 w.heap.size 0 _ _ _ kN
  have n1 := cell_of_row W5 w.heap.size 1 _ _ _ kN
  have m0 := frozen_of_row W5 w.heap.size 0 _ _ kN
  have m1 := frozen_of_row W5 w.heap.size 1 _ _ kN
  simp at c0 c1 n0 n1
  have K2 := Lib.hid k2
  have KB := Lib.hid kB
  have Kb := Lib.hid kb
  clear k2 kB kb kN
  go_wp2
  exact bodyPost_ret (v := .agg #[.int .i64 n, .int .i64 n]) (by simp [results, Try.results89, go_sem, *]) rfl ⟨rfl,
    (heap_setCell_other _ ⟨w.heap.size, 1, none⟩ ba _ hnA').trans ((heap_setCell_other _ ⟨w.heap.size, 0, none⟩ ba _ hnA').trans K2.out),
    (heap_setCell_other _ ⟨w.heap.size, 1, none⟩ bb _ (fun e => hnB e.symm)).trans ((heap_setCell_other _ ⟨w.heap.size, 0, none⟩ bb _ (fun e => hnB e.symm)).trans KB.out),
    (Kb.out.new (Nat.le_refl _)).new (Nat.le_refl _)⟩

set_option maxHeartbeats 400000 in
theorem take_nh (n lo hi : Int) (h1 : n < lo) (h2 : ¬ hi < n) (ba bb : Nat) (w : World) (hne : ba ≠ bb) (ha : w.heap[ba]? = some (.cells #[.int .i64 lo, .int .i64 hi] 51 (0, 0))) (hb : w.heap[bb]? = some (.cells #[.bool true] 4 (0, 0))) :
    Calls Try.prog 89 #[.int .i64 n, .pointer (some ⟨bb, 0, none⟩), .pointer (some ⟨ba, 0, none⟩)] w (Took ba bb n hi w) := by
  have lA := lt_of_block ha
  have lB := lt_of_block hb
  have hne' : bb ≠ ba := fun e => hne e.symm
  have hA4 := (Below.heap_alloc w (.cells #[.int .i64 0, .int .i64 0] 51) ba lA).trans ha
  have hB4 := (Below.heap_alloc w (.cells #[.int .i64 0, .int .i64 0] 51) bb lB).trans hb
  have hN4 := heap_alloc_new w (.cells #[.int .i64 0, .int .i64 0] 51)
  have hb4 := But.of_below (T := fun k => k = ba ∨ k = bb) (grow_alloc w (.cells #[.int .i64 0, .int .i64 0] 51))
  have hnA : w.heap.size ≠ ba := by omega
  have hnB : w.heap.size ≠ bb := by omega
  have hnA' : ba ≠ w.heap.size := by omega
  clear ha hb
  go_enter Try.func89, Try.ntmps89
  go_upto_region 1 with (fail)
  generalize World.alloc w _ = W4 at *
  have c0 := cell_of_row W4 ba 0 _ _ _ hA4
  have c1 := cell_of_row W4 ba 1 _ _ _ hA4
  have b0 := cell_of_row W4 bb 0 _ _ _ hB4
  have f0 := frozen_of_row W4 ba 0 _ _ hA4
  have f1 := frozen_of_row W4 ba 1 _ _ hA4
  have n0 := cell_of_row W4 w.heap.size 0 _ _ _ hN4
  have n1 := cell_of_row W4 w.heap.size 1 _ _ _ hN4
  have m0 := frozen_of_row W4 w.heap.size 0 _ _ hN4
  have m1 := frozen_of_row W4 w.heap.size 1 _ _ hN4
  simp at c0 c1 b0 n0 n1
  have HA4 := Lib.hid hA4
  have HB4 := Lib.hid hB4
  have HN4 := Lib.hid hN4
  have Hb4 := Lib.hid hb4
  clear hA4 hB4 hN4 hb4
  go_upto_region 4 with (fail)
  clear b0
  have k1 := heap_setCell_same W4 ba 0 _ 51 (.int .i64 n) HA4.out
  have k2 := heap_setCell_same _ ba 1 _ 51 (.int .i64 hi) k1
  have kB := (heap_setCell_other (W4.setCell ⟨ba, 0, none⟩ (.int .i64 n)) ⟨ba, 1, none⟩ bb (.int .i64 hi) hne').trans ((heap_setCell_other W4 ⟨ba, 0, none⟩ bb (.int .i64 n) hne').trans HB4.out)
  have kN := (heap_setCell_other (W4.setCell ⟨ba, 0, none⟩ (.int .i64 n)) ⟨ba, 1, none⟩ w.heap.size (.int .i64 hi) hnA).trans ((heap_setCell_other W4 ⟨ba, 0, none⟩ w.heap.size (.int .i64 n) hnA).trans HN4.out)
  have kb := (Hb4.out.trans (But.setCell (T := fun k => k = ba ∨ k = bb) W4 (j := 0) (.int .i64 n) (.inl rfl))).trans (But.setCell (T := fun k => k = ba ∨ k = bb) (W4.setCell ⟨ba, 0, none⟩ (.int .i64 n)) (j := 1) (.int .i64 hi) (.inl rfl))
  simp at k2
  clear k1 c0 c1 f0 f1 n0 n1 m0 m1 HA4 HB4 HN4 Hb4
  generalize World.setCell (World.setCell W4 _ _) _ _ = W5 at *
  have c0 := cell_of_row W5 ba 0 _ _ _ k2
  have c1 := cell_of_row W5 ba 1 _ _ _ k2
  have n0 := cell_of_row W5 w.heap.size 0 _ _ _ kN
  have n1 := cell_of_row W5 w.heap.size 1 _ _ _ kN
  have m0 := frozen_of_row W5 w.heap.size 0 _ _ kN
  have m1 := frozen_of_row W5 w.heap.size 1 _ _ kN
  simp at c0 c1 n0 n1
  have K2 := Lib.hid k2
  have KB := Lib.hid kB
  have Kb := Lib.hid kb
  clear k2 kB kb kN
  go_wp2
  exact bodyPost_ret (v := .agg #[.int .i64 n, .int .i64 hi]) (by simp [results, Try.results89, go_sem, *]) rfl ⟨rfl,
    (heap_setCell_other _ ⟨w.heap.size, 1, none⟩ ba _ hnA').trans ((heap_setCell_other _ ⟨w.heap.size, 0, none⟩ ba _ hnA').trans K2.out),
    (heap_setCell_other _ ⟨w.heap.size, 1, none⟩ bb _ (fun e => hnB e.symm)).trans ((heap_setCell_other _ ⟨w.heap.size, 0, none⟩ bb _ (fun e => hnB e.symm)).trans KB.out),
    (Kb.out.new (Nat.le_refl _)).new (Nat.le_refl _)⟩

set_option maxHeartbeats 400000 in
theorem take_ln (n lo hi : Int) (h1 : ¬ n < lo) (h2 : hi < n) (ba bb : Nat) (w : World) (hne : ba ≠ bb) (ha : w.heap[ba]? = some (.cells #[.int .i64 lo, .int .i64 hi] 51 (0, 0))) (hb : w.heap[bb]? = some (.cells #[.bool true] 4 (0, 0))) :
    Calls Try.prog 89 #[.int .i64 n, .pointer (some ⟨bb, 0, none⟩), .pointer (some ⟨ba, 0, none⟩)] w (Took ba bb lo n w) := by
  have lA := lt_of_block ha
  have lB := lt_of_block hb
  have hne' : bb ≠ ba := fun e => hne e.symm
  have hA4 := (Below.heap_alloc w (.cells #[.int .i64 0, .int .i64 0] 51) ba lA).trans ha
  have hB4 := (Below.heap_alloc w (.cells #[.int .i64 0, .int .i64 0] 51) bb lB).trans hb
  have hN4 := heap_alloc_new w (.cells #[.int .i64 0, .int .i64 0] 51)
  have hb4 := But.of_below (T := fun k => k = ba ∨ k = bb) (grow_alloc w (.cells #[.int .i64 0, .int .i64 0] 51))
  have hnA : w.heap.size ≠ ba := by omega
  have hnB : w.heap.size ≠ bb := by omega
  have hnA' : ba ≠ w.heap.size := by omega
  clear ha hb
  go_enter Try.func89, Try.ntmps89
  go_upto_region 1 with (fail)
  generalize World.alloc w _ = W4 at *
  have c0 := cell_of_row W4 ba 0 _ _ _ hA4
  have c1 := cell_of_row W4 ba 1 _ _ _ hA4
  have b0 := cell_of_row W4 bb 0 _ _ _ hB4
  have f0 := frozen_of_row W4 ba 0 _ _ hA4
  have f1 := frozen_of_row W4 ba 1 _ _ hA4
  have n0 := cell_of_row W4 w.heap.size 0 _ _ _ hN4
  have n1 := cell_of_row W4 w.heap.size 1 _ _ _ hN4
  have m0 := frozen_of_row W4 w.heap.size 0 _ _ hN4
  have m1 := frozen_of_row W4 w.heap.size 1 _ _ hN4
  simp at c0 c1 b0 n0 n1
  have HA4 := Lib.hid hA4
  have HB4 := Lib.hid hB4
  have HN4 := Lib.hid hN4
  have Hb4 := Lib.hid hb4
  clear hA4 hB4 hN4 hb4
  go_upto_region 4 with (fail)
  clear b0
  have k1 := heap_setCell_same W4 ba 0 _ 51 (.int .i64 lo) HA4.out
  have k2 := heap_setCell_same _ ba 1 _ 51 (.int .i64 n) k1
  have kB := (heap_setCell_other (W4.setCell ⟨ba, 0, none⟩ (.int .i64 lo)) ⟨ba, 1, none⟩ bb (.int .i64 n) hne').trans ((heap_setCell_other W4 ⟨ba, 0, none⟩ bb (.int .i64 lo) hne').trans HB4.out)
  have kN := (heap_setCell_other (W4.setCell ⟨ba, 0, none⟩ (.int .i64 lo)) ⟨ba, 1, none⟩ w.heap.size (.int .i64 n) hnA).trans ((heap_setCell_other W4 ⟨ba, 0, none⟩ w.heap.size (.int .i64 lo) hnA).trans HN4.out)
  have kb := (Hb4.out.trans (But.setCell (T := fun k => k = ba ∨ k = bb) W4 (j := 0) (.int .i64 lo) (.inl rfl))).trans (But.setCell (T := fun k => k = ba ∨ k = bb) (W4.setCell ⟨ba, 0, none⟩ (.int .i64 lo)) (j := 1) (.int .i64 n) (.inl rfl))
  simp at k2
  clear k1 c0 c1 f0 f1 n0 n1 m0 m1 HA4 HB4 HN4 Hb4
  generalize World.setCell (World.setCell W4 _ _) _ _ = W5 at *
  have c0 := cell_of_row W5 ba 0 _ _ _ k2
  have c1 := cell_of_row W5 ba 1 _ _ _ k2
  have n0 := cell_of_row W5 w.heap.size 0 _ _ _ kN
  have n1 := cell_of_row W5 w.heap.size 1 _ _ _ kN
  have m0 := frozen_of_row W5 w.heap.size 0 _ _ kN
  have m1 := frozen_of_row W5 w.heap.size 1 _ _ kN
  simp at c0 c1 n0 n1
  have K2 := Lib.hid k2
  have KB := Lib.hid kB
  have Kb := Lib.hid kb
  clear k2 kB kb kN
  go_wp2
  exact bodyPost_ret (v := .agg #[.int .i64 lo, .int .i64 n]) (by simp [results, Try.results89, go_sem, *]) rfl ⟨rfl,
    (heap_setCell_other _ ⟨w.heap.size, 1, none⟩ ba _ hnA').trans ((heap_setCell_other _ ⟨w.heap.size, 0, none⟩ ba _ hnA').trans K2.out),
    (heap_setCell_other _ ⟨w.heap.size, 1, none⟩ bb _ (fun e => hnB e.symm)).trans ((heap_setCell_other _ ⟨w.heap.size, 0, none⟩ bb _ (fun e => hnB e.symm)).trans KB.out),
    (Kb.out.new (Nat.le_refl _)).new (Nat.le_refl _)⟩

set_option maxHeartbeats 400000 in
theorem take_lh (n lo hi : Int) (h1 : ¬ n < lo) (h2 : ¬ hi < n) (ba bb : Nat) (w : World) (hne : ba ≠ bb) (ha : w.heap[ba]? = some (.cells #[.int .i64 lo, .int .i64 hi] 51 (0, 0))) (hb : w.heap[bb]? = some (.cells #[.bool true] 4 (0, 0))) :
    Calls Try.prog 89 #[.int .i64 n, .pointer (some ⟨bb, 0, none⟩), .pointer (some ⟨ba, 0, none⟩)] w (Took ba bb lo hi w) := by
  have lA := lt_of_block ha
  have lB := lt_of_block hb
  have hne' : bb ≠ ba := fun e => hne e.symm
  have hA4 := (Below.heap_alloc w (.cells #[.int .i64 0, .int .i64 0] 51) ba lA).trans ha
  have hB4 := (Below.heap_alloc w (.cells #[.int .i64 0, .int .i64 0] 51) bb lB).trans hb
  have hN4 := heap_alloc_new w (.cells #[.int .i64 0, .int .i64 0] 51)
  have hb4 := But.of_below (T := fun k => k = ba ∨ k = bb) (grow_alloc w (.cells #[.int .i64 0, .int .i64 0] 51))
  have hnA : w.heap.size ≠ ba := by omega
  have hnB : w.heap.size ≠ bb := by omega
  have hnA' : ba ≠ w.heap.size := by omega
  clear ha hb
  go_enter Try.func89, Try.ntmps89
  go_upto_region 1 with (fail)
  generalize World.alloc w _ = W4 at *
  have c0 := cell_of_row W4 ba 0 _ _ _ hA4
  have c1 := cell_of_row W4 ba 1 _ _ _ hA4
  have b0 := cell_of_row W4 bb 0 _ _ _ hB4
  have f0 := frozen_of_row W4 ba 0 _ _ hA4
  have f1 := frozen_of_row W4 ba 1 _ _ hA4
  have n0 := cell_of_row W4 w.heap.size 0 _ _ _ hN4
  have n1 := cell_of_row W4 w.heap.size 1 _ _ _ hN4
  have m0 := frozen_of_row W4 w.heap.size 0 _ _ hN4
  have m1 := frozen_of_row W4 w.heap.size 1 _ _ hN4
  simp at c0 c1 b0 n0 n1
  have HA4 := Lib.hid hA4
  have HB4 := Lib.hid hB4
  have HN4 := Lib.hid hN4
  have Hb4 := Lib.hid hb4
  clear hA4 hB4 hN4 hb4
  go_upto_region 4 with (fail)
  clear b0
  have k1 := heap_setCell_same W4 ba 0 _ 51 (.int .i64 lo) HA4.out
  have k2 := heap_setCell_same _ ba 1 _ 51 (.int .i64 hi) k1
  have kB := (heap_setCell_other (W4.setCell ⟨ba, 0, none⟩ (.int .i64 lo)) ⟨ba, 1, none⟩ bb (.int .i64 hi) hne').trans ((heap_setCell_other W4 ⟨ba, 0, none⟩ bb (.int .i64 lo) hne').trans HB4.out)
  have kN := (heap_setCell_other (W4.setCell ⟨ba, 0, none⟩ (.int .i64 lo)) ⟨ba, 1, none⟩ w.heap.size (.int .i64 hi) hnA).trans ((heap_setCell_other W4 ⟨ba, 0, none⟩ w.heap.size (.int .i64 lo) hnA).trans HN4.out)
  have kb := (Hb4.out.trans (But.setCell (T := fun k => k = ba ∨ k = bb) W4 (j := 0) (.int .i64 lo) (.inl rfl))).trans (But.setCell (T := fun k => k = ba ∨ k = bb) (W4.setCell ⟨ba, 0, none⟩ (.int .i64 lo)) (j := 1) (.int .i64 hi) (.inl rfl))
  simp at k2
  clear k1 c0 c1 f0 f1 n0 n1 m0 m1 HA4 HB4 HN4 Hb4
  generalize World.setCell (World.setCell W4 _ _) _ _ = W5 at *
  have c0 := cell_of_row W5 ba 0 _ _ _ k2
  have c1 := cell_of_row W5 ba 1 _ _ _ k2
  have n0 := cell_of_row W5 w.heap.size 0 _ _ _ kN
  have n1 := cell_of_row W5 w.heap.size 1 _ _ _ kN
  have m0 := frozen_of_row W5 w.heap.size 0 _ _ kN
  have m1 := frozen_of_row W5 w.heap.size 1 _ _ kN
  simp at c0 c1 n0 n1
  have K2 := Lib.hid k2
  have KB := Lib.hid kB
  have Kb := Lib.hid kb
  clear k2 kB kb kN
  go_wp2
  exact bodyPost_ret (v := .agg #[.int .i64 lo, .int .i64 hi]) (by simp [results, Try.results89, go_sem, *]) rfl ⟨rfl,
    (heap_setCell_other _ ⟨w.heap.size, 1, none⟩ ba _ hnA').trans ((heap_setCell_other _ ⟨w.heap.size, 0, none⟩ ba _ hnA').trans K2.out),
    (heap_setCell_other _ ⟨w.heap.size, 1, none⟩ bb _ (fun e => hnB e.symm)).trans ((heap_setCell_other _ ⟨w.heap.size, 0, none⟩ bb _ (fun e => hnB e.symm)).trans KB.out),
    (Kb.out.new (Nat.le_refl _)).new (Nat.le_refl _)⟩

theorem take_next (n lo hi : Int) (ba bb : Nat) (w : World) (hne : ba ≠ bb) (ha : w.heap[ba]? = some (.cells #[.int .i64 lo, .int .i64 hi] 51 (0, 0))) (hb : w.heap[bb]? = some (.cells #[.bool true] 4 (0, 0))) :
    Calls Try.prog 89 #[.int .i64 n, .pointer (some ⟨bb, 0, none⟩), .pointer (some ⟨ba, 0, none⟩)] w (Took ba bb (min lo n) (max hi n) w) := by
  by_cases h1 : n < lo
  · by_cases h2 : hi < n
    · rw [show min lo n = n by omega, show max hi n = n by omega]; exact take_nn n lo hi h1 h2 ba bb w hne ha hb
    · rw [show min lo n = n by omega, show max hi n = hi by omega]; exact take_nh n lo hi h1 h2 ba bb w hne ha hb
  · by_cases h2 : hi < n
    · rw [show min lo n = lo by omega, show max hi n = n by omega]; exact take_ln n lo hi h1 h2 ba bb w hne ha hb
    · rw [show min lo n = lo by omega, show max hi n = hi by omega]; exact take_lh n lo hi h1 h2 ba bb w hne ha hb

end Go.Proofs.Ytfjlnejeffkdoaa

namespace Go.Proofs.Ytfjlnejeffkdoaa
open Go.RowKit
attribute [local irreducible] arrV

/-- The first k loads, by f; 0 behind them. -/
def upT (f : Nat → Int) (k : Nat) : List Int := (List.range 20).map fun i => if i < k then f i else 0
theorem upT_len (f : Nat → Int) (k : Nat) : (upT f k).length = 20 := by simp [upT]
theorem upT_ld (f : Nat → Int) (k i : Nat) (h : i < 20) : ld (upT f k) i = if i < k then f i else 0 := by simp [upT, ld, h]
theorem upT_zero (f : Nat → Int) : arrV (upT f 0) = #[.int .i64 0, .int .i64 0, .int .i64 0, .int .i64 0, .int .i64 0, .int .i64 0, .int .i64 0, .int .i64 0, .int .i64 0, .int .i64 0, .int .i64 0, .int .i64 0, .int .i64 0, .int .i64 0, .int .i64 0, .int .i64 0, .int .i64 0, .int .i64 0, .int .i64 0, .int .i64 0] := by
  simp [upT, arrV, iV, List.range_succ]
theorem upT_set (f : Nat → Int) (k : Nat) (h : k < 20) : (arrV (upT f k)).setIfInBounds k (.int .i64 (f k)) = arrV (upT f (k + 1)) := by
  apply Array.ext_getElem?
  intro i
  rw [Array.getElem?_setIfInBounds]
  by_cases hi : i < 20
  · have e1 := arrV_get (upT f k) i (by rw [upT_len]; exact hi)
    have e2 := arrV_get (upT f (k + 1)) i (by rw [upT_len]; exact hi)
    rw [upT_ld f k i hi] at e1
    rw [upT_ld f (k + 1) i hi] at e2
    rw [e2]
    by_cases hk : k = i
    · subst hk
      simp [arrV_size, upT_len, h]
    · rw [if_neg hk, e1]
      by_cases hlt : i < k
      · simp [hlt, show i < k + 1 by omega]
      · simp [hlt, show ¬ i < k + 1 by omega]
  · have n1 : (arrV (upT f k))[i]? = none := Array.getElem?_eq_none (by rw [arrV_size, upT_len]; omega)
    have n2 : (arrV (upT f (k + 1)))[i]? = none := Array.getElem?_eq_none (by rw [arrV_size, upT_len]; omega)
    rw [n1, n2]
    have hne : k ≠ i := by omega
    simp [hne]
theorem arrV_one (t : List Int) : (arrV t).all (·.oneCell') = true := by
  unfold arrV
  exact all_oneCell_toArray fun v hv => by
    simp only [List.mem_map] at hv
    obtain ⟨a, _, rfl⟩ := hv
    rfl
theorem arr_list (t : List Int) : (arrV t).toList = t.map iV := by simp [arrV]
theorem arr_list' (t : List Int) : (t.map iV).toArray = arrV t := by simp [arrV]

theorem set_list (b : Nat) (t : TypeId) : ∀ (vs pre mid post : List Value) (w : World), mid.length = vs.length → w.heap[b]? = some (.cells (pre ++ mid ++ post).toArray t (0, 0)) →
    (w.setCells b pre.length vs).heap[b]? = some (.cells (pre ++ vs ++ post).toArray t (0, 0))
  | [], pre, mid, post, w, hm, h => by
    obtain rfl : mid = [] := List.eq_nil_of_length_eq_zero hm
    simpa [World.setCells] using h
  | v :: r, pre, [], post, w, hm, h => by simp at hm
  | v :: r, pre, m :: ms, post, w, hm, h => by
    have h1 := heap_setCell_same w b pre.length _ t v h
    have e : (pre ++ m :: ms ++ post).toArray.setIfInBounds pre.length v = ((pre ++ [v]) ++ ms ++ post).toArray := by
      simp
    rw [e] at h1
    have := set_list b t r (pre ++ [v]) ms post (w.setCell ⟨b, pre.length, none⟩ v) (by simpa using hm) h1
    simpa [World.setCells] using this
theorem set_whole (b : Nat) (t : TypeId) (w : World) (cur vs : Array Value) (hm : cur.size = vs.size) (h : w.heap[b]? = some (.cells cur t (0, 0))) :
    (w.setCells b 0 vs.toList).heap[b]? = some (.cells vs t (0, 0)) := by
  have := set_list b t vs.toList [] cur.toList [] w (by simpa using hm) (by simpa using h)
  simpa using this
theorem there_block {w : World} {b n : Nat} {cs : Array Value} {t : TypeId} (h : w.heap[b]? = some (.cells cs t (0, 0))) (hn : n ≤ cs.size) : w.there b 0 n := fun j hj => by
  rw [Nat.zero_add]
  exact ⟨by rw [cell_of_row w b j _ _ _ h]; simp; omega, frozen_of_row w b j _ _ h⟩

set_option maxRecDepth 100000 in
set_option maxHeartbeats 1000000 in
theorem lows_any (b off cap : Nat) (ps : List Pt) (d k o : Int) (w : World) (hlen : ps.length ≤ 20) (hpos : 0 < ps.length) (hp : PtsIn w b off ps) :
    Calls Try.prog 92 #[.agg #[.slice (some ⟨b, off, none⟩) ps.length cap, .int .i64 d, .int .i64 k, .int .i64 o]] w fun e w' => e = .returned (.agg (arrV (upT (fun i => (pt ps i).lo) ps.length))) ∧ Below w.heap.size w w' := by
  have hltb : b < w.heap.size := block_lt_of_cell (hp 0 hpos).1
  have HP := Lib.hid hp
  clear hp
  have hz := upT_zero (fun i => (pt ps i).lo)
  have HZ := Lib.hid hz
  clear hz
  go_enter Try.func92, Try.ntmps92
  go_wp2
  rw [← HZ.out]
  have hW0 : ∀ A B C : Obj, ((((w.alloc A).alloc B).alloc C).heap[w.heap.size + 1]? = some B) ∧ ((((w.alloc A).alloc B).alloc C).heap[w.heap.size + 1 + 1]? = some C) := fun A B C => by
    have h1 := heap_alloc_new (w.alloc A) B
    have h2 := heap_alloc_new ((w.alloc A).alloc B) C
    simp only [World.size_alloc] at h1 h2
    exact ⟨by rw [heap_alloc_low _ _ _ (by simp)]; exact h1, h2⟩
  have hbW := fun A B C : Obj => (((Below.refl _ w).alloc (Nat.le_refl _) A).alloc (by simp) B).alloc (by simp; omega) C
  have HW0 := Lib.hid hW0
  have HBW := Lib.hid hbW
  clear hW0 hbW
  go_loopw [10] (fun i wr => ∃ q : Nat, q ≤ ps.length ∧ i = .int .i64 q ∧ Hid (wr.heap[w.heap.size + 1 + 1]? = some (.cells (arrV (upT (fun i => (pt ps i).lo) q)) 97 (0, 0))) ∧ Hid (wr.heap[w.heap.size + 1]? = some (.cells (arrV (upT (fun i => (pt ps i).lo) 0)) 97 (0, 0))) ∧ Below w.heap.size w wr) (fun i _ => ps.length - (intOf i).toNat)
  case atStart => exact ⟨0, Nat.zero_le _, rfl, Lib.hid (HW0.out _ _ _).2, Lib.hid (HW0.out _ _ _).1, HBW.out _ _ _⟩
  case round =>
    obtain ⟨q, hq, rfl, h3, h2, hb⟩ := hrel
    by_cases hlt : q < ps.length
    · have hpq := HP.out q hlt
      have p1 := (hb.cell (p := ⟨b, off + q * 3, none⟩) hltb).trans hpq.1
      have p2 := (hb.cell (p := ⟨b, off + q * 3 + 1, none⟩) hltb).trans hpq.2.1
      have p3 := (hb.cell (p := ⟨b, off + q * 3 + 2, none⟩) hltb).trans hpq.2.2
      clear hpq
      have hq20 : (q : Int) < 20 := by omega
      have hqn : (q : Int) < ps.length := by omega
      have hc3 := (cell_of_row wr (w.heap.size + 1 + 1) q _ _ _ h3.out).trans (arrV_get _ q (by rw [upT_len]; omega))
      have hf3 := frozen_of_row wr (w.heap.size + 1 + 1) q _ _ h3.out
      have hl3 := lt_of_block h3.out
      have HS := Lib.hid (upT_set (fun i => (pt ps i).lo) q (by omega))
      generalize hv : (pt ps q).lo = v at *
      have HV := Lib.hid hv
      clear hv
      go_wp2
      go_roundw
      case rel =>
        refine ⟨q + 1, by omega, by simp, ?_, ?_, ?_⟩
        · refine Lib.hid ((Below.heap_alloc _ _ _ (by show _ < (wr.heap.modify _ _).size; rw [Array.size_modify]; exact hl3)).trans ?_)
          have := heap_setCell_same wr (w.heap.size + 1 + 1) q _ 97 (.int .i64 v) h3.out
          have e := HS.out
          rw [e] at this
          exact this
        · refine Lib.hid ((Below.heap_alloc _ _ _ (by show _ < (wr.heap.modify _ _).size; rw [Array.size_modify]; omega)).trans ?_)
          exact (heap_setCell_other wr ⟨w.heap.size + 1 + 1, q, none⟩ (w.heap.size + 1) _ (by show w.heap.size + 1 ≠ w.heap.size + 1 + 1; omega)).trans h2.out
        · have hbs := hb.setCell (p := ⟨w.heap.size + 1 + 1, q, none⟩) (by show w.heap.size ≤ w.heap.size + 1 + 1; omega) (.int .i64 v)
          exact hbs.alloc hbs.size _
      case measure => simp [intOf]; omega
    · obtain rfl : q = ps.length := by omega
      have HRg := Lib.hid (range_block (l := (upT (fun i => (pt ps i).lo) ps.length).map iV) (by rw [arr_list']; exact h3.out))
      have HTh := Lib.hid (there_block (n := 20) h2.out (by rw [arrV_size, upT_len]; exact Nat.le_refl _))
      have hs97 : Hid ((Try.prog.info? 97).map (·.size) = some ((upT (fun i => (pt ps i).lo) ps.length).map iV).length) := s97.trans (by rw [List.length_map, upT_len])
      have hs97' : Hid ((Try.prog.info? 97).map (·.size) = some (arrV (upT (fun i => (pt ps i).lo) ps.length)).size) := s97.trans (by rw [arrV_size, upT_len])
      have hth : Hid (wr.there (w.heap.size + 1) 0 (arrV (upT (fun i => (pt ps i).lo) ps.length)).size) := by rw [arrV_size, upT_len]; exact HTh.out
      have HW9 := Lib.hid (set_whole (w.heap.size + 1) 97 wr (arrV (upT (fun i => (pt ps i).lo) 0)) (arrV (upT (fun i => (pt ps i).lo) ps.length)) (by rw [arrV_size, arrV_size, upT_len, upT_len]) h2.out)
      have HB9 := Lib.hid (below_cells (b := w.heap.size + 1) (by omega) (arrV (upT (fun i => (pt ps i).lo) ps.length)).toList 0 wr hb)
      go_wp2_with (first
        | (refine wpList_load_mid rfl 97 (.tmp 3) rfl _ _ rfl ((upT (fun i => (pt ps i).lo) ps.length).map iV) (.array 20 3) (by exact HRg.out) u97 rfl (by exact hs97.out) ?_; rw [arr_list'])
        | (refine wpList_store_mid rfl 97 (.tmp 2) (.tmp 21) rfl (w.heap.size + 1) 0 (arrV (upT (fun i => (pt ps i).lo) ps.length)) rfl rfl (by exact hth.out) (by exact hs97'.out) (arrV_one _) ?_)
        | fail)
      refine bodyPost_ret (v := .agg (arrV (upT (fun i => (pt ps i).lo) ps.length))) (results_cell_row rfl _ _ (w.heap.size + 1) 97 _ _ (.array 20 3) rfl HW9.out u97 rfl hs97'.out) rfl ⟨rfl, HB9.out⟩

set_option maxRecDepth 100000 in
set_option maxHeartbeats 1000000 in
theorem highs_any (b off cap : Nat) (ps : List Pt) (d k o : Int) (w : World) (hlen : ps.length ≤ 20) (hpos : 0 < ps.length) (hp : PtsIn w b off ps) :
    Calls Try.prog 99 #[.agg #[.slice (some ⟨b, off, none⟩) ps.length cap, .int .i64 d, .int .i64 k, .int .i64 o]] w fun e w' => e = .returned (.agg (arrV (upT (fun i => (pt ps i).hi) ps.length))) ∧ Below w.heap.size w w' := by
  have hltb : b < w.heap.size := block_lt_of_cell (hp 0 hpos).1
  have HP := Lib.hid hp
  clear hp
  have hz := upT_zero (fun i => (pt ps i).hi)
  have HZ := Lib.hid hz
  clear hz
  go_enter Try.func99, Try.ntmps99
  go_wp2
  rw [← HZ.out]
  have hW0 : ∀ A B C : Obj, ((((w.alloc A).alloc B).alloc C).heap[w.heap.size + 1]? = some B) ∧ ((((w.alloc A).alloc B).alloc C).heap[w.heap.size + 1 + 1]? = some C) := fun A B C => by
    have h1 := heap_alloc_new (w.alloc A) B
    have h2 := heap_alloc_new ((w.alloc A).alloc B) C
    simp only [World.size_alloc] at h1 h2
    exact ⟨by rw [heap_alloc_low _ _ _ (by simp)]; exact h1, h2⟩
  have hbW := fun A B C : Obj => (((Below.refl _ w).alloc (Nat.le_refl _) A).alloc (by simp) B).alloc (by simp; omega) C
  have HW0 := Lib.hid hW0
  have HBW := Lib.hid hbW
  clear hW0 hbW
  go_loopw [10] (fun i wr => ∃ q : Nat, q ≤ ps.length ∧ i = .int .i64 q ∧ Hid (wr.heap[w.heap.size + 1 + 1]? = some (.cells (arrV (upT (fun i => (pt ps i).hi) q)) 97 (0, 0))) ∧ Hid (wr.heap[w.heap.size + 1]? = some (.cells (arrV (upT (fun i => (pt ps i).hi) 0)) 97 (0, 0))) ∧ Below w.heap.size w wr) (fun i _ => ps.length - (intOf i).toNat)
  case atStart => exact ⟨0, Nat.zero_le _, rfl, Lib.hid (HW0.out _ _ _).2, Lib.hid (HW0.out _ _ _).1, HBW.out _ _ _⟩
  case round =>
    obtain ⟨q, hq, rfl, h3, h2, hb⟩ := hrel
    by_cases hlt : q < ps.length
    · have hpq := HP.out q hlt
      have p1 := (hb.cell (p := ⟨b, off + q * 3, none⟩) hltb).trans hpq.1
      have p2 := (hb.cell (p := ⟨b, off + q * 3 + 1, none⟩) hltb).trans hpq.2.1
      have p3 := (hb.cell (p := ⟨b, off + q * 3 + 2, none⟩) hltb).trans hpq.2.2
      clear hpq
      have hq20 : (q : Int) < 20 := by omega
      have hqn : (q : Int) < ps.length := by omega
      have hc3 := (cell_of_row wr (w.heap.size + 1 + 1) q _ _ _ h3.out).trans (arrV_get _ q (by rw [upT_len]; omega))
      have hf3 := frozen_of_row wr (w.heap.size + 1 + 1) q _ _ h3.out
      have hl3 := lt_of_block h3.out
      have HS := Lib.hid (upT_set (fun i => (pt ps i).hi) q (by omega))
      generalize hv : (pt ps q).hi = v at *
      have HV := Lib.hid hv
      clear hv
      go_wp2
      go_roundw
      case rel =>
        refine ⟨q + 1, by omega, by simp, ?_, ?_, ?_⟩
        · refine Lib.hid ((Below.heap_alloc _ _ _ (by show _ < (wr.heap.modify _ _).size; rw [Array.size_modify]; exact hl3)).trans ?_)
          have := heap_setCell_same wr (w.heap.size + 1 + 1) q _ 97 (.int .i64 v) h3.out
          have e := HS.out
          rw [e] at this
          exact this
        · refine Lib.hid ((Below.heap_alloc _ _ _ (by show _ < (wr.heap.modify _ _).size; rw [Array.size_modify]; omega)).trans ?_)
          exact (heap_setCell_other wr ⟨w.heap.size + 1 + 1, q, none⟩ (w.heap.size + 1) _ (by show w.heap.size + 1 ≠ w.heap.size + 1 + 1; omega)).trans h2.out
        · have hbs := hb.setCell (p := ⟨w.heap.size + 1 + 1, q, none⟩) (by show w.heap.size ≤ w.heap.size + 1 + 1; omega) (.int .i64 v)
          exact hbs.alloc hbs.size _
      case measure => simp [intOf]; omega
    · obtain rfl : q = ps.length := by omega
      have HRg := Lib.hid (range_block (l := (upT (fun i => (pt ps i).hi) ps.length).map iV) (by rw [arr_list']; exact h3.out))
      have HTh := Lib.hid (there_block (n := 20) h2.out (by rw [arrV_size, upT_len]; exact Nat.le_refl _))
      have hs97 : Hid ((Try.prog.info? 97).map (·.size) = some ((upT (fun i => (pt ps i).hi) ps.length).map iV).length) := s97.trans (by rw [List.length_map, upT_len])
      have hs97' : Hid ((Try.prog.info? 97).map (·.size) = some (arrV (upT (fun i => (pt ps i).hi) ps.length)).size) := s97.trans (by rw [arrV_size, upT_len])
      have hth : Hid (wr.there (w.heap.size + 1) 0 (arrV (upT (fun i => (pt ps i).hi) ps.length)).size) := by rw [arrV_size, upT_len]; exact HTh.out
      have HW9 := Lib.hid (set_whole (w.heap.size + 1) 97 wr (arrV (upT (fun i => (pt ps i).hi) 0)) (arrV (upT (fun i => (pt ps i).hi) ps.length)) (by rw [arrV_size, arrV_size, upT_len, upT_len]) h2.out)
      have HB9 := Lib.hid (below_cells (b := w.heap.size + 1) (by omega) (arrV (upT (fun i => (pt ps i).hi) ps.length)).toList 0 wr hb)
      go_wp2_with (first
        | (refine wpList_load_mid rfl 97 (.tmp 3) rfl _ _ rfl ((upT (fun i => (pt ps i).hi) ps.length).map iV) (.array 20 3) (by exact HRg.out) u97 rfl (by exact hs97.out) ?_; rw [arr_list'])
        | (refine wpList_store_mid rfl 97 (.tmp 2) (.tmp 21) rfl (w.heap.size + 1) 0 (arrV (upT (fun i => (pt ps i).hi) ps.length)) rfl rfl (by exact hth.out) (by exact hs97'.out) (arrV_one _) ?_)
        | fail)
      refine bodyPost_ret (v := .agg (arrV (upT (fun i => (pt ps i).hi) ps.length))) (results_cell_row rfl _ _ (w.heap.size + 1) 97 _ _ (.array 20 3) rfl HW9.out u97 rfl hs97'.out) rfl ⟨rfl, HB9.out⟩

end Go.Proofs.Ytfjlnejeffkdoaa

namespace Go.Proofs.Ytfjlnejeffkdoaa
open Go.RowKit Go.Shelf
attribute [local irreducible] arrV
attribute [local go_sem] Oper.semAt_some

/-- Between two rounds: the blocks of T are as they were. -/
def Rfree (T : Nat → Prop) (A B : World) : Prop := A.heap.size ≤ B.heap.size ∧ ∀ k, T k → B.heap[k]? = A.heap[k]?
/-- Nothing is done any more. -/
def Never (_ : Nat → Prop) (_ _ : World) : Prop := False
def TCx (C : Nat → Prop) (T : Nat → Prop) (W : World) : Prop := ∀ k, T k → k < W.heap.size ∧ ¬ C k
theorem Rfree.of_below {C T : Nat → Prop} {W A B : World} (hT : TCx C T W) (hA : W.heap.size ≤ A.heap.size) (h : Below A.heap.size A B) : Rfree T A B :=
  ⟨h.size, fun k hk => h.block k (Nat.lt_of_lt_of_le (hT k hk).1 hA)⟩

/-- A truth of the curve, in an array of twenty. -/
def IsTr (ps : List Pt) (x : List Int) : Prop := x.length = 20 ∧ (∀ i, i < ps.length → (pt ps i).lo ≤ ld x i ∧ ld x i ≤ (pt ps i).hi) ∧ (∀ i, ps.length ≤ i → ld x i = 0)
def lowT (ps : List Pt) : List Int := upT (fun i => (pt ps i).lo) ps.length
def highT (ps : List Pt) : List Int := upT (fun i => (pt ps i).hi) ps.length

/-- The valid points, and the box of the reading. -/
structure Box (w : World) (Br b off cap : Nat) (ps : List Pt) (r : Rl) : Prop where
  blk : w.heap[Br]? = some (.cells #[.slice (some ⟨b, off, none⟩) ps.length cap, .int .i64 r.d, .int .i64 r.k, .int .i64 r.o] 94 (0, 0))
  pts : PtsIn w b off ps
theorem Box.but {T : Nat → Prop} {w w' : World} {Br b off cap : Nat} {ps : List Pt} {r : Rl} (h : Box w Br b off cap ps r) (hb : But T w w') (h1 : ¬ T Br) (h2 : ¬ T b) : Box w' Br b off cap ps r :=
  ⟨(hb.block Br (lt_of_block h.blk) h1).trans h.blk, fun i hi => ⟨hb.cell h2 (h.pts i hi).1, hb.cell h2 (h.pts i hi).2.1, hb.cell h2 (h.pts i hi).2.2⟩⟩

set_option maxRecDepth 100000 in
set_option maxHeartbeats 1000000 in
theorem ends_seq (Br b off cap : Nat) (ps : List Pt) (r : Rl) (w : World) (hlen : ps.length ≤ 20) (hpos : 0 < ps.length) (hB : Box w Br b off cap ps r) (hlo : IsTr ps (lowT ps)) (hhi : IsTr ps (highT ps)) :
    SeqT Try.prog 98 #[.pointer (some ⟨Br, 0, none⟩)] (fun t : List Int => #[Value.agg (arrV t)]) (IsTr ps) Rfree Never (TCx (fun k => k = Br ∨ k = b)) (fun xs => xs = [lowT ps, highT ps]) (fun _ => True) w := by
  intro l T J Jx W hW hTC hJ hJx hY h0
  have hBW : Box W Br b off cap ps r := hB.but (But.of_below (T := fun _ => False) hW) id id
  have hnBr : ¬ T Br := fun h => (hTC Br h).2 (.inl rfl)
  have hnb : ¬ T b := fun h => (hTC b h).2 (.inr rfl)
  refine callsIn_of_wp Try.func98 rfl trivial ?_ rfl
  simp only [Try.ntmps98, List.size_toArray, List.length_cons, List.length_nil, Nat.reduceAdd, Nat.reduceSub, Array.replicate_succ, Array.replicate_zero, List.push_toArray, List.append_toArray, List.nil_append, List.cons_append]
  have c0 := cell_of_row W Br 0 _ _ _ hBW.blk
  have c1 := cell_of_row W Br 1 _ _ _ hBW.blk
  have c2 := cell_of_row W Br 2 _ _ _ hBW.blk
  have c3 := cell_of_row W Br 3 _ _ _ hBW.blk
  simp at c0 c1 c2 c3
  gi_wp2_with fail
  refine ⟨trivial, rfl, ?_⟩
  refine (callsIn_wide.2 (lows_any b off cap ps r.d r.k r.o W hlen hpos hBW.pts)).mono ?_
  rintro e w1 ⟨rfl, hb1⟩
  have hJ1 := hJ _ _ _ h0 (Rfree.of_below hTC (Nat.le_refl _) hb1)
  have hbt1 : But T W w1 := But.of_below hb1
  obtain ⟨fn, tmps, assign, body, hy, hR⟩ := hY [] (lowT ps) w1 hlo hJ1 hbt1
  unfold lowT at hy
  clear c0 c1 c2 c3
  gi_wp2_with fail
  refine ⟨rfl, ?_⟩
  refine hR.mono ?_
  clear hy hR
  rintro e W2 (⟨rfl, hJ2, hbt2⟩ | ⟨rfl, hJx2, hbt2⟩)
  · have hB2 : Box W2 Br b off cap ps r := (hBW.but hbt1 hnBr hnb).but hbt2 hnBr hnb
    have c0 := cell_of_row W2 Br 0 _ _ _ hB2.blk
    have c1 := cell_of_row W2 Br 1 _ _ _ hB2.blk
    have c2 := cell_of_row W2 Br 2 _ _ _ hB2.blk
    have c3 := cell_of_row W2 Br 3 _ _ _ hB2.blk
    simp at c0 c1 c2 c3
    gi_wp2_with fail
    refine ⟨trivial, rfl, ?_⟩
    refine (callsIn_wide.2 (highs_any b off cap ps r.d r.k r.o W2 hlen hpos hB2.pts)).mono ?_
    rintro e w3 ⟨rfl, hb3⟩
    have hle : W.heap.size ≤ W2.heap.size := Nat.le_trans hbt1.size hbt2.size
    have hJ3 := hJ _ _ _ hJ2 (Rfree.of_below hTC hle hb3)
    have hbt3 : But T W w3 := (hbt1.trans hbt2).trans (But.of_below hb3)
    obtain ⟨fn, tmps, assign, body, hy, hR⟩ := hY ([] ++ [lowT ps]) (highT ps) w3 hhi hJ3 hbt3
    unfold highT at hy
    clear c0 c1 c2 c3
    gi_wp2_with fail
    refine ⟨rfl, ?_⟩
    refine hR.mono ?_
    clear hy hR
    rintro e W4 (⟨rfl, hJ4, hbt4⟩ | ⟨rfl, hJx4, hbt4⟩)
    · gi_wp2
      go_end0
      exact ⟨⟨_, rfl⟩, hbt3.trans hbt4, .inl ⟨_, rfl, hJ4⟩⟩
    · gi_wp2
      go_end0
      exact ⟨⟨_, rfl⟩, hbt3.trans hbt4, .inr ⟨_, trivial, hJx4⟩⟩
  · gi_wp2
    go_end0
    exact ⟨⟨_, rfl⟩, hbt1.trans hbt2, .inr ⟨_, trivial, hJx2⟩⟩
end Go.Proofs.Ytfjlnejeffkdoaa

namespace Go.Proofs.Ytfjlnejeffkdoaa
open Go.RowKit Go.Shelf
attribute [local irreducible] arrV
attribute [local go_sem] Oper.semAt_some

theorem wpListIn_store_row {F : Fence} {n' : Nat} {P : Program} {ops : Array Oper} {rest : List Oper} {o : Oper} {a : Act} {Q : Exit → Act → World → Prop} {w : World} (hgd : o.guard = none) (ty : TypeId) (x y : Operand) (ho : o.op = .store ty x y)
    (b off : Nat) (cells : Array Value) (hx : a.eval x = .pointer (some ⟨b, off, none⟩)) (hy : a.eval y = .agg cells) (ht : w.there b off cells.size) (hi : (P.info? ty).map (·.size) = some cells.size) (h1 : cells.all (·.oneCell') = true)
    (h : wpListIn F n' P ops Q rest (a.put o.dst undef) (w.setCells b off cells.toList)) : wpListIn F n' P ops Q (o :: rest) a w := by
  refine wpListIn_plain hgd fun K hK => ?_
  have hr := exec_store_row (P := P) ty x y ho b off cells hx hy ht hi h1
  unfold Oper.wpIn
  refine ⟨by simp [Oper.about, ho], ?_⟩
  rw [Oper.semAt_plain F _ _ (by rw [ho]; intro c hc'; cases hc'), hr]
  exact hK _ _ h
theorem wpListIn_load_row {F : Fence} {n' : Nat} {P : Program} {ops : Array Oper} {rest : List Oper} {o : Oper} {a : Act} {Q : Exit → Act → World → Prop} {w : World} (hgd : o.guard = none) (ty : TypeId) (x : Operand) (ho : o.op = .load ty x)
    (b off : Nat) (hx : a.eval x = .pointer (some ⟨b, off, none⟩)) (cs : List Value) (d : TypeDesc) (hc : w.rangeAt b off cs) (hu : P.underlying ty = some d) (hd : d.isRow = true) (hi : (P.info? ty).map (·.size) = some cs.length) (A : Array Value) (hA : cs.toArray = A)
    (h : wpListIn F n' P ops Q rest (a.put o.dst (.agg A)) w) : wpListIn F n' P ops Q (o :: rest) a w := by
  refine wpListIn_plain hgd fun K hK => ?_
  have hr := exec_load_row (P := P) ty x ho b off hx cs d hc hu hd hi A hA
  unfold Oper.wpIn
  refine ⟨by simp [Oper.about, ho], ?_⟩
  rw [Oper.semAt_plain F _ _ (by rw [ho]; intro c hc'; cases hc'), hr]
  exact hK _ _ h

theorem wpListIn_store_gen {F : Fence} {n' : Nat} {P : Program} {ops : Array Oper} {rest : List Oper} {o : Oper} {a : Act} {Q : Exit → Act → World → Prop} {w : World} (hgd : o.guard = none) (ty : TypeId) (x y : Operand) (ho : o.op = .store ty x y)
    (b off : Nat) (cells : Array Value) (hx : a.eval x = .pointer (some ⟨b, off, none⟩)) (hy : a.eval y = .agg cells) (ht : w.there b off cells.size) (hi : (P.info? ty).map (·.size) = some cells.size) (h1 : cells.all (·.oneCell') = true)
    (h : ∀ w2, w2 = w.setCells b off cells.toList → wpListIn F n' P ops Q rest (a.put o.dst undef) w2) : wpListIn F n' P ops Q (o :: rest) a w :=
  wpListIn_store_row hgd ty x y ho b off cells hx hy ht hi h1 (h _ rfl)

def raiseT (ps : List Pt) (i : Nat) : List Int := (lowT ps).set i (pt ps i).hi
theorem raiseT_len (ps : List Pt) (i : Nat) : (raiseT ps i).length = 20 := by simp [raiseT, lowT, upT_len]
theorem raiseT_arr (ps : List Pt) (i : Nat) : (arrV (lowT ps)).setIfInBounds i (.int .i64 (pt ps i).hi) = arrV (raiseT ps i) := by
  unfold arrV raiseT
  rw [List.setIfInBounds_toArray, List.map_set]; rfl
def raised (ps : List Pt) (k : Nat) : List (List Int) := lowT ps :: (List.range k).map (raiseT ps)
theorem raised_succ (ps : List Pt) (k : Nat) : raised ps (k + 1) = raised ps k ++ [raiseT ps k] := by simp [raised, List.range_succ]

set_option maxRecDepth 100000 in
set_option maxHeartbeats 2000000 in
theorem raised_seq (Br b off cap : Nat) (ps : List Pt) (r : Rl) (w : World) (hlen : ps.length ≤ 20) (hpos : 0 < ps.length) (hB : Box w Br b off cap ps r) (hlo : IsTr ps (lowT ps)) (hra : ∀ i, i < ps.length → IsTr ps (raiseT ps i)) :
    SeqT Try.prog 91 #[.pointer (some ⟨Br, 0, none⟩)] (fun t : List Int => #[Value.agg (arrV t)]) (IsTr ps) Rfree Never (TCx (fun k => k = Br ∨ k = b)) (fun xs => xs = raised ps ps.length) (fun _ => True) w := by
  intro l T J Jx W hW hTC hJ hJx hY h0
  have hBW : Box W Br b off cap ps r := hB.but (But.of_below (T := fun _ => False) hW) id id
  have hnBr : ¬ T Br := fun h => (hTC Br h).2 (.inl rfl)
  have hnb : ¬ T b := fun h => (hTC b h).2 (.inr rfl)
  refine callsIn_of_wp Try.func91 rfl trivial ?_ rfl
  simp only [Try.ntmps91, List.size_toArray, List.length_cons, List.length_nil, Nat.reduceAdd, Nat.reduceSub, Array.replicate_succ, Array.replicate_zero, List.push_toArray, List.append_toArray, List.nil_append, List.cons_append]
  have c0 := cell_of_row W Br 0 _ _ _ hBW.blk
  have c1 := cell_of_row W Br 1 _ _ _ hBW.blk
  have c2 := cell_of_row W Br 2 _ _ _ hBW.blk
  have c3 := cell_of_row W Br 3 _ _ _ hBW.blk
  simp at c0 c1 c2 c3
  gi_wp2_with fail
  refine ⟨trivial, rfl, ?_⟩
  refine (callsIn_wide.2 (lows_any b off cap ps r.d r.k r.o W hlen hpos hBW.pts)).mono ?_
  rintro e w1 ⟨rfl, hb1⟩
  have hJ1 := hJ _ _ _ h0 (Rfree.of_below hTC (Nat.le_refl _) hb1)
  have hbt1 : But T W w1 := But.of_below hb1
  obtain ⟨fn, tmps, assign, body, hy, hR⟩ := hY [] (lowT ps) w1 hlo hJ1 hbt1
  unfold lowT at hy
  clear c0 c1 c2 c3
  gi_wp2_with fail
  refine ⟨rfl, ?_⟩
  refine hR.mono ?_
  clear hy hR
  rintro e W2 (⟨rfl, hJ2, hbt2⟩ | ⟨rfl, hJx2, hbt2⟩)
  · have hB2 : Box W2 Br b off cap ps r := (hBW.but hbt1 hnBr hnb).but hbt2 hnBr hnb
    have c0 := cell_of_row W2 Br 0 _ _ _ hB2.blk
    simp at c0
    have hbt3 := hbt1.trans hbt2
    clear hb1 hbt1 hbt2 hJ1
    gi_wp2
    clear c0
    gi_loopw [15] (fun i wr => ∃ q : Nat, q ≤ ps.length ∧ i = .int .i64 q ∧ J (raised ps q) wr ∧ But T W wr) (fun i _ => ps.length - (intOf i).toNat)
    case atStart => exact ⟨0, Nat.zero_le _, rfl, hJ2, hbt3⟩
    case round =>
      obtain ⟨q, hq, rfl, hJq, hbq⟩ := hrel
      have hBq : Box wr Br b off cap ps r := hBW.but hbq hnBr hnb
      by_cases hlt : q < ps.length
      · have hpq := hBq.pts q hlt
        have p1 := hpq.1
        have p2 := hpq.2.1
        have p3 := hpq.2.2
        clear hpq
        have d0 := cell_of_row wr Br 0 _ _ _ hBq.blk
        have d1 := cell_of_row wr Br 1 _ _ _ hBq.blk
        have d2 := cell_of_row wr Br 2 _ _ _ hBq.blk
        have d3 := cell_of_row wr Br 3 _ _ _ hBq.blk
        simp at d0 d1 d2 d3
        have hBr : Br < wr.heap.size := lt_of_block hBq.blk
        have hbb : b < wr.heap.size := block_lt_of_cell p1
        have hq20 : (q : Int) < 20 := by omega
        have hqn : (q : Int) < ps.length := by omega
        gi_wp2_with fail
        refine ⟨trivial, rfl, ?_⟩
        have hW9b : Below wr.heap.size wr (wr.alloc (.cells #[.int .i64 (pt ps q).s, .int .i64 (pt ps q).lo, .int .i64 (pt ps q).hi] 74 (0, 0))) := (Below.refl _ wr).alloc (Nat.le_refl _) _
        have hW9n := heap_alloc_new wr (.cells #[.int .i64 (pt ps q).s, .int .i64 (pt ps q).lo, .int .i64 (pt ps q).hi] 74 (0, 0))
        generalize (wr.alloc (.cells #[.int .i64 (pt ps q).s, .int .i64 (pt ps q).lo, .int .i64 (pt ps q).hi] 74 (0, 0))) = w9 at *
        have hsz : wr.heap.size < w9.heap.size := lt_of_block hW9n
        have hB9 : Box w9 Br b off cap ps r := hBq.but (But.of_below (T := fun _ => False) hW9b) id id
        refine (callsIn_wide.2 (lows_any b off cap ps r.d r.k r.o w9 hlen hpos hB9.pts)).mono ?_
        rintro e w1 ⟨rfl, hb1⟩
        clear d0 d1 d2 d3 p1 p2 p3
        have e0 := (hb1.block _ hsz).trans hW9n
        have e2 := cell_of_row w1 wr.heap.size 2 _ _ _ e0
        simp at e2
        have hsz1 : wr.heap.size < w1.heap.size := lt_of_block e0
        have hbt1 : But T wr w1 := (But.of_below hW9b).trans (But.of_below hb1)
        have hba : Below wr.heap.size wr w1 := hW9b.trans (hb1.mono hW9b.size)
        clear hb1
        have hsz0 : (arrV (upT (fun i => (pt ps i).lo) ps.length)).size = 20 := by rw [arrV_size, upT_len]
        have hs97' : Hid ((Try.prog.info? 97).map (·.size) = some (arrV (upT (fun i => (pt ps i).lo) ps.length)).size) := s97.trans (by rw [hsz0])
        have hs97 : Hid ((Try.prog.info? 97).map (·.size) = some ((raiseT ps q).map iV).length) := s97.trans (by rw [List.length_map, raiseT_len])
        have hTh : ∀ A : Array Value, A.size = 20 → Hid ((w1.alloc (.cells A 97 (0, 0))).there w1.heap.size 0 (arrV (upT (fun i => (pt ps i).lo) ps.length)).size) := fun A hA => there_block (heap_alloc_new w1 _) (by rw [hsz0, hA]; exact Nat.le_refl _)
        have hSW : ∀ A : Array Value, A.size = 20 → Hid (((w1.alloc (.cells A 97 (0, 0))).setCells w1.heap.size 0 (arrV (upT (fun i => (pt ps i).lo) ps.length)).toList).heap[w1.heap.size]? = some (.cells (arrV (lowT ps)) 97 (0, 0))) := fun A hA => set_whole w1.heap.size 97 _ A _ (by rw [hsz0, hA]) (heap_alloc_new w1 _)
        have hSB : ∀ A : Array Value, Hid (Below wr.heap.size wr ((w1.alloc (.cells A 97 (0, 0))).setCells w1.heap.size 0 (arrV (upT (fun i => (pt ps i).lo) ps.length)).toList)) := fun A => below_cells (Nat.le_of_lt hsz1) _ 0 _ (hba.alloc (Nat.le_of_lt hsz1) _)
        have hSE : ∀ A : Array Value, Hid (((w1.alloc (.cells A 97 (0, 0))).setCells w1.heap.size 0 (arrV (upT (fun i => (pt ps i).lo) ps.length)).toList).cell? ⟨wr.heap.size, 2, none⟩ = some (.int .i64 (pt ps q).hi)) := fun A => by
          have hbx : Below w1.heap.size w1 ((w1.alloc (.cells A 97 (0, 0))).setCells w1.heap.size 0 (arrV (upT (fun i => (pt ps i).lo) ps.length)).toList) := below_cells (Nat.le_refl _) _ 0 _ ((Below.refl _ w1).alloc (Nat.le_refl _) _)
          exact (hbx.cell (p := ⟨wr.heap.size, 2, none⟩) hsz1).trans e2
        gi_wp2_with (first
          | (refine wpListIn_store_gen rfl 97 (.tmp 5) (.tmp 21) rfl w1.heap.size 0 (arrV (upT (fun i => (pt ps i).lo) ps.length)) rfl rfl (by exact (hTh _ rfl).out) (by exact hs97'.out) (arrV_one _) ?_
             intro w2 hw2
             have hE : w2.cell? ⟨wr.heap.size, 2, none⟩ = some (.int .i64 (pt ps q).hi) := by rw [hw2]; exact (hSE _).out
             have hSb : w2.heap[w1.heap.size]? = some (.cells (arrV (lowT ps)) 97 (0, 0)) := by rw [hw2]; exact (hSW _ rfl).out
             have hBb : Below wr.heap.size wr w2 := by rw [hw2]; exact (hSB _).out
             clear hw2
             have hc3 := (cell_of_row w2 w1.heap.size q _ _ _ hSb).trans (arrV_get _ q (by unfold lowT; rw [upT_len]; omega))
             have hf3 := frozen_of_row w2 w1.heap.size q _ _ hSb
             have hl3 := lt_of_block hSb
             have h3s := heap_setCell_same w2 w1.heap.size q _ 97 (.int .i64 (pt ps q).hi) hSb
             rw [raiseT_arr] at h3s
             have h3 := Lib.hid h3s
             clear h3s
             have hb3 : Below wr.heap.size wr (w2.setCell ⟨w1.heap.size, q, none⟩ (.int .i64 (pt ps q).hi)) := hBb.setCell (Nat.le_of_lt hsz1) _
             have hJ3 := hJ _ _ _ hJq (Rfree.of_below hTC hbq.size hb3)
             have hbt3 : But T W _ := hbq.trans (But.of_below hb3)
             obtain ⟨fn', tmps', assign', body', hy, hR⟩ := hY (raised ps q) (raiseT ps q) _ (hra q hlt) hJ3 hbt3
             have hRH := Lib.hid hR
             have hJ3H := Lib.hid hJ3
             have hBH := Lib.hid (And.intro hb3 hbt3)
             have hSbH := Lib.hid hSb
             clear hR hJ3 hb3 hbt3 hBb hSb)
          | (refine wpListIn_load_row rfl 97 (.tmp 5) rfl w1.heap.size 0 rfl ((raiseT ps q).map iV) (.array 20 3) (by exact range_block (t := 97) (by rw [arr_list']; exact h3.out)) u97 rfl (by exact hs97.out) (arrV (raiseT ps q)) (arr_list' _) ?_)
          | fail)
        refine ⟨rfl, ?_⟩
        refine hRH.out.mono ?_
        clear hRH hy h3 hSbH hE hc3 hf3 hJ3H e0 e2
        rintro e W4 (⟨rfl, hJ4, hbt4⟩ | ⟨rfl, hJx4, hbt4⟩)
        · gi_wp2
          go_roundw
          case rel =>
            refine ⟨q + 1, by omega, by simp, ?_, hBH.out.2.trans hbt4⟩
            rw [raised_succ]; exact hJ4
          case measure => simp [intOf]; omega
        · gi_wp2
          refine bodyPost_ret (results_none rfl _ _ _) rfl ?_
          exact ⟨⟨_, rfl⟩, hBH.out.2.trans hbt4, .inr ⟨_, trivial, hJx4⟩⟩
      · obtain rfl : q = ps.length := by omega
        gi_wp2
        go_end0
        exact ⟨⟨_, rfl⟩, hbq, .inl ⟨_, rfl, hJq⟩⟩
  · gi_wp2
    refine bodyPost_ret (results_none rfl _ _ _) rfl ?_
    exact ⟨⟨_, rfl⟩, hbt1.trans hbt2, .inr ⟨_, trivial, hJx2⟩⟩
end Go.Proofs.Ytfjlnejeffkdoaa

namespace Go.Proofs.Ytfjlnejeffkdoaa
open Go.RowKit Go.Shelf

/-- A number that no sum of two of its like leads out of. -/
def Small (x : Int) : Prop := -1000000000 ≤ x ∧ x ≤ 1000000000

def dropHap (fa fl tl d : Int) : Bool := fa != -1 && decide (d ≤ fl - tl)

set_option maxRecDepth 100000 in
set_option maxHeartbeats 1000000 in
theorem drop_happens (s : Value) (fa fl ta tl d k o : Int) (w : World) (hs : s.oneCell') (hfl : Small fl) (htl : Small tl) :
    Calls Try.prog 95 #[.agg #[s, .int .i64 d, .int .i64 k, .int .i64 o], .agg #[.int .i64 fa, .int .i64 fl], .agg #[.int .i64 ta, .int .i64 tl]] w fun e w' => e = .returned (.bool (dropHap fa fl tl d)) ∧ Below w.heap.size w w' := by
  obtain ⟨f1, f2⟩ := hfl
  obtain ⟨t1, t2⟩ := htl
  by_cases hfa : fa = -1
  · subst hfa
    go_enter Try.func95, Try.ntmps95
    go_wp2
    all_goals
      go_ret
      refine ⟨?_, below3 _ _ _ _⟩
      simp [dropHap]
  · have g1 : (fa == -1) = false := by simpa using hfa
    have g2 : (fa != -1) = true := by simpa using hfa
    go_enter Try.func95, Try.ntmps95
    go_wp2
    all_goals
      go_ret
      refine ⟨?_, below3 _ _ _ _⟩
      simp [dropHap, *]
      try omega

theorem box3 (w : World) (A B C : Obj) : (((w.alloc A).alloc B).alloc C).heap[w.heap.size]? = some A ∧ (((w.alloc A).alloc B).alloc C).heap[w.heap.size + 1]? = some B ∧ (((w.alloc A).alloc B).alloc C).heap[w.heap.size + 1 + 1]? = some C := by
  have h0 := heap_alloc_new w A
  have h1 := heap_alloc_new (w.alloc A) B
  have h2 := heap_alloc_new ((w.alloc A).alloc B) C
  simp only [World.size_alloc] at h1 h2
  refine ⟨?_, ?_, h2⟩
  · rw [heap_alloc_low _ _ _ (by simp; omega), heap_alloc_low _ _ _ (by simp)]; exact h0
  · rw [heap_alloc_low _ _ _ (by simp)]; exact h1

/-- What the box of a reading and a place need. -/
structure Sane (ps : List Pt) (r : Rl) : Prop where
  len : ps.length ≤ 20
  pos : 0 < ps.length
  st : ∀ i, i < ps.length → 0 ≤ (pt ps i).s ∧ (pt ps i).s ≤ 1000
  lo : ∀ i, i < ps.length → 0 ≤ (pt ps i).lo ∧ (pt ps i).hi ≤ 100000 ∧ (pt ps i).lo ≤ (pt ps i).hi
  k : 1 ≤ r.k ∧ r.k ≤ 1000
  o : 0 ≤ r.o ∧ r.o ≤ 1000
  d : 1 ≤ r.d ∧ r.d ≤ 100000

set_option maxRecDepth 100000 in
set_option maxHeartbeats 1000000 in
theorem meet_happens (b off cap : Nat) (ps : List Pt) (r : Rl) (fa fl tl : Int) (i : Nat) (w : World) (F : Sane ps r) (hi : i < ps.length) (hp : PtsIn w b off ps) :
    Calls Try.prog 97 #[.agg #[.slice (some ⟨b, off, none⟩) ps.length cap, .int .i64 r.d, .int .i64 r.k, .int .i64 r.o], .agg #[.int .i64 fa, .int .i64 fl], .agg #[.int .i64 i, .int .i64 tl]] w fun e w' => e = .returned (.bool (decide (tl ≤ lineI ps r i))) ∧ Below w.heap.size w w' := by
  have hlt : b < w.heap.size := block_lt_of_cell (hp 0 F.pos).1
  have hB := below3 w (.cells #[.slice (some ⟨b, off, none⟩) ps.length cap, .int .i64 r.d, .int .i64 r.k, .int .i64 r.o] 94 (0, 0)) (.cells #[.int .i64 fa, .int .i64 fl] 151 (0, 0)) (.cells #[.int .i64 i, .int .i64 tl] 151 (0, 0))
  obtain ⟨b0, -, b2⟩ := box3 w (.cells #[.slice (some ⟨b, off, none⟩) ps.length cap, .int .i64 r.d, .int .i64 r.k, .int .i64 r.o] 94 (0, 0)) (.cells #[.int .i64 fa, .int .i64 fl] 151 (0, 0)) (.cells #[.int .i64 i, .int .i64 tl] 151 (0, 0))
  have p0 := (hB.cell (p := ⟨b, off + i * 3, none⟩) hlt).trans (hp i hi).1
  have e : lineI ps r i = (r.k * ((pt ps i).s - r.o)) := rfl
  have h2 := F.st i hi
  have hlen := F.len
  have hk := F.k
  have ho := F.o
  rw [e]; clear e F hp
  have hm := mul_le_of r.k ((pt ps i).s - r.o) 1000 1000 (by omega) (by omega) (by omega) (by omega) (by omega)
  generalize r.d = d at *
  generalize r.k = k at *
  generalize r.o = o at *
  generalize (pt ps i).s = s at *
  generalize ps.length = n at *
  go_enter Try.func97, Try.ntmps97
  go_wp2
  generalize World.alloc _ _ = W at *
  have c0 := cell_of_row W w.heap.size 0 _ _ _ b0
  have c1 := cell_of_row W w.heap.size 1 _ _ _ b0
  have c2 := cell_of_row W w.heap.size 2 _ _ _ b0
  have c3 := cell_of_row W w.heap.size 3 _ _ _ b0
  have t0 := cell_of_row W (w.heap.size + 1 + 1) 0 _ _ _ b2
  have t1 := cell_of_row W (w.heap.size + 1 + 1) 1 _ _ _ b2
  simp at c0 c1 c2 c3 t0 t1
  have g0 := cell_regrown c0
  have g1 := cell_regrown c1
  have g2 := cell_regrown c2
  have g3 := cell_regrown c3
  have k0 := cell_regrown t0
  have k1 := cell_regrown t1
  have gp := cell_regrown p0
  clear c0 c1 c2 c3 p0 t0 t1 b0 b2
  refine wp_region_quiet_below (by kernel_rfl) (by kernel_rfl) ?_
  repeat (quiet_step (exact Calls.regrown_of (line_any b off n cap i d k o s _ (by omega) (by omega) (by omega) (by simpa using gp _ _) (by omega) (by omega) (by omega) (by omega) (by omega) (by omega))))
  refine wpQuiet_nil ?_
  intro _ hw'
  obtain ⟨⟨dq, osq⟩, hw''⟩ := hw'
  subst hw''
  go_wp2
  go_ret
  exact ⟨rfl, below_to hB (below_regrown W dq osq)⟩
end Go.Proofs.Ytfjlnejeffkdoaa

namespace Go.Proofs.Ytfjlnejeffkdoaa
open Go.RowKit Go.Shelf

theorem exec_buildSlice {P : Program} {a : Act} {o : Oper} {w : World} (t e : TypeId) (len : Nat) (parts : Array (Nat × Operand)) (ho : o.op = .buildSlice t len parts) (hu : P.underlying t = some (.slice e)) (cells : Array Value)
    (hf : P.builtSlice e len (parts.map fun (i, x) => (i, a.eval x)).toList = some cells) : (execOp a.eval o).run P w = .ok (.value (.slice (some ⟨w.heap.size, 0, none⟩) len len)) (w.alloc (.cells cells e)) := by
  unfold Program.builtSlice at hf
  cases hie : P.info? e with
  | none => simp [hie] at hf
  | some ie =>
    simp only [hie] at hf
    cases hz : ie.zero with
    | none => simp [hz] at hf
    | some z =>
      simp only [hz] at hf
      by_cases hc : len * ie.size > 2 ^ 24 ∨ len * ie.size = 0
      · simp [hc] at hf
      · rw [if_neg hc] at hf
        unfold execOp
        simp only [ho, Sem.run_bind, run_buildSlice w t e len _ cells ie z hu hie hz (fun h' => hc (Or.inl h')) (fun h' => hc (Or.inr h')) hf, Result.andThen_ok]
        rfl

theorem box2 (w : World) (A B : Obj) : ((w.alloc A).alloc B).heap[w.heap.size]? = some A ∧ ((w.alloc A).alloc B).heap[w.heap.size + 1]? = some B := by
  have h0 := heap_alloc_new w A
  have h1 := heap_alloc_new (w.alloc A) B
  simp only [World.size_alloc] at h1
  exact ⟨by rw [heap_alloc_low _ _ _ (by simp)]; exact h0, h1⟩

theorem intsIn_new (w : World) (l : List Int) : IntsIn (w.alloc (.cells (l.map (Value.int .i64)).toArray 3 (0, 0))) w.heap.size 0 l := fun i hi => by
  rw [Nat.zero_add, cell_of_row _ w.heap.size i _ _ _ (heap_alloc_new w _)]
  simp [ld, hi]

set_option maxRecDepth 100000 in
set_option maxHeartbeats 1000000 in
theorem meet_choices (b off cap : Nat) (ps : List Pt) (r : Rl) (fa fl : Int) (i : Nat) (w : World) (F : Sane ps r) (hi : i < ps.length) (hfa : fa = (i : Int) - 1) (hp : PtsIn w b off ps) :
    Calls Try.prog 96 #[.agg #[.slice (some ⟨b, off, none⟩) ps.length cap, .int .i64 r.d, .int .i64 r.k, .int .i64 r.o], .agg #[.int .i64 fa, .int .i64 fl]] w fun e w' =>
      ∃ B c, e = .returned (.slice (some ⟨B, 0, none⟩) [(pt ps i).lo, (pt ps i).hi, lineI ps r i].length c) ∧ IntsIn w' B 0 [(pt ps i).lo, (pt ps i).hi, lineI ps r i] ∧ w.heap.size ≤ B ∧ Below w.heap.size w w' := by
  have hlt : b < w.heap.size := block_lt_of_cell (hp 0 F.pos).1
  have hB := below2 w (.cells #[.slice (some ⟨b, off, none⟩) ps.length cap, .int .i64 r.d, .int .i64 r.k, .int .i64 r.o] 94 (0, 0)) (.cells #[.int .i64 fa, .int .i64 fl] 151 (0, 0))
  have p0 := (hB.cell (p := ⟨b, off + i * 3, none⟩) hlt).trans (hp i hi).1
  have p1 := (hB.cell (p := ⟨b, off + i * 3 + 1, none⟩) hlt).trans (hp i hi).2.1
  have p2 := (hB.cell (p := ⟨b, off + i * 3 + 2, none⟩) hlt).trans (hp i hi).2.2
  have hB3 := below3 w (.cells #[.slice (some ⟨b, off, none⟩) ps.length cap, .int .i64 r.d, .int .i64 r.k, .int .i64 r.o] 94 (0, 0)) (.cells #[.int .i64 fa, .int .i64 fl] 151 (0, 0)) (.cells #[.int .i64 (pt ps i).lo, .int .i64 (pt ps i).hi] 51 (0, 0))
  obtain ⟨b0, -, b2⟩ := box3 w (.cells #[.slice (some ⟨b, off, none⟩) ps.length cap, .int .i64 r.d, .int .i64 r.k, .int .i64 r.o] 94 (0, 0)) (.cells #[.int .i64 fa, .int .i64 fl] 151 (0, 0)) (.cells #[.int .i64 (pt ps i).lo, .int .i64 (pt ps i).hi] 51 (0, 0))
  have q0 := Lib.hid ((hB3.cell (p := ⟨b, off + i * 3, none⟩) hlt).trans (hp i hi).1)
  have HB3 := Lib.hid hB3
  have B0 := Lib.hid b0
  have B2 := Lib.hid b2
  clear hB3 b0 b2
  have e : lineI ps r i = (r.k * ((pt ps i).s - r.o)) := rfl
  have h2 := F.st i hi
  have hlen := F.len
  have hk := F.k
  have ho := F.o
  rw [e]; clear e F hp
  have hm := mul_le_of r.k ((pt ps i).s - r.o) 1000 1000 (by omega) (by omega) (by omega) (by omega) (by omega)
  have hiI : (i : Int) < ps.length := by omega
  subst hfa
  have hw1 : IntKind.i64.wrap ((i : Int) - 1 + 1) = (i : Int) := by rw [IntWalk.i64_in _ (by omega)]; omega
  generalize r.d = d at *
  generalize r.k = k at *
  generalize r.o = o at *
  generalize (pt ps i).s = s at *
  generalize (pt ps i).lo = lo at *
  generalize (pt ps i).hi = hi' at *
  generalize ps.length = n at *
  go_enter Try.func96, Try.ntmps96
  go_wp2_with fail
  clear hB p0 p1 p2 hw1
  generalize World.alloc (World.alloc (World.alloc w _) _) _ = W at *
  have hA : w.heap.size < W.heap.size := lt_of_block B0.out
  have hC : w.heap.size + 1 + 1 < W.heap.size := lt_of_block B2.out
  have hbW : b < W.heap.size := Nat.lt_trans hlt hA
  have HC : Hid (∀ w1, Below W.heap.size W w1 → w1.cell? ⟨w.heap.size, 0, none⟩ = some (.slice (some ⟨b, off, none⟩) n cap) ∧ w1.cell? ⟨w.heap.size, 1, none⟩ = some (.int .i64 d) ∧ w1.cell? ⟨w.heap.size, 2, none⟩ = some (.int .i64 k) ∧ w1.cell? ⟨w.heap.size, 3, none⟩ = some (.int .i64 o) ∧ w1.cell? ⟨w.heap.size + 1 + 1, 0, none⟩ = some (.int .i64 lo) ∧ w1.cell? ⟨w.heap.size + 1 + 1, 1, none⟩ = some (.int .i64 hi')) := Lib.hid fun w1 hS => by
    have x0 := (hS.block _ hA).trans B0.out
    have x2 := (hS.block _ hC).trans B2.out
    have y0 := cell_of_row w1 _ 0 _ _ _ x0
    have y1 := cell_of_row w1 _ 1 _ _ _ x0
    have y2 := cell_of_row w1 _ 2 _ _ _ x0
    have y3 := cell_of_row w1 _ 3 _ _ _ x0
    have z0 := cell_of_row w1 _ 0 _ _ _ x2
    have z1 := cell_of_row w1 _ 1 _ _ _ x2
    exact ⟨y0, y1, y2, y3, z0, z1⟩
  refine wp_region_noPanic ?_
  refine wp_region_chain (fun w' => Below W.heap.size W w') (fun w1 w2 h hb => grow_to h hb) (below_drawn _) (by kernel_rfl) (fun _ _ _ _ _ h => h)
    [(false, 0), (false, 1), (false, 2), (false, 3), (false, 4), (false, 5), (true, 6)] [7, 8] (by kernel_rfl) ?_
  iterate 6
    (refine Walk.takes rfl rfl ?_; apply Exists.intro; refine ⟨fun w1 hS => ?_, ?_⟩; (obtain ⟨d0, d1, d2, d3, e0, e1⟩ := HC.out w1 hS; go_simp; with_reducible rfl); simp only [List.getElem_toArray, List.getElem_cons_succ, List.getElem_cons_zero, Act.put, List.setIfInBounds_toArray, List.set_cons_zero, List.set_cons_succ])
  refine Walk.calls rfl rfl ?_; apply Exists.intro; apply Exists.intro; refine ⟨fun w1 hS => ?_, fun w1 hb => ?_⟩; (clear hS; go_simp; exact ⟨rfl, rfl⟩)
  refine (line_any b off n cap i d k o s w1 (by omega) (by omega) (by omega) ?_ (by omega) (by omega) (by omega) (by omega) (by omega) (by omega)).mono ?_
  · rw [Int.toNat_natCast]
    exact ((grow_to (below_drawn _) hb).cell (p := ⟨b, off + i * 3, none⟩) hbW).trans q0.out
  rintro e w2 ⟨rfl, hb2⟩
  refine ⟨_, rfl, hb2, ?_⟩
  simp only [List.getElem_toArray, List.getElem_cons_succ, List.getElem_cons_zero, Act.put, List.setIfInBounds_toArray, List.set_cons_zero, List.set_cons_succ]
  refine Walk.fin ?_
  rintro w4 _ hS4
  have hS5 : Below W.heap.size W (w4.alloc (.cells #[.int .i64 lo, .int .i64 hi', .int .i64 (k * (s - o))] 3 (0, 0))) := hS4.alloc hS4.size _
  refine Tail.grows rfl rfl (exec_buildSlice 27 3 3 _ rfl Try.underlying27 #[.int .i64 lo, .int .i64 hi', .int .i64 (k * (s - o))] (by kernel_rfl)) hS5 ?_
  simp only [List.getElem_toArray, List.getElem_cons_succ, List.getElem_cons_zero, Act.put, List.setIfInBounds_toArray, List.set_cons_zero, List.set_cons_succ]
  refine Tail.value rfl rfl rfl (Tail.done (NoPanic.normal ?_))
  simp only [List.getElem_toArray, List.getElem_cons_succ, List.getElem_cons_zero, Act.put, List.setIfInBounds_toArray, List.set_cons_zero, List.set_cons_succ]
  have hI := Lib.hid (intsIn_new w4 [lo, hi', k * (s - o)])
  have hS6 := Lib.hid hS5
  have hz := Lib.hid (Nat.le_trans (Nat.le_of_lt hA) hS4.size)
  clear hS5 hS4
  go_wp2
  go_ret
  exact ⟨_, ⟨_, rfl⟩, hI.out, hz.out, HB3.out.trans (hS6.out.mono (Nat.le_of_lt hA))⟩
end Go.Proofs.Ytfjlnejeffkdoaa

namespace Go.Proofs.Ytfjlnejeffkdoaa
open Go.RowKit Go.Shelf

theorem int_info : ∃ i z, Try.prog.info? 3 = some i ∧ i.zero = some z ∧ i.size = 1 ∧ i.bytes = 8 ∧ z.cells.size = 1 := by
  have h1 : (Try.prog.info? 3).map (·.size) = some 1 := by kernel_rfl
  have h2 : (Try.prog.info? 3).map (·.bytes) = some 8 := by kernel_rfl
  have h3 : ((Try.prog.info? 3).bind (·.zero)).map (·.cells.size) = some 1 := by kernel_rfl
  cases h : Try.prog.info? 3 with
  | none => simp [h] at h1
  | some i =>
    cases hz : i.zero with
    | none => simp [h, hz] at h3
    | some z =>
      simp [h, hz] at h1 h2 h3
      exact ⟨i, z, rfl, hz, h1, h2, h3⟩

/-- One number more, behind a slice of one's own. -/
theorem append_one (W : World) (base n ty : Nat) (v : Value) (xs : List Value) (y : Int) (hown : W.ownsRow base 3 1 v n xs) (hb : base ≤ W.heap.size) (hn : n ≤ 100) :
    ∃ v' w', (Builtin.append_ #[27, 27] ty #[v, .slice (some ⟨W.heap.size, 0, none⟩) 1 1]).run Try.prog (W.alloc (.cells #[.int .i64 y] 3 (0, 0))) = .ok v' w' ∧ w'.ownsRow base 3 1 v' (n + 1) (xs ++ [.int .i64 y]) ∧ Below base W w' := by
  obtain ⟨i, z, hi, hz, hs, hby, hzs⟩ := int_info
  have hg : World.grownBy W (W.alloc (.cells #[.int .i64 y] 3 (0, 0))) none := ⟨rfl, rfl, rfl, by simp, fun k hk _ => heap_alloc_low _ _ _ hk⟩
  have hltv : ∀ g, v.ownBlock = some g → g < W.heap.size := fun g hgv => by
    rcases hown.2 with ⟨hv, _⟩ | ⟨g', _, _, hv, _, hgg, _⟩
    · rw [hv] at hgv; simp [Value.ownBlock] at hgv
    · rw [hv] at hgv
      simp [Value.ownBlock] at hgv
      subst hgv
      exact lt_of_block hgg
  have hgev : ∀ g, v.ownBlock = some g → base ≤ g := fun g hgv => by
    rcases hown.2 with ⟨hv, _⟩ | ⟨g', _, _, hv, hbg, _, _⟩
    · rw [hv] at hgv; simp [Value.ownBlock] at hgv
    · rw [hv] at hgv
      simp [Value.ownBlock] at hgv
      subst hgv
      exact hbg
  have hown' := hown.kept hg (by cases h : v.ownBlock <;> simp)
  obtain ⟨v', w', hrun, h1, h2, -⟩ := run_append_own (P := Try.prog) (W.alloc (.cells #[.int .i64 y] 3 (0, 0))) base 27 ty 3 i z 1 8 Try.underlying27 hi hz hs hby hzs (by omega) v n xs hown' ⟨W.heap.size, 0, none⟩ 1 1 [.int .i64 y] rfl
    (fun j u hj => by
      obtain rfl : j = 0 := by
        rcases j with _ | j
        · rfl
        · simp at hj
      have := cell_of_row _ W.heap.size 0 _ _ _ (heap_alloc_new W (.cells #[.int .i64 y] 3 (0, 0)))
      simp at hj
      subst hj
      simp [Addr.add])
    (by simp [Value.oneCell']) (by simp [maxLen]; omega) (by omega) (by simp; omega)
  refine ⟨v', w', hrun, h1, ?_⟩
  exact ⟨h2.os, h2.tape, h2.output, Nat.le_trans (by simp) h2.size, fun k hk => (h2.block k (by simp; omega) (fun e => by have := hgev k e.symm; omega)).trans (heap_alloc_low _ _ _ (by omega))⟩

theorem exec_append_one {a : Act} {o : Oper} {W : World} (s x : Operand) (ho : o.op = .call { callee := .builtin .append, args := #[s, x], argTypes := #[27, 27] }) (base n : Nat) (v : Value) (xs : List Value) (y : Int)
    (hs : a.eval s = v) (hx : a.eval x = .slice (some ⟨W.heap.size, 0, none⟩) 1 1) (hown : W.ownsRow base 3 1 v n xs) (hb : base ≤ W.heap.size) (hn : n ≤ 100) :
    ∃ v' w', (execOp a.eval o).run Try.prog (W.alloc (.cells #[.int .i64 y] 3 (0, 0))) = .ok (.value v') w' ∧ w'.ownsRow base 3 1 v' (n + 1) (xs ++ [.int .i64 y]) ∧ Below base W w' := by
  obtain ⟨v', w', hrun, h1, h2⟩ := append_one W base n o.type v xs y hown hb hn
  refine ⟨v', w', ?_, h1, h2⟩
  simp [execOp, ho, resolve, invoke, builtin, hs, hx, hrun, Result.andThen]

theorem wpList_append_one {ops : Array Oper} {rest : List Oper} {o : Oper} {a : Act} {Q : Exit → Act → World → Prop} {W : World} (hgd : o.guard = none) (s x : Operand) (ho : o.op = .call { callee := .builtin .append, args := #[s, x], argTypes := #[27, 27] }) (base n : Nat) (v : Value) (xs : List Value) (y : Int)
    (hs : a.eval s = v) (hx : a.eval x = .slice (some ⟨W.heap.size, 0, none⟩) 1 1) (hown : W.ownsRow base 3 1 v n xs) (hb : base ≤ W.heap.size) (hn : n ≤ 100)
    (h : ∀ v' w', w'.ownsRow base 3 1 v' (n + 1) (xs ++ [.int .i64 y]) → Below base W w' → wpList Try.prog ops Q rest (a.put o.dst v') w') : wpList Try.prog ops Q (o :: rest) a (W.alloc (.cells #[.int .i64 y] 3 (0, 0))) := by
  obtain ⟨v', w', hr, h1, h2⟩ := exec_append_one s x ho base n v xs y hs hx hown hb hn
  refine wpList_plain hgd fun K hK => ?_
  unfold Oper.wp
  rw [hr]
  exact hK _ _ (h v' w' h1 h2)
theorem box4 (w : World) (A B C D : Obj) : ((((w.alloc A).alloc B).alloc C).alloc D).heap[w.heap.size]? = some A ∧ ((((w.alloc A).alloc B).alloc C).alloc D).heap[w.heap.size + 1]? = some B ∧ ((((w.alloc A).alloc B).alloc C).alloc D).heap[w.heap.size + 1 + 1 + 1]? = some D ∧ Below w.heap.size w ((((w.alloc A).alloc B).alloc C).alloc D) := by
  obtain ⟨h0, h1, _⟩ := box3 w A B C
  have h3 := heap_alloc_new (((w.alloc A).alloc B).alloc C) D
  simp only [World.size_alloc] at h3
  exact ⟨by rw [heap_alloc_low _ _ _ (by simp <;> omega)]; exact h0, by rw [heap_alloc_low _ _ _ (by simp <;> omega)]; exact h1, h3, (below3 w A B C).alloc (by simp; omega) D⟩

theorem Tail.append_one {ops : Array Oper} {S : World → Prop} {Q : Exit → Act → World → Prop} {τ : List Nat} {i : Nat} {o : Oper} {a : Act} {W : World} (hoi : ops[i]? = some o) (hw : Region.wanted o (yielded ops a.tmps) = true) (s x : Operand) (ho : o.op = .call { callee := .builtin .append, args := #[s, x], argTypes := #[27, 27] }) (base n : Nat) (v : Value) (xs : List Value) (y : Int)
    (hs : a.eval s = v) (hx : a.eval x = .slice (some ⟨W.heap.size, 0, none⟩) 1 1) (hown : W.ownsRow base 3 1 v n xs) (hb : base ≤ W.heap.size) (hn : n ≤ 100)
    (h : ∀ v' w', w'.ownsRow base 3 1 v' (n + 1) (xs ++ [.int .i64 y]) → Below base W w' → S w' ∧ Tail Try.prog ops S Q τ (a.put o.dst v') w') : Tail Try.prog ops S Q (i :: τ) a (W.alloc (.cells #[.int .i64 y] 3 (0, 0))) := by
  obtain ⟨v', w', hr, h1, h2⟩ := exec_append_one s x ho base n v xs y hs hx hown hb hn
  exact Tail.grows hoi hw hr (h v' w' h1 h2).1 (h v' w' h1 h2).2

theorem ownsRow_mono {w : World} {b b' : Nat} {e : TypeId} {size : Nat} {v : Value} {n : Nat} {xs : List Value} (hb : b ≤ b') (h : w.ownsRow b' e size v n xs) : w.ownsRow b e size v n xs :=
  ⟨h.1, h.2.elim .inl fun ⟨g, cap, cur, h1, h2, h3⟩ => .inr ⟨g, cap, cur, h1, Nat.le_trans hb h2, h3⟩⟩

def dropCh (ps : List Pt) (r : Rl) (fl : Int) (i : Nat) : List Int :=
  [(pt ps i).lo, (pt ps i).hi] ++ (if i = 0 then [] else [fl - r.d + 1]) ++ (if i + 1 < ps.length then [(pt ps (i + 1)).lo + r.d] else [])

set_option maxRecDepth 100000 in
set_option maxHeartbeats 2000000 in
theorem drop_choices (b off cap : Nat) (ps : List Pt) (r : Rl) (fa fl : Int) (i : Nat) (w : World) (F : Sane ps r) (hi : i < ps.length) (hfa : fa = (i : Int) - 1) (hfl : Small fl) (hp : PtsIn w b off ps) :
    Calls Try.prog 94 #[.agg #[.slice (some ⟨b, off, none⟩) ps.length cap, .int .i64 r.d, .int .i64 r.k, .int .i64 r.o], .agg #[.int .i64 fa, .int .i64 fl]] w fun e w' =>
      ∃ v, e = .returned v ∧ w'.ownsRow w.heap.size 3 1 v (dropCh ps r fl i).length ((dropCh ps r fl i).map (Value.int .i64)) ∧ Below w.heap.size w w' := by
  have hlt : b < w.heap.size := block_lt_of_cell (hp 0 F.pos).1
  have hB := below2 w (.cells #[.slice (some ⟨b, off, none⟩) ps.length cap, .int .i64 r.d, .int .i64 r.k, .int .i64 r.o] 94 (0, 0)) (.cells #[.int .i64 fa, .int .i64 fl] 151 (0, 0))
  have p0 := (hB.cell (p := ⟨b, off + i * 3, none⟩) hlt).trans (hp i hi).1
  have p1 := (hB.cell (p := ⟨b, off + i * 3 + 1, none⟩) hlt).trans (hp i hi).2.1
  have p2 := (hB.cell (p := ⟨b, off + i * 3 + 2, none⟩) hlt).trans (hp i hi).2.2
  obtain ⟨b0, b1, b3, hB4⟩ := box4 w (.cells #[.slice (some ⟨b, off, none⟩) ps.length cap, .int .i64 r.d, .int .i64 r.k, .int .i64 r.o] 94 (0, 0)) (.cells #[.int .i64 fa, .int .i64 fl] 151 (0, 0)) (.cells #[.int .i64 (pt ps i).lo, .int .i64 (pt ps i).hi] 51 (0, 0)) (.cells #[.int .i64 (pt ps i).lo, .int .i64 (pt ps i).hi] 3 (0, 0))
  have q0 : Hid (i + 1 < ps.length → _) := Lib.hid fun h => (hB4.cell (p := ⟨b, off + (i + 1) * 3 + 1, none⟩) hlt).trans (hp (i + 1) h).2.1
  have own := Lib.hid (show World.ownsRow _ (w.heap.size + 1 + 1 + 1) 3 1 (.slice (some ⟨w.heap.size + 1 + 1 + 1, 0, none⟩) 2 2) 2 [.int .i64 (pt ps i).lo, .int .i64 (pt ps i).hi] from ⟨rfl, .inr ⟨_, 2, _, rfl, Nat.le_refl _, b3, Nat.le_refl _, by simp [maxLen], rfl, rfl⟩⟩)
  have HB4 := Lib.hid hB4
  have B0 := Lib.hid b0
  have B1 := Lib.hid b1
  clear hB4 b0 b1
  have hlo1 : i + 1 < ps.length → 0 ≤ (pt ps (i + 1)).lo ∧ (pt ps (i + 1)).lo ≤ 100000 := fun h => by have := F.lo (i + 1) h; omega
  have hlen := F.len
  have hd := F.d
  obtain ⟨f1, f2⟩ := hfl
  unfold dropCh
  clear F hp
  have hiI : (i : Int) < ps.length := by omega
  subst hfa
  have hw1 : IntKind.i64.wrap ((i : Int) - 1 + 1) = (i : Int) := by rw [IntWalk.i64_in _ (by omega)]; omega
  generalize r.d = d at *
  generalize r.k = k at *
  generalize r.o = o at *
  generalize (pt ps (i + 1)).lo = lo1 at *
  generalize (pt ps i).lo = lo at *
  generalize (pt ps i).hi = hi' at *
  generalize ps.length = n at *
  have B3 := Lib.hid b3
  clear b3
  by_cases hi0 : i = 0
  · have g1 : (((i : Int) - 1) == -1) = true := by simp; omega
    have g2 : (((i : Int) - 1) != -1) = false := by simp; omega
    have HI0 := Lib.hid hi0
    clear hi0
    by_cases hn1 : i + 1 < n
    · skip
      have hw2 : IntKind.i64.wrap ((i : Int) + 1) = (i : Int) + 1 := IntWalk.i64_in _ (by omega)
      have hp2 : (0 : Int) ≤ (i : Int) + 1 := by omega
      have hl2 : ((i : Int) + 1 < n) := by omega
      have ht2 : ((i : Int) + 1).toNat = i + 1 := by omega
      have hl1 := hlo1 hn1
      have hw3 : IntKind.i64.wrap (lo1 + d) = lo1 + d := IntWalk.i64_in _ (by omega)
      go_enter Try.func94, Try.ntmps94
      go_wp2_with (first
        | (refine Great.wpList_buildSliceTo rfl 27 3 2 _ rfl (w.heap.size + 1 + 1 + 1) (by simp) _ rfl Try.underlying27 #[.int .i64 lo, .int .i64 hi'] (by kernel_rfl) ?_
           generalize World.alloc (World.alloc (World.alloc (World.alloc w _) _) _) _ = W at *
           have HA := B0.out
           have HB := B1.out
           have hNW : w.heap.size + 1 + 1 + 1 < W.heap.size := lt_of_block B3.out
           have c0 := cell_of_row W _ 0 _ _ _ HA
           have c1 := cell_of_row W _ 1 _ _ _ HA
           have e0 := cell_of_row W _ 0 _ _ _ HB
           have e1 := cell_of_row W _ 1 _ _ _ HB
           simp at c0 c1 e0 e1
           clear HA HB)
        | fail)
      have hNV : (w.heap.size + 1 + 1 + 1) ≤ W.heap.size := Nat.le_trans (Nat.le_of_lt hNW) (Below.refl (w.heap.size + 1 + 1 + 1) W).size
      have hbV : b < (w.heap.size + 1 + 1 + 1) := by omega
      have HC : Hid (∀ w1, Below (w.heap.size + 1 + 1 + 1) W w1 → w1.cell? ⟨w.heap.size, 0, none⟩ = some (.slice (some ⟨b, off, none⟩) n cap) ∧ w1.cell? ⟨w.heap.size, 1, none⟩ = some (.int .i64 d) ∧ w1.cell? ⟨b, off + (i + 1) * 3 + 1, none⟩ = some (.int .i64 lo1)) := Lib.hid fun w1 hS => by
        have hS' := (Below.refl (w.heap.size + 1 + 1 + 1) W).trans hS
        have x0 := (hS'.block w.heap.size (by omega)).trans B0.out
        have y0 := cell_of_row w1 _ 0 _ _ _ x0
        have y1 := cell_of_row w1 _ 1 _ _ _ x0
        exact ⟨y0, y1, (hS'.cell (p := ⟨b, off + (i + 1) * 3 + 1, none⟩) hbV).trans (q0.out hn1)⟩
      refine wp_region_noPanic ?_
      refine wp_region_chain (fun w1 => Below (w.heap.size + 1 + 1 + 1) W w1) (fun w1 w2 h hb => h.trans (hb.mono (Nat.le_trans hNV h.size))) ((below_drawn _).mono hNV) (by kernel_rfl) (fun _ _ _ _ _ h => h)
        [(false, 0), (false, 1), (false, 2), (false, 3), (false, 4), (false, 5), (false, 6), (false, 7), (false, 8), (false, 9), (false, 10), (false, 11), (false, 12), (false, 13)] [14, 15, 16] (by kernel_rfl) ?_
      iterate 14
        (refine Walk.takes rfl rfl ?_; apply Exists.intro; refine ⟨fun w1 hS => ?_, ?_⟩; (obtain ⟨d0, d1, d2⟩ := HC.out w1 hS; go_simp; with_reducible rfl); simp only [List.getElem_toArray, List.getElem_cons_succ, List.getElem_cons_zero, Act.put, List.setIfInBounds_toArray, List.set_cons_zero, List.set_cons_succ])
      refine Walk.fin ?_
      rintro w4 hb4 hS4
      have hb5 : Below W.heap.size W w4 := (below_drawn W).trans hb4
      have own4 := own.out.kept (w' := w4) (row := none) ⟨hb5.os, hb5.tape, hb5.output, hb5.size, fun k hk _ => hb5.block k hk⟩ (Classical.em _)
      have hN4 := Nat.le_trans hNV hS4.size
      have hS6 : Below (w.heap.size + 1 + 1 + 1) W (w4.alloc (.cells #[.int .i64 (lo1 + d)] 3 (0, 0))) := hS4.alloc hN4 _
      refine Tail.grows rfl rfl (exec_buildSlice 27 3 1 _ rfl Try.underlying27 #[.int .i64 (lo1 + d)] (by kernel_rfl)) hS6 ?_
      simp only [List.getElem_toArray, List.getElem_cons_succ, List.getElem_cons_zero, Act.put, List.setIfInBounds_toArray, List.set_cons_zero, List.set_cons_succ]
      refine Tail.append_one rfl rfl (.tmp 43) (.tmp 57) rfl (w.heap.size + 1 + 1 + 1) 2 _ _ (lo1 + d) rfl rfl own4 hN4 (by omega) ?_
      rintro v5 w5 own5 hb6
      refine ⟨hS4.trans hb6, ?_⟩
      simp only [List.getElem_toArray, List.getElem_cons_succ, List.getElem_cons_zero, Act.put, List.setIfInBounds_toArray, List.set_cons_zero, List.set_cons_succ]
      refine Tail.value rfl rfl rfl (Tail.done (NoPanic.normal ?_))
      simp only [List.getElem_toArray, List.getElem_cons_succ, List.getElem_cons_zero, Act.put, List.setIfInBounds_toArray, List.set_cons_zero, List.set_cons_succ]
      have hW5 := Lib.hid ((Below.refl (w.heap.size + 1 + 1 + 1) W).trans (hS4.trans hb6))
      have O5 := Lib.hid own5
      clear hb6 own5 own4 hS6 hS4 hb4 hb5
      go_wp2
      go_ret
      refine ⟨_, rfl, ?_, HB4.out.trans (hW5.out.mono (by omega))⟩
      have := ownsRow_mono (show w.heap.size ≤ (w.heap.size + 1 + 1 + 1) by omega) O5.out
      have hi0 := HI0.out
      have hn1' : 1 < n := by omega
      subst hi0
      simpa [hn1, hn1'] using this
    · skip
      have hw2 : IntKind.i64.wrap ((i : Int) + 1) = (i : Int) + 1 := IntWalk.i64_in _ (by omega)
      have hp2 : (0 : Int) ≤ (i : Int) + 1 := by omega
      have hl2 : ¬ ((i : Int) + 1 < n) := by omega
      have ht2 : ((i : Int) + 1).toNat = i + 1 := by omega
      go_enter Try.func94, Try.ntmps94
      go_wp2_with (first
        | (refine Great.wpList_buildSliceTo rfl 27 3 2 _ rfl (w.heap.size + 1 + 1 + 1) (by simp) _ rfl Try.underlying27 #[.int .i64 lo, .int .i64 hi'] (by kernel_rfl) ?_
           generalize World.alloc (World.alloc (World.alloc (World.alloc w _) _) _) _ = W at *
           have HA := B0.out
           have HB := B1.out
           have hNW : w.heap.size + 1 + 1 + 1 < W.heap.size := lt_of_block B3.out
           have c0 := cell_of_row W _ 0 _ _ _ HA
           have c1 := cell_of_row W _ 1 _ _ _ HA
           have e0 := cell_of_row W _ 0 _ _ _ HB
           have e1 := cell_of_row W _ 1 _ _ _ HB
           simp at c0 c1 e0 e1
           clear HA HB)
        | fail)
      have hW5 := Lib.hid (Below.refl (w.heap.size + 1 + 1 + 1) W)
      go_ret
      refine ⟨_, rfl, ?_, HB4.out.trans (hW5.out.mono (by omega))⟩
      have := ownsRow_mono (show w.heap.size ≤ (w.heap.size + 1 + 1 + 1) by omega) own.out
      have hi0 := HI0.out
      have hn1' : ¬ 1 < n := by omega
      subst hi0
      simpa [hn1, hn1'] using this
  · have g1 : (((i : Int) - 1) == -1) = false := by simp; omega
    have g2 : (((i : Int) - 1) != -1) = true := by simp; omega
    by_cases hn1 : i + 1 < n
    · skip
      have hw2 : IntKind.i64.wrap ((i : Int) + 1) = (i : Int) + 1 := IntWalk.i64_in _ (by omega)
      have hp2 : (0 : Int) ≤ (i : Int) + 1 := by omega
      have hl2 : ((i : Int) + 1 < n) := by omega
      have ht2 : ((i : Int) + 1).toNat = i + 1 := by omega
      have hl1 := hlo1 hn1
      have hw3 : IntKind.i64.wrap (lo1 + d) = lo1 + d := IntWalk.i64_in _ (by omega)
      go_enter Try.func94, Try.ntmps94
      go_wp2_with (first
        | (refine Great.wpList_buildSliceTo rfl 27 3 2 _ rfl (w.heap.size + 1 + 1 + 1) (by simp) _ rfl Try.underlying27 #[.int .i64 lo, .int .i64 hi'] (by kernel_rfl) ?_
           generalize World.alloc (World.alloc (World.alloc (World.alloc w _) _) _) _ = W at *
           have HA := B0.out
           have HB := B1.out
           have hNW : w.heap.size + 1 + 1 + 1 < W.heap.size := lt_of_block B3.out
           have c0 := cell_of_row W _ 0 _ _ _ HA
           have c1 := cell_of_row W _ 1 _ _ _ HA
           have e0 := cell_of_row W _ 0 _ _ _ HB
           have e1 := cell_of_row W _ 1 _ _ _ HB
           simp at c0 c1 e0 e1
           clear HA HB)
        | (refine Great.wpList_buildSliceTo rfl 27 3 1 _ rfl _ rfl _ rfl Try.underlying27 #[.int .i64 (fl - d + 1)] (by kernel_rfl) ?_)
        | (refine wpList_append_one rfl (.tmp 26) (.tmp 34) rfl (w.heap.size + 1 + 1 + 1) 2 _ _ (fl - d + 1) rfl rfl (by exact own.out) (Nat.le_of_lt hNW) (by omega) ?_
           intro v' w' hv' hbw'
           have own' := Lib.hid hv'
           have HBw' := Lib.hid hbw'
           have HA' := (hbw'.block w.heap.size (by omega)).trans B0.out
           have HB' := (hbw'.block (w.heap.size + 1) (by omega)).trans B1.out
           clear c0 c1 e0 e1 hv' hbw'
           have c0' := cell_of_row w' _ 0 _ _ _ HA'
           have c1' := cell_of_row w' _ 1 _ _ _ HA'
           have e0' := cell_of_row w' _ 0 _ _ _ HB'
           have e1' := cell_of_row w' _ 1 _ _ _ HB'
           simp at c0' c1' e0' e1'
           clear HA' HB')
        | fail)
      have hNV : (w.heap.size + 1 + 1 + 1) ≤ w'.heap.size := Nat.le_trans (Nat.le_of_lt hNW) HBw'.out.size
      have hbV : b < (w.heap.size + 1 + 1 + 1) := by omega
      have HC : Hid (∀ w1, Below (w.heap.size + 1 + 1 + 1) w' w1 → w1.cell? ⟨w.heap.size, 0, none⟩ = some (.slice (some ⟨b, off, none⟩) n cap) ∧ w1.cell? ⟨w.heap.size, 1, none⟩ = some (.int .i64 d) ∧ w1.cell? ⟨b, off + (i + 1) * 3 + 1, none⟩ = some (.int .i64 lo1)) := Lib.hid fun w1 hS => by
        have hS' := HBw'.out.trans hS
        have x0 := (hS'.block w.heap.size (by omega)).trans B0.out
        have y0 := cell_of_row w1 _ 0 _ _ _ x0
        have y1 := cell_of_row w1 _ 1 _ _ _ x0
        exact ⟨y0, y1, (hS'.cell (p := ⟨b, off + (i + 1) * 3 + 1, none⟩) hbV).trans (q0.out hn1)⟩
      refine wp_region_noPanic ?_
      refine wp_region_chain (fun w1 => Below (w.heap.size + 1 + 1 + 1) w' w1) (fun w1 w2 h hb => h.trans (hb.mono (Nat.le_trans hNV h.size))) ((below_drawn _).mono hNV) (by kernel_rfl) (fun _ _ _ _ _ h => h)
        [(false, 0), (false, 1), (false, 2), (false, 3), (false, 4), (false, 5), (false, 6), (false, 7), (false, 8), (false, 9), (false, 10), (false, 11), (false, 12), (false, 13)] [14, 15, 16] (by kernel_rfl) ?_
      iterate 14
        (refine Walk.takes rfl rfl ?_; apply Exists.intro; refine ⟨fun w1 hS => ?_, ?_⟩; (obtain ⟨d0, d1, d2⟩ := HC.out w1 hS; go_simp; with_reducible rfl); simp only [List.getElem_toArray, List.getElem_cons_succ, List.getElem_cons_zero, Act.put, List.setIfInBounds_toArray, List.set_cons_zero, List.set_cons_succ])
      refine Walk.fin ?_
      rintro w4 hb4 hS4
      have hb5 : Below w'.heap.size w' w4 := (below_drawn w').trans hb4
      have own4 := own'.out.kept (w' := w4) (row := none) ⟨hb5.os, hb5.tape, hb5.output, hb5.size, fun k hk _ => hb5.block k hk⟩ (Classical.em _)
      have hN4 := Nat.le_trans hNV hS4.size
      have hS6 : Below (w.heap.size + 1 + 1 + 1) w' (w4.alloc (.cells #[.int .i64 (lo1 + d)] 3 (0, 0))) := hS4.alloc hN4 _
      refine Tail.grows rfl rfl (exec_buildSlice 27 3 1 _ rfl Try.underlying27 #[.int .i64 (lo1 + d)] (by kernel_rfl)) hS6 ?_
      simp only [List.getElem_toArray, List.getElem_cons_succ, List.getElem_cons_zero, Act.put, List.setIfInBounds_toArray, List.set_cons_zero, List.set_cons_succ]
      refine Tail.append_one rfl rfl (.tmp 43) (.tmp 57) rfl (w.heap.size + 1 + 1 + 1) 3 _ _ (lo1 + d) rfl rfl own4 hN4 (by omega) ?_
      rintro v5 w5 own5 hb6
      refine ⟨hS4.trans hb6, ?_⟩
      simp only [List.getElem_toArray, List.getElem_cons_succ, List.getElem_cons_zero, Act.put, List.setIfInBounds_toArray, List.set_cons_zero, List.set_cons_succ]
      refine Tail.value rfl rfl rfl (Tail.done (NoPanic.normal ?_))
      simp only [List.getElem_toArray, List.getElem_cons_succ, List.getElem_cons_zero, Act.put, List.setIfInBounds_toArray, List.set_cons_zero, List.set_cons_succ]
      have hW5 := Lib.hid (HBw'.out.trans (hS4.trans hb6))
      have O5 := Lib.hid own5
      clear hb6 own5 own4 hS6 hS4 hb4 hb5
      go_wp2
      go_ret
      refine ⟨_, rfl, ?_, HB4.out.trans (hW5.out.mono (by omega))⟩
      have := ownsRow_mono (show w.heap.size ≤ (w.heap.size + 1 + 1 + 1) by omega) O5.out
      simpa [hi0, hn1] using this
    · skip
      have hw2 : IntKind.i64.wrap ((i : Int) + 1) = (i : Int) + 1 := IntWalk.i64_in _ (by omega)
      have hp2 : (0 : Int) ≤ (i : Int) + 1 := by omega
      have hl2 : ¬ ((i : Int) + 1 < n) := by omega
      have ht2 : ((i : Int) + 1).toNat = i + 1 := by omega
      go_enter Try.func94, Try.ntmps94
      go_wp2_with (first
        | (refine Great.wpList_buildSliceTo rfl 27 3 2 _ rfl (w.heap.size + 1 + 1 + 1) (by simp) _ rfl Try.underlying27 #[.int .i64 lo, .int .i64 hi'] (by kernel_rfl) ?_
           generalize World.alloc (World.alloc (World.alloc (World.alloc w _) _) _) _ = W at *
           have HA := B0.out
           have HB := B1.out
           have hNW : w.heap.size + 1 + 1 + 1 < W.heap.size := lt_of_block B3.out
           have c0 := cell_of_row W _ 0 _ _ _ HA
           have c1 := cell_of_row W _ 1 _ _ _ HA
           have e0 := cell_of_row W _ 0 _ _ _ HB
           have e1 := cell_of_row W _ 1 _ _ _ HB
           simp at c0 c1 e0 e1
           clear HA HB)
        | (refine Great.wpList_buildSliceTo rfl 27 3 1 _ rfl _ rfl _ rfl Try.underlying27 #[.int .i64 (fl - d + 1)] (by kernel_rfl) ?_)
        | (refine wpList_append_one rfl (.tmp 26) (.tmp 34) rfl (w.heap.size + 1 + 1 + 1) 2 _ _ (fl - d + 1) rfl rfl (by exact own.out) (Nat.le_of_lt hNW) (by omega) ?_
           intro v' w' hv' hbw'
           have own' := Lib.hid hv'
           have HBw' := Lib.hid hbw'
           have HA' := (hbw'.block w.heap.size (by omega)).trans B0.out
           have HB' := (hbw'.block (w.heap.size + 1) (by omega)).trans B1.out
           clear c0 c1 e0 e1 hv' hbw'
           have c0' := cell_of_row w' _ 0 _ _ _ HA'
           have c1' := cell_of_row w' _ 1 _ _ _ HA'
           have e0' := cell_of_row w' _ 0 _ _ _ HB'
           have e1' := cell_of_row w' _ 1 _ _ _ HB'
           simp at c0' c1' e0' e1'
           clear HA' HB')
        | fail)
      have hW5 := Lib.hid HBw'.out
      go_ret
      refine ⟨_, rfl, ?_, HB4.out.trans (hW5.out.mono (by omega))⟩
      have := ownsRow_mono (show w.heap.size ≤ (w.heap.size + 1 + 1 + 1) by omega) own'.out
      simpa [hi0, hn1] using this

end Go.Proofs.Ytfjlnejeffkdoaa
