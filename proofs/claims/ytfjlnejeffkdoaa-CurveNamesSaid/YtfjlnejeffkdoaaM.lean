/- The four numbers that are read, and the tables: contracts. -/
import Derived.Test.YtfjlnejeffkdoaaL
import Derived.Laws.EntriesVeiled
namespace Go.Proofs.Ytfjlnejeffkdoaa
open Go.RowKit
attribute [local irreducible] arrV

set_option maxHeartbeats 400000 in
theorem f_strength (v0 v1 v2 v3 v4 v5 v6 : Int) (w : World) :
    Calls Try.prog 78 #[.agg #[.int .i64 v0, .int .i64 v1, .int .i64 v2, .int .i64 v3, .int .i64 v4, .int .i64 v5, .int .i64 v6]] w fun e w' => e = .returned (.tuple #[.int .i64 v1, .int .i64 v0]) ∧ Below w.heap.size w w' := by
  have hB := box_below w (.cells #[.int .i64 v0, .int .i64 v1, .int .i64 v2, .int .i64 v3, .int .i64 v4, .int .i64 v5, .int .i64 v6] 37)
  have hc := box_cell w #[.int .i64 v0, .int .i64 v1, .int .i64 v2, .int .i64 v3, .int .i64 v4, .int .i64 v5, .int .i64 v6] 37
  have ca := hc 1
  have cb := hc 0
  clear hc
  go_enter Try.func78, Try.ntmps78
  go_wp2
  generalize World.alloc w _ = W at *
  simp at ca cb
  go_quiet (fail)
  go_wp2
  go_ret2
  exact ⟨rfl, below_dN hB⟩

set_option maxHeartbeats 400000 in
theorem f_yield (v0 v1 v2 v3 v4 v5 v6 : Int) (w : World) :
    Calls Try.prog 80 #[.agg #[.int .i64 v0, .int .i64 v1, .int .i64 v2, .int .i64 v3, .int .i64 v4, .int .i64 v5, .int .i64 v6]] w fun e w' => e = .returned (.tuple #[.int .i64 v2, .int .i64 v3]) ∧ Below w.heap.size w w' := by
  have hB := box_below w (.cells #[.int .i64 v0, .int .i64 v1, .int .i64 v2, .int .i64 v3, .int .i64 v4, .int .i64 v5, .int .i64 v6] 37)
  have hc := box_cell w #[.int .i64 v0, .int .i64 v1, .int .i64 v2, .int .i64 v3, .int .i64 v4, .int .i64 v5, .int .i64 v6] 37
  have ca := hc 2
  have cb := hc 3
  clear hc
  go_enter Try.func80, Try.ntmps80
  go_wp2
  generalize World.alloc w _ = W at *
  simp at ca cb
  go_quiet (fail)
  go_wp2
  go_ret2
  exact ⟨rfl, below_dN hB⟩

set_option maxHeartbeats 400000 in
theorem f_proof (v0 v1 v2 v3 v4 v5 v6 : Int) (w : World) :
    Calls Try.prog 82 #[.agg #[.int .i64 v0, .int .i64 v1, .int .i64 v2, .int .i64 v3, .int .i64 v4, .int .i64 v5, .int .i64 v6]] w fun e w' => e = .returned (.tuple #[.int .i64 v4, .int .i64 v5]) ∧ Below w.heap.size w w' := by
  have hB := box_below w (.cells #[.int .i64 v0, .int .i64 v1, .int .i64 v2, .int .i64 v3, .int .i64 v4, .int .i64 v5, .int .i64 v6] 37)
  have hc := box_cell w #[.int .i64 v0, .int .i64 v1, .int .i64 v2, .int .i64 v3, .int .i64 v4, .int .i64 v5, .int .i64 v6] 37
  have ca := hc 4
  have cb := hc 5
  clear hc
  go_enter Try.func82, Try.ntmps82
  go_wp2
  generalize World.alloc w _ = W at *
  simp at ca cb
  go_quiet (fail)
  go_wp2
  go_ret2
  exact ⟨rfl, below_dN hB⟩

set_option maxHeartbeats 400000 in
theorem f_work (v0 v1 v2 v3 v4 v5 v6 : Int) (w : World) :
    Calls Try.prog 84 #[.agg #[.int .i64 v0, .int .i64 v1, .int .i64 v2, .int .i64 v3, .int .i64 v4, .int .i64 v5, .int .i64 v6]] w fun e w' => e = .returned (.tuple #[.int .i64 0, .int .i64 v6]) ∧ Below w.heap.size w w' := by
  have hB := box_below w (.cells #[.int .i64 v0, .int .i64 v1, .int .i64 v2, .int .i64 v3, .int .i64 v4, .int .i64 v5, .int .i64 v6] 37)
  have hc := box_cell w #[.int .i64 v0, .int .i64 v1, .int .i64 v2, .int .i64 v3, .int .i64 v4, .int .i64 v5, .int .i64 v6] 37
  have ca := hc 0
  have cb := hc 6
  clear hc
  go_enter Try.func84, Try.ntmps84
  go_wp2
  generalize World.alloc w _ = W at *
  simp at ca cb
  go_quiet (fail)
  go_wp2
  go_ret2
  exact ⟨rfl, below_dN hB⟩

def fnV (n : Nat) : Value := .func (.func n) #[] #[]
/-- What a kind names: the functions of its quantity. -/
def qty : Nat → Nat × Nat
  | 0 => (77, 78)
  | 1 => (79, 80)
  | 2 => (81, 82)
  | _ => (83, 84)

set_option maxHeartbeats 400000 in
theorem qty0 (w : World) : Calls Try.prog 57 #[.int .u8 0] w fun e w' => e = .returned (.tuple #[.agg #[.func (.func 77) #[] #[], .func (.func 78) #[] #[]], .bool true]) ∧ Below w.heap.size w w' := by
  go_enter Try.func57, Try.ntmps57
  go_wp2
  refine bodyPost_ret (v := .tuple #[.agg #[.func (.func 77) #[] #[], .func (.func 78) #[] #[]], .bool true]) (by simp [results, Try.results57, go_sem]) rfl ⟨rfl, ?_⟩
  first | exact box_below _ _ | (refine Below.setCell (Below.setCell (box_below _ _) ?_ _) ?_ _ <;> simp)

set_option maxHeartbeats 400000 in
theorem qty1 (w : World) : Calls Try.prog 57 #[.int .u8 1] w fun e w' => e = .returned (.tuple #[.agg #[.func (.func 79) #[] #[], .func (.func 80) #[] #[]], .bool true]) ∧ Below w.heap.size w w' := by
  go_enter Try.func57, Try.ntmps57
  go_wp2
  refine bodyPost_ret (v := .tuple #[.agg #[.func (.func 79) #[] #[], .func (.func 80) #[] #[]], .bool true]) (by simp [results, Try.results57, go_sem]) rfl ⟨rfl, ?_⟩
  first | exact box_below _ _ | (refine Below.setCell (Below.setCell (box_below _ _) ?_ _) ?_ _ <;> simp)

set_option maxHeartbeats 400000 in
theorem qty2 (w : World) : Calls Try.prog 57 #[.int .u8 2] w fun e w' => e = .returned (.tuple #[.agg #[.func (.func 81) #[] #[], .func (.func 82) #[] #[]], .bool true]) ∧ Below w.heap.size w w' := by
  go_enter Try.func57, Try.ntmps57
  go_wp2
  refine bodyPost_ret (v := .tuple #[.agg #[.func (.func 81) #[] #[], .func (.func 82) #[] #[]], .bool true]) (by simp [results, Try.results57, go_sem]) rfl ⟨rfl, ?_⟩
  first | exact box_below _ _ | (refine Below.setCell (Below.setCell (box_below _ _) ?_ _) ?_ _ <;> simp)

set_option maxHeartbeats 400000 in
theorem qty3 (w : World) : Calls Try.prog 57 #[.int .u8 3] w fun e w' => e = .returned (.tuple #[.agg #[.func (.func 83) #[] #[], .func (.func 84) #[] #[]], .bool true]) ∧ Below w.heap.size w w' := by
  go_enter Try.func57, Try.ntmps57
  go_wp2
  refine bodyPost_ret (v := .tuple #[.agg #[.func (.func 83) #[] #[], .func (.func 84) #[] #[]], .bool true]) (by simp [results, Try.results57, go_sem]) rfl ⟨rfl, ?_⟩
  first | exact box_below _ _ | (refine Below.setCell (Below.setCell (box_below _ _) ?_ _) ?_ _ <;> simp)

set_option maxHeartbeats 400000 in
theorem qty_no (k : Int) (hk : 4 ≤ k) (w : World) : Calls Try.prog 57 #[.int .u8 k] w fun e w' => e = .returned (.tuple #[.agg #[.nilFunc, .nilFunc], .bool false]) ∧ Below w.heap.size w w' := by
  have h0 : (k == 0) = false := by rw [beq_eq_false_iff_ne]; omega
  have h1 : (k == 1) = false := by rw [beq_eq_false_iff_ne]; omega
  have h2 : (k == 2) = false := by rw [beq_eq_false_iff_ne]; omega
  have h3 : (k == 3) = false := by rw [beq_eq_false_iff_ne]; omega
  go_enter Try.func57, Try.ntmps57
  go_wp2
  refine bodyPost_ret (v := .tuple #[.agg #[.nilFunc, .nilFunc], .bool false]) (by simp [results, Try.results57, go_sem]) rfl ⟨rfl, ?_⟩
  first | exact box_below _ _ | (refine Below.setCell (Below.setCell (box_below _ _) ?_ _) ?_ _ <;> simp)

set_option maxHeartbeats 400000 in
theorem raised_fn (v d k o : Value) (w : World) : Calls Try.prog 77 #[.agg #[v, d, k, o]] w fun e w' => e = .returned (.func (.func 91) #[] #[.pointer (some ⟨w.heap.size, 0, none⟩)]) ∧ w' = w.alloc (.cells #[v, d, k, o] 94) := by
  go_enter Try.func77, Try.ntmps77
  go_wp2
  go_ret
  exact ⟨rfl, rfl⟩

set_option maxHeartbeats 400000 in
theorem ends_fn (v d k o : Value) (w : World) : Calls Try.prog 83 #[.agg #[v, d, k, o]] w fun e w' => e = .returned (.func (.func 98) #[] #[.pointer (some ⟨w.heap.size, 0, none⟩)]) ∧ w' = w.alloc (.cells #[v, d, k, o] 94) := by
  go_enter Try.func83, Try.ntmps83
  go_wp2
  go_ret
  exact ⟨rfl, rfl⟩

set_option maxHeartbeats 400000 in
theorem search_fn (v d k o c h : Value) (w : World) : Calls Try.prog 93 #[.agg #[v, d, k, o], .agg #[c, h]] w fun e w' => e = .returned (.func (.func 100) #[] #[.pointer (some ⟨w.heap.size, 0, none⟩), .pointer (some ⟨w.heap.size + 1, 0, none⟩)]) ∧ w' = (w.alloc (.cells #[v, d, k, o] 94)).alloc (.cells #[c, h] 149) := by
  go_enter Try.func93, Try.ntmps93
  go_wp2
  go_ret
  exact ⟨rfl, rfl⟩
set_option maxHeartbeats 400000 in
theorem numbers_fn (v d k o f g : Value) (w : World) : Calls Try.prog 76 #[.agg #[v, d, k, o], .agg #[f, g]] w fun e w' => e = .returned (.func (.func 90) #[] #[.pointer (some ⟨w.heap.size + 1, 0, none⟩), .pointer (some ⟨w.heap.size, 0, none⟩)]) ∧ w' = (w.alloc (.cells #[v, d, k, o] 94)).alloc (.cells #[f, g] 105) := by
  go_enter Try.func76, Try.ntmps76
  go_wp2
  go_ret
  exact ⟨rfl, rfl⟩
set_option maxHeartbeats 400000 in
theorem points_fn (v d k o f g : Value) (w : World) : Calls Try.prog 59 #[.agg #[v, d, k, o], .agg #[f, g]] w fun e w' => e = .returned (.func (.func 86) #[] #[.pointer (some ⟨w.heap.size, 0, none⟩), .pointer (some ⟨w.heap.size + 1, 0, none⟩)]) ∧ w' = (w.alloc (.cells #[v, d, k, o] 94)).alloc (.cells #[f, g] 105) := by
  go_enter Try.func59, Try.ntmps59
  go_wp2
  go_ret
  exact ⟨rfl, rfl⟩
set_option maxHeartbeats 400000 in
theorem bounds_fn (w : World) : Calls Try.prog 75 #[] w fun e w' => e = .returned (.func (.func 89) #[] #[.pointer (some ⟨w.heap.size + 1, 0, none⟩), .pointer (some ⟨w.heap.size, 0, none⟩)]) ∧ w' = (w.alloc (.cells #[.int .i64 0, .int .i64 0] 51)).alloc (.cells #[.bool false] 4) := by
  go_enter Try.func75, Try.ntmps75
  go_wp2
  go_ret
  exact ⟨rfl, by simp [go_sem]⟩
end Go.Proofs.Ytfjlnejeffkdoaa
