/- The round of the examples, in memory: contract. No condition. -/
import Derived.Test.YtpdkgnfblnblbaaLE
import Derived.Test.YtpdkgnfblnblbaaRD
namespace Go.Proofs.Ytpdkgnfblnblbaa
open Go.RowKit Go.Shelf
attribute [local irreducible] arrV wpQuiet
theorem allocs_old (l : List Obj) : ∀ (w : World) (k : Nat), k < w.heap.size → (l.foldl World.alloc w).heap[k]? = w.heap[k]? := by
  induction l with
  | nil => intro w k _; rfl
  | cons o l ih =>
    intro w k hk
    rw [List.foldl_cons, ih _ _ (by simp; omega)]
    exact (box_below w o).block k hk
theorem allocs_get (l : List Obj) : ∀ (w : World) (i : Nat), i < l.length → (l.foldl World.alloc w).heap[w.heap.size + i]? = l[i]? := by
  induction l with
  | nil => intro w i hi; simp at hi
  | cons o l ih =>
    intro w i hi
    rw [List.foldl_cons]
    cases i with
    | zero =>
      rw [Nat.add_zero, allocs_old _ _ _ (by simp)]
      exact heap_alloc_new w o
    | succ i =>
      have h := ih (w.alloc o) i (by simpa using hi)
      rw [World.size_alloc] at h
      rw [show w.heap.size + (i + 1) = w.heap.size + 1 + i by omega, h]
      rfl
theorem allocs_below (l : List Obj) : ∀ (w : World), Below w.heap.size w (l.foldl World.alloc w) := by
  induction l with
  | nil => intro w; exact Below.refl _ _
  | cons o l ih => intro w; exact below_to (box_below w o) (ih _)
/-- The round of the document's examples. -/
def trialR : Rd := ⟨[⟨100, 140⟩, ⟨200, 260⟩], [0, 0, 1], 2, [⟨3, [120, 122, 230]⟩, ⟨3, [124, 121, 234]⟩, ⟨2, [131, 133, 240]⟩, ⟨5, [-1, 118, 229]⟩]⟩

set_option maxRecDepth 100000 in
set_option maxHeartbeats 4000000 in
theorem trial_any (w : World) :
    Calls Try.prog 37 #[] w fun e w' => (∃ q : Rp, e = .returned (rdV q trialR) ∧ RdV w'.heap.size w' q trialR ∧ trialR.labs.length ≤ q.bc) ∧ Below w.heap.size w w' := by
  have HG := Lib.hid fun i hi => allocs_get [(.cells #[.slice none 0 0, .slice none 0 0, .int .i64 0, .slice none 0 0] 34 : Obj), .cells #[.int .i64 100, .int .i64 140, .int .i64 200, .int .i64 260] 46, .cells #[.int .i64 0, .int .i64 0, .int .i64 1] 3, .cells #[.int .i64 120, .int .i64 122, .int .i64 230] 3, .cells #[.int .i64 124, .int .i64 121, .int .i64 234] 3, .cells #[.int .i64 131, .int .i64 133, .int .i64 240] 3, .cells #[.int .i64 (-1), .int .i64 118, .int .i64 229] 3, .cells #[.int .i64 3, .slice (some ⟨w.heap.size + 1 + 1 + 1, 0, none⟩) 3 3, .int .i64 3, .slice (some ⟨w.heap.size + 1 + 1 + 1 + 1, 0, none⟩) 3 3, .int .i64 2, .slice (some ⟨w.heap.size + 1 + 1 + 1 + 1 + 1, 0, none⟩) 3 3, .int .i64 5, .slice (some ⟨w.heap.size + 1 + 1 + 1 + 1 + 1 + 1, 0, none⟩) 3 3] 60] w i hi
  have HB : Hid (Below w.heap.size w ((((((((w.alloc (.cells #[.slice none 0 0, .slice none 0 0, .int .i64 0, .slice none 0 0] 34)).alloc (.cells #[.int .i64 100, .int .i64 140, .int .i64 200, .int .i64 260] 46)).alloc (.cells #[.int .i64 0, .int .i64 0, .int .i64 1] 3)).alloc (.cells #[.int .i64 120, .int .i64 122, .int .i64 230] 3)).alloc (.cells #[.int .i64 124, .int .i64 121, .int .i64 234] 3)).alloc (.cells #[.int .i64 131, .int .i64 133, .int .i64 240] 3)).alloc (.cells #[.int .i64 (-1), .int .i64 118, .int .i64 229] 3)).alloc (.cells #[.int .i64 3, .slice (some ⟨w.heap.size + 1 + 1 + 1, 0, none⟩) 3 3, .int .i64 3, .slice (some ⟨w.heap.size + 1 + 1 + 1 + 1, 0, none⟩) 3 3, .int .i64 2, .slice (some ⟨w.heap.size + 1 + 1 + 1 + 1 + 1, 0, none⟩) 3 3, .int .i64 5, .slice (some ⟨w.heap.size + 1 + 1 + 1 + 1 + 1 + 1, 0, none⟩) 3 3] 60))) := Lib.hid (allocs_below [(.cells #[.slice none 0 0, .slice none 0 0, .int .i64 0, .slice none 0 0] 34 : Obj), .cells #[.int .i64 100, .int .i64 140, .int .i64 200, .int .i64 260] 46, .cells #[.int .i64 0, .int .i64 0, .int .i64 1] 3, .cells #[.int .i64 120, .int .i64 122, .int .i64 230] 3, .cells #[.int .i64 124, .int .i64 121, .int .i64 234] 3, .cells #[.int .i64 131, .int .i64 133, .int .i64 240] 3, .cells #[.int .i64 (-1), .int .i64 118, .int .i64 229] 3, .cells #[.int .i64 3, .slice (some ⟨w.heap.size + 1 + 1 + 1, 0, none⟩) 3 3, .int .i64 3, .slice (some ⟨w.heap.size + 1 + 1 + 1 + 1, 0, none⟩) 3 3, .int .i64 2, .slice (some ⟨w.heap.size + 1 + 1 + 1 + 1 + 1, 0, none⟩) 3 3, .int .i64 5, .slice (some ⟨w.heap.size + 1 + 1 + 1 + 1 + 1 + 1, 0, none⟩) 3 3] 60] w)
  have h0 : (((((((((w.alloc (.cells #[.slice none 0 0, .slice none 0 0, .int .i64 0, .slice none 0 0] 34)).alloc (.cells #[.int .i64 100, .int .i64 140, .int .i64 200, .int .i64 260] 46)).alloc (.cells #[.int .i64 0, .int .i64 0, .int .i64 1] 3)).alloc (.cells #[.int .i64 120, .int .i64 122, .int .i64 230] 3)).alloc (.cells #[.int .i64 124, .int .i64 121, .int .i64 234] 3)).alloc (.cells #[.int .i64 131, .int .i64 133, .int .i64 240] 3)).alloc (.cells #[.int .i64 (-1), .int .i64 118, .int .i64 229] 3)).alloc (.cells #[.int .i64 3, .slice (some ⟨w.heap.size + 1 + 1 + 1, 0, none⟩) 3 3, .int .i64 3, .slice (some ⟨w.heap.size + 1 + 1 + 1 + 1, 0, none⟩) 3 3, .int .i64 2, .slice (some ⟨w.heap.size + 1 + 1 + 1 + 1 + 1, 0, none⟩) 3 3, .int .i64 5, .slice (some ⟨w.heap.size + 1 + 1 + 1 + 1 + 1 + 1, 0, none⟩) 3 3] 60))).heap[w.heap.size]? = some (.cells #[.slice none 0 0, .slice none 0 0, .int .i64 0, .slice none 0 0] 34) := HG.out 0 (show (0 : Nat) < 8 by decide)
  have h1 : (((((((((w.alloc (.cells #[.slice none 0 0, .slice none 0 0, .int .i64 0, .slice none 0 0] 34)).alloc (.cells #[.int .i64 100, .int .i64 140, .int .i64 200, .int .i64 260] 46)).alloc (.cells #[.int .i64 0, .int .i64 0, .int .i64 1] 3)).alloc (.cells #[.int .i64 120, .int .i64 122, .int .i64 230] 3)).alloc (.cells #[.int .i64 124, .int .i64 121, .int .i64 234] 3)).alloc (.cells #[.int .i64 131, .int .i64 133, .int .i64 240] 3)).alloc (.cells #[.int .i64 (-1), .int .i64 118, .int .i64 229] 3)).alloc (.cells #[.int .i64 3, .slice (some ⟨w.heap.size + 1 + 1 + 1, 0, none⟩) 3 3, .int .i64 3, .slice (some ⟨w.heap.size + 1 + 1 + 1 + 1, 0, none⟩) 3 3, .int .i64 2, .slice (some ⟨w.heap.size + 1 + 1 + 1 + 1 + 1, 0, none⟩) 3 3, .int .i64 5, .slice (some ⟨w.heap.size + 1 + 1 + 1 + 1 + 1 + 1, 0, none⟩) 3 3] 60))).heap[w.heap.size + 1]? = some (.cells #[.int .i64 100, .int .i64 140, .int .i64 200, .int .i64 260] 46) := HG.out 1 (show (1 : Nat) < 8 by decide)
  have h2 : (((((((((w.alloc (.cells #[.slice none 0 0, .slice none 0 0, .int .i64 0, .slice none 0 0] 34)).alloc (.cells #[.int .i64 100, .int .i64 140, .int .i64 200, .int .i64 260] 46)).alloc (.cells #[.int .i64 0, .int .i64 0, .int .i64 1] 3)).alloc (.cells #[.int .i64 120, .int .i64 122, .int .i64 230] 3)).alloc (.cells #[.int .i64 124, .int .i64 121, .int .i64 234] 3)).alloc (.cells #[.int .i64 131, .int .i64 133, .int .i64 240] 3)).alloc (.cells #[.int .i64 (-1), .int .i64 118, .int .i64 229] 3)).alloc (.cells #[.int .i64 3, .slice (some ⟨w.heap.size + 1 + 1 + 1, 0, none⟩) 3 3, .int .i64 3, .slice (some ⟨w.heap.size + 1 + 1 + 1 + 1, 0, none⟩) 3 3, .int .i64 2, .slice (some ⟨w.heap.size + 1 + 1 + 1 + 1 + 1, 0, none⟩) 3 3, .int .i64 5, .slice (some ⟨w.heap.size + 1 + 1 + 1 + 1 + 1 + 1, 0, none⟩) 3 3] 60))).heap[w.heap.size + 2]? = some (.cells #[.int .i64 0, .int .i64 0, .int .i64 1] 3) := HG.out 2 (show (2 : Nat) < 8 by decide)
  have h3 : (((((((((w.alloc (.cells #[.slice none 0 0, .slice none 0 0, .int .i64 0, .slice none 0 0] 34)).alloc (.cells #[.int .i64 100, .int .i64 140, .int .i64 200, .int .i64 260] 46)).alloc (.cells #[.int .i64 0, .int .i64 0, .int .i64 1] 3)).alloc (.cells #[.int .i64 120, .int .i64 122, .int .i64 230] 3)).alloc (.cells #[.int .i64 124, .int .i64 121, .int .i64 234] 3)).alloc (.cells #[.int .i64 131, .int .i64 133, .int .i64 240] 3)).alloc (.cells #[.int .i64 (-1), .int .i64 118, .int .i64 229] 3)).alloc (.cells #[.int .i64 3, .slice (some ⟨w.heap.size + 1 + 1 + 1, 0, none⟩) 3 3, .int .i64 3, .slice (some ⟨w.heap.size + 1 + 1 + 1 + 1, 0, none⟩) 3 3, .int .i64 2, .slice (some ⟨w.heap.size + 1 + 1 + 1 + 1 + 1, 0, none⟩) 3 3, .int .i64 5, .slice (some ⟨w.heap.size + 1 + 1 + 1 + 1 + 1 + 1, 0, none⟩) 3 3] 60))).heap[w.heap.size + 3]? = some (.cells #[.int .i64 120, .int .i64 122, .int .i64 230] 3) := HG.out 3 (show (3 : Nat) < 8 by decide)
  have h4 : (((((((((w.alloc (.cells #[.slice none 0 0, .slice none 0 0, .int .i64 0, .slice none 0 0] 34)).alloc (.cells #[.int .i64 100, .int .i64 140, .int .i64 200, .int .i64 260] 46)).alloc (.cells #[.int .i64 0, .int .i64 0, .int .i64 1] 3)).alloc (.cells #[.int .i64 120, .int .i64 122, .int .i64 230] 3)).alloc (.cells #[.int .i64 124, .int .i64 121, .int .i64 234] 3)).alloc (.cells #[.int .i64 131, .int .i64 133, .int .i64 240] 3)).alloc (.cells #[.int .i64 (-1), .int .i64 118, .int .i64 229] 3)).alloc (.cells #[.int .i64 3, .slice (some ⟨w.heap.size + 1 + 1 + 1, 0, none⟩) 3 3, .int .i64 3, .slice (some ⟨w.heap.size + 1 + 1 + 1 + 1, 0, none⟩) 3 3, .int .i64 2, .slice (some ⟨w.heap.size + 1 + 1 + 1 + 1 + 1, 0, none⟩) 3 3, .int .i64 5, .slice (some ⟨w.heap.size + 1 + 1 + 1 + 1 + 1 + 1, 0, none⟩) 3 3] 60))).heap[w.heap.size + 4]? = some (.cells #[.int .i64 124, .int .i64 121, .int .i64 234] 3) := HG.out 4 (show (4 : Nat) < 8 by decide)
  have h5 : (((((((((w.alloc (.cells #[.slice none 0 0, .slice none 0 0, .int .i64 0, .slice none 0 0] 34)).alloc (.cells #[.int .i64 100, .int .i64 140, .int .i64 200, .int .i64 260] 46)).alloc (.cells #[.int .i64 0, .int .i64 0, .int .i64 1] 3)).alloc (.cells #[.int .i64 120, .int .i64 122, .int .i64 230] 3)).alloc (.cells #[.int .i64 124, .int .i64 121, .int .i64 234] 3)).alloc (.cells #[.int .i64 131, .int .i64 133, .int .i64 240] 3)).alloc (.cells #[.int .i64 (-1), .int .i64 118, .int .i64 229] 3)).alloc (.cells #[.int .i64 3, .slice (some ⟨w.heap.size + 1 + 1 + 1, 0, none⟩) 3 3, .int .i64 3, .slice (some ⟨w.heap.size + 1 + 1 + 1 + 1, 0, none⟩) 3 3, .int .i64 2, .slice (some ⟨w.heap.size + 1 + 1 + 1 + 1 + 1, 0, none⟩) 3 3, .int .i64 5, .slice (some ⟨w.heap.size + 1 + 1 + 1 + 1 + 1 + 1, 0, none⟩) 3 3] 60))).heap[w.heap.size + 5]? = some (.cells #[.int .i64 131, .int .i64 133, .int .i64 240] 3) := HG.out 5 (show (5 : Nat) < 8 by decide)
  have h6 : (((((((((w.alloc (.cells #[.slice none 0 0, .slice none 0 0, .int .i64 0, .slice none 0 0] 34)).alloc (.cells #[.int .i64 100, .int .i64 140, .int .i64 200, .int .i64 260] 46)).alloc (.cells #[.int .i64 0, .int .i64 0, .int .i64 1] 3)).alloc (.cells #[.int .i64 120, .int .i64 122, .int .i64 230] 3)).alloc (.cells #[.int .i64 124, .int .i64 121, .int .i64 234] 3)).alloc (.cells #[.int .i64 131, .int .i64 133, .int .i64 240] 3)).alloc (.cells #[.int .i64 (-1), .int .i64 118, .int .i64 229] 3)).alloc (.cells #[.int .i64 3, .slice (some ⟨w.heap.size + 1 + 1 + 1, 0, none⟩) 3 3, .int .i64 3, .slice (some ⟨w.heap.size + 1 + 1 + 1 + 1, 0, none⟩) 3 3, .int .i64 2, .slice (some ⟨w.heap.size + 1 + 1 + 1 + 1 + 1, 0, none⟩) 3 3, .int .i64 5, .slice (some ⟨w.heap.size + 1 + 1 + 1 + 1 + 1 + 1, 0, none⟩) 3 3] 60))).heap[w.heap.size + 6]? = some (.cells #[.int .i64 (-1), .int .i64 118, .int .i64 229] 3) := HG.out 6 (show (6 : Nat) < 8 by decide)
  have h7 : (((((((((w.alloc (.cells #[.slice none 0 0, .slice none 0 0, .int .i64 0, .slice none 0 0] 34)).alloc (.cells #[.int .i64 100, .int .i64 140, .int .i64 200, .int .i64 260] 46)).alloc (.cells #[.int .i64 0, .int .i64 0, .int .i64 1] 3)).alloc (.cells #[.int .i64 120, .int .i64 122, .int .i64 230] 3)).alloc (.cells #[.int .i64 124, .int .i64 121, .int .i64 234] 3)).alloc (.cells #[.int .i64 131, .int .i64 133, .int .i64 240] 3)).alloc (.cells #[.int .i64 (-1), .int .i64 118, .int .i64 229] 3)).alloc (.cells #[.int .i64 3, .slice (some ⟨w.heap.size + 1 + 1 + 1, 0, none⟩) 3 3, .int .i64 3, .slice (some ⟨w.heap.size + 1 + 1 + 1 + 1, 0, none⟩) 3 3, .int .i64 2, .slice (some ⟨w.heap.size + 1 + 1 + 1 + 1 + 1, 0, none⟩) 3 3, .int .i64 5, .slice (some ⟨w.heap.size + 1 + 1 + 1 + 1 + 1 + 1, 0, none⟩) 3 3] 60))).heap[w.heap.size + 7]? = some (.cells #[.int .i64 3, .slice (some ⟨w.heap.size + 1 + 1 + 1, 0, none⟩) 3 3, .int .i64 3, .slice (some ⟨w.heap.size + 1 + 1 + 1 + 1, 0, none⟩) 3 3, .int .i64 2, .slice (some ⟨w.heap.size + 1 + 1 + 1 + 1 + 1, 0, none⟩) 3 3, .int .i64 5, .slice (some ⟨w.heap.size + 1 + 1 + 1 + 1 + 1 + 1, 0, none⟩) 3 3] 60) := HG.out 7 (show (7 : Nat) < 8 by decide)
  have HZ : Hid ((((((((((w.alloc (.cells #[.slice none 0 0, .slice none 0 0, .int .i64 0, .slice none 0 0] 34)).alloc (.cells #[.int .i64 100, .int .i64 140, .int .i64 200, .int .i64 260] 46)).alloc (.cells #[.int .i64 0, .int .i64 0, .int .i64 1] 3)).alloc (.cells #[.int .i64 120, .int .i64 122, .int .i64 230] 3)).alloc (.cells #[.int .i64 124, .int .i64 121, .int .i64 234] 3)).alloc (.cells #[.int .i64 131, .int .i64 133, .int .i64 240] 3)).alloc (.cells #[.int .i64 (-1), .int .i64 118, .int .i64 229] 3)).alloc (.cells #[.int .i64 3, .slice (some ⟨w.heap.size + 1 + 1 + 1, 0, none⟩) 3 3, .int .i64 3, .slice (some ⟨w.heap.size + 1 + 1 + 1 + 1, 0, none⟩) 3 3, .int .i64 2, .slice (some ⟨w.heap.size + 1 + 1 + 1 + 1 + 1, 0, none⟩) 3 3, .int .i64 5, .slice (some ⟨w.heap.size + 1 + 1 + 1 + 1 + 1 + 1, 0, none⟩) 3 3] 60))).heap.size = w.heap.size + 8) := Lib.hid (by simp)
  clear HG
  go_enter Try.func37, Try.ntmps37
  go_wp2_with (first
    | (refine wpList_store_mid rfl 34 (.tmp 0) (.tmp 14) rfl w.heap.size 0 #[.slice (some ⟨w.heap.size + 1, 0, none⟩) 2 2, .slice (some ⟨w.heap.size + 1 + 1, 0, none⟩) 3 3, .int .i64 2, .slice (some ⟨w.heap.size + 1 + 1 + 1 + 1 + 1 + 1 + 1, 0, none⟩) 4 4] rfl rfl (there_block h0 (n := 4) (by simp)) (by kernel_rfl) (by simp [Value.oneCell']) ?_)
    | fail)
  generalize ((((((((w.alloc (.cells #[.slice none 0 0, .slice none 0 0, .int .i64 0, .slice none 0 0] 34)).alloc (.cells #[.int .i64 100, .int .i64 140, .int .i64 200, .int .i64 260] 46)).alloc (.cells #[.int .i64 0, .int .i64 0, .int .i64 1] 3)).alloc (.cells #[.int .i64 120, .int .i64 122, .int .i64 230] 3)).alloc (.cells #[.int .i64 124, .int .i64 121, .int .i64 234] 3)).alloc (.cells #[.int .i64 131, .int .i64 133, .int .i64 240] 3)).alloc (.cells #[.int .i64 (-1), .int .i64 118, .int .i64 229] 3)).alloc (.cells #[.int .i64 3, .slice (some ⟨w.heap.size + 1 + 1 + 1, 0, none⟩) 3 3, .int .i64 3, .slice (some ⟨w.heap.size + 1 + 1 + 1 + 1, 0, none⟩) 3 3, .int .i64 2, .slice (some ⟨w.heap.size + 1 + 1 + 1 + 1 + 1, 0, none⟩) 3 3, .int .i64 5, .slice (some ⟨w.heap.size + 1 + 1 + 1 + 1 + 1 + 1, 0, none⟩) 3 3] 60)) = W0 at *
  have hp : Put w.heap.size W0 (W0.setCells w.heap.size 0 [.slice (some ⟨w.heap.size + 1, 0, none⟩) 2 2, .slice (some ⟨w.heap.size + 1 + 1, 0, none⟩) 3 3, .int .i64 2, .slice (some ⟨w.heap.size + 1 + 1 + 1 + 1 + 1 + 1 + 1, 0, none⟩) 4 4]) := put_cells _ _ _ _
  have hx : (W0.setCells w.heap.size 0 [.slice (some ⟨w.heap.size + 1, 0, none⟩) 2 2, .slice (some ⟨w.heap.size + 1 + 1, 0, none⟩) 3 3, .int .i64 2, .slice (some ⟨w.heap.size + 1 + 1 + 1 + 1 + 1 + 1 + 1, 0, none⟩) 4 4]).heap[w.heap.size]? = some (.cells #[.slice (some ⟨w.heap.size + 1, 0, none⟩) 2 2, .slice (some ⟨w.heap.size + 1 + 1, 0, none⟩) 3 3, .int .i64 2, .slice (some ⟨w.heap.size + 1 + 1 + 1 + 1 + 1 + 1 + 1, 0, none⟩) 4 4] 34 (0, 0)) := set_whole w.heap.size 34 W0 #[.slice none 0 0, .slice none 0 0, .int .i64 0, .slice none 0 0] #[.slice (some ⟨w.heap.size + 1, 0, none⟩) 2 2, .slice (some ⟨w.heap.size + 1 + 1, 0, none⟩) 3 3, .int .i64 2, .slice (some ⟨w.heap.size + 1 + 1 + 1 + 1 + 1 + 1 + 1, 0, none⟩) 4 4] rfl h0
  generalize World.setCells W0 _ _ _ = W1 at *
  have hb := hp.below HB.out (Nat.le_refl _)
  have g1 := (hp.other (w.heap.size + 1) (by omega)).trans h1
  have g2 := (hp.other (w.heap.size + 2) (by omega)).trans h2
  have g3 := (hp.other (w.heap.size + 3) (by omega)).trans h3
  have g4 := (hp.other (w.heap.size + 4) (by omega)).trans h4
  have g5 := (hp.other (w.heap.size + 5) (by omega)).trans h5
  have g6 := (hp.other (w.heap.size + 6) (by omega)).trans h6
  have g7 := (hp.other (w.heap.size + 7) (by omega)).trans h7
  have r0 := cell_of_row W1 _ 0 _ _ _ hx
  have r1 := cell_of_row W1 _ 1 _ _ _ hx
  have r2 := cell_of_row W1 _ 2 _ _ _ hx
  have r3 := cell_of_row W1 _ 3 _ _ _ hx
  simp only [List.getElem?_toArray, List.getElem?_cons_zero, List.getElem?_cons_succ] at r0 r1 r2 r3
  have hz : W1.heap.size = w.heap.size + 8 := by rw [hp.size, HZ.out]
  have i2 : IntsV W1.heap.size W1 (.slice (some ⟨w.heap.size + 2, 0, none⟩) 3 3) [0, 0, 1] := ⟨_, _, rfl, fun _ => ⟨_, 0, rfl, lt_of_block g2, fun i hi => by
    have hi2 : i < 3 := hi
    rcases i with _ | _ | _ | i
    · exact cell_of_row W1 _ 0 _ _ _ g2
    · exact cell_of_row W1 _ 1 _ _ _ g2
    · exact cell_of_row W1 _ 2 _ _ _ g2
    · omega⟩⟩
  have i3 : IntsV W1.heap.size W1 (.slice (some ⟨w.heap.size + 3, 0, none⟩) 3 3) [120, 122, 230] := ⟨_, _, rfl, fun _ => ⟨_, 0, rfl, lt_of_block g3, fun i hi => by
    have hi2 : i < 3 := hi
    rcases i with _ | _ | _ | i
    · exact cell_of_row W1 _ 0 _ _ _ g3
    · exact cell_of_row W1 _ 1 _ _ _ g3
    · exact cell_of_row W1 _ 2 _ _ _ g3
    · omega⟩⟩
  have i4 : IntsV W1.heap.size W1 (.slice (some ⟨w.heap.size + 4, 0, none⟩) 3 3) [124, 121, 234] := ⟨_, _, rfl, fun _ => ⟨_, 0, rfl, lt_of_block g4, fun i hi => by
    have hi2 : i < 3 := hi
    rcases i with _ | _ | _ | i
    · exact cell_of_row W1 _ 0 _ _ _ g4
    · exact cell_of_row W1 _ 1 _ _ _ g4
    · exact cell_of_row W1 _ 2 _ _ _ g4
    · omega⟩⟩
  have i5 : IntsV W1.heap.size W1 (.slice (some ⟨w.heap.size + 5, 0, none⟩) 3 3) [131, 133, 240] := ⟨_, _, rfl, fun _ => ⟨_, 0, rfl, lt_of_block g5, fun i hi => by
    have hi2 : i < 3 := hi
    rcases i with _ | _ | _ | i
    · exact cell_of_row W1 _ 0 _ _ _ g5
    · exact cell_of_row W1 _ 1 _ _ _ g5
    · exact cell_of_row W1 _ 2 _ _ _ g5
    · omega⟩⟩
  have i6 : IntsV W1.heap.size W1 (.slice (some ⟨w.heap.size + 6, 0, none⟩) 3 3) [-1, 118, 229] := ⟨_, _, rfl, fun _ => ⟨_, 0, rfl, lt_of_block g6, fun i hi => by
    have hi2 : i < 3 := hi
    rcases i with _ | _ | _ | i
    · exact cell_of_row W1 _ 0 _ _ _ g6
    · exact cell_of_row W1 _ 1 _ _ _ g6
    · exact cell_of_row W1 _ 2 _ _ _ g6
    · omega⟩⟩
  have hlots : RgsV W1.heap.size W1 (.slice (some ⟨w.heap.size + 1, 0, none⟩) 2 2) [⟨100, 140⟩, ⟨200, 260⟩] := ⟨_, _, rfl, fun _ => ⟨_, 0, rfl, lt_of_block g1, fun i hi => by
    have hi2 : i < 2 := hi
    rcases i with _ | _ | i
    · exact ⟨cell_of_row W1 _ 0 _ _ _ g1, cell_of_row W1 _ 1 _ _ _ g1⟩
    · exact ⟨cell_of_row W1 _ 2 _ _ _ g1, cell_of_row W1 _ 3 _ _ _ g1⟩
    · omega⟩⟩
  have hlabs : LabsV W1.heap.size W1 (.slice (some ⟨w.heap.size + 7, 0, none⟩) 4 4) [⟨3, [120, 122, 230]⟩, ⟨3, [124, 121, 234]⟩, ⟨2, [131, 133, 240]⟩, ⟨5, [-1, 118, 229]⟩] := ⟨_, _, rfl, fun _ => ⟨_, 0, rfl, lt_of_block g7, fun i hi => by
    have hi2 : i < 4 := hi
    rcases i with _ | _ | _ | _ | i
    · exact ⟨cell_of_row W1 _ 0 _ _ _ g7, _, cell_of_row W1 _ 1 _ _ _ g7, i3⟩
    · exact ⟨cell_of_row W1 _ 2 _ _ _ g7, _, cell_of_row W1 _ 3 _ _ _ g7, i4⟩
    · exact ⟨cell_of_row W1 _ 4 _ _ _ g7, _, cell_of_row W1 _ 5 _ _ _ g7, i5⟩
    · exact ⟨cell_of_row W1 _ 6 _ _ _ g7, _, cell_of_row W1 _ 7 _ _ _ g7, i6⟩
    · omega⟩⟩
  refine bodyPost_ret (v := .agg #[.slice (some ⟨w.heap.size + 1, 0, none⟩) 2 2, .slice (some ⟨w.heap.size + 1 + 1, 0, none⟩) 3 3, .int .i64 2, .slice (some ⟨w.heap.size + 1 + 1 + 1 + 1 + 1 + 1 + 1, 0, none⟩) 4 4]) ?_ rfl ⟨⟨⟨some ⟨w.heap.size + 1, 0, none⟩, 2, some ⟨w.heap.size + 2, 0, none⟩, 3, some ⟨w.heap.size + 7, 0, none⟩, 4⟩, rfl, ⟨hlots, i2, hlabs⟩, (show (4 : Nat) ≤ 4 by decide)⟩, hb⟩
  simp [results, Try.results37, go_sem, r0, r1, r2, r3]
end Go.Proofs.Ytpdkgnfblnblbaa
