/- A copy of a list, by the library's Clone: its contract. Conditions: the length. -/
import Derived.Test.YtfjlnejeffkdoaaHH
namespace Go.Proofs.Ytfjlnejeffkdoaa
open Go.RowKit Go.Shelf
attribute [local irreducible] arrV

set_option maxRecDepth 100000 in
set_option maxHeartbeats 1000000 in
theorem Clone_any (b off cap : Nat) (t : List Int) (w : World) (h0 : 0 < t.length) (hn : t.length ≤ 100) (hi : IntsIn w b off t) :
    Calls Try.prog 87 #[.slice (some ⟨b, off, none⟩) t.length cap] w fun e w' => ∃ B c, e = .returned (.slice (some ⟨B, 0, none⟩) t.length c) ∧ IntsIn w' B 0 t ∧ w.heap.size ≤ B ∧ Below w.heap.size w w' := by
  have hb := box_below w (.cells #[] 3)
  have hrow := heap_alloc_new w (.cells #[] 3)
  have hltb := block_lt_of_cell (hi 0 h0)
  have heq : ∀ w, (binOp .eql 27 (.slice (some ⟨b, off, none⟩) t.length cap) (.slice none 0 0)).run Try.prog w = .ok (.bool false) w := fun w => by kernel_rfl
  go_enter Try.func87, Try.ntmps87
  go_wp2_with (first
    | (refine wpList_append_ints rfl (.tmp 5) (.tmp 6) rfl w.heap.size 0 t.length cap _ [] b off t rfl rfl ⟨rfl, .inr ⟨w.heap.size, 0, #[], rfl, Nat.le_refl _, hrow, Nat.le_refl _, Nat.zero_le _, rfl, rfl⟩⟩ hb.size (hi.below hb hltb) rfl (by omega) ?_
       intro v' w' h1 h2)
    | fail)
  rw [Nat.zero_add] at h1
  obtain ⟨B, c, rfl, q1, q2, q3⟩ := intsIn_own h1 h0
  go_ret
  exact ⟨B, ⟨c, rfl⟩, q1, q2, hb.trans h2⟩

end Go.Proofs.Ytfjlnejeffkdoaa
