/- What two ranges have in common, and the ranges of which nothing is known, by the reference. No condition. -/
import Derived.Test.YtplmlmmjfkbabaaX
import Derived.Test.YtplmlmmjfkbabaaRCJ
namespace Go.Proofs.Ytplmlmmjfkbabaa
open Go.RowKit
attribute [local irreducible] arrV wpQuiet mat shl

set_option maxHeartbeats 400000 in
theorem rcut_any (lo hi lo2 hi2 : Int) (w : World) :
    Calls Try.prog 63 #[.agg #[.int .i64 lo, .int .i64 hi], .agg #[.int .i64 lo2, .int .i64 hi2]] w fun e w' => e = .returned (.agg #[.int .i64 (max lo lo2), .int .i64 (min hi hi2)]) ∧ Below w.heap.size w w' := by
  go_enter Try.func63, Try.ntmps63
  go_wp2
  all_goals
    refine bodyPost_ret (v := .agg #[.int .i64 (max lo lo2), .int .i64 (min hi hi2)]) ?_ rfl ⟨rfl, below3 _ _ _ _⟩
    simp [results, Try.results63, go_sem]
    try omega
theorem free_snoc (q : Nat) : flatR (freeL (q + 1)) = flatR (freeL q) ++ [.int .i64 0, .int .i64 100] := by
  rw [show freeL (q + 1) = freeL q ++ [⟨0, 100⟩] from List.replicate_succ', flatR_snoc]
set_option maxRecDepth 100000 in
set_option maxHeartbeats 4000000 in
theorem free_any (n : Nat) (v : Value) (w : World) (hn : n ≤ 8) :
    Calls Try.prog 51 #[.agg #[.int .i64 n, v]] w fun e w' => (∃ r, e = .returned r ∧ w'.ownsRow w.heap.size 43 2 r n (flatR (freeL n))) ∧ Below w.heap.size w w' := by
  have HX := Lib.hid (heap_alloc_new w (.cells #[.int .i64 n, v] 24))
  have HB := Lib.hid (box_below w (.cells #[.int .i64 n, v] 24))
  go_enter Try.func51, Try.ntmps51
  go_wp2
  generalize World.alloc w _ = W at *
  go_loopw [3, 4] (fun s i wr => ∃ q : Nat, q ≤ n ∧ i = .int .i64 q ∧ Hid (wr.heap[w.heap.size]? = some (.cells #[.int .i64 n, v] 24 (0, 0))) ∧ Hid (wr.ownsRow (w.heap.size + 1) 43 2 s q (flatR (freeL q))) ∧ Hid (Below w.heap.size w wr)) (fun _ i _ => n - (intOf i).toNat)
  case atStart => exact ⟨0, Nat.zero_le _, rfl, HX, Lib.hid (World.ownsRow_nil _ _ _ _), HB⟩
  case round =>
    clear HX HB
    obtain ⟨q, hq, rfl, HX, HO, HB⟩ := hrel
    have c0 := cell_of_row wr w.heap.size 0 _ _ _ HX.out
    simp only [List.getElem?_toArray, List.getElem?_cons_zero] at c0
    have l0 := lt_of_block HX.out
    by_cases hlt : q < n
    · have hqn : (q : Int) < n := by omega
      have hw9 : IntKind.i64.wrap ((q : Int) + 1) = (q : Int) + 1 := IntWalk.i64_in _ (by omega)
      have HSN := Lib.hid (free_snoc q)
      have hl1 : w.heap.size + 1 ≤ wr.heap.size := l0
      go_wp2_with (first
        | (refine wpList_app el37 rfl (.tmp 11) (.tmp 13) rfl (w.heap.size + 1) q _ _ #[.int .i64 0, .int .i64 100] rfl (by intro u hu; simp at hu; rcases hu with rfl | rfl <;> rfl) rfl rfl HO.out hl1 (by omega) ?_
           intro g c w2 hown hgr _
           have HO2 := Lib.hid hown
           have HX2 := Lib.hid ((hgr.below.block w.heap.size (by omega)).trans HX.out)
           have HB2 := Lib.hid (HB.out.trans (hgr.below.mono (by omega)))
           clear hown hgr)
        | fail)
      go_roundw
      case rel => exact ⟨q + 1, by omega, by simp, HX2, Lib.hid (by rw [HSN.out]; exact HO2.out), HB2⟩
      case measure => simp [intOf] <;> omega
    · obtain rfl : q = n := by omega
      go_wp2
      go_ret
      exact ⟨⟨_, rfl, ownsRow_mono (by omega) HO.out⟩, HB.out⟩
end Go.Proofs.Ytplmlmmjfkbabaa
