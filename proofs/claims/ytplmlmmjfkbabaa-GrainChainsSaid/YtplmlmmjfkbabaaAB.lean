/- An album is copied for the program: contract. Condition: at most a thousand comparisons. -/
import Derived.Test.YtplmlmmjfkbabaaAA
namespace Go.Proofs.Ytplmlmmjfkbabaa
open Go.RowKit Go.Shelf
attribute [local irreducible] arrV wpQuiet mat shl

set_option maxRecDepth 100000 in
set_option maxHeartbeats 4000000 in
theorem Album_any (m : Nat) (n : Int) (v : Value) (cs : List Cm) (w : World) (hl : cs.length ≤ 1000) (hV : CmsV m w v cs) (hm : m ≤ w.heap.size) :
    Calls Try.prog 20 #[.agg #[.int .i64 n, v]] w fun e w' => (∃ r, e = .returned (.agg #[.int .i64 n, r]) ∧ w'.ownsRow w.heap.size 67 4 r cs.length (flatC cs)) ∧ Below w.heap.size w w' := by
  obtain ⟨a, cap, rfl, hp⟩ := hV
  have HP := Lib.hid hp
  have HX := Lib.hid (box3 w (.cells #[.int .i64 n, .slice a cs.length cap] 24) (.cells #[.int .i64 0, .slice none 0 0] 31) (.cells #[.int .i64 n, .slice none 0 0] 31))
  have HB := Lib.hid (below3 w (.cells #[.int .i64 n, .slice a cs.length cap] 24) (.cells #[.int .i64 0, .slice none 0 0] 31) (.cells #[.int .i64 n, .slice none 0 0] 31))
  have HPT := Lib.hid fun q (h : q < cs.length) => take_cm h
  clear hp
  go_enter Try.func20, Try.ntmps20
  go_wp2
  generalize World.alloc (World.alloc (World.alloc w _) _) _ = W at *
  go_loopw [4] (fun i wr => ∃ (q : Nat) (s : Value), q ≤ cs.length ∧ i = .int .i64 q ∧ Hid (wr.heap[w.heap.size]? = some (.cells #[.int .i64 n, .slice a cs.length cap] 24 (0, 0))) ∧ Hid (wr.heap[w.heap.size + 1]? = some (.cells #[.int .i64 0, .slice none 0 0] 31 (0, 0))) ∧ Hid (wr.heap[w.heap.size + 1 + 1]? = some (.cells #[.int .i64 n, s] 31 (0, 0))) ∧ Hid (wr.ownsRow (w.heap.size + 1 + 1 + 1) 67 4 s q (flatC (cs.take q))) ∧ Hid (Below w.heap.size w wr)) (fun i _ => cs.length - (intOf i).toNat)
  case atStart => exact ⟨0, .slice none 0 0, Nat.zero_le _, rfl, Lib.hid HX.out.1, Lib.hid HX.out.2.1, Lib.hid HX.out.2.2, Lib.hid (World.ownsRow_nil _ _ _ _), HB⟩
  case round =>
    clear HX HB
    obtain ⟨q, s, hq, rfl, HX1, HX2, HX3, HO, HB⟩ := hrel
    have c1 := cell_of_row wr w.heap.size 1 _ _ _ HX1.out
    have d0 := cell_of_row wr (w.heap.size + 1 + 1) 0 _ _ _ HX3.out
    have d1 := cell_of_row wr (w.heap.size + 1 + 1) 1 _ _ _ HX3.out
    simp only [List.getElem?_toArray, List.getElem?_cons_zero, List.getElem?_cons_succ] at c1 d0 d1
    have l0 := lt_of_block HX1.out
    have l2 := lt_of_block HX3.out
    by_cases hlt : q < cs.length
    · obtain ⟨b, off, rfl, hbn, hcc⟩ := HP.out (by omega)
      obtain ⟨h1, h2, h3, h4⟩ := hcc q hlt
      have hltb : b < w.heap.size := by omega
      have p1 := (HB.out.cell (p := ⟨b, off + q * 4, none⟩) hltb).trans h1
      have p2 := (HB.out.cell (p := ⟨b, off + q * 4 + 1, none⟩) hltb).trans h2
      have p3 := (HB.out.cell (p := ⟨b, off + q * 4 + 2, none⟩) hltb).trans h3
      have p4 := (HB.out.cell (p := ⟨b, off + q * 4 + 3, none⟩) hltb).trans h4
      have hqn : (q : Int) < cs.length := by omega
      have hw9 : IntKind.i64.wrap ((q : Int) + 1) = (q : Int) + 1 := IntWalk.i64_in _ (by omega)
      have HSN := Lib.hid (HPT.out q hlt)
      generalize cm cs q = c at *
      obtain ⟨l, r, lo, hi⟩ := c
      simp only at p1 p2 p3 p4
      have hbx := box_below wr (.cells #[.int .i64 l, .int .i64 r, .int .i64 lo, .int .i64 hi] 73)
      have HO1 := Lib.hid (own_same HO.out (fun g _ hg => hbx.block g hg))
      have HX1b := Lib.hid ((hbx.block _ (lt_of_block HX1.out)).trans HX1.out)
      have HX2b := Lib.hid ((hbx.block _ (lt_of_block HX2.out)).trans HX2.out)
      have HX3b := Lib.hid ((hbx.block _ (lt_of_block HX3.out)).trans HX3.out)
      have HBb := Lib.hid (below_to HB.out hbx)
      have hl1 : w.heap.size + 1 + 1 + 1 ≤ (wr.alloc (.cells #[.int .i64 l, .int .i64 r, .int .i64 lo, .int .i64 hi] 73)).heap.size := by have := hbx.size; omega
      have HSZ : Hid ((wr.alloc (.cells #[.int .i64 l, .int .i64 r, .int .i64 lo, .int .i64 hi] 73)).heap.size = wr.heap.size + 1) := Lib.hid (by simp)
      clear hcc h1 h2 h3 h4 hbx
      go_wp2_with (first
        | (refine wpList_app el29 rfl (.tmp 22) (.tmp 32) rfl (w.heap.size + 1 + 1 + 1) q _ _ #[.int .i64 l, .int .i64 r, .int .i64 lo, .int .i64 hi] rfl (by intro u hu; simp at hu; rcases hu with rfl | rfl | rfl | rfl <;> rfl) rfl (by rw [HSZ.out]; rfl) HO1.out hl1 (by omega) ?_
           intro g c w2 hown hgr _
           have HO2 := Lib.hid hown
           have x1 := (hgr.below.block w.heap.size (by omega)).trans HX1b.out
           have x2 := (hgr.below.block (w.heap.size + 1) (by omega)).trans HX2b.out
           have x3 := (hgr.below.block (w.heap.size + 1 + 1) (by omega)).trans HX3b.out
           have HXX := Lib.hid (And.intro x1 (And.intro x2 x3))
           have HB2 := Lib.hid (HBb.out.trans (hgr.below.mono (by omega)))
           have e1 := cell_of_row w2 (w.heap.size + 1 + 1) 1 _ _ _ x3
           simp only [List.getElem?_toArray, List.getElem?_cons_zero, List.getElem?_cons_succ] at e1
           have f1 := frozen_of_row w2 (w.heap.size + 1 + 1) 1 _ _ x3
           have l3 := lt_of_block x3
           clear hown hgr x1 x2 x3)
        | fail)
      go_roundw
      case rel =>
        refine ⟨q + 1, _, by omega, by simp, Lib.hid ((heap_setCell_other _ ⟨w.heap.size + 1 + 1, 1, none⟩ _ _ (by show w.heap.size ≠ w.heap.size + 1 + 1; omega)).trans HXX.out.1), Lib.hid ((heap_setCell_other _ ⟨w.heap.size + 1 + 1, 1, none⟩ _ _ (by show w.heap.size + 1 ≠ w.heap.size + 1 + 1; omega)).trans HXX.out.2.1), Lib.hid (heap_setCell_same _ _ 1 _ 31 _ HXX.out.2.2), Lib.hid ?_, Lib.hid (HB2.out.setCell (p := ⟨w.heap.size + 1 + 1, 1, none⟩) (by show w.heap.size ≤ w.heap.size + 1 + 1; omega) _)⟩
        rw [HSN.out, flatC_snoc]
        exact own_same HO2.out (fun g hg _ => heap_setCell_other _ ⟨w.heap.size + 1 + 1, 1, none⟩ g _ (by show g ≠ w.heap.size + 1 + 1; omega))
      case measure => simp [intOf] <;> omega
    · obtain rfl : q = cs.length := by omega
      rw [List.take_length] at HO
      have k0 := cell_of_row wr (w.heap.size + 1) 0 _ _ _ HX2.out
      have k1 := cell_of_row wr (w.heap.size + 1) 1 _ _ _ HX2.out
      simp only [List.getElem?_toArray, List.getElem?_cons_zero, List.getElem?_cons_succ] at k0 k1
      have f0 := frozen_of_row wr (w.heap.size + 1) 0 _ _ HX2.out
      have f1 := frozen_of_row wr (w.heap.size + 1) 1 _ _ HX2.out
      have l1 := lt_of_block HX2.out
      obtain ⟨sa, scap, rfl⟩ := own_shape HO.out
      go_wp2
      refine bodyPost_ret (v := .agg #[.int .i64 n, .slice sa cs.length scap]) ?_ rfl ⟨⟨_, rfl, ?_⟩, (HB.out.setCell (p := ⟨w.heap.size + 1, 0, none⟩) (by show w.heap.size ≤ w.heap.size + 1; omega) _).setCell (p := ⟨w.heap.size + 1, 1, none⟩) (by show w.heap.size ≤ w.heap.size + 1; omega) _⟩
      · simp [results, Try.results20, go_sem, *]
      · refine ownsRow_mono (b := w.heap.size + 1 + 1 + 1) (by omega) (own_same HO.out (fun g hg _ => ?_))
        exact (heap_setCell_other _ ⟨w.heap.size + 1, 1, none⟩ g _ (by show g ≠ w.heap.size + 1; omega)).trans (heap_setCell_other _ ⟨w.heap.size + 1, 0, none⟩ g _ (by show g ≠ w.heap.size + 1; omega))
end Go.Proofs.Ytplmlmmjfkbabaa
