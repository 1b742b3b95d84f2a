/- The law GrainTurned, walked. No condition. -/
import Derived.Test.YtplmlmmjfkbabaaAD
import Derived.BigRegion
import Derived.BigQuiet
namespace Go.Proofs.Ytplmlmmjfkbabaa
open Go.RowKit Go.Shelf
attribute [local irreducible] arrV wpQuiet mat shl
theorem turn_len (cs : List Cm) : (cs.map turnC).length = cs.length := by simp
theorem turn_take {cs : List Cm} {q : Nat} (h : q < cs.length) : (cs.take (q + 1)).map turnC = (cs.take q).map turnC ++ [turnC (cm cs q)] := by rw [take_cm h]; simp
theorem turn_neg {c : Cm} (h : c.r < 0) : turnC c = ⟨c.l, c.r, 100 - c.hi, 100 - c.lo⟩ := if_pos h
theorem turn_pos {c : Cm} (h : ¬ c.r < 0) : turnC c = ⟨c.l, c.r, -c.hi, -c.lo⟩ := by rw [← Int.zero_sub, ← Int.zero_sub]; exact if_neg h

set_option maxRecDepth 100000 in
set_option maxHeartbeats 8000000 in
theorem turned_walk (n : Int) (v : Value) (cs : List Cm) (w : World) (hV : CmsV w.heap.size w v cs) :
    Calls Try.prog 15 #[.agg #[.int .i64 n, v]] w fun e w' => e = .returned (.bool true) ∧ Below w.heap.size w w' := by
  have HRE := Lib.hid fun w' (h : Below w.heap.size w w') => ready_any w.heap.size n v cs w' (hV.same (.below (Nat.le_refl _) h)) h.size
  have HAL0 := Lib.hid fun (hl : cs.length ≤ 1000) w' (h : Below w.heap.size w w') => Album_any w.heap.size n v cs w' hl (hV.same (.below (Nat.le_refl _) h)) h.size
  obtain ⟨a, cap, rfl, hp⟩ := hV
  have HP := Lib.hid hp
  have HXA := Lib.hid (heap_alloc_new w (.cells #[.int .i64 n, .slice a cs.length cap] 24))
  have HBA := Lib.hid (box_below w (.cells #[.int .i64 n, .slice a cs.length cap] 24))
  clear hp
  go_enter Try.func15, Try.ntmps15
  go_wp2_with fail
  refine (HRE.out _ HBA.out).mono ?_
  rintro e u0 ⟨rfl, hb⟩
  replace HXA := Lib.hid ((hb.block _ (lt_of_block HXA.out)).trans HXA.out)
  replace HBA := Lib.hid (below_to HBA.out hb)
  clear hb
  cases hz : readyB n cs with
  | false =>
    go_wp2_with fail
    refine (awake_any u0).mono ?_
    rintro e u1 ⟨rfl, hb⟩
    have HBF := Lib.hid (below_to HBA.out hb)
    clear hb
    go_wp2
    go_ret
    exact ⟨rfl, HBF.out⟩
  | true =>
    have HOK := Lib.hid (readyB_ok hz)
    have hn0 := HOK.out.n0
    have hn8 := HOK.out.n8
    have hlen := HOK.out.len
    have HAL := Lib.hid (HAL0.out (by omega))
    clear hz HAL0 HRE
    have c0 := cell_of_row u0 w.heap.size 0 _ _ _ HXA.out
    have c1 := cell_of_row u0 w.heap.size 1 _ _ _ HXA.out
    simp only [List.getElem?_toArray, List.getElem?_cons_zero, List.getElem?_cons_succ] at c0 c1
    have lc := lt_of_block HXA.out
    go_wp2_with fail
    clear c0 c1 lc
    have lx0 := lt_of_block HXA.out
    have hbx := box_below u0 (.cells #[.int .i64 n, .slice none 0 0] 24)
    have hnx := heap_alloc_new u0 (.cells #[.int .i64 n, .slice none 0 0] 24)
    replace HXA := Lib.hid ((hbx.block _ (lt_of_block HXA.out)).trans HXA.out)
    replace HBA := Lib.hid (below_to HBA.out hbx)
    have HX3 := Lib.hid hnx
    have HX3 := Lib.hid hnx
    have HB3 : Hid (w.heap.size < u0.heap.size) := Lib.hid lx0
    clear hbx hnx lx0
    generalize World.alloc u0 _ = v0 at *
    generalize u0.heap.size = b3 at *
    go_loopw [4] (fun i wr => ∃ (q : Nat) (s : Value), q ≤ cs.length ∧ i = .int .i64 q ∧ Hid (wr.heap[w.heap.size]? = some (.cells #[.int .i64 n, .slice a cs.length cap] 24 (0, 0))) ∧ Hid (wr.heap[b3]? = some (.cells #[.int .i64 n, s] 24 (0, 0))) ∧ Hid (wr.ownsRow (b3 + 1) 73 4 s q (flatC ((cs.take q).map turnC))) ∧ Hid (Below w.heap.size w wr)) (fun i _ => cs.length - (intOf i).toNat)
    case atStart => exact ⟨0, .slice none 0 0, Nat.zero_le _, rfl, HXA, HX3, Lib.hid (World.ownsRow_nil _ _ _ _), HBA⟩
    case round =>
      clear HXA HX3 HBA
      obtain ⟨q, s, hq, rfl, HXA, HX3, HO, HBA⟩ := hrel
      have c1 := cell_of_row wr w.heap.size 1 _ _ _ HXA.out
      have d0 := cell_of_row wr b3 0 _ _ _ HX3.out
      have d1 := cell_of_row wr b3 1 _ _ _ HX3.out
      simp only [List.getElem?_toArray, List.getElem?_cons_zero, List.getElem?_cons_succ] at c1 d0 d1
      have l0 := lt_of_block HXA.out
      have l2 := lt_of_block HX3.out
      by_cases hlt : q < cs.length
      · obtain ⟨b, off, rfl, hbn, hcc⟩ := HP.out (by omega)
        obtain ⟨h1, h2, h3, h4⟩ := hcc q hlt
        have hltb : b < w.heap.size := by omega
        have p1 := (HBA.out.cell (p := ⟨b, off + q * 4, none⟩) hltb).trans h1
        have p2 := (HBA.out.cell (p := ⟨b, off + q * 4 + 1, none⟩) hltb).trans h2
        have p3 := (HBA.out.cell (p := ⟨b, off + q * 4 + 2, none⟩) hltb).trans h3
        have p4 := (HBA.out.cell (p := ⟨b, off + q * 4 + 3, none⟩) hltb).trans h4
        have hqn : (q : Int) < cs.length := by omega
        have hw9 : IntKind.i64.wrap ((q : Int) + 1) = (q : Int) + 1 := IntWalk.i64_in _ (by omega)
        have HSN := Lib.hid (turn_take hlt)
        have hco := HOK.out.cm _ (cm_mem hlt)
        have hk1 := hco.lo
        have hk2 := hco.le
        have hk3 := hco.hi
        generalize cm cs q = c at *
        obtain ⟨l, r, lo, hi⟩ := c
        simp only at p1 p2 p3 p4 hk1 hk2 hk3
        clear hcc h1 h2 h3 h4 hco
        by_cases hr : r < 0
        · have e1 : decide (r < 0) = true := decide_eq_true hr
          have w1 : IntKind.i64.wrap (100 - hi) = 100 - hi := IntWalk.i64_in _ (by omega)
          have w2 : IntKind.i64.wrap (100 - lo) = 100 - lo := IntWalk.i64_in _ (by omega)
          have ET := Lib.hid (turn_neg (c := ⟨l, r, lo, hi⟩) hr)
          have hbx := box_below wr (.cells #[.int .i64 l, .int .i64 r, .int .i64 (100 - hi), .int .i64 (100 - lo)] 73)
          have HO1 := Lib.hid (own_same HO.out (fun g _ hg => hbx.block g hg))
          have HX1b := Lib.hid ((hbx.block _ (lt_of_block HXA.out)).trans HXA.out)
          have HX3b := Lib.hid ((hbx.block _ (lt_of_block HX3.out)).trans HX3.out)
          have HBb := Lib.hid (below_to HBA.out hbx)
          have hl1 : b3 + 1 ≤ (wr.alloc (.cells #[.int .i64 l, .int .i64 r, .int .i64 (100 - hi), .int .i64 (100 - lo)] 73)).heap.size := by have := hbx.size; omega
          have HSZ : Hid ((wr.alloc (.cells #[.int .i64 l, .int .i64 r, .int .i64 (100 - hi), .int .i64 (100 - lo)] 73)).heap.size = wr.heap.size + 1) := Lib.hid (by simp)
          clear hr hk1 hk2 hk3 hbx
          go_wp2_with (first
            | (refine wpList_app el22 rfl (.tmp 45) (.tmp 47) rfl (b3 + 1) q _ _ #[.int .i64 l, .int .i64 r, .int .i64 (100 - hi), .int .i64 (100 - lo)] rfl (by intro u hu; simp at hu; rcases hu with rfl | rfl | rfl | rfl <;> rfl) rfl (by rw [HSZ.out]; rfl) HO1.out hl1 (by omega) ?_
               intro g c w2 hown hgr _
               have HO2 := Lib.hid hown
               have HLB := HB3.out
               have x1 := (hgr.below.block w.heap.size (by omega)).trans HX1b.out
               have x3 := (hgr.below.block b3 (by omega)).trans HX3b.out
               have HXX := Lib.hid (And.intro x1 x3)
               have HB2 := Lib.hid (HBb.out.trans (hgr.below.mono (by omega)))
               have e1 := cell_of_row w2 b3 1 _ _ _ x3
               simp only [List.getElem?_toArray, List.getElem?_cons_zero, List.getElem?_cons_succ] at e1
               have f1 := frozen_of_row w2 b3 1 _ _ x3
               have l3 := lt_of_block x3
               clear hown hgr x1 x3 HLB)
            | fail)
          go_roundw
          case rel =>
            have HLB := HB3.out
            refine ⟨q + 1, _, by omega, by simp, Lib.hid ((heap_setCell_other _ ⟨b3, 1, none⟩ _ _ (by show w.heap.size ≠ b3; omega)).trans HXX.out.1), Lib.hid (heap_setCell_same _ _ 1 _ 24 _ HXX.out.2), Lib.hid ?_, Lib.hid (HB2.out.setCell (p := ⟨b3, 1, none⟩) (by show w.heap.size ≤ b3; omega) _)⟩
            rw [HSN.out, flatC_snoc, ET.out]
            exact own_same HO2.out (fun g hg _ => heap_setCell_other _ ⟨b3, 1, none⟩ g _ (by show g ≠ b3; omega))
          case measure => simp [intOf] <;> omega
        · have e1 : decide (r < 0) = false := decide_eq_false hr
          have w1 : IntKind.i64.wrap (-hi) = -hi := IntWalk.i64_in _ (by omega)
          have w2 : IntKind.i64.wrap (-lo) = -lo := IntWalk.i64_in _ (by omega)
          have ET := Lib.hid (turn_pos (c := ⟨l, r, lo, hi⟩) hr)
          have hbx := box_below wr (.cells #[.int .i64 l, .int .i64 r, .int .i64 (-hi), .int .i64 (-lo)] 73)
          have HO1 := Lib.hid (own_same HO.out (fun g _ hg => hbx.block g hg))
          have HX1b := Lib.hid ((hbx.block _ (lt_of_block HXA.out)).trans HXA.out)
          have HX3b := Lib.hid ((hbx.block _ (lt_of_block HX3.out)).trans HX3.out)
          have HBb := Lib.hid (below_to HBA.out hbx)
          have hl1 : b3 + 1 ≤ (wr.alloc (.cells #[.int .i64 l, .int .i64 r, .int .i64 (-hi), .int .i64 (-lo)] 73)).heap.size := by have := hbx.size; omega
          have HSZ : Hid ((wr.alloc (.cells #[.int .i64 l, .int .i64 r, .int .i64 (-hi), .int .i64 (-lo)] 73)).heap.size = wr.heap.size + 1) := Lib.hid (by simp)
          clear hr hk1 hk2 hk3 hbx
          go_wp2_with (first
            | (refine wpList_app el22 rfl (.tmp 45) (.tmp 47) rfl (b3 + 1) q _ _ #[.int .i64 l, .int .i64 r, .int .i64 (-hi), .int .i64 (-lo)] rfl (by intro u hu; simp at hu; rcases hu with rfl | rfl | rfl | rfl <;> rfl) rfl (by rw [HSZ.out]; rfl) HO1.out hl1 (by omega) ?_
               intro g c w2 hown hgr _
               have HO2 := Lib.hid hown
               have HLB := HB3.out
               have x1 := (hgr.below.block w.heap.size (by omega)).trans HX1b.out
               have x3 := (hgr.below.block b3 (by omega)).trans HX3b.out
               have HXX := Lib.hid (And.intro x1 x3)
               have HB2 := Lib.hid (HBb.out.trans (hgr.below.mono (by omega)))
               have e1 := cell_of_row w2 b3 1 _ _ _ x3
               simp only [List.getElem?_toArray, List.getElem?_cons_zero, List.getElem?_cons_succ] at e1
               have f1 := frozen_of_row w2 b3 1 _ _ x3
               have l3 := lt_of_block x3
               clear hown hgr x1 x3 HLB)
            | fail)
          go_roundw
          case rel =>
            have HLB := HB3.out
            refine ⟨q + 1, _, by omega, by simp, Lib.hid ((heap_setCell_other _ ⟨b3, 1, none⟩ _ _ (by show w.heap.size ≠ b3; omega)).trans HXX.out.1), Lib.hid (heap_setCell_same _ _ 1 _ 24 _ HXX.out.2), Lib.hid ?_, Lib.hid (HB2.out.setCell (p := ⟨b3, 1, none⟩) (by show w.heap.size ≤ b3; omega) _)⟩
            rw [HSN.out, flatC_snoc, ET.out]
            exact own_same HO2.out (fun g hg _ => heap_setCell_other _ ⟨b3, 1, none⟩ g _ (by show g ≠ b3; omega))
          case measure => simp [intOf] <;> omega
      · obtain rfl : q = cs.length := by omega
        rw [List.take_length] at HO
        have HVS0 := own_cms (l := cs.map turnC) (by rw [turn_len]; exact HO.out)
        have HVS := Lib.hid HVS0
        have hsv : ∃ sa sc, s = .slice sa cs.length sc := own_shape HO.out
        clear HVS0 HO
        have hml : (cs.map turnC).length = cs.length := turn_len cs
        have hrd := ready_any wr.heap.size n s (cs.map turnC) wr HVS.out (Nat.le_refl _)
        have HRD := Lib.hid hrd
        clear hrd hml hsv
        go_wp2_with fail
        refine HRD.out.mono ?_
        rintro e v1 ⟨rfl, hb⟩
        replace HXA := Lib.hid ((hb.block _ (lt_of_block HXA.out)).trans HXA.out)
        replace HX3 := Lib.hid ((hb.block _ (lt_of_block HX3.out)).trans HX3.out)
        replace HBA := Lib.hid (below_to HBA.out hb)
        replace HVS := Lib.hid ((HVS.out.same (.below (Nat.le_refl _) hb)).up hb.size)
        clear hb HRD c1 d0 d1 l0 l2
        cases hz : readyB n (cs.map turnC) with
        | false =>
          go_wp2_with fail
          refine (awake_any v1).mono ?_
          rintro e u2 ⟨rfl, hb⟩
          have HBF := Lib.hid (below_to HBA.out hb)
          clear hb
          go_wp2
          go_ret
          exact ⟨rfl, HBF.out⟩
        | true =>
          have HOK2 := Lib.hid (readyB_ok hz)
          have HAL2 := Lib.hid fun w' v' (h : CmsV w'.heap.size w' v' (cs.map turnC)) => Album_any w'.heap.size n v' (cs.map turnC) w' (by rw [turn_len]; omega) h (Nat.le_refl _)
          clear hz
          obtain ⟨N, rfl⟩ : ∃ N : Nat, n = (N : Int) := ⟨n.toNat, by omega⟩
          have hN8 : N ≤ 8 := by omega
          rcases turn_dist HOK.out HOK2.out with ⟨hd, hd'⟩ | ⟨d, d', hd, hd', hdd⟩
          · have HD := Lib.hid hd
            have HD2 := Lib.hid hd'
            clear hd hd'
            have c0 := cell_of_row v1 w.heap.size 0 _ _ _ HXA.out
            have c1 := cell_of_row v1 w.heap.size 1 _ _ _ HXA.out
            simp only [List.getElem?_toArray, List.getElem?_cons_zero, List.getElem?_cons_succ] at c0 c1
            have lc := lt_of_block HXA.out
            go_wp2_with fail
            clear c0 c1 lc
            refine (HAL.out v1 HBA.out).mono ?_
            rintro e u3 ⟨⟨r1, rfl, ho⟩, hb⟩
            replace HXA := Lib.hid ((hb.block _ (lt_of_block HXA.out)).trans HXA.out)
            replace HX3 := Lib.hid ((hb.block _ (lt_of_block HX3.out)).trans HX3.out)
            replace HBA := Lib.hid (below_to HBA.out hb)
            replace HVS := Lib.hid ((HVS.out.same (.below (Nat.le_refl _) hb)).up hb.size)
            clear hb
            have HV1 := Lib.hid (own_cms (l := cs) ho)
            clear ho
            go_wp2_with fail
            refine (Grades_none HOK.out HV1.out HD.out).mono ?_
            rintro e u4 ⟨rfl, hb⟩
            replace HXA := Lib.hid ((hb.block _ (lt_of_block HXA.out)).trans HXA.out)
            replace HX3 := Lib.hid ((hb.block _ (lt_of_block HX3.out)).trans HX3.out)
            replace HBA := Lib.hid (below_to HBA.out hb)
            replace HVS := Lib.hid ((HVS.out.same (.below (Nat.le_refl _) hb)).up hb.size)
            replace HV1 := Lib.hid ((HV1.out.same (.below (Nat.le_refl _) hb)).up hb.size)
            clear hb
            clear HV1
            have c0 := cell_of_row u4 b3 0 _ _ _ HX3.out
            have c1 := cell_of_row u4 b3 1 _ _ _ HX3.out
            simp only [List.getElem?_toArray, List.getElem?_cons_zero, List.getElem?_cons_succ] at c0 c1
            have lc := lt_of_block HX3.out
            go_wp2_with fail
            clear c0 c1 lc
            refine (HAL2.out u4 _ HVS.out).mono ?_
            rintro e u5 ⟨⟨r3, rfl, ho⟩, hb⟩
            replace HXA := Lib.hid ((hb.block _ (lt_of_block HXA.out)).trans HXA.out)
            replace HX3 := Lib.hid ((hb.block _ (lt_of_block HX3.out)).trans HX3.out)
            replace HBA := Lib.hid (below_to HBA.out hb)
            replace HVS := Lib.hid ((HVS.out.same (.below (Nat.le_refl _) hb)).up hb.size)
            clear hb
            have HV1 := Lib.hid (own_cms (l := cs.map turnC) ho)
            clear ho
            go_wp2_with fail
            refine (Grades_none HOK2.out HV1.out HD2.out).mono ?_
            rintro e u6 ⟨rfl, hb⟩
            replace HXA := Lib.hid ((hb.block _ (lt_of_block HXA.out)).trans HXA.out)
            replace HX3 := Lib.hid ((hb.block _ (lt_of_block HX3.out)).trans HX3.out)
            replace HBA := Lib.hid (below_to HBA.out hb)
            replace HVS := Lib.hid ((HVS.out.same (.below (Nat.le_refl _) hb)).up hb.size)
            replace HV1 := Lib.hid ((HV1.out.same (.below (Nat.le_refl _) hb)).up hb.size)
            clear hb
            clear HV1
            clear HVS
            clear HX3
            clear HXA
            go_wp2_with fail
            go_loopw [11] (fun i wr => i = .int .i64 0 ∧ Hid (Below w.heap.size w wr)) (fun _ _ => 0)
            case atStart => exact ⟨rfl, HBA⟩
            case round =>
              clear HBA
              obtain ⟨rfl, HBA⟩ := hrel
              go_wp2_with fail
              refine (awake_any wr).mono ?_
              rintro e u7 ⟨rfl, hb⟩
              have HBF := Lib.hid (below_to HBA.out hb)
              clear hb
              go_wp2
              go_ret
              exact ⟨rfl, HBF.out⟩
          · have HD := Lib.hid hd
            have HD2 := Lib.hid hd'
            have HDD := Lib.hid hdd
            clear hd hd' hdd
            have c0 := cell_of_row v1 w.heap.size 0 _ _ _ HXA.out
            have c1 := cell_of_row v1 w.heap.size 1 _ _ _ HXA.out
            simp only [List.getElem?_toArray, List.getElem?_cons_zero, List.getElem?_cons_succ] at c0 c1
            have lc := lt_of_block HXA.out
            go_wp2_with fail
            clear c0 c1 lc
            refine (HAL.out v1 HBA.out).mono ?_
            rintro e u8 ⟨⟨r1, rfl, ho⟩, hb⟩
            replace HXA := Lib.hid ((hb.block _ (lt_of_block HXA.out)).trans HXA.out)
            replace HX3 := Lib.hid ((hb.block _ (lt_of_block HX3.out)).trans HX3.out)
            replace HBA := Lib.hid (below_to HBA.out hb)
            replace HVS := Lib.hid ((HVS.out.same (.below (Nat.le_refl _) hb)).up hb.size)
            clear hb
            have HV1 := Lib.hid (own_cms (l := cs) ho)
            clear ho
            go_wp2_with fail
            refine (Grades_some HOK.out HV1.out HD.out).mono ?_
            rintro e u9 ⟨⟨r2, rfl, hr2⟩, hb⟩
            replace HXA := Lib.hid ((hb.block _ (lt_of_block HXA.out)).trans HXA.out)
            replace HX3 := Lib.hid ((hb.block _ (lt_of_block HX3.out)).trans HX3.out)
            replace HBA := Lib.hid (below_to HBA.out hb)
            replace HVS := Lib.hid ((HVS.out.same (.below (Nat.le_refl _) hb)).up hb.size)
            replace HV1 := Lib.hid ((HV1.out.same (.below (Nat.le_refl _) hb)).up hb.size)
            clear hb
            have HG := Lib.hid hr2
            clear hr2
            clear HV1
            have c0 := cell_of_row u9 b3 0 _ _ _ HX3.out
            have c1 := cell_of_row u9 b3 1 _ _ _ HX3.out
            simp only [List.getElem?_toArray, List.getElem?_cons_zero, List.getElem?_cons_succ] at c0 c1
            have lc := lt_of_block HX3.out
            go_wp2_with fail
            clear c0 c1 lc
            refine (HAL2.out u9 _ HVS.out).mono ?_
            rintro e u10 ⟨⟨r3, rfl, ho⟩, hb⟩
            replace HXA := Lib.hid ((hb.block _ (lt_of_block HXA.out)).trans HXA.out)
            replace HX3 := Lib.hid ((hb.block _ (lt_of_block HX3.out)).trans HX3.out)
            replace HBA := Lib.hid (below_to HBA.out hb)
            replace HVS := Lib.hid ((HVS.out.same (.below (Nat.le_refl _) hb)).up hb.size)
            replace HG := Lib.hid ((HG.out.same (.below (Nat.le_refl _) hb)).up hb.size)
            clear hb
            have HV1 := Lib.hid (own_cms (l := cs.map turnC) ho)
            clear ho
            go_wp2_with fail
            refine (Grades_some HOK2.out HV1.out HD2.out).mono ?_
            rintro e u11 ⟨⟨r4, rfl, hr4⟩, hb⟩
            replace HXA := Lib.hid ((hb.block _ (lt_of_block HXA.out)).trans HXA.out)
            replace HX3 := Lib.hid ((hb.block _ (lt_of_block HX3.out)).trans HX3.out)
            replace HBA := Lib.hid (below_to HBA.out hb)
            replace HVS := Lib.hid ((HVS.out.same (.below (Nat.le_refl _) hb)).up hb.size)
            replace HG := Lib.hid ((HG.out.same (.below (Nat.le_refl _) hb)).up hb.size)
            replace HV1 := Lib.hid ((HV1.out.same (.below (Nat.le_refl _) hb)).up hb.size)
            clear hb
            have HH := Lib.hid hr4
            clear hr4
            clear HV1
            clear HVS
            clear HX3
            clear HXA
            obtain ⟨ga, gcap, hge, hgp⟩ := HG.out
            rw [grades_len] at hge hgp
            subst hge
            obtain ⟨ha, hcap, hhe, hhp⟩ := HH.out
            rw [grades_len] at hhe hhp
            subst hhe
            have HGP := Lib.hid hgp
            have HHP := Lib.hid hhp
            have hne : ((N : Int) != N) = false := by simp
            have HCA := Lib.hid (dist_some HOK.out HD.out)
            clear hgp hhp HG HH
            go_wp2_with fail
            clear hne
            go_loopw [11] (fun i wr => ∃ q : Nat, q ≤ N ∧ i = .int .i64 q ∧ Hid (Below u11.heap.size u11 wr)) (fun i _ => N - (intOf i).toNat)
            case atStart => exact ⟨0, Nat.zero_le _, rfl, Lib.hid (Below.refl _ _)⟩
            case round =>
              obtain ⟨q, hq, rfl, HU⟩ := hrel
              by_cases hlt : q < N
              · obtain ⟨gb, go, rfl, hgb, hgc⟩ := HGP.out (by omega)
                obtain ⟨hb_, ho_, rfl, hhb, hhc⟩ := HHP.out (by omega)
                have p1 := (HU.out.cell (p := ⟨gb, go + q * 2, none⟩) hgb).trans (hgc q hlt).1
                have p2 := (HU.out.cell (p := ⟨gb, go + q * 2 + 1, none⟩) hgb).trans (hgc q hlt).2
                have p3 := (HU.out.cell (p := ⟨hb_, ho_ + q * 2, none⟩) hhb).trans (hhc q hlt).1
                have p4 := (HU.out.cell (p := ⟨hb_, ho_ + q * 2 + 1, none⟩) hhb).trans (hhc q hlt).2
                rw [grades_at hlt] at p1 p2 p3 p4
                have hd2 := HDD.out (q + 1) (by omega) (by omega)
                have s1 := HCA.out.bound (a := 0) (b := q + 1) (by omega) (by omega)
                have s2 := HCA.out.bound (a := q + 1) (b := 0) (by omega) (by omega)
                simp only [hd2.1, hd2.2] at p1 p2 p3 p4
                have s3 : -100 ≤ -d (q + 1) 0 ∧ -d (q + 1) 0 ≤ 100 := by omega
                clear hd2 hgc hhc s2
                generalize -d (q + 1) 0 = X at *
                generalize d 0 (q + 1) = Y at *
                have hqn : (q : Int) < N := by omega
                have hwq : IntKind.i64.wrap ((q : Int) + 1) = (q : Int) + 1 := IntWalk.i64_in _ (by omega)
                have w1 : IntKind.i64.wrap (100 - X) = 100 - X := IntWalk.i64_in _ (by omega)
                have w2 : IntKind.i64.wrap (100 - Y) = 100 - Y := IntWalk.i64_in _ (by omega)
                have e1 : ((100 - Y) != (100 - Y)) = false := by simp
                have e2 : ((100 - X) != (100 - X)) = false := by simp
                go_wp2_with fail
                have g1 := cell_regrown p1
                have g2 := cell_regrown p2
                have g3 := cell_regrown p3
                have g4 := cell_regrown p4
                refine wp_region_quiet_below (by kernel_rfl) (by kernel_rfl) ?_
                repeat (quiet_step (fail))
                refine wpQuiet_nil ?_
                intro v9 hw'
                obtain ⟨⟨dq, osq⟩, hw''⟩ := hw'
                have hb := below_regrown wr dq osq
                rw [← hw''] at hb
                have HU9 := Lib.hid (below_to HU.out hb)
                clear hw'' g1 g2 g3 g4 p1 p2 p3 p4 hb HU s1 s3
                go_wp2
                go_roundw
                case rel => exact ⟨q + 1, by omega, by simp, HU9⟩
                case measure => simp [intOf]; omega
              · obtain rfl : q = N := by omega
                replace HBA := Lib.hid (below_to HBA.out HU.out)
                go_wp2_with fail
                refine (awake_any wr).mono ?_
                rintro e u12 ⟨rfl, hb⟩
                have HBF := Lib.hid (below_to HBA.out hb)
                clear hb
                go_wp2
                go_ret
                exact ⟨rfl, HBF.out⟩
end Go.Proofs.Ytplmlmmjfkbabaa
