/- The reference's check of an album: contract. Condition: the list is no longer than any machine's. -/
import Derived.Test.YtplmlmmjfkbabaaY
namespace Go.Proofs.Ytplmlmmjfkbabaa
open Go.RowKit Go.Shelf
attribute [local irreducible] arrV wpQuiet mat shl

set_option maxHeartbeats 400000 in
theorem In_any (n lo hi : Int) (w : World) : Calls Try.prog 27 #[.int .i64 n, .int .i64 lo, .int .i64 hi] w fun e w' => e = .returned (.bool (hasB lo hi n)) ∧ Below w.heap.size w w' := by
  cases h1 : decide (lo ≤ n) with
  | false =>
    go_enter Try.func27, Try.ntmps27
    go_wp2
    all_goals
      go_ret
      refine ⟨ret_bool ?_, Below.refl _ _⟩
      simp [hasB] at *
      try omega
  | true =>
    go_enter Try.func27, Try.ntmps27
    go_wp2
    all_goals
      go_ret
      refine ⟨ret_bool ?_, Below.refl _ _⟩
      simp [hasB] at *
      try omega
theorem ref_cm (n : Int) (c : Cm) : cmB n c = (hasB 0 (n - 1) c.l && (hasB (-1) (n - 1) c.r && (!(c.l == c.r) && (hasB (-100) c.hi c.lo && !decide (100 < c.hi))))) := by
  rw [Bool.eq_iff_iff]
  simp only [cmB, hasB, Bool.and_eq_true, Bool.or_eq_true, decide_eq_true_eq, Bool.not_eq_true', beq_eq_false_iff_ne, decide_eq_false_iff_not]
  omega
def allE (n : Int) (cs : List Cm) : Int := if cs.all (cmB n) = true then 0 else 1
theorem fault_eq {n : Int} {cs : List Cm} (h1 : ¬ 12 < cs.length) (h2 : hasB 0 8 n = true) : faultA n cs = allE n cs := by
  simp only [hasB, decide_eq_true_eq] at h2
  unfold faultA allE
  rw [if_neg h1]
  cases h : cs.all (cmB n) <;> simp
  omega
theorem fault_1 {n : Int} {cs : List Cm} (h1 : ¬ 12 < cs.length) (h2 : hasB 0 8 n = false) : faultA n cs = 1 := by
  simp only [hasB, decide_eq_false_iff_not] at h2
  unfold faultA
  rw [if_neg h1, if_pos (by omega)]
theorem all_drop {n : Int} {cs : List Cm} {q : Nat} (h : q < cs.length) : (cs.drop q).all (cmB n) = (cmB n (cm cs q) && (cs.drop (q + 1)).all (cmB n)) := by
  have e : cm cs q = cs[q] := by simp [cm, h]
  rw [List.drop_eq_getElem_cons h, List.all_cons, e]

set_option maxRecDepth 100000 in
set_option maxHeartbeats 4000000 in
theorem Fault_any (m : Nat) (n : Int) (v : Value) (cs : List Cm) (w : World) (hl : cs.length ≤ maxLen) (hV : CmsV m w v cs) (hm : m ≤ w.heap.size) :
    Calls Try.prog 49 #[.agg #[.int .i64 n, v]] w fun e w' => e = .returned (.int .i64 (faultA n cs)) ∧ Below w.heap.size w w' := by
  have e3 : 12 < cs.length → faultA n cs = 3 := fun h => by unfold faultA; rw [if_pos h]
  have e1 : ¬ 12 < cs.length → hasB 0 8 n = false → faultA n cs = 1 := fault_1
  have e2 : ¬ 12 < cs.length → hasB 0 8 n = true → faultA n cs = allE n cs := fault_eq
  have eA : ∀ q, cs.all (cmB n) = (cs.drop q).all (cmB n) → (cs.drop q).all (cmB n) = false → allE n cs = 1 := fun q h1 h2 => by unfold allE; rw [h1, h2]; rfl
  have eB : cs.all (cmB n) = true → allE n cs = 0 := fun h => if_pos h
  have eN : hasB 0 8 n = true → 0 ≤ n ∧ n ≤ 8 := fun h => by simpa [hasB] using h
  have HEN := Lib.hid eN
  have HEA := Lib.hid eA
  have HEB := Lib.hid eB
  have I8 := Lib.hid (In_any n 0 8)
  obtain ⟨a, cap, rfl, hp⟩ := hV
  have HP := Lib.hid hp
  have HX := Lib.hid (heap_alloc_new w (.cells #[.int .i64 n, .slice a cs.length cap] 24))
  have HB := Lib.hid (box_below w (.cells #[.int .i64 n, .slice a cs.length cap] 24))
  unfold maxLen at hl
  generalize faultA n cs = F at *
  generalize allE n cs = A at *
  generalize hasB 0 8 n = z8 at *
  have E1 := Lib.hid e1
  have E2 := Lib.hid e2
  have E3 := Lib.hid e3
  clear e1 e2 e3 eA eB hp eN
  by_cases hc : 12 < cs.length
  · have hc1 : decide ((12 : Int) < cs.length) = true := decide_eq_true (by omega)
    have EF := Lib.hid (E3.out hc)
    clear hc
    go_enter Try.func49, Try.ntmps49
    go_wp2
    go_ret
    exact ⟨by rw [EF.out]; rfl, HB.out⟩
  · have hc1 : decide ((12 : Int) < cs.length) = false := decide_eq_false (by omega)
    have E1' := Lib.hid (E1.out hc)
    have E2' := Lib.hid (E2.out hc)
    have hlen : cs.length ≤ 12 := by omega
    clear hc E1 E2 E3
    go_enter Try.func49, Try.ntmps49
    go_wp2_with fail
    refine (I8.out _).mono ?_
    rintro e w1 ⟨rfl, hb1⟩
    have HX1 := Lib.hid ((hb1.block _ (lt_of_block HX.out)).trans HX.out)
    have HB1 := Lib.hid (below_to HB.out hb1)
    clear hb1 HX HB
    cases z8 with
    | false =>
      have EF := Lib.hid (E1'.out rfl)
      go_wp2
      go_ret
      exact ⟨by rw [EF.out]; rfl, HB1.out⟩
    | true =>
      have EF := Lib.hid (E2'.out rfl)
      have hn := HEN.out rfl
      clear E1' E2'
      go_wp2
      go_loopw [3] (fun i wr => ∃ q : Nat, q ≤ cs.length ∧ i = .int .i64 q ∧ Hid (cs.all (cmB n) = (cs.drop q).all (cmB n)) ∧ Hid (wr.heap[w.heap.size]? = some (.cells #[.int .i64 n, .slice a cs.length cap] 24 (0, 0))) ∧ Hid (Below w.heap.size w wr)) (fun i _ => cs.length - (intOf i).toNat)
      case atStart => exact ⟨0, Nat.zero_le _, rfl, Lib.hid rfl, HX1, HB1⟩
      case round =>
        clear HX1 HB1
        obtain ⟨q, hq, rfl, HG, HX1, HB1⟩ := hrel
        have c0 := cell_of_row wr w.heap.size 0 _ _ _ HX1.out
        have c1 := cell_of_row wr w.heap.size 1 _ _ _ HX1.out
        simp only [List.getElem?_toArray, List.getElem?_cons_zero, List.getElem?_cons_succ] at c0 c1
        have l0 := lt_of_block HX1.out
        by_cases hlt : q < cs.length
        · obtain ⟨b, off, rfl, hbn, hcc⟩ := HP.out (by omega)
          obtain ⟨h1, h2, h3, h4⟩ := hcc q hlt
          have hltb : b < w.heap.size := by omega
          have p1 := (HB1.out.cell (p := ⟨b, off + q * 4, none⟩) hltb).trans h1
          have p2 := (HB1.out.cell (p := ⟨b, off + q * 4 + 1, none⟩) hltb).trans h2
          have p3 := (HB1.out.cell (p := ⟨b, off + q * 4 + 2, none⟩) hltb).trans h3
          have p4 := (HB1.out.cell (p := ⟨b, off + q * 4 + 3, none⟩) hltb).trans h4
          have hqn : (q : Int) < cs.length := by omega
          have hw9 : IntKind.i64.wrap ((q : Int) + 1) = (q : Int) + 1 := IntWalk.i64_in _ (by omega)
          have hw8 : IntKind.i64.wrap (n - 1) = n - 1 := IntWalk.i64_in _ (by omega)
          have AD := all_drop (n := n) hlt
          rw [ref_cm] at AD
          have I1 := Lib.hid (In_any (cm cs q).l 0 (n - 1))
          have I2 := Lib.hid (In_any (cm cs q).r (-1) (n - 1))
          have I3 := Lib.hid (In_any (cm cs q).lo (-100) (cm cs q).hi)
          generalize (cm cs q).l = l at *
          generalize (cm cs q).r = r at *
          generalize (cm cs q).lo = lo at *
          generalize (cm cs q).hi = hi at *
          generalize hasB 0 (n - 1) l = z1 at *
          generalize hasB (-1) (n - 1) r = z2 at *
          generalize hasB (-100) hi lo = z3 at *
          have HAD := Lib.hid AD
          have hbx := box_below wr (.cells #[.int .i64 l, .int .i64 r, .int .i64 lo, .int .i64 hi] 73)
          have x2 := heap_alloc_new wr (.cells #[.int .i64 l, .int .i64 r, .int .i64 lo, .int .i64 hi] 73)
          have HY1 := Lib.hid (And.intro ((hbx.block _ (lt_of_block HX1.out)).trans HX1.out) x2)
          have HC1 := Lib.hid (below_to HB1.out hbx)
          clear hcc h1 h2 h3 h4 AD hbx x2
          go_wp2_with fail
          generalize World.alloc wr _ = v0 at *
          generalize wr.heap.size = bx at *
          clear c0 c1 l0 p1 p2 p3 p4 HX1 HB1
          refine (I1.out _).mono ?_
          rintro e v1 ⟨rfl, hb⟩
          have HY2 := Lib.hid (And.intro ((hb.block _ (lt_of_block HY1.out.1)).trans HY1.out.1) ((hb.block _ (lt_of_block HY1.out.2)).trans HY1.out.2))
          have HC2 := Lib.hid (below_to HC1.out hb)
          clear hb HY1 HC1
          have d0 := cell_of_row v1 w.heap.size 0 _ _ _ HY2.out.1
          have e0 := cell_of_row v1 bx 0 _ _ _ HY2.out.2
          have e1 := cell_of_row v1 bx 1 _ _ _ HY2.out.2
          have e2 := cell_of_row v1 bx 2 _ _ _ HY2.out.2
          have e3 := cell_of_row v1 bx 3 _ _ _ HY2.out.2
          simp only [List.getElem?_toArray, List.getElem?_cons_zero, List.getElem?_cons_succ] at d0 e0 e1 e2 e3
          have l0 := lt_of_block HY2.out.1
          have l1 := lt_of_block HY2.out.2
          cases z1 with
          | false =>
            have HT := Lib.hid (HEA.out q HG.out (by rw [HAD.out]; simp))
            go_wp2
            go_ret
            exact ⟨by rw [EF.out, HT.out]; rfl, HC2.out⟩
          | true =>
            go_wp2_with fail
            clear d0 e0 e1 e2 e3 l0 l1
            refine (I2.out _).mono ?_
            rintro e v2 ⟨rfl, hb⟩
            have HY3 := Lib.hid (And.intro ((hb.block _ (lt_of_block HY2.out.1)).trans HY2.out.1) ((hb.block _ (lt_of_block HY2.out.2)).trans HY2.out.2))
            have HC3 := Lib.hid (below_to HC2.out hb)
            clear hb HY2 HC2
            have d0 := cell_of_row v2 w.heap.size 0 _ _ _ HY3.out.1
            have e0 := cell_of_row v2 bx 0 _ _ _ HY3.out.2
            have e1 := cell_of_row v2 bx 1 _ _ _ HY3.out.2
            have e2 := cell_of_row v2 bx 2 _ _ _ HY3.out.2
            have e3 := cell_of_row v2 bx 3 _ _ _ HY3.out.2
            simp only [List.getElem?_toArray, List.getElem?_cons_zero, List.getElem?_cons_succ] at d0 e0 e1 e2 e3
            have l0 := lt_of_block HY3.out.1
            have l1 := lt_of_block HY3.out.2
            cases z2 with
            | false =>
              have HT := Lib.hid (HEA.out q HG.out (by rw [HAD.out]; simp))
              go_wp2
              go_ret
              exact ⟨by rw [EF.out, HT.out]; rfl, HC3.out⟩
            | true =>
              by_cases hlr : l = r
              · have g1 : (l == r) = true := by simp [hlr]
                have HT := Lib.hid (HEA.out q HG.out (by rw [HAD.out]; simp [hlr]))
                clear hlr
                go_wp2
                go_ret
                exact ⟨by rw [EF.out, HT.out]; rfl, HC3.out⟩
              · have g1 : (l == r) = false := by simp [hlr]
                have HLR := Lib.hid hlr
                clear hlr
                go_wp2_with fail
                clear d0 e0 e1 e2 e3 l0 l1
                refine (I3.out _).mono ?_
                rintro e v3 ⟨rfl, hb⟩
                have HY4 := Lib.hid (And.intro ((hb.block _ (lt_of_block HY3.out.1)).trans HY3.out.1) ((hb.block _ (lt_of_block HY3.out.2)).trans HY3.out.2))
                have HC4 := Lib.hid (below_to HC3.out hb)
                clear hb HY3 HC3
                have d0 := cell_of_row v3 w.heap.size 0 _ _ _ HY4.out.1
                have e0 := cell_of_row v3 bx 0 _ _ _ HY4.out.2
                have e1 := cell_of_row v3 bx 1 _ _ _ HY4.out.2
                have e2 := cell_of_row v3 bx 2 _ _ _ HY4.out.2
                have e3 := cell_of_row v3 bx 3 _ _ _ HY4.out.2
                simp only [List.getElem?_toArray, List.getElem?_cons_zero, List.getElem?_cons_succ] at d0 e0 e1 e2 e3
                have l0 := lt_of_block HY4.out.1
                have l1 := lt_of_block HY4.out.2
                cases z3 with
                | false =>
                  have HT := Lib.hid (HEA.out q HG.out (by rw [HAD.out]; simp))
                  go_wp2
                  go_ret
                  exact ⟨by rw [EF.out, HT.out]; rfl, HC4.out⟩
                | true =>
                  by_cases hhi : 100 < hi
                  · have g2 : decide (100 < hi) = true := decide_eq_true hhi
                    have HT := Lib.hid (HEA.out q HG.out (by rw [HAD.out]; simp [hhi]))
                    clear hhi
                    go_wp2
                    go_ret
                    exact ⟨by rw [EF.out, HT.out]; rfl, HC4.out⟩
                  · have g2 : decide (100 < hi) = false := decide_eq_false hhi
                    have HG1 := Lib.hid (HG.out.trans (HAD.out.trans (by simp [HLR.out, hhi] : _ = (cs.drop (q + 1)).all (cmB n))))
                    have HXX := Lib.hid HY4.out.1
                    clear hhi
                    go_wp2
                    go_roundw
                    case rel => exact ⟨q + 1, by omega, by simp, HG1, HXX, HC4⟩
                    case measure => simp [intOf]; omega
        · obtain rfl : q = cs.length := by omega
          have HT := Lib.hid (HEB.out (by rw [HG.out, List.drop_length]; rfl))
          go_wp2
          go_ret
          exact ⟨by rw [EF.out, HT.out]; rfl, HB1.out⟩
end Go.Proofs.Ytplmlmmjfkbabaa
