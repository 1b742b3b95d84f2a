/- Which comparisons a program takes: contracts. No condition. -/
import Derived.Test.YtplmlmmjfkbabaaS
import Derived.Test.YtplmlmmjfkbabaaU
namespace Go.Proofs.Ytplmlmmjfkbabaa
open Go.RowKit Go.Shelf
attribute [local irreducible] arrV wpQuiet

set_option maxRecDepth 100000 in
set_option maxHeartbeats 2000000 in
theorem isComparison_any (n l r lo hi : Int) (v : Value) (hv : v.oneCell' = true) (w : World) :
    Calls Try.prog 68 #[.agg #[.int .i64 n, v], .agg #[.int .i64 l, .int .i64 r, .int .i64 lo, .int .i64 hi]] w fun e w' => e = .returned (.bool (cmB n ⟨l, r, lo, hi⟩)) ∧ Below w.heap.size w w' := by
  have e0 : cmB n ⟨l, r, lo, hi⟩ = (picB n l && (decide (r = -1) || picB n r) && decide (l ≠ r) && hasB (-100) 100 lo && hasB (-100) 100 hi && decide (lo ≤ hi)) := rfl
  have HL := Lib.hid (hasPicture_any n l v hv)
  have HR := Lib.hid (hasPicture_any n r v hv)
  have HO := Lib.hid (has_any (-100) 100 lo)
  have HI := Lib.hid (has_any (-100) 100 hi)
  have HD := Lib.hid everyDiff_any
  have HX := Lib.hid (box2 w (.cells #[.int .i64 n, v] 31) (.cells #[.int .i64 l, .int .i64 r, .int .i64 lo, .int .i64 hi] 67))
  have HB := Lib.hid (below2 w (.cells #[.int .i64 n, v] 31) (.cells #[.int .i64 l, .int .i64 r, .int .i64 lo, .int .i64 hi] 67))
  rw [e0]
  clear e0
  generalize picB n l = z1 at *
  generalize picB n r = z2 at *
  generalize hasB (-100) 100 lo = z3 at *
  generalize hasB (-100) 100 hi = z4 at *
  have key : ∀ (z : Bool) (w1 : World), Below w.heap.size w w1 → Hid (w1.heap[w.heap.size + 1]? = some (.cells #[.int .i64 l, .int .i64 r, .int .i64 lo, .int .i64 hi] 67 (0, 0))) → True := fun _ _ _ _ => trivial
  go_enter Try.func68, Try.ntmps68
  go_wp2_with fail
  generalize World.alloc (World.alloc w _) _ = W at *
  refine (HL.out _).mono ?_
  rintro e w1 ⟨rfl, hb1⟩
  have HX1 := Lib.hid (And.intro ((hb1.block _ (lt_of_block HX.out.1)).trans HX.out.1) ((hb1.block _ (lt_of_block HX.out.2)).trans HX.out.2))
  have HB1 := Lib.hid (below_to HB.out hb1)
  clear hb1 HX HB HL key
  have d0 := cell_of_row w1 w.heap.size 0 _ _ _ HX1.out.1
  have d1 := cell_of_row w1 w.heap.size 1 _ _ _ HX1.out.1
  have c0 := cell_of_row w1 (w.heap.size + 1) 0 _ _ _ HX1.out.2
  have c1 := cell_of_row w1 (w.heap.size + 1) 1 _ _ _ HX1.out.2
  have c2 := cell_of_row w1 (w.heap.size + 1) 2 _ _ _ HX1.out.2
  have c3 := cell_of_row w1 (w.heap.size + 1) 3 _ _ _ HX1.out.2
  simp only [List.getElem?_toArray, List.getElem?_cons_zero, List.getElem?_cons_succ] at d0 d1 c0 c1 c2 c3
  have l0 := lt_of_block HX1.out.1
  have l1 := lt_of_block HX1.out.2
  cases z1 with
  | false =>
    go_wp2
    clear d0 d1 c0 c1 l0 l1
    have g2 := cell_regrown c2
    have g3 := cell_regrown c3
    clear c2 c3
    refine wp_region_quiet_below (by kernel_rfl) (by kernel_rfl) ?_
    repeat (quiet_step (first | with_reducible exact Calls.regrown_of (HD.out _) | with_reducible exact Calls.regrown_of (HO.out _) | with_reducible exact Calls.regrown_of (HI.out _)))
    refine wpQuiet_nil ?_
    intro _ hw'
    obtain ⟨⟨dq, osq⟩, hw''⟩ := hw'
    subst hw''
    go_wp2
    go_ret
    exact ⟨ret_bool (by first | rfl | simp [er, en, hle1] | simp [er, en] | simp [er]), below_to HB1.out (below_regrown w1 dq osq)⟩
  | true =>
    by_cases hr : r = -1
    · have e1 : (r == -1) = true := by simp [hr]
      have er : decide (r = -1) = true := by simp [hr]
      clear hr
      by_cases hlr : l = r
      · have e1 : (l != r) = false := by simp [hlr]
        have en : decide (l ≠ r) = false := by simp [hlr]
        clear hlr
        go_wp2
        clear d0 d1 c0 c1 l0 l1
        have g2 := cell_regrown c2
        have g3 := cell_regrown c3
        clear c2 c3
        refine wp_region_quiet_below (by kernel_rfl) (by kernel_rfl) ?_
        repeat (quiet_step (first | with_reducible exact Calls.regrown_of (HD.out _) | with_reducible exact Calls.regrown_of (HO.out _) | with_reducible exact Calls.regrown_of (HI.out _)))
        refine wpQuiet_nil ?_
        intro _ hw'
        obtain ⟨⟨dq, osq⟩, hw''⟩ := hw'
        subst hw''
        go_wp2
        go_ret
        exact ⟨ret_bool (by first | rfl | simp [er, en, hle1] | simp [er, en] | simp [er]), below_to HB1.out (below_regrown w1 dq osq)⟩
      · have e1 : (l != r) = true := by simp [hlr]
        have en : decide (l ≠ r) = true := by simp [hlr]
        clear hlr
        go_wp2
        clear d0 d1 c0 c1 l0 l1
        have g2 := cell_regrown c2
        have g3 := cell_regrown c3
        clear c2 c3
        cases z3 with
        | false =>
          refine wp_region_quiet_below (by kernel_rfl) (by kernel_rfl) ?_
          repeat (quiet_step (first | with_reducible exact Calls.regrown_of (HD.out _) | with_reducible exact Calls.regrown_of (HO.out _) | with_reducible exact Calls.regrown_of (HI.out _)))
          refine wpQuiet_nil ?_
          intro _ hw'
          obtain ⟨⟨dq, osq⟩, hw''⟩ := hw'
          subst hw''
          go_wp2
          go_ret
          exact ⟨ret_bool (by first | rfl | simp [er, en, hle1] | simp [er, en] | simp [er]), below_to HB1.out (below_regrown w1 dq osq)⟩
        | true =>
          cases z4 with
          | false =>
            refine wp_region_quiet_below (by kernel_rfl) (by kernel_rfl) ?_
            repeat (quiet_step (first | with_reducible exact Calls.regrown_of (HD.out _) | with_reducible exact Calls.regrown_of (HO.out _) | with_reducible exact Calls.regrown_of (HI.out _)))
            refine wpQuiet_nil ?_
            intro _ hw'
            obtain ⟨⟨dq, osq⟩, hw''⟩ := hw'
            subst hw''
            go_wp2
            go_ret
            exact ⟨ret_bool (by first | rfl | simp [er, en, hle1] | simp [er, en] | simp [er]), below_to HB1.out (below_regrown w1 dq osq)⟩
          | true =>
            by_cases hle : lo ≤ hi
            · have hle1 : decide (lo ≤ hi) = true := decide_eq_true hle
              refine wp_region_quiet_below (by kernel_rfl) (by kernel_rfl) ?_
              repeat (quiet_step (first | with_reducible exact Calls.regrown_of (HD.out _) | with_reducible exact Calls.regrown_of (HO.out _) | with_reducible exact Calls.regrown_of (HI.out _)))
              refine wpQuiet_nil ?_
              intro _ hw'
              obtain ⟨⟨dq, osq⟩, hw''⟩ := hw'
              subst hw''
              go_wp2
              go_ret
              exact ⟨ret_bool (by first | rfl | simp [er, en, hle1] | simp [er, en] | simp [er]), below_to HB1.out (below_regrown w1 dq osq)⟩
            · have hle1 : decide (lo ≤ hi) = false := decide_eq_false hle
              refine wp_region_quiet_below (by kernel_rfl) (by kernel_rfl) ?_
              repeat (quiet_step (first | with_reducible exact Calls.regrown_of (HD.out _) | with_reducible exact Calls.regrown_of (HO.out _) | with_reducible exact Calls.regrown_of (HI.out _)))
              refine wpQuiet_nil ?_
              intro _ hw'
              obtain ⟨⟨dq, osq⟩, hw''⟩ := hw'
              subst hw''
              go_wp2
              go_ret
              exact ⟨ret_bool (by first | rfl | simp [er, en, hle1] | simp [er, en] | simp [er]), below_to HB1.out (below_regrown w1 dq osq)⟩
    · have e1 : (r == -1) = false := by simp [hr]
      have er : decide (r = -1) = false := by simp [hr]
      clear hr
      go_wp2_with fail
      refine (HR.out _).mono ?_
      rintro e w2 ⟨rfl, hb2⟩
      have HX2 := Lib.hid (And.intro ((hb2.block _ (lt_of_block HX1.out.1)).trans HX1.out.1) ((hb2.block _ (lt_of_block HX1.out.2)).trans HX1.out.2))
      have HB2 := Lib.hid (below_to HB1.out hb2)
      clear hb2 HX1 HB1 HR d0 d1 c0 c1 c2 c3 l0 l1
      have d0 := cell_of_row w2 w.heap.size 0 _ _ _ HX2.out.1
      have d1 := cell_of_row w2 w.heap.size 1 _ _ _ HX2.out.1
      have c0 := cell_of_row w2 (w.heap.size + 1) 0 _ _ _ HX2.out.2
      have c1 := cell_of_row w2 (w.heap.size + 1) 1 _ _ _ HX2.out.2
      have c2 := cell_of_row w2 (w.heap.size + 1) 2 _ _ _ HX2.out.2
      have c3 := cell_of_row w2 (w.heap.size + 1) 3 _ _ _ HX2.out.2
      simp only [List.getElem?_toArray, List.getElem?_cons_zero, List.getElem?_cons_succ] at d0 d1 c0 c1 c2 c3
      have l0 := lt_of_block HX2.out.1
      have l1 := lt_of_block HX2.out.2
      cases z2 with
      | false =>
        go_wp2
        clear d0 d1 c0 c1 l0 l1
        have g2 := cell_regrown c2
        have g3 := cell_regrown c3
        clear c2 c3
        refine wp_region_quiet_below (by kernel_rfl) (by kernel_rfl) ?_
        repeat (quiet_step (first | with_reducible exact Calls.regrown_of (HD.out _) | with_reducible exact Calls.regrown_of (HO.out _) | with_reducible exact Calls.regrown_of (HI.out _)))
        refine wpQuiet_nil ?_
        intro _ hw'
        obtain ⟨⟨dq, osq⟩, hw''⟩ := hw'
        subst hw''
        go_wp2
        go_ret
        exact ⟨ret_bool (by first | rfl | simp [er, en, hle1] | simp [er, en] | simp [er]), below_to HB2.out (below_regrown w2 dq osq)⟩
      | true =>
        by_cases hlr : l = r
        · have e1 : (l != r) = false := by simp [hlr]
          have en : decide (l ≠ r) = false := by simp [hlr]
          clear hlr
          go_wp2
          clear d0 d1 c0 c1 l0 l1
          have g2 := cell_regrown c2
          have g3 := cell_regrown c3
          clear c2 c3
          refine wp_region_quiet_below (by kernel_rfl) (by kernel_rfl) ?_
          repeat (quiet_step (first | with_reducible exact Calls.regrown_of (HD.out _) | with_reducible exact Calls.regrown_of (HO.out _) | with_reducible exact Calls.regrown_of (HI.out _)))
          refine wpQuiet_nil ?_
          intro _ hw'
          obtain ⟨⟨dq, osq⟩, hw''⟩ := hw'
          subst hw''
          go_wp2
          go_ret
          exact ⟨ret_bool (by first | rfl | simp [er, en, hle1] | simp [er, en] | simp [er]), below_to HB2.out (below_regrown w2 dq osq)⟩
        · have e1 : (l != r) = true := by simp [hlr]
          have en : decide (l ≠ r) = true := by simp [hlr]
          clear hlr
          go_wp2
          clear d0 d1 c0 c1 l0 l1
          have g2 := cell_regrown c2
          have g3 := cell_regrown c3
          clear c2 c3
          cases z3 with
          | false =>
            refine wp_region_quiet_below (by kernel_rfl) (by kernel_rfl) ?_
            repeat (quiet_step (first | with_reducible exact Calls.regrown_of (HD.out _) | with_reducible exact Calls.regrown_of (HO.out _) | with_reducible exact Calls.regrown_of (HI.out _)))
            refine wpQuiet_nil ?_
            intro _ hw'
            obtain ⟨⟨dq, osq⟩, hw''⟩ := hw'
            subst hw''
            go_wp2
            go_ret
            exact ⟨ret_bool (by first | rfl | simp [er, en, hle1] | simp [er, en] | simp [er]), below_to HB2.out (below_regrown w2 dq osq)⟩
          | true =>
            cases z4 with
            | false =>
              refine wp_region_quiet_below (by kernel_rfl) (by kernel_rfl) ?_
              repeat (quiet_step (first | with_reducible exact Calls.regrown_of (HD.out _) | with_reducible exact Calls.regrown_of (HO.out _) | with_reducible exact Calls.regrown_of (HI.out _)))
              refine wpQuiet_nil ?_
              intro _ hw'
              obtain ⟨⟨dq, osq⟩, hw''⟩ := hw'
              subst hw''
              go_wp2
              go_ret
              exact ⟨ret_bool (by first | rfl | simp [er, en, hle1] | simp [er, en] | simp [er]), below_to HB2.out (below_regrown w2 dq osq)⟩
            | true =>
              by_cases hle : lo ≤ hi
              · have hle1 : decide (lo ≤ hi) = true := decide_eq_true hle
                refine wp_region_quiet_below (by kernel_rfl) (by kernel_rfl) ?_
                repeat (quiet_step (first | with_reducible exact Calls.regrown_of (HD.out _) | with_reducible exact Calls.regrown_of (HO.out _) | with_reducible exact Calls.regrown_of (HI.out _)))
                refine wpQuiet_nil ?_
                intro _ hw'
                obtain ⟨⟨dq, osq⟩, hw''⟩ := hw'
                subst hw''
                go_wp2
                go_ret
                exact ⟨ret_bool (by first | rfl | simp [er, en, hle1] | simp [er, en] | simp [er]), below_to HB2.out (below_regrown w2 dq osq)⟩
              · have hle1 : decide (lo ≤ hi) = false := decide_eq_false hle
                refine wp_region_quiet_below (by kernel_rfl) (by kernel_rfl) ?_
                repeat (quiet_step (first | with_reducible exact Calls.regrown_of (HD.out _) | with_reducible exact Calls.regrown_of (HO.out _) | with_reducible exact Calls.regrown_of (HI.out _)))
                refine wpQuiet_nil ?_
                intro _ hw'
                obtain ⟨⟨dq, osq⟩, hw''⟩ := hw'
                subst hw''
                go_wp2
                go_ret
                exact ⟨ret_bool (by first | rfl | simp [er, en, hle1] | simp [er, en] | simp [er]), below_to HB2.out (below_regrown w2 dq osq)⟩
end Go.Proofs.Ytplmlmmjfkbabaa
