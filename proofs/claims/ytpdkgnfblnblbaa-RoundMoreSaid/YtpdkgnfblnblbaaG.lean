/- Which laboratories and rounds are valid: contracts. Condition: the lists are short. -/
import Derived.Test.YtpdkgnfblnblbaaE
namespace Go.Proofs.Ytpdkgnfblnblbaa
open Go.RowKit Go.Shelf
attribute [local irreducible] arrV wpQuiet
set_option maxRecDepth 100000 in
set_option maxHeartbeats 1000000 in
theorem isLab_any (n : Nat) (p : Rp) (R : Rd) (x : Lb) (r : Value) (w : World) (hs : R.smp.length ≤ 8) (hr : IntsV n w r x.rs) (hn : n ≤ w.heap.size) :
    Calls Try.prog 81 #[rdV p R, .agg #[.int .i64 x.tol, r]] w fun e w' => e = .returned (.bool (labB R.smp.length x)) ∧ Below w.heap.size w w' := by
  have HT := Lib.hid everyTol_any
  have HH := Lib.hid (has_any 0 100 x.tol)
  have HE := Lib.hid fun (hl : x.rs.length ≤ maxLen) w' (h : Below w.heap.size w w') => each_int n 90 #[] r x.rs (fun q => readB (ld x.rs q)) w' hl (hr.same (.below hn h)) (Nat.le_trans hn h.size) (fun _ _ => rfl) (fun q w2 _ _ _ => isReading_any _ w2)
  rw [allN_ints readB] at HE
  obtain ⟨ra, rc, rfl, -⟩ := hr
  have HX := Lib.hid (box2 w (.cells #[.slice p.la R.lots.length p.lc, .slice p.sa R.smp.length p.sc, .int .i64 R.sp, .slice p.ba R.labs.length p.bc] 34) (.cells #[.int .i64 x.tol, .slice ra x.rs.length rc] 60))
  have HB := Lib.hid (below2 w (.cells #[.slice p.la R.lots.length p.lc, .slice p.sa R.smp.length p.sc, .int .i64 R.sp, .slice p.ba R.labs.length p.bc] 34) (.cells #[.int .i64 x.tol, .slice ra x.rs.length rc] 60))
  have e0 : labB R.smp.length x = (hasB 0 100 x.tol && decide ((x.rs.length : Int) = R.smp.length) && x.rs.all readB) := rfl
  rw [e0]
  clear e0
  generalize hasB 0 100 x.tol = z1 at *
  generalize x.rs.all readB = z3 at *
  unfold rdV
  go_enter Try.func81, Try.ntmps81
  go_wp2
  generalize World.alloc (World.alloc w _) _ = W at *
  have a0 := cell_of_row W w.heap.size 0 _ _ _ HX.out.1
  have a1 := cell_of_row W w.heap.size 1 _ _ _ HX.out.1
  have a2 := cell_of_row W w.heap.size 2 _ _ _ HX.out.1
  have a3 := cell_of_row W w.heap.size 3 _ _ _ HX.out.1
  simp only [List.getElem?_toArray, List.getElem?_cons_zero, List.getElem?_cons_succ] at a0 a1 a2 a3
  have c0 := cell_of_row W (w.heap.size + 1) 0 _ _ _ HX.out.2
  have c1 := cell_of_row W (w.heap.size + 1) 1 _ _ _ HX.out.2
  simp only [List.getElem?_toArray, List.getElem?_cons_zero, List.getElem?_cons_succ] at c0 c1
  have d1 := cell_regrown a1
  have d2 := cell_regrown c0
  have d3 := cell_regrown c1
  clear a0 a1 a2 a3 c0 c1
  cases z1 with
  | false =>
    refine wp_region_quiet_below (by kernel_rfl) (by kernel_rfl) ?_
    repeat (quiet_step (first | with_reducible exact Calls.regrown_of (HT.out _) | with_reducible exact Calls.regrown_of (HH.out _)))
    refine wpQuiet_nil ?_
    intro _ hw'
    obtain ⟨⟨dq, osq⟩, hw''⟩ := hw'
    subst hw''
    go_wp2
    go_ret
    exact ⟨ret_bool (by first | rfl | simp [er]), below_to HB.out (below_regrown W dq osq)⟩
  | true =>
    by_cases hl : x.rs.length = R.smp.length
    · have er : decide ((x.rs.length : Int) = R.smp.length) = true := by simp [hl]
      have e1 : ((x.rs.length : Int) == R.smp.length) = true := by simp [hl]
      replace HE := Lib.hid (HE.out (by unfold maxLen; omega))
      have HER := Lib.hid er
      clear hl er hs
      refine wp_region_quiet_below (by kernel_rfl) (by kernel_rfl) ?_
      repeat (quiet_step (first | with_reducible exact Calls.regrown_of (HT.out _) | with_reducible exact Calls.regrown_of (HH.out _) | with_reducible exact Calls.regrown_of (HE.out _ (HB.out.trans ((below_regrown _ _ _).mono (by have := HB.out.size; omega))))))
      refine wpQuiet_nil ?_
      intro _ hw'
      obtain ⟨⟨dq, osq⟩, hw''⟩ := hw'
      subst hw''
      go_wp2
      go_ret
      exact ⟨ret_bool (by rw [HER.out]; simp), below_to HB.out (below_regrown W dq osq)⟩
    · have er : decide ((x.rs.length : Int) = R.smp.length) = false := decide_eq_false (by omega)
      have e1 : ((x.rs.length : Int) == R.smp.length) = false := by rw [beq_eq_false_iff_ne]; omega
      have HER := Lib.hid er
      clear hl er hs HE
      refine wp_region_quiet_below (by kernel_rfl) (by kernel_rfl) ?_
      repeat (quiet_step (first | with_reducible exact Calls.regrown_of (HT.out _) | with_reducible exact Calls.regrown_of (HH.out _)))
      refine wpQuiet_nil ?_
      intro _ hw'
      obtain ⟨⟨dq, osq⟩, hw''⟩ := hw'
      subst hw''
      go_wp2
      go_ret
      exact ⟨ret_bool (by rw [HER.out]; simp), below_to HB.out (below_regrown W dq osq)⟩

set_option maxRecDepth 100000 in
set_option maxHeartbeats 2000000 in
theorem isValid_any (n : Nat) (p : Rp) (R : Rd) (w : World) (hs : shortB R = true) (hV : RdV n w p R) (hn : n ≤ w.heap.size) :
    Calls Try.prog 57 #[rdV p R] w fun e w' => e = .returned (.bool (validB R)) ∧ Below w.heap.size w w' := by
  simp only [shortB, Bool.and_eq_true, decide_eq_true_eq] at hs
  obtain ⟨⟨hs1, hs2⟩, hs3⟩ := hs
  have HT := Lib.hid everyTol_any
  have HH := Lib.hid (has_any 0 100 R.sp)
  have HL := Lib.hid fun w' (h : Below w.heap.size w w') => each_rg n 76 #[] (lotsV p R) R.lots (fun q => lotB (rg R.lots q)) w' (by unfold maxLen; omega) (hV.lots.same (.below hn h)) (Nat.le_trans hn h.size) (fun _ _ => rfl) (fun q w2 _ _ _ => isLot_any _ w2)
  have HS := Lib.hid fun w' (h : Below w.heap.size w w') => each_int n 77 #[rdV p R] (smpV p R) R.smp (fun q => placeB R.lots.length (ld R.smp q)) w' (by unfold maxLen; omega) (hV.smp.same (.below hn h)) (Nat.le_trans hn h.size) (fun _ _ => rfl) (fun q w2 _ _ _ => hasLot_any p R _ w2)
  have HK := Lib.hid fun w' (h : Below w.heap.size w w') => each_lab n 81 #[rdV p R] (labsV p R) R.labs (fun q => labB R.smp.length (lb R.labs q)) w' (by unfold maxLen; omega) (hV.labs.same (.below hn h)) (Nat.le_trans hn h.size) (fun _ _ => rfl) (fun q r w2 _ _ h2 h3 => isLab_any n p R _ r w2 (by omega) h3 h2)
  rw [allN_rgs lotB] at HL
  rw [allN_ints (placeB R.lots.length)] at HS
  rw [allN_labs (labB R.smp.length)] at HK
  have HX := Lib.hid (heap_alloc_new w (.cells #[.slice p.la R.lots.length p.lc, .slice p.sa R.smp.length p.sc, .int .i64 R.sp, .slice p.ba R.labs.length p.bc] 34))
  have HB := Lib.hid (box_below w (.cells #[.slice p.la R.lots.length p.lc, .slice p.sa R.smp.length p.sc, .int .i64 R.sp, .slice p.ba R.labs.length p.bc] 34))
  have e0 : validB R = (decide (0 < R.lots.length) && R.lots.all lotB && R.smp.all (placeB R.lots.length) && hasB 0 100 R.sp && R.labs.all (labB R.smp.length)) := rfl
  rw [e0]
  clear e0 hs1 hs2 hs3 hV
  generalize R.lots.all lotB = z0 at *
  generalize R.smp.all (placeB R.lots.length) = z1 at *
  generalize hasB 0 100 R.sp = z2 at *
  generalize R.labs.all (labB R.smp.length) = z3 at *
  unfold rdV at *
  unfold lotsV at HL
  unfold smpV at HS
  unfold labsV at HK
  by_cases h0 : 0 < R.lots.length
  · have er0 : decide (0 < R.lots.length) = true := decide_eq_true h0
    have q1 : decide ((0 : Int) < R.lots.length) = true := decide_eq_true (by omega)
    rw [er0]
    clear er0
    go_enter Try.func57, Try.ntmps57
    go_wp2_with fail
    generalize World.alloc w _ = W at *
    refine (HL.out _ HB.out).mono ?_
    rintro e W1 ⟨rfl, hb⟩
    replace HX := Lib.hid ((hb.block _ (lt_of_block HX.out)).trans HX.out)
    replace HB := Lib.hid (below_to HB.out hb)
    clear hb HL q1 h0
    go_wp2
    have a0 := cell_of_row W1 w.heap.size 0 _ _ _ HX.out
    have a1 := cell_of_row W1 w.heap.size 1 _ _ _ HX.out
    have a2 := cell_of_row W1 w.heap.size 2 _ _ _ HX.out
    have a3 := cell_of_row W1 w.heap.size 3 _ _ _ HX.out
    simp only [List.getElem?_toArray, List.getElem?_cons_zero, List.getElem?_cons_succ] at a0 a1 a2 a3
    have d0 := cell_regrown a0
    have d1 := cell_regrown a1
    have d2 := cell_regrown a2
    have d3 := cell_regrown a3
    clear a0 a1 a2 a3
    cases z0 with
    | false =>
      refine wp_region_quiet_below (by kernel_rfl) (by kernel_rfl) ?_
      repeat (quiet_step (first | fail))
      refine wpQuiet_nil ?_
      intro _ hw'
      obtain ⟨⟨dq, osq⟩, hw''⟩ := hw'
      subst hw''
      go_wp2
      go_ret
      exact ⟨ret_bool (by first | rfl | simp [er]), below_to HB.out (below_regrown W1 dq osq)⟩
    | true =>
      cases z1 with
      | false =>
        refine wp_region_quiet_below (by kernel_rfl) (by kernel_rfl) ?_
        repeat (quiet_step (first | with_reducible exact Calls.regrown_of (HS.out _ (below_to HB.out (below_regrown _ _ _)))))
        refine wpQuiet_nil ?_
        intro _ hw'
        obtain ⟨⟨dq, osq⟩, hw''⟩ := hw'
        subst hw''
        go_wp2
        go_ret
        exact ⟨ret_bool (by first | rfl | simp [er]), below_to HB.out (below_regrown W1 dq osq)⟩
      | true =>
        cases z2 with
        | false =>
          refine wp_region_quiet_below (by kernel_rfl) (by kernel_rfl) ?_
          repeat (quiet_step (first | with_reducible exact Calls.regrown_of (HT.out _) | with_reducible exact Calls.regrown_of (HH.out _) | with_reducible exact Calls.regrown_of (HS.out _ (below_to HB.out (below_regrown _ _ _)))))
          refine wpQuiet_nil ?_
          intro _ hw'
          obtain ⟨⟨dq, osq⟩, hw''⟩ := hw'
          subst hw''
          go_wp2
          go_ret
          exact ⟨ret_bool (by first | rfl | simp [er]), below_to HB.out (below_regrown W1 dq osq)⟩
        | true =>
          refine wp_region_quiet_below (by kernel_rfl) (by kernel_rfl) ?_
          repeat (quiet_step (first | with_reducible exact Calls.regrown_of (HT.out _) | with_reducible exact Calls.regrown_of (HH.out _) | with_reducible exact Calls.regrown_of (HS.out _ (below_to HB.out (below_regrown _ _ _))) | with_reducible exact Calls.regrown_of (HK.out _ (below_to HB.out (below_regrown _ _ _)))))
          refine wpQuiet_nil ?_
          intro _ hw'
          obtain ⟨⟨dq, osq⟩, hw''⟩ := hw'
          subst hw''
          go_wp2
          go_ret
          exact ⟨ret_bool (by simp), below_to HB.out (below_regrown W1 dq osq)⟩
  · have er0 : decide (0 < R.lots.length) = false := decide_eq_false h0
    have q1 : decide ((0 : Int) < R.lots.length) = false := decide_eq_false (by omega)
    rw [er0]
    clear er0
    go_enter Try.func57, Try.ntmps57
    go_wp2
    generalize World.alloc w _ = W1 at *
    refine wp_region_quiet_below (by kernel_rfl) (by kernel_rfl) ?_
    repeat (quiet_step (first | fail))
    refine wpQuiet_nil ?_
    intro _ hw'
    obtain ⟨⟨dq, osq⟩, hw''⟩ := hw'
    subst hw''
    go_wp2
    go_ret
    exact ⟨ret_bool (by simp), below_to HB.out (below_regrown W1 dq osq)⟩
end Go.Proofs.Ytpdkgnfblnblbaa
