/- The small checks of the law and of the reference: contracts. -/
import Derived.Test.YtfjlnejeffkdoaaFF
namespace Go.Proofs.Ytfjlnejeffkdoaa
open Go.RowKit Go.Shelf
attribute [local irreducible] arrV wpQuiet

set_option maxHeartbeats 400000 in
theorem In_any (n lo hi : Int) (w : World) : Calls Try.prog 46 #[.int .i64 n, .int .i64 lo, .int .i64 hi] w fun e w' => e = .returned (.bool (hasB lo hi n)) ∧ Below w.heap.size w w' := by
  cases h1 : decide (lo ≤ n) with
  | false =>
    go_enter Try.func46, Try.ntmps46
    go_wp2
    all_goals
      go_ret
      refine ⟨ret_bool ?_, Below.refl _ _⟩
      simp [hasB] at *
      try omega
  | true =>
    go_enter Try.func46, Try.ntmps46
    go_wp2
    all_goals
      go_ret
      refine ⟨ret_bool ?_, Below.refl _ _⟩
      simp [hasB] at *
      try omega

set_option maxHeartbeats 400000 in
theorem Thin_any (a : Option Addr) (n cap : Nat) (w : World) : Calls Try.prog 15 #[.agg #[.slice a n cap]] w fun e w' => e = .returned (.bool (decide (n ≤ 25))) ∧ Below w.heap.size w w' := by
  go_enter Try.func15, Try.ntmps15
  go_wp2
  go_ret
  refine ⟨ret_bool ?_, box_below _ _⟩
  simp
  try omega

set_option maxHeartbeats 400000 in
theorem Rule_any (d k o : Int) (w : World) : Calls Try.prog 20 #[.agg #[.int .i64 d, .int .i64 k, .int .i64 o]] w fun e w' => e = .returned (.agg #[.int .i64 d, .int .i64 k, .int .i64 o]) ∧ Below w.heap.size w w' := by
  go_enter Try.func20, Try.ntmps20
  go_wp2
  refine bodyPost_ret (v := .agg #[.int .i64 d, .int .i64 k, .int .i64 o]) (by simp [results, Try.results20, go_sem]) rfl ⟨rfl, below2 _ _ _⟩

set_option maxHeartbeats 400000 in
theorem IsRule_any (d k o : Int) (w : World) : Calls Try.prog 51 #[.agg #[.int .i64 d, .int .i64 k, .int .i64 o]] w fun e w' => e = .returned (.bool (ruleB ⟨d, k, o⟩)) ∧ Below w.heap.size w w' := by
  have HI := Lib.hid In_any
  have e : ruleB ⟨d, k, o⟩ = (hasB 1 100000 d && (hasB 1 1000 k && hasB 0 1000 o)) := rfl
  rw [e]; clear e
  have hx := heap_alloc_new w (.cells #[.int .i64 d, .int .i64 k, .int .i64 o] 26)
  have hB := box_below w (.cells #[.int .i64 d, .int .i64 k, .int .i64 o] 26)
  go_enter Try.func51, Try.ntmps51
  go_wp2_with fail
  refine (HI.out _ _ _ _).mono ?_
  rintro e w1 ⟨rfl, hb1⟩
  replace hx := (hb1.block _ (lt_of_block hx)).trans hx
  replace hB := below_to hB hb1
  clear hb1
  have c1 := cell_of_row w1 w.heap.size 1 _ _ _ hx
  have c2 := cell_of_row w1 w.heap.size 2 _ _ _ hx
  simp at c1 c2
  have hl := lt_of_block hx
  cases h1 : hasB 1 100000 d with
  | false =>
    go_wp2
    go_ret
    exact ⟨by rw [h1]; rfl, hB⟩
  | true =>
    go_wp2_with fail
    refine (HI.out _ _ _ _).mono ?_
    rintro e w2 ⟨rfl, hb2⟩
    replace hx := (hb2.block _ (lt_of_block hx)).trans hx
    replace hB := below_to hB hb2
    clear hb2 c1 c2 hl
    have c2 := cell_of_row w2 w.heap.size 2 _ _ _ hx
    simp at c2
    have hl := lt_of_block hx
    cases h2 : hasB 1 1000 k with
    | false =>
      go_wp2
      go_ret
      exact ⟨by rw [h1, h2]; rfl, hB⟩
    | true =>
      go_wp2_with fail
      refine (HI.out _ _ _ _).mono ?_
      rintro e w3 ⟨rfl, hb3⟩
      replace hB := below_to hB hb3
      go_wp2
      go_ret
      exact ⟨by rw [h1, h2]; rfl, hB⟩

set_option maxHeartbeats 400000 in
theorem Fault_long (a : Option Addr) (n cap : Nat) (w : World) (h : 20 < n) (hm : n ≤ maxLen) : Calls Try.prog 23 #[.agg #[.slice a n cap]] w fun e w' => e = .returned (.int .i64 3) ∧ Below w.heap.size w w' := by
  unfold maxLen at hm
  have h' : (20 : Int) < n := by omega
  go_enter Try.func23, Try.ntmps23
  go_wp2
  go_ret
  exact ⟨rfl, box_below _ _⟩
set_option maxHeartbeats 400000 in
theorem Fault_empty (a : Option Addr) (cap : Nat) (w : World) : Calls Try.prog 23 #[.agg #[.slice a 0 cap]] w fun e w' => e = .returned (.int .i64 1) ∧ Below w.heap.size w w' := by
  have hX := Lib.hid (heap_alloc_new w (.cells #[.slice a 0 cap] 24))
  have hB := Lib.hid (box_below w (.cells #[.slice a 0 cap] 24))
  go_enter Try.func23, Try.ntmps23
  go_wp2
  go_loopw [3] (fun i wr => i = .int .i64 0 ∧ Hid (wr.heap[w.heap.size]? = some (.cells #[.slice a 0 cap] 24 (0, 0))) ∧ Hid (Below w.heap.size w wr)) (fun _ _ => 0)
  case atStart => exact ⟨rfl, hX, hB⟩
  case round =>
    obtain ⟨rfl, hx, hb⟩ := hrel
    have c0 := cell_of_row wr w.heap.size 0 _ _ _ hx.out
    simp at c0
    have hl := lt_of_block hx.out
    go_wp2
    go_ret
    exact ⟨rfl, hb.out⟩

set_option maxRecDepth 100000 in
set_option maxHeartbeats 4000000 in
theorem Fault_pts (b off cap : Nat) (ps : List Pt) (w : World) (hn : ps.length ≤ 20) (h0 : 0 < ps.length) (hp : PtsIn w b off ps) :
    Calls Try.prog 23 #[.agg #[.slice (some ⟨b, off, none⟩) ps.length cap]] w fun e w' => e = .returned (.int .i64 (ptsE ps)) ∧ Below w.heap.size w w' := by
  have hltb := block_lt_of_cell (hp 0 h0).1
  have hX := Lib.hid (heap_alloc_new w (.cells #[.slice (some ⟨b, off, none⟩) ps.length cap] 24))
  have hB := Lib.hid (box_below w (.cells #[.slice (some ⟨b, off, none⟩) ps.length cap] 24))
  have HI := Lib.hid In_any
  go_enter Try.func23, Try.ntmps23
  go_wp2
  go_loopw [3] (fun i wr => ∃ q : Nat, q ≤ ps.length ∧ i = .int .i64 q ∧ Hid (goodsB ps 0 = goodsB ps q) ∧ Hid (wr.heap[w.heap.size]? = some (.cells #[.slice (some ⟨b, off, none⟩) ps.length cap] 24 (0, 0))) ∧ Hid (Below w.heap.size w wr)) (fun i _ => ps.length - (intOf i).toNat)
  case atStart => exact ⟨0, Nat.zero_le _, rfl, Lib.hid rfl, hX, hB⟩
  case round =>
    obtain ⟨q, hq, rfl, hg, hx, hb⟩ := hrel
    have c0 := cell_of_row wr w.heap.size 0 _ _ _ hx.out
    simp at c0
    have hl := lt_of_block hx.out
    by_cases hlt : q < ps.length
    · have p1 := (hb.out.cell (p := ⟨b, off + q * 3, none⟩) hltb).trans (hp q hlt).1
      have p2 := (hb.out.cell (p := ⟨b, off + q * 3 + 1, none⟩) hltb).trans (hp q hlt).2.1
      have p3 := (hb.out.cell (p := ⟨b, off + q * 3 + 2, none⟩) hltb).trans (hp q hlt).2.2
      have p4 := (hb.out.cell (p := ⟨b, off + (q - 1) * 3, none⟩) hltb).trans (hp (q - 1) (by omega)).1
      have hqn : (q : Int) < ps.length := by omega
      have hltr : b < wr.heap.size := Nat.lt_of_lt_of_le hltb hb.out.size
      have er : risesB ps q = decide (q = 0 ∨ (pt ps (q - 1)).s < (pt ps q).s) := rfl
      have eg : goodB ps q = (risesB ps q && (hasB 0 1000 (pt ps q).s && withinB (pt ps q).lo (pt ps q).hi 0 100000)) := rfl
      have hw9 : IntKind.i64.wrap ((q : Int) + 1) = (q : Int) + 1 := IntWalk.i64_in _ (by omega)
      have Hyes := Lib.hid (goodsB_yes ps q)
      have Hno := Lib.hid (goodsB_no ps q hlt)
      generalize goodB ps q = gb at *
      generalize risesB ps q = ri at *
      generalize (pt ps q).s = s at *
      generalize (pt ps (q - 1)).s = s0 at *
      generalize (pt ps q).lo = lo at *
      generalize (pt ps q).hi = hi' at *
      have HI2 : Hid (∀ w, Calls Try.prog 46 #[.int .i64 lo, .int .i64 0, .int .i64 hi'] w fun e w' => e = .returned (.bool (hasB 0 hi' lo)) ∧ Below w.heap.size w w') := Lib.hid fun w => In_any lo 0 hi' w
      have HI1 : Hid (∀ w, Calls Try.prog 46 #[.int .i64 s, .int .i64 0, .int .i64 1000] w fun e w' => e = .returned (.bool (hasB 0 1000 s)) ∧ Below w.heap.size w w') := Lib.hid fun w => In_any s 0 1000 w
      cases h1 : hasB 0 1000 s with
      | false =>
        obtain rfl : gb = false := by rw [eg, h1]; simp
        rw [h1] at HI1
        clear h1 er eg
        go_wp2_with fail
        have hbx := box_below wr (.cells #[.int .i64 s, .int .i64 lo, .int .i64 hi'] 84)
        have hnx := heap_alloc_new wr (.cells #[.int .i64 s, .int .i64 lo, .int .i64 hi'] 84)
        have q0 := (hbx.cell (p := ⟨w.heap.size, 0, none⟩) hl).trans c0
        have q4 := (hbx.cell (p := ⟨b, _, none⟩) hltr).trans p4
        have hx2 := Lib.hid ((hbx.block _ hl).trans hx.out)
        generalize World.alloc wr _ = W at *
        have t0 := cell_of_row W wr.heap.size 0 _ _ _ hnx
        have t1 := cell_of_row W wr.heap.size 1 _ _ _ hnx
        have t2 := cell_of_row W wr.heap.size 2 _ _ _ hnx
        simp at t0 t1 t2
        have g0 := cell_regrown q0
        have g4 := cell_regrown q4
        have u0 := cell_regrown t0
        have u1 := cell_regrown t1
        have u2 := cell_regrown t2
        have hbW := Lib.hid (below_to hb.out hbx)
        clear c0 p1 p2 p3 p4 q0 q4 t0 t1 t2 hnx hx hb hltr
        refine wp_region_quiet_below (by kernel_rfl) (by kernel_rfl) ?_
        repeat (quiet_step (first | with_reducible exact Calls.regrown_of (HI1.out _) | with_reducible exact Calls.regrown_of (HI2.out _)))
        refine wpQuiet_nil ?_
        intro _ hw'
        obtain ⟨⟨dq, osq⟩, hw''⟩ := hw'
        subst hw''
        have hxr := Lib.hid ((below_regrown W dq osq).block _ (lt_of_block hx2.out) |>.trans hx2.out)
        have hbr := Lib.hid (below_to hbW.out (below_regrown W dq osq))
        go_wp2
        go_ret
        exact ⟨by have := Hno.out trivial; rw [ptsE_no (hg.out.trans this)]; rfl, hbr.out⟩
      | true =>
        rw [h1] at HI1
        rcases Nat.eq_zero_or_pos q with h0 | h0
        · have h0' : decide ((0 : Int) < (q : Int)) = false := by simp; omega
          have h0n : decide (0 < q) = false := by simp; omega
          obtain rfl : ri = true := by rw [er]; simp [h0]
          clear er h0
          cases h2 : hasB 0 hi' lo with
          | false =>
            obtain rfl : gb = false := by
              rw [eg]
              simp only [hasB, withinB, decide_eq_false_iff_not] at h2 ⊢
              simp
              intros
              omega
            rw [h2] at HI2
            clear h2 eg
            go_wp2_with fail
            have hbx := box_below wr (.cells #[.int .i64 s, .int .i64 lo, .int .i64 hi'] 84)
            have hnx := heap_alloc_new wr (.cells #[.int .i64 s, .int .i64 lo, .int .i64 hi'] 84)
            have q0 := (hbx.cell (p := ⟨w.heap.size, 0, none⟩) hl).trans c0
            have q4 := (hbx.cell (p := ⟨b, _, none⟩) hltr).trans p4
            have hx2 := Lib.hid ((hbx.block _ hl).trans hx.out)
            generalize World.alloc wr _ = W at *
            have t0 := cell_of_row W wr.heap.size 0 _ _ _ hnx
            have t1 := cell_of_row W wr.heap.size 1 _ _ _ hnx
            have t2 := cell_of_row W wr.heap.size 2 _ _ _ hnx
            simp at t0 t1 t2
            have g0 := cell_regrown q0
            have g4 := cell_regrown q4
            have u0 := cell_regrown t0
            have u1 := cell_regrown t1
            have u2 := cell_regrown t2
            have hbW := Lib.hid (below_to hb.out hbx)
            clear c0 p1 p2 p3 p4 q0 q4 t0 t1 t2 hnx hx hb hltr
            refine wp_region_quiet_below (by kernel_rfl) (by kernel_rfl) ?_
            repeat (quiet_step (first | with_reducible exact Calls.regrown_of (HI1.out _) | with_reducible exact Calls.regrown_of (HI2.out _)))
            refine wpQuiet_nil ?_
            intro _ hw'
            obtain ⟨⟨dq, osq⟩, hw''⟩ := hw'
            subst hw''
            have hxr := Lib.hid ((below_regrown W dq osq).block _ (lt_of_block hx2.out) |>.trans hx2.out)
            have hbr := Lib.hid (below_to hbW.out (below_regrown W dq osq))
            go_wp2
            go_ret
            exact ⟨by have := Hno.out trivial; rw [ptsE_no (hg.out.trans this)]; rfl, hbr.out⟩
          | true =>
            by_cases h3 : 100000 < hi'
            · obtain rfl : gb = false := by
                rw [eg]
                simp only [withinB]
                simp
                intros
                omega
              have h3' : decide (100000 < hi') = true := by simpa using h3
              rw [h2] at HI2
              clear h2 eg
              go_wp2_with fail
              have hbx := box_below wr (.cells #[.int .i64 s, .int .i64 lo, .int .i64 hi'] 84)
              have hnx := heap_alloc_new wr (.cells #[.int .i64 s, .int .i64 lo, .int .i64 hi'] 84)
              have q0 := (hbx.cell (p := ⟨w.heap.size, 0, none⟩) hl).trans c0
              have q4 := (hbx.cell (p := ⟨b, _, none⟩) hltr).trans p4
              have hx2 := Lib.hid ((hbx.block _ hl).trans hx.out)
              generalize World.alloc wr _ = W at *
              have t0 := cell_of_row W wr.heap.size 0 _ _ _ hnx
              have t1 := cell_of_row W wr.heap.size 1 _ _ _ hnx
              have t2 := cell_of_row W wr.heap.size 2 _ _ _ hnx
              simp at t0 t1 t2
              have g0 := cell_regrown q0
              have g4 := cell_regrown q4
              have u0 := cell_regrown t0
              have u1 := cell_regrown t1
              have u2 := cell_regrown t2
              have hbW := Lib.hid (below_to hb.out hbx)
              clear c0 p1 p2 p3 p4 q0 q4 t0 t1 t2 hnx hx hb hltr
              refine wp_region_quiet_below (by kernel_rfl) (by kernel_rfl) ?_
              repeat (quiet_step (first | with_reducible exact Calls.regrown_of (HI1.out _) | with_reducible exact Calls.regrown_of (HI2.out _)))
              refine wpQuiet_nil ?_
              intro _ hw'
              obtain ⟨⟨dq, osq⟩, hw''⟩ := hw'
              subst hw''
              have hxr := Lib.hid ((below_regrown W dq osq).block _ (lt_of_block hx2.out) |>.trans hx2.out)
              have hbr := Lib.hid (below_to hbW.out (below_regrown W dq osq))
              go_wp2
              go_ret
              exact ⟨by have := Hno.out trivial; rw [ptsE_no (hg.out.trans this)]; rfl, hbr.out⟩
            · obtain rfl : gb = true := by
                rw [eg, h1]
                simp only [hasB, withinB, decide_eq_true_eq] at h2 ⊢
                simp
                omega
              have h3' : decide (100000 < hi') = false := by simpa using h3
              have hq20 : q < 20 := by omega
              rw [h2] at HI2
              clear h2 eg
              go_wp2_with fail
              have hbx := box_below wr (.cells #[.int .i64 s, .int .i64 lo, .int .i64 hi'] 84)
              have hnx := heap_alloc_new wr (.cells #[.int .i64 s, .int .i64 lo, .int .i64 hi'] 84)
              have q0 := (hbx.cell (p := ⟨w.heap.size, 0, none⟩) hl).trans c0
              have q4 := (hbx.cell (p := ⟨b, _, none⟩) hltr).trans p4
              have hx2 := Lib.hid ((hbx.block _ hl).trans hx.out)
              generalize World.alloc wr _ = W at *
              have t0 := cell_of_row W wr.heap.size 0 _ _ _ hnx
              have t1 := cell_of_row W wr.heap.size 1 _ _ _ hnx
              have t2 := cell_of_row W wr.heap.size 2 _ _ _ hnx
              simp at t0 t1 t2
              have g0 := cell_regrown q0
              have g4 := cell_regrown q4
              have u0 := cell_regrown t0
              have u1 := cell_regrown t1
              have u2 := cell_regrown t2
              have hbW := Lib.hid (below_to hb.out hbx)
              clear c0 p1 p2 p3 p4 q0 q4 t0 t1 t2 hnx hx hb hltr
              refine wp_region_quiet_below (by kernel_rfl) (by kernel_rfl) ?_
              repeat (quiet_step (first | with_reducible exact Calls.regrown_of (HI1.out _) | with_reducible exact Calls.regrown_of (HI2.out _)))
              refine wpQuiet_nil ?_
              intro _ hw'
              obtain ⟨⟨dq, osq⟩, hw''⟩ := hw'
              subst hw''
              have hxr := Lib.hid ((below_regrown W dq osq).block _ (lt_of_block hx2.out) |>.trans hx2.out)
              have hbr := Lib.hid (below_to hbW.out (below_regrown W dq osq))
              go_wp2
              go_roundw
              case rel => exact ⟨q + 1, by omega, by simp, Lib.hid (hg.out.trans (Hyes.out trivial)), hxr, hbr⟩
              case measure => simp [intOf] <;> omega
        · obtain ⟨q, rfl⟩ : ∃ j, q = j + 1 := ⟨q - 1, by omega⟩
          simp only [Nat.add_sub_cancel] at p4
          have h0' : decide ((0 : Int) < ((q + 1 : Nat) : Int)) = true := by rw [decide_eq_true_eq]; omega
          have hqm : (q : Int) < ps.length := by omega
          have hw : IntKind.i64.wrap (q : Int) = q := IntWalk.i64_in _ (by omega)
          cases hri : ri with
          | false =>
            obtain rfl : gb = false := by rw [eg, hri]; simp
            have hle : decide (s ≤ s0) = true := by
              rw [hri] at er
              simp at er
              simpa using er
            clear er eg
            go_wp2_with fail
            have hbx := box_below wr (.cells #[.int .i64 s, .int .i64 lo, .int .i64 hi'] 84)
            have hnx := heap_alloc_new wr (.cells #[.int .i64 s, .int .i64 lo, .int .i64 hi'] 84)
            have q0 := (hbx.cell (p := ⟨w.heap.size, 0, none⟩) hl).trans c0
            have q4 := (hbx.cell (p := ⟨b, _, none⟩) hltr).trans p4
            have hx2 := Lib.hid ((hbx.block _ hl).trans hx.out)
            generalize World.alloc wr _ = W at *
            have t0 := cell_of_row W wr.heap.size 0 _ _ _ hnx
            have t1 := cell_of_row W wr.heap.size 1 _ _ _ hnx
            have t2 := cell_of_row W wr.heap.size 2 _ _ _ hnx
            simp at t0 t1 t2
            have g0 := cell_regrown q0
            have g4 := cell_regrown q4
            have u0 := cell_regrown t0
            have u1 := cell_regrown t1
            have u2 := cell_regrown t2
            have hbW := Lib.hid (below_to hb.out hbx)
            clear c0 p1 p2 p3 p4 q0 q4 t0 t1 t2 hnx hx hb hltr
            refine wp_region_quiet_below (by kernel_rfl) (by kernel_rfl) ?_
            repeat (quiet_step (first | with_reducible exact Calls.regrown_of (HI1.out _) | with_reducible exact Calls.regrown_of (HI2.out _)))
            refine wpQuiet_nil ?_
            intro _ hw'
            obtain ⟨⟨dq, osq⟩, hw''⟩ := hw'
            subst hw''
            have hxr := Lib.hid ((below_regrown W dq osq).block _ (lt_of_block hx2.out) |>.trans hx2.out)
            have hbr := Lib.hid (below_to hbW.out (below_regrown W dq osq))
            go_wp2
            go_ret
            exact ⟨by have := Hno.out trivial; rw [ptsE_no (hg.out.trans this)]; rfl, hbr.out⟩
          | true =>
            have hle : decide (s ≤ s0) = false := by
              rw [hri] at er
              simp at er
              simpa using er
            rw [hri] at eg
            clear er hri
            cases h2 : hasB 0 hi' lo with
            | false =>
              obtain rfl : gb = false := by
                rw [eg]
                simp only [hasB, withinB, decide_eq_false_iff_not] at h2 ⊢
                simp
                intros
                omega
              rw [h2] at HI2
              clear h2 eg
              go_wp2_with fail
              have hbx := box_below wr (.cells #[.int .i64 s, .int .i64 lo, .int .i64 hi'] 84)
              have hnx := heap_alloc_new wr (.cells #[.int .i64 s, .int .i64 lo, .int .i64 hi'] 84)
              have q0 := (hbx.cell (p := ⟨w.heap.size, 0, none⟩) hl).trans c0
              have q4 := (hbx.cell (p := ⟨b, _, none⟩) hltr).trans p4
              have hx2 := Lib.hid ((hbx.block _ hl).trans hx.out)
              generalize World.alloc wr _ = W at *
              have t0 := cell_of_row W wr.heap.size 0 _ _ _ hnx
              have t1 := cell_of_row W wr.heap.size 1 _ _ _ hnx
              have t2 := cell_of_row W wr.heap.size 2 _ _ _ hnx
              simp at t0 t1 t2
              have g0 := cell_regrown q0
              have g4 := cell_regrown q4
              have u0 := cell_regrown t0
              have u1 := cell_regrown t1
              have u2 := cell_regrown t2
              have hbW := Lib.hid (below_to hb.out hbx)
              clear c0 p1 p2 p3 p4 q0 q4 t0 t1 t2 hnx hx hb hltr
              refine wp_region_quiet_below (by kernel_rfl) (by kernel_rfl) ?_
              repeat (quiet_step (first | with_reducible exact Calls.regrown_of (HI1.out _) | with_reducible exact Calls.regrown_of (HI2.out _)))
              refine wpQuiet_nil ?_
              intro _ hw'
              obtain ⟨⟨dq, osq⟩, hw''⟩ := hw'
              subst hw''
              have hxr := Lib.hid ((below_regrown W dq osq).block _ (lt_of_block hx2.out) |>.trans hx2.out)
              have hbr := Lib.hid (below_to hbW.out (below_regrown W dq osq))
              go_wp2
              go_ret
              exact ⟨by have := Hno.out trivial; rw [ptsE_no (hg.out.trans this)]; rfl, hbr.out⟩
            | true =>
              by_cases h3 : 100000 < hi'
              · obtain rfl : gb = false := by
                  rw [eg]
                  simp only [withinB]
                  simp
                  intros
                  omega
                have h3' : decide (100000 < hi') = true := by simpa using h3
                rw [h2] at HI2
                clear h2 eg
                go_wp2_with fail
                have hbx := box_below wr (.cells #[.int .i64 s, .int .i64 lo, .int .i64 hi'] 84)
                have hnx := heap_alloc_new wr (.cells #[.int .i64 s, .int .i64 lo, .int .i64 hi'] 84)
                have q0 := (hbx.cell (p := ⟨w.heap.size, 0, none⟩) hl).trans c0
                have q4 := (hbx.cell (p := ⟨b, _, none⟩) hltr).trans p4
                have hx2 := Lib.hid ((hbx.block _ hl).trans hx.out)
                generalize World.alloc wr _ = W at *
                have t0 := cell_of_row W wr.heap.size 0 _ _ _ hnx
                have t1 := cell_of_row W wr.heap.size 1 _ _ _ hnx
                have t2 := cell_of_row W wr.heap.size 2 _ _ _ hnx
                simp at t0 t1 t2
                have g0 := cell_regrown q0
                have g4 := cell_regrown q4
                have u0 := cell_regrown t0
                have u1 := cell_regrown t1
                have u2 := cell_regrown t2
                have hbW := Lib.hid (below_to hb.out hbx)
                clear c0 p1 p2 p3 p4 q0 q4 t0 t1 t2 hnx hx hb hltr
                refine wp_region_quiet_below (by kernel_rfl) (by kernel_rfl) ?_
                repeat (quiet_step (first | with_reducible exact Calls.regrown_of (HI1.out _) | with_reducible exact Calls.regrown_of (HI2.out _)))
                refine wpQuiet_nil ?_
                intro _ hw'
                obtain ⟨⟨dq, osq⟩, hw''⟩ := hw'
                subst hw''
                have hxr := Lib.hid ((below_regrown W dq osq).block _ (lt_of_block hx2.out) |>.trans hx2.out)
                have hbr := Lib.hid (below_to hbW.out (below_regrown W dq osq))
                go_wp2
                go_ret
                exact ⟨by have := Hno.out trivial; rw [ptsE_no (hg.out.trans this)]; rfl, hbr.out⟩
              · obtain rfl : gb = true := by
                  rw [eg, h1]
                  simp only [hasB, withinB, decide_eq_true_eq] at h2 ⊢
                  simp
                  omega
                have h3' : decide (100000 < hi') = false := by simpa using h3
                have hq20 : (q + 1) < 20 := by omega
                rw [h2] at HI2
                clear h2 eg
                go_wp2_with fail
                have hbx := box_below wr (.cells #[.int .i64 s, .int .i64 lo, .int .i64 hi'] 84)
                have hnx := heap_alloc_new wr (.cells #[.int .i64 s, .int .i64 lo, .int .i64 hi'] 84)
                have q0 := (hbx.cell (p := ⟨w.heap.size, 0, none⟩) hl).trans c0
                have q4 := (hbx.cell (p := ⟨b, _, none⟩) hltr).trans p4
                have hx2 := Lib.hid ((hbx.block _ hl).trans hx.out)
                generalize World.alloc wr _ = W at *
                have t0 := cell_of_row W wr.heap.size 0 _ _ _ hnx
                have t1 := cell_of_row W wr.heap.size 1 _ _ _ hnx
                have t2 := cell_of_row W wr.heap.size 2 _ _ _ hnx
                simp at t0 t1 t2
                have g0 := cell_regrown q0
                have g4 := cell_regrown q4
                have u0 := cell_regrown t0
                have u1 := cell_regrown t1
                have u2 := cell_regrown t2
                have hbW := Lib.hid (below_to hb.out hbx)
                clear c0 p1 p2 p3 p4 q0 q4 t0 t1 t2 hnx hx hb hltr
                refine wp_region_quiet_below (by kernel_rfl) (by kernel_rfl) ?_
                repeat (quiet_step (first | with_reducible exact Calls.regrown_of (HI1.out _) | with_reducible exact Calls.regrown_of (HI2.out _)))
                refine wpQuiet_nil ?_
                intro _ hw'
                obtain ⟨⟨dq, osq⟩, hw''⟩ := hw'
                subst hw''
                have hxr := Lib.hid ((below_regrown W dq osq).block _ (lt_of_block hx2.out) |>.trans hx2.out)
                have hbr := Lib.hid (below_to hbW.out (below_regrown W dq osq))
                go_wp2
                go_roundw
                case rel => exact ⟨(q + 1) + 1, by omega, by simp, Lib.hid (hg.out.trans (Hyes.out trivial)), hxr, hbr⟩
                case measure => simp [intOf] <;> omega
    · obtain rfl : q = ps.length := by omega
      have hpn : ((ps.length : Int) == 0) = false := by rw [beq_eq_false_iff_ne]; omega
      have HE := Lib.hid (hg.out.trans (goodsB_end ps ps.length (Nat.le_refl _)))
      go_wp2
      go_ret
      exact ⟨by rw [ptsE_yes HE.out]; rfl, hb.out⟩
end Go.Proofs.Ytfjlnejeffkdoaa
