/- The law GrainThree, walked. No condition. -/
import Derived.Test.YtplmlmmjfkbabaaAD
import Derived.BigRegion
import Derived.BigQuiet
namespace Go.Proofs.Ytplmlmmjfkbabaa
open Go.RowKit Go.Shelf
attribute [local irreducible] arrV wpQuiet mat shl

set_option maxRecDepth 100000 in
set_option maxHeartbeats 8000000 in
theorem three_walk (n : Int) (v : Value) (cs : List Cm) (x1 x2 x3 : Int) (w : World) (h1 : 0 ≤ x1 ∧ x1 < 256) (h2 : 0 ≤ x2 ∧ x2 < 256) (h3 : 0 ≤ x3 ∧ x3 < 256) (hV : CmsV w.heap.size w v cs) :
    Calls Try.prog 13 #[.agg #[.int .i64 n, v], .int .u8 x1, .int .u8 x2, .int .u8 x3] w fun e w' => e = .returned (.bool true) ∧ Below w.heap.size w w' := by
  have HRE := Lib.hid fun w' (h : Below w.heap.size w w') => ready_any w.heap.size n v cs w' (hV.same (.below (Nat.le_refl _) h)) h.size
  have HAL0 := Lib.hid fun (hl : cs.length ≤ 1000) w' (h : Below w.heap.size w w') => Album_any w.heap.size n v cs w' hl (hV.same (.below (Nat.le_refl _) h)) h.size
  obtain ⟨a, cap, rfl, hp⟩ := hV
  have HP := Lib.hid hp
  have HXA := Lib.hid (heap_alloc_new w (.cells #[.int .i64 n, .slice a cs.length cap] 24))
  have HBA := Lib.hid (box_below w (.cells #[.int .i64 n, .slice a cs.length cap] 24))
  clear hp
  go_enter Try.func13, Try.ntmps13
  go_wp2_with fail
  refine (HRE.out _ HBA.out).mono ?_
  rintro e u0 ⟨rfl, hb⟩
  replace HXA := Lib.hid ((hb.block _ (lt_of_block HXA.out)).trans HXA.out)
  replace HBA := Lib.hid (below_to HBA.out hb)
  clear hb
  cases hz : readyB n cs with
  | false =>
    go_wp2_with fail
    refine (awake_any u0).mono ?_
    rintro e u1 ⟨rfl, hb⟩
    have HBF := Lib.hid (below_to HBA.out hb)
    clear hb
    go_wp2
    go_ret
    exact ⟨rfl, HBF.out⟩
  | true =>
    have HOK := Lib.hid (readyB_ok hz)
    have hn0 := HOK.out.n0
    have hn8 := HOK.out.n8
    have HAL := Lib.hid (HAL0.out (by have := HOK.out.len; omega))
    clear hz HAL0 HRE
    have c0 := cell_of_row u0 w.heap.size 0 _ _ _ HXA.out
    have c1 := cell_of_row u0 w.heap.size 1 _ _ _ HXA.out
    simp only [List.getElem?_toArray, List.getElem?_cons_zero, List.getElem?_cons_succ] at c0 c1
    have lc := lt_of_block HXA.out
    by_cases hn : n = 0
    · have hz1 : (n == 0) = true := by simp [hn]
      clear hn
      go_wp2_with fail
      refine (awake_any u0).mono ?_
      rintro e u2 ⟨rfl, hb⟩
      have HBF := Lib.hid (below_to HBA.out hb)
      clear hb
      go_wp2
      go_ret
      exact ⟨rfl, HBF.out⟩
    · have hz1 : (n == 0) = false := by simp [hn]
      have hz2 : n ≠ 0 := hn
      obtain ⟨P, hP⟩ : ∃ P, x1.tmod n = P := ⟨_, rfl⟩
      obtain ⟨Q, hQ⟩ : ∃ Q, x2.tmod n = Q := ⟨_, rfl⟩
      obtain ⟨R, hR⟩ : ∃ R, x3.tmod n = R := ⟨_, rfl⟩
      have hP2 : x1 % n = P := by rw [← hP, Int.tmod_eq_emod_of_nonneg h1.1]
      have hQ2 : x2 % n = Q := by rw [← hQ, Int.tmod_eq_emod_of_nonneg h2.1]
      have hR2 : x3 % n = R := by rw [← hR, Int.tmod_eq_emod_of_nonneg h3.1]
      have HPB : Hid (0 ≤ P ∧ P < n) := Lib.hid (by rw [← hP2]; exact ⟨Int.emod_nonneg _ hn, Int.emod_lt_of_pos _ (by omega)⟩)
      have HQB : Hid (0 ≤ Q ∧ Q < n) := Lib.hid (by rw [← hQ2]; exact ⟨Int.emod_nonneg _ hn, Int.emod_lt_of_pos _ (by omega)⟩)
      have HRB : Hid (0 ≤ R ∧ R < n) := Lib.hid (by rw [← hR2]; exact ⟨Int.emod_nonneg _ hn, Int.emod_lt_of_pos _ (by omega)⟩)
      have hw1 : IntKind.i64.wrap x1 = x1 := IntWalk.i64_in _ (by omega)
      have hw2 : IntKind.i64.wrap x2 = x2 := IntWalk.i64_in _ (by omega)
      have hw3 : IntKind.i64.wrap x3 = x3 := IntWalk.i64_in _ (by omega)
      have hp1 : IntKind.i64.wrap P = P := IntWalk.i64_in _ (by have := HPB.out; omega)
      have hp2 : IntKind.i64.wrap Q = Q := IntWalk.i64_in _ (by have := HQB.out; omega)
      have hp3 : IntKind.i64.wrap R = R := IntWalk.i64_in _ (by have := HRB.out; omega)
      clear hn
      go_wp2_with fail
      have g0 := cell_regrown c0
      refine wp_region_quiet_below (by kernel_rfl) (by kernel_rfl) ?_
      repeat (quiet_step (fail))
      refine wpQuiet_nil ?_
      intro u1 hw'
      obtain ⟨⟨dq, osq⟩, hw''⟩ := hw'
      have hb := below_regrown u0 dq osq
      rw [← hw''] at hb
      clear hw'' g0 c0 c1 lc hw1 hw2 hw3 hp1 hp2 hp3 hP2 hQ2 hR2 hP hQ hR hz1 hz2
      replace HXA := Lib.hid ((hb.block _ (lt_of_block HXA.out)).trans HXA.out)
      replace HBA := Lib.hid (below_to HBA.out hb)
      clear hb
      cases hd : distO cs with
      | none =>
        have HD := Lib.hid hd
        clear hd
        have c0 := cell_of_row u1 w.heap.size 0 _ _ _ HXA.out
        have c1 := cell_of_row u1 w.heap.size 1 _ _ _ HXA.out
        simp only [List.getElem?_toArray, List.getElem?_cons_zero, List.getElem?_cons_succ] at c0 c1
        have lc := lt_of_block HXA.out
        go_wp2_with fail
        clear c0 c1 lc
        refine (HAL.out u1 HBA.out).mono ?_
        rintro e u2 ⟨⟨r1, rfl, ho⟩, hb⟩
        replace HXA := Lib.hid ((hb.block _ (lt_of_block HXA.out)).trans HXA.out)
        replace HBA := Lib.hid (below_to HBA.out hb)
        clear hb
        have HV1 := Lib.hid (own_cms (l := cs) ho)
        clear ho
        go_wp2_with fail
        have hbt := Between_none HOK.out HV1.out HPB.out HQB.out HD.out
        refine (hbt).mono ?_
        rintro e u3 ⟨rfl, hb⟩
        replace HXA := Lib.hid ((hb.block _ (lt_of_block HXA.out)).trans HXA.out)
        replace HBA := Lib.hid (below_to HBA.out hb)
        replace HV1 := Lib.hid ((HV1.out.same (.below (Nat.le_refl _) hb)).up hb.size)
        clear hb
        clear hbt
        clear HV1
        have c0 := cell_of_row u3 w.heap.size 0 _ _ _ HXA.out
        have c1 := cell_of_row u3 w.heap.size 1 _ _ _ HXA.out
        simp only [List.getElem?_toArray, List.getElem?_cons_zero, List.getElem?_cons_succ] at c0 c1
        have lc := lt_of_block HXA.out
        go_wp2_with fail
        clear c0 c1 lc
        have hbx := box_below u3 (.cells #[.int .i64 0, .int .i64 0] 41)
        have hnx := heap_alloc_new u3 (.cells #[.int .i64 0, .int .i64 0] 41)
        replace HXA := Lib.hid ((hbx.block _ (lt_of_block HXA.out)).trans HXA.out)
        replace HBA := Lib.hid (below_to HBA.out hbx)
        have B0 := Lib.hid hnx
        clear hbx hnx
        generalize World.alloc u3 _ = u4 at *
        generalize u3.heap.size = b0 at *
        refine (HAL.out u4 HBA.out).mono ?_
        rintro e u5 ⟨⟨r1, rfl, ho⟩, hb⟩
        replace HXA := Lib.hid ((hb.block _ (lt_of_block HXA.out)).trans HXA.out)
        replace HBA := Lib.hid (below_to HBA.out hb)
        replace B0 := Lib.hid ((hb.block _ (lt_of_block B0.out)).trans B0.out)
        clear hb
        have HV1 := Lib.hid (own_cms (l := cs) ho)
        clear ho
        go_wp2_with fail
        have hbt := Between_none HOK.out HV1.out HQB.out HRB.out HD.out
        refine (hbt).mono ?_
        rintro e u6 ⟨rfl, hb⟩
        replace HXA := Lib.hid ((hb.block _ (lt_of_block HXA.out)).trans HXA.out)
        replace HBA := Lib.hid (below_to HBA.out hb)
        replace B0 := Lib.hid ((hb.block _ (lt_of_block B0.out)).trans B0.out)
        replace HV1 := Lib.hid ((HV1.out.same (.below (Nat.le_refl _) hb)).up hb.size)
        clear hb
        clear hbt
        clear HV1
        have c0 := cell_of_row u6 w.heap.size 0 _ _ _ HXA.out
        have c1 := cell_of_row u6 w.heap.size 1 _ _ _ HXA.out
        simp only [List.getElem?_toArray, List.getElem?_cons_zero, List.getElem?_cons_succ] at c0 c1
        have lc := lt_of_block HXA.out
        go_wp2_with fail
        clear c0 c1 lc
        have hbx := box_below u6 (.cells #[.int .i64 0, .int .i64 0] 41)
        have hnx := heap_alloc_new u6 (.cells #[.int .i64 0, .int .i64 0] 41)
        replace HXA := Lib.hid ((hbx.block _ (lt_of_block HXA.out)).trans HXA.out)
        replace HBA := Lib.hid (below_to HBA.out hbx)
        replace B0 := Lib.hid ((hbx.block _ (lt_of_block B0.out)).trans B0.out)
        have B1 := Lib.hid hnx
        clear hbx hnx
        generalize World.alloc u6 _ = u7 at *
        generalize u6.heap.size = b1 at *
        refine (HAL.out u7 HBA.out).mono ?_
        rintro e u8 ⟨⟨r1, rfl, ho⟩, hb⟩
        replace HXA := Lib.hid ((hb.block _ (lt_of_block HXA.out)).trans HXA.out)
        replace HBA := Lib.hid (below_to HBA.out hb)
        replace B0 := Lib.hid ((hb.block _ (lt_of_block B0.out)).trans B0.out)
        replace B1 := Lib.hid ((hb.block _ (lt_of_block B1.out)).trans B1.out)
        clear hb
        have HV1 := Lib.hid (own_cms (l := cs) ho)
        clear ho
        go_wp2_with fail
        have hbt := Between_none HOK.out HV1.out HPB.out HRB.out HD.out
        refine (hbt).mono ?_
        rintro e u9 ⟨rfl, hb⟩
        replace HXA := Lib.hid ((hb.block _ (lt_of_block HXA.out)).trans HXA.out)
        replace HBA := Lib.hid (below_to HBA.out hb)
        replace B0 := Lib.hid ((hb.block _ (lt_of_block B0.out)).trans B0.out)
        replace B1 := Lib.hid ((hb.block _ (lt_of_block B1.out)).trans B1.out)
        replace HV1 := Lib.hid ((HV1.out.same (.below (Nat.le_refl _) hb)).up hb.size)
        clear hb
        clear hbt
        clear HV1
        have c0 := cell_of_row u9 w.heap.size 0 _ _ _ HXA.out
        have c1 := cell_of_row u9 w.heap.size 1 _ _ _ HXA.out
        simp only [List.getElem?_toArray, List.getElem?_cons_zero, List.getElem?_cons_succ] at c0 c1
        have lc := lt_of_block HXA.out
        go_wp2_with fail
        clear c0 c1 lc
        have hbx := box_below u9 (.cells #[.int .i64 0, .int .i64 0] 41)
        have hnx := heap_alloc_new u9 (.cells #[.int .i64 0, .int .i64 0] 41)
        replace HXA := Lib.hid ((hbx.block _ (lt_of_block HXA.out)).trans HXA.out)
        replace HBA := Lib.hid (below_to HBA.out hbx)
        replace B0 := Lib.hid ((hbx.block _ (lt_of_block B0.out)).trans B0.out)
        replace B1 := Lib.hid ((hbx.block _ (lt_of_block B1.out)).trans B1.out)
        have B2 := Lib.hid hnx
        clear hbx hnx
        generalize World.alloc u9 _ = u10 at *
        generalize u9.heap.size = b2 at *
        refine (HAL.out u10 HBA.out).mono ?_
        rintro e u11 ⟨⟨r1, rfl, ho⟩, hb⟩
        replace HXA := Lib.hid ((hb.block _ (lt_of_block HXA.out)).trans HXA.out)
        replace HBA := Lib.hid (below_to HBA.out hb)
        replace B0 := Lib.hid ((hb.block _ (lt_of_block B0.out)).trans B0.out)
        replace B1 := Lib.hid ((hb.block _ (lt_of_block B1.out)).trans B1.out)
        replace B2 := Lib.hid ((hb.block _ (lt_of_block B2.out)).trans B2.out)
        clear hb
        have HV1 := Lib.hid (own_cms (l := cs) ho)
        clear ho
        go_wp2_with fail
        have hbt := Between_none HOK.out HV1.out HRB.out HPB.out HD.out
        refine (hbt).mono ?_
        rintro e u12 ⟨rfl, hb⟩
        replace HXA := Lib.hid ((hb.block _ (lt_of_block HXA.out)).trans HXA.out)
        replace HBA := Lib.hid (below_to HBA.out hb)
        replace B0 := Lib.hid ((hb.block _ (lt_of_block B0.out)).trans B0.out)
        replace B1 := Lib.hid ((hb.block _ (lt_of_block B1.out)).trans B1.out)
        replace B2 := Lib.hid ((hb.block _ (lt_of_block B2.out)).trans B2.out)
        replace HV1 := Lib.hid ((HV1.out.same (.below (Nat.le_refl _) hb)).up hb.size)
        clear hb
        clear hbt
        clear HV1
        have c0 := cell_of_row u12 w.heap.size 0 _ _ _ HXA.out
        have c1 := cell_of_row u12 w.heap.size 1 _ _ _ HXA.out
        simp only [List.getElem?_toArray, List.getElem?_cons_zero, List.getElem?_cons_succ] at c0 c1
        have lc := lt_of_block HXA.out
        go_wp2_with fail
        clear c0 c1 lc
        have hbx := box_below u12 (.cells #[.int .i64 0, .int .i64 0] 41)
        have hnx := heap_alloc_new u12 (.cells #[.int .i64 0, .int .i64 0] 41)
        replace HXA := Lib.hid ((hbx.block _ (lt_of_block HXA.out)).trans HXA.out)
        replace HBA := Lib.hid (below_to HBA.out hbx)
        replace B0 := Lib.hid ((hbx.block _ (lt_of_block B0.out)).trans B0.out)
        replace B1 := Lib.hid ((hbx.block _ (lt_of_block B1.out)).trans B1.out)
        replace B2 := Lib.hid ((hbx.block _ (lt_of_block B2.out)).trans B2.out)
        have B3 := Lib.hid hnx
        clear hbx hnx
        generalize World.alloc u12 _ = u13 at *
        generalize u12.heap.size = b3 at *
        refine (HAL.out u13 HBA.out).mono ?_
        rintro e u14 ⟨⟨r1, rfl, ho⟩, hb⟩
        replace HXA := Lib.hid ((hb.block _ (lt_of_block HXA.out)).trans HXA.out)
        replace HBA := Lib.hid (below_to HBA.out hb)
        replace B0 := Lib.hid ((hb.block _ (lt_of_block B0.out)).trans B0.out)
        replace B1 := Lib.hid ((hb.block _ (lt_of_block B1.out)).trans B1.out)
        replace B2 := Lib.hid ((hb.block _ (lt_of_block B2.out)).trans B2.out)
        replace B3 := Lib.hid ((hb.block _ (lt_of_block B3.out)).trans B3.out)
        clear hb
        have HV1 := Lib.hid (own_cms (l := cs) ho)
        clear ho
        go_wp2_with fail
        have hbt := Between_none HOK.out HV1.out HPB.out HPB.out HD.out
        refine (hbt).mono ?_
        rintro e u15 ⟨rfl, hb⟩
        replace HXA := Lib.hid ((hb.block _ (lt_of_block HXA.out)).trans HXA.out)
        replace HBA := Lib.hid (below_to HBA.out hb)
        replace B0 := Lib.hid ((hb.block _ (lt_of_block B0.out)).trans B0.out)
        replace B1 := Lib.hid ((hb.block _ (lt_of_block B1.out)).trans B1.out)
        replace B2 := Lib.hid ((hb.block _ (lt_of_block B2.out)).trans B2.out)
        replace B3 := Lib.hid ((hb.block _ (lt_of_block B3.out)).trans B3.out)
        replace HV1 := Lib.hid ((HV1.out.same (.below (Nat.le_refl _) hb)).up hb.size)
        clear hb
        clear hbt
        clear HV1
        go_wp2_with fail
        have hbx := box_below u15 (.cells #[.int .i64 0, .int .i64 0] 41)
        have hnx := heap_alloc_new u15 (.cells #[.int .i64 0, .int .i64 0] 41)
        replace HXA := Lib.hid ((hbx.block _ (lt_of_block HXA.out)).trans HXA.out)
        replace HBA := Lib.hid (below_to HBA.out hbx)
        replace B0 := Lib.hid ((hbx.block _ (lt_of_block B0.out)).trans B0.out)
        replace B1 := Lib.hid ((hbx.block _ (lt_of_block B1.out)).trans B1.out)
        replace B2 := Lib.hid ((hbx.block _ (lt_of_block B2.out)).trans B2.out)
        replace B3 := Lib.hid ((hbx.block _ (lt_of_block B3.out)).trans B3.out)
        have B4 := Lib.hid hnx
        clear hbx hnx
        generalize World.alloc u15 _ = u16 at *
        generalize u15.heap.size = b4 at *
        refine (awake_any u16).mono ?_
        rintro e u17 ⟨rfl, hb⟩
        have HBF := Lib.hid (below_to HBA.out hb)
        clear hb
        go_wp2
        go_ret
        exact ⟨rfl, HBF.out⟩
      | some d =>
        have HD := Lib.hid hd
        clear hd
        have c0 := cell_of_row u1 w.heap.size 0 _ _ _ HXA.out
        have c1 := cell_of_row u1 w.heap.size 1 _ _ _ HXA.out
        simp only [List.getElem?_toArray, List.getElem?_cons_zero, List.getElem?_cons_succ] at c0 c1
        have lc := lt_of_block HXA.out
        go_wp2_with fail
        clear c0 c1 lc
        refine (HAL.out u1 HBA.out).mono ?_
        rintro e u18 ⟨⟨r1, rfl, ho⟩, hb⟩
        replace HXA := Lib.hid ((hb.block _ (lt_of_block HXA.out)).trans HXA.out)
        replace HBA := Lib.hid (below_to HBA.out hb)
        clear hb
        have HV1 := Lib.hid (own_cms (l := cs) ho)
        clear ho
        go_wp2_with fail
        have hbt := Between_some HOK.out HV1.out HPB.out HQB.out HD.out
        obtain ⟨X0, HX0⟩ : ∃ X, Hid (-d (pl P) (pl Q) = X) := ⟨_, Lib.hid rfl⟩
        obtain ⟨Y0, HY0⟩ : ∃ X, Hid (d (pl Q) (pl P) = X) := ⟨_, Lib.hid rfl⟩
        rw [HX0.out, HY0.out] at hbt
        refine (hbt).mono ?_
        rintro e u19 ⟨rfl, hb⟩
        replace HXA := Lib.hid ((hb.block _ (lt_of_block HXA.out)).trans HXA.out)
        replace HBA := Lib.hid (below_to HBA.out hb)
        replace HV1 := Lib.hid ((HV1.out.same (.below (Nat.le_refl _) hb)).up hb.size)
        clear hb
        clear hbt
        clear HV1
        have c0 := cell_of_row u19 w.heap.size 0 _ _ _ HXA.out
        have c1 := cell_of_row u19 w.heap.size 1 _ _ _ HXA.out
        simp only [List.getElem?_toArray, List.getElem?_cons_zero, List.getElem?_cons_succ] at c0 c1
        have lc := lt_of_block HXA.out
        go_wp2_with fail
        clear c0 c1 lc
        have hbx := box_below u19 (.cells #[.int .i64 X0, .int .i64 Y0] 41)
        have hnx := heap_alloc_new u19 (.cells #[.int .i64 X0, .int .i64 Y0] 41)
        replace HXA := Lib.hid ((hbx.block _ (lt_of_block HXA.out)).trans HXA.out)
        replace HBA := Lib.hid (below_to HBA.out hbx)
        have B0 := Lib.hid hnx
        clear hbx hnx
        generalize World.alloc u19 _ = u20 at *
        generalize u19.heap.size = b0 at *
        refine (HAL.out u20 HBA.out).mono ?_
        rintro e u21 ⟨⟨r1, rfl, ho⟩, hb⟩
        replace HXA := Lib.hid ((hb.block _ (lt_of_block HXA.out)).trans HXA.out)
        replace HBA := Lib.hid (below_to HBA.out hb)
        replace B0 := Lib.hid ((hb.block _ (lt_of_block B0.out)).trans B0.out)
        clear hb
        have HV1 := Lib.hid (own_cms (l := cs) ho)
        clear ho
        go_wp2_with fail
        have hbt := Between_some HOK.out HV1.out HQB.out HRB.out HD.out
        obtain ⟨X1, HX1⟩ : ∃ X, Hid (-d (pl Q) (pl R) = X) := ⟨_, Lib.hid rfl⟩
        obtain ⟨Y1, HY1⟩ : ∃ X, Hid (d (pl R) (pl Q) = X) := ⟨_, Lib.hid rfl⟩
        rw [HX1.out, HY1.out] at hbt
        refine (hbt).mono ?_
        rintro e u22 ⟨rfl, hb⟩
        replace HXA := Lib.hid ((hb.block _ (lt_of_block HXA.out)).trans HXA.out)
        replace HBA := Lib.hid (below_to HBA.out hb)
        replace B0 := Lib.hid ((hb.block _ (lt_of_block B0.out)).trans B0.out)
        replace HV1 := Lib.hid ((HV1.out.same (.below (Nat.le_refl _) hb)).up hb.size)
        clear hb
        clear hbt
        clear HV1
        have c0 := cell_of_row u22 w.heap.size 0 _ _ _ HXA.out
        have c1 := cell_of_row u22 w.heap.size 1 _ _ _ HXA.out
        simp only [List.getElem?_toArray, List.getElem?_cons_zero, List.getElem?_cons_succ] at c0 c1
        have lc := lt_of_block HXA.out
        go_wp2_with fail
        clear c0 c1 lc
        have hbx := box_below u22 (.cells #[.int .i64 X1, .int .i64 Y1] 41)
        have hnx := heap_alloc_new u22 (.cells #[.int .i64 X1, .int .i64 Y1] 41)
        replace HXA := Lib.hid ((hbx.block _ (lt_of_block HXA.out)).trans HXA.out)
        replace HBA := Lib.hid (below_to HBA.out hbx)
        replace B0 := Lib.hid ((hbx.block _ (lt_of_block B0.out)).trans B0.out)
        have B1 := Lib.hid hnx
        clear hbx hnx
        generalize World.alloc u22 _ = u23 at *
        generalize u22.heap.size = b1 at *
        refine (HAL.out u23 HBA.out).mono ?_
        rintro e u24 ⟨⟨r1, rfl, ho⟩, hb⟩
        replace HXA := Lib.hid ((hb.block _ (lt_of_block HXA.out)).trans HXA.out)
        replace HBA := Lib.hid (below_to HBA.out hb)
        replace B0 := Lib.hid ((hb.block _ (lt_of_block B0.out)).trans B0.out)
        replace B1 := Lib.hid ((hb.block _ (lt_of_block B1.out)).trans B1.out)
        clear hb
        have HV1 := Lib.hid (own_cms (l := cs) ho)
        clear ho
        go_wp2_with fail
        have hbt := Between_some HOK.out HV1.out HPB.out HRB.out HD.out
        obtain ⟨X2, HX2⟩ : ∃ X, Hid (-d (pl P) (pl R) = X) := ⟨_, Lib.hid rfl⟩
        obtain ⟨Y2, HY2⟩ : ∃ X, Hid (d (pl R) (pl P) = X) := ⟨_, Lib.hid rfl⟩
        rw [HX2.out, HY2.out] at hbt
        refine (hbt).mono ?_
        rintro e u25 ⟨rfl, hb⟩
        replace HXA := Lib.hid ((hb.block _ (lt_of_block HXA.out)).trans HXA.out)
        replace HBA := Lib.hid (below_to HBA.out hb)
        replace B0 := Lib.hid ((hb.block _ (lt_of_block B0.out)).trans B0.out)
        replace B1 := Lib.hid ((hb.block _ (lt_of_block B1.out)).trans B1.out)
        replace HV1 := Lib.hid ((HV1.out.same (.below (Nat.le_refl _) hb)).up hb.size)
        clear hb
        clear hbt
        clear HV1
        have c0 := cell_of_row u25 w.heap.size 0 _ _ _ HXA.out
        have c1 := cell_of_row u25 w.heap.size 1 _ _ _ HXA.out
        simp only [List.getElem?_toArray, List.getElem?_cons_zero, List.getElem?_cons_succ] at c0 c1
        have lc := lt_of_block HXA.out
        go_wp2_with fail
        clear c0 c1 lc
        have hbx := box_below u25 (.cells #[.int .i64 X2, .int .i64 Y2] 41)
        have hnx := heap_alloc_new u25 (.cells #[.int .i64 X2, .int .i64 Y2] 41)
        replace HXA := Lib.hid ((hbx.block _ (lt_of_block HXA.out)).trans HXA.out)
        replace HBA := Lib.hid (below_to HBA.out hbx)
        replace B0 := Lib.hid ((hbx.block _ (lt_of_block B0.out)).trans B0.out)
        replace B1 := Lib.hid ((hbx.block _ (lt_of_block B1.out)).trans B1.out)
        have B2 := Lib.hid hnx
        clear hbx hnx
        generalize World.alloc u25 _ = u26 at *
        generalize u25.heap.size = b2 at *
        refine (HAL.out u26 HBA.out).mono ?_
        rintro e u27 ⟨⟨r1, rfl, ho⟩, hb⟩
        replace HXA := Lib.hid ((hb.block _ (lt_of_block HXA.out)).trans HXA.out)
        replace HBA := Lib.hid (below_to HBA.out hb)
        replace B0 := Lib.hid ((hb.block _ (lt_of_block B0.out)).trans B0.out)
        replace B1 := Lib.hid ((hb.block _ (lt_of_block B1.out)).trans B1.out)
        replace B2 := Lib.hid ((hb.block _ (lt_of_block B2.out)).trans B2.out)
        clear hb
        have HV1 := Lib.hid (own_cms (l := cs) ho)
        clear ho
        go_wp2_with fail
        have hbt := Between_some HOK.out HV1.out HRB.out HPB.out HD.out
        obtain ⟨X3, HX3⟩ : ∃ X, Hid (-d (pl R) (pl P) = X) := ⟨_, Lib.hid rfl⟩
        obtain ⟨Y3, HY3⟩ : ∃ X, Hid (d (pl P) (pl R) = X) := ⟨_, Lib.hid rfl⟩
        rw [HX3.out, HY3.out] at hbt
        refine (hbt).mono ?_
        rintro e u28 ⟨rfl, hb⟩
        replace HXA := Lib.hid ((hb.block _ (lt_of_block HXA.out)).trans HXA.out)
        replace HBA := Lib.hid (below_to HBA.out hb)
        replace B0 := Lib.hid ((hb.block _ (lt_of_block B0.out)).trans B0.out)
        replace B1 := Lib.hid ((hb.block _ (lt_of_block B1.out)).trans B1.out)
        replace B2 := Lib.hid ((hb.block _ (lt_of_block B2.out)).trans B2.out)
        replace HV1 := Lib.hid ((HV1.out.same (.below (Nat.le_refl _) hb)).up hb.size)
        clear hb
        clear hbt
        clear HV1
        have c0 := cell_of_row u28 w.heap.size 0 _ _ _ HXA.out
        have c1 := cell_of_row u28 w.heap.size 1 _ _ _ HXA.out
        simp only [List.getElem?_toArray, List.getElem?_cons_zero, List.getElem?_cons_succ] at c0 c1
        have lc := lt_of_block HXA.out
        go_wp2_with fail
        clear c0 c1 lc
        have hbx := box_below u28 (.cells #[.int .i64 X3, .int .i64 Y3] 41)
        have hnx := heap_alloc_new u28 (.cells #[.int .i64 X3, .int .i64 Y3] 41)
        replace HXA := Lib.hid ((hbx.block _ (lt_of_block HXA.out)).trans HXA.out)
        replace HBA := Lib.hid (below_to HBA.out hbx)
        replace B0 := Lib.hid ((hbx.block _ (lt_of_block B0.out)).trans B0.out)
        replace B1 := Lib.hid ((hbx.block _ (lt_of_block B1.out)).trans B1.out)
        replace B2 := Lib.hid ((hbx.block _ (lt_of_block B2.out)).trans B2.out)
        have B3 := Lib.hid hnx
        clear hbx hnx
        generalize World.alloc u28 _ = u29 at *
        generalize u28.heap.size = b3 at *
        refine (HAL.out u29 HBA.out).mono ?_
        rintro e u30 ⟨⟨r1, rfl, ho⟩, hb⟩
        replace HXA := Lib.hid ((hb.block _ (lt_of_block HXA.out)).trans HXA.out)
        replace HBA := Lib.hid (below_to HBA.out hb)
        replace B0 := Lib.hid ((hb.block _ (lt_of_block B0.out)).trans B0.out)
        replace B1 := Lib.hid ((hb.block _ (lt_of_block B1.out)).trans B1.out)
        replace B2 := Lib.hid ((hb.block _ (lt_of_block B2.out)).trans B2.out)
        replace B3 := Lib.hid ((hb.block _ (lt_of_block B3.out)).trans B3.out)
        clear hb
        have HV1 := Lib.hid (own_cms (l := cs) ho)
        clear ho
        go_wp2_with fail
        have hbt := Between_some HOK.out HV1.out HPB.out HPB.out HD.out
        obtain ⟨X4, HX4⟩ : ∃ X, Hid (-d (pl P) (pl P) = X) := ⟨_, Lib.hid rfl⟩
        obtain ⟨Y4, HY4⟩ : ∃ X, Hid (d (pl P) (pl P) = X) := ⟨_, Lib.hid rfl⟩
        rw [HX4.out, HY4.out] at hbt
        refine (hbt).mono ?_
        rintro e u31 ⟨rfl, hb⟩
        replace HXA := Lib.hid ((hb.block _ (lt_of_block HXA.out)).trans HXA.out)
        replace HBA := Lib.hid (below_to HBA.out hb)
        replace B0 := Lib.hid ((hb.block _ (lt_of_block B0.out)).trans B0.out)
        replace B1 := Lib.hid ((hb.block _ (lt_of_block B1.out)).trans B1.out)
        replace B2 := Lib.hid ((hb.block _ (lt_of_block B2.out)).trans B2.out)
        replace B3 := Lib.hid ((hb.block _ (lt_of_block B3.out)).trans B3.out)
        replace HV1 := Lib.hid ((HV1.out.same (.below (Nat.le_refl _) hb)).up hb.size)
        clear hb
        clear hbt
        clear HV1
        have hC := dist_some HOK.out HD.out
        have hP9 : pl P < 9 := by have := HPB.out; unfold pl; omega
        have hQ9 : pl Q < 9 := by have := HQB.out; unfold pl; omega
        have hR9 : pl R < 9 := by have := HRB.out; unfold pl; omega
        have t1 := hC.tri (pl P) (pl Q) (pl R) hP9 hQ9 hR9
        have t2 := hC.tri (pl R) (pl Q) (pl P) hR9 hQ9 hP9
        have t3 := hC.diag (pl P) hP9
        have s1 := hC.bound hP9 hQ9
        have s2 := hC.bound hQ9 hP9
        have s3 := hC.bound hQ9 hR9
        have s4 := hC.bound hR9 hQ9
        have s5 := hC.bound hP9 hR9
        have s6 := hC.bound hR9 hP9
        have hF : (X0 + X1 ≤ X2 ∧ Y2 ≤ Y0 + Y1 ∧ X3 = -Y2 ∧ Y3 = -X2 ∧ X4 = 0 ∧ Y4 = 0) ∧ (-300 ≤ X0 + X1 ∧ X0 + X1 ≤ 300 ∧ -300 ≤ Y0 + Y1 ∧ Y0 + Y1 ≤ 300 ∧ -100 ≤ X2 ∧ X2 ≤ 100 ∧ -100 ≤ Y2 ∧ Y2 ≤ 100) := by
          have := HX0.out; have := HX1.out; have := HX2.out; have := HX3.out; have := HX4.out
          have := HY0.out; have := HY1.out; have := HY2.out; have := HY3.out; have := HY4.out
          omega
        obtain ⟨⟨a1, a2, a3, a4, a5, a6⟩, a7, a8, a9, a10, a11, a12, a13, a14⟩ := hF
        clear hC hP9 hQ9 hR9 t1 t2 t3 s1 s2 s3 s4 s5 s6 HX0 HX1 HX2 HX3 HX4 HY0 HY1 HY2 HY3 HY4
        subst a3 a4 a5 a6
        have w1 : IntKind.i64.wrap (X0 + X1) = X0 + X1 := IntWalk.i64_in _ (by omega)
        have w2 : IntKind.i64.wrap (Y0 + Y1) = Y0 + Y1 := IntWalk.i64_in _ (by omega)
        have w3 : IntKind.i64.wrap (-Y2) = -Y2 := IntWalk.i64_in _ (by omega)
        have w4 : IntKind.i64.wrap (-X2) = -X2 := IntWalk.i64_in _ (by omega)
        have e1 : decide (X0 + X1 ≤ X2) = true := decide_eq_true a1
        have e2 : decide (Y2 ≤ Y0 + Y1) = true := decide_eq_true a2
        have q1 := fun w => eqr41 0 0 0 0 w
        clear a1 a2 a7 a8 a9 a10 a11 a12 a13 a14
        have k0 := cell_of_row u31 b0 0 _ _ _ B0.out
        have k1 := cell_of_row u31 b0 1 _ _ _ B0.out
        simp only [List.getElem?_toArray, List.getElem?_cons_zero, List.getElem?_cons_succ] at k0 k1
        have lk := lt_of_block B0.out
        have m0 := cell_of_row u31 b1 0 _ _ _ B1.out
        have m1 := cell_of_row u31 b1 1 _ _ _ B1.out
        simp only [List.getElem?_toArray, List.getElem?_cons_zero, List.getElem?_cons_succ] at m0 m1
        have lm := lt_of_block B1.out
        have n0 := cell_of_row u31 b2 0 _ _ _ B2.out
        have n1 := cell_of_row u31 b2 1 _ _ _ B2.out
        simp only [List.getElem?_toArray, List.getElem?_cons_zero, List.getElem?_cons_succ] at n0 n1
        have ln := lt_of_block B2.out
        have o0 := cell_of_row u31 b3 0 _ _ _ B3.out
        have o1 := cell_of_row u31 b3 1 _ _ _ B3.out
        simp only [List.getElem?_toArray, List.getElem?_cons_zero, List.getElem?_cons_succ] at o0 o1
        have lo := lt_of_block B3.out
        go_wp2_with fail
        have hbx := box_below u31 (.cells #[.int .i64 0, .int .i64 0] 41)
        have hnx := heap_alloc_new u31 (.cells #[.int .i64 0, .int .i64 0] 41)
        replace HXA := Lib.hid ((hbx.block _ (lt_of_block HXA.out)).trans HXA.out)
        replace HBA := Lib.hid (below_to HBA.out hbx)
        replace B0 := Lib.hid ((hbx.block _ (lt_of_block B0.out)).trans B0.out)
        replace B1 := Lib.hid ((hbx.block _ (lt_of_block B1.out)).trans B1.out)
        replace B2 := Lib.hid ((hbx.block _ (lt_of_block B2.out)).trans B2.out)
        replace B3 := Lib.hid ((hbx.block _ (lt_of_block B3.out)).trans B3.out)
        have B4 := Lib.hid hnx
        clear hbx hnx
        generalize World.alloc u31 _ = u32 at *
        generalize u31.heap.size = b4 at *
        refine (awake_any u32).mono ?_
        rintro e u33 ⟨rfl, hb⟩
        have HBF := Lib.hid (below_to HBA.out hb)
        clear hb
        go_wp2
        go_ret
        exact ⟨rfl, HBF.out⟩
end Go.Proofs.Ytplmlmmjfkbabaa
