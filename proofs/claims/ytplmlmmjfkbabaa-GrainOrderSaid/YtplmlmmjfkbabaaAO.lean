/- The law GrainOrder, walked. No condition. -/
import Derived.Test.YtplmlmmjfkbabaaAN
import Derived.StillTailTactics
import Derived.BigRegion
import Derived.BigQuiet
namespace Go.Proofs.Ytplmlmmjfkbabaa
open Go.RowKit Go.Shelf
attribute [local irreducible] arrV wpQuiet mat shl
theorem own_get {w : World} {base e sz n : Nat} {v : Value} {xs : List Value} (h : w.ownsRow base e sz v n xs) (hn : 0 < n) :
    ∃ g cap, v = .slice (some ⟨g, 0, none⟩) n cap ∧ base ≤ g ∧ g < w.heap.size ∧ ∀ j, j < n * sz → w.cell? ⟨g, j, none⟩ = xs[j]? := by
  rcases h.2 with ⟨hv, h0⟩ | ⟨g, cap, cur, hv, hb, hg, hn', _, hs, ht⟩
  · omega
  · refine ⟨g, cap, hv, hb, lt_of_block hg, fun j hj => ?_⟩
    have h1 : (cur.toList.take (n * sz))[j]? = xs[j]? := by rw [ht]
    rw [List.getElem?_take_of_lt hj] at h1
    rw [cell_of_row w g j _ _ _ hg, ← Array.getElem?_toList, h1]
theorem there_own {w : World} {base g cap n q : Nat} {xs : List Value} (h : w.ownsRow base 73 4 (.slice (some ⟨g, 0, none⟩) n cap) n xs) (hq : q < n) : w.there g (q * 4) 4 := by
  rcases h.2 with ⟨hv, _⟩ | ⟨g', c', cur, hv, hb, hg, hn', hc, hs, ht⟩
  · cases hv
  cases hv
  exact fun j hj => ⟨by rw [cell_of_row w g _ _ _ _ hg]; simp; omega, frozen_of_row w g _ _ _ hg⟩
theorem pl_lt {n p : Int} (h8 : n ≤ 8) (h : 0 ≤ p ∧ p < n) : pl p < 9 := by unfold pl; omega
theorem both_say {N : Nat} {cs zs : List Cm} (hA : AlbOk N cs) (hZ : AlbOk N zs) (h : (distO cs = none ∧ distO zs = none) ∨ ∃ d d', distO cs = some d ∧ distO zs = some d' ∧ EqD d d') {p q : Int} (hp : 0 ≤ p ∧ p < N) (hq : 0 ≤ q ∧ q < N) :
    ∃ (E : Int) (R : List Rg) (X Y : Int), (E = 0 ∨ E = 9) ∧ R.length ≤ 1000 ∧
      (∀ v w, CmsV w.heap.size w v cs → Calls Try.prog 21 #[.agg #[.int .i64 N, v]] w fun e w' => (∃ r, e = .returned (.tuple #[r, .int .i64 E]) ∧ RgsV w'.heap.size w' r R) ∧ Below w.heap.size w w') ∧
      (∀ v w, CmsV w.heap.size w v zs → Calls Try.prog 21 #[.agg #[.int .i64 N, v]] w fun e w' => (∃ r, e = .returned (.tuple #[r, .int .i64 E]) ∧ RgsV w'.heap.size w' r R) ∧ Below w.heap.size w w') ∧
      (∀ v w, CmsV w.heap.size w v cs → Calls Try.prog 25 #[.agg #[.int .i64 N, v], .int .i64 p, .int .i64 q] w fun e w' => e = .returned (.tuple #[.agg #[.int .i64 X, .int .i64 Y], .int .i64 E]) ∧ Below w.heap.size w w') ∧
      (∀ v w, CmsV w.heap.size w v zs → Calls Try.prog 25 #[.agg #[.int .i64 N, v], .int .i64 p, .int .i64 q] w fun e w' => e = .returned (.tuple #[.agg #[.int .i64 X, .int .i64 Y], .int .i64 E]) ∧ Below w.heap.size w w') := by
  have h8 := hA.n8
  have hN : N ≤ 8 := by omega
  have p9 := pl_lt h8 hp
  have q9 := pl_lt h8 hq
  rcases h with ⟨h1, h2⟩ | ⟨d, d', h1, h2, hE⟩
  · have emp : ∀ w' : World, RgsV w'.heap.size w' (.slice none 0 0) [] := fun w' => ⟨none, 0, rfl, fun h => absurd h (by decide)⟩
    refine ⟨9, [], 0, 0, .inr rfl, by simp, fun v w hV => (Grades_none hA hV h1).mono ?_, fun v w hV => (Grades_none hZ hV h2).mono ?_, fun v w hV => Between_none hA hV hp hq h1, fun v w hV => Between_none hZ hV hp hq h2⟩
    · rintro e w' ⟨rfl, hb⟩
      exact ⟨⟨_, rfl, emp w'⟩, hb⟩
    · rintro e w' ⟨rfl, hb⟩
      exact ⟨⟨_, rfl, emp w'⟩, hb⟩
  · refine ⟨0, gradesL d N, -d (pl p) (pl q), d (pl q) (pl p), .inl rfl, by rw [grades_len]; omega, fun v w hV => Grades_some hA hV h1, fun v w hV => ?_, fun v w hV => Between_some hA hV hp hq h1, fun v w hV => ?_⟩
    · rw [grades_same hN hE]
      exact Grades_some hZ hV h2
    · rw [hE _ _ p9 q9, hE _ _ q9 p9]
      exact Between_some hZ hV hp hq h2

set_option maxRecDepth 100000 in
set_option maxHeartbeats 8000000 in
theorem order_walk (n : Int) (v : Value) (cs : List Cm) (x1 x2 x3 : Int) (w : World) (h1 : 0 ≤ x1 ∧ x1 < 256) (h2 : 0 ≤ x2 ∧ x2 < 256) (h3 : 0 ≤ x3 ∧ x3 < 256) (hV : CmsV w.heap.size w v cs) (hcap : ∀ a m c, v = .slice a m c → m ≤ c) :
    Calls Try.prog 14 #[.agg #[.int .i64 n, v], .int .u8 x1, .int .u8 x2, .int .u8 x3] w fun e w' => e = .returned (.bool true) ∧ Below w.heap.size w w' := by
  have HRE := Lib.hid fun w' (h : Below w.heap.size w w') => ready_any w.heap.size n v cs w' (hV.same (.below (Nat.le_refl _) h)) h.size
  have HAL0 := Lib.hid fun (hl : cs.length ≤ 1000) w' (h : Below w.heap.size w w') => Album_any w.heap.size n v cs w' hl (hV.same (.below (Nat.le_refl _) h)) h.size
  have HCV := Lib.hid fun w' (h : Below w.heap.size w w') => hV.same (.below (Nat.le_refl _) h)
  obtain ⟨a, cap, rfl, hp⟩ := hV
  have HCAP := Lib.hid (hcap _ _ _ rfl)
  have HXA := Lib.hid (heap_alloc_new w (.cells #[.int .i64 n, .slice a cs.length cap] 24))
  have HBA := Lib.hid (box_below w (.cells #[.int .i64 n, .slice a cs.length cap] 24))
  clear hp hcap
  go_enter Try.func14, Try.ntmps14
  go_wp2_with fail
  refine (HRE.out _ HBA.out).mono ?_
  rintro e u0 ⟨rfl, hb⟩
  replace HXA := Lib.hid ((hb.block _ (lt_of_block HXA.out)).trans HXA.out)
  replace HBA := Lib.hid (below_to HBA.out hb)
  clear hb
  have c0 := cell_of_row u0 w.heap.size 0 _ _ _ HXA.out
  have c1 := cell_of_row u0 w.heap.size 1 _ _ _ HXA.out
  simp only [List.getElem?_toArray, List.getElem?_cons_zero, List.getElem?_cons_succ] at c0 c1
  have lc := lt_of_block HXA.out
  cases hz : readyB n cs with
  | false =>
    go_wp2_with fail
    refine (awake_any u0).mono ?_
    rintro e u1 ⟨rfl, hb⟩
    have HBF := Lib.hid (below_to HBA.out hb)
    clear hb
    go_wp2
    go_ret
    exact ⟨rfl, HBF.out⟩
  | true =>
    have HOK := Lib.hid (readyB_ok hz)
    have hn0 := HOK.out.n0
    have hn8 := HOK.out.n8
    have hlen := HOK.out.len
    have HAL := Lib.hid (HAL0.out (by omega))
    clear hz HAL0 HRE
    by_cases hn : n = 0
    · have hz1 : (n == 0) = true := by simp [hn]
      clear hn
      go_wp2_with fail
      refine (awake_any u0).mono ?_
      rintro e u2 ⟨rfl, hb⟩
      have HBF := Lib.hid (below_to HBA.out hb)
      clear hb
      go_wp2
      go_ret
      exact ⟨rfl, HBF.out⟩
    · have hz1 : (n == 0) = false := by simp [hn]
      by_cases hk0 : cs.length = 0
      · have hz2 : ((cs.length : Int) == 0) = true := by simp [hk0]
        clear hn hk0
        go_wp2_with fail
        refine (awake_any u0).mono ?_
        rintro e u3 ⟨rfl, hb⟩
        have HBF := Lib.hid (below_to HBA.out hb)
        clear hb
        go_wp2
        go_ret
        exact ⟨rfl, HBF.out⟩
      · have hz2 : ((cs.length : Int) == 0) = false := beq_eq_false_iff_ne.2 (by omega)
        by_cases h11 : 11 < cs.length
        · have hz3 : decide ((11 : Int) < cs.length) = true := decide_eq_true (by omega)
          clear hn hk0 h11
          go_wp2_with fail
          refine (awake_any u0).mono ?_
          rintro e u4 ⟨rfl, hb⟩
          have HBF := Lib.hid (below_to HBA.out hb)
          clear hb
          go_wp2
          go_ret
          exact ⟨rfl, HBF.out⟩
        · have hz3 : decide ((11 : Int) < cs.length) = false := decide_eq_false (by omega)
          have hz4 : (cs.length : Int) ≠ 0 := by omega
          obtain ⟨K, hK⟩ : ∃ K : Nat, x1.tmod cs.length = (K : Int) := ⟨(x1.tmod cs.length).toNat, by have := Int.tmod_nonneg (cs.length : Int) h1.1; omega⟩
          have HKL : Hid (K < cs.length) := Lib.hid (by have := Int.tmod_lt_of_pos x1 (show (0 : Int) < cs.length by omega); omega)
          obtain ⟨P, hP⟩ : ∃ P, x2.tmod n = P := ⟨_, rfl⟩
          obtain ⟨Q, hQ⟩ : ∃ Q, x3.tmod n = Q := ⟨_, rfl⟩
          have HPB : Hid (0 ≤ P ∧ P < n) := Lib.hid (by rw [← hP]; exact ⟨Int.tmod_nonneg _ h2.1, Int.tmod_lt_of_pos _ (by omega)⟩)
          have HQB : Hid (0 ≤ Q ∧ Q < n) := Lib.hid (by rw [← hQ]; exact ⟨Int.tmod_nonneg _ h3.1, Int.tmod_lt_of_pos _ (by omega)⟩)
          have hw1 : IntKind.i64.wrap x1 = x1 := IntWalk.i64_in _ (by omega)
          have hw2 : IntKind.i64.wrap x2 = x2 := IntWalk.i64_in _ (by omega)
          have hw3 : IntKind.i64.wrap x3 = x3 := IntWalk.i64_in _ (by omega)
          have hp0 : IntKind.i64.wrap (K : Int) = (K : Int) := IntWalk.i64_in _ (by have := HKL.out; omega)
          have hp1 : IntKind.i64.wrap P = P := IntWalk.i64_in _ (by have := HPB.out; omega)
          have hp2 : IntKind.i64.wrap Q = Q := IntWalk.i64_in _ (by have := HQB.out; omega)
          have H11 := Lib.hid h11
          have HN0 := Lib.hid hn
          clear h11 hk0
          go_wp2_with fail
          have g0 := cell_regrown c0
          refine wp_region_quiet_below (by kernel_rfl) (by kernel_rfl) ?_
          repeat (quiet_step (fail))
          refine wpQuiet_nil ?_
          intro u1 hw'
          obtain ⟨⟨dq, osq⟩, hw''⟩ := hw'
          have hb := below_regrown u0 dq osq
          rw [← hw''] at hb
          clear hw'' g0 c0 c1 lc hw2 hw3 hp1 hp2 hP hQ hz1 hz2 hz3 hz4 hK
          replace HXA := Lib.hid ((hb.block _ (lt_of_block HXA.out)).trans HXA.out)
          replace HBA := Lib.hid (below_to HBA.out hb)
          clear hb hn
          have c0 := cell_of_row u1 w.heap.size 0 _ _ _ HXA.out
          have c1 := cell_of_row u1 w.heap.size 1 _ _ _ HXA.out
          simp only [List.getElem?_toArray, List.getElem?_cons_zero, List.getElem?_cons_succ] at c0 c1
          have lc := lt_of_block HXA.out
          go_wp2_with fail
          clear c0 c1 lc
          have lx0 := lt_of_block HXA.out
          have HB3 : Hid (w.heap.size < u1.heap.size) := Lib.hid lx0
          clear lx0
          have hbx := box_below u1 (.cells #[.int .i64 n, .slice a cs.length cap] 24)
          have hnx := heap_alloc_new u1 (.cells #[.int .i64 n, .slice a cs.length cap] 24)
          replace HXA := Lib.hid ((hbx.block _ (lt_of_block HXA.out)).trans HXA.out)
          replace HBA := Lib.hid (below_to HBA.out hbx)
          have HX3 := Lib.hid hnx
          clear hbx hnx
          generalize World.alloc u1 _ = u2 at *
          generalize u1.heap.size = b3 at *
          have HC7 : Hid (∀ w', But (fun k => k = b3) u2 w' → w'.cell? ⟨w.heap.size, 1, none⟩ = some (.slice a cs.length cap) ∧ w.heap.size < w'.heap.size) := Lib.hid fun w' h => by
            have hn := HB3.out
            have z := (h.block _ (lt_of_block HXA.out) (by omega)).trans HXA.out
            exact ⟨cell_of_row w' w.heap.size 1 _ _ _ z, lt_of_block z⟩
          have hKL := HKL.out
          have hcp := HCAP.out
          have hwk : IntKind.i64.wrap ((K : Int) + 1) = (K : Int) + 1 := IntWalk.i64_in _ (by omega)
          go_wp2_with fail
          refine wp_region_noPanic ?_
          refine wp_region_acts (fun w' => But (fun k => k = b3) u2 w') (fun _ _ h hb => h.trans (But.of_below hb)) (But.of_below (below_drawn _)) (by kernel_rfl) (fun _ _ _ _ _ h => h)
            [.take 1, .take 2, .take 3, .take 4, .take 6, .take 7, .take 8, .take 9, .take 10, .act 0, .act 5, .act 11] [12, 13] (by kernel_rfl) ?_
          iterate 3
            (refine GWalk.takes rfl rfl ?_; apply Exists.intro; refine ⟨fun w' hS => ?_, ?_⟩; (obtain ⟨z1, z2⟩ := HC7.out w' hS; clear hS; go_simp; with_reducible rfl); simp only [List.getElem_toArray, List.getElem_cons_succ, List.getElem_cons_zero, Act.put, List.setIfInBounds_toArray, List.set_cons_zero, List.set_cons_succ])
          refine GWalk.takes rfl rfl ⟨_, fun w' hS => exec_slice_lo (q := K) (.tmp 61) (.tmp 62) rfl rfl rfl (by simp) (by omega), ?_⟩
          simp only [List.getElem_toArray, List.getElem_cons_succ, List.getElem_cons_zero, Act.put, List.setIfInBounds_toArray, List.set_cons_zero, List.set_cons_succ]
          iterate 4
            (refine GWalk.takes rfl rfl ?_; apply Exists.intro; refine ⟨fun w' hS => ?_, ?_⟩; (obtain ⟨z1, z2⟩ := HC7.out w' hS; clear hS; go_simp; with_reducible rfl); simp only [List.getElem_toArray, List.getElem_cons_succ, List.getElem_cons_zero, Act.put, List.setIfInBounds_toArray, List.set_cons_zero, List.set_cons_succ])
          refine GWalk.takes rfl rfl ⟨_, fun w' hS => exec_slice_hi (q := K + 1) (.tmp 66) (.tmp 68) rfl rfl rfl (by first | (simp; done) | (push_cast; exact hwk) | (push_cast; rfl)) (by omega), ?_⟩
          simp only [List.getElem_toArray, List.getElem_cons_succ, List.getElem_cons_zero, Act.put, List.setIfInBounds_toArray, List.set_cons_zero, List.set_cons_succ]
          refine GWalk.acts rfl rfl fun e1 he1 hSe1 hOe1 => ?_
          have hA1 := grow_to (below_drawn u2) he1
          have hA2 := grow_to hA1 (box_below e1 (.cells #[] 73 (0, 0)))
          refine ⟨.slice (some ⟨e1.heap.size, 0, none⟩) 0 0, e1.alloc (.cells #[] 73 (0, 0)), Mine (fun _ => False) e1 _, by kernel_rfl, (But.of_below hA2), kept_alloc _ e1 _ hOe1, ?_⟩
          simp only [List.getElem_toArray, List.getElem_cons_succ, List.getElem_cons_zero, Act.put, List.setIfInBounds_toArray, List.set_cons_zero, List.set_cons_succ]
          have ho1 := act_empty 73 4 u2.heap.size e1 hA1.size
          have hm1 := mine_empty e1 (.cells #[] 73 (0, 0))
          clear hSe1 hOe1 he1 hA1
          generalize e1.alloc (.cells #[] 73 (0, 0)) = f1 at *
          refine GWalk.acts rfl rfl fun e2 he2 hSe2 hOe2 => ?_
          have hA3 := grow_to hA2 he2
          obtain ⟨hp1, hp2⟩ := part_lo (HCV.out e2 (below_to HBA.out hA3)) K (by omega) hcp
          obtain ⟨v2, f2, hr2, ho2, hb2, hk2, hm2, -⟩ := act_app2 el22 u2.heap.size 0 (.slice (some ⟨e1.heap.size, 0, none⟩) 0 0) [] (lowA a K cap) (cs.length - K) (cap - K) (flatC (cs.drop K)) e2 (Mine (fun _ => False) e1 f1) 22 (by simp [maxLen]; omega) (by omega) (row_kept ho1 he2) hA3.size (by rw [flatC_len, List.length_drop]) hp1 hp2 flatC_one hm1 hOe2
          have hA4 := hA3.trans hb2
          refine ⟨v2, f2, _, exec_append (.tmp 59) (.tmp 63) rfl rfl rfl hr2, (But.of_below hA4), hk2, ?_⟩
          simp only [List.getElem_toArray, List.getElem_cons_succ, List.getElem_cons_zero, Act.put, List.setIfInBounds_toArray, List.set_cons_zero, List.set_cons_succ]
          clear hr2 hp1 hp2 hSe2 hOe2 he2 hA3 hA2 ho1 hb2 hk2 hm1
          refine GWalk.acts rfl rfl fun e4 he4 hSe4 hOe4 => ?_
          have hA5 := grow_to hA4 he4
          obtain ⟨hp1, hp2⟩ := part_hi (HCV.out e4 (below_to HBA.out hA5)) (K + 1) (by omega)
          obtain ⟨v3, f3, hr3, ho3, hb3, hk3, hm3, -⟩ := act_app2 el22 u2.heap.size (0 + (cs.length - K)) v2 ([] ++ flatC (cs.drop K)) a (K + 1) cap (flatC (cs.take (K + 1))) e4 _ 22 (by simp [maxLen]; omega) (by omega) (row_kept ho2 he4) hA5.size (by rw [flatC_len, List.length_take]; omega) hp1 hp2 flatC_one hm2 hOe4
          have hA6 := hA5.trans hb3
          refine ⟨v3, f3, _, exec_append (.tmp 64) (.tmp 69) rfl rfl rfl hr3, (But.of_below hA6), hk3, ?_⟩
          simp only [List.getElem_toArray, List.getElem_cons_succ, List.getElem_cons_zero, Act.put, List.setIfInBounds_toArray, List.set_cons_zero, List.set_cons_succ]
          clear hr3 hSe4 hOe4 he4 hA4 hA5 hp1 hp2 ho2 hb3 hk3 hm2 hm3
          refine GWalk.fin fun e6 he6 hS6 => ?_
          have hA9 := grow_to hA6 he6
          have ho6 := row_kept ho3 he6
          clear hA6 ho3 he6
          obtain ⟨xva, xvc, rfl⟩ := own_shape ho6
          have y6 := (hA9.block _ (lt_of_block HX3.out)).trans HX3.out
          have hc6 := cell_of_row e6 b3 1 _ _ _ y6
          have hf6 := frozen_of_row e6 b3 1 _ _ y6
          simp only [List.getElem?_toArray, List.getElem?_cons_zero, List.getElem?_cons_succ] at hc6
          have ly6 := lt_of_block y6
          refine Tail.value rfl rfl (by go_simp; with_reducible rfl) ?_
          simp only [List.getElem_toArray, List.getElem_cons_succ, List.getElem_cons_zero, Act.put, List.setIfInBounds_toArray, List.set_cons_zero, List.set_cons_succ]
          have hlb := lt_of_block HX3.out
          refine Tail.skip rfl rfl (exec_store_one 22 (.tmp 71) (.tmp 70) rfl rfl rfl hc6 hf6 (by kernel_rfl)) (hS6.trans (But.setCell _ _ rfl)) (Tail.done (NoPanic.normal ?_))
          simp only [List.getElem_toArray, List.getElem_cons_succ, List.getElem_cons_zero, Act.put, List.setIfInBounds_toArray, List.set_cons_zero, List.set_cons_succ]
          have y7 := heap_setCell_same e6 b3 1 _ 24 (.slice xva (0 + (cs.length - K) + (K + 1)) xvc) y6
          have ho7 := own_same (W' := e6.setCell ⟨b3, 1, none⟩ (.slice xva (0 + (cs.length - K) + (K + 1)) xvc)) ho6 (fun g hg _ => heap_setCell_other e6 ⟨b3, 1, none⟩ g _ (by show g ≠ b3; omega))
          have hot : ∀ k, k < u2.heap.size → k ≠ b3 → (e6.setCell ⟨b3, 1, none⟩ (.slice xva (0 + (cs.length - K) + (K + 1)) xvc)).heap[k]? = u2.heap[k]? := fun k hk hn => (heap_setCell_other e6 ⟨b3, 1, none⟩ k _ hn).trans (hA9.block k hk)
          have hbel : Below w.heap.size w (e6.setCell ⟨b3, 1, none⟩ (.slice xva (0 + (cs.length - K) + (K + 1)) xvc)) := (below_to HBA.out hA9).setCell (p := ⟨b3, 1, none⟩) (by show w.heap.size ≤ b3; have := HB3.out; omega) _
          simp only [List.setIfInBounds_toArray, List.set_cons_zero, List.set_cons_succ] at y7
          generalize World.setCell e6 _ _ = u3 at *
          have HBU : Hid (b3 < u2.heap.size) := Lib.hid hlb
          have HBW : Hid (w.heap.size < u2.heap.size) := Lib.hid (by have := HB3.out; omega)
          replace HXA := Lib.hid ((hot _ (lt_of_block HXA.out) (by have := HB3.out; omega)).trans HXA.out)
          replace HBA := Lib.hid hbel
          replace HX3 := Lib.hid y7
          have HVX := Lib.hid ho7
          clear y6 hc6 hf6 ly6 hS6 y7 ho7 hot hbel ho6 hA9 hlb HC7 hwk hp0
          obtain ⟨ys, HYE⟩ : ∃ ys, Hid (ys = cs.drop K ++ cs.take (K + 1)) := ⟨_, Lib.hid rfl⟩
          have hyl : 0 + (cs.length - K) + (K + 1) = ys.length := by rw [HYE.out, order_len hKL]; omega
          have hyf : [] ++ flatC (cs.drop K) ++ flatC (cs.take (K + 1)) = flatC ys := by rw [HYE.out, flatC_append]; simp
          rw [hyl] at HVX HX3 ⊢
          rw [hyf] at HVX
          have hy12 : ys.length ≤ 12 := by rw [← hyl]; have := H11.out; omega
          have hy1 : 0 < ys.length := by omega
          have HFL : Hid (FL n ys ys) := Lib.hid (FL.refl (fun c hc => HOK.out.cm c (order_mem.1 (by rw [← HYE.out]; exact hc))))
          clear hyl hyf hKL hcp
          obtain ⟨g, c', hge, hgb, -, -⟩ := own_get HVX.out hy1
          cases hge
          have HGB := Lib.hid hgb
          clear hgb
          have c0 := cell_of_row u3 b3 0 _ _ _ HX3.out
          have c1 := cell_of_row u3 b3 1 _ _ _ HX3.out
          simp only [List.getElem?_toArray, List.getElem?_cons_zero, List.getElem?_cons_succ] at c0 c1
          have lc := lt_of_block HX3.out
          go_wp2_with fail
          clear c0 c1 lc
          go_loopw [14] (fun i wr => ∃ (q : Nat) (zs : List Cm), q ≤ ys.length ∧ i = .int .i64 q ∧ Hid (FL n ys zs) ∧ Hid (wr.heap[w.heap.size]? = some (.cells #[.int .i64 n, .slice a cs.length cap] 24 (0, 0))) ∧ Hid (wr.heap[b3]? = some (.cells #[.int .i64 n, .slice (some ⟨g, 0, none⟩) ys.length xvc] 24 (0, 0))) ∧ Hid (wr.ownsRow u2.heap.size 73 4 (.slice (some ⟨g, 0, none⟩) ys.length xvc) ys.length (flatC zs)) ∧ Hid (Below w.heap.size w wr)) (fun i _ => ys.length - (intOf i).toNat)
          case atStart => exact ⟨0, ys, Nat.zero_le _, rfl, HFL, HXA, HX3, HVX, HBA⟩
          case round =>
            clear HXA HX3 HBA HVX HFL
            obtain ⟨q, zs, hq, rfl, HFL, HXA, HX3, HVX, HBA⟩ := hrel
            have HZL : Hid (zs.length = ys.length) := Lib.hid HFL.out.len
            have d0 := cell_of_row wr b3 0 _ _ _ HX3.out
            have d1 := cell_of_row wr b3 1 _ _ _ HX3.out
            simp only [List.getElem?_toArray, List.getElem?_cons_zero, List.getElem?_cons_succ] at d0 d1
            have l2 := lt_of_block HX3.out
            by_cases hlt : q < ys.length
            · obtain ⟨g', c', hge, hgb', hgl, hcell⟩ := own_get HVX.out hy1
              cases hge
              have hqz : q < zs.length := by rw [HZL.out]; exact hlt
              obtain ⟨k1, k2, k3, k4⟩ := flatC_get zs q hqz
              have p1 := (hcell (q * 4) (by omega)).trans k1
              have p2 := (hcell (q * 4 + 1) (by omega)).trans k2
              have p3 := (hcell (q * 4 + 2) (by omega)).trans k3
              have p4 := (hcell (q * 4 + 3) (by omega)).trans k4
              have hqn : (q : Int) < ys.length := by omega
              have hw9 : IntKind.i64.wrap ((q : Int) + 1) = (q : Int) + 1 := IntWalk.i64_in _ (by omega)
              have hco := HFL.out.ok _ hqz
              have hc1 := hco.lo
              have hc2 := hco.le
              have hc3 := hco.hi
              obtain ⟨c, hc⟩ : ∃ c, c = cm zs q := ⟨_, rfl⟩
              have HCE := Lib.hid hc
              rw [← hc] at p1 p2 p3 p4 hc1 hc2 hc3
              clear hco k1 k2 k3 k4 hc hcell
              obtain ⟨l, r, lo, hi⟩ := c
              simp only at p1 p2 p3 p4 hc1 hc2 hc3
              have w1 : IntKind.i64.wrap (-hi) = -hi := IntWalk.i64_in _ (by omega)
              have w2 : IntKind.i64.wrap (-lo) = -lo := IntWalk.i64_in _ (by omega)
              by_cases hr : 0 ≤ r
              · have e1 : decide (0 ≤ r) = true := decide_eq_true hr
                have hs1 : (q : Int).tmod 8 = ((q % 8 : Nat) : Int) := by rw [Int.tmod_eq_emod_of_nonneg (by omega)]; omega
                have hs2 : IntKind.i64.wrap ((q % 8 : Nat) : Int) = ((q % 8 : Nat) : Int) := IntWalk.i64_in _ (by omega)
                cases hB : ((x1 / 2 ^ (q % 8)).tmod 2 == 1) with
                | false =>
                  clear hr p1 p3 p4
                  go_wp2_with fail
                  clear hB
                  go_roundw
                  case rel => exact ⟨q + 1, zs, by omega, by simp, HFL, HXA, HX3, HVX, HBA⟩
                  case measure => simp [intOf] <;> omega
                | true =>
                  have HRB := Lib.hid hr
                  clear hr
                  go_wp2_with fail
                  clear hB hs1 hs2
                  go_still_tail 21, (by kernel_rfl)
                  change wpList _ _ _ _ _ wr.drew
                  have hb : Below wr.heap.size wr wr.drew := below_drawn wr
                  replace HXA := Lib.hid ((hb.block _ (lt_of_block HXA.out)).trans HXA.out)
                  replace HX3 := Lib.hid ((hb.block _ (lt_of_block HX3.out)).trans HX3.out)
                  replace HVX := Lib.hid (own_same HVX.out (fun g _ hg => hb.block g hg))
                  replace HBA := Lib.hid (below_to HBA.out hb)
                  clear hb p1 p2 p3 p4 d0 d1 l2 hgl hgb'
                  generalize wr.drew = w4 at *
                  refine wpList_store_mid rfl 73 (.tmp 118) (.tmp 117) rfl g (q * 4) #[.int .i64 r, .int .i64 l, .int .i64 (-hi), .int .i64 (-lo)] rfl rfl (there_own HVX.out hlt) (by kernel_rfl) (by simp [Value.oneCell']) ?_
                  have ho := own_set ⟨r, l, -hi, -lo⟩ HZL.out.symm HVX.out hlt
                  have hot := (put_cells g (q * 4) [.int .i64 r, .int .i64 l, .int .i64 (-hi), .int .i64 (-lo)] w4).other
                  have hbe := (put_cells g (q * 4) [.int .i64 r, .int .i64 l, .int .i64 (-hi), .int .i64 (-lo)] w4).below HBA.out (by have := HGB.out; have := HBW.out; omega)
                  have y1 := (hot w.heap.size (by have := HGB.out; have := HBW.out; omega)).trans HXA.out
                  have y3 := (hot b3 (by have := HGB.out; have := HBU.out; omega)).trans HX3.out
                  have hfl := HFL.out.set hqz (by rw [← HCE.out]; exact HRB.out)
                  rw [← HCE.out] at hfl
                  simp only [flipC] at hfl
                  have HF2 := Lib.hid hfl
                  have HY1 := Lib.hid y1
                  have HY3 := Lib.hid y3
                  have HY4 := Lib.hid ho
                  have HY5 := Lib.hid hbe
                  clear ho hot hbe y1 y3 hfl
                  simp only [Array.toList] at HY1 HY3 HY4 HY5 ⊢
                  generalize World.setCells w4 _ _ _ = w5 at *
                  go_wp2_with fail
                  go_roundw
                  case rel => exact ⟨q + 1, _, by omega, by simp, HF2, HY1, HY3, HY4, HY5⟩
                  case measure => simp [intOf] <;> omega
              · have e1 : decide (0 ≤ r) = false := decide_eq_false hr
                clear hr p1 p3 p4
                go_wp2_with fail
                go_roundw
                case rel => exact ⟨q + 1, zs, by omega, by simp, HFL, HXA, HX3, HVX, HBA⟩
                case measure => simp [intOf] <;> omega
            · obtain rfl : q = ys.length := by omega
              have c0 := cell_of_row wr w.heap.size 0 _ _ _ HXA.out
              have c1 := cell_of_row wr w.heap.size 1 _ _ _ HXA.out
              simp only [List.getElem?_toArray, List.getElem?_cons_zero, List.getElem?_cons_succ] at c0 c1
              have lc := lt_of_block HXA.out
              go_wp2_with fail
              clear d0 d1 l2 hlt hq hw1
              obtain ⟨N, rfl⟩ : ∃ N : Nat, n = (N : Int) := ⟨n.toNat, by omega⟩
              have hzl := HZL.out
              have hz12 : zs.length ≤ 1000 := by omega
              rw [← hzl] at HVX HX3
              have hfl := HFL.out
              rw [HYE.out] at hfl
              have HOKZ := Lib.hid (order_ok HOK.out (by have := H11.out; omega) HKL.out hfl)
              have hsame := order_same HOK.out (by have := H11.out; omega) HKL.out hfl
              obtain ⟨E, R, X, Y, hE, hR, ga, gz, ba, bz⟩ := both_say HOK.out HOKZ.out hsame HPB.out HQB.out
              have HGA := Lib.hid ga
              have HGZ := Lib.hid gz
              have HBT := Lib.hid ba
              have HBZ := Lib.hid bz
              have HE := Lib.hid hE
              have HR := Lib.hid hR
              have HZ1 := Lib.hid hz12
              clear ga gz ba bz hE hR hsame hfl hzl HZL HFL hz12
              clear c0 c1 lc
              refine (HAL.out wr HBA.out).mono ?_
              rintro e u11 ⟨⟨r1, rfl, ho⟩, hb⟩
              replace HXA := Lib.hid ((hb.block _ (lt_of_block HXA.out)).trans HXA.out)
              replace HX3 := Lib.hid ((hb.block _ (lt_of_block HX3.out)).trans HX3.out)
              replace HVX := Lib.hid (own_same HVX.out (fun g _ hg => hb.block g hg))
              replace HBA := Lib.hid (below_to HBA.out hb)
              clear hb
              have HV1 := Lib.hid (own_cms (l := cs) ho)
              clear ho
              go_wp2_with fail
              refine (HGA.out _ _ HV1.out).mono ?_
              rintro e u12 ⟨⟨r2, rfl, hr2⟩, hb⟩
              replace HXA := Lib.hid ((hb.block _ (lt_of_block HXA.out)).trans HXA.out)
              replace HX3 := Lib.hid ((hb.block _ (lt_of_block HX3.out)).trans HX3.out)
              replace HVX := Lib.hid (own_same HVX.out (fun g _ hg => hb.block g hg))
              replace HBA := Lib.hid (below_to HBA.out hb)
              replace HV1 := Lib.hid ((HV1.out.same (.below (Nat.le_refl _) hb)).up hb.size)
              clear hb
              have HG := Lib.hid hr2
              clear hr2
              clear HV1
              have c0 := cell_of_row u12 b3 0 _ _ _ HX3.out
              have c1 := cell_of_row u12 b3 1 _ _ _ HX3.out
              simp only [List.getElem?_toArray, List.getElem?_cons_zero, List.getElem?_cons_succ] at c0 c1
              have lc := lt_of_block HX3.out
              go_wp2_with fail
              clear c0 c1 lc
              refine (Album_any u12.heap.size N _ zs u12 HZ1.out (own_cms (l := zs) HVX.out) (Nat.le_refl _)).mono ?_
              rintro e u13 ⟨⟨r9, rfl, ho⟩, hb⟩
              replace HXA := Lib.hid ((hb.block _ (lt_of_block HXA.out)).trans HXA.out)
              replace HX3 := Lib.hid ((hb.block _ (lt_of_block HX3.out)).trans HX3.out)
              replace HVX := Lib.hid (own_same HVX.out (fun g _ hg => hb.block g hg))
              replace HBA := Lib.hid (below_to HBA.out hb)
              replace HG := Lib.hid ((HG.out.same (.below (Nat.le_refl _) hb)).up hb.size)
              clear hb
              have HV9 := Lib.hid (own_cms (l := zs) ho)
              clear ho
              go_wp2_with fail
              refine (HGZ.out _ _ HV9.out).mono ?_
              rintro e u14 ⟨⟨r4, rfl, hr4⟩, hb⟩
              replace HXA := Lib.hid ((hb.block _ (lt_of_block HXA.out)).trans HXA.out)
              replace HX3 := Lib.hid ((hb.block _ (lt_of_block HX3.out)).trans HX3.out)
              replace HVX := Lib.hid (own_same HVX.out (fun g _ hg => hb.block g hg))
              replace HBA := Lib.hid (below_to HBA.out hb)
              replace HG := Lib.hid ((HG.out.same (.below (Nat.le_refl _) hb)).up hb.size)
              replace HV9 := Lib.hid ((HV9.out.same (.below (Nat.le_refl _) hb)).up hb.size)
              clear hb
              have HH := Lib.hid hr4
              clear hr4
              clear HV9
              have c0 := cell_of_row u14 w.heap.size 0 _ _ _ HXA.out
              have c1 := cell_of_row u14 w.heap.size 1 _ _ _ HXA.out
              simp only [List.getElem?_toArray, List.getElem?_cons_zero, List.getElem?_cons_succ] at c0 c1
              have lc := lt_of_block HXA.out
              go_wp2_with fail
              clear c0 c1 lc
              refine (HAL.out u14 HBA.out).mono ?_
              rintro e u15 ⟨⟨r1, rfl, ho⟩, hb⟩
              replace HXA := Lib.hid ((hb.block _ (lt_of_block HXA.out)).trans HXA.out)
              replace HX3 := Lib.hid ((hb.block _ (lt_of_block HX3.out)).trans HX3.out)
              replace HVX := Lib.hid (own_same HVX.out (fun g _ hg => hb.block g hg))
              replace HBA := Lib.hid (below_to HBA.out hb)
              replace HG := Lib.hid ((HG.out.same (.below (Nat.le_refl _) hb)).up hb.size)
              replace HH := Lib.hid ((HH.out.same (.below (Nat.le_refl _) hb)).up hb.size)
              clear hb
              have HV1 := Lib.hid (own_cms (l := cs) ho)
              clear ho
              go_wp2_with fail
              refine (HBT.out _ _ HV1.out).mono ?_
              rintro e u16 ⟨rfl, hb⟩
              replace HXA := Lib.hid ((hb.block _ (lt_of_block HXA.out)).trans HXA.out)
              replace HX3 := Lib.hid ((hb.block _ (lt_of_block HX3.out)).trans HX3.out)
              replace HVX := Lib.hid (own_same HVX.out (fun g _ hg => hb.block g hg))
              replace HBA := Lib.hid (below_to HBA.out hb)
              replace HG := Lib.hid ((HG.out.same (.below (Nat.le_refl _) hb)).up hb.size)
              replace HH := Lib.hid ((HH.out.same (.below (Nat.le_refl _) hb)).up hb.size)
              replace HV1 := Lib.hid ((HV1.out.same (.below (Nat.le_refl _) hb)).up hb.size)
              clear hb
              clear HV1
              have c0 := cell_of_row u16 b3 0 _ _ _ HX3.out
              have c1 := cell_of_row u16 b3 1 _ _ _ HX3.out
              simp only [List.getElem?_toArray, List.getElem?_cons_zero, List.getElem?_cons_succ] at c0 c1
              have lc := lt_of_block HX3.out
              go_wp2_with fail
              clear c0 c1 lc
              have hbx := box_below u16 (.cells #[.int .i64 X, .int .i64 Y] 41)
              have hnx := heap_alloc_new u16 (.cells #[.int .i64 X, .int .i64 Y] 41)
              replace HXA := Lib.hid ((hbx.block _ (lt_of_block HXA.out)).trans HXA.out)
              replace HX3 := Lib.hid ((hbx.block _ (lt_of_block HX3.out)).trans HX3.out)
              replace HVX := Lib.hid (own_same HVX.out (fun g _ hg => hbx.block g hg))
              replace HBA := Lib.hid (below_to HBA.out hbx)
              replace HG := Lib.hid ((HG.out.same (.below (Nat.le_refl _) hbx)).up hbx.size)
              replace HH := Lib.hid ((HH.out.same (.below (Nat.le_refl _) hbx)).up hbx.size)
              have HXB := Lib.hid hnx
              clear hbx hnx
              generalize World.alloc u16 _ = u17 at *
              generalize u16.heap.size = b20 at *
              refine (Album_any u17.heap.size N _ zs u17 HZ1.out (own_cms (l := zs) HVX.out) (Nat.le_refl _)).mono ?_
              rintro e u18 ⟨⟨r9, rfl, ho⟩, hb⟩
              replace HXA := Lib.hid ((hb.block _ (lt_of_block HXA.out)).trans HXA.out)
              replace HX3 := Lib.hid ((hb.block _ (lt_of_block HX3.out)).trans HX3.out)
              replace HVX := Lib.hid (own_same HVX.out (fun g _ hg => hb.block g hg))
              replace HBA := Lib.hid (below_to HBA.out hb)
              replace HG := Lib.hid ((HG.out.same (.below (Nat.le_refl _) hb)).up hb.size)
              replace HH := Lib.hid ((HH.out.same (.below (Nat.le_refl _) hb)).up hb.size)
              replace HXB := Lib.hid ((hb.block _ (lt_of_block HXB.out)).trans HXB.out)
              clear hb
              have HV9 := Lib.hid (own_cms (l := zs) ho)
              clear ho
              go_wp2_with fail
              refine (HBZ.out _ _ HV9.out).mono ?_
              rintro e u19 ⟨rfl, hb⟩
              replace HXA := Lib.hid ((hb.block _ (lt_of_block HXA.out)).trans HXA.out)
              replace HX3 := Lib.hid ((hb.block _ (lt_of_block HX3.out)).trans HX3.out)
              replace HVX := Lib.hid (own_same HVX.out (fun g _ hg => hb.block g hg))
              replace HBA := Lib.hid (below_to HBA.out hb)
              replace HG := Lib.hid ((HG.out.same (.below (Nat.le_refl _) hb)).up hb.size)
              replace HH := Lib.hid ((HH.out.same (.below (Nat.le_refl _) hb)).up hb.size)
              replace HXB := Lib.hid ((hb.block _ (lt_of_block HXB.out)).trans HXB.out)
              replace HV9 := Lib.hid ((HV9.out.same (.below (Nat.le_refl _) hb)).up hb.size)
              clear hb
              clear HV9
              clear HVX
              clear HX3
              rcases HE.out with rfl | rfl
              · skip
                go_wp2_with fail
                have hbx := box_below u19 (.cells #[.int .i64 X, .int .i64 Y] 41)
                have hnx := heap_alloc_new u19 (.cells #[.int .i64 X, .int .i64 Y] 41)
                replace HXA := Lib.hid ((hbx.block _ (lt_of_block HXA.out)).trans HXA.out)
                replace HBA := Lib.hid (below_to HBA.out hbx)
                replace HG := Lib.hid ((HG.out.same (.below (Nat.le_refl _) hbx)).up hbx.size)
                replace HH := Lib.hid ((HH.out.same (.below (Nat.le_refl _) hbx)).up hbx.size)
                replace HXB := Lib.hid ((hbx.block _ (lt_of_block HXB.out)).trans HXB.out)
                have HXC := Lib.hid hnx
                clear hbx hnx
                generalize World.alloc u19 _ = u20 at *
                generalize u19.heap.size = b22 at *
                have hrs := ranges_same u20.heap.size _ _ R u20 HR.out HG.out HH.out (Nat.le_refl _)
                refine (hrs).mono ?_
                rintro e u21 ⟨rfl, hb⟩
                replace HXA := Lib.hid ((hb.block _ (lt_of_block HXA.out)).trans HXA.out)
                replace HBA := Lib.hid (below_to HBA.out hb)
                replace HG := Lib.hid ((HG.out.same (.below (Nat.le_refl _) hb)).up hb.size)
                replace HH := Lib.hid ((HH.out.same (.below (Nat.le_refl _) hb)).up hb.size)
                replace HXB := Lib.hid ((hb.block _ (lt_of_block HXB.out)).trans HXB.out)
                replace HXC := Lib.hid ((hb.block _ (lt_of_block HXC.out)).trans HXC.out)
                clear hb
                clear hrs
                clear HG
                clear HH
                have d0 := cell_of_row u21 b20 0 _ _ _ HXB.out
                have d1 := cell_of_row u21 b20 1 _ _ _ HXB.out
                simp only [List.getElem?_toArray, List.getElem?_cons_zero, List.getElem?_cons_succ] at d0 d1
                have ld := lt_of_block HXB.out
                have e0 := cell_of_row u21 b22 0 _ _ _ HXC.out
                have e1 := cell_of_row u21 b22 1 _ _ _ HXC.out
                simp only [List.getElem?_toArray, List.getElem?_cons_zero, List.getElem?_cons_succ] at e0 e1
                have le := lt_of_block HXC.out
                have q1 := fun w => eqr41 X Y X Y w
                simp only [decide_true, Bool.and_self] at q1
                go_wp2_with fail
                refine (awake_any u21).mono ?_
                rintro e u22 ⟨rfl, hb⟩
                have HBF := Lib.hid (below_to HBA.out hb)
                clear hb
                go_wp2
                go_ret
                exact ⟨rfl, HBF.out⟩
              · skip
                go_wp2_with fail
                have hbx := box_below u19 (.cells #[.int .i64 X, .int .i64 Y] 41)
                have hnx := heap_alloc_new u19 (.cells #[.int .i64 X, .int .i64 Y] 41)
                replace HXA := Lib.hid ((hbx.block _ (lt_of_block HXA.out)).trans HXA.out)
                replace HBA := Lib.hid (below_to HBA.out hbx)
                replace HG := Lib.hid ((HG.out.same (.below (Nat.le_refl _) hbx)).up hbx.size)
                replace HH := Lib.hid ((HH.out.same (.below (Nat.le_refl _) hbx)).up hbx.size)
                replace HXB := Lib.hid ((hbx.block _ (lt_of_block HXB.out)).trans HXB.out)
                have HXC := Lib.hid hnx
                clear hbx hnx
                generalize World.alloc u19 _ = u23 at *
                generalize u19.heap.size = b22 at *
                have hrs := ranges_same u23.heap.size _ _ R u23 HR.out HG.out HH.out (Nat.le_refl _)
                refine (hrs).mono ?_
                rintro e u24 ⟨rfl, hb⟩
                replace HXA := Lib.hid ((hb.block _ (lt_of_block HXA.out)).trans HXA.out)
                replace HBA := Lib.hid (below_to HBA.out hb)
                replace HG := Lib.hid ((HG.out.same (.below (Nat.le_refl _) hb)).up hb.size)
                replace HH := Lib.hid ((HH.out.same (.below (Nat.le_refl _) hb)).up hb.size)
                replace HXB := Lib.hid ((hb.block _ (lt_of_block HXB.out)).trans HXB.out)
                replace HXC := Lib.hid ((hb.block _ (lt_of_block HXC.out)).trans HXC.out)
                clear hb
                clear hrs
                clear HG
                clear HH
                have d0 := cell_of_row u24 b20 0 _ _ _ HXB.out
                have d1 := cell_of_row u24 b20 1 _ _ _ HXB.out
                simp only [List.getElem?_toArray, List.getElem?_cons_zero, List.getElem?_cons_succ] at d0 d1
                have ld := lt_of_block HXB.out
                have e0 := cell_of_row u24 b22 0 _ _ _ HXC.out
                have e1 := cell_of_row u24 b22 1 _ _ _ HXC.out
                simp only [List.getElem?_toArray, List.getElem?_cons_zero, List.getElem?_cons_succ] at e0 e1
                have le := lt_of_block HXC.out
                have q1 := fun w => eqr41 X Y X Y w
                simp only [decide_true, Bool.and_self] at q1
                go_wp2_with fail
                refine (awake_any u24).mono ?_
                rintro e u25 ⟨rfl, hb⟩
                have HBF := Lib.hid (below_to HBA.out hb)
                clear hb
                go_wp2
                go_ret
                exact ⟨rfl, HBF.out⟩
end Go.Proofs.Ytplmlmmjfkbabaa
