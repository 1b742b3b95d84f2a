/- The law GrainMore, walked. No condition. -/
import Derived.Test.YtplmlmmjfkbabaaAJ
import Derived.BigRegion
import Derived.BigQuiet
namespace Go.Proofs.Ytplmlmmjfkbabaa
open Go.RowKit Go.Shelf
attribute [local irreducible] arrV wpQuiet mat shl
theorem Grades_own {n : Nat} {v : Value} {cs : List Cm} {w : World} {d : Dm} (hA : AlbOk n cs) (hV : CmsV w.heap.size w v cs) (hd : distO cs = some d) :
    Calls Try.prog 21 #[.agg #[.int .i64 n, v]] w fun e w' => (∃ r, e = .returned (.tuple #[r, .int .i64 0]) ∧ w'.ownsRow w.heap.size 41 2 r n (flatR (gradesL d n))) ∧ Below w.heap.size w w' := by
  refine (Grades_any w.heap.size n v cs w hA.maxLen hV (Nat.le_refl _)).mono ?_
  rintro e w' ⟨⟨r, rfl, -, h1⟩, hb⟩
  have hE := lay_some hA (pics_nil n) hd
  obtain ⟨d', N, hd', hN, ho⟩ := h1 hE
  rw [hd] at hd'
  obtain rfl : d = d' := by injection hd'
  obtain rfl : n = N := by omega
  exact ⟨⟨r, by rw [hE], ho⟩, hb⟩
theorem says_ok {n : Int} {cs : List Cm} {d : Dm} {p q : Int} (hA : AlbOk n cs) (hd : distO cs = some d) (hl : cs.length ≤ 11) (hp : 0 ≤ p ∧ p < n) (hq : 0 ≤ q ∧ q < n) (hne : p ≠ q) : AlbOk n (cs ++ [⟨p, q, -d (pl p) (pl q), d (pl q) (pl p)⟩]) := by
  refine ⟨hA.n0, hA.n8, by simp; omega, fun c hc => ?_⟩
  rcases List.mem_append.1 hc with hc | hc
  · exact hA.cm c hc
  · obtain rfl : c = ⟨p, q, -d (pl p) (pl q), d (pl q) (pl p)⟩ := by simpa using hc
    have h8 := hA.n8
    have h := dist_some hA hd
    have hp9 : pl p < 9 := by unfold pl; omega
    have hq9 : pl q < 9 := by unfold pl; omega
    have b1 := h.bound hp9 hq9
    have b2 := h.bound hq9 hp9
    have t := h.tri (pl p) (pl q) (pl p) hp9 hq9 hp9
    have dg := h.diag (pl p) hp9
    exact ⟨hp.1, hp.2, by simp only; omega, hq.2, hne, by simp only; omega, by simp only; omega, by simp only; omega⟩
theorem more_none {n : Int} {cs cs' : List Cm} (hA : AlbOk n cs) (hA' : AlbOk n (cs ++ cs')) (hd : distO cs = none) : distO (cs ++ cs') = none := by
  cases h : distO (cs ++ cs') with
  | none => rfl
  | some d =>
    obtain ⟨d2, e, -⟩ := dist_more hA hA' (fun g hg => ⟨hg.chart, hg.all, fun c hc => hg.says c (by simp [hc])⟩) h
    rw [hd] at e
    cases e
theorem more_less {n : Int} {cs cs' : List Cm} {d d' : Dm} (hA : AlbOk n cs) (hA' : AlbOk n (cs ++ cs')) (hd : distO cs = some d) (hd' : distO (cs ++ cs') = some d') : ∀ a b, a < 9 → b < 9 → d' a b ≤ d a b := by
  obtain ⟨d2, e, h⟩ := dist_more hA hA' (fun g hg => ⟨hg.chart, hg.all, fun c hc => hg.says c (by simp [hc])⟩) hd'
  rw [hd] at e
  obtain rfl : d = d2 := by injection e
  exact h
theorem more_same {n : Int} {cs : List Cm} {d : Dm} {p q : Int} (hA : AlbOk n cs) (hA' : AlbOk n (cs ++ [⟨p, q, -d (pl p) (pl q), d (pl q) (pl p)⟩])) (hd : distO cs = some d) (hp : 0 ≤ p ∧ p < n) (hq : 0 ≤ q ∧ q < n) : ∃ d', distO (cs ++ [⟨p, q, -d (pl p) (pl q), d (pl q) (pl p)⟩]) = some d' ∧ EqD d d' := by
  rcases dist_same hA hA' (says_same hA hd hp hq) with ⟨h1, -⟩ | ⟨d1, d2, h1, h2, h3⟩
  · rw [hd] at h1; cases h1
  · rw [hd] at h1
    obtain rfl : d = d1 := by injection h1
    exact ⟨d2, h2, h3⟩

set_option maxRecDepth 100000 in
set_option maxHeartbeats 8000000 in
theorem more_walk (n : Int) (v : Value) (cs : List Cm) (m : Cm) (x2 x3 : Int) (w : World) (h2 : 0 ≤ x2 ∧ x2 < 256) (h3 : 0 ≤ x3 ∧ x3 < 256) (hV : CmsV w.heap.size w v cs) :
    Calls Try.prog 12 #[.agg #[.int .i64 n, v], .agg #[.int .i64 m.l, .int .i64 m.r, .int .i64 m.lo, .int .i64 m.hi], .int .u8 x2, .int .u8 x3] w fun e w' => e = .returned (.bool true) ∧ Below w.heap.size w w' := by
  have HRE := Lib.hid fun w' (h : Below w.heap.size w w') => ready_any w.heap.size n v cs w' (hV.same (.below (Nat.le_refl _) h)) h.size
  have HAL0 := Lib.hid fun (hl : cs.length ≤ 1000) w' (h : Below w.heap.size w w') => Album_any w.heap.size n v cs w' hl (hV.same (.below (Nat.le_refl _) h)) h.size
  have HCV := Lib.hid fun w' (h : Below w.heap.size w w') => hV.same (.below (Nat.le_refl _) h)
  obtain ⟨a, cap, rfl, hp⟩ := hV
  obtain ⟨ml, mr, mlo, mhi⟩ := m
  simp only
  have HX2 := box2 w (.cells #[.int .i64 n, .slice a cs.length cap] 24) (.cells #[.int .i64 ml, .int .i64 mr, .int .i64 mlo, .int .i64 mhi] 73)
  have HXA := Lib.hid HX2.1
  have HXM := Lib.hid HX2.2
  have HBA := Lib.hid (below2 w (.cells #[.int .i64 n, .slice a cs.length cap] 24) (.cells #[.int .i64 ml, .int .i64 mr, .int .i64 mlo, .int .i64 mhi] 73))
  clear hp HX2
  go_enter Try.func12, Try.ntmps12
  go_wp2_with fail
  refine (HRE.out _ HBA.out).mono ?_
  rintro e u0 ⟨rfl, hb⟩
  replace HXA := Lib.hid ((hb.block _ (lt_of_block HXA.out)).trans HXA.out)
  replace HXM := Lib.hid ((hb.block _ (lt_of_block HXM.out)).trans HXM.out)
  replace HBA := Lib.hid (below_to HBA.out hb)
  clear hb
  cases hz : readyB n cs with
  | false =>
    go_wp2_with fail
    refine (awake_any u0).mono ?_
    rintro e u1 ⟨rfl, hb⟩
    have HBF := Lib.hid (below_to HBA.out hb)
    clear hb
    go_wp2
    go_ret
    exact ⟨rfl, HBF.out⟩
  | true =>
    have HOK := Lib.hid (readyB_ok hz)
    have hn0 := HOK.out.n0
    have hn8 := HOK.out.n8
    have hlen := HOK.out.len
    have HAL := Lib.hid (HAL0.out (by omega))
    clear hz HAL0 HRE
    have c0 := cell_of_row u0 w.heap.size 0 _ _ _ HXA.out
    have c1 := cell_of_row u0 w.heap.size 1 _ _ _ HXA.out
    simp only [List.getElem?_toArray, List.getElem?_cons_zero, List.getElem?_cons_succ] at c0 c1
    have lc := lt_of_block HXA.out
    by_cases hn : n < 2
    · have hz1 : decide (n < 2) = true := decide_eq_true hn
      clear hn
      go_wp2_with fail
      refine (awake_any u0).mono ?_
      rintro e u2 ⟨rfl, hb⟩
      have HBF := Lib.hid (below_to HBA.out hb)
      clear hb
      go_wp2
      go_ret
      exact ⟨rfl, HBF.out⟩
    · have hz1 : decide (n < 2) = false := decide_eq_false hn
      by_cases h11 : 11 < cs.length
      · have hz2 : decide ((11 : Int) < cs.length) = true := decide_eq_true (by omega)
        clear hn h11
        go_wp2_with fail
        refine (awake_any u0).mono ?_
        rintro e u3 ⟨rfl, hb⟩
        have HBF := Lib.hid (below_to HBA.out hb)
        clear hb
        go_wp2
        go_ret
        exact ⟨rfl, HBF.out⟩
      · have hz2 : decide ((11 : Int) < cs.length) = false := decide_eq_false (by omega)
        have hz3 : n ≠ 0 := by omega
        have hz4 : (n == 0) = false := by simp [hz3]
        obtain ⟨P, hP⟩ : ∃ P, x2.tmod n = P := ⟨_, rfl⟩
        obtain ⟨Q, hQ⟩ : ∃ Q, x3.tmod n = Q := ⟨_, rfl⟩
        have hP2 : x2 % n = P := by rw [← hP, Int.tmod_eq_emod_of_nonneg h2.1]
        have hQ2 : x3 % n = Q := by rw [← hQ, Int.tmod_eq_emod_of_nonneg h3.1]
        have HPB : Hid (0 ≤ P ∧ P < n) := Lib.hid (by rw [← hP2]; exact ⟨Int.emod_nonneg _ hz3, Int.emod_lt_of_pos _ (by omega)⟩)
        have HQB : Hid (0 ≤ Q ∧ Q < n) := Lib.hid (by rw [← hQ2]; exact ⟨Int.emod_nonneg _ hz3, Int.emod_lt_of_pos _ (by omega)⟩)
        have hw2 : IntKind.i64.wrap x2 = x2 := IntWalk.i64_in _ (by omega)
        have hw3 : IntKind.i64.wrap x3 = x3 := IntWalk.i64_in _ (by omega)
        have hp1 : IntKind.i64.wrap P = P := IntWalk.i64_in _ (by have := HPB.out; omega)
        have hp2 : IntKind.i64.wrap Q = Q := IntWalk.i64_in _ (by have := HQB.out; omega)
        have HN2 := Lib.hid hn
        have H11 := Lib.hid h11
        clear hn h11
        go_wp2_with fail
        have g0 := cell_regrown c0
        refine wp_region_quiet_below (by kernel_rfl) (by kernel_rfl) ?_
        repeat (quiet_step (fail))
        refine wpQuiet_nil ?_
        intro u1 hw'
        obtain ⟨⟨dq, osq⟩, hw''⟩ := hw'
        have hb := below_regrown u0 dq osq
        rw [← hw''] at hb
        clear hw'' g0 c0 c1 lc hw2 hw3 hp1 hp2 hP2 hQ2 hP hQ hz1 hz2 hz3 hz4
        replace HXA := Lib.hid ((hb.block _ (lt_of_block HXA.out)).trans HXA.out)
        replace HXM := Lib.hid ((hb.block _ (lt_of_block HXM.out)).trans HXM.out)
        replace HBA := Lib.hid (below_to HBA.out hb)
        clear hb
        have HBM : Hid (w.heap.size + 1 < u1.heap.size) := Lib.hid (lt_of_block HXM.out)
        have HC : Hid (∀ w', Below u1.heap.size u1 w' → w'.cell? ⟨w.heap.size, 0, none⟩ = some (.int .i64 n) ∧ w'.cell? ⟨w.heap.size, 1, none⟩ = some (.slice a cs.length cap) ∧ w.heap.size < w'.heap.size) := Lib.hid fun w' h => by
          have z := (h.block _ (lt_of_block HXA.out)).trans HXA.out
          exact ⟨cell_of_row w' w.heap.size 0 _ _ _ z, cell_of_row w' w.heap.size 1 _ _ _ z, lt_of_block z⟩
        go_wp2_with fail
        refine wp_region_noPanic ?_
        refine wp_region_acts (fun w' => Below u1.heap.size u1 w') (fun _ _ h hb => grow_to h hb) (below_drawn _) (by kernel_rfl) (fun _ _ _ _ _ h => h)
          [.float 3, .take 0, .take 1, .act 2, .join] [4, 5] (by kernel_rfl) ?_
        refine GWalk.floats (.cells #[.int .i64 0, .slice none 0 0] 24 (0, 0)) (fun b => .pointer (some ⟨b, 0, none⟩)) rfl rfl rfl (fun w1 => by kernel_rfl) ?_
        simp only [List.nil_append, List.cons_append]
        iterate 2
          (refine GWalk.takes rfl rfl ?_; apply Exists.intro; refine ⟨fun w' hS => ?_, ?_⟩; (obtain ⟨z1, z2, z3⟩ := HC.out w' hS; clear hS; go_simp; with_reducible rfl); simp only [List.getElem_toArray, List.getElem_cons_succ, List.getElem_cons_zero, Act.put, List.setIfInBounds_toArray, List.set_cons_zero, List.set_cons_succ])
        refine GWalk.acts rfl rfl fun e1 he1 hSe1 hOe1 => ?_
        have hA1 := grow_to (below_drawn u1) he1
        have hA2 := grow_to hA1 (box_below e1 (.cells #[.int .i64 0, .slice none 0 0] 24 (0, 0)))
        refine ⟨.pointer (some ⟨e1.heap.size, 0, none⟩), e1.alloc (.cells #[.int .i64 0, .slice none 0 0] 24 (0, 0)), Mine (fun _ => False) e1 _, by kernel_rfl, hA2, kept_alloc _ e1 _ hOe1, ?_⟩
        simp only [List.getElem_toArray, List.getElem_cons_succ, List.getElem_cons_zero, Act.put, List.setIfInBounds_toArray, List.set_cons_zero, List.set_cons_succ]
        have hz11 := heap_alloc_new e1 (.cells #[.int .i64 0, .slice none 0 0] 24)
        have hmin : ∀ k, k = e1.heap.size → Mine (fun _ => False) e1 (e1.alloc (.cells #[.int .i64 0, .slice none 0 0] 24 (0, 0))) k := fun k hk => .inr ⟨by omega, by simp; omega⟩
        have hu1 := hA1.size
        clear hSe1 hOe1 he1 hA1
        generalize e1.alloc (.cells #[.int .i64 0, .slice none 0 0] 24 (0, 0)) = f1 at *
        generalize e1.heap.size = b11 at *
        refine GWalk.joins fun e2 b12 he2 hj1 hj2 hj3 hj4 => ?_
        simp only [List.getElem_toArray, List.getElem_cons_succ, List.getElem_cons_zero, Act.put, List.setIfInBounds_toArray, List.set_cons_zero, List.set_cons_succ]
        have hne : b11 ≠ b12 := fun e => hj3 (hmin b12 e.symm)
        refine GWalk.fin fun e3 he3 hS3 => ?_
        have y11 := (he3.block _ (Nat.lt_of_lt_of_le (lt_of_block hz11) he2.size)).trans ((he2.block _ (lt_of_block hz11)).trans hz11)
        have y12 := (he3.block _ hj2).trans hj4
        have s24 : (Try.prog.info? 24).map (·.size) = some 2 := by kernel_rfl
        have n1 := (put_cells b11 0 [.int .i64 n, .slice a cs.length cap] e3).below hS3 hu1
        refine Tail.skip rfl rfl (exec_store_row 24 (.tmp 11) (.tmp 51) rfl b11 0 #[.int .i64 n, .slice a cs.length cap] rfl rfl (there_block y11 (Nat.le_refl _)) s24 (by simp [Value.oneCell'])) n1 ?_
        simp only [List.getElem_toArray, List.getElem_cons_succ, List.getElem_cons_zero, Act.put, List.setIfInBounds_toArray, List.set_cons_zero, List.set_cons_succ]
        have z11 := set_whole b11 24 e3 #[.int .i64 0, .slice none 0 0] #[.int .i64 n, .slice a cs.length cap] rfl y11
        have z12 := ((put_cells b11 0 [.int .i64 n, .slice a cs.length cap] e3).other b12 (Ne.symm hne)).trans y12
        simp only [Array.toList] at z11 z12 n1 ⊢
        generalize World.setCells e3 _ _ _ = e4 at *
        have n2 := (put_cells b12 0 [.int .i64 n, .slice a cs.length cap] e4).below n1 hj1
        refine Tail.skip rfl rfl (exec_store_row 24 (.tmp 12) (.tmp 52) rfl b12 0 #[.int .i64 n, .slice a cs.length cap] rfl rfl (there_block z12 (Nat.le_refl _)) s24 (by simp [Value.oneCell'])) n2 (Tail.done (NoPanic.normal ?_))
        simp only [List.getElem_toArray, List.getElem_cons_succ, List.getElem_cons_zero, Act.put, List.setIfInBounds_toArray, List.set_cons_zero, List.set_cons_succ]
        have q12 := set_whole b12 24 e4 #[.int .i64 0, .slice none 0 0] #[.int .i64 n, .slice a cs.length cap] rfl z12
        have q11 := ((put_cells b12 0 [.int .i64 n, .slice a cs.length cap] e4).other b11 hne).trans z11
        simp only [Array.toList] at q11 q12 n2 ⊢
        generalize World.setCells e4 _ _ _ = u2 at *
        replace HXA := Lib.hid ((n2.block _ (lt_of_block HXA.out)).trans HXA.out)
        replace HXM := Lib.hid ((n2.block _ (lt_of_block HXM.out)).trans HXM.out)
        replace HBA := Lib.hid (below_to HBA.out n2)
        have HX11 := Lib.hid q11
        have HX12 := Lib.hid q12
        have HNE := Lib.hid hne
        have HB2L := Lib.hid (lt_of_block HX12.out)
        have HB11 : Hid (w.heap.size + 1 < b11) := Lib.hid (by have := HBM.out; omega)
        have HB12 : Hid (w.heap.size + 1 < b12) := Lib.hid (by have := HBM.out; omega)
        clear n1 n2 z11 z12 q11 q12 y11 y12 s24 hj1 hj2 hj3 hj4 he2 he3 hS3 hz11 hmin hu1 hA2 hne HC HBM
        have HC5 : Hid (∀ w', But (fun k => k = b11) u2 w' → w'.cell? ⟨w.heap.size, 1, none⟩ = some (.slice a cs.length cap) ∧ w'.cell? ⟨w.heap.size + 1, 0, none⟩ = some (.int .i64 ml) ∧ w'.cell? ⟨w.heap.size + 1, 1, none⟩ = some (.int .i64 mr) ∧ w'.cell? ⟨w.heap.size + 1, 2, none⟩ = some (.int .i64 mlo) ∧ w'.cell? ⟨w.heap.size + 1, 3, none⟩ = some (.int .i64 mhi) ∧ w.heap.size < w'.heap.size ∧ w.heap.size + 1 < w'.heap.size) := Lib.hid fun w' h => by
          have hn := HB11.out
          have z := (h.block _ (lt_of_block HXA.out) (by omega)).trans HXA.out
          have y := (h.block _ (lt_of_block HXM.out) (by omega)).trans HXM.out
          exact ⟨cell_of_row w' w.heap.size 1 _ _ _ z, cell_of_row w' _ 0 _ _ _ y, cell_of_row w' _ 1 _ _ _ y, cell_of_row w' _ 2 _ _ _ y, cell_of_row w' _ 3 _ _ _ y, lt_of_block z, lt_of_block y⟩
        go_wp2_with fail
        refine wp_region_noPanic ?_
        refine wp_region_acts (fun w' => But (fun k => k = b11) u2 w') (fun _ _ h hb => h.trans (But.of_below hb)) (But.of_below (below_drawn _)) (by kernel_rfl) (fun _ _ _ _ _ h => h)
          [.take 1, .take 2, .take 4, .float 5, .act 0, .act 3, .join, .act 6] [7, 8] (by kernel_rfl) ?_
        iterate 3
          (refine GWalk.takes rfl rfl ?_; apply Exists.intro; refine ⟨fun w' hS => ?_, ?_⟩; (obtain ⟨z1, z2, z3, z4, z5, z6, z7⟩ := HC5.out w' hS; clear hS; go_simp; with_reducible rfl); simp only [List.getElem_toArray, List.getElem_cons_succ, List.getElem_cons_zero, Act.put, List.setIfInBounds_toArray, List.set_cons_zero, List.set_cons_succ])
        refine GWalk.floats (.cells #[.int .i64 ml, .int .i64 mr, .int .i64 mlo, .int .i64 mhi] 73 (0, 0)) (fun b => .slice (some ⟨b, 0, none⟩) 1 1) rfl rfl rfl (fun w1 => exec_buildSlice 22 73 1 _ rfl el22.u #[.int .i64 ml, .int .i64 mr, .int .i64 mlo, .int .i64 mhi] (by kernel_rfl)) ?_
        simp only [List.nil_append, List.cons_append]
        refine GWalk.acts rfl rfl fun e1 he1 hSe1 hOe1 => ?_
        have hA1 := grow_to (below_drawn u2) he1
        have hA2 := grow_to hA1 (box_below e1 (.cells #[] 73 (0, 0)))
        refine ⟨.slice (some ⟨e1.heap.size, 0, none⟩) 0 0, e1.alloc (.cells #[] 73 (0, 0)), Mine (fun _ => False) e1 _, by kernel_rfl, (But.of_below hA2), kept_alloc _ e1 _ hOe1, ?_⟩
        simp only [List.getElem_toArray, List.getElem_cons_succ, List.getElem_cons_zero, Act.put, List.setIfInBounds_toArray, List.set_cons_zero, List.set_cons_succ]
        have ho1 := act_empty 73 4 u2.heap.size e1 hA1.size
        have hm1 := mine_empty e1 (.cells #[] 73 (0, 0))
        clear hSe1 hOe1 he1 hA1
        generalize e1.alloc (.cells #[] 73 (0, 0)) = f1 at *
        refine GWalk.acts rfl rfl fun e2 he2 hSe2 hOe2 => ?_
        have hA3 := grow_to hA2 he2
        obtain ⟨hp1, hp2⟩ := cms_cells (HCV.out e2 (below_to HBA.out hA3))
        obtain ⟨v2, f2, hr2, ho2, hb2, hk2, hm2, -⟩ := act_app2 el22 u2.heap.size 0 (.slice (some ⟨e1.heap.size, 0, none⟩) 0 0) [] a cs.length cap (flatC cs) e2 (Mine (fun _ => False) e1 f1) 22 (by simp [maxLen]; omega) (by omega) (row_kept ho1 he2) hA3.size (flatC_len cs) hp1 hp2 flatC_one hm1 hOe2
        have hA4 := hA3.trans hb2
        refine ⟨v2, f2, _, exec_append (.tmp 53) (.tmp 55) rfl rfl rfl hr2, (But.of_below hA4), hk2, ?_⟩
        simp only [List.getElem_toArray, List.getElem_cons_succ, List.getElem_cons_zero, Act.put, List.setIfInBounds_toArray, List.set_cons_zero, List.set_cons_succ]
        clear hr2 hp1 hp2 hSe2 hOe2 he2 hA3 hA2 ho1 hb2 hk2 hm1
        refine GWalk.joins fun e3 bJ he3 hj1 hj2 hj3 hj4 => ?_
        simp only [List.getElem_toArray, List.getElem_cons_succ, List.getElem_cons_zero, Act.put, List.setIfInBounds_toArray, List.set_cons_zero, List.set_cons_succ]
        refine GWalk.acts rfl rfl fun e4 he4 hSe4 hOe4 => ?_
        have he34 := grow_to he3 he4
        have hA5 := grow_to hA4 he34
        have hj5 := (he4.block _ hj2).trans hj4
        obtain ⟨v3, f3, hr3, ho3, hb3, hk3, hm3, -⟩ := act_app2 el22 u2.heap.size (0 + cs.length) v2 ([] ++ flatC cs) (some ⟨bJ, 0, none⟩) 1 1 [.int .i64 ml, .int .i64 mr, .int .i64 mlo, .int .i64 mhi] e4 _ 22 (by simp [maxLen]; omega) (by omega) (row_kept ho2 he34) hA5.size rfl (fun h => by cases h) (fun _ => ⟨bJ, 0, rfl, fun j u hj => by rw [Nat.zero_add, cell_of_row e4 bJ j _ _ _ hj5]; simpa using hj⟩) (by simp [Value.oneCell']) hm2 hOe4
        have hA6 := hA5.trans hb3
        refine ⟨v3, f3, _, exec_append (.tmp 56) (.tmp 58) rfl rfl rfl hr3, (But.of_below hA6), hk3, ?_⟩
        simp only [List.getElem_toArray, List.getElem_cons_succ, List.getElem_cons_zero, Act.put, List.setIfInBounds_toArray, List.set_cons_zero, List.set_cons_succ]
        clear hr3 hSe4 hOe4 he34 he3 he4 hA4 hA5 hj1 hj2 hj3 hj4 hj5 ho2 hb3 hk3 hm2 hm3
        refine GWalk.fin fun e6 he6 hS6 => ?_
        have hA9 := grow_to hA6 he6
        have ho6 := row_kept ho3 he6
        clear hA6 ho3 he6
        obtain ⟨xva, xvc, rfl⟩ := own_shape ho6
        have y6 := (hA9.block _ (lt_of_block HX11.out)).trans HX11.out
        have hc6 := cell_of_row e6 b11 1 _ _ _ y6
        have hf6 := frozen_of_row e6 b11 1 _ _ y6
        simp only [List.getElem?_toArray, List.getElem?_cons_zero, List.getElem?_cons_succ] at hc6
        have ly6 := lt_of_block y6
        refine Tail.value rfl rfl (by go_simp; with_reducible rfl) ?_
        simp only [List.getElem_toArray, List.getElem_cons_succ, List.getElem_cons_zero, Act.put, List.setIfInBounds_toArray, List.set_cons_zero, List.set_cons_succ]
        have hlb := lt_of_block HX11.out
        refine Tail.skip rfl rfl (exec_store_one 22 (.tmp 60) (.tmp 59) rfl rfl rfl hc6 hf6 (by kernel_rfl)) (hS6.trans (But.setCell _ _ rfl)) (Tail.done (NoPanic.normal ?_))
        simp only [List.getElem_toArray, List.getElem_cons_succ, List.getElem_cons_zero, Act.put, List.setIfInBounds_toArray, List.set_cons_zero, List.set_cons_succ]
        have y7 := heap_setCell_same e6 b11 1 _ 24 (.slice xva (0 + cs.length + 1) xvc) y6
        have ho7 := own_same (W' := e6.setCell ⟨b11, 1, none⟩ (.slice xva (0 + cs.length + 1) xvc)) ho6 (fun g hg _ => heap_setCell_other e6 ⟨b11, 1, none⟩ g _ (by show g ≠ b11; omega))
        have hot : ∀ k, k < u2.heap.size → k ≠ b11 → (e6.setCell ⟨b11, 1, none⟩ (.slice xva (0 + cs.length + 1) xvc)).heap[k]? = u2.heap[k]? := fun k hk hn => (heap_setCell_other e6 ⟨b11, 1, none⟩ k _ hn).trans (hA9.block k hk)
        have hbel : Below w.heap.size w (e6.setCell ⟨b11, 1, none⟩ (.slice xva (0 + cs.length + 1) xvc)) := (below_to HBA.out hA9).setCell (p := ⟨b11, 1, none⟩) (by show w.heap.size ≤ b11; have := HB11.out; omega) _
        simp only [List.setIfInBounds_toArray, List.set_cons_zero, List.set_cons_succ] at y7
        generalize World.setCell e6 _ _ = u3 at *
        replace HXA := Lib.hid ((hot _ (lt_of_block HXA.out) (by have := HB11.out; omega)).trans HXA.out)
        replace HXM := Lib.hid ((hot _ (lt_of_block HXM.out) (by have := HB11.out; omega)).trans HXM.out)
        replace HX12 := Lib.hid ((hot _ (lt_of_block HX12.out) (Ne.symm HNE.out)).trans HX12.out)
        replace HBA := Lib.hid hbel
        replace HX11 := Lib.hid y7
        have HVX := Lib.hid ho7
        have HUHVX : Hid (b11 < u2.heap.size) := Lib.hid hlb
        clear y6 hc6 hf6 ly6 hS6 y7 ho7 hot hbel ho6 hA9 hlb
        clear HC5
        obtain ⟨xs, HXE⟩ : ∃ xs, Hid (xs = cs ++ [⟨ml, mr, mlo, mhi⟩]) := ⟨_, Lib.hid rfl⟩
        have hxl : 0 + cs.length + 1 = xs.length := by rw [HXE.out]; simp
        have hxf : [] ++ flatC cs ++ [.int .i64 ml, .int .i64 mr, .int .i64 mlo, .int .i64 mhi] = flatC xs := by rw [HXE.out, flatC_snoc]; simp
        rw [hxl] at HVX HX11
        rw [hxf] at HVX
        have HXL : Hid (xs.length ≤ 12) := Lib.hid (by rw [← hxl]; have := H11.out; omega)
        have HB2 : Hid (b12 < u2.heap.size) := Lib.hid (by have := lt_of_block HX12.out; exact HB2L.out)
        clear hxl hxf HXM HB2L
        obtain ⟨N, rfl⟩ : ∃ N : Nat, n = (N : Int) := ⟨n.toNat, by omega⟩
        have hN8 : N ≤ 8 := by omega
        have c0 := cell_of_row u3 w.heap.size 0 _ _ _ HXA.out
        have c1 := cell_of_row u3 w.heap.size 1 _ _ _ HXA.out
        simp only [List.getElem?_toArray, List.getElem?_cons_zero, List.getElem?_cons_succ] at c0 c1
        have lc := lt_of_block HXA.out
        go_wp2_with fail
        clear c0 c1 lc
        refine (HAL.out u3 HBA.out).mono ?_
        rintro e u4 ⟨⟨r1, rfl, ho⟩, hb⟩
        replace HXA := Lib.hid ((hb.block _ (lt_of_block HXA.out)).trans HXA.out)
        replace HBA := Lib.hid (below_to HBA.out hb)
        replace HX11 := Lib.hid ((hb.block _ (lt_of_block HX11.out)).trans HX11.out)
        replace HX12 := Lib.hid ((hb.block _ (lt_of_block HX12.out)).trans HX12.out)
        replace HVX := Lib.hid (own_same HVX.out (fun g _ hg => hb.block g hg))
        clear hb
        have HV1 := Lib.hid (own_cms (l := cs) ho)
        clear ho
        go_wp2_with fail
        cases hd : distO cs with
        | none =>
          have HD := Lib.hid hd
          clear hd
          refine (Grades_none HOK.out HV1.out HD.out).mono ?_
          rintro e u5 ⟨rfl, hb⟩
          replace HXA := Lib.hid ((hb.block _ (lt_of_block HXA.out)).trans HXA.out)
          replace HBA := Lib.hid (below_to HBA.out hb)
          replace HX11 := Lib.hid ((hb.block _ (lt_of_block HX11.out)).trans HX11.out)
          replace HX12 := Lib.hid ((hb.block _ (lt_of_block HX12.out)).trans HX12.out)
          replace HVX := Lib.hid (own_same HVX.out (fun g _ hg => hb.block g hg))
          replace HV1 := Lib.hid ((HV1.out.same (.below (Nat.le_refl _) hb)).up hb.size)
          clear hb
          clear HV1
          have c0 := cell_of_row u5 w.heap.size 0 _ _ _ HXA.out
          have c1 := cell_of_row u5 w.heap.size 1 _ _ _ HXA.out
          simp only [List.getElem?_toArray, List.getElem?_cons_zero, List.getElem?_cons_succ] at c0 c1
          have lc := lt_of_block HXA.out
          go_wp2_with fail
          clear c0 c1 lc
          refine (HAL.out u5 HBA.out).mono ?_
          rintro e u6 ⟨⟨r1, rfl, ho⟩, hb⟩
          replace HXA := Lib.hid ((hb.block _ (lt_of_block HXA.out)).trans HXA.out)
          replace HBA := Lib.hid (below_to HBA.out hb)
          replace HX11 := Lib.hid ((hb.block _ (lt_of_block HX11.out)).trans HX11.out)
          replace HX12 := Lib.hid ((hb.block _ (lt_of_block HX12.out)).trans HX12.out)
          replace HVX := Lib.hid (own_same HVX.out (fun g _ hg => hb.block g hg))
          clear hb
          have HV1 := Lib.hid (own_cms (l := cs) ho)
          clear ho
          go_wp2_with fail
          refine (Between_none HOK.out HV1.out HPB.out HQB.out HD.out).mono ?_
          rintro e u7 ⟨rfl, hb⟩
          replace HXA := Lib.hid ((hb.block _ (lt_of_block HXA.out)).trans HXA.out)
          replace HBA := Lib.hid (below_to HBA.out hb)
          replace HX11 := Lib.hid ((hb.block _ (lt_of_block HX11.out)).trans HX11.out)
          replace HX12 := Lib.hid ((hb.block _ (lt_of_block HX12.out)).trans HX12.out)
          replace HVX := Lib.hid (own_same HVX.out (fun g _ hg => hb.block g hg))
          replace HV1 := Lib.hid ((HV1.out.same (.below (Nat.le_refl _) hb)).up hb.size)
          clear hb
          clear HV1
          have c0 := cell_of_row u7 b11 0 _ _ _ HX11.out
          have c1 := cell_of_row u7 b11 1 _ _ _ HX11.out
          simp only [List.getElem?_toArray, List.getElem?_cons_zero, List.getElem?_cons_succ] at c0 c1
          have lc := lt_of_block HX11.out
          go_wp2_with fail
          clear c0 c1 lc
          have hbx := box_below u7 (.cells #[.int .i64 0, .int .i64 0] 41)
          have hnx := heap_alloc_new u7 (.cells #[.int .i64 0, .int .i64 0] 41)
          replace HXA := Lib.hid ((hbx.block _ (lt_of_block HXA.out)).trans HXA.out)
          replace HBA := Lib.hid (below_to HBA.out hbx)
          replace HX11 := Lib.hid ((hbx.block _ (lt_of_block HX11.out)).trans HX11.out)
          replace HX12 := Lib.hid ((hbx.block _ (lt_of_block HX12.out)).trans HX12.out)
          replace HVX := Lib.hid (own_same HVX.out (fun g _ hg => hbx.block g hg))
          have HXB := Lib.hid hnx
          clear hbx hnx
          generalize World.alloc u7 _ = u8 at *
          generalize u7.heap.size = b15 at *
          refine (ready_any u8.heap.size N _ xs u8 (own_cms (l := xs) HVX.out) (Nat.le_refl _)).mono ?_
          rintro e u9 ⟨rfl, hb⟩
          replace HXA := Lib.hid ((hb.block _ (lt_of_block HXA.out)).trans HXA.out)
          replace HBA := Lib.hid (below_to HBA.out hb)
          replace HX11 := Lib.hid ((hb.block _ (lt_of_block HX11.out)).trans HX11.out)
          replace HX12 := Lib.hid ((hb.block _ (lt_of_block HX12.out)).trans HX12.out)
          replace HVX := Lib.hid (own_same HVX.out (fun g _ hg => hb.block g hg))
          replace HXB := Lib.hid ((hb.block _ (lt_of_block HXB.out)).trans HXB.out)
          clear hb
          clear HXB
          cases hzx : readyB N xs with
          | false =>
            clear hzx
            go_wp2_with fail
            refine (awake_any u9).mono ?_
            rintro e u10 ⟨rfl, hb⟩
            have HBF := Lib.hid (below_to HBA.out hb)
            clear hb
            go_wp2
            go_ret
            exact ⟨rfl, HBF.out⟩
          | true =>
            have HOKX := Lib.hid (readyB_ok hzx)
            clear hzx
            have c0 := cell_of_row u9 b11 0 _ _ _ HX11.out
            have c1 := cell_of_row u9 b11 1 _ _ _ HX11.out
            simp only [List.getElem?_toArray, List.getElem?_cons_zero, List.getElem?_cons_succ] at c0 c1
            have lc := lt_of_block HX11.out
            go_wp2_with fail
            clear c0 c1 lc
            refine (Album_any u9.heap.size N _ xs u9 (by have := HXL.out; omega) (own_cms (l := xs) HVX.out) (Nat.le_refl _)).mono ?_
            rintro e u11 ⟨⟨r9, rfl, ho⟩, hb⟩
            replace HXA := Lib.hid ((hb.block _ (lt_of_block HXA.out)).trans HXA.out)
            replace HBA := Lib.hid (below_to HBA.out hb)
            replace HX11 := Lib.hid ((hb.block _ (lt_of_block HX11.out)).trans HX11.out)
            replace HX12 := Lib.hid ((hb.block _ (lt_of_block HX12.out)).trans HX12.out)
            replace HVX := Lib.hid (own_same HVX.out (fun g _ hg => hb.block g hg))
            clear hb
            have HV9 := Lib.hid (own_cms (l := xs) ho)
            clear ho
            go_wp2_with fail
            have hdx := more_none HOK.out (HXE.out ▸ HOKX.out) HD.out
            rw [← HXE.out] at hdx
            refine (Grades_none HOKX.out HV9.out hdx).mono ?_
            rintro e u12 ⟨rfl, hb⟩
            replace HXA := Lib.hid ((hb.block _ (lt_of_block HXA.out)).trans HXA.out)
            replace HBA := Lib.hid (below_to HBA.out hb)
            replace HX11 := Lib.hid ((hb.block _ (lt_of_block HX11.out)).trans HX11.out)
            replace HX12 := Lib.hid ((hb.block _ (lt_of_block HX12.out)).trans HX12.out)
            replace HVX := Lib.hid (own_same HVX.out (fun g _ hg => hb.block g hg))
            replace HV9 := Lib.hid ((HV9.out.same (.below (Nat.le_refl _) hb)).up hb.size)
            clear hb
            clear hdx
            clear HV9
            go_wp2_with fail
            refine (awake_any u12).mono ?_
            rintro e u13 ⟨rfl, hb⟩
            have HBF := Lib.hid (below_to HBA.out hb)
            clear hb
            go_wp2
            go_ret
            exact ⟨rfl, HBF.out⟩
        | some d =>
          have HD := Lib.hid hd
          clear hd
          have HGB : Hid (b12 < u4.heap.size) := Lib.hid (lt_of_block HX12.out)
          refine (Grades_own HOK.out HV1.out HD.out).mono ?_
          rintro e u14 ⟨⟨r4, rfl, ho4⟩, hb⟩
          replace HXA := Lib.hid ((hb.block _ (lt_of_block HXA.out)).trans HXA.out)
          replace HBA := Lib.hid (below_to HBA.out hb)
          replace HX11 := Lib.hid ((hb.block _ (lt_of_block HX11.out)).trans HX11.out)
          replace HX12 := Lib.hid ((hb.block _ (lt_of_block HX12.out)).trans HX12.out)
          replace HVX := Lib.hid (own_same HVX.out (fun g _ hg => hb.block g hg))
          replace HV1 := Lib.hid ((HV1.out.same (.below (Nat.le_refl _) hb)).up hb.size)
          clear hb
          have HG := Lib.hid ho4
          clear ho4
          clear HV1
          have c0 := cell_of_row u14 w.heap.size 0 _ _ _ HXA.out
          have c1 := cell_of_row u14 w.heap.size 1 _ _ _ HXA.out
          simp only [List.getElem?_toArray, List.getElem?_cons_zero, List.getElem?_cons_succ] at c0 c1
          have lc := lt_of_block HXA.out
          go_wp2_with fail
          clear c0 c1 lc
          refine (HAL.out u14 HBA.out).mono ?_
          rintro e u15 ⟨⟨r1, rfl, ho⟩, hb⟩
          replace HXA := Lib.hid ((hb.block _ (lt_of_block HXA.out)).trans HXA.out)
          replace HBA := Lib.hid (below_to HBA.out hb)
          replace HX11 := Lib.hid ((hb.block _ (lt_of_block HX11.out)).trans HX11.out)
          replace HX12 := Lib.hid ((hb.block _ (lt_of_block HX12.out)).trans HX12.out)
          replace HVX := Lib.hid (own_same HVX.out (fun g _ hg => hb.block g hg))
          replace HG := Lib.hid (own_same HG.out (fun g _ hg => hb.block g hg))
          clear hb
          have HV1 := Lib.hid (own_cms (l := cs) ho)
          clear ho
          go_wp2_with fail
          have hbt := Between_some HOK.out HV1.out HPB.out HQB.out HD.out
          obtain ⟨X, HXX⟩ : ∃ X, Hid (-d (pl P) (pl Q) = X) := ⟨_, Lib.hid rfl⟩
          obtain ⟨Y, HYY⟩ : ∃ X, Hid (d (pl Q) (pl P) = X) := ⟨_, Lib.hid rfl⟩
          rw [HXX.out, HYY.out] at hbt
          refine (hbt).mono ?_
          rintro e u16 ⟨rfl, hb⟩
          replace HXA := Lib.hid ((hb.block _ (lt_of_block HXA.out)).trans HXA.out)
          replace HBA := Lib.hid (below_to HBA.out hb)
          replace HX11 := Lib.hid ((hb.block _ (lt_of_block HX11.out)).trans HX11.out)
          replace HX12 := Lib.hid ((hb.block _ (lt_of_block HX12.out)).trans HX12.out)
          replace HVX := Lib.hid (own_same HVX.out (fun g _ hg => hb.block g hg))
          replace HG := Lib.hid (own_same HG.out (fun g _ hg => hb.block g hg))
          replace HV1 := Lib.hid ((HV1.out.same (.below (Nat.le_refl _) hb)).up hb.size)
          clear hb
          clear hbt
          clear HV1
          by_cases hpq : P = Q
          · have hpq1 : (P != Q) = false := by simp [hpq]
            clear hpq
            have c0 := cell_of_row u16 b11 0 _ _ _ HX11.out
            have c1 := cell_of_row u16 b11 1 _ _ _ HX11.out
            simp only [List.getElem?_toArray, List.getElem?_cons_zero, List.getElem?_cons_succ] at c0 c1
            have lc := lt_of_block HX11.out
            go_wp2_with fail
            clear c0 c1 lc
            clear hpq1
            have hbx := box_below u16 (.cells #[.int .i64 X, .int .i64 Y] 41)
            have hnx := heap_alloc_new u16 (.cells #[.int .i64 X, .int .i64 Y] 41)
            replace HXA := Lib.hid ((hbx.block _ (lt_of_block HXA.out)).trans HXA.out)
            replace HBA := Lib.hid (below_to HBA.out hbx)
            replace HX11 := Lib.hid ((hbx.block _ (lt_of_block HX11.out)).trans HX11.out)
            replace HX12 := Lib.hid ((hbx.block _ (lt_of_block HX12.out)).trans HX12.out)
            replace HVX := Lib.hid (own_same HVX.out (fun g _ hg => hbx.block g hg))
            replace HG := Lib.hid (own_same HG.out (fun g _ hg => hbx.block g hg))
            have HXB := Lib.hid hnx
            clear hbx hnx
            generalize World.alloc u16 _ = u17 at *
            generalize u16.heap.size = b15 at *
            clear HXB
            refine (ready_any u17.heap.size N _ xs u17 (own_cms (l := xs) HVX.out) (Nat.le_refl _)).mono ?_
            rintro e u18 ⟨rfl, hb⟩
            replace HXA := Lib.hid ((hb.block _ (lt_of_block HXA.out)).trans HXA.out)
            replace HBA := Lib.hid (below_to HBA.out hb)
            replace HX11 := Lib.hid ((hb.block _ (lt_of_block HX11.out)).trans HX11.out)
            replace HX12 := Lib.hid ((hb.block _ (lt_of_block HX12.out)).trans HX12.out)
            replace HVX := Lib.hid (own_same HVX.out (fun g _ hg => hb.block g hg))
            replace HG := Lib.hid (own_same HG.out (fun g _ hg => hb.block g hg))
            clear hb
            cases hzx : readyB N xs with
            | false =>
              clear hzx
              go_wp2_with fail
              refine (awake_any u18).mono ?_
              rintro e u19 ⟨rfl, hb⟩
              have HBF := Lib.hid (below_to HBA.out hb)
              clear hb
              go_wp2
              go_ret
              exact ⟨rfl, HBF.out⟩
            | true =>
              have HOKX := Lib.hid (readyB_ok hzx)
              clear hzx
              have c0 := cell_of_row u18 b11 0 _ _ _ HX11.out
              have c1 := cell_of_row u18 b11 1 _ _ _ HX11.out
              simp only [List.getElem?_toArray, List.getElem?_cons_zero, List.getElem?_cons_succ] at c0 c1
              have lc := lt_of_block HX11.out
              go_wp2_with fail
              clear c0 c1 lc
              refine (Album_any u18.heap.size N _ xs u18 (by have := HXL.out; omega) (own_cms (l := xs) HVX.out) (Nat.le_refl _)).mono ?_
              rintro e u20 ⟨⟨r9, rfl, ho⟩, hb⟩
              replace HXA := Lib.hid ((hb.block _ (lt_of_block HXA.out)).trans HXA.out)
              replace HBA := Lib.hid (below_to HBA.out hb)
              replace HX11 := Lib.hid ((hb.block _ (lt_of_block HX11.out)).trans HX11.out)
              replace HX12 := Lib.hid ((hb.block _ (lt_of_block HX12.out)).trans HX12.out)
              replace HVX := Lib.hid (own_same HVX.out (fun g _ hg => hb.block g hg))
              replace HG := Lib.hid (own_same HG.out (fun g _ hg => hb.block g hg))
              clear hb
              have HV9 := Lib.hid (own_cms (l := xs) ho)
              clear ho
              go_wp2_with fail
              cases hdx : distO xs with
              | none =>
                refine (Grades_none HOKX.out HV9.out hdx).mono ?_
                rintro e u21 ⟨rfl, hb⟩
                replace HXA := Lib.hid ((hb.block _ (lt_of_block HXA.out)).trans HXA.out)
                replace HBA := Lib.hid (below_to HBA.out hb)
                replace HX11 := Lib.hid ((hb.block _ (lt_of_block HX11.out)).trans HX11.out)
                replace HX12 := Lib.hid ((hb.block _ (lt_of_block HX12.out)).trans HX12.out)
                replace HVX := Lib.hid (own_same HVX.out (fun g _ hg => hb.block g hg))
                replace HG := Lib.hid (own_same HG.out (fun g _ hg => hb.block g hg))
                replace HV9 := Lib.hid ((HV9.out.same (.below (Nat.le_refl _) hb)).up hb.size)
                clear hb
                clear hdx
                clear HV9
                go_wp2_with fail
                refine (awake_any u21).mono ?_
                rintro e u22 ⟨rfl, hb⟩
                have HBF := Lib.hid (below_to HBA.out hb)
                clear hb
                go_wp2
                go_ret
                exact ⟨rfl, HBF.out⟩
              | some d' =>
                have HDX := Lib.hid hdx
                clear hdx
                have HLE := Lib.hid (more_less HOK.out (HXE.out ▸ HOKX.out) HD.out (HXE.out ▸ HDX.out))
                refine (Grades_some HOKX.out HV9.out HDX.out).mono ?_
                rintro e u23 ⟨⟨r5, rfl, hr5⟩, hb⟩
                replace HXA := Lib.hid ((hb.block _ (lt_of_block HXA.out)).trans HXA.out)
                replace HBA := Lib.hid (below_to HBA.out hb)
                replace HX11 := Lib.hid ((hb.block _ (lt_of_block HX11.out)).trans HX11.out)
                replace HX12 := Lib.hid ((hb.block _ (lt_of_block HX12.out)).trans HX12.out)
                replace HVX := Lib.hid (own_same HVX.out (fun g _ hg => hb.block g hg))
                replace HG := Lib.hid (own_same HG.out (fun g _ hg => hb.block g hg))
                replace HV9 := Lib.hid ((HV9.out.same (.below (Nat.le_refl _) hb)).up hb.size)
                clear hb
                have HH := Lib.hid hr5
                clear hr5
                clear HV9
                have c0 := cell_of_row u23 w.heap.size 0 _ _ _ HXA.out
                have c1 := cell_of_row u23 w.heap.size 1 _ _ _ HXA.out
                simp only [List.getElem?_toArray, List.getElem?_cons_zero, List.getElem?_cons_succ] at c0 c1
                have lc := lt_of_block HXA.out
                go_wp2_with fail
                clear c0 c1 lc
                refine (HAL.out u23 HBA.out).mono ?_
                rintro e u24 ⟨⟨r1, rfl, ho⟩, hb⟩
                replace HXA := Lib.hid ((hb.block _ (lt_of_block HXA.out)).trans HXA.out)
                replace HBA := Lib.hid (below_to HBA.out hb)
                replace HX11 := Lib.hid ((hb.block _ (lt_of_block HX11.out)).trans HX11.out)
                replace HX12 := Lib.hid ((hb.block _ (lt_of_block HX12.out)).trans HX12.out)
                replace HVX := Lib.hid (own_same HVX.out (fun g _ hg => hb.block g hg))
                replace HG := Lib.hid (own_same HG.out (fun g _ hg => hb.block g hg))
                replace HH := Lib.hid ((HH.out.same (.below (Nat.le_refl _) hb)).up hb.size)
                clear hb
                have HV1 := Lib.hid (own_cms (l := cs) ho)
                clear ho
                go_wp2_with fail
                refine (Finest_some HOK.out (by have := HN2.out; omega) HV1.out HD.out).mono ?_
                rintro e u25 ⟨⟨r6, rfl, hr6⟩, hb⟩
                replace HXA := Lib.hid ((hb.block _ (lt_of_block HXA.out)).trans HXA.out)
                replace HBA := Lib.hid (below_to HBA.out hb)
                replace HX11 := Lib.hid ((hb.block _ (lt_of_block HX11.out)).trans HX11.out)
                replace HX12 := Lib.hid ((hb.block _ (lt_of_block HX12.out)).trans HX12.out)
                replace HVX := Lib.hid (own_same HVX.out (fun g _ hg => hb.block g hg))
                replace HG := Lib.hid (own_same HG.out (fun g _ hg => hb.block g hg))
                replace HH := Lib.hid ((HH.out.same (.below (Nat.le_refl _) hb)).up hb.size)
                replace HV1 := Lib.hid ((HV1.out.same (.below (Nat.le_refl _) hb)).up hb.size)
                clear hb
                have HF1 := Lib.hid hr6
                clear hr6
                clear HV1
                have c0 := cell_of_row u25 b11 0 _ _ _ HX11.out
                have c1 := cell_of_row u25 b11 1 _ _ _ HX11.out
                simp only [List.getElem?_toArray, List.getElem?_cons_zero, List.getElem?_cons_succ] at c0 c1
                have lc := lt_of_block HX11.out
                go_wp2_with fail
                clear c0 c1 lc
                refine (Album_any u25.heap.size N _ xs u25 (by have := HXL.out; omega) (own_cms (l := xs) HVX.out) (Nat.le_refl _)).mono ?_
                rintro e u26 ⟨⟨r9, rfl, ho⟩, hb⟩
                replace HXA := Lib.hid ((hb.block _ (lt_of_block HXA.out)).trans HXA.out)
                replace HBA := Lib.hid (below_to HBA.out hb)
                replace HX11 := Lib.hid ((hb.block _ (lt_of_block HX11.out)).trans HX11.out)
                replace HX12 := Lib.hid ((hb.block _ (lt_of_block HX12.out)).trans HX12.out)
                replace HVX := Lib.hid (own_same HVX.out (fun g _ hg => hb.block g hg))
                replace HG := Lib.hid (own_same HG.out (fun g _ hg => hb.block g hg))
                replace HH := Lib.hid ((HH.out.same (.below (Nat.le_refl _) hb)).up hb.size)
                replace HF1 := Lib.hid ((HF1.out.same (.below (Nat.le_refl _) hb)).up hb.size)
                clear hb
                have HV9 := Lib.hid (own_cms (l := xs) ho)
                clear ho
                go_wp2_with fail
                refine (Finest_some HOKX.out (by have := HN2.out; omega) HV9.out HDX.out).mono ?_
                rintro e u27 ⟨⟨r7, rfl, hr7⟩, hb⟩
                replace HXA := Lib.hid ((hb.block _ (lt_of_block HXA.out)).trans HXA.out)
                replace HBA := Lib.hid (below_to HBA.out hb)
                replace HX11 := Lib.hid ((hb.block _ (lt_of_block HX11.out)).trans HX11.out)
                replace HX12 := Lib.hid ((hb.block _ (lt_of_block HX12.out)).trans HX12.out)
                replace HVX := Lib.hid (own_same HVX.out (fun g _ hg => hb.block g hg))
                replace HG := Lib.hid (own_same HG.out (fun g _ hg => hb.block g hg))
                replace HH := Lib.hid ((HH.out.same (.below (Nat.le_refl _) hb)).up hb.size)
                replace HF1 := Lib.hid ((HF1.out.same (.below (Nat.le_refl _) hb)).up hb.size)
                replace HV9 := Lib.hid ((HV9.out.same (.below (Nat.le_refl _) hb)).up hb.size)
                clear hb
                have HF2 := Lib.hid hr7
                clear hr7
                clear HV9
                have HG9 := Lib.hid (own_rgs (l := gradesL d N) (by rw [grades_len]; exact HG.out))
                obtain ⟨ga, gcap, hge, hgp⟩ := HG9.out
                rw [grades_len] at hge hgp
                subst hge
                obtain ⟨ha, hcap, hhe, hhp⟩ := HH.out
                rw [grades_len] at hhe hhp
                subst hhe
                obtain ⟨fa, fcap, hfe, -⟩ := HF1.out
                subst hfe
                obtain ⟨ea, ecap, hee, -⟩ := HF2.out
                subst hee
                have hff := finest_less (n := N) hN8 HLE.out
                have hfl : (intsL (finestL d' N)).length ≤ (intsL (finestL d N)).length := by simpa only [intsL, List.length_map] using hff
                have HGP := Lib.hid hgp
                have HHP := Lib.hid hhp
                have hne : ((N : Int) != N) = false := by simp
                have HCA := Lib.hid (dist_some HOKX.out HDX.out)
                generalize (intsL (finestL d N)).length = L1 at *
                generalize (intsL (finestL d' N)).length = L2 at *
                have hfd : decide (L1 < L2) = false := decide_eq_false (by omega)
                have hfe : decide ((L1 : Int) < (L2 : Int)) = false := decide_eq_false (by omega)
                clear hgp hhp HG9 HH HG HF1 HF2 hff hfl
                go_wp2_with fail
                clear hne hfd hfe
                go_loopw [25] (fun i wr => ∃ q : Nat, q ≤ N ∧ i = .int .i64 q ∧ Hid (Below u27.heap.size u27 wr)) (fun i _ => N - (intOf i).toNat)
                case atStart => exact ⟨0, Nat.zero_le _, rfl, Lib.hid (Below.refl _ _)⟩
                case round =>
                  obtain ⟨q, hq, rfl, HU⟩ := hrel
                  by_cases hlt : q < N
                  · obtain ⟨gb, go, rfl, hgb, hgc⟩ := HGP.out (by omega)
                    obtain ⟨hb_, ho_, rfl, hhb, hhc⟩ := HHP.out (by omega)
                    have p1 := (HU.out.cell (p := ⟨gb, go + q * 2, none⟩) hgb).trans (hgc q hlt).1
                    have p2 := (HU.out.cell (p := ⟨gb, go + q * 2 + 1, none⟩) hgb).trans (hgc q hlt).2
                    have p3 := (HU.out.cell (p := ⟨hb_, ho_ + q * 2, none⟩) hhb).trans (hhc q hlt).1
                    have p4 := (HU.out.cell (p := ⟨hb_, ho_ + q * 2 + 1, none⟩) hhb).trans (hhc q hlt).2
                    rw [grades_at hlt] at p1 p2 p3 p4
                    have s1 := HLE.out (q + 1) 0 (by omega) (by omega)
                    have s2 := HLE.out 0 (q + 1) (by omega) (by omega)
                    have s3 := HCA.out.tri 0 (q + 1) 0 (by omega) (by omega) (by omega)
                    have s4 := HCA.out.diag 0 (by omega)
                    have e1 : decide (-d' (q + 1) 0 < -d (q + 1) 0) = false := decide_eq_false (by omega)
                    have e2 : decide (d 0 (q + 1) < d' 0 (q + 1)) = false := decide_eq_false (by omega)
                    have e3 : decide (d' 0 (q + 1) < -d' (q + 1) 0) = false := decide_eq_false (by omega)
                    clear hgc hhc s1 s2 s3 s4
                    simp only at p1 p2 p3 p4
                    generalize -d (q + 1) 0 = X1 at *
                    generalize d 0 (q + 1) = Y1 at *
                    generalize -d' (q + 1) 0 = X2 at *
                    generalize d' 0 (q + 1) = Y2 at *
                    have hqn : (q : Int) < N := by omega
                    have hwq : IntKind.i64.wrap ((q : Int) + 1) = (q : Int) + 1 := IntWalk.i64_in _ (by omega)
                    go_wp2_with fail
                    have g1 := cell_regrown p1
                    have g2 := cell_regrown p2
                    have g3 := cell_regrown p3
                    have g4 := cell_regrown p4
                    refine wp_region_quiet_below (by kernel_rfl) (by kernel_rfl) ?_
                    repeat (quiet_step (fail))
                    refine wpQuiet_nil ?_
                    intro v9 hw'
                    obtain ⟨⟨dq, osq⟩, hw''⟩ := hw'
                    have hb := below_regrown wr dq osq
                    rw [← hw''] at hb
                    have HU9 := Lib.hid (below_to HU.out hb)
                    clear hw'' g1 g2 g3 g4 p1 p2 p3 p4 hb HU e1 e2 e3
                    go_wp2
                    go_roundw
                    case rel => exact ⟨q + 1, Nat.succ_le_of_lt hlt, by simp, HU9⟩
                    case measure => simp [intOf]; exact Nat.sub_lt_sub_left hlt (Nat.lt_succ_self _)
                  · obtain rfl : q = N := Nat.le_antisymm hq (Nat.le_of_not_lt hlt)
                    replace HBA := Lib.hid (below_to HBA.out HU.out)
                    go_wp2_with fail
                    refine (awake_any wr).mono ?_
                    rintro e u28 ⟨rfl, hb⟩
                    have HBF := Lib.hid (below_to HBA.out hb)
                    clear hb
                    go_wp2
                    go_ret
                    exact ⟨rfl, HBF.out⟩
          · have hpq1 : (P != Q) = true := by simp [hpq]
            have HPQ := Lib.hid hpq
            clear hpq
            go_wp2_with fail
            clear hpq1
            have h15 : b12 < u16.heap.size := lt_of_block HX12.out
            have hbx := box_below u16 (.cells #[.int .i64 X, .int .i64 Y] 41)
            have hnx := heap_alloc_new u16 (.cells #[.int .i64 X, .int .i64 Y] 41)
            replace HXA := Lib.hid ((hbx.block _ (lt_of_block HXA.out)).trans HXA.out)
            replace HBA := Lib.hid (below_to HBA.out hbx)
            replace HX11 := Lib.hid ((hbx.block _ (lt_of_block HX11.out)).trans HX11.out)
            replace HX12 := Lib.hid ((hbx.block _ (lt_of_block HX12.out)).trans HX12.out)
            replace HVX := Lib.hid (own_same HVX.out (fun g _ hg => hbx.block g hg))
            replace HG := Lib.hid (own_same HG.out (fun g _ hg => hbx.block g hg))
            have HXB := Lib.hid hnx
            clear hbx hnx
            generalize World.alloc u16 _ = u29 at *
            generalize u16.heap.size = b15 at *
            have H15 := Lib.hid h15
            clear h15
            have HC11 : Hid (∀ w', But (fun k => k = b12) u29 w' → w'.cell? ⟨w.heap.size, 1, none⟩ = some (.slice a cs.length cap) ∧ w'.cell? ⟨b15, 0, none⟩ = some (.int .i64 X) ∧ w'.cell? ⟨b15, 1, none⟩ = some (.int .i64 Y) ∧ w.heap.size < w'.heap.size ∧ b15 < w'.heap.size ∧ True ∧ True) := Lib.hid fun w' h => by
              have hn := HB12.out
              have hm := H15.out
              have z := (h.block _ (lt_of_block HXA.out) (by omega)).trans HXA.out
              have y := (h.block _ (lt_of_block HXB.out) (by omega)).trans HXB.out
              exact ⟨cell_of_row w' w.heap.size 1 _ _ _ z, cell_of_row w' _ 0 _ _ _ y, cell_of_row w' _ 1 _ _ _ y, lt_of_block z, lt_of_block y, trivial, trivial⟩
            go_wp2_with fail
            refine wp_region_noPanic ?_
            refine wp_region_acts (fun w' => But (fun k => k = b12) u29 w') (fun _ _ h hb => h.trans (But.of_below hb)) (But.of_below (below_drawn _)) (by kernel_rfl) (fun _ _ _ _ _ h => h)
              [.take 1, .take 2, .take 4, .take 5, .take 6, .take 7, .take 8, .take 9, .take 10, .float 11, .act 0, .act 3, .join, .act 12] [13, 14] (by kernel_rfl) ?_
            iterate 9
              (refine GWalk.takes rfl rfl ?_; apply Exists.intro; refine ⟨fun w' hS => ?_, ?_⟩; (obtain ⟨z1, z2, z3, z4, z5, z6, z7⟩ := HC11.out w' hS; clear hS; go_simp; with_reducible rfl); simp only [List.getElem_toArray, List.getElem_cons_succ, List.getElem_cons_zero, Act.put, List.setIfInBounds_toArray, List.set_cons_zero, List.set_cons_succ])
            refine GWalk.floats (.cells #[.int .i64 P, .int .i64 Q, .int .i64 X, .int .i64 Y] 73 (0, 0)) (fun b => .slice (some ⟨b, 0, none⟩) 1 1) rfl rfl rfl (fun w1 => exec_buildSlice 22 73 1 _ rfl el22.u #[.int .i64 P, .int .i64 Q, .int .i64 X, .int .i64 Y] (by kernel_rfl)) ?_
            simp only [List.nil_append, List.cons_append]
            refine GWalk.acts rfl rfl fun e1 he1 hSe1 hOe1 => ?_
            have hA1 := grow_to (below_drawn u29) he1
            have hA2 := grow_to hA1 (box_below e1 (.cells #[] 73 (0, 0)))
            refine ⟨.slice (some ⟨e1.heap.size, 0, none⟩) 0 0, e1.alloc (.cells #[] 73 (0, 0)), Mine (fun _ => False) e1 _, by kernel_rfl, (But.of_below hA2), kept_alloc _ e1 _ hOe1, ?_⟩
            simp only [List.getElem_toArray, List.getElem_cons_succ, List.getElem_cons_zero, Act.put, List.setIfInBounds_toArray, List.set_cons_zero, List.set_cons_succ]
            have ho1 := act_empty 73 4 u29.heap.size e1 hA1.size
            have hm1 := mine_empty e1 (.cells #[] 73 (0, 0))
            clear hSe1 hOe1 he1 hA1
            generalize e1.alloc (.cells #[] 73 (0, 0)) = f1 at *
            refine GWalk.acts rfl rfl fun e2 he2 hSe2 hOe2 => ?_
            have hA3 := grow_to hA2 he2
            obtain ⟨hp1, hp2⟩ := cms_cells (HCV.out e2 (below_to HBA.out hA3))
            obtain ⟨v2, f2, hr2, ho2, hb2, hk2, hm2, -⟩ := act_app2 el22 u29.heap.size 0 (.slice (some ⟨e1.heap.size, 0, none⟩) 0 0) [] a cs.length cap (flatC cs) e2 (Mine (fun _ => False) e1 f1) 22 (by simp [maxLen]; omega) (by omega) (row_kept ho1 he2) hA3.size (flatC_len cs) hp1 hp2 flatC_one hm1 hOe2
            have hA4 := hA3.trans hb2
            refine ⟨v2, f2, _, exec_append (.tmp 85) (.tmp 87) rfl rfl rfl hr2, (But.of_below hA4), hk2, ?_⟩
            simp only [List.getElem_toArray, List.getElem_cons_succ, List.getElem_cons_zero, Act.put, List.setIfInBounds_toArray, List.set_cons_zero, List.set_cons_succ]
            clear hr2 hp1 hp2 hSe2 hOe2 he2 hA3 hA2 ho1 hb2 hk2 hm1
            refine GWalk.joins fun e3 bJ he3 hj1 hj2 hj3 hj4 => ?_
            simp only [List.getElem_toArray, List.getElem_cons_succ, List.getElem_cons_zero, Act.put, List.setIfInBounds_toArray, List.set_cons_zero, List.set_cons_succ]
            refine GWalk.acts rfl rfl fun e4 he4 hSe4 hOe4 => ?_
            have he34 := grow_to he3 he4
            have hA5 := grow_to hA4 he34
            have hj5 := (he4.block _ hj2).trans hj4
            obtain ⟨v3, f3, hr3, ho3, hb3, hk3, hm3, -⟩ := act_app2 el22 u29.heap.size (0 + cs.length) v2 ([] ++ flatC cs) (some ⟨bJ, 0, none⟩) 1 1 [.int .i64 P, .int .i64 Q, .int .i64 X, .int .i64 Y] e4 _ 22 (by simp [maxLen]; omega) (by omega) (row_kept ho2 he34) hA5.size rfl (fun h => by cases h) (fun _ => ⟨bJ, 0, rfl, fun j u hj => by rw [Nat.zero_add, cell_of_row e4 bJ j _ _ _ hj5]; simpa using hj⟩) (by simp [Value.oneCell']) hm2 hOe4
            have hA6 := hA5.trans hb3
            refine ⟨v3, f3, _, exec_append (.tmp 88) (.tmp 96) rfl rfl rfl hr3, (But.of_below hA6), hk3, ?_⟩
            simp only [List.getElem_toArray, List.getElem_cons_succ, List.getElem_cons_zero, Act.put, List.setIfInBounds_toArray, List.set_cons_zero, List.set_cons_succ]
            clear hr3 hSe4 hOe4 he34 he3 he4 hA4 hA5 hj1 hj2 hj3 hj4 hj5 ho2 hb3 hk3 hm2 hm3
            refine GWalk.fin fun e6 he6 hS6 => ?_
            have hA9 := grow_to hA6 he6
            have ho6 := row_kept ho3 he6
            clear hA6 ho3 he6
            obtain ⟨yva, yvc, rfl⟩ := own_shape ho6
            have y6 := (hA9.block _ (lt_of_block HX12.out)).trans HX12.out
            have hc6 := cell_of_row e6 b12 1 _ _ _ y6
            have hf6 := frozen_of_row e6 b12 1 _ _ y6
            simp only [List.getElem?_toArray, List.getElem?_cons_zero, List.getElem?_cons_succ] at hc6
            have ly6 := lt_of_block y6
            refine Tail.value rfl rfl (by go_simp; with_reducible rfl) ?_
            simp only [List.getElem_toArray, List.getElem_cons_succ, List.getElem_cons_zero, Act.put, List.setIfInBounds_toArray, List.set_cons_zero, List.set_cons_succ]
            have hlb := lt_of_block HX12.out
            refine Tail.skip rfl rfl (exec_store_one 22 (.tmp 98) (.tmp 97) rfl rfl rfl hc6 hf6 (by kernel_rfl)) (hS6.trans (But.setCell _ _ rfl)) (Tail.done (NoPanic.normal ?_))
            simp only [List.getElem_toArray, List.getElem_cons_succ, List.getElem_cons_zero, Act.put, List.setIfInBounds_toArray, List.set_cons_zero, List.set_cons_succ]
            have y7 := heap_setCell_same e6 b12 1 _ 24 (.slice yva (0 + cs.length + 1) yvc) y6
            have ho7 := own_same (W' := e6.setCell ⟨b12, 1, none⟩ (.slice yva (0 + cs.length + 1) yvc)) ho6 (fun g hg _ => heap_setCell_other e6 ⟨b12, 1, none⟩ g _ (by show g ≠ b12; omega))
            have hot : ∀ k, k < u29.heap.size → k ≠ b12 → (e6.setCell ⟨b12, 1, none⟩ (.slice yva (0 + cs.length + 1) yvc)).heap[k]? = u29.heap[k]? := fun k hk hn => (heap_setCell_other e6 ⟨b12, 1, none⟩ k _ hn).trans (hA9.block k hk)
            have hbel : Below w.heap.size w (e6.setCell ⟨b12, 1, none⟩ (.slice yva (0 + cs.length + 1) yvc)) := (below_to HBA.out hA9).setCell (p := ⟨b12, 1, none⟩) (by show w.heap.size ≤ b12; have := HB12.out; omega) _
            simp only [List.setIfInBounds_toArray, List.set_cons_zero, List.set_cons_succ] at y7
            generalize World.setCell e6 _ _ = u30 at *
            replace HXA := Lib.hid ((hot _ (lt_of_block HXA.out) (by have := HB12.out; omega)).trans HXA.out)
            replace HX11 := Lib.hid ((hot _ (lt_of_block HX11.out) HNE.out).trans HX11.out)
            replace HXB := Lib.hid ((hot _ (lt_of_block HXB.out) (by have := H15.out; omega)).trans HXB.out)
            replace HVX := Lib.hid (own_same HVX.out (fun g hg hg2 => hot g hg2 (by have := HB2.out; omega)))
            replace HG := Lib.hid (own_same HG.out (fun g hg hg2 => hot g hg2 (by have := HGB.out; omega)))
            replace HBA := Lib.hid hbel
            replace HX12 := Lib.hid y7
            have HVY := Lib.hid ho7
            have HUHVY : Hid (b12 < u29.heap.size) := Lib.hid hlb
            clear y6 hc6 hf6 ly6 hS6 y7 ho7 hot hbel ho6 hA9 hlb
            clear HC11
            clear HXB
            obtain ⟨ys, HYE⟩ : ∃ ys, Hid (ys = cs ++ [⟨P, Q, X, Y⟩]) := ⟨_, Lib.hid rfl⟩
            have hyl : 0 + cs.length + 1 = ys.length := by rw [HYE.out]; simp
            have hyf : [] ++ flatC cs ++ [.int .i64 P, .int .i64 Q, .int .i64 X, .int .i64 Y] = flatC ys := by rw [HYE.out, flatC_snoc]; simp
            rw [hyl] at HVY HX12
            rw [hyf] at HVY
            have HYL : Hid (ys.length ≤ 12) := Lib.hid (by rw [← hyl]; have := H11.out; omega)
            have hoky : AlbOk N ys := by rw [HYE.out, ← HXX.out, ← HYY.out]; exact says_ok HOK.out HD.out (by have := H11.out; omega) HPB.out HQB.out HPQ.out
            obtain ⟨dy, hdy, heq⟩ : ∃ dy, distO ys = some dy ∧ EqD d dy := by
              have h9 := hoky
              rw [HYE.out, ← HXX.out, ← HYY.out] at h9 ⊢
              exact more_same HOK.out h9 HD.out HPB.out HQB.out
            have HGS := Lib.hid (grades_same (n := N) hN8 heq)
            have HOKY := Lib.hid hoky
            have HDY := Lib.hid hdy
            clear hyl hyf hoky hdy heq
            have c0 := cell_of_row u30 b12 0 _ _ _ HX12.out
            have c1 := cell_of_row u30 b12 1 _ _ _ HX12.out
            simp only [List.getElem?_toArray, List.getElem?_cons_zero, List.getElem?_cons_succ] at c0 c1
            have lc := lt_of_block HX12.out
            go_wp2_with fail
            clear c0 c1 lc
            refine (Album_any u30.heap.size N _ ys u30 (by have := HYL.out; omega) (own_cms (l := ys) HVY.out) (Nat.le_refl _)).mono ?_
            rintro e u31 ⟨⟨r9, rfl, ho⟩, hb⟩
            replace HXA := Lib.hid ((hb.block _ (lt_of_block HXA.out)).trans HXA.out)
            replace HBA := Lib.hid (below_to HBA.out hb)
            replace HX11 := Lib.hid ((hb.block _ (lt_of_block HX11.out)).trans HX11.out)
            replace HX12 := Lib.hid ((hb.block _ (lt_of_block HX12.out)).trans HX12.out)
            replace HVX := Lib.hid (own_same HVX.out (fun g _ hg => hb.block g hg))
            replace HG := Lib.hid (own_same HG.out (fun g _ hg => hb.block g hg))
            replace HVY := Lib.hid (own_same HVY.out (fun g _ hg => hb.block g hg))
            clear hb
            have HV9 := Lib.hid (own_cms (l := ys) ho)
            clear ho
            go_wp2_with fail
            refine (Grades_some HOKY.out HV9.out HDY.out).mono ?_
            rintro e u32 ⟨⟨r8, rfl, hr8⟩, hb⟩
            replace HXA := Lib.hid ((hb.block _ (lt_of_block HXA.out)).trans HXA.out)
            replace HBA := Lib.hid (below_to HBA.out hb)
            replace HX11 := Lib.hid ((hb.block _ (lt_of_block HX11.out)).trans HX11.out)
            replace HX12 := Lib.hid ((hb.block _ (lt_of_block HX12.out)).trans HX12.out)
            replace HVX := Lib.hid (own_same HVX.out (fun g _ hg => hb.block g hg))
            replace HG := Lib.hid (own_same HG.out (fun g _ hg => hb.block g hg))
            replace HVY := Lib.hid (own_same HVY.out (fun g _ hg => hb.block g hg))
            replace HV9 := Lib.hid ((HV9.out.same (.below (Nat.le_refl _) hb)).up hb.size)
            clear hb
            rw [← HGS.out] at hr8
            have HGY := Lib.hid hr8
            clear hr8
            clear HV9
            clear HVY
            clear HX12
            go_wp2_with fail
            have hrs := ranges_same u32.heap.size _ _ (gradesL d N) u32 (by rw [grades_len]; omega) (own_rgs (l := gradesL d N) (by rw [grades_len]; exact HG.out)) HGY.out (Nat.le_refl _)
            refine (hrs).mono ?_
            rintro e u33 ⟨rfl, hb⟩
            replace HXA := Lib.hid ((hb.block _ (lt_of_block HXA.out)).trans HXA.out)
            replace HBA := Lib.hid (below_to HBA.out hb)
            replace HX11 := Lib.hid ((hb.block _ (lt_of_block HX11.out)).trans HX11.out)
            replace HVX := Lib.hid (own_same HVX.out (fun g _ hg => hb.block g hg))
            replace HG := Lib.hid (own_same HG.out (fun g _ hg => hb.block g hg))
            replace HGY := Lib.hid ((HGY.out.same (.below (Nat.le_refl _) hb)).up hb.size)
            clear hb
            clear hrs
            clear HGY
            have c0 := cell_of_row u33 b11 0 _ _ _ HX11.out
            have c1 := cell_of_row u33 b11 1 _ _ _ HX11.out
            simp only [List.getElem?_toArray, List.getElem?_cons_zero, List.getElem?_cons_succ] at c0 c1
            have lc := lt_of_block HX11.out
            go_wp2_with fail
            clear c0 c1 lc
            refine (ready_any u33.heap.size N _ xs u33 (own_cms (l := xs) HVX.out) (Nat.le_refl _)).mono ?_
            rintro e u34 ⟨rfl, hb⟩
            replace HXA := Lib.hid ((hb.block _ (lt_of_block HXA.out)).trans HXA.out)
            replace HBA := Lib.hid (below_to HBA.out hb)
            replace HX11 := Lib.hid ((hb.block _ (lt_of_block HX11.out)).trans HX11.out)
            replace HVX := Lib.hid (own_same HVX.out (fun g _ hg => hb.block g hg))
            replace HG := Lib.hid (own_same HG.out (fun g _ hg => hb.block g hg))
            clear hb
            cases hzx : readyB N xs with
            | false =>
              clear hzx
              go_wp2_with fail
              refine (awake_any u34).mono ?_
              rintro e u35 ⟨rfl, hb⟩
              have HBF := Lib.hid (below_to HBA.out hb)
              clear hb
              go_wp2
              go_ret
              exact ⟨rfl, HBF.out⟩
            | true =>
              have HOKX := Lib.hid (readyB_ok hzx)
              clear hzx
              have c0 := cell_of_row u34 b11 0 _ _ _ HX11.out
              have c1 := cell_of_row u34 b11 1 _ _ _ HX11.out
              simp only [List.getElem?_toArray, List.getElem?_cons_zero, List.getElem?_cons_succ] at c0 c1
              have lc := lt_of_block HX11.out
              go_wp2_with fail
              clear c0 c1 lc
              refine (Album_any u34.heap.size N _ xs u34 (by have := HXL.out; omega) (own_cms (l := xs) HVX.out) (Nat.le_refl _)).mono ?_
              rintro e u36 ⟨⟨r9, rfl, ho⟩, hb⟩
              replace HXA := Lib.hid ((hb.block _ (lt_of_block HXA.out)).trans HXA.out)
              replace HBA := Lib.hid (below_to HBA.out hb)
              replace HX11 := Lib.hid ((hb.block _ (lt_of_block HX11.out)).trans HX11.out)
              replace HVX := Lib.hid (own_same HVX.out (fun g _ hg => hb.block g hg))
              replace HG := Lib.hid (own_same HG.out (fun g _ hg => hb.block g hg))
              clear hb
              have HV9 := Lib.hid (own_cms (l := xs) ho)
              clear ho
              go_wp2_with fail
              cases hdx : distO xs with
              | none =>
                refine (Grades_none HOKX.out HV9.out hdx).mono ?_
                rintro e u37 ⟨rfl, hb⟩
                replace HXA := Lib.hid ((hb.block _ (lt_of_block HXA.out)).trans HXA.out)
                replace HBA := Lib.hid (below_to HBA.out hb)
                replace HX11 := Lib.hid ((hb.block _ (lt_of_block HX11.out)).trans HX11.out)
                replace HVX := Lib.hid (own_same HVX.out (fun g _ hg => hb.block g hg))
                replace HG := Lib.hid (own_same HG.out (fun g _ hg => hb.block g hg))
                replace HV9 := Lib.hid ((HV9.out.same (.below (Nat.le_refl _) hb)).up hb.size)
                clear hb
                clear hdx
                clear HV9
                go_wp2_with fail
                refine (awake_any u37).mono ?_
                rintro e u38 ⟨rfl, hb⟩
                have HBF := Lib.hid (below_to HBA.out hb)
                clear hb
                go_wp2
                go_ret
                exact ⟨rfl, HBF.out⟩
              | some d' =>
                have HDX := Lib.hid hdx
                clear hdx
                have HLE := Lib.hid (more_less HOK.out (HXE.out ▸ HOKX.out) HD.out (HXE.out ▸ HDX.out))
                refine (Grades_some HOKX.out HV9.out HDX.out).mono ?_
                rintro e u39 ⟨⟨r5, rfl, hr5⟩, hb⟩
                replace HXA := Lib.hid ((hb.block _ (lt_of_block HXA.out)).trans HXA.out)
                replace HBA := Lib.hid (below_to HBA.out hb)
                replace HX11 := Lib.hid ((hb.block _ (lt_of_block HX11.out)).trans HX11.out)
                replace HVX := Lib.hid (own_same HVX.out (fun g _ hg => hb.block g hg))
                replace HG := Lib.hid (own_same HG.out (fun g _ hg => hb.block g hg))
                replace HV9 := Lib.hid ((HV9.out.same (.below (Nat.le_refl _) hb)).up hb.size)
                clear hb
                have HH := Lib.hid hr5
                clear hr5
                clear HV9
                have c0 := cell_of_row u39 w.heap.size 0 _ _ _ HXA.out
                have c1 := cell_of_row u39 w.heap.size 1 _ _ _ HXA.out
                simp only [List.getElem?_toArray, List.getElem?_cons_zero, List.getElem?_cons_succ] at c0 c1
                have lc := lt_of_block HXA.out
                go_wp2_with fail
                clear c0 c1 lc
                refine (HAL.out u39 HBA.out).mono ?_
                rintro e u40 ⟨⟨r1, rfl, ho⟩, hb⟩
                replace HXA := Lib.hid ((hb.block _ (lt_of_block HXA.out)).trans HXA.out)
                replace HBA := Lib.hid (below_to HBA.out hb)
                replace HX11 := Lib.hid ((hb.block _ (lt_of_block HX11.out)).trans HX11.out)
                replace HVX := Lib.hid (own_same HVX.out (fun g _ hg => hb.block g hg))
                replace HG := Lib.hid (own_same HG.out (fun g _ hg => hb.block g hg))
                replace HH := Lib.hid ((HH.out.same (.below (Nat.le_refl _) hb)).up hb.size)
                clear hb
                have HV1 := Lib.hid (own_cms (l := cs) ho)
                clear ho
                go_wp2_with fail
                refine (Finest_some HOK.out (by have := HN2.out; omega) HV1.out HD.out).mono ?_
                rintro e u41 ⟨⟨r6, rfl, hr6⟩, hb⟩
                replace HXA := Lib.hid ((hb.block _ (lt_of_block HXA.out)).trans HXA.out)
                replace HBA := Lib.hid (below_to HBA.out hb)
                replace HX11 := Lib.hid ((hb.block _ (lt_of_block HX11.out)).trans HX11.out)
                replace HVX := Lib.hid (own_same HVX.out (fun g _ hg => hb.block g hg))
                replace HG := Lib.hid (own_same HG.out (fun g _ hg => hb.block g hg))
                replace HH := Lib.hid ((HH.out.same (.below (Nat.le_refl _) hb)).up hb.size)
                replace HV1 := Lib.hid ((HV1.out.same (.below (Nat.le_refl _) hb)).up hb.size)
                clear hb
                have HF1 := Lib.hid hr6
                clear hr6
                clear HV1
                have c0 := cell_of_row u41 b11 0 _ _ _ HX11.out
                have c1 := cell_of_row u41 b11 1 _ _ _ HX11.out
                simp only [List.getElem?_toArray, List.getElem?_cons_zero, List.getElem?_cons_succ] at c0 c1
                have lc := lt_of_block HX11.out
                go_wp2_with fail
                clear c0 c1 lc
                refine (Album_any u41.heap.size N _ xs u41 (by have := HXL.out; omega) (own_cms (l := xs) HVX.out) (Nat.le_refl _)).mono ?_
                rintro e u42 ⟨⟨r9, rfl, ho⟩, hb⟩
                replace HXA := Lib.hid ((hb.block _ (lt_of_block HXA.out)).trans HXA.out)
                replace HBA := Lib.hid (below_to HBA.out hb)
                replace HX11 := Lib.hid ((hb.block _ (lt_of_block HX11.out)).trans HX11.out)
                replace HVX := Lib.hid (own_same HVX.out (fun g _ hg => hb.block g hg))
                replace HG := Lib.hid (own_same HG.out (fun g _ hg => hb.block g hg))
                replace HH := Lib.hid ((HH.out.same (.below (Nat.le_refl _) hb)).up hb.size)
                replace HF1 := Lib.hid ((HF1.out.same (.below (Nat.le_refl _) hb)).up hb.size)
                clear hb
                have HV9 := Lib.hid (own_cms (l := xs) ho)
                clear ho
                go_wp2_with fail
                refine (Finest_some HOKX.out (by have := HN2.out; omega) HV9.out HDX.out).mono ?_
                rintro e u43 ⟨⟨r7, rfl, hr7⟩, hb⟩
                replace HXA := Lib.hid ((hb.block _ (lt_of_block HXA.out)).trans HXA.out)
                replace HBA := Lib.hid (below_to HBA.out hb)
                replace HX11 := Lib.hid ((hb.block _ (lt_of_block HX11.out)).trans HX11.out)
                replace HVX := Lib.hid (own_same HVX.out (fun g _ hg => hb.block g hg))
                replace HG := Lib.hid (own_same HG.out (fun g _ hg => hb.block g hg))
                replace HH := Lib.hid ((HH.out.same (.below (Nat.le_refl _) hb)).up hb.size)
                replace HF1 := Lib.hid ((HF1.out.same (.below (Nat.le_refl _) hb)).up hb.size)
                replace HV9 := Lib.hid ((HV9.out.same (.below (Nat.le_refl _) hb)).up hb.size)
                clear hb
                have HF2 := Lib.hid hr7
                clear hr7
                clear HV9
                have HG9 := Lib.hid (own_rgs (l := gradesL d N) (by rw [grades_len]; exact HG.out))
                obtain ⟨ga, gcap, hge, hgp⟩ := HG9.out
                rw [grades_len] at hge hgp
                subst hge
                obtain ⟨ha, hcap, hhe, hhp⟩ := HH.out
                rw [grades_len] at hhe hhp
                subst hhe
                obtain ⟨fa, fcap, hfe, -⟩ := HF1.out
                subst hfe
                obtain ⟨ea, ecap, hee, -⟩ := HF2.out
                subst hee
                have hff := finest_less (n := N) hN8 HLE.out
                have hfl : (intsL (finestL d' N)).length ≤ (intsL (finestL d N)).length := by simpa only [intsL, List.length_map] using hff
                have HGP := Lib.hid hgp
                have HHP := Lib.hid hhp
                have hne : ((N : Int) != N) = false := by simp
                have HCA := Lib.hid (dist_some HOKX.out HDX.out)
                generalize (intsL (finestL d N)).length = L1 at *
                generalize (intsL (finestL d' N)).length = L2 at *
                have hfd : decide (L1 < L2) = false := decide_eq_false (by omega)
                have hfe : decide ((L1 : Int) < (L2 : Int)) = false := decide_eq_false (by omega)
                clear hgp hhp HG9 HH HG HF1 HF2 hff hfl
                go_wp2_with fail
                clear hne hfd hfe
                go_loopw [25] (fun i wr => ∃ q : Nat, q ≤ N ∧ i = .int .i64 q ∧ Hid (Below u43.heap.size u43 wr)) (fun i _ => N - (intOf i).toNat)
                case atStart => exact ⟨0, Nat.zero_le _, rfl, Lib.hid (Below.refl _ _)⟩
                case round =>
                  obtain ⟨q, hq, rfl, HU⟩ := hrel
                  by_cases hlt : q < N
                  · obtain ⟨gb, go, rfl, hgb, hgc⟩ := HGP.out (by omega)
                    obtain ⟨hb_, ho_, rfl, hhb, hhc⟩ := HHP.out (by omega)
                    have p1 := (HU.out.cell (p := ⟨gb, go + q * 2, none⟩) hgb).trans (hgc q hlt).1
                    have p2 := (HU.out.cell (p := ⟨gb, go + q * 2 + 1, none⟩) hgb).trans (hgc q hlt).2
                    have p3 := (HU.out.cell (p := ⟨hb_, ho_ + q * 2, none⟩) hhb).trans (hhc q hlt).1
                    have p4 := (HU.out.cell (p := ⟨hb_, ho_ + q * 2 + 1, none⟩) hhb).trans (hhc q hlt).2
                    rw [grades_at hlt] at p1 p2 p3 p4
                    have s1 := HLE.out (q + 1) 0 (by omega) (by omega)
                    have s2 := HLE.out 0 (q + 1) (by omega) (by omega)
                    have s3 := HCA.out.tri 0 (q + 1) 0 (by omega) (by omega) (by omega)
                    have s4 := HCA.out.diag 0 (by omega)
                    have e1 : decide (-d' (q + 1) 0 < -d (q + 1) 0) = false := decide_eq_false (by omega)
                    have e2 : decide (d 0 (q + 1) < d' 0 (q + 1)) = false := decide_eq_false (by omega)
                    have e3 : decide (d' 0 (q + 1) < -d' (q + 1) 0) = false := decide_eq_false (by omega)
                    clear hgc hhc s1 s2 s3 s4
                    simp only at p1 p2 p3 p4
                    generalize -d (q + 1) 0 = X1 at *
                    generalize d 0 (q + 1) = Y1 at *
                    generalize -d' (q + 1) 0 = X2 at *
                    generalize d' 0 (q + 1) = Y2 at *
                    have hqn : (q : Int) < N := by omega
                    have hwq : IntKind.i64.wrap ((q : Int) + 1) = (q : Int) + 1 := IntWalk.i64_in _ (by omega)
                    go_wp2_with fail
                    have g1 := cell_regrown p1
                    have g2 := cell_regrown p2
                    have g3 := cell_regrown p3
                    have g4 := cell_regrown p4
                    refine wp_region_quiet_below (by kernel_rfl) (by kernel_rfl) ?_
                    repeat (quiet_step (fail))
                    refine wpQuiet_nil ?_
                    intro v9 hw'
                    obtain ⟨⟨dq, osq⟩, hw''⟩ := hw'
                    have hb := below_regrown wr dq osq
                    rw [← hw''] at hb
                    have HU9 := Lib.hid (below_to HU.out hb)
                    clear hw'' g1 g2 g3 g4 p1 p2 p3 p4 hb HU e1 e2 e3
                    go_wp2
                    go_roundw
                    case rel => exact ⟨q + 1, Nat.succ_le_of_lt hlt, by simp, HU9⟩
                    case measure => simp [intOf]; exact Nat.sub_lt_sub_left hlt (Nat.lt_succ_self _)
                  · obtain rfl : q = N := Nat.le_antisymm hq (Nat.le_of_not_lt hlt)
                    replace HBA := Lib.hid (below_to HBA.out HU.out)
                    go_wp2_with fail
                    refine (awake_any wr).mono ?_
                    rintro e u44 ⟨rfl, hb⟩
                    have HBF := Lib.hid (below_to HBA.out hb)
                    clear hb
                    go_wp2
                    go_ret
                    exact ⟨rfl, HBF.out⟩
end Go.Proofs.Ytplmlmmjfkbabaa
