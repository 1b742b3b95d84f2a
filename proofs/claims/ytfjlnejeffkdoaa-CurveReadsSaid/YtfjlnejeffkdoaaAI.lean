/- CurveReads, walked: what it calls given as contracts. -/
import Derived.Test.YtfjlnejeffkdoaaAH
namespace Go.Proofs.Ytfjlnejeffkdoaa
open Go.RowKit Go.Shelf
attribute [local irreducible] arrV wpQuiet

set_option maxRecDepth 100000 in
set_option maxHeartbeats 1000000 in
theorem reads_no (sa st : Option Addr) (n cap m capt : Nat) (d k o : Int) (w : World) (h : 25 < n ∨ 30 < m) (hm : m ≤ maxLen) :
    Calls Try.prog 3 #[.agg #[.slice sa n cap], .agg #[.int .i64 d, .int .i64 k, .int .i64 o], .slice st m capt] w fun e w' => e = .returned (.bool true) ∧ Below w.heap.size w w' := by
  have hb2 := below2 w (.cells #[.slice sa n cap] 24) (.cells #[.int .i64 d, .int .i64 k, .int .i64 o] 26)
  have HT := Lib.hid fun W => Thin_any sa n cap W
  have HA := Lib.hid awake_any
  unfold maxLen at hm
  by_cases hn : n ≤ 25
  · have hd : decide (n ≤ 25) = true := by simpa using hn
    have hmm : (30 : Int) < (m : Int) := by omega
    rw [hd] at HT
    clear h hd
    go_enter Try.func3, Try.ntmps3
    go_wp2_with fail
    refine (HT.out _).mono ?_
    rintro e w1 ⟨rfl, hb1⟩
    have HB := Lib.hid (below_to hb2 hb1)
    clear hb1 hb2
    go_wp2_with fail
    refine (HA.out _).mono ?_
    rintro e w2 ⟨rfl, hb3⟩
    have hbf := below_to HB.out hb3
    clear hb3
    go_wp2
    go_ret
    exact ⟨rfl, hbf⟩
  · have hd : decide (n ≤ 25) = false := by simp; omega
    rw [hd] at HT
    clear h hd
    go_enter Try.func3, Try.ntmps3
    go_wp2_with fail
    refine (HT.out _).mono ?_
    rintro e w1 ⟨rfl, hb1⟩
    have HB := Lib.hid (below_to hb2 hb1)
    clear hb1 hb2
    go_wp2_with fail
    refine (HA.out _).mono ?_
    rintro e w2 ⟨rfl, hb3⟩
    have hbf := below_to HB.out hb3
    clear hb3
    go_wp2
    go_ret
    exact ⟨rfl, hbf⟩

set_option maxRecDepth 100000 in
set_option maxHeartbeats 4000000 in
theorem reads_walk (sa st : Option Addr) (n cap m capt : Nat) (d k o E1 E EE : Int) (X : Rs) (tb : Bool) (CV TL : Value → World → Prop) (w : World) (hn : n ≤ 25) (hm : m ≤ 30)
    (HCVg : ∀ v w1 w2, CV v w1 → Below w1.heap.size w1 w2 → CV v w2) (HTLg : ∀ v w1 w2, TL v w1 → Below w1.heap.size w1 w2 → TL v w2)
    (HCV : ∀ W, Below w.heap.size w W → Calls Try.prog 18 #[.agg #[.slice sa n cap]] W fun e w' => ∃ v, e = .returned (.agg #[v]) ∧ CV v w' ∧ Below W.heap.size W w')
    (HCC : ∀ v W, CV v W → Calls Try.prog 17 #[.agg #[v]] W fun e w' => e = .returned (.int .i64 E1) ∧ Below W.heap.size W w')
    (HLS : ∀ W, Below w.heap.size w W → Calls Try.prog 21 #[.slice st m capt] W fun e w' => ∃ tl, e = .returned tl ∧ TL tl w' ∧ Below W.heap.size W w')
    (HRD : ∀ v tl W, CV v W → TL tl W → Calls Try.prog 19 #[.agg #[v], .agg #[.int .i64 d, .int .i64 k, .int .i64 o], tl] W fun e w' => e = .returned (.tuple #[.agg (rsV X), .int .i64 EE]) ∧ Below W.heap.size W w')
    (HFL : ∀ W, Below w.heap.size w W → Calls Try.prog 22 #[.agg #[.slice sa n cap], .agg #[.int .i64 d, .int .i64 k, .int .i64 o]] W fun e w' => e = .returned (.int .i64 E) ∧ Below W.heap.size W w')
    (HFT : ∀ W, Below w.heap.size w W → Calls Try.prog 23 #[.agg #[.slice sa n cap]] W fun e w' => e = .returned (.int .i64 E1) ∧ Below W.heap.size W w')
    (HIT : E = 0 → ∀ W, Below w.heap.size w W → Calls Try.prog 24 #[.agg #[.slice sa n cap], .slice st m capt] W fun e w' => e = .returned (.bool tb) ∧ Below W.heap.size W w')
    (HX : (E ≠ 0 ∧ EE = E ∧ X = ⟨0, 0, 0, 0, 0, 0, 0⟩) ∨ (E = 0 ∧ tb = false ∧ EE = 2 ∧ X = ⟨0, 0, 0, 0, 0, 0, 0⟩) ∨
      (E = 0 ∧ tb = true ∧ EE = 0 ∧ ∀ W, Below w.heap.size w W → Calls Try.prog 26 #[.agg #[.slice sa n cap], .agg #[.int .i64 d, .int .i64 k, .int .i64 o], .slice st m capt] W fun e w' => e = .returned (.agg (rsV X)) ∧ Below W.heap.size W w')) :
    Calls Try.prog 3 #[.agg #[.slice sa n cap], .agg #[.int .i64 d, .int .i64 k, .int .i64 o], .slice st m capt] w fun e w' => e = .returned (.bool true) ∧ Below w.heap.size w w' := by
  have hb2 := below2 w (.cells #[.slice sa n cap] 24) (.cells #[.int .i64 d, .int .i64 k, .int .i64 o] 26)
  obtain ⟨hx1, hx2⟩ := box2 w (.cells #[.slice sa n cap] 24) (.cells #[.int .i64 d, .int .i64 k, .int .i64 o] 26)
  have HT := Lib.hid fun W => Thin_any sa n cap W
  have hd : decide (n ≤ 25) = true := by simpa using hn
  rw [hd] at HT
  have hmm : ¬ (30 : Int) < (m : Int) := by omega
  have hmd : decide ((30 : Int) < (m : Int)) = false := by simp; omega
  have HA := Lib.hid awake_any
  have H1 := Lib.hid HCVg
  have H2 := Lib.hid HTLg
  have H3 := Lib.hid HCV
  have H4 := Lib.hid HCC
  have H5 := Lib.hid HLS
  have H6 := Lib.hid HRD
  have H7 := Lib.hid HFL
  have H8 := Lib.hid HFT
  have H9 := Lib.hid HIT
  have H10 := Lib.hid HX
  clear HCVg HTLg HCV HCC HLS HRD HFL HFT HIT HX hd hn hm
  go_enter Try.func3, Try.ntmps3
  go_wp2_with fail
  generalize World.alloc (World.alloc w _) _ = W1 at *
  refine (HT.out _).mono ?_
  rintro e w1 ⟨rfl, hb1⟩
  have HBW := Lib.hid (below_to hb2 hb1)
  have HC : Hid (∀ w', Below w1.heap.size w1 w' → w'.cell? ⟨w.heap.size, 0, none⟩ = some (.slice sa n cap) ∧ w'.cell? ⟨w.heap.size + 1, 0, none⟩ = some (.int .i64 d) ∧ w'.cell? ⟨w.heap.size + 1, 1, none⟩ = some (.int .i64 k) ∧ w'.cell? ⟨w.heap.size + 1, 2, none⟩ = some (.int .i64 o)) := Lib.hid fun w' h => by
    have z1 := (hb1.block _ (lt_of_block hx1)).trans hx1
    have z2 := (hb1.block _ (lt_of_block hx2)).trans hx2
    have y1 := (h.block _ (lt_of_block z1)).trans z1
    have y2 := (h.block _ (lt_of_block z2)).trans z2
    exact ⟨cell_of_row w' w.heap.size 0 _ _ _ y1, cell_of_row w' (w.heap.size + 1) 0 _ _ _ y2, cell_of_row w' (w.heap.size + 1) 1 _ _ _ y2, cell_of_row w' (w.heap.size + 1) 2 _ _ _ y2⟩
  clear hb1 hb2 hx1 hx2
  clear W1
  obtain ⟨d0, d1, d2, d3⟩ := HC.out w1 (Below.refl _ _)
  go_wp2_with fail
  refine (H3.out _ HBW.out).mono ?_
  rintro e w2 ⟨v, rfl, hv, hb2⟩
  have HB2 := Lib.hid hb2
  clear hb2 d0 d1 d2 d3
  go_wp2_with fail
  refine (H4.out v w2 hv).mono ?_
  rintro e w3 ⟨rfl, hb3⟩
  have HB3 := Lib.hid (grow_to HB2.out hb3)
  clear hb3 hv HB2
  clear w2
  go_wp2
  refine wp_region_noPanic ?_
  refine wp_region_float (by kernel_rfl) (fun _ _ _ _ _ h => h) 10 _ rfl 8 rfl rfl (.cells zero37 37) (fun a w => by kernel_rfl)
    [(false, 0), (false, 2), (false, 4), (true, 1), (true, 3), (true, 5), (true, 6), (false, 7), (false, 8), (false, 9)] [11, 12] (by kernel_rfl) ?_
  iterate 3
    (refine Walk.takes rfl rfl ?_; apply Exists.intro; refine ⟨fun w' hS => ?_, ?_⟩; (obtain ⟨d0, d1, d2, d3⟩ := HC.out w' (grow_to HB3.out hS); go_simp; with_reducible rfl); simp only [List.getElem_toArray, List.getElem_cons_succ, List.getElem_cons_zero, Act.put, List.setIfInBounds_toArray, List.set_cons_zero, List.set_cons_succ])
  refine Walk.calls rfl rfl ?_; apply Exists.intro; apply Exists.intro; refine ⟨fun w' hS => ?_, fun w' hba => ?_⟩; (clear hS; go_simp; exact ⟨rfl, rfl⟩)
  have hu0 := below_to HBW.out (grow_to HB3.out (grow_to (below_drawn _) hba))
  refine (H3.out w' hu0).mono ?_
  rintro e u1 ⟨v2, rfl, hv2, hbb⟩
  refine ⟨_, rfl, hbb, ?_⟩
  simp only [List.getElem_toArray, List.getElem_cons_succ, List.getElem_cons_zero, Act.put, List.setIfInBounds_toArray, List.set_cons_zero, List.set_cons_succ]
  have hu1 := below_to hu0 hbb
  clear hba hbb hu0
  refine Walk.calls rfl rfl ?_; apply Exists.intro; apply Exists.intro; refine ⟨fun w' hS => ?_, fun w' hba => ?_⟩; (clear hS; go_simp; exact ⟨rfl, rfl⟩)
  refine (Rule_any d k o w').mono ?_
  rintro e u2 ⟨rfl, hbb⟩
  refine ⟨_, rfl, hbb, ?_⟩
  simp only [List.getElem_toArray, List.getElem_cons_succ, List.getElem_cons_zero, Act.put, List.setIfInBounds_toArray, List.set_cons_zero, List.set_cons_succ]
  replace hv2 := H1.out _ _ _ (H1.out _ _ _ hv2 hba) hbb
  have hu2 := below_to (below_to hu1 hba) hbb
  clear hba hbb hu1
  refine Walk.calls rfl rfl ?_; apply Exists.intro; apply Exists.intro; refine ⟨fun w' hS => ?_, fun w' hba => ?_⟩; (clear hS; go_simp; exact ⟨rfl, rfl⟩)
  refine (H5.out w' (below_to hu2 hba)).mono ?_
  rintro e u3 ⟨tl, rfl, htl, hbb⟩
  refine ⟨_, rfl, hbb, ?_⟩
  simp only [List.getElem_toArray, List.getElem_cons_succ, List.getElem_cons_zero, Act.put, List.setIfInBounds_toArray, List.set_cons_zero, List.set_cons_succ]
  replace hv2 := H1.out _ _ _ (H1.out _ _ _ hv2 hba) hbb
  clear hba hbb hu2
  refine Walk.calls rfl rfl ?_; apply Exists.intro; apply Exists.intro; refine ⟨fun w' hS => ?_, fun w' hba => ?_⟩; (clear hS; go_simp; exact ⟨rfl, rfl⟩)
  refine (H6.out v2 tl w' (H1.out _ _ _ hv2 hba) (H2.out _ _ _ htl hba)).mono ?_
  rintro e u4 ⟨rfl, hbb⟩
  refine ⟨_, rfl, hbb, ?_⟩
  simp only [List.getElem_toArray, List.getElem_cons_succ, List.getElem_cons_zero, Act.put, List.setIfInBounds_toArray, List.set_cons_zero, List.set_cons_succ]
  clear hba hbb hv2 htl
  iterate 3
    (refine Walk.takes rfl rfl ?_; apply Exists.intro; refine ⟨fun w' hS => ?_, ?_⟩; (clear hS; go_simp; with_reducible rfl); simp only [List.getElem_toArray, List.getElem_cons_succ, List.getElem_cons_zero, Act.put, List.setIfInBounds_toArray, List.set_cons_zero, List.set_cons_succ])
  refine Walk.fin ?_
  intro v7 hb7 b8 hbb8 hz8 hw7
  simp only [List.getElem_toArray, List.getElem_cons_succ, List.getElem_cons_zero, Act.put, List.setIfInBounds_toArray, List.set_cons_zero, List.set_cons_succ]
  have hs37 : (Try.prog.info? 37).map (·.size) = some (rsV X).size := s37
  have n1 := set_whole b8 37 v7 zero37 (rsV X) rfl hz8
  have n3 := below_cells (b := b8) hbb8 (rsV X).toList 0 v7 hw7
  refine Tail.skip rfl rfl (exec_store_row 37 (.tmp 8) (.tmp 31) rfl b8 0 (rsV X) rfl rfl (there_block hz8 (Nat.le_refl _)) hs37 (by simp [rsV, iV, Value.oneCell'])) n3 ?_
  simp only [List.getElem_toArray, List.getElem_cons_succ, List.getElem_cons_zero, Act.put, List.setIfInBounds_toArray, List.set_cons_zero, List.set_cons_succ]
  generalize v7.setCells b8 0 (rsV X).toList = w4 at *
  (refine Tail.value rfl rfl (by go_simp; with_reducible rfl) ?_; simp only [List.getElem_toArray, List.getElem_cons_succ, List.getElem_cons_zero, Act.put, List.setIfInBounds_toArray, List.set_cons_zero, List.set_cons_succ])
  refine Tail.done (NoPanic.normal ?_)
  clear hz8 hw7 hb7 hs37 hbb8
  clear v7
  have HB4 := Lib.hid (grow_to HB3.out n3)
  have N1 := Lib.hid n1
  clear n1 n3 HB3
  clear w3
  have HF : Hid (∀ w', Below w4.heap.size w4 w' → w'.cell? ⟨b8, 0, none⟩ = some (.int .i64 X.st) ∧ w'.cell? ⟨b8, 1, none⟩ = some (.int .i64 X.pk) ∧ w'.cell? ⟨b8, 2, none⟩ = some (.int .i64 X.ya) ∧ w'.cell? ⟨b8, 3, none⟩ = some (.int .i64 X.y) ∧ w'.cell? ⟨b8, 4, none⟩ = some (.int .i64 X.ma) ∧ w'.cell? ⟨b8, 5, none⟩ = some (.int .i64 X.pl) ∧ w'.cell? ⟨b8, 6, none⟩ = some (.int .i64 X.wk)) := Lib.hid fun w' h => by
    have y1 := (h.block _ (lt_of_block N1.out)).trans N1.out
    exact ⟨cell_of_row w' b8 0 _ _ _ y1, cell_of_row w' b8 1 _ _ _ y1, cell_of_row w' b8 2 _ _ _ y1, cell_of_row w' b8 3 _ _ _ y1, cell_of_row w' b8 4 _ _ _ y1, cell_of_row w' b8 5 _ _ _ y1, cell_of_row w' b8 6 _ _ _ y1⟩
  obtain ⟨d0, d1, d2, d3⟩ := HC.out w4 HB4.out
  go_wp2_with fail
  refine (H7.out _ (below_to HBW.out HB4.out)).mono ?_
  rintro e w5 ⟨rfl, hb5⟩
  have G5 := Lib.hid hb5
  clear hb5 d0 d1 d2 d3
  obtain ⟨d0, d1, d2, d3⟩ := HC.out w5 (grow_to HB4.out G5.out)
  go_wp2_with fail
  refine (H8.out _ (below_to HBW.out (grow_to HB4.out G5.out))).mono ?_
  rintro e w6 ⟨rfl, hb6⟩
  have G6 := Lib.hid (grow_to G5.out hb6)
  clear hb6 d0 d1 d2 d3 G5
  clear w5
  have hE1 : (E1 != E1) = false := by simp
  rcases H10.out with ⟨he, e1, e2⟩ | ⟨e0, e1, e2, e3⟩ | ⟨e0, e1, e2, HRR⟩
  · subst e1 e2
    have hne : (EE == 0) = false := by rw [beq_eq_false_iff_ne]; exact he
    have hne' : (EE != 0) = true := by rw [bne_iff_ne]; exact he
    have h37 : ∀ w, (binOp .eql 37 (.agg #[.int .i64 0, .int .i64 0, .int .i64 0, .int .i64 0, .int .i64 0, .int .i64 0, .int .i64 0]) (.agg #[.int .i64 0, .int .i64 0, .int .i64 0, .int .i64 0, .int .i64 0, .int .i64 0, .int .i64 0])).run Try.prog w = .ok (.bool true) w := eqr37 ⟨0, 0, 0, 0, 0, 0, 0⟩
    obtain ⟨f0, f1, f2, f3, f4, f5, f6⟩ := HF.out w6 G6.out
    try simp only at f0 f1 f2 f3 f4 f5 f6
    go_wp2_with fail
    refine (HA.out _).mono ?_
    rintro e w7 ⟨rfl, hb7⟩
    have hbf := below_to HBW.out (grow_to HB4.out (grow_to G6.out hb7))
    clear hb7 f0 f1 f2 f3 f4 f5 f6
    go_wp2
    go_ret
    exact ⟨rfl, hbf⟩
  · subst e0 e1 e2 e3
    have HIT := Lib.hid (H9.out (by first | rfl | trivial))
    obtain ⟨d0, d1, d2, d3⟩ := HC.out w6 (grow_to HB4.out G6.out)
    go_wp2_with fail
    refine (HIT.out _ (below_to HBW.out (grow_to HB4.out G6.out))).mono ?_
    rintro e w7 ⟨rfl, hb7⟩
    have G7 := Lib.hid (grow_to G6.out hb7)
    clear hb7 d0 d1 d2 d3
    have h37 : ∀ w, (binOp .eql 37 (.agg #[.int .i64 0, .int .i64 0, .int .i64 0, .int .i64 0, .int .i64 0, .int .i64 0, .int .i64 0]) (.agg #[.int .i64 0, .int .i64 0, .int .i64 0, .int .i64 0, .int .i64 0, .int .i64 0, .int .i64 0])).run Try.prog w = .ok (.bool true) w := eqr37 ⟨0, 0, 0, 0, 0, 0, 0⟩
    obtain ⟨f0, f1, f2, f3, f4, f5, f6⟩ := HF.out w7 G7.out
    try simp only at f0 f1 f2 f3 f4 f5 f6
    go_wp2_with fail
    refine (HA.out _).mono ?_
    rintro e w8 ⟨rfl, hb8⟩
    have hbf := below_to HBW.out (grow_to HB4.out (grow_to G7.out hb8))
    clear hb8 f0 f1 f2 f3 f4 f5 f6
    go_wp2
    go_ret
    exact ⟨rfl, hbf⟩
  · subst e0 e1 e2
    have HR := Lib.hid HRR
    clear HRR
    have HIT := Lib.hid (H9.out (by first | rfl | trivial))
    obtain ⟨d0, d1, d2, d3⟩ := HC.out w6 (grow_to HB4.out G6.out)
    go_wp2_with fail
    refine (HIT.out _ (below_to HBW.out (grow_to HB4.out G6.out))).mono ?_
    rintro e w7 ⟨rfl, hb7⟩
    have G7 := Lib.hid (grow_to G6.out hb7)
    clear hb7 d0 d1 d2 d3 G6
    clear w6
    go_wp2
    refine wp_region_noPanic ?_
    refine wp_region_chain (fun w' => Below w7.heap.size w7 w') (fun _ _ h hb => grow_to h hb) (below_drawn _) (by kernel_rfl) (fun _ _ _ _ _ h => h)
      [(false, 0), (false, 1), (false, 2), (false, 3), (false, 4), (false, 5), (false, 6), (true, 7), (true, 8), (false, 9), (false, 10), (false, 11), (true, 12), (false, 13)] [14] (by kernel_rfl) ?_
    iterate 7
      (refine Walk.takes rfl rfl ?_; apply Exists.intro; refine ⟨fun w' hS => ?_, ?_⟩; (obtain ⟨d0, d1, d2, d3⟩ := HC.out w' (grow_to HB4.out (grow_to G7.out hS)); obtain ⟨f0, f1, f2, f3, f4, f5, f6⟩ := HF.out w' (grow_to G7.out hS); clear hS; go_simp; with_reducible rfl); simp only [List.getElem_toArray, List.getElem_cons_succ, List.getElem_cons_zero, Act.put, List.setIfInBounds_toArray, List.set_cons_zero, List.set_cons_succ])
    refine Walk.calls rfl rfl ?_; apply Exists.intro; apply Exists.intro; refine ⟨fun w' hS => ?_, fun w' hba => ?_⟩; (clear hS; go_simp; exact ⟨rfl, rfl⟩)
    refine (HR.out w' (below_to HBW.out (grow_to HB4.out (grow_to G7.out (grow_to (below_drawn _) hba))))).mono ?_
    rintro e u1 ⟨rfl, hbb⟩
    refine ⟨_, rfl, hbb, ?_⟩
    simp only [List.getElem_toArray, List.getElem_cons_succ, List.getElem_cons_zero, Act.put, List.setIfInBounds_toArray, List.set_cons_zero, List.set_cons_succ]
    clear hba hbb
    refine Walk.calls rfl rfl ?_; apply Exists.intro; apply Exists.intro; refine ⟨fun w' hS => ?_, fun w' hba => ?_⟩; (clear hS; go_simp; exact ⟨rfl, rfl⟩)
    refine (result_any X w').mono ?_
    rintro e u2 ⟨rfl, hbb⟩
    refine ⟨_, rfl, hbb, ?_⟩
    simp only [List.getElem_toArray, List.getElem_cons_succ, List.getElem_cons_zero, Act.put, List.setIfInBounds_toArray, List.set_cons_zero, List.set_cons_succ]
    clear hba hbb
    rw [show rsV X = #[.int .i64 X.st, .int .i64 X.pk, .int .i64 X.ya, .int .i64 X.y, .int .i64 X.ma, .int .i64 X.pl, .int .i64 X.wk] from rfl]
    have h37 : ∀ w, (binOp .eql 37 (.agg #[.int .i64 X.st, .int .i64 X.pk, .int .i64 X.ya, .int .i64 X.y, .int .i64 X.ma, .int .i64 X.pl, .int .i64 X.wk]) (.agg #[.int .i64 X.st, .int .i64 X.pk, .int .i64 X.ya, .int .i64 X.y, .int .i64 X.ma, .int .i64 X.pl, .int .i64 X.wk])).run Try.prog w = .ok (.bool true) w := eqr37 X
    iterate 3
      (refine Walk.takes rfl rfl ?_; apply Exists.intro; refine ⟨fun w' hS => ?_, ?_⟩; (clear hS; go_simp; with_reducible rfl); simp only [List.getElem_toArray, List.getElem_cons_succ, List.getElem_cons_zero, Act.put, List.setIfInBounds_toArray, List.set_cons_zero, List.set_cons_succ])
    refine Walk.calls rfl rfl ?_; apply Exists.intro; apply Exists.intro; refine ⟨fun w' hS => ?_, fun w' hba => ?_⟩; (clear hS; go_simp; exact ⟨rfl, rfl⟩)
    refine (HA.out w').mono ?_
    rintro e u3 ⟨rfl, hbb⟩
    refine ⟨_, rfl, hbb, ?_⟩
    simp only [List.getElem_toArray, List.getElem_cons_succ, List.getElem_cons_zero, Act.put, List.setIfInBounds_toArray, List.set_cons_zero, List.set_cons_succ]
    clear hba hbb
    (refine Walk.takes rfl rfl ?_; apply Exists.intro; refine ⟨fun w' hS => ?_, ?_⟩; (clear hS; go_simp; with_reducible rfl); simp only [List.getElem_toArray, List.getElem_cons_succ, List.getElem_cons_zero, Act.put, List.setIfInBounds_toArray, List.set_cons_zero, List.set_cons_succ])
    refine Walk.fin fun w8 hb8 hS8 => ?_
    (refine Tail.value rfl rfl (by go_simp; with_reducible rfl) ?_; simp only [List.getElem_toArray, List.getElem_cons_succ, List.getElem_cons_zero, Act.put, List.setIfInBounds_toArray, List.set_cons_zero, List.set_cons_succ])
    refine Tail.done (NoPanic.normal ?_)
    have hbf := below_to HBW.out (grow_to HB4.out (grow_to G7.out hS8))
    clear hb8 hS8
    go_wp2
    go_ret
    exact ⟨rfl, hbf⟩
end Go.Proofs.Ytfjlnejeffkdoaa
