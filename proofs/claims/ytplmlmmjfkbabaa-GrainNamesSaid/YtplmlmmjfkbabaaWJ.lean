/- What a shelf tells of pictures: contracts. Conditions: the pictures are there, and nothing is great. The ranges of all pictures, and which may be the finest: contracts. Conditions: at most eight pictures, and nothing is great. -/
import Derived.Test.YtplmlmmjfkbabaaP
namespace Go.Proofs.Ytplmlmmjfkbabaa
open Go.RowKit Go.Shelf
attribute [local irreducible] arrV wpQuiet mat shl

theorem pl_nat (p : Nat) : pl (p : Int) = p + 1 := by unfold pl; omega
theorem pl_chart : pl (-1) = 0 := rfl
theorem u41 : ∃ fs, Try.prog.underlying 41 = some (.struct fs) := ⟨_, Try.underlying41⟩
theorem s41 : (Try.prog.info? 41).map (·.size) = some 2 := by kernel_rfl

set_option maxRecDepth 100000 in
set_option maxHeartbeats 4000000 in
theorem difference_any (n : Int) (v : Value) (d : Dm) (p q : Int) (w : World) (hp : -1 ≤ p ∧ p < 8) (hq : -1 ≤ q ∧ q < 8) (hd : Mid d) :
    Calls Try.prog 52 #[.agg (shl n v d), .int .i64 p, .int .i64 q] w fun e w' => e = .returned (.agg #[.int .i64 (-d (pl p) (pl q)), .int .i64 (d (pl q) (pl p))]) ∧ Below w.heap.size w w' := by
  have HX := Lib.hid (box2 w (.cells (shl n v d) 85) (.cells #[.int .i64 0, .int .i64 0] 41))
  have HB := Lib.hid (below2 w (.cells (shl n v d) 85) (.cells #[.int .i64 0, .int .i64 0] 41))
  have HPF := Lib.hid fun w => place_any p w (by omega)
  have HPT := Lib.hid fun w => place_any q w (by omega)
  have hpf : pl p < 9 := by unfold pl; omega
  have hpt : pl q < 9 := by unfold pl; omega
  have hd1 := hd _ _ hpf hpt
  have hG1 := Lib.hid (shl_get n v d hpf hpt)
  have hG2 := Lib.hid (shl_get n v d hpt hpf)
  clear hp hq hd
  generalize pl p = F at *
  generalize pl q = T at *
  have hFn : (F : Int) < 9 := by omega
  have hTn : (T : Int) < 9 := by omega
  generalize d T F = Y at *
  generalize d F T = X at *
  have hwx : IntKind.i64.wrap (-X) = -X := IntWalk.i64_in _ (by omega)
  go_enter Try.func52, Try.ntmps52
  go_wp2
  generalize World.alloc (World.alloc w _) _ = W at *
  have HC : Hid (∀ w', (But (fun k => k = w.heap.size + 1) W w' ∧ w'.heap[w.heap.size]? = W.heap[w.heap.size]?) → w'.cell? ⟨w.heap.size, 2 + F * 9 + T, none⟩ = some (.int .i64 X) ∧ w'.cell? ⟨w.heap.size, 2 + T * 9 + F, none⟩ = some (.int .i64 Y) ∧ w.heap.size < w'.heap.size) := Lib.hid fun w' h => by
    have z := h.2.trans HX.out.1
    exact ⟨(cell_of_row w' w.heap.size _ _ _ _ z).trans hG1.out, (cell_of_row w' w.heap.size _ _ _ _ z).trans hG2.out, lt_of_block z⟩
  clear hG1 hG2 hd1
  have hlt1 := lt_of_block HX.out.2
  refine wp_region_noPanic ?_
  refine wp_region_chain (fun w' => But (fun k => k = w.heap.size + 1) W w' ∧ w'.heap[w.heap.size]? = W.heap[w.heap.size]?) (fun w1 w2 h hb => ⟨h.1.trans (But.of_below hb), (hb.block _ (by have := h.1.size; omega)).trans h.2⟩) ⟨But.of_below (below_drawn _), rfl⟩ (by kernel_rfl) (fun _ _ _ _ _ h => h)
    [(false, 0), (false, 2), (false, 4), (false, 9), (false, 11), (false, 13), (true, 1), (false, 5), (true, 3), (false, 6), (false, 7), (false, 8), (true, 10), (false, 14), (true, 12), (false, 15), (false, 16), (false, 17)] [18] (by kernel_rfl) ?_
  have hacc := below_drawn W
  iterate 6
    (refine Walk.takes rfl rfl ?_; apply Exists.intro; refine ⟨fun w' hS => ?_, ?_⟩; (obtain ⟨z1, z2, z3⟩ := HC.out w' hS; clear hS; go_simp; with_reducible rfl); simp only [List.getElem_toArray, List.getElem_cons_succ, List.getElem_cons_zero, Act.put, List.setIfInBounds_toArray, List.set_cons_zero, List.set_cons_succ])
  refine Walk.calls rfl rfl ?_; apply Exists.intro; apply Exists.intro; refine ⟨fun w' hS => ?_, fun v1 hb => ?_⟩; (clear hS; go_simp; exact ⟨rfl, rfl⟩)
  refine (HPF.out v1).mono ?_
  rintro e v2 ⟨rfl, hb2⟩
  refine ⟨_, rfl, hb2, ?_⟩
  simp only [List.getElem_toArray, List.getElem_cons_succ, List.getElem_cons_zero, Act.put, List.setIfInBounds_toArray, List.set_cons_zero, List.set_cons_succ]
  replace hacc := below_to (below_to hacc hb) hb2
  clear hb hb2
  iterate 1
    (refine Walk.takes rfl rfl ?_; apply Exists.intro; refine ⟨fun w' hS => ?_, ?_⟩; (obtain ⟨z1, z2, z3⟩ := HC.out w' hS; clear hS; go_simp; with_reducible rfl); simp only [List.getElem_toArray, List.getElem_cons_succ, List.getElem_cons_zero, Act.put, List.setIfInBounds_toArray, List.set_cons_zero, List.set_cons_succ])
  refine Walk.calls rfl rfl ?_; apply Exists.intro; apply Exists.intro; refine ⟨fun w' hS => ?_, fun v1 hb => ?_⟩; (clear hS; go_simp; exact ⟨rfl, rfl⟩)
  refine (HPT.out v1).mono ?_
  rintro e v2 ⟨rfl, hb2⟩
  refine ⟨_, rfl, hb2, ?_⟩
  simp only [List.getElem_toArray, List.getElem_cons_succ, List.getElem_cons_zero, Act.put, List.setIfInBounds_toArray, List.set_cons_zero, List.set_cons_succ]
  replace hacc := below_to (below_to hacc hb) hb2
  clear hb hb2
  iterate 3
    (refine Walk.takes rfl rfl ?_; apply Exists.intro; refine ⟨fun w' hS => ?_, ?_⟩; (obtain ⟨z1, z2, z3⟩ := HC.out w' hS; clear hS; go_simp; with_reducible rfl); simp only [List.getElem_toArray, List.getElem_cons_succ, List.getElem_cons_zero, Act.put, List.setIfInBounds_toArray, List.set_cons_zero, List.set_cons_succ])
  refine Walk.calls rfl rfl ?_; apply Exists.intro; apply Exists.intro; refine ⟨fun w' hS => ?_, fun v1 hb => ?_⟩; (clear hS; go_simp; exact ⟨rfl, rfl⟩)
  refine (HPT.out v1).mono ?_
  rintro e v2 ⟨rfl, hb2⟩
  refine ⟨_, rfl, hb2, ?_⟩
  simp only [List.getElem_toArray, List.getElem_cons_succ, List.getElem_cons_zero, Act.put, List.setIfInBounds_toArray, List.set_cons_zero, List.set_cons_succ]
  replace hacc := below_to (below_to hacc hb) hb2
  clear hb hb2
  iterate 1
    (refine Walk.takes rfl rfl ?_; apply Exists.intro; refine ⟨fun w' hS => ?_, ?_⟩; (obtain ⟨z1, z2, z3⟩ := HC.out w' hS; clear hS; go_simp; with_reducible rfl); simp only [List.getElem_toArray, List.getElem_cons_succ, List.getElem_cons_zero, Act.put, List.setIfInBounds_toArray, List.set_cons_zero, List.set_cons_succ])
  refine Walk.calls rfl rfl ?_; apply Exists.intro; apply Exists.intro; refine ⟨fun w' hS => ?_, fun v1 hb => ?_⟩; (clear hS; go_simp; exact ⟨rfl, rfl⟩)
  refine (HPF.out v1).mono ?_
  rintro e v2 ⟨rfl, hb2⟩
  refine ⟨_, rfl, hb2, ?_⟩
  simp only [List.getElem_toArray, List.getElem_cons_succ, List.getElem_cons_zero, Act.put, List.setIfInBounds_toArray, List.set_cons_zero, List.set_cons_succ]
  replace hacc := below_to (below_to hacc hb) hb2
  clear hb hb2
  iterate 3
    (refine Walk.takes rfl rfl ?_; apply Exists.intro; refine ⟨fun w' hS => ?_, ?_⟩; (obtain ⟨z1, z2, z3⟩ := HC.out w' hS; clear hS; go_simp; with_reducible rfl); simp only [List.getElem_toArray, List.getElem_cons_succ, List.getElem_cons_zero, Act.put, List.setIfInBounds_toArray, List.set_cons_zero, List.set_cons_succ])
  refine Walk.fin fun v6 hb6 hS6 => ?_
  have hb7 := below_to hacc hb6
  have hx7 := (hb7.block _ hlt1).trans HX.out.2
  have hS8 : But (fun k => k = w.heap.size + 1) W (v6.setCells (w.heap.size + 1) 0 [.int .i64 (-X), .int .i64 Y]) := (put_cells _ _ _ _).but hS6.1 (.inl rfl)
  refine Tail.skip rfl rfl (exec_store_row 41 (.tmp 6) (.tmp 24) rfl (w.heap.size + 1) 0 #[.int .i64 (-X), .int .i64 Y] rfl rfl (there_block hx7 (Nat.le_refl _)) s41 (by simp [Value.oneCell'])) ⟨hS8, (heap_cells _ _ _ _ _ (by omega)).trans hS6.2⟩ (Tail.done (NoPanic.normal ?_))
  have q9 := set_whole (w.heap.size + 1) 41 v6 #[.int .i64 0, .int .i64 0] #[.int .i64 (-X), .int .i64 Y] rfl hx7
  have hb9 := (put_cells (w.heap.size + 1) 0 [Value.int .i64 (-X), .int .i64 Y] v6).below (below_to HB.out hb7) (by omega)
  have Q9 := Lib.hid q9
  have HB9 := Lib.hid hb9
  clear hb6 hS6 hb7 hx7 hS8 hacc q9 hb9
  simp only [Array.toList] at Q9 HB9 ⊢
  generalize World.setCells v6 _ _ _ = w9 at *
  go_wp2
  exact bodyPost_ret (results_cell_row rfl _ _ (w.heap.size + 1) 41 _ _ _ rfl Q9.out Try.underlying41 rfl s41) rfl ⟨rfl, HB9.out⟩
end Go.Proofs.Ytplmlmmjfkbabaa
namespace Go.Proofs.Ytplmlmmjfkbabaa
open Go.RowKit Go.Shelf
attribute [local irreducible] arrV wpQuiet mat shl

set_option maxRecDepth 100000 in
set_option maxHeartbeats 4000000 in
theorem grade_any (n : Int) (v : Value) (d : Dm) (p : Nat) (w : World) (hp : p < 8) (hd : Mid d) :
    Calls Try.prog 73 #[.agg (shl n v d), .int .i64 p] w fun e w' => e = .returned (.agg #[.int .i64 (-d (p + 1) 0), .int .i64 (d 0 (p + 1))]) ∧ Below w.heap.size w w' := by
  have HX := Lib.hid (box2 w (.cells (shl n v d) 85) (.cells #[.int .i64 0, .int .i64 0] 41))
  have HB := Lib.hid (below2 w (.cells (shl n v d) 85) (.cells #[.int .i64 0, .int .i64 0] 41))
  have hdi := fun w => difference_any n v d p (-1) w (by omega) (by omega) hd
  rw [pl_nat, pl_chart] at hdi
  have HDI := Lib.hid hdi
  clear hdi hd
  go_enter Try.func73, Try.ntmps73
  go_wp2_with (first
    | (refine wpList_load_sh rfl (.tmp 2) rfl w.heap.size rfl 85 n v d HX.out.1 ?_)
    | fail)
  generalize World.alloc (World.alloc w _) _ = W at *
  refine (HDI.out _).mono ?_
  rintro e w1 ⟨rfl, hb1⟩
  have hx1 := (hb1.block _ (lt_of_block HX.out.2)).trans HX.out.2
  have HX1 := Lib.hid hx1
  have HB1 := Lib.hid (below_to HB.out hb1)
  have k0 := cell_of_row w1 (w.heap.size + 1) 0 _ _ _ hx1
  have k1 := cell_of_row w1 (w.heap.size + 1) 1 _ _ _ hx1
  simp only [List.getElem?_toArray, List.getElem?_cons_zero, List.getElem?_cons_succ] at k0 k1
  have f0 := frozen_of_row w1 (w.heap.size + 1) 0 _ _ hx1
  have f1 := frozen_of_row w1 (w.heap.size + 1) 1 _ _ hx1
  have l1 := lt_of_block hx1
  clear hb1 hx1 HX HB
  go_wp2
  refine bodyPost_ret (v := .agg #[.int .i64 (-d (p + 1) 0), .int .i64 (d 0 (p + 1))]) ?_ rfl ⟨rfl, (HB1.out.setCell (p := ⟨w.heap.size + 1, 0, none⟩) (by show w.heap.size ≤ w.heap.size + 1; omega) _).setCell (p := ⟨w.heap.size + 1, 1, none⟩) (by show w.heap.size ≤ w.heap.size + 1; omega) _⟩
  simp [results, Try.results73, go_sem, *]

theorem wpList_field41 {ops : Array Oper} {rest : List Oper} {o : Oper} {a : Act} {Q : Exit → Act → World → Prop} {w : World} (hgd : o.guard = none) (x : Operand) (ho : o.op = .field 41 x 1) (X Y : Int) (hx : a.eval x = .agg #[.int .i64 X, .int .i64 Y])
    (h : wpList Try.prog ops Q rest (a.put o.dst (.int .i64 Y)) w) : wpList Try.prog ops Q (o :: rest) a w := by
  have hr : (execOp a.eval o).run Try.prog w = .ok (.value (.int .i64 Y)) w := by
    have h1 : (Instr.field 41 (.agg #[.int .i64 X, .int .i64 Y]) 1).run Try.prog w = .ok (.int .i64 Y) w := by simp [Instr.field, go_sem, asAgg]
    unfold execOp
    simp only [ho, hx, Sem.run_bind, h1, Result.andThen_ok]
    rfl
  refine wpList_plain hgd fun K hK => ?_
  unfold Oper.wp
  rw [hr]
  exact hK _ _ h
theorem finB_no {d : Dm} {n p q : Nat} (hq : q < n) (h : d (q + 1) (p + 1) < 0) : finB d n p = false := by
  rw [Bool.eq_false_iff]
  intro hc
  simp only [finB, List.all_eq_true, List.mem_range, decide_eq_true_eq] at hc
  have := hc q hq
  omega
theorem finB_yes {d : Dm} {n p : Nat} (h : ∀ q, q < n → 0 ≤ d (q + 1) (p + 1)) : finB d n p = true := by simpa [finB] using h

set_option maxRecDepth 100000 in
set_option maxHeartbeats 4000000 in
theorem mayBe_any (n : Nat) (v : Value) (d : Dm) (p : Nat) (w : World) (hn : n ≤ 8) (hp : p < 8) (hd : Mid d) :
    Calls Try.prog 78 #[.agg (shl n v d), .int .i64 p] w fun e w' => e = .returned (.bool (finB d n p)) ∧ Below w.heap.size w w' := by
  have HX := Lib.hid (heap_alloc_new w (.cells (shl n v d) 85))
  have HB := Lib.hid (box_below w (.cells (shl n v d) 85))
  have hdi := fun (q : Nat) w (h : q < 8) => difference_any n v d p q w (by omega) (by omega) hd
  simp only [pl_nat] at hdi
  have HDI := Lib.hid hdi
  have HN := Lib.hid fun q hq h => @finB_no d n p q hq h
  have HY := Lib.hid (@finB_yes d n p)
  clear hdi hd
  have c0 := (cell_of_row _ w.heap.size 0 _ _ _ HX.out).trans (shl_0 n v d)
  have l0 := lt_of_block HX.out
  generalize finB d n p = F at *
  go_enter Try.func78, Try.ntmps78
  go_wp2
  generalize World.alloc w _ = W at *
  clear c0 l0
  go_loopw [9] (fun i wr => ∃ q : Nat, q ≤ n ∧ i = .int .i64 q ∧ Hid (wr.heap[w.heap.size]? = some (.cells (shl n v d) 85 (0, 0))) ∧ Hid (∀ j, j < q → 0 ≤ d (j + 1) (p + 1)) ∧ Hid (Below w.heap.size w wr)) (fun i _ => n - (intOf i).toNat)
  case atStart => exact ⟨0, Nat.zero_le _, rfl, HX, Lib.hid fun j hj => by omega, HB⟩
  case round =>
    clear HX HB
    obtain ⟨q, hq, rfl, HX, hg, HB⟩ := hrel
    by_cases hlt : q < n
    · have hqn : (q : Int) < n := by omega
      have hw9 : IntKind.i64.wrap ((q : Int) + 1) = (q : Int) + 1 := IntWalk.i64_in _ (by omega)
      have HCA := Lib.hid (HDI.out q wr (by omega))
      have HNQ := Lib.hid (HN.out q hlt)
      have HG := Lib.hid fun (h : 0 ≤ d (q + 1) (p + 1)) j (hj : j < q + 1) => show 0 ≤ d (j + 1) (p + 1) by
        by_cases e : j = q
        · subst e; exact h
        · exact hg.out j (by omega)
      clear hg
      go_wp2_with (first
        | (refine wpList_load_sh rfl (.tmp 2) rfl w.heap.size rfl 85 n v d HX.out ?_)
        | fail)
      refine HCA.out.mono ?_
      rintro e w1 ⟨rfl, hb1⟩
      have HX1 := Lib.hid ((hb1.block _ (lt_of_block HX.out)).trans HX.out)
      have HB1 := Lib.hid (below_to HB.out hb1)
      clear hb1 HX HB HCA
      by_cases hd0 : d (q + 1) (p + 1) < 0
      · have hd1 : decide (d (q + 1) (p + 1) < 0) = true := decide_eq_true hd0
        have HF := Lib.hid (HNQ.out hd0)
        clear hd0
        go_wp2_with (first | (refine wpList_field41 rfl (.tmp 15) rfl _ _ rfl ?_) | fail)
        go_ret
        exact ⟨by rw [HF.out]; rfl, HB1.out⟩
      · have hd1 : decide (d (q + 1) (p + 1) < 0) = false := decide_eq_false hd0
        have HG1 := Lib.hid (HG.out (by omega))
        clear hd0 HG
        go_wp2_with (first | (refine wpList_field41 rfl (.tmp 15) rfl _ _ rfl ?_) | fail)
        go_roundw
        case rel => exact ⟨q + 1, by omega, by simp, HX1, HG1, HB1⟩
        case measure => simp [intOf]; omega
    · obtain rfl : q = n := by omega
      have HF := Lib.hid (HY.out hg.out)
      go_wp2
      go_ret
      exact ⟨by rw [HF.out]; rfl, HB.out⟩
end Go.Proofs.Ytplmlmmjfkbabaa
