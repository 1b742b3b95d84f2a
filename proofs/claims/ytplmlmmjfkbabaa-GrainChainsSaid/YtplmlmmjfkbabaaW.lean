/- The ranges of all pictures, and which may be the finest: contracts. Conditions: at most eight pictures, and nothing is great. -/
import Derived.Test.YtplmlmmjfkbabaaV
namespace Go.Proofs.Ytplmlmmjfkbabaa
open Go.RowKit Go.Shelf
attribute [local irreducible] arrV wpQuiet mat shl

set_option maxRecDepth 100000 in
set_option maxHeartbeats 4000000 in
theorem grade_any (n : Int) (v : Value) (d : Dm) (p : Nat) (w : World) (hp : p < 8) (hd : Mid d) :
    Calls Try.prog 73 #[.agg (shl n v d), .int .i64 p] w fun e w' => e = .returned (.agg #[.int .i64 (-d (p + 1) 0), .int .i64 (d 0 (p + 1))]) ∧ Below w.heap.size w w' := by
  have HX := Lib.hid (box2 w (.cells (shl n v d) 85) (.cells #[.int .i64 0, .int .i64 0] 41))
  have HB := Lib.hid (below2 w (.cells (shl n v d) 85) (.cells #[.int .i64 0, .int .i64 0] 41))
  have hdi := fun w => difference_any n v d p (-1) w (by omega) (by omega) hd
  rw [pl_nat, pl_chart] at hdi
  have HDI := Lib.hid hdi
  clear hdi hd
  go_enter Try.func73, Try.ntmps73
  go_wp2_with (first
    | (refine wpList_load_sh rfl (.tmp 2) rfl w.heap.size rfl 85 n v d HX.out.1 ?_)
    | fail)
  generalize World.alloc (World.alloc w _) _ = W at *
  refine (HDI.out _).mono ?_
  rintro e w1 ⟨rfl, hb1⟩
  have hx1 := (hb1.block _ (lt_of_block HX.out.2)).trans HX.out.2
  have HX1 := Lib.hid hx1
  have HB1 := Lib.hid (below_to HB.out hb1)
  have k0 := cell_of_row w1 (w.heap.size + 1) 0 _ _ _ hx1
  have k1 := cell_of_row w1 (w.heap.size + 1) 1 _ _ _ hx1
  simp only [List.getElem?_toArray, List.getElem?_cons_zero, List.getElem?_cons_succ] at k0 k1
  have f0 := frozen_of_row w1 (w.heap.size + 1) 0 _ _ hx1
  have f1 := frozen_of_row w1 (w.heap.size + 1) 1 _ _ hx1
  have l1 := lt_of_block hx1
  clear hb1 hx1 HX HB
  go_wp2
  refine bodyPost_ret (v := .agg #[.int .i64 (-d (p + 1) 0), .int .i64 (d 0 (p + 1))]) ?_ rfl ⟨rfl, (HB1.out.setCell (p := ⟨w.heap.size + 1, 0, none⟩) (by show w.heap.size ≤ w.heap.size + 1; omega) _).setCell (p := ⟨w.heap.size + 1, 1, none⟩) (by show w.heap.size ≤ w.heap.size + 1; omega) _⟩
  simp [results, Try.results73, go_sem, *]

theorem wpList_field41 {ops : Array Oper} {rest : List Oper} {o : Oper} {a : Act} {Q : Exit → Act → World → Prop} {w : World} (hgd : o.guard = none) (x : Operand) (ho : o.op = .field 41 x 1) (X Y : Int) (hx : a.eval x = .agg #[.int .i64 X, .int .i64 Y])
    (h : wpList Try.prog ops Q rest (a.put o.dst (.int .i64 Y)) w) : wpList Try.prog ops Q (o :: rest) a w := by
  have hr : (execOp a.eval o).run Try.prog w = .ok (.value (.int .i64 Y)) w := by
    have h1 : (Instr.field 41 (.agg #[.int .i64 X, .int .i64 Y]) 1).run Try.prog w = .ok (.int .i64 Y) w := by simp [Instr.field, go_sem, asAgg]
    unfold execOp
    simp only [ho, hx, Sem.run_bind, h1, Result.andThen_ok]
    rfl
  refine wpList_plain hgd fun K hK => ?_
  unfold Oper.wp
  rw [hr]
  exact hK _ _ h
theorem finB_no {d : Dm} {n p q : Nat} (hq : q < n) (h : d (q + 1) (p + 1) < 0) : finB d n p = false := by
  rw [Bool.eq_false_iff]
  intro hc
  simp only [finB, List.all_eq_true, List.mem_range, decide_eq_true_eq] at hc
  have := hc q hq
  omega
theorem finB_yes {d : Dm} {n p : Nat} (h : ∀ q, q < n → 0 ≤ d (q + 1) (p + 1)) : finB d n p = true := by simpa [finB] using h

set_option maxRecDepth 100000 in
set_option maxHeartbeats 4000000 in
theorem mayBe_any (n : Nat) (v : Value) (d : Dm) (p : Nat) (w : World) (hn : n ≤ 8) (hp : p < 8) (hd : Mid d) :
    Calls Try.prog 78 #[.agg (shl n v d), .int .i64 p] w fun e w' => e = .returned (.bool (finB d n p)) ∧ Below w.heap.size w w' := by
  have HX := Lib.hid (heap_alloc_new w (.cells (shl n v d) 85))
  have HB := Lib.hid (box_below w (.cells (shl n v d) 85))
  have hdi := fun (q : Nat) w (h : q < 8) => difference_any n v d p q w (by omega) (by omega) hd
  simp only [pl_nat] at hdi
  have HDI := Lib.hid hdi
  have HN := Lib.hid fun q hq h => @finB_no d n p q hq h
  have HY := Lib.hid (@finB_yes d n p)
  clear hdi hd
  have c0 := (cell_of_row _ w.heap.size 0 _ _ _ HX.out).trans (shl_0 n v d)
  have l0 := lt_of_block HX.out
  generalize finB d n p = F at *
  go_enter Try.func78, Try.ntmps78
  go_wp2
  generalize World.alloc w _ = W at *
  clear c0 l0
  go_loopw [9] (fun i wr => ∃ q : Nat, q ≤ n ∧ i = .int .i64 q ∧ Hid (wr.heap[w.heap.size]? = some (.cells (shl n v d) 85 (0, 0))) ∧ Hid (∀ j, j < q → 0 ≤ d (j + 1) (p + 1)) ∧ Hid (Below w.heap.size w wr)) (fun i _ => n - (intOf i).toNat)
  case atStart => exact ⟨0, Nat.zero_le _, rfl, HX, Lib.hid fun j hj => by omega, HB⟩
  case round =>
    clear HX HB
    obtain ⟨q, hq, rfl, HX, hg, HB⟩ := hrel
    by_cases hlt : q < n
    · have hqn : (q : Int) < n := by omega
      have hw9 : IntKind.i64.wrap ((q : Int) + 1) = (q : Int) + 1 := IntWalk.i64_in _ (by omega)
      have HCA := Lib.hid (HDI.out q wr (by omega))
      have HNQ := Lib.hid (HN.out q hlt)
      have HG := Lib.hid fun (h : 0 ≤ d (q + 1) (p + 1)) j (hj : j < q + 1) => show 0 ≤ d (j + 1) (p + 1) by
        by_cases e : j = q
        · subst e; exact h
        · exact hg.out j (by omega)
      clear hg
      go_wp2_with (first
        | (refine wpList_load_sh rfl (.tmp 2) rfl w.heap.size rfl 85 n v d HX.out ?_)
        | fail)
      refine HCA.out.mono ?_
      rintro e w1 ⟨rfl, hb1⟩
      have HX1 := Lib.hid ((hb1.block _ (lt_of_block HX.out)).trans HX.out)
      have HB1 := Lib.hid (below_to HB.out hb1)
      clear hb1 HX HB HCA
      by_cases hd0 : d (q + 1) (p + 1) < 0
      · have hd1 : decide (d (q + 1) (p + 1) < 0) = true := decide_eq_true hd0
        have HF := Lib.hid (HNQ.out hd0)
        clear hd0
        go_wp2_with (first | (refine wpList_field41 rfl (.tmp 15) rfl _ _ rfl ?_) | fail)
        go_ret
        exact ⟨by rw [HF.out]; rfl, HB1.out⟩
      · have hd1 : decide (d (q + 1) (p + 1) < 0) = false := decide_eq_false hd0
        have HG1 := Lib.hid (HG.out (by omega))
        clear hd0 HG
        go_wp2_with (first | (refine wpList_field41 rfl (.tmp 15) rfl _ _ rfl ?_) | fail)
        go_roundw
        case rel => exact ⟨q + 1, by omega, by simp, HX1, HG1, HB1⟩
        case measure => simp [intOf]; omega
    · obtain rfl : q = n := by omega
      have HF := Lib.hid (HY.out hg.out)
      go_wp2
      go_ret
      exact ⟨by rw [HF.out]; rfl, HB.out⟩
end Go.Proofs.Ytplmlmmjfkbabaa
