/- Whether the law plays a round: contracts. No condition. -/
import Derived.Test.YtpdkgnfblnblbaaLB
namespace Go.Proofs.Ytpdkgnfblnblbaa
open Go.RowKit Go.Shelf
attribute [local irreducible] arrV wpQuiet
theorem thin_no {R : Rd} {q : Nat} (hq : q < R.labs.length) (h : ¬ (lb R.labs q).rs.length ≤ 10) : thinB R = false := by
  rw [Bool.eq_false_iff]
  intro h2
  simp only [thinB, Bool.and_eq_true, List.all_eq_true, decide_eq_true_eq] at h2
  exact h (h2.1.1.1 _ (lb_mem hq))
theorem thin_end {R : Rd} (h : R.labs.length ≤ 9 → ∀ j, j < R.labs.length → (lb R.labs j).rs.length ≤ 10) : thinB R = (decide (R.lots.length ≤ 6) && decide (R.smp.length ≤ 10) && decide (R.labs.length ≤ 8)) := by
  rw [Bool.eq_iff_iff]
  simp only [thinB, Bool.and_eq_true, List.all_eq_true, decide_eq_true_eq]
  constructor
  · rintro ⟨⟨⟨_, h1⟩, h2⟩, h3⟩
    exact ⟨⟨h1, h2⟩, h3⟩
  · rintro ⟨⟨h1, h2⟩, h3⟩
    refine ⟨⟨⟨fun x hx => ?_, h1⟩, h2⟩, h3⟩
    obtain ⟨q, hq, rfl⟩ := List.getElem_of_mem hx
    simpa [lb, hq] using h (by omega) q hq
theorem ready_thin {R : Rd} (h : thinB R = false) : readyB R = false := by
  refine decide_eq_false fun h2 => ?_
  have hR := err_ok h2
  have : thinB R = true := by
    simp only [thinB, Bool.and_eq_true, List.all_eq_true, decide_eq_true_eq]
    refine ⟨⟨⟨fun x hx => ?_, ?_⟩, ?_⟩, ?_⟩
    · have := hR.len x hx
      have := hR.s8
      omega
    · have := hR.l4
      omega
    · have := hR.s8
      omega
    · have := hR.k6
      omega
  rw [h] at this
  cases this
theorem thin_len {R : Rd} (h : thinB R = true) : ∀ x ∈ R.labs, x.rs.length ≤ maxLen := fun x hx => by
  simp only [thinB, Bool.and_eq_true, List.all_eq_true, decide_eq_true_eq] at h
  have := h.1.1.1 x hx
  unfold maxLen
  omega
theorem readyB_ok {R : Rd} (h : readyB R = true) : errR R = 0 ∧ RdOk R := ⟨of_decide_eq_true h, err_ok (of_decide_eq_true h)⟩

set_option maxRecDepth 100000 in
set_option maxHeartbeats 4000000 in
theorem Thin_any (n : Nat) (p : Rp) (R : Rd) (w : World) (hV : RdV n w p R) (hn : n ≤ w.heap.size) :
    Calls Try.prog 42 #[rdV p R] w fun e w' => e = .returned (.bool (thinB R)) ∧ Below w.heap.size w w' := by
  obtain ⟨h1, h2, h3⟩ := hV
  obtain ⟨pla, plc, psa, psc, pba, pbc⟩ := p
  obtain ⟨za, zc, e, hB⟩ := h3
  unfold labsV at e
  obtain ⟨rfl, -, rfl⟩ : pba = za ∧ True ∧ pbc = zc := by cases e; exact ⟨rfl, trivial, rfl⟩
  have HBL := Lib.hid hB
  have T0 := Lib.hid fun q => @thin_no R q
  have T1 := Lib.hid (@thin_end R)
  have HX := Lib.hid (heap_alloc_new w (.cells #[.slice pla R.lots.length plc, .slice psa R.smp.length psc, .int .i64 R.sp, .slice pba R.labs.length pbc] 26))
  have HB := Lib.hid (box_below w (.cells #[.slice pla R.lots.length plc, .slice psa R.smp.length psc, .int .i64 R.sp, .slice pba R.labs.length pbc] 26))
  clear hB h1 h2 e
  unfold rdV
  generalize thinB R = F at *
  go_enter Try.func42, Try.ntmps42
  go_wp2_with fail
  generalize World.alloc w _ = W at *
  go_loopw [3] (fun i wr => ∃ q : Nat, q ≤ R.labs.length ∧ q ≤ 9 ∧ i = .int .i64 q ∧ Hid (∀ j, j < q → (lb R.labs j).rs.length ≤ 10) ∧ Hid (wr.heap[w.heap.size]? = some (.cells #[.slice pla R.lots.length plc, .slice psa R.smp.length psc, .int .i64 R.sp, .slice pba R.labs.length pbc] 26 (0, 0))) ∧ Hid (Below w.heap.size w wr)) (fun i _ => R.labs.length - (intOf i).toNat)
  case atStart => exact ⟨0, Nat.zero_le _, Nat.zero_le _, rfl, Lib.hid (fun j hj => by omega), HX, HB⟩
  case round =>
    clear HX HB
    obtain ⟨q, hq, hq9, rfl, HG, HX, HB⟩ := hrel
    have a0 := cell_of_row wr w.heap.size 0 _ _ _ HX.out
    have a1 := cell_of_row wr w.heap.size 1 _ _ _ HX.out
    have a2 := cell_of_row wr w.heap.size 2 _ _ _ HX.out
    have a3 := cell_of_row wr w.heap.size 3 _ _ _ HX.out
    simp only [List.getElem?_toArray, List.getElem?_cons_zero, List.getElem?_cons_succ] at a0 a1 a2 a3
    have la := lt_of_block HX.out
    by_cases hlt : q < R.labs.length ∧ q < 9
    · obtain ⟨hlt, hlt9⟩ := hlt
      have hqn : (q : Int) < R.labs.length := by omega
      have hq9n : (q : Int) < 9 := by omega
      have hwk : IntKind.i64.wrap ((q : Int) + 1) = (q : Int) + 1 := IntWalk.i64_in _ (by omega)
      obtain ⟨b, off, rfl, hbn, hc⟩ := HBL.out (by omega)
      obtain ⟨hc1, r, hc2, ra, rc, rfl, hrp⟩ := hc q hlt
      have p2 := (HB.out.cell (p := ⟨b, off + q * 2 + 1, none⟩) (show b < w.heap.size by omega)).trans hc2
      have lb' : b < wr.heap.size := Nat.lt_of_lt_of_le (show b < w.heap.size by omega) HB.out.size
      have T0q := Lib.hid (T0.out q hlt)
      have HGN : Hid ((lb R.labs q).rs.length ≤ 10 → ∀ j, j < q + 1 → (lb R.labs j).rs.length ≤ 10) := Lib.hid fun h j hj => by
        by_cases e : j = q
        · rw [e]; exact h
        · exact HG.out j (by omega)
      generalize (lb R.labs q).rs = rs at *
      clear hc hc1 hc2 hrp hbn HG
      by_cases h10 : rs.length ≤ 10
      · have d10 : decide ((10 : Int) < rs.length) = false := decide_eq_false (by omega)
        have HG := Lib.hid (HGN.out h10)
        clear h10
        go_wp2
        go_roundw
        case rel => exact ⟨q + 1, by omega, by omega, by simp, HG, HX, HB⟩
        case measure => simp [intOf]; omega
      · have d10 : decide ((10 : Int) < rs.length) = true := decide_eq_true (by omega)
        have HF := T0q.out h10
        subst HF
        clear h10
        go_wp2
        go_ret
        exact ⟨rfl, HB.out⟩
    · have HF := T1.out fun h9 j hj => HG.out j (by omega)
      have e1 : decide ((R.lots.length : Int) ≤ 6) = decide (R.lots.length ≤ 6) := by rw [Bool.eq_iff_iff]; simp; omega
      have e2 : decide ((R.smp.length : Int) ≤ 10) = decide (R.smp.length ≤ 10) := by rw [Bool.eq_iff_iff]; simp; omega
      have e3 : decide ((R.labs.length : Int) ≤ 8) = decide (R.labs.length ≤ 8) := by rw [Bool.eq_iff_iff]; simp; omega
      generalize decide (R.lots.length ≤ 6) = x1 at *
      generalize decide (R.smp.length ≤ 10) = x2 at *
      generalize decide (R.labs.length ≤ 8) = x3 at *
      subst HF
      have k1 : (q < R.labs.length ∧ ¬ q < 9) ∨ ¬ q < R.labs.length := by omega
      clear hlt HG
      rcases k1 with ⟨k1, k2⟩ | k1
      · have hqn : (q : Int) < R.labs.length := by omega
        have d9 : decide ((q : Int) < 9) = false := decide_eq_false (by omega)
        clear k1 k2
        cases x1 <;> cases x2 <;> cases x3 <;> (go_wp2; go_ret; exact ⟨by simp, HB.out⟩)
      · obtain rfl : q = R.labs.length := by omega
        clear k1 hq hq9
        cases x1 <;> cases x2 <;> cases x3 <;> (go_wp2; go_ret; exact ⟨by simp, HB.out⟩)

set_option maxRecDepth 100000 in
set_option maxHeartbeats 2000000 in
theorem ready_any (n : Nat) (p : Rp) (R : Rd) (w : World) (hV : RdV n w p R) (hn : n ≤ w.heap.size) :
    Calls Try.prog 38 #[rdV p R] w fun e w' => e = .returned (.bool (readyB R)) ∧ Below w.heap.size w w' := by
  have HT := Lib.hid fun w' (h : Below w.heap.size w w') => Thin_any n p R w' (hV.same (.below hn h)) (Nat.le_trans hn h.size)
  have HF := Lib.hid fun (hm : thinB R = true) w' (h : Below w.heap.size w w') => Fault_any n p R w' (thin_len hm) (hV.same (.below hn h)) (Nat.le_trans hn h.size)
  have e1 : thinB R = false → readyB R = false := ready_thin
  have e2 : readyB R = decide (errR R = 0) := rfl
  have HX := Lib.hid (heap_alloc_new w (.cells #[.slice p.la R.lots.length p.lc, .slice p.sa R.smp.length p.sc, .int .i64 R.sp, .slice p.ba R.labs.length p.bc] 26))
  have HB := Lib.hid (box_below w (.cells #[.slice p.la R.lots.length p.lc, .slice p.sa R.smp.length p.sc, .int .i64 R.sp, .slice p.ba R.labs.length p.bc] 26))
  clear hV
  unfold rdV at *
  generalize readyB R = Z at *
  generalize errR R = F at *
  generalize thinB R = t at *
  have E1 := Lib.hid e1
  have E2 := Lib.hid e2
  clear e1 e2
  go_enter Try.func38, Try.ntmps38
  go_wp2_with fail
  refine (HT.out _ HB.out).mono ?_
  rintro e w1 ⟨rfl, hb1⟩
  have HX1 := Lib.hid ((hb1.block _ (lt_of_block HX.out)).trans HX.out)
  have HB1 := Lib.hid (below_to HB.out hb1)
  clear hb1 HX HB
  have a0 := cell_of_row w1 w.heap.size 0 _ _ _ HX1.out
  have a1 := cell_of_row w1 w.heap.size 1 _ _ _ HX1.out
  have a2 := cell_of_row w1 w.heap.size 2 _ _ _ HX1.out
  have a3 := cell_of_row w1 w.heap.size 3 _ _ _ HX1.out
  simp only [List.getElem?_toArray, List.getElem?_cons_zero, List.getElem?_cons_succ] at a0 a1 a2 a3
  have l0 := lt_of_block HX1.out
  cases t with
  | false =>
    have HZ := E1.out rfl
    subst HZ
    go_wp2
    go_ret
    exact ⟨rfl, HB1.out⟩
  | true =>
    go_wp2_with fail
    refine (HF.out (by trivial) _ HB1.out).mono ?_
    rintro e w2 ⟨rfl, hb2⟩
    have HB2 := Lib.hid (below_to HB1.out hb2)
    clear hb2 a0 a1 a2 a3 l0
    have HZ := E2.out
    subst HZ
    go_wp2
    go_ret
    refine ⟨ret_bool ?_, HB2.out⟩
    rw [Bool.eq_iff_iff]
    simp
end Go.Proofs.Ytpdkgnfblnblbaa
