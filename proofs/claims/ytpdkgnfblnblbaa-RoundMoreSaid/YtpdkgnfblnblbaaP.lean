/- Explains and Spans: contracts, with their errors. Condition: a list of at most a thousand. -/
import Derived.Test.YtpdkgnfblnblbaaO
namespace Go.Proofs.Ytpdkgnfblnblbaa
open Go.RowKit Go.Shelf
attribute [local irreducible] arrV wpQuiet
theorem offE_ok {R : Rd} {l : List Int} (h : offE R l = 0) : RdOk R ∧ ∀ x ∈ l, 0 ≤ x ∧ x < 6 := by
  unfold offE at h
  by_cases h0 : errR R = 0
  · have hR := err_ok h0
    rw [if_pos h0] at h
    cases hz : (l.all (placeB R.labs.length) && riseB l) with
    | false => rw [hz] at h; simp at h
    | true =>
      rw [Bool.and_eq_true, List.all_eq_true] at hz
      refine ⟨hR, fun x hx => ?_⟩
      have := hz.1 x hx
      simp only [placeB, decide_eq_true_eq] at this
      have := hR.k6
      omega
  · rw [if_neg h0] at h
    exact absurd h h0
/-- What Explains and Spans answer. -/
def exA (R : Rd) (l : List Int) : Bool := decide (offE R l = 0) && explB R (offF l)
def spE (R : Rd) (l : List Int) : Int := if offE R l = 0 then (if explB R (offF l) = true then 0 else 9) else offE R l
theorem exA_ok {R : Rd} {l : List Int} (h : offE R l = 0) : exA R l = explB R (offF l) := by unfold exA; rw [decide_eq_true h, Bool.true_and]
theorem exA_no {R : Rd} {l : List Int} (h : ¬ offE R l = 0) : exA R l = false := by unfold exA; rw [decide_eq_false h, Bool.false_and]
theorem spE_no {R : Rd} {l : List Int} (h : ¬ offE R l = 0) : spE R l = offE R l := if_neg h
theorem spE_yes {R : Rd} {l : List Int} (h : offE R l = 0) (h2 : explB R (offF l) = true) : spE R l = 0 := by unfold spE; rw [if_pos h, if_pos h2]
theorem spE_fail {R : Rd} {l : List Int} (h : offE R l = 0) (h2 : explB R (offF l) = false) : spE R l = 9 := by unfold spE; rw [if_pos h, if_neg (by simp [h2])]

set_option maxRecDepth 100000 in
set_option maxHeartbeats 2000000 in
theorem Explains_any (n : Nat) (p : Rp) (R : Rd) (v : Value) (l : List Int) (w : World) (hl : l.length ≤ 1000) (hV : RdV n w p R) (hL : IntsV n w v l) (hn : n ≤ w.heap.size) :
    Calls Try.prog 21 #[rdV p R, v] w fun e w' => e = .returned (.tuple #[.bool (exA R l), .int .i64 (offE R l)]) ∧ Below w.heap.size w w' := by
  have HCO := Lib.hid fun w' (h : Below w.heap.size w w') => checkOff_any n p R v l w' hl (hV.same (.below hn h)) (hL.same (.below hn h)) (Nat.le_trans hn h.size)
  have HWO := Lib.hid fun (h0 : offE R l = 0) w' (h : Below w.heap.size w w') => without_any n p R v l w' hl (offE_ok h0).2 (hL.same (.below hn h)) (Nat.le_trans hn h.size)
  have HSP := Lib.hid fun (h0 : offE R l = 0) w' (h : Below w.heap.size w w') => spans_any n p R (offF l) w' (offE_ok h0).1 (hV.same (.below hn h)) (Nat.le_trans hn h.size)
  have HX := Lib.hid (heap_alloc_new w (.cells #[.slice p.la R.lots.length p.lc, .slice p.sa R.smp.length p.sc, .int .i64 R.sp, .slice p.ba R.labs.length p.bc] 34))
  have HB := Lib.hid (box_below w (.cells #[.slice p.la R.lots.length p.lc, .slice p.sa R.smp.length p.sc, .int .i64 R.sp, .slice p.ba R.labs.length p.bc] 34))
  have E1 := Lib.hid fun h => @exA_ok R l h
  have E2 := Lib.hid fun h => @exA_no R l h
  obtain ⟨la, lc, rfl, -⟩ := hL
  clear hV hl
  unfold rdV at *
  generalize offE R l = F at *
  go_enter Try.func21, Try.ntmps21
  go_wp2_with fail
  generalize World.alloc w _ = W at *
  refine (HCO.out _ HB.out).mono ?_
  rintro e W1 ⟨rfl, hb⟩
  replace HX := Lib.hid ((hb.block _ (lt_of_block HX.out)).trans HX.out)
  replace HB := Lib.hid (below_to HB.out hb)
  clear hb HCO
  have a0 := cell_of_row W1 w.heap.size 0 _ _ _ HX.out
  have a1 := cell_of_row W1 w.heap.size 1 _ _ _ HX.out
  have a2 := cell_of_row W1 w.heap.size 2 _ _ _ HX.out
  have a3 := cell_of_row W1 w.heap.size 3 _ _ _ HX.out
  simp only [List.getElem?_toArray, List.getElem?_cons_zero, List.getElem?_cons_succ] at a0 a1 a2 a3
  have la1 := lt_of_block HX.out
  by_cases hf : F = 0
  · subst hf
    replace HWO := Lib.hid (HWO.out (by trivial))
    replace HSP := Lib.hid (HSP.out (by trivial))
    go_wp2_with fail
    refine (HWO.out _ HB.out).mono ?_
    rintro e W2 ⟨rfl, hb⟩
    replace HB := Lib.hid (below_to HB.out hb)
    clear hb a0 a1 a2 a3 la1 HWO
    go_wp2_with fail
    refine (HSP.out _ HB.out).mono ?_
    rintro e W3 ⟨⟨a, c, k, rfl, hyes, hno⟩, hb⟩
    have hz2 := HB.out.size
    replace HB := Lib.hid (below_to HB.out hb)
    have HYES := Lib.hid hyes
    have HNO := Lib.hid hno
    clear hb HSP hyes hno
    have HE := Lib.hid (E1.out (by trivial))
    go_wp2
    go_ret2
    exact ⟨by rw [HE.out]; rfl, HB.out⟩
  · have hf1 : (F != 0) = true := by simp [hf]
    have hf2 : (F == 0) = false := by simp [hf]
    have HE := Lib.hid (E2.out hf)
    clear hf
    go_wp2
    go_ret2
    exact ⟨by rw [HE.out]; rfl, HB.out⟩

set_option maxRecDepth 100000 in
set_option maxHeartbeats 2000000 in
theorem Spans_any (n : Nat) (p : Rp) (R : Rd) (v : Value) (l : List Int) (w : World) (hl : l.length ≤ 1000) (hV : RdV n w p R) (hL : IntsV n w v l) (hn : n ≤ w.heap.size) :
    Calls Try.prog 26 #[rdV p R, v] w fun e w' => (∃ a c k, e = .returned (.tuple #[.slice a k c, .int .i64 (spE R l)]) ∧ (spE R l = 0 → k = R.smp.length ∧ w'.ownsRow w.heap.size 46 2 (.slice a k c) k (flatR (spansL R (offF l)))) ∧ (spE R l ≠ 0 → k = 0)) ∧ Below w.heap.size w w' := by
  have HCO := Lib.hid fun w' (h : Below w.heap.size w w') => checkOff_any n p R v l w' hl (hV.same (.below hn h)) (hL.same (.below hn h)) (Nat.le_trans hn h.size)
  have HWO := Lib.hid fun (h0 : offE R l = 0) w' (h : Below w.heap.size w w') => without_any n p R v l w' hl (offE_ok h0).2 (hL.same (.below hn h)) (Nat.le_trans hn h.size)
  have HSP := Lib.hid fun (h0 : offE R l = 0) w' (h : Below w.heap.size w w') => spans_any n p R (offF l) w' (offE_ok h0).1 (hV.same (.below hn h)) (Nat.le_trans hn h.size)
  have HX := Lib.hid (heap_alloc_new w (.cells #[.slice p.la R.lots.length p.lc, .slice p.sa R.smp.length p.sc, .int .i64 R.sp, .slice p.ba R.labs.length p.bc] 34))
  have HB := Lib.hid (box_below w (.cells #[.slice p.la R.lots.length p.lc, .slice p.sa R.smp.length p.sc, .int .i64 R.sp, .slice p.ba R.labs.length p.bc] 34))
  have E1 := Lib.hid fun h h2 => @spE_yes R l h h2
  have E2 := Lib.hid fun h h2 => @spE_fail R l h h2
  have E3 := Lib.hid fun h => @spE_no R l h
  obtain ⟨la, lc, rfl, -⟩ := hL
  clear hV hl
  unfold rdV at *
  generalize offE R l = F at *
  go_enter Try.func26, Try.ntmps26
  go_wp2_with fail
  generalize World.alloc w _ = W at *
  refine (HCO.out _ HB.out).mono ?_
  rintro e W1 ⟨rfl, hb⟩
  replace HX := Lib.hid ((hb.block _ (lt_of_block HX.out)).trans HX.out)
  replace HB := Lib.hid (below_to HB.out hb)
  clear hb HCO
  have a0 := cell_of_row W1 w.heap.size 0 _ _ _ HX.out
  have a1 := cell_of_row W1 w.heap.size 1 _ _ _ HX.out
  have a2 := cell_of_row W1 w.heap.size 2 _ _ _ HX.out
  have a3 := cell_of_row W1 w.heap.size 3 _ _ _ HX.out
  simp only [List.getElem?_toArray, List.getElem?_cons_zero, List.getElem?_cons_succ] at a0 a1 a2 a3
  have la1 := lt_of_block HX.out
  by_cases hf : F = 0
  · subst hf
    replace HWO := Lib.hid (HWO.out (by trivial))
    replace HSP := Lib.hid (HSP.out (by trivial))
    go_wp2_with fail
    refine (HWO.out _ HB.out).mono ?_
    rintro e W2 ⟨rfl, hb⟩
    replace HB := Lib.hid (below_to HB.out hb)
    clear hb a0 a1 a2 a3 la1 HWO
    go_wp2_with fail
    refine (HSP.out _ HB.out).mono ?_
    rintro e W3 ⟨⟨a, c, k, rfl, hyes, hno⟩, hb⟩
    have hz2 := HB.out.size
    replace HB := Lib.hid (below_to HB.out hb)
    have HYES := Lib.hid hyes
    have HNO := Lib.hid hno
    clear hb HSP hyes hno
    obtain ⟨z, hz⟩ : ∃ z, explB R (offF l) = z := ⟨_, rfl⟩
    rw [hz] at HYES HNO E1 E2 ⊢
    cases z with
    | true =>
      have HE := Lib.hid (E1.out (by trivial) (by trivial))
      obtain ⟨hk, ho⟩ := HYES.out rfl
      have HO := Lib.hid (ownsRow_mono hz2 ho)
      have HK := Lib.hid hk
      clear hk ho
      go_wp2
      go_ret2
      exact ⟨⟨a, c, k, by rw [HE.out]; rfl, fun _ => ⟨HK.out, HO.out⟩, fun h => absurd HE.out h⟩, HB.out⟩
    | false =>
      have HE := Lib.hid (E2.out (by trivial) (by trivial))
      go_wp2
      go_ret2
      exact ⟨⟨none, 0, 0, (by rw [HE.out]; rfl), (fun h => by rw [HE.out] at h; exact absurd h (by decide)), fun _ => rfl⟩, HB.out⟩
  · have hf1 : (F != 0) = true := by simp [hf]
    have hf2 : (F == 0) = false := by simp [hf]
    have HE := Lib.hid (E3.out hf)
    have HF := Lib.hid hf
    clear hf
    go_wp2
    go_ret2
    exact ⟨⟨none, 0, 0, (by rw [HE.out]; rfl), (fun h => absurd (HE.out.symm.trans h) HF.out), fun _ => rfl⟩, HB.out⟩
end Go.Proofs.Ytpdkgnfblnblbaa
