/- The errors of a round, and of a list of laboratories: contracts. Condition: a list of at most a thousand. -/
import Derived.Test.YtpdkgnfblnblbaaG
namespace Go.Proofs.Ytpdkgnfblnblbaa
open Go.RowKit Go.Shelf
attribute [local irreducible] arrV wpQuiet
theorem err_short {R : Rd} (h : shortB R = false) : errR R = 3 := by unfold errR; rw [if_neg (by simp [h])]
theorem err_bad {R : Rd} (h : shortB R = true) (h2 : validB R = false) : errR R = 1 := by unfold errR; rw [if_pos h, if_neg (by simp [h2])]
theorem err_good {R : Rd} (h : shortB R = true) (h2 : validB R = true) : errR R = 0 := by unfold errR; rw [if_pos h, if_pos h2]

set_option maxRecDepth 100000 in
set_option maxHeartbeats 2000000 in
theorem check_any (n : Nat) (p : Rp) (R : Rd) (w : World) (hV : RdV n w p R) (hn : n ≤ w.heap.size) :
    Calls Try.prog 43 #[rdV p R] w fun e w' => e = .returned (.int .i64 (errR R)) ∧ Below w.heap.size w w' := by
  have HS := Lib.hid (isShort_any p R)
  have HVA := Lib.hid fun (hs : shortB R = true) w' (h : Below w.heap.size w w') => isValid_any n p R w' hs (hV.same (.below hn h)) (Nat.le_trans hn h.size)
  have HX := Lib.hid (heap_alloc_new w (.cells #[.slice p.la R.lots.length p.lc, .slice p.sa R.smp.length p.sc, .int .i64 R.sp, .slice p.ba R.labs.length p.bc] 34))
  have HB := Lib.hid (box_below w (.cells #[.slice p.la R.lots.length p.lc, .slice p.sa R.smp.length p.sc, .int .i64 R.sp, .slice p.ba R.labs.length p.bc] 34))
  have E1 := Lib.hid fun h => @err_short R h
  have E2 := Lib.hid fun h => @err_bad R h
  have E3 := Lib.hid fun h => @err_good R h
  clear hV
  unfold rdV at *
  generalize shortB R = z1 at *
  generalize validB R = z2 at *
  generalize errR R = F at *
  go_enter Try.func43, Try.ntmps43
  go_wp2_with fail
  generalize World.alloc w _ = W at *
  refine (HS.out _).mono ?_
  rintro e W1 ⟨rfl, hb⟩
  replace HX := Lib.hid ((hb.block _ (lt_of_block HX.out)).trans HX.out)
  replace HB := Lib.hid (below_to HB.out hb)
  clear hb HS
  cases z1 with
  | false =>
    have HF := Lib.hid (E1.out (by trivial))
    go_wp2
    go_ret
    exact ⟨by rw [HF.out]; rfl, HB.out⟩
  | true =>
    replace HVA := Lib.hid (HVA.out (by trivial))
    have a0 := cell_of_row W1 w.heap.size 0 _ _ _ HX.out
    have a1 := cell_of_row W1 w.heap.size 1 _ _ _ HX.out
    have a2 := cell_of_row W1 w.heap.size 2 _ _ _ HX.out
    have a3 := cell_of_row W1 w.heap.size 3 _ _ _ HX.out
    simp only [List.getElem?_toArray, List.getElem?_cons_zero, List.getElem?_cons_succ] at a0 a1 a2 a3
    have la := lt_of_block HX.out
    go_wp2_with fail
    refine (HVA.out _ HB.out).mono ?_
    rintro e W2 ⟨rfl, hb⟩
    replace HB := Lib.hid (below_to HB.out hb)
    clear hb a0 a1 a2 a3 la
    cases z2 with
    | false =>
      have HF := Lib.hid (E2.out (by trivial) (by trivial))
      go_wp2
      go_ret
      exact ⟨by rw [HF.out]; rfl, HB.out⟩
    | true =>
      have HF := Lib.hid (E3.out (by trivial) (by trivial))
      go_wp2
      go_ret
      exact ⟨by rw [HF.out]; rfl, HB.out⟩

set_option maxRecDepth 100000 in
set_option maxHeartbeats 1000000 in
theorem CheckRound_any (n : Nat) (p : Rp) (R : Rd) (w : World) (hV : RdV n w p R) (hn : n ≤ w.heap.size) :
    Calls Try.prog 19 #[rdV p R] w fun e w' => e = .returned (.int .i64 (errR R)) ∧ Below w.heap.size w w' := by
  have HC := Lib.hid fun w' (h : Below w.heap.size w w') => check_any n p R w' (hV.same (.below hn h)) (Nat.le_trans hn h.size)
  have HB := Lib.hid (box_below w (.cells #[.slice p.la R.lots.length p.lc, .slice p.sa R.smp.length p.sc, .int .i64 R.sp, .slice p.ba R.labs.length p.bc] 34))
  clear hV
  unfold rdV at *
  go_enter Try.func19, Try.ntmps19
  go_wp2_with fail
  refine (HC.out _ HB.out).mono ?_
  rintro e W2 ⟨rfl, hb⟩
  replace HB := Lib.hid (below_to HB.out hb)
  clear hb
  go_wp2
  go_ret
  exact ⟨rfl, HB.out⟩

theorem rise_yes {l : List Int} (h : ∀ j, j + 1 < l.length → ld l j < ld l (j + 1)) : riseB l = true := by
  unfold riseB
  rw [List.all_eq_true]
  intro j hj
  have : j < l.length - 1 := by simpa using hj
  exact decide_eq_true (h j (by omega))
theorem rise_no {l : List Int} {j : Nat} (hj : j + 1 < l.length) (h : ld l (j + 1) ≤ ld l j) : riseB l = false := by
  rw [Bool.eq_false_iff]
  intro hr
  unfold riseB at hr
  rw [List.all_eq_true] at hr
  have := of_decide_eq_true (hr j (by simp; omega))
  omega

set_option maxRecDepth 100000 in
set_option maxHeartbeats 1000000 in
theorem isRising_any (n : Nat) (v : Value) (l : List Int) (w : World) (hl : l.length ≤ 1000) (hV : IntsV n w v l) (hn : n ≤ w.heap.size) :
    Calls Try.prog 60 #[v] w fun e w' => e = .returned (.bool (riseB l)) ∧ Below w.heap.size w w' := by
  obtain ⟨a, cap, rfl, hp⟩ := hV
  have HP := Lib.hid hp
  have HY := Lib.hid (@rise_yes l)
  have HN := Lib.hid fun j => @rise_no l j
  clear hp
  go_enter Try.func60, Try.ntmps60
  go_wp2
  go_loopw [3] (fun i wr => ∃ q : Nat, 1 ≤ q ∧ (q ≤ l.length ∨ q = 1) ∧ i = .int .i64 q ∧ Hid (∀ j, j + 1 < q → ld l j < ld l (j + 1)) ∧ Hid (Below w.heap.size w wr)) (fun i _ => l.length - (intOf i).toNat)
  case atStart => exact ⟨1, Nat.le_refl _, .inr rfl, rfl, Lib.hid (fun j hj => by omega), Lib.hid (Below.refl _ _)⟩
  case round =>
    obtain ⟨q, hq1, hq, rfl, hg, hb⟩ := hrel
    by_cases hlt : q < l.length
    · obtain ⟨b, off, rfl, hbn, hc⟩ := HP.out (by omega)
      have p1 := (hb.out.cell (p := ⟨b, off + q, none⟩) (show b < w.heap.size by omega)).trans (hc q hlt)
      have p2 := (hb.out.cell (p := ⟨b, off + (q - 1), none⟩) (show b < w.heap.size by omega)).trans (hc (q - 1) (by omega))
      have hqn : (q : Int) < l.length := by omega
      have hw9 : IntKind.i64.wrap ((q : Int) + 1) = (q : Int) + 1 := IntWalk.i64_in _ (by omega)
      obtain ⟨z, hz⟩ : ∃ z : Nat, z + 1 = q := ⟨q - 1, by omega⟩
      have ez : q - 1 = z := by omega
      rw [ez] at p2
      have hw8 : IntKind.i64.wrap ((q : Int) - 1) = (z : Int) := by rw [IntWalk.i64_in _ (by omega)]; omega
      have hzn : (z : Int) < l.length := by omega
      have g1 := cell_regrown p1
      have g2 := cell_regrown p2
      have HZ := Lib.hid hz
      have HC := Lib.hid hc
      clear p1 p2 ez hz hc
      by_cases hle : ld l q ≤ ld l z
      · have HF := Lib.hid (HN.out z (by rw [HZ.out]; omega) (by rw [HZ.out]; exact hle))
        generalize ld l q = x at *
        generalize ld l z = y at *
        have hd : decide (x ≤ y) = true := decide_eq_true hle
        clear hle
        go_wp2_with fail
        refine wp_region_quiet_below (by kernel_rfl) (by kernel_rfl) ?_
        repeat (quiet_step (first | fail))
        refine wpQuiet_nil ?_
        intro _ hw'
        obtain ⟨⟨dq, osq⟩, hw''⟩ := hw'
        subst hw''
        go_wp2
        go_ret
        exact ⟨by rw [HF.out]; rfl, below_to hb.out (below_regrown wr dq osq)⟩
      · have HG2 : Hid (∀ j, j + 1 < q + 1 → ld l j < ld l (j + 1)) := Lib.hid fun j hj => by
          by_cases e : j + 1 = q
          · have := HZ.out
            have e2 : j = z := by omega
            rw [e, e2]
            omega
          · exact hg.out j (by omega)
        have HLE := Lib.hid hle
        generalize ld l q = x at *
        generalize ld l z = y at *
        have hd : decide (x ≤ y) = false := decide_eq_false HLE.out
        clear hle
        go_wp2_with fail
        refine wp_region_quiet_below (by kernel_rfl) (by kernel_rfl) ?_
        repeat (quiet_step (first | fail))
        refine wpQuiet_nil ?_
        intro _ hw'
        obtain ⟨⟨dq, osq⟩, hw''⟩ := hw'
        subst hw''
        have HB2 := Lib.hid (below_to hb.out (below_regrown wr dq osq))
        clear g1 g2 hd hb
        go_wp2
        go_roundw
        case rel => exact ⟨q + 1, by omega, .inl (by omega), by simp, HG2, HB2⟩
        case measure => simp [intOf]; omega
    · have HF := Lib.hid (HY.out fun j hj => hg.out j (by omega))
      have hqn : ¬ (q : Int) < l.length := by omega
      go_wp2
      go_ret
      exact ⟨by rw [HF.out]; rfl, hb.out⟩

set_option maxRecDepth 100000 in
set_option maxHeartbeats 2000000 in
theorem checkOff_any (n : Nat) (p : Rp) (R : Rd) (v : Value) (l : List Int) (w : World) (hl : l.length ≤ 1000) (hV : RdV n w p R) (hL : IntsV n w v l) (hn : n ≤ w.heap.size) :
    Calls Try.prog 44 #[rdV p R, v] w fun e w' => e = .returned (.int .i64 (offE R l)) ∧ Below w.heap.size w w' := by
  have HC := Lib.hid fun w' (h : Below w.heap.size w w') => check_any n p R w' (hV.same (.below hn h)) (Nat.le_trans hn h.size)
  have HE := Lib.hid fun w' (h : Below w.heap.size w w') => each_int n 59 #[rdV p R] v l (fun q => placeB R.labs.length (ld l q)) w' (by unfold maxLen; omega) (hL.same (.below hn h)) (Nat.le_trans hn h.size) (fun _ _ => rfl) (fun q w2 _ _ _ => hasLab_any p R _ w2)
  have HR := Lib.hid fun w' (h : Below w.heap.size w w') => isRising_any n v l w' hl (hL.same (.below hn h)) (Nat.le_trans hn h.size)
  rw [allN_ints (placeB R.labs.length)] at HE
  have e0 : offE R l = (if errR R = 0 then (if (l.all (placeB R.labs.length) && riseB l) = true then 0 else 2) else errR R) := rfl
  rw [e0]
  obtain ⟨la, lc, rfl, -⟩ := hL
  have HX := Lib.hid (heap_alloc_new w (.cells #[.slice p.la R.lots.length p.lc, .slice p.sa R.smp.length p.sc, .int .i64 R.sp, .slice p.ba R.labs.length p.bc] 34))
  have HB := Lib.hid (box_below w (.cells #[.slice p.la R.lots.length p.lc, .slice p.sa R.smp.length p.sc, .int .i64 R.sp, .slice p.ba R.labs.length p.bc] 34))
  clear hV hl e0
  unfold rdV at *
  generalize errR R = F at *
  generalize l.all (placeB R.labs.length) = z1 at *
  generalize riseB l = z2 at *
  go_enter Try.func44, Try.ntmps44
  go_wp2_with fail
  generalize World.alloc w _ = W at *
  refine (HC.out _ HB.out).mono ?_
  rintro e W1 ⟨rfl, hb⟩
  replace HX := Lib.hid ((hb.block _ (lt_of_block HX.out)).trans HX.out)
  replace HB := Lib.hid (below_to HB.out hb)
  clear hb HC
  have a0 := cell_of_row W1 w.heap.size 0 _ _ _ HX.out
  have a1 := cell_of_row W1 w.heap.size 1 _ _ _ HX.out
  have a2 := cell_of_row W1 w.heap.size 2 _ _ _ HX.out
  have a3 := cell_of_row W1 w.heap.size 3 _ _ _ HX.out
  simp only [List.getElem?_toArray, List.getElem?_cons_zero, List.getElem?_cons_succ] at a0 a1 a2 a3
  have la1 := lt_of_block HX.out
  by_cases hf : F = 0
  · subst hf
    go_wp2_with fail
    refine (HE.out _ HB.out).mono ?_
    rintro e W2 ⟨rfl, hb⟩
    replace HB := Lib.hid (below_to HB.out hb)
    clear hb a0 a1 a2 a3 la1
    cases z1 with
    | false =>
      go_wp2
      go_ret
      exact ⟨by simp, HB.out⟩
    | true =>
      go_wp2_with fail
      refine (HR.out _ HB.out).mono ?_
      rintro e W3 ⟨rfl, hb⟩
      replace HB := Lib.hid (below_to HB.out hb)
      clear hb
      cases z2 with
      | false =>
        go_wp2
        go_ret
        exact ⟨by simp, HB.out⟩
      | true =>
        go_wp2
        go_ret
        exact ⟨by simp, HB.out⟩
  · have hf1 : (F != 0) = true := by simp [hf]
    have hf2 : (F == 0) = false := by simp [hf]
    go_wp2
    go_ret
    exact ⟨by first | rfl | (rw [if_neg hf]; rfl), HB.out⟩
end Go.Proofs.Ytpdkgnfblnblbaa
