/- Shifts of a laboratory: contract, exact. Condition: rows of laboratories are held whole. -/
import Derived.Test.YtpdkgnfblnblbaaSH
import Derived.Test.YtpdkgnfblnblbaaP
namespace Go.Proofs.Ytpdkgnfblnblbaa
open Go.RowKit Go.Shelf
attribute [local irreducible] arrV wpQuiet
theorem ints_one (w : World) (k : Int) {g : Nat} {ty : Nat} (hx : w.heap[g]? = some (.cells #[.int .i64 k] ty (0, 0))) : IntsV (g + 1) w (.slice (some ⟨g, 0, none⟩) 1 1) [k] := by
  refine ⟨_, _, rfl, fun _ => ⟨g, 0, rfl, by omega, fun i hi => ?_⟩⟩
  obtain rfl : i = 0 := by simpa using hi
  exact cell_of_row w _ 0 _ _ _ hx

theorem span_bd {R : Rd} (hR : RdOk R) {off : Nat → Bool} (h : explB R off = true) {x : Rg} (hx : x ∈ spansL R off) : -100 ≤ x.lo ∧ x.lo ≤ 1100 ∧ -100 ≤ x.hi ∧ x.hi ≤ 1100 := by
  unfold spansL at hx
  rw [List.mem_map] at hx
  obtain ⟨s, hs, rfl⟩ := hx
  have hs' : s < R.smp.length := by simpa using hs
  have ho := span_ok hR h hs'
  have h1 : InR (spanR R off s) (spanR R off s).lo := ⟨Int.le_refl _, ho⟩
  have h2 : InR (spanR R off s) (spanR R off s).hi := ⟨ho, Int.le_refl _⟩
  have g1 := (in_val.1 (in_ands.1 h1).1).1
  have g2 := (in_val.1 (in_ands.1 h2).1).1
  have hl := hR.lot _ (rg_mem (hR.lotN hs').1)
  have hsp := hR.sp
  unfold val0 wid InR at g1 g2
  simp only at g1 g2
  omega

/-- What Shifts answers: the error, and the shifts. -/
def shE (R : Rd) (k : Int) : Int := if offE R [k] = 0 then (if explB R (offF [k]) = true then (if shB R k.toNat (spansL R (offF [k])) = true then 0 else 7) else 9) else offE R [k]
def shA (R : Rd) (k : Int) : Rg := if shE R k = 0 then shF R k.toNat (spansL R (offF [k])) R.smp.length else ⟨0, 0⟩
theorem offE_one {R : Rd} {k : Int} (h : offE R [k] = 0) : RdOk R ∧ ∃ q : Nat, k = q ∧ q < R.labs.length := by
  refine ⟨(offE_ok h).1, ?_⟩
  unfold offE at h
  by_cases h0 : errR R = 0
  · rw [if_pos h0] at h
    cases hz : (([k] : List Int).all (placeB R.labs.length) && riseB [k]) with
    | false => rw [hz] at h; simp at h
    | true =>
      rw [Bool.and_eq_true, List.all_eq_true] at hz
      have := hz.1 k (by simp)
      simp only [placeB, decide_eq_true_eq] at this
      exact ⟨k.toNat, by omega, by omega⟩
  · rw [if_neg h0] at h
    exact absurd h h0
theorem sh_no {R : Rd} {k : Int} (h : ¬ offE R [k] = 0) : shE R k = offE R [k] ∧ shA R k = ⟨0, 0⟩ := by
  have e : shE R k = offE R [k] := if_neg h
  exact ⟨e, by unfold shA; rw [e, if_neg h]⟩
theorem sh_fail {R : Rd} {k : Int} (h : offE R [k] = 0) (h2 : explB R (offF [k]) = false) : shE R k = 9 ∧ shA R k = ⟨0, 0⟩ := by
  have e : shE R k = 9 := by unfold shE; rw [if_pos h, if_neg (by simp [h2])]
  exact ⟨e, by unfold shA; rw [e]; rfl⟩
theorem sh_none {R : Rd} {k : Int} (h : offE R [k] = 0) (h2 : explB R (offF [k]) = true) (h3 : shB R k.toNat (spansL R (offF [k])) = false) : shE R k = 7 ∧ shA R k = ⟨0, 0⟩ := by
  have e : shE R k = 7 := by unfold shE; rw [if_pos h, if_pos h2, if_neg (by simp [h3])]
  exact ⟨e, by unfold shA; rw [e]; rfl⟩
theorem sh_yes {R : Rd} {k : Int} (h : offE R [k] = 0) (h2 : explB R (offF [k]) = true) (h3 : shB R k.toNat (spansL R (offF [k])) = true) : shE R k = 0 ∧ shA R k = shF R k.toNat (spansL R (offF [k])) R.smp.length := by
  have e : shE R k = 0 := by unfold shE; rw [if_pos h, if_pos h2, if_pos h3]
  exact ⟨e, by unfold shA; rw [e]; rfl⟩

set_option maxRecDepth 100000 in
set_option maxHeartbeats 2000000 in
theorem checkLab_any (n : Nat) (p : Rp) (R : Rd) (k : Int) (w : World) (hV : RdV n w p R) (hn : n ≤ w.heap.size) :
    Calls Try.prog 53 #[rdV p R, .int .i64 k] w fun e w' => e = .returned (.int .i64 (offE R [k])) ∧ Below w.heap.size w w' := by
  have HCO := Lib.hid fun w' (h : Below w.heap.size w w') m v (hm : n ≤ m) (hL : IntsV m w' v [k]) (hz : m ≤ w'.heap.size) => checkOff_any m p R v [k] w' (by simp) ((hV.same (.below hn h)).up hm) hL hz
  have HX := Lib.hid (heap_alloc_new w (.cells #[.slice p.la R.lots.length p.lc, .slice p.sa R.smp.length p.sc, .int .i64 R.sp, .slice p.ba R.labs.length p.bc] 34))
  have HB := Lib.hid (box_below w (.cells #[.slice p.la R.lots.length p.lc, .slice p.sa R.smp.length p.sc, .int .i64 R.sp, .slice p.ba R.labs.length p.bc] 34))
  have HN := Lib.hid hn
  clear hV hn
  unfold rdV at *
  generalize offE R [k] = F at *
  go_enter Try.func53, Try.ntmps53
  go_wp2_with fail
  have hw : (w.alloc (.cells #[.slice p.la R.lots.length p.lc, .slice p.sa R.smp.length p.sc, .int .i64 R.sp, .slice p.ba R.labs.length p.bc] 34)).heap.size = w.heap.size + 1 := by simp
  generalize World.alloc w _ = W at *
  have a0 := cell_of_row W w.heap.size 0 _ _ _ HX.out
  have a1 := cell_of_row W w.heap.size 1 _ _ _ HX.out
  have a2 := cell_of_row W w.heap.size 2 _ _ _ HX.out
  have a3 := cell_of_row W w.heap.size 3 _ _ _ HX.out
  simp only [List.getElem?_toArray, List.getElem?_cons_zero, List.getElem?_cons_succ] at a0 a1 a2 a3
  have la1 := lt_of_block HX.out
  go_wp2_with fail
  have hx2 := heap_alloc_new W (.cells #[.int .i64 k] 3)
  rw [hw] at hx2
  have hb2 := box_below W (.cells #[.int .i64 k] 3)
  have hz2 : (W.alloc (.cells #[.int .i64 k] 3)).heap.size = W.heap.size + 1 := by simp
  have hnn := HN.out
  refine (HCO.out _ (below_to HB.out hb2) (w.heap.size + 2) _ (by omega) (ints_one _ k hx2) (by omega)).mono ?_
  rintro e W1 ⟨rfl, hb⟩
  have HBZ := Lib.hid (below_to (below_to HB.out hb2) hb)
  clear hb hb2 hx2 hz2 a0 a1 a2 a3 la1
  go_wp2
  go_ret
  exact ⟨rfl, HBZ.out⟩

set_option maxRecDepth 100000 in
set_option maxHeartbeats 4000000 in
theorem Shifts_any (n : Nat) (p : Rp) (R : Rd) (k : Int) (w : World) (hcap : R.labs.length ≤ p.bc) (hV : RdV n w p R) (hn : n ≤ w.heap.size) :
    Calls Try.prog 34 #[rdV p R, .int .i64 k] w fun e w' => e = .returned (.tuple #[.agg #[.int .i64 (shA R k).lo, .int .i64 (shA R k).hi], .int .i64 (shE R k)]) ∧ Below w.heap.size w w' := by
  have HCL := Lib.hid fun w' (h : Below w.heap.size w w') => checkLab_any n p R k w' (hV.same (.below hn h)) (Nat.le_trans hn h.size)
  have HWO := Lib.hid fun (h0 : offE R [k] = 0) m v w' (hL : IntsV m w' v [k]) (hm : m ≤ w'.heap.size) => without_any m p R v [k] w' (by simp) (offE_ok h0).2 hL hm
  have HSP := Lib.hid fun (h0 : offE R [k] = 0) w' (h : Below w.heap.size w w') => spans_any n p R (offF [k]) w' (offE_ok h0).1 (hV.same (.below hn h)) (Nat.le_trans hn h.size)
  have HSH := Lib.hid fun (h0 : offE R [k] = 0) (h1 : explB R (offF [k]) = true) m v w' (hm : n ≤ m) (h : Below w.heap.size w w') (hS : RgsV m w' v (spansL R (offF [k]))) (hz : m ≤ w'.heap.size) => shifts_any m p R k.toNat v (spansL R (offF [k])) w' (offE_one h0).1 (by obtain ⟨_, q, rfl, hq⟩ := offE_one h0; simpa using hq) hcap ((hV.same (.below hn h)).up hm) hS (by simp [spansL]) (fun r hr => span_bd (offE_one h0).1 h1 hr) hz
  have HKK := Lib.hid fun (h0 : offE R [k] = 0) => show (k.toNat : Int) = k by obtain ⟨_, q, rfl, hq⟩ := offE_one h0; simp
  have E1 := Lib.hid fun h => @sh_no R k h
  have E2 := Lib.hid fun h h2 => @sh_fail R k h h2
  have E3 := Lib.hid fun h h2 h3 => @sh_none R k h h2 h3
  have E4 := Lib.hid fun h h2 h3 => @sh_yes R k h h2 h3
  have HX := Lib.hid (box2 w (.cells #[.slice p.la R.lots.length p.lc, .slice p.sa R.smp.length p.sc, .int .i64 R.sp, .slice p.ba R.labs.length p.bc] 34) (.cells #[.int .i64 0, .int .i64 0] 46))
  have HB := Lib.hid (below2 w (.cells #[.slice p.la R.lots.length p.lc, .slice p.sa R.smp.length p.sc, .int .i64 R.sp, .slice p.ba R.labs.length p.bc] 34) (.cells #[.int .i64 0, .int .i64 0] 46))
  have HN := Lib.hid hn
  clear hV hn hcap
  unfold rdV at *
  generalize shE R k = SE at *
  generalize shA R k = SA at *
  generalize offE R [k] = F at *
  go_enter Try.func34, Try.ntmps34
  go_wp2_with fail
  have hw : ((w.alloc (.cells #[.slice p.la R.lots.length p.lc, .slice p.sa R.smp.length p.sc, .int .i64 R.sp, .slice p.ba R.labs.length p.bc] 34)).alloc (.cells #[.int .i64 0, .int .i64 0] 46)).heap.size = w.heap.size + 2 := by simp
  generalize World.alloc (World.alloc w _) _ = W at *
  obtain ⟨hx0, hx1⟩ := HX.out
  have la0 := lt_of_block hx0
  have la1 := lt_of_block hx1
  have a0 := cell_of_row W w.heap.size 0 _ _ _ hx0
  have a1 := cell_of_row W w.heap.size 1 _ _ _ hx0
  have a2 := cell_of_row W w.heap.size 2 _ _ _ hx0
  have a3 := cell_of_row W w.heap.size 3 _ _ _ hx0
  simp only [List.getElem?_toArray, List.getElem?_cons_zero, List.getElem?_cons_succ] at a0 a1 a2 a3
  go_wp2_with fail
  refine (HCL.out _ HB.out).mono ?_
  rintro e W1 ⟨rfl, hb⟩
  replace HX := Lib.hid (And.intro ((hb.block _ (lt_of_block hx0)).trans hx0) ((hb.block _ (lt_of_block hx1)).trans hx1))
  replace HB := Lib.hid (below_to HB.out hb)
  clear hb HCL hx0 hx1 la0 la1 a0 a1 a2 a3 hw
  obtain ⟨hx0, hx1⟩ := HX.out
  have la0 := lt_of_block hx0
  have la1 := lt_of_block hx1
  have a0 := cell_of_row W1 w.heap.size 0 _ _ _ hx0
  have a1 := cell_of_row W1 w.heap.size 1 _ _ _ hx0
  have a2 := cell_of_row W1 w.heap.size 2 _ _ _ hx0
  have a3 := cell_of_row W1 w.heap.size 3 _ _ _ hx0
  simp only [List.getElem?_toArray, List.getElem?_cons_zero, List.getElem?_cons_succ] at a0 a1 a2 a3
  by_cases hf : F = 0
  · subst hf
    replace HWO := Lib.hid (HWO.out (by trivial))
    replace HSP := Lib.hid (HSP.out (by trivial))
    replace HSH := Lib.hid (HSH.out (by trivial))
    replace HKK := Lib.hid (HKK.out (by trivial))
    replace E2 := Lib.hid (E2.out (by trivial))
    replace E3 := Lib.hid (E3.out (by trivial))
    replace E4 := Lib.hid (E4.out (by trivial))
    go_wp2_with fail
    have hl := heap_alloc_new W1 (.cells #[.int .i64 k] 3)
    have hb2 := box_below W1 (.cells #[.int .i64 k] 3)
    have hz2 : (W1.alloc (.cells #[.int .i64 k] 3)).heap.size = W1.heap.size + 1 := by simp
    replace hx1 := (hb2.block _ la1).trans hx1
    replace hx0 := (hb2.block _ la0).trans hx0
    have hbw := below_to HB.out hb2
    generalize World.alloc W1 (Obj.cells #[.int .i64 k] 3) = W2 at *
    refine (HWO.out (W1.heap.size + 1) _ W2 (ints_one _ k hl) (by omega)).mono ?_
    rintro e W3 ⟨rfl, hb⟩
    replace hx1 := (hb.block _ (lt_of_block hx1)).trans hx1
    replace hx0 := (hb.block _ (lt_of_block hx0)).trans hx0
    replace hbw := below_to hbw hb
    clear hb hb2 hl a0 a1 a2 a3 HWO
    go_wp2_with fail
    refine (HSP.out W3 hbw).mono ?_
    rintro e W4 ⟨⟨sa, sc, sk, rfl, hyes, hno⟩, hb⟩
    replace hx1 := (hb.block _ (lt_of_block hx1)).trans hx1
    replace hx0 := (hb.block _ (lt_of_block hx0)).trans hx0
    replace hbw := below_to hbw hb
    have HYES := Lib.hid hyes
    clear hb hyes hno HSP
    obtain ⟨z, hz⟩ : ∃ z, explB R (offF [k]) = z := ⟨_, rfl⟩
    rw [hz] at HYES HSH E2 E3 E4
    cases z with
    | true =>
      replace HSH := Lib.hid (HSH.out rfl)
      obtain ⟨hk, ho⟩ := HYES.out rfl
      subst hk
      have HR : Hid (RgsV W4.heap.size W4 (.slice sa R.smp.length sc) (spansL R (offF [k]))) := Lib.hid (own_rgs (l := spansL R (offF [k])) (by rw [show (spansL R (offF [k])).length = R.smp.length by simp [spansL]]; exact ownsRow_mono (Nat.zero_le _) ho))
      clear ho
      have la0 := lt_of_block hx0
      have la1 := lt_of_block hx1
      have hnn := HN.out
      have hsh := HSH.out W4.heap.size _ W4 (by have := hbw.size; omega) hbw HR.out (Nat.le_refl _)
      rw [HKK.out] at hsh
      have HSH2 := Lib.hid hsh
      clear hsh HSH
      obtain ⟨zs, hzs⟩ : ∃ zs, shB R k.toNat (spansL R (offF [k])) = zs := ⟨_, rfl⟩
      obtain ⟨sf, hsf⟩ : ∃ sf, shF R k.toNat (spansL R (offF [k])) R.smp.length = sf := ⟨_, rfl⟩
      rw [hzs, hsf] at HSH2
      rw [hzs] at E3 E4
      rw [hsf] at E4
      clear hzs hsf
      have a0 := cell_of_row W4 w.heap.size 0 _ _ _ hx0
      have a1 := cell_of_row W4 w.heap.size 1 _ _ _ hx0
      have a2 := cell_of_row W4 w.heap.size 2 _ _ _ hx0
      have a3 := cell_of_row W4 w.heap.size 3 _ _ _ hx0
      simp only [List.getElem?_toArray, List.getElem?_cons_zero, List.getElem?_cons_succ] at a0 a1 a2 a3
      cases zs with
      | true =>
        have HE := Lib.hid (E4.out (by trivial) (by trivial))
        go_wp2_with fail
        refine (HSH2.out).mono ?_
        rintro e W5 ⟨rfl, hb⟩
        have HX1 := Lib.hid ((hb.block _ (lt_of_block hx1)).trans hx1)
        have HBW := Lib.hid (below_to hbw hb)
        clear hb HSH2 a0 a1 a2 a3 la0 la1 hx0 hx1 hbw
        have hx9 := heap_alloc_new W5 (.cells #[.int .i64 sf.lo, .int .i64 sf.hi] 46)
        have hb9 := box_below W5 (.cells #[.int .i64 sf.lo, .int .i64 sf.hi] 46)
        replace HX1 := Lib.hid ((hb9.block _ (lt_of_block HX1.out)).trans HX1.out)
        replace HBW := Lib.hid (below_to HBW.out hb9)
        have p0 := cell_of_row (W5.alloc (.cells #[.int .i64 sf.lo, .int .i64 sf.hi] 46)) _ 0 _ _ _ hx9
        have p1 := cell_of_row (W5.alloc (.cells #[.int .i64 sf.lo, .int .i64 sf.hi] 46)) _ 1 _ _ _ hx9
        have l9 := lt_of_block hx9
        clear hx9 hb9
        go_wp2_with (first
          | (refine wpList_store46 rfl (.tmp 4) (.tmp 39) rfl (w.heap.size + 1) rfl _ _ (sf.lo) (sf.hi) rfl HX1.out ?_
             intro w5 hp hx5
             have HP := Lib.hid hp
             have HX5 := Lib.hid hx5
             clear hp hx5)
          | fail)
        have hc0 := cell_of_row w5 (w.heap.size + 1) 0 _ _ _ HX5.out
        have hc1 := cell_of_row w5 (w.heap.size + 1) 1 _ _ _ HX5.out
        simp only [List.getElem?_toArray, List.getElem?_cons_zero, List.getElem?_cons_succ] at hc0 hc1
        refine bodyPost_ret (v := .tuple #[.agg #[.int .i64 (sf.lo), .int .i64 (sf.hi)], .int .i64 (0)]) ?_ rfl ⟨by rw [HE.out.1, HE.out.2], HP.out.below HBW.out (by omega)⟩
        simp [results, Try.results34, go_sem, hc0, hc1]
      | false =>
        have HE := Lib.hid (E3.out (by trivial) (by trivial))
        go_wp2_with fail
        refine (HSH2.out).mono ?_
        rintro e W5 ⟨rfl, hb⟩
        have HX1 := Lib.hid ((hb.block _ (lt_of_block hx1)).trans hx1)
        have HBW := Lib.hid (below_to hbw hb)
        clear hb HSH2 a0 a1 a2 a3 la0 la1 hx0 hx1 hbw
        have hx9 := heap_alloc_new W5 (.cells #[.int .i64 sf.lo, .int .i64 sf.hi] 46)
        have hb9 := box_below W5 (.cells #[.int .i64 sf.lo, .int .i64 sf.hi] 46)
        replace HX1 := Lib.hid ((hb9.block _ (lt_of_block HX1.out)).trans HX1.out)
        replace HBW := Lib.hid (below_to HBW.out hb9)
        have p0 := cell_of_row (W5.alloc (.cells #[.int .i64 sf.lo, .int .i64 sf.hi] 46)) _ 0 _ _ _ hx9
        have p1 := cell_of_row (W5.alloc (.cells #[.int .i64 sf.lo, .int .i64 sf.hi] 46)) _ 1 _ _ _ hx9
        have l9 := lt_of_block hx9
        clear hx9 hb9
        go_wp2_with (first
          | (refine wpList_store46 rfl (.tmp 4) (.tmp 38) rfl (w.heap.size + 1) rfl _ _ (0) (0) rfl HX1.out ?_
             intro w5 hp hx5
             have HP := Lib.hid hp
             have HX5 := Lib.hid hx5
             clear hp hx5)
          | fail)
        have hc0 := cell_of_row w5 (w.heap.size + 1) 0 _ _ _ HX5.out
        have hc1 := cell_of_row w5 (w.heap.size + 1) 1 _ _ _ HX5.out
        simp only [List.getElem?_toArray, List.getElem?_cons_zero, List.getElem?_cons_succ] at hc0 hc1
        refine bodyPost_ret (v := .tuple #[.agg #[.int .i64 (0), .int .i64 (0)], .int .i64 (7)]) ?_ rfl ⟨by rw [HE.out.1, HE.out.2], HP.out.below HBW.out (by omega)⟩
        simp [results, Try.results34, go_sem, hc0, hc1]
    | false =>
      have HE := Lib.hid (E2.out (by trivial))
      go_wp2_with (first
        | (refine wpList_store46 rfl (.tmp 4) (.tmp 28) rfl (w.heap.size + 1) rfl _ _ (0) (0) rfl hx1 ?_
           intro w5 hp hx5
           have HP := Lib.hid hp
           have HX5 := Lib.hid hx5
           clear hp hx5)
        | fail)
      have hc0 := cell_of_row w5 (w.heap.size + 1) 0 _ _ _ HX5.out
      have hc1 := cell_of_row w5 (w.heap.size + 1) 1 _ _ _ HX5.out
      simp only [List.getElem?_toArray, List.getElem?_cons_zero, List.getElem?_cons_succ] at hc0 hc1
      refine bodyPost_ret (v := .tuple #[.agg #[.int .i64 (0), .int .i64 (0)], .int .i64 (9)]) ?_ rfl ⟨by rw [HE.out.1, HE.out.2], HP.out.below hbw (by omega)⟩
      simp [results, Try.results34, go_sem, hc0, hc1]
  · have hf1 : (F != 0) = true := by simp [hf]
    have hf2 : (F == 0) = false := by simp [hf]
    have HE := Lib.hid (E1.out hf)
    clear hf
    go_wp2_with (first
      | (refine wpList_store46 rfl (.tmp 4) (.tmp 16) rfl (w.heap.size + 1) rfl _ _ (0) (0) rfl hx1 ?_
         intro w5 hp hx5
         have HP := Lib.hid hp
         have HX5 := Lib.hid hx5
         clear hp hx5)
      | fail)
    have hc0 := cell_of_row w5 (w.heap.size + 1) 0 _ _ _ HX5.out
    have hc1 := cell_of_row w5 (w.heap.size + 1) 1 _ _ _ HX5.out
    simp only [List.getElem?_toArray, List.getElem?_cons_zero, List.getElem?_cons_succ] at hc0 hc1
    refine bodyPost_ret (v := .tuple #[.agg #[.int .i64 (0), .int .i64 (0)], .int .i64 (F)]) ?_ rfl ⟨by rw [HE.out.1, HE.out.2], HP.out.below HB.out (by omega)⟩
    simp [results, Try.results34, go_sem, hc0, hc1]
end Go.Proofs.Ytpdkgnfblnblbaa
