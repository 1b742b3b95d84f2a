/- The reference's check of a round: contract, exact. Condition: rows are no longer than any machine's. -/
import Derived.Test.YtpdkgnfblnblbaaLA
namespace Go.Proofs.Ytpdkgnfblnblbaa
open Go.RowKit Go.Shelf
attribute [local irreducible] arrV wpQuiet
theorem lot_eq (r : Rg) : lotB r = (hasB 0 r.hi r.lo && decide (r.hi ≤ 1000)) := by
  rw [Bool.eq_iff_iff]
  simp only [lotB, okG, ands, hasB, Bool.and_eq_true, decide_eq_true_eq]
  constructor
  · rintro ⟨h1, h2, h3⟩
    have q2 : max r.lo 0 = r.lo := of_decide_eq_true h2
    have q3 : min r.hi 1000 = r.hi := of_decide_eq_true h3
    omega
  · rintro ⟨h1, h2⟩
    exact ⟨by omega, decide_eq_true (show max r.lo 0 = r.lo by omega), decide_eq_true (show min r.hi 1000 = r.hi by omega)⟩
theorem place_eq (n : Nat) (k : Int) : placeB n k = hasB 0 ((n : Int) - 1) k := by
  rw [Bool.eq_iff_iff]
  simp only [placeB, hasB, decide_eq_true_eq]
  omega
theorem read_eq (x : Int) : readB x = hasB (-1) 1000 x := by
  rw [Bool.eq_iff_iff]
  simp only [readB, hasB, Bool.or_eq_true, decide_eq_true_eq]
  omega
theorem err_3 {R : Rd} (h : ¬ (R.lots.length ≤ 4 ∧ R.smp.length ≤ 8 ∧ R.labs.length ≤ 6)) : errR R = 3 := by
  have : shortB R = false := by
    rw [Bool.eq_false_iff]
    intro h2
    simp only [shortB, Bool.and_eq_true, decide_eq_true_eq] at h2
    omega
  unfold errR
  rw [if_neg (by rw [this]; simp)]
theorem err_v {R : Rd} (h : R.lots.length ≤ 4 ∧ R.smp.length ≤ 8 ∧ R.labs.length ≤ 6) : errR R = if validB R = true then 0 else 1 := by
  have : shortB R = true := by
    simp only [shortB, Bool.and_eq_true, decide_eq_true_eq]
    omega
  unfold errR
  rw [if_pos this]
theorem err_1 {R : Rd} (h : R.lots.length ≤ 4 ∧ R.smp.length ≤ 8 ∧ R.labs.length ≤ 6) (h2 : validB R = true → False) : errR R = 1 := by
  rw [err_v h, if_neg h2]
theorem valid_iff {R : Rd} : validB R = true ↔ (0 < R.lots.length ∧ hasB 0 100 R.sp = true) ∧ (∀ q, q < R.lots.length → lotB (rg R.lots q) = true) ∧ (∀ q, q < R.smp.length → placeB R.lots.length (ld R.smp q) = true) ∧ ∀ q, q < R.labs.length → labB R.smp.length (lb R.labs q) = true := by
  simp only [validB, Bool.and_eq_true, decide_eq_true_eq, List.all_eq_true]
  constructor
  · rintro ⟨⟨⟨⟨a1, a2⟩, a3⟩, a4⟩, a5⟩
    exact ⟨⟨a1, a4⟩, fun q hq => a2 _ (rg_mem hq), fun q hq => a3 _ (ld_mem hq), fun q hq => a5 _ (lb_mem hq)⟩
  · rintro ⟨⟨a1, a4⟩, a2, a3, a5⟩
    refine ⟨⟨⟨⟨a1, fun x hx => ?_⟩, fun x hx => ?_⟩, a4⟩, fun x hx => ?_⟩
    · obtain ⟨q, hq, rfl⟩ := List.getElem_of_mem hx
      simpa [rg, hq] using a2 q hq
    · obtain ⟨q, hq, rfl⟩ := List.getElem_of_mem hx
      simpa [ld, hq] using a3 q hq
    · obtain ⟨q, hq, rfl⟩ := List.getElem_of_mem hx
      simpa [lb, hq] using a5 q hq
theorem lab_iff {n : Nat} {x : Lb} : labB n x = true ↔ hasB 0 100 x.tol = true ∧ x.rs.length = n ∧ ∀ q, q < x.rs.length → readB (ld x.rs q) = true := by
  simp only [labB, Bool.and_eq_true, decide_eq_true_eq, List.all_eq_true]
  constructor
  · rintro ⟨⟨a1, a2⟩, a3⟩
    exact ⟨a1, by omega, fun q hq => a3 _ (ld_mem hq)⟩
  · rintro ⟨a1, a2, a3⟩
    refine ⟨⟨a1, by omega⟩, fun x hx => ?_⟩
    obtain ⟨q, hq, rfl⟩ := List.getElem_of_mem hx
    simpa [ld, hq] using a3 q hq
/-- The law's bounds of a round. -/
def thinB (R : Rd) : Bool := R.labs.all (fun x => decide (x.rs.length ≤ 10)) && decide (R.lots.length ≤ 6) && decide (R.smp.length ≤ 10) && decide (R.labs.length ≤ 8)
def readyB (R : Rd) : Bool := decide (errR R = 0)
set_option maxRecDepth 100000 in
set_option maxHeartbeats 4000000 in
theorem Fault_any (n : Nat) (p : Rp) (R : Rd) (w : World) (hm : ∀ x ∈ R.labs, x.rs.length ≤ maxLen) (hV : RdV n w p R) (hn : n ≤ w.heap.size) :
    Calls Try.prog 28 #[rdV p R] w fun e w' => e = .returned (.int .i64 (errR R)) ∧ Below w.heap.size w w' := by
  obtain ⟨h1, h2, h3⟩ := hV
  obtain ⟨pla, plc, psa, psc, pba, pbc⟩ := p
  obtain ⟨xa, xc, e, hL⟩ := h1
  unfold lotsV at e
  obtain ⟨rfl, -, rfl⟩ : pla = xa ∧ True ∧ plc = xc := by cases e; exact ⟨rfl, trivial, rfl⟩
  obtain ⟨ya, yc, e, hS⟩ := h2
  unfold smpV at e
  obtain ⟨rfl, -, rfl⟩ : psa = ya ∧ True ∧ psc = yc := by cases e; exact ⟨rfl, trivial, rfl⟩
  obtain ⟨za, zc, e, hB⟩ := h3
  unfold labsV at e
  obtain ⟨rfl, -, rfl⟩ : pba = za ∧ True ∧ pbc = zc := by cases e; exact ⟨rfl, trivial, rfl⟩
  have HL := Lib.hid hL
  have HS := Lib.hid hS
  have HBL := Lib.hid hB
  have HM := Lib.hid hm
  have HIN := Lib.hid In_any
  have E3 := Lib.hid (@err_3 R)
  have E1 := Lib.hid (@err_1 R)
  have EV := Lib.hid (@valid_iff R)
  have EZ := Lib.hid (@err_v R)
  have HX := Lib.hid (heap_alloc_new w (.cells #[.slice pla R.lots.length plc, .slice psa R.smp.length psc, .int .i64 R.sp, .slice pba R.labs.length pbc] 26))
  have HB := Lib.hid (box_below w (.cells #[.slice pla R.lots.length plc, .slice psa R.smp.length psc, .int .i64 R.sp, .slice pba R.labs.length pbc] 26))
  have hn2 : n ≤ w.heap.size := hn
  clear hL hS hB hm
  unfold rdV
  generalize errR R = F at *
  by_cases h4 : R.lots.length ≤ 4
  case neg =>
    have d4 : decide ((4 : Int) < R.lots.length) = true := decide_eq_true (by omega)
    have HF : Hid (F = 3) := Lib.hid (E3.out (by omega))
    go_enter Try.func28, Try.ntmps28
    go_wp2
    go_ret
    exact ⟨by rw [HF.out]; rfl, HB.out⟩
  have d4 : decide ((4 : Int) < R.lots.length) = false := decide_eq_false (by omega)
  by_cases h8 : R.smp.length ≤ 8
  case neg =>
    have d8 : decide ((8 : Int) < R.smp.length) = true := decide_eq_true (by omega)
    have HF : Hid (F = 3) := Lib.hid (E3.out (by omega))
    go_enter Try.func28, Try.ntmps28
    go_wp2
    go_ret
    exact ⟨by rw [HF.out]; rfl, HB.out⟩
  have d8 : decide ((8 : Int) < R.smp.length) = false := decide_eq_false (by omega)
  by_cases h6 : R.labs.length ≤ 6
  case neg =>
    have d6 : decide ((6 : Int) < R.labs.length) = true := decide_eq_true (by omega)
    have HF : Hid (F = 3) := Lib.hid (E3.out (by omega))
    go_enter Try.func28, Try.ntmps28
    go_wp2
    go_ret
    exact ⟨by rw [HF.out]; rfl, HB.out⟩
  have d6 : decide ((6 : Int) < R.labs.length) = false := decide_eq_false (by omega)
  have HC := Lib.hid (And.intro h4 (And.intro h8 h6))
  replace E1 := Lib.hid (E1.out HC.out)
  replace EZ := Lib.hid (EZ.out HC.out)
  clear E3
  by_cases h0 : R.lots.length = 0
  · have z0 : ((R.lots.length : Int) == 0) = true := beq_iff_eq.2 (by omega)
    have HF : Hid (F = 1) := Lib.hid (E1.out fun h => by have := (EV.out.1 h).1.1; omega)
    clear h0
    go_enter Try.func28, Try.ntmps28
    go_wp2
    go_ret
    exact ⟨by rw [HF.out]; rfl, HB.out⟩
  have z0 : ((R.lots.length : Int) == 0) = false := beq_eq_false_iff_ne.2 (by omega)
  have H0 := Lib.hid h0
  clear h0
  go_enter Try.func28, Try.ntmps28
  go_wp2_with fail
  generalize World.alloc w _ = W at *
  refine (HIN.out _ _ _ W).mono ?_
  rintro e w1 ⟨rfl, hb1⟩
  have HX1 := Lib.hid ((hb1.block _ (lt_of_block HX.out)).trans HX.out)
  have HB1 := Lib.hid (below_to HB.out hb1)
  clear hb1 HX HB
  cases k0 : hasB 0 100 R.sp with
  | false =>
    have HF : Hid (F = 1) := Lib.hid (E1.out fun h => by have := (EV.out.1 h).1.2; rw [k0] at this; cases this)
    clear k0
    go_wp2
    go_ret
    exact ⟨by rw [HF.out]; rfl, HB1.out⟩
  | true =>
    have K0 := Lib.hid k0
    clear k0 d4 d8 d6 z0
    go_wp2_with fail
    go_loopw [3] (fun i wr => ∃ q : Nat, q ≤ R.lots.length ∧ i = .int .i64 q ∧ Hid (∀ j, j < q → lotB (rg R.lots j) = true) ∧ Hid (wr.heap[w.heap.size]? = some (.cells #[.slice pla R.lots.length plc, .slice psa R.smp.length psc, .int .i64 R.sp, .slice pba R.labs.length pbc] 26 (0, 0))) ∧ Hid (Below w.heap.size w wr)) (fun i _ => R.lots.length - (intOf i).toNat)
    case atStart => exact ⟨0, Nat.zero_le _, rfl, Lib.hid (fun j hj => by omega), HX1, HB1⟩
    case round =>
      clear HX1 HB1
      obtain ⟨q, hq, rfl, HG, HX, HB⟩ := hrel
      have a0 := cell_of_row wr w.heap.size 0 _ _ _ HX.out
      have a1 := cell_of_row wr w.heap.size 1 _ _ _ HX.out
      have a2 := cell_of_row wr w.heap.size 2 _ _ _ HX.out
      have a3 := cell_of_row wr w.heap.size 3 _ _ _ HX.out
      simp only [List.getElem?_toArray, List.getElem?_cons_zero, List.getElem?_cons_succ] at a0 a1 a2 a3
      have la := lt_of_block HX.out
      by_cases hlt : q < R.lots.length
      · have hqn : (q : Int) < R.lots.length := by omega
        have hwk : IntKind.i64.wrap ((q : Int) + 1) = (q : Int) + 1 := IntWalk.i64_in _ (by omega)
        obtain ⟨b, off, rfl, hbn, hc⟩ := HL.out (by omega)
        have p1 := (HB.out.cell (p := ⟨b, off + q * 2, none⟩) (show b < w.heap.size by omega)).trans (hc q hlt).1
        have p2 := (HB.out.cell (p := ⟨b, off + q * 2 + 1, none⟩) (show b < w.heap.size by omega)).trans (hc q hlt).2
        have lb : b < wr.heap.size := Nat.lt_of_lt_of_le (show b < w.heap.size by omega) HB.out.size
        have HI := Lib.hid (HIN.out (rg R.lots q).lo 0 (rg R.lots q).hi)
        have HQ : Hid (lotB (rg R.lots q) = (hasB 0 (rg R.lots q).hi (rg R.lots q).lo && decide ((rg R.lots q).hi ≤ 1000))) := Lib.hid (lot_eq _)
        have HE1 : Hid (lotB (rg R.lots q) = false → F = 1) := Lib.hid fun h => E1.out fun h2 => by have := (EV.out.1 h2).2.1 q hlt; rw [h] at this; cases this
        have HGN : Hid (lotB (rg R.lots q) = true → ∀ j, j < q + 1 → lotB (rg R.lots j) = true) := Lib.hid fun h j hj => by
          by_cases e : j = q
          · rw [e]; exact h
          · exact HG.out j (by omega)
        generalize lotB (rg R.lots q) = zl at *
        generalize (rg R.lots q).lo = lo at *
        generalize (rg R.lots q).hi = hi at *
        clear hc hbn HG
        have g0 := cell_regrown a0
        have g1 := cell_regrown a1
        have g2 := cell_regrown a2
        have g3 := cell_regrown a3
        have g4 := cell_regrown p1
        have g5 := cell_regrown p2
        clear a1 a2 a3 p1 p2
        cases k1 : hasB 0 hi lo with
        | false =>
          rw [k1] at HI HQ
          have HF : Hid (F = 1) := Lib.hid (HE1.out (by rw [HQ.out]; simp))
          clear k1
          go_wp2_with fail
          refine wp_region_quiet_below (by kernel_rfl) (by kernel_rfl) ?_
          repeat (quiet_step (first | with_reducible exact Calls.regrown_of (HI.out _)))
          refine wpQuiet_nil ?_
          intro _ hw'
          obtain ⟨⟨dq, osq⟩, hw''⟩ := hw'
          subst hw''
          go_wp2
          go_ret
          exact ⟨by rw [HF.out]; rfl, below_to HB.out (below_regrown wr dq osq)⟩
        | true =>
          rw [k1] at HI HQ
          clear k1
          by_cases k2 : hi ≤ 1000
          · have d2 : decide (1000 < hi) = false := decide_eq_false (by omega)
            have HG := Lib.hid (HGN.out (by rw [HQ.out]; simp [k2]))
            clear k2
            go_wp2_with fail
            refine wp_region_quiet_below (by kernel_rfl) (by kernel_rfl) ?_
            repeat (quiet_step (first | with_reducible exact Calls.regrown_of (HI.out _)))
            refine wpQuiet_nil ?_
            intro _ hw'
            obtain ⟨⟨dq, osq⟩, hw''⟩ := hw'
            subst hw''
            have HXX := Lib.hid ((below_regrown wr dq osq).block _ (lt_of_block HX.out) |>.trans HX.out)
            have HBB := Lib.hid (below_to HB.out (below_regrown wr dq osq))
            clear g0 g1 g2 g3 g4 g5 a0
            go_wp2
            go_roundw
            case rel => exact ⟨q + 1, by omega, by simp, HG, HXX, HBB⟩
            case measure => simp [intOf]; omega
          · have d2 : decide (1000 < hi) = true := decide_eq_true (by omega)
            have HF : Hid (F = 1) := Lib.hid (HE1.out (by rw [HQ.out]; simp [k2]))
            clear k2
            go_wp2_with fail
            refine wp_region_quiet_below (by kernel_rfl) (by kernel_rfl) ?_
            repeat (quiet_step (first | with_reducible exact Calls.regrown_of (HI.out _)))
            refine wpQuiet_nil ?_
            intro _ hw'
            obtain ⟨⟨dq, osq⟩, hw''⟩ := hw'
            subst hw''
            go_wp2
            go_ret
            exact ⟨by rw [HF.out]; rfl, below_to HB.out (below_regrown wr dq osq)⟩
      · obtain rfl : q = R.lots.length := by omega
        have HLA := HG
        have HX1 := HX
        have HB1 := HB
        clear HG HX HB hq hlt
        go_wp2
        go_loopw [4] (fun i wr => ∃ q : Nat, q ≤ R.smp.length ∧ i = .int .i64 q ∧ Hid (∀ j, j < q → placeB R.lots.length (ld R.smp j) = true) ∧ Hid (wr.heap[w.heap.size]? = some (.cells #[.slice pla R.lots.length plc, .slice psa R.smp.length psc, .int .i64 R.sp, .slice pba R.labs.length pbc] 26 (0, 0))) ∧ Hid (Below w.heap.size w wr)) (fun i _ => R.smp.length - (intOf i).toNat)
        case atStart => exact ⟨0, Nat.zero_le _, rfl, Lib.hid (fun j hj => by omega), HX1, HB1⟩
        case round =>
          clear HX1 HB1
          obtain ⟨q, hq, rfl, HG, HX, HB⟩ := hrel
          have a0 := cell_of_row wr w.heap.size 0 _ _ _ HX.out
          have a1 := cell_of_row wr w.heap.size 1 _ _ _ HX.out
          have a2 := cell_of_row wr w.heap.size 2 _ _ _ HX.out
          have a3 := cell_of_row wr w.heap.size 3 _ _ _ HX.out
          simp only [List.getElem?_toArray, List.getElem?_cons_zero, List.getElem?_cons_succ] at a0 a1 a2 a3
          have la := lt_of_block HX.out
          by_cases hlt : q < R.smp.length
          · have hqn : (q : Int) < R.smp.length := by omega
            have hwk : IntKind.i64.wrap ((q : Int) + 1) = (q : Int) + 1 := IntWalk.i64_in _ (by omega)
            have hwl : IntKind.i64.wrap ((R.lots.length : Int) - 1) = (R.lots.length : Int) - 1 := IntWalk.i64_in _ (by omega)
            obtain ⟨b, off, rfl, hbn, hc⟩ := HS.out (by omega)
            have p1 := (HB.out.cell (p := ⟨b, off + q, none⟩) (show b < w.heap.size by omega)).trans (hc q hlt)
            have lb : b < wr.heap.size := Nat.lt_of_lt_of_le (show b < w.heap.size by omega) HB.out.size
            have HI := Lib.hid (HIN.out (ld R.smp q) 0 ((R.lots.length : Int) - 1))
            have HQ := Lib.hid (place_eq R.lots.length (ld R.smp q))
            have HE1 : Hid (placeB R.lots.length (ld R.smp q) = false → F = 1) := Lib.hid fun h => E1.out fun h2 => by have := (EV.out.1 h2).2.2.1 q hlt; rw [h] at this; cases this
            have HGN : Hid (placeB R.lots.length (ld R.smp q) = true → ∀ j, j < q + 1 → placeB R.lots.length (ld R.smp j) = true) := Lib.hid fun h j hj => by
              by_cases e : j = q
              · rw [e]; exact h
              · exact HG.out j (by omega)
            generalize placeB R.lots.length (ld R.smp q) = zl at *
            generalize ld R.smp q = sv at *
            clear hc hbn HG
            have g0 := cell_regrown a0
            have g1 := cell_regrown a1
            have g2 := cell_regrown a2
            have g3 := cell_regrown a3
            have g4 := cell_regrown p1
            clear a2 a3 p1
            cases k1 : hasB 0 ((R.lots.length : Int) - 1) sv with
            | false =>
              rw [k1] at HI HQ
              have HF : Hid (F = 1) := Lib.hid (HE1.out HQ.out)
              clear k1
              go_wp2_with fail
              refine wp_region_quiet_below (by kernel_rfl) (by kernel_rfl) ?_
              repeat (quiet_step (first | with_reducible exact Calls.regrown_of (HI.out _)))
              refine wpQuiet_nil ?_
              intro _ hw'
              obtain ⟨⟨dq, osq⟩, hw''⟩ := hw'
              subst hw''
              go_wp2
              go_ret
              exact ⟨by rw [HF.out]; rfl, below_to HB.out (below_regrown wr dq osq)⟩
            | true =>
              rw [k1] at HI HQ
              clear k1
              have HG := Lib.hid (HGN.out HQ.out)
              go_wp2_with fail
              refine wp_region_quiet_below (by kernel_rfl) (by kernel_rfl) ?_
              repeat (quiet_step (first | with_reducible exact Calls.regrown_of (HI.out _)))
              refine wpQuiet_nil ?_
              intro _ hw'
              obtain ⟨⟨dq, osq⟩, hw''⟩ := hw'
              subst hw''
              have HXX := Lib.hid ((below_regrown wr dq osq).block _ (lt_of_block HX.out) |>.trans HX.out)
              have HBB := Lib.hid (below_to HB.out (below_regrown wr dq osq))
              clear g0 g1 g2 g3 g4 a0 a1
              go_wp2
              go_roundw
              case rel => exact ⟨q + 1, by omega, by simp, HG, HXX, HBB⟩
              case measure => simp [intOf]; omega
          · obtain rfl : q = R.smp.length := by omega
            have HSA := HG
            have HX1 := HX
            have HB1 := HB
            clear HG HX HB hq hlt
            go_wp2
            go_loopw [5] (fun i wr => ∃ q : Nat, q ≤ R.labs.length ∧ i = .int .i64 q ∧ Hid (∀ j, j < q → labB R.smp.length (lb R.labs j) = true) ∧ Hid (wr.heap[w.heap.size]? = some (.cells #[.slice pla R.lots.length plc, .slice psa R.smp.length psc, .int .i64 R.sp, .slice pba R.labs.length pbc] 26 (0, 0))) ∧ Hid (Below w.heap.size w wr)) (fun i _ => R.labs.length - (intOf i).toNat)
            case atStart => exact ⟨0, Nat.zero_le _, rfl, Lib.hid (fun j hj => by omega), HX1, HB1⟩
            case round =>
              clear HX1 HB1
              obtain ⟨q, hq, rfl, HG, HX, HB⟩ := hrel
              have a0 := cell_of_row wr w.heap.size 0 _ _ _ HX.out
              have a1 := cell_of_row wr w.heap.size 1 _ _ _ HX.out
              have a2 := cell_of_row wr w.heap.size 2 _ _ _ HX.out
              have a3 := cell_of_row wr w.heap.size 3 _ _ _ HX.out
              simp only [List.getElem?_toArray, List.getElem?_cons_zero, List.getElem?_cons_succ] at a0 a1 a2 a3
              have la := lt_of_block HX.out
              by_cases hlt : q < R.labs.length
              · have hqn : (q : Int) < R.labs.length := by omega
                have hwk : IntKind.i64.wrap ((q : Int) + 1) = (q : Int) + 1 := IntWalk.i64_in _ (by omega)
                obtain ⟨b, off, rfl, hbn, hc⟩ := HBL.out (by omega)
                obtain ⟨hc1, r, hc2, ra, rc, rfl, hrp⟩ := hc q hlt
                have p1 := (HB.out.cell (p := ⟨b, off + q * 2, none⟩) (show b < w.heap.size by omega)).trans hc1
                have p2 := (HB.out.cell (p := ⟨b, off + q * 2 + 1, none⟩) (show b < w.heap.size by omega)).trans hc2
                have lb' : b < wr.heap.size := Nat.lt_of_lt_of_le (show b < w.heap.size by omega) HB.out.size
                have HRP := Lib.hid hrp
                have HI := Lib.hid (HIN.out (lb R.labs q).tol 0 100)
                have HML := Lib.hid (HM.out _ (lb_mem hlt))
                have HQ := Lib.hid (@lab_iff R.smp.length (lb R.labs q))
                have HE1 : Hid (labB R.smp.length (lb R.labs q) ≠ true → F = 1) := Lib.hid fun h => E1.out fun h2 => h ((EV.out.1 h2).2.2.2 q hlt)
                have HGN : Hid (labB R.smp.length (lb R.labs q) = true → ∀ j, j < q + 1 → labB R.smp.length (lb R.labs j) = true) := Lib.hid fun h j hj => by
                  by_cases e : j = q
                  · rw [e]; exact h
                  · exact HG.out j (by omega)
                generalize labB R.smp.length (lb R.labs q) = zl at *
                generalize (lb R.labs q).tol = tol at *
                generalize (lb R.labs q).rs = rs at *
                clear hc hc1 hc2 hbn HG hrp
                have hbx := box_below wr (.cells #[.int .i64 tol, .slice ra rs.length rc] 70)
                have hnx := heap_alloc_new wr (.cells #[.int .i64 tol, .slice ra rs.length rc] 70)
                have hzx : (wr.alloc (.cells #[.int .i64 tol, .slice ra rs.length rc] 70)).heap.size = wr.heap.size + 1 := by simp
                go_wp2_with fail
                generalize World.alloc wr _ = W2 at *
                have HN2 := Lib.hid hnx
                have HX2 := Lib.hid ((hbx.block _ (lt_of_block HX.out)).trans HX.out)
                have HB2 := Lib.hid (below_to HB.out hbx)
                have hsw := HB.out.size
                clear hnx hbx hzx HX HB a0 a1 a2 a3 p1 p2 la lb'
                refine (HI.out W2).mono ?_
                rintro e w2 ⟨rfl, hb3⟩
                have HX3 := Lib.hid ((hb3.block _ (lt_of_block HX2.out)).trans HX2.out)
                have HN3 := Lib.hid ((hb3.block _ (lt_of_block HN2.out)).trans HN2.out)
                have HB3 := Lib.hid (below_to HB2.out hb3)
                clear hb3 HX2 HN2 HB2
                generalize wr.heap.size = bx at *
                have a0 := cell_of_row w2 w.heap.size 0 _ _ _ HX3.out
                have a1 := cell_of_row w2 w.heap.size 1 _ _ _ HX3.out
                have a2 := cell_of_row w2 w.heap.size 2 _ _ _ HX3.out
                have a3 := cell_of_row w2 w.heap.size 3 _ _ _ HX3.out
                simp only [List.getElem?_toArray, List.getElem?_cons_zero, List.getElem?_cons_succ] at a0 a1 a2 a3
                have la := lt_of_block HX3.out
                have t0 := cell_of_row w2 bx 0 _ _ _ HN3.out
                have t1 := cell_of_row w2 bx 1 _ _ _ HN3.out
                simp only [List.getElem?_toArray, List.getElem?_cons_zero, List.getElem?_cons_succ] at t0 t1
                have lx := lt_of_block HN3.out
                cases k1 : hasB 0 100 tol with
                | false =>
                  have HF : Hid (F = 1) := Lib.hid (HE1.out fun h => by have := (HQ.out.1 h).1; rw [k1] at this; cases this)
                  clear k1
                  go_wp2
                  go_ret
                  exact ⟨by rw [HF.out]; rfl, HB3.out⟩
                | true =>
                  have K1 := Lib.hid k1
                  clear k1
                  by_cases hlen : rs.length = R.smp.length
                  · have dl : ((rs.length : Int) != R.smp.length) = false := by rw [hlen]; simp
                    have HLE := Lib.hid hlen
                    clear hlen
                    go_wp2
                    go_loopw [7] (fun i wr => ∃ q : Nat, q ≤ rs.length ∧ i = .int .i64 q ∧ Hid (∀ j, j < q → readB (ld rs j) = true) ∧ Hid (wr.heap[w.heap.size]? = some (.cells #[.slice pla R.lots.length plc, .slice psa R.smp.length psc, .int .i64 R.sp, .slice (some ⟨b, off, none⟩) R.labs.length pbc] 26 (0, 0))) ∧ Hid (wr.heap[bx]? = some (.cells #[.int .i64 tol, .slice ra rs.length rc] 70 (0, 0))) ∧ Hid (Below w.heap.size w wr)) (fun i _ => rs.length - (intOf i).toNat)
                    case atStart => exact ⟨0, Nat.zero_le _, rfl, Lib.hid (fun j hj => by omega), HX3, HN3, HB3⟩
                    case round =>
                      clear HX3 HN3 HB3 a0 a1 a2 a3 t0 t1 la lx dl
                      obtain ⟨m, hm, rfl, HG2, HX4, HN4, HB4⟩ := hrel
                      have t0 := cell_of_row wr bx 0 _ _ _ HN4.out
                      have t1 := cell_of_row wr bx 1 _ _ _ HN4.out
                      simp only [List.getElem?_toArray, List.getElem?_cons_zero, List.getElem?_cons_succ] at t0 t1
                      have lx := lt_of_block HN4.out
                      by_cases hmt : m < rs.length
                      · have hmn : (m : Int) < rs.length := by omega
                        have hwm : IntKind.i64.wrap ((m : Int) + 1) = (m : Int) + 1 := IntWalk.i64_in _ (by have := HLE.out; omega)
                        obtain ⟨c, co, hce, hcn, hcc⟩ := HRP.out (by omega)
                        rw [hce] at t1
                        have p1 := (HB4.out.cell (p := ⟨c, co + m, none⟩) (show c < w.heap.size by omega)).trans (hcc m hmt)
                        have lc : c < wr.heap.size := Nat.lt_of_lt_of_le (show c < w.heap.size by omega) HB4.out.size
                        have HI2 := Lib.hid (HIN.out (ld rs m) (-1) 1000)
                        rw [← read_eq] at HI2
                        have HE2 : Hid (readB (ld rs m) = false → F = 1) := Lib.hid fun h => HE1.out fun h2 => by have := (HQ.out.1 h2).2.2 m hmt; rw [h] at this; cases this
                        have HG3 : Hid (readB (ld rs m) = true → ∀ j, j < m + 1 → readB (ld rs j) = true) := Lib.hid fun h j hj => by
                          by_cases e : j = m
                          · rw [e]; exact h
                          · exact HG2.out j (by omega)
                        generalize readB (ld rs m) = zr at *
                        generalize ld rs m = rv at *
                        clear hcc hcn HG2 hce
                        go_wp2_with fail
                        refine (HI2.out wr).mono ?_
                        rintro e w5 ⟨rfl, hb5⟩
                        have HX5 := Lib.hid ((hb5.block _ (lt_of_block HX4.out)).trans HX4.out)
                        have HN5 := Lib.hid ((hb5.block _ (lt_of_block HN4.out)).trans HN4.out)
                        have HB5 := Lib.hid (below_to HB4.out hb5)
                        clear hb5 HX4 HN4 HB4 t0 t1 lx p1 lc
                        cases zr with
                        | false =>
                          have HF : Hid (F = 1) := Lib.hid (HE2.out rfl)
                          go_wp2
                          go_ret
                          exact ⟨by rw [HF.out]; rfl, HB5.out⟩
                        | true =>
                          have HG := Lib.hid (HG3.out rfl)
                          go_wp2
                          go_roundw
                          case rel => exact ⟨m + 1, by omega, by simp, HG, HX5, HN5, HB5⟩
                          case measure => simp [intOf]; omega
                      · obtain rfl : m = rs.length := by omega
                        have HG := Lib.hid (HGN.out (HQ.out.2 ⟨K1.out, HLE.out, HG2.out⟩))
                        clear HG2
                        go_wp2
                        go_roundw
                        case rel => exact ⟨q + 1, by omega, by simp, HG, HX4, HB4⟩
                        case measure => simp [intOf]; omega
                  · have dl : ((rs.length : Int) != R.smp.length) = true := bne_iff_ne.2 (by omega)
                    have HF : Hid (F = 1) := Lib.hid (HE1.out fun h => by have := (HQ.out.1 h).2.1; omega)
                    clear hlen
                    go_wp2
                    go_ret
                    exact ⟨by rw [HF.out]; rfl, HB3.out⟩
              · obtain rfl : q = R.labs.length := by omega
                have HF : Hid (F = 0) := Lib.hid (by
                  have := HC.out
                  rw [EZ.out, if_pos]
                  exact EV.out.2 ⟨⟨by have := H0.out; omega, K0.out⟩, HLA.out, HSA.out, HG.out⟩)
                clear HG
                go_wp2
                go_ret
                exact ⟨by rw [HF.out]; rfl, HB.out⟩
end Go.Proofs.Ytpdkgnfblnblbaa
