/- Which readings, lots, numbers and rounds are short: contracts. No condition. -/
import Derived.Test.YtpdkgnfblnblbaaF
namespace Go.Proofs.Ytpdkgnfblnblbaa
open Go.RowKit Go.Shelf
attribute [local irreducible] arrV wpQuiet
/-- What makes a reading, a lot, a number, a laboratory, a round valid. -/
def readB (n : Int) : Bool := decide (n = -1) || hasB 0 1000 n
def lotB (r : Rg) : Bool := okG r && (decide ((ands r ⟨0, 1000⟩).lo = r.lo) && decide ((ands r ⟨0, 1000⟩).hi = r.hi))
def placeB (n : Nat) (k : Int) : Bool := decide (0 ≤ k ∧ k < n)
def labB (n : Nat) (x : Lb) : Bool := hasB 0 100 x.tol && decide ((x.rs.length : Int) = n) && x.rs.all readB
def shortB (R : Rd) : Bool := decide ((R.lots.length : Int) ≤ 4) && decide ((R.smp.length : Int) ≤ 8) && decide ((R.labs.length : Int) ≤ 6)
def validB (R : Rd) : Bool := decide (0 < R.lots.length) && R.lots.all lotB && R.smp.all (placeB R.lots.length) && hasB 0 100 R.sp && R.labs.all (labB R.smp.length)
def errR (R : Rd) : Int := if shortB R = true then (if validB R = true then 0 else 1) else 3
def riseB (l : List Int) : Bool := (List.range (l.length - 1)).all fun i => decide (ld l i < ld l (i + 1))
def offE (R : Rd) (l : List Int) : Int := if errR R = 0 then (if (l.all (placeB R.labs.length) && riseB l) = true then 0 else 2) else errR R
theorem err_ok {R : Rd} (h : errR R = 0) : RdOk R := by
  unfold errR at h
  have h1 : shortB R = true := by
    cases e : shortB R with
    | true => rfl
    | false => rw [e] at h; simp at h
  have h2 : validB R = true := by
    cases e : validB R with
    | true => rfl
    | false => rw [h1, e] at h; simp at h
  simp only [shortB, Bool.and_eq_true, decide_eq_true_eq] at h1
  obtain ⟨⟨s1, s2⟩, s3⟩ := h1
  simp only [validB, Bool.and_eq_true, decide_eq_true_eq, List.all_eq_true, hasB] at h2
  obtain ⟨⟨⟨⟨a1, a2⟩, a3⟩, a4⟩, a5⟩ := h2
  refine ⟨by omega, a1, by omega, by omega, a4, fun l hl => ?_, fun s hs => ?_, fun x hx => ?_, fun x hx => ?_, fun x hx r hr => ?_⟩
  · have := a2 l hl
    simp only [lotB, okG, ands, Bool.and_eq_true, decide_eq_true_eq] at this
    obtain ⟨q1, q2, q3⟩ := this
    have q4 : max l.lo 0 = l.lo := of_decide_eq_true q2
    have q5 : min l.hi 1000 = l.hi := of_decide_eq_true q3
    omega
  · have := a3 s hs
    simpa [placeB] using this
  · have := a5 x hx
    simp only [labB, hasB, Bool.and_eq_true, decide_eq_true_eq] at this
    exact this.1.1
  · have := a5 x hx
    simp only [labB, hasB, Bool.and_eq_true, decide_eq_true_eq] at this
    omega
  · have := a5 x hx
    simp only [labB, Bool.and_eq_true, List.all_eq_true] at this
    have := this.2 r hr
    simp only [readB, hasB, Bool.or_eq_true, decide_eq_true_eq] at this
    omega

noncomputable def fl46 : Array Field := #[{ name := "Lo", type := 3, offset := 0, embedded := false, tag := "", pkgPath := "", byteOffset := 0 }, { name := "Hi", type := 3, offset := 1, embedded := false, tag := "", pkgPath := "", byteOffset := 8 }]
theorem f46 : Try.prog.fieldsOf 46 = fl46 := by kernel_rfl
theorem s46f : Try.prog.underlying 46 = some (.struct (Try.prog.fieldsOf 46)) := by kernel_rfl
theorem st46 : Try.prog.stoodInHeld 46 = false := by kernel_rfl
theorem pk3 : Try.prog.plainKey 3 = true := by kernel_rfl
theorem part0 (a b : Int) (w : World) : (part 3 #[Value.int .i64 a, .int .i64 b] 0).run Try.prog w = .ok (.int .i64 a) w := run_part_plain w pk3 rfl
theorem part1 (a b : Int) (w : World) : (part 3 #[Value.int .i64 a, .int .i64 b] 1).run Try.prog w = .ok (.int .i64 b) w := run_part_plain w pk3 rfl
theorem equal46 (a b c d : Int) (w : World) : (Op.equal 46 (.agg #[.int .i64 a, .int .i64 b]) (.agg #[.int .i64 c, .int .i64 d])).run Try.prog w = .ok (decide (a = c) && decide (b = d)) w := by
  show (Op.equalIn (9999 + 1) 46 _ _).run Try.prog w = _
  rw [run_equalIn_struct w 9999 46 _ _ s46f st46, f46]
  have e : ∀ a b : Int, (Op.equalIn 9999 3 (.int .i64 a) (.int .i64 b)).run Try.prog w = .ok (a == b) w := fun a b => run_equalIn_int w 9998 3 .i64 .i64 a b Try.underlying3
  simp only [fl46, Op.eqFields, Sem.run_bind, Sem.run_ite, part0, part1, Result.andThen_ok, e, Sem.run_pure, show ("Lo" ≠ "_") = True from by simp, show ("Hi" ≠ "_") = True from by simp, if_true]
  cases h1 : (a == c) <;> cases h2 : (b == d) <;> simp at h1 h2 <;> simp [h1, h2]
theorem eqr46 (a b c d : Int) (w : World) : (binOp .eql 46 (.agg #[.int .i64 a, .int .i64 b]) (.agg #[.int .i64 c, .int .i64 d])).run Try.prog w = .ok (.bool (decide (a = c) && decide (b = d))) w := by
  simp [binOp, Sem.run_bind, equal46 a b c d w, Result.andThen_ok, Sem.run_pure]
set_option maxRecDepth 100000 in
set_option maxHeartbeats 1000000 in
theorem isReading_any (n : Int) (w : World) : Calls Try.prog 90 #[.int .i64 n] w fun e w' => e = .returned (.bool (readB n)) ∧ Below w.heap.size w w' := by
  have HV := Lib.hid everyValue_any
  have HH := Lib.hid (has_any 0 1000 n)
  have HB := Lib.hid (Below.refl w.heap.size w)
  have e0 : readB n = (decide (n = -1) || hasB 0 1000 n) := rfl
  rw [e0]
  clear e0
  generalize hasB 0 1000 n = z at *
  by_cases h : n = -1
  · have h1 : (n == -1) = true := by simp [h]
    have h2 : decide (n = -1) = true := decide_eq_true h
    rw [h2]
    clear h h2
    go_enter Try.func90, Try.ntmps90
    go_wp2
    go_ret
    exact ⟨rfl, HB.out⟩
  · have h1 : (n == -1) = false := by simp [h]
    have h2 : decide (n = -1) = false := decide_eq_false h
    rw [h2]
    clear h h2
    go_enter Try.func90, Try.ntmps90
    go_wp2_with fail
    refine (HV.out _).mono ?_
    rintro e w1 ⟨rfl, hb1⟩
    go_wp2_with fail
    refine (HH.out _).mono ?_
    rintro e w2 ⟨rfl, hb2⟩
    have HB2 := Lib.hid (below_to hb1 hb2)
    clear hb1 hb2
    go_wp2
    go_ret
    exact ⟨by simp, HB2.out⟩

set_option maxRecDepth 100000 in
set_option maxHeartbeats 1000000 in
theorem isLot_any (r : Rg) (w : World) : Calls Try.prog 76 #[.agg #[.int .i64 r.lo, .int .i64 r.hi]] w fun e w' => e = .returned (.bool (lotB r)) ∧ Below w.heap.size w w' := by
  have HV := Lib.hid everyValue_any
  have HS := Lib.hid (hasSome_any r.lo r.hi)
  have HC := Lib.hid (common_any r ⟨0, 1000⟩)
  have HX := Lib.hid (heap_alloc_new w (.cells #[.int .i64 r.lo, .int .i64 r.hi] 46))
  have HB := Lib.hid (box_below w (.cells #[.int .i64 r.lo, .int .i64 r.hi] 46))
  have e0 : lotB r = (okG ⟨r.lo, r.hi⟩ && (decide ((ands r ⟨0, 1000⟩).lo = r.lo) && decide ((ands r ⟨0, 1000⟩).hi = r.hi))) := rfl
  have HE := Lib.hid fun w => eqr46 (ands r ⟨0, 1000⟩).lo (ands r ⟨0, 1000⟩).hi r.lo r.hi w
  rw [e0]
  clear e0
  generalize okG ⟨r.lo, r.hi⟩ = z at *
  generalize (ands r ⟨0, 1000⟩).lo = xl at *
  generalize (ands r ⟨0, 1000⟩).hi = xh at *
  generalize (decide (xl = r.lo) && decide (xh = r.hi)) = y at *
  generalize r.lo = rl at *
  generalize r.hi = rh at *
  go_enter Try.func76, Try.ntmps76
  go_wp2
  generalize World.alloc w _ = W at *
  have c0 := cell_of_row W w.heap.size 0 _ _ _ HX.out
  have c1 := cell_of_row W w.heap.size 1 _ _ _ HX.out
  simp only [List.getElem?_toArray, List.getElem?_cons_zero, List.getElem?_cons_succ] at c0 c1
  have g0 := cell_regrown c0
  have g1 := cell_regrown c1
  have he := HE.out
  clear c0 c1
  cases z with
  | false =>
    refine wp_region_quiet_below (by kernel_rfl) (by kernel_rfl) ?_
    repeat (quiet_step (first | with_reducible exact Calls.regrown_of (HS.out _) | with_reducible exact Calls.regrown_of (HV.out _) | with_reducible exact Calls.regrown_of (HC.out _)))
    refine wpQuiet_nil ?_
    intro _ hw'
    obtain ⟨⟨dq, osq⟩, hw''⟩ := hw'
    subst hw''
    go_wp2
    go_ret
    exact ⟨rfl, below_to HB.out (below_regrown W dq osq)⟩
  | true =>
    refine wp_region_quiet_below (by kernel_rfl) (by kernel_rfl) ?_
    repeat (quiet_step (first | with_reducible exact Calls.regrown_of (HS.out _) | with_reducible exact Calls.regrown_of (HV.out _) | with_reducible exact Calls.regrown_of (HC.out _)))
    refine wpQuiet_nil ?_
    intro _ hw'
    obtain ⟨⟨dq, osq⟩, hw''⟩ := hw'
    subst hw''
    go_wp2
    go_ret
    exact ⟨by simp, below_to HB.out (below_regrown W dq osq)⟩

set_option maxRecDepth 100000 in
set_option maxHeartbeats 1000000 in
theorem hasLot_any (p : Rp) (R : Rd) (k : Int) (w : World) : Calls Try.prog 77 #[rdV p R, .int .i64 k] w fun e w' => e = .returned (.bool (placeB R.lots.length k)) ∧ Below w.heap.size w w' := by
  have HB := Lib.hid (box_below w (.cells #[.slice p.la R.lots.length p.lc, .slice p.sa R.smp.length p.sc, .int .i64 R.sp, .slice p.ba R.labs.length p.bc] 34))
  unfold rdV
  go_enter Try.func77, Try.ntmps77
  go_wp2
  all_goals
    go_ret
    refine ⟨ret_bool ?_, HB.out⟩
    simp [placeB, *]
    try omega

set_option maxRecDepth 100000 in
set_option maxHeartbeats 1000000 in
theorem hasLab_any (p : Rp) (R : Rd) (k : Int) (w : World) : Calls Try.prog 59 #[rdV p R, .int .i64 k] w fun e w' => e = .returned (.bool (placeB R.labs.length k)) ∧ Below w.heap.size w w' := by
  have HB := Lib.hid (box_below w (.cells #[.slice p.la R.lots.length p.lc, .slice p.sa R.smp.length p.sc, .int .i64 R.sp, .slice p.ba R.labs.length p.bc] 34))
  unfold rdV
  go_enter Try.func59, Try.ntmps59
  go_wp2
  all_goals
    go_ret
    refine ⟨ret_bool ?_, HB.out⟩
    simp [placeB, *]
    try omega

set_option maxRecDepth 100000 in
set_option maxHeartbeats 1000000 in
theorem isShort_any (p : Rp) (R : Rd) (w : World) : Calls Try.prog 56 #[rdV p R] w fun e w' => e = .returned (.bool (shortB R)) ∧ Below w.heap.size w w' := by
  have HB := Lib.hid (box_below w (.cells #[.slice p.la R.lots.length p.lc, .slice p.sa R.smp.length p.sc, .int .i64 R.sp, .slice p.ba R.labs.length p.bc] 34))
  unfold rdV
  go_enter Try.func56, Try.ntmps56
  go_wp2
  all_goals
    go_ret
    refine ⟨ret_bool ?_, HB.out⟩
    simp [shortB, *]
    try (intros; omega)
end Go.Proofs.Ytpdkgnfblnblbaa
