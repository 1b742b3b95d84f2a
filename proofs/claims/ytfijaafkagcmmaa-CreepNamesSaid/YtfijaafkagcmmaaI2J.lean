/- The checks of a material and of runs, whatever they are: contracts. Condition: lists no longer than any machine's. The checks of a room, of plans and lives, whatever they are, and the calls that end with an error: contracts. Condition: lists no longer than any machine's. -/
import Derived.Test.YtfijaafkagcmmaaE7J
namespace Go.Proofs.Ytfijaafkagcmmaa
open Go.RowKit Go.Shelf
attribute [local irreducible] arrV wpQuiet

theorem IsRt.weaker {ms : List Rg} {l m : Int} {x : List Int} (h : IsRt ms l x) (hm : m ≤ l) : IsRt ms m x := by
  match ms, x, h with
  | [], [], _ => trivial
  | _ :: _, _ :: _, h => exact ⟨by have := h.1; omega, h.2.1, h.2.2.1, h.2.2.2⟩
  | [], _ :: _, h => exact h.elim
  | _ :: _, [], h => exact h.elim
theorem matGo_of : ∀ {ms : List Rg} {m : Int} {x : List Int}, (∀ r, r ∈ ms → 0 ≤ r.lo ∧ r.lo ≤ r.hi ∧ r.hi ≤ 1000 ∧ r.hi - r.lo ≤ 20) → IsRt ms m x → matGo ms m = true
  | [], _, _, _, _ => rfl
  | r :: ms, m, n :: x, hr, h => by
    have h1 := hr r (by simp)
    obtain ⟨a1, a2, a3, a4⟩ := h
    have ih := matGo_of (fun q hq => hr q (by simp [hq])) (a4.weaker (show max m r.lo ≤ n by omega))
    simp only [matGo, rangeB, hasB, Bool.and_eq_true, decide_eq_true_eq]
    exact ⟨by omega, by omega, ih⟩
  | _ :: _, _, [], _, h => h.elim
theorem matB_of {ms : List Rg} (h : MatOk ms) : matB ms = true := by
  obtain ⟨x, hx⟩ := List.exists_mem_of_ne_nil _ h.some
  have h1 := h.one
  have h2 := h.len
  simp only [matB, hasB, Bool.and_eq_true, decide_eq_true_eq]
  exact ⟨by omega, matGo_of h.rg ((mem_listsL ms 0 x).1 hx)⟩
theorem bandsB_iff {ms : List Rg} (h : bandsB ms = true) : RgsOk ms := by
  simp only [bandsB, hasB, Bool.and_eq_true, decide_eq_true_eq] at h
  refine ⟨by omega, by omega, fun r hr => ?_⟩
  obtain ⟨j, hj, rfl⟩ := List.mem_iff_getElem.1 hr
  have := allN_iff.1 h.2 j hj
  simp only [rg, hj, List.getElem?_eq_getElem, Option.getD_some, rateB, withinB, Bool.and_eq_true, decide_eq_true_eq] at this
  omega
theorem mat_no {ms : List Rg} (h : bandsB ms = false) : matB ms = false := by
  cases hm : matB ms with
  | false => rfl
  | true =>
    rw [bandsB_ok (matB_ok hm).toRgsOk] at h
    cases h
theorem mat_yes {ms : List Rg} (h : bandsB ms = true) : emptyE (someB (allL ms)) = matE ms := by
  cases hm : matB ms with
  | true =>
    rw [some_ok (matB_ok hm)]
    exact (if_pos hm).symm
  | false =>
    have hn : allL ms = [] := by
      apply Classical.byContradiction
      intro hc
      rw [matB_of ⟨bandsB_iff h, hc⟩] at hm
      cases hm
    rw [hn]
    exact (if_neg (by rw [hm]; simp)).symm

set_option maxRecDepth 100000 in
set_option maxHeartbeats 1000000 in
theorem mcheck_any (n : Nat) (mv : Value) (ms : List Rg) (w : World) (hl : ms.length ≤ maxLen) (hV : RgsV n w mv ms) (hn : n ≤ w.heap.size) :
    Calls Try.prog 53 #[.agg #[mv]] w fun e w' => e = .returned (.int .i64 (matE ms)) ∧ Below w.heap.size w w' := by
  cases hb : bandsB ms with
  | true =>
    have := mcheck_ok n mv ms w (bandsB_iff hb) hV hn
    rw [mat_yes hb] at this
    exact this
  | false =>
    have hE : Hid (matE ms = 1) := Lib.hid (if_neg (by rw [mat_no hb]; simp))
    have HHB := Lib.hid fun w' (h : Below w.heap.size w w') => hasBands_any n mv ms w' hl (hV.same (.below hn h)) (Nat.le_trans hn h.size)
    rw [hb] at HHB
    obtain ⟨a, cap, rfl, -⟩ := hV
    have HB := Lib.hid (box_below w (.cells #[.slice a ms.length cap] 33))
    clear hb hl
    go_enter Try.func53, Try.ntmps53
    go_wp2_with fail
    refine (HHB.out _ HB.out).mono ?_
    rintro e w1 ⟨rfl, hb1⟩
    have HB1 := Lib.hid (below_to HB.out hb1)
    clear hb1
    go_wp2
    go_ret
    exact ⟨by rw [hE.out]; rfl, HB1.out⟩

set_option maxRecDepth 100000 in
set_option maxHeartbeats 1000000 in
theorem isRun_any (n nb : Nat) (am : Option Addr) (capm : Nat) (v : Value) (r : Rn) (w : World) (hnb : nb ≤ maxLen) (hl : r.ss.length ≤ maxLen) (hV : SegsV n w v r.ss) (hn : n ≤ w.heap.size) :
    Calls Try.prog 91 #[.agg #[.slice am nb capm], .agg #[v, .int .i64 r.seen.lo, .int .i64 r.seen.hi]] w fun e w' => e = .returned (.bool (runB nb r)) ∧ Below w.heap.size w w' := by
  have HST := Lib.hid fun w' (hs : Same n w w') (hn' : n ≤ w'.heap.size) => segs_ok n nb am capm v r.ss w' hnb hl (hV.same hs) hn'
  have HW := Lib.hid (within_any r.seen.lo r.seen.hi 0 10000000000)
  have HE := Lib.hid every_any
  have hrb : runB nb r = (allN (fun q => segB nb (sg r.ss q).b (sg r.ss q).h.lo (sg r.ss q).h.hi) r.ss.length && withinB r.seen.lo r.seen.hi 0 10000000000) := by
    unfold runB segsB
    rw [Bool.and_comm]
  rw [hrb]
  obtain ⟨a, cap, rfl, -⟩ := hV
  obtain ⟨y0, y1⟩ := box2 w (.cells #[.slice am nb capm] 33) (.cells #[.slice a r.ss.length cap, .int .i64 r.seen.lo, .int .i64 r.seen.hi] 78)
  have hbb := below2 w (.cells #[.slice am nb capm] 33) (.cells #[.slice a r.ss.length cap, .int .i64 r.seen.lo, .int .i64 r.seen.hi] 78)
  generalize allN _ _ = z1 at *
  generalize withinB _ _ _ _ = z2 at *
  clear hrb
  go_enter Try.func91, Try.ntmps91
  go_wp2
  generalize World.alloc (World.alloc w _) _ = W at *
  have k0 := cell_of_row W w.heap.size 0 _ _ _ y0
  have k1 := cell_of_row W (w.heap.size + 1) 0 _ _ _ y1
  have k2 := cell_of_row W (w.heap.size + 1) 1 _ _ _ y1
  have k3 := cell_of_row W (w.heap.size + 1) 2 _ _ _ y1
  simp only [List.getElem?_toArray, List.getElem?_cons_zero, List.getElem?_cons_succ] at k0 k1 k2 k3
  have g0 := cell_regrown k0
  have g1 := cell_regrown k1
  have g2 := cell_regrown k2
  have g3 := cell_regrown k3
  have HBB := Lib.hid hbb
  have HST2 : Hid (∀ w', Below W.heap.size W w' → Calls Try.prog 80 #[.slice a r.ss.length cap, .func (.func 81) #[.agg #[.slice am nb capm]] #[]] w' fun e w'' => e = .returned (.bool z1) ∧ Below w'.heap.size w' w'') := Lib.hid fun w' h =>
    HST.out w' (.below hn (below_to HBB.out h)) (by have := HBB.out.size; have := h.size; omega)
  clear k0 k1 k2 k3 y0 y1 hbb HST
  cases z1 with
  | false =>
    refine wp_region_quiet_below (by kernel_rfl) (by kernel_rfl) ?_
    repeat (quiet_step (first | with_reducible exact Calls.regrown_of (HST2.out _ (below_regrown _ _ _)) | with_reducible exact Calls.regrown_of (HE.out _) | with_reducible exact Calls.regrown_of (HW.out _)))
    refine wpQuiet_nil ?_
    intro _ hw'
    obtain ⟨⟨dq, osq⟩, hw''⟩ := hw'
    subst hw''
    have HZ := Lib.hid (below_to HBB.out (below_regrown W dq osq))
    clear g0 g1 g2 g3
    go_wp2
    go_ret
    exact ⟨rfl, HZ.out⟩
  | true =>
    refine wp_region_quiet_below (by kernel_rfl) (by kernel_rfl) ?_
    repeat (quiet_step (first | with_reducible exact Calls.regrown_of (HST2.out _ (below_regrown _ _ _)) | with_reducible exact Calls.regrown_of (HE.out _) | with_reducible exact Calls.regrown_of (HW.out _)))
    refine wpQuiet_nil ?_
    intro _ hw'
    obtain ⟨⟨dq, osq⟩, hw''⟩ := hw'
    subst hw''
    have HZ := Lib.hid (below_to HBB.out (below_regrown W dq osq))
    clear g0 g1 g2 g3
    go_wp2
    go_ret
    exact ⟨rfl, HZ.out⟩

set_option maxRecDepth 100000 in
theorem runs_shortB (n : Nat) (v : Value) (rs : List Rn) (w : World) (hs : ∀ r, r ∈ rs → r.ss.length ≤ maxLen) (hl : rs.length ≤ maxLen) (hV : RunsV n w v rs) (hn : n ≤ w.heap.size) :
    Calls Try.prog 55 #[v, .func (.func 90) #[] #[]] w fun e w' => e = .returned (.bool (shortsB rs)) ∧ Below w.heap.size w w' := by
  have h := each_run n 90 #[] v rs (fun q => decide (((rn rs q).ss.length : Int) ≤ 8)) w hl hV hn (fun _ _ => rfl) (fun q sv w' hq hss _ _ => by
    obtain ⟨a, cap, rfl, -⟩ := hss
    simpa using runShort_any a (rn rs q).ss.length cap (rn rs q).seen.lo (rn rs q).seen.hi w' (hs _ (rn_mem hq)))
  have e : allN (fun q => decide (((rn rs q).ss.length : Int) ≤ 8)) rs.length = shortsB rs := by
    unfold shortsB
    congr 1
    funext q
    simp
    omega
  rw [e] at h
  exact h
set_option maxRecDepth 100000 in
theorem runs_goodB (n : Nat) (v : Value) (nb : Nat) (am : Option Addr) (capm : Nat) (rs : List Rn) (w : World) (hnb : nb ≤ maxLen) (hs : ∀ r, r ∈ rs → r.ss.length ≤ maxLen) (hl : rs.length ≤ maxLen) (hV : RunsV n w v rs) (hn : n ≤ w.heap.size) :
    Calls Try.prog 55 #[v, .func (.func 91) #[.agg #[.slice am nb capm]] #[]] w fun e w' => e = .returned (.bool (runsB nb rs)) ∧ Below w.heap.size w w' :=
  each_run n 91 #[.agg #[.slice am nb capm]] v rs (fun q => runB nb (rn rs q)) w hl hV hn (fun _ _ => rfl) (fun q sv w' hq hss _ hn' => isRun_any n nb am capm sv (rn rs q) w' hnb (hs _ (rn_mem hq)) hss hn')
end Go.Proofs.Ytfijaafkagcmmaa
namespace Go.Proofs.Ytfijaafkagcmmaa
open Go.RowKit Go.Shelf
attribute [local irreducible] arrV wpQuiet

/-- Lists that a machine holds. -/
structure Held (ms : List Rg) (rs : List Rn) : Prop where
  m : ms.length ≤ 1000
  r : rs.length ≤ 1000
  s : ∀ r, r ∈ rs → r.ss.length ≤ 1000
theorem len_max {n : Nat} (h : n ≤ 1000) : n ≤ maxLen := by unfold maxLen; omega

theorem fault_mat {ms : List Rg} {rs : List Rn} (h : matE ms ≠ 0) : faultE ms rs = matE ms := by
  unfold faultE faultN matE at *
  cases hm : matB ms <;> simp [hm] at h ⊢
theorem fault_len {ms : List Rg} {rs : List Rn} (h : matE ms = 0) (hl : ¬ rs.length ≤ 6) : faultE ms rs = 3 := by
  unfold faultE faultN matE at *
  cases hm : matB ms <;> simp [hm, hl] at h ⊢
theorem fault_short {ms : List Rg} {rs : List Rn} (h : matE ms = 0) (hl : rs.length ≤ 6) (hs : shortsB rs = false) : faultE ms rs = 3 := by
  unfold faultE faultN matE at *
  cases hm : matB ms <;> simp [hm, hl, hs] at h ⊢
theorem fault_good {ms : List Rg} {rs : List Rn} (h : matE ms = 0) (hl : rs.length ≤ 6) (hs : shortsB rs = true) : faultE ms rs = if runsB ms.length rs = true then 0 else 1 := by
  unfold faultE faultN matE at *
  cases hm : matB ms <;> simp [hm, hl, hs] at h ⊢

set_option maxRecDepth 100000 in
set_option maxHeartbeats 2000000 in
theorem rcheck_any (n : Nat) (mv rv : Value) (ms : List Rg) (rs : List Rn) (w : World) (hL : Held ms rs) (hV : RoomV n w mv rv ms rs) :
    Calls Try.prog 69 #[.agg #[mv, rv]] w fun e w' => e = .returned (.int .i64 (faultE ms rs)) ∧ Below w.heap.size w w' := by
  have hm := len_max hL.m
  have hr := len_max hL.r
  have hs : ∀ r, r ∈ rs → r.ss.length ≤ maxLen := fun r h => len_max (hL.s r h)
  have HMC := Lib.hid fun w' (h : Below w.heap.size w w') => mcheck_any n mv ms w' hm (hV.below h).m (hV.below h).lt
  have HRS := Lib.hid fun w' (h : Below w.heap.size w w') => runs_shortB n rv rs w' hs hr (hV.below h).r (hV.below h).lt
  have hlr := hL.r
  obtain ⟨am, capm, rfl, -⟩ := hV.m
  have HRG := Lib.hid fun w' (h : Below w.heap.size w w') => runs_goodB n rv ms.length am capm rs w' hm hs hr (hV.below h).r (hV.below h).lt
  obtain ⟨ar, capr, rfl, -⟩ := hV.r
  have HX := Lib.hid (heap_alloc_new w (.cells #[.slice am ms.length capm, .slice ar rs.length capr] 100))
  have HB := Lib.hid (box_below w (.cells #[.slice am ms.length capm, .slice ar rs.length capr] 100))
  have F1 := Lib.hid fun h => @fault_mat ms rs h
  have F2 := Lib.hid fun h => @fault_len ms rs h
  have F3 := Lib.hid fun h => @fault_short ms rs h
  have F4 := Lib.hid fun h => @fault_good ms rs h
  have HM01 : Hid (matE ms = 0 ∨ matE ms = 1) := Lib.hid (by unfold matE; split; exact .inl rfl; exact .inr rfl)
  clear hV hL hm hr hs
  generalize faultE ms rs = E at *
  generalize matE ms = M at *
  generalize shortsB rs = z2 at *
  generalize runsB ms.length rs = z3 at *
  go_enter Try.func69, Try.ntmps69
  go_wp2_with fail
  refine (HMC.out _ HB.out).mono ?_
  rintro e w1 ⟨rfl, hb1⟩
  obtain ⟨c0, c1, hx1⟩ := two_cells HX.out hb1
  have HX1 := Lib.hid hx1
  have HB1 := Lib.hid (below_to HB.out hb1)
  clear hb1 hx1
  rcases HM01.out with h | h
  · subst h
    by_cases hl : rs.length ≤ 6
    · have hg : ¬ (6 : Int) < rs.length := by omega
      have HL := Lib.hid hl
      clear hl
      go_wp2_with fail
      refine (HRS.out _ HB1.out).mono ?_
      rintro e w2 ⟨rfl, hb2⟩
      clear c0 c1
      obtain ⟨c0, c1, hx2⟩ := two_cells HX1.out hb2
      have HB2 := Lib.hid (below_to HB1.out hb2)
      clear hb2 hx2
      cases z2 with
      | false =>
        have HE := F3.out (by trivial) HL.out (by trivial)
        subst HE
        go_wp2
        go_ret
        exact ⟨rfl, HB2.out⟩
      | true =>
        have HE := F4.out (by trivial) HL.out (by trivial)
        go_wp2_with fail
        refine (HRG.out _ HB2.out).mono ?_
        rintro e w3 ⟨rfl, hb3⟩
        have HB3 := Lib.hid (below_to HB2.out hb3)
        clear hb3
        cases z3 with
        | false =>
          obtain rfl : E = 1 := by simpa using HE
          clear HE
          go_wp2
          go_ret
          exact ⟨rfl, HB3.out⟩
        | true =>
          obtain rfl : E = 0 := by simpa using HE
          clear HE
          go_wp2
          go_ret
          exact ⟨rfl, HB3.out⟩
    · have hg : (6 : Int) < rs.length := by omega
      have HE := F2.out (by trivial) hl
      subst HE
      clear hl
      go_wp2
      go_ret
      exact ⟨rfl, HB1.out⟩
  · subst h
    have HE := F1.out (by decide)
    subst HE
    go_wp2
    go_ret
    exact ⟨rfl, HB1.out⟩

/-- The errors, if rates have to be allowed, of plans and of lives. -/
def allowE (ms : List Rg) (rs : List Rn) : Int := if faultE ms rs = 0 then failE (someB (okL ms rs)) else faultE ms rs
def planE (ms : List Rg) (rs : List Rn) (ss : List Sg) : Int := if allowE ms rs = 0 then (if (segsB ms.length ss && decide ((ss.length : Int) ≤ 8)) = true then 0 else 2) else allowE ms rs
def lifeE (ms : List Rg) (rs : List Rn) (b st : Int) : Int := if allowE ms rs = 0 then (if (bandB ms.length b && hasB 0 10000000000 st) = true then 0 else 2) else allowE ms rs

set_option maxRecDepth 100000 in
set_option maxHeartbeats 1000000 in
theorem checkAllowed_any (n : Nat) (mv rv : Value) (ms : List Rg) (rs : List Rn) (w : World) (hL : Held ms rs) (hV : RoomV n w mv rv ms rs) :
    Calls Try.prog 59 #[.agg #[mv, rv]] w fun e w' => e = .returned (.int .i64 (allowE ms rs)) ∧ Below w.heap.size w w' := by
  by_cases h : faultE ms rs = 0
  · have := checkAllowed_ok n mv rv ms rs w (faultE_ok h) hV
    rw [show allowE ms rs = failE (someB (okL ms rs)) from if_pos h]
    exact this
  · rw [show allowE ms rs = faultE ms rs from if_neg h]
    have HRC := Lib.hid fun w' (h : Below w.heap.size w w') => rcheck_any n mv rv ms rs w' hL (hV.below h)
    obtain ⟨am, capm, rfl, -⟩ := hV.m
    obtain ⟨ar, capr, rfl, -⟩ := hV.r
    have HB := Lib.hid (box_below w (.cells #[.slice am ms.length capm, .slice ar rs.length capr] 100))
    clear hV hL
    generalize faultE ms rs = E at *
    have h1 : (E == 0) = false := by rw [beq_eq_false_iff_ne]; exact h
    have h2 : (E != 0) = true := by rw [bne_iff_ne]; exact h
    go_enter Try.func59, Try.ntmps59
    go_wp2_with fail
    refine (HRC.out _ HB.out).mono ?_
    rintro e w1 ⟨rfl, hb1⟩
    have HB1 := Lib.hid (below_to HB.out hb1)
    clear hb1
    go_wp2
    go_ret
    exact ⟨rfl, HB1.out⟩

set_option maxRecDepth 100000 in
set_option maxHeartbeats 1000000 in
theorem checkPlan_any (n : Nat) (mv rv pv : Value) (ms : List Rg) (rs : List Rn) (ss : List Sg) (w : World) (hL : Held ms rs) (hp : ss.length ≤ 1000) (hV : RoomV n w mv rv ms rs) (hPV : SegsV n w pv ss) :
    Calls Try.prog 61 #[.agg #[mv, rv], pv] w fun e w' => e = .returned (.int .i64 (planE ms rs ss)) ∧ Below w.heap.size w w' := by
  have hn := hV.lt
  have HCA := Lib.hid fun w' (h : Below w.heap.size w w') => checkAllowed_any n mv rv ms rs w' hL (hV.below h)
  obtain ⟨am, capm, rfl, -⟩ := hV.m
  obtain ⟨ar, capr, rfl, -⟩ := hV.r
  have hsg := segs_ok n ms.length am capm pv ss
  rw [show allN (fun q => segB ms.length (sg ss q).b (sg ss q).h.lo (sg ss q).h.hi) ss.length = segsB ms.length ss from rfl] at hsg
  have HSG := Lib.hid fun w' (h : Below w.heap.size w w') => hsg w' (len_max hL.m) (len_max hp) (hPV.same (.below hn h)) (Nat.le_trans hn h.size)
  obtain ⟨ap, capp, rfl, -⟩ := hPV
  have HSH := Lib.hid fun w' => short_any ap ss.length capp w' (len_max hp)
  have HX := Lib.hid (heap_alloc_new w (.cells #[.slice am ms.length capm, .slice ar rs.length capr] 100))
  have HB := Lib.hid (box_below w (.cells #[.slice am ms.length capm, .slice ar rs.length capr] 100))
  have hpe : planE ms rs ss = if allowE ms rs = 0 then (if (segsB ms.length ss && decide ((ss.length : Int) ≤ 8)) = true then 0 else 2) else allowE ms rs := rfl
  rw [hpe]
  clear hV hsg hL hpe
  generalize allowE ms rs = A at *
  generalize segsB ms.length ss = z1 at *
  generalize decide ((ss.length : Int) ≤ 8) = z2 at *
  go_enter Try.func61, Try.ntmps61
  go_wp2_with fail
  refine (HCA.out _ HB.out).mono ?_
  rintro e w1 ⟨rfl, hb1⟩
  obtain ⟨c0, c1, hx1⟩ := two_cells HX.out hb1
  have HX1 := Lib.hid hx1
  have HB1 := Lib.hid (below_to HB.out hb1)
  clear hb1 hx1
  by_cases h : A = 0
  · subst h
    go_wp2_with fail
    refine (HSH.out _).mono ?_
    rintro e w2 ⟨rfl, hb2⟩
    clear c0 c1
    obtain ⟨c0, c1, hx2⟩ := two_cells HX1.out hb2
    have HB2 := Lib.hid (below_to HB1.out hb2)
    clear hb2 hx2
    cases z2 with
    | false =>
      go_wp2
      go_ret
      exact ⟨by simp, HB2.out⟩
    | true =>
      go_wp2_with fail
      refine (HSG.out _ HB2.out).mono ?_
      rintro e w3 ⟨rfl, hb3⟩
      have HB3 := Lib.hid (below_to HB2.out hb3)
      clear hb3
      cases z1 with
      | false =>
        go_wp2
        go_ret
        exact ⟨by simp, HB3.out⟩
      | true =>
        go_wp2
        go_ret
        exact ⟨by simp, HB3.out⟩
  · have h1 : (A == 0) = false := by rw [beq_eq_false_iff_ne]; exact h
    have h2 : (A != 0) = true := by rw [bne_iff_ne]; exact h
    go_wp2
    go_ret
    exact ⟨rfl, HB1.out⟩

set_option maxRecDepth 100000 in
set_option maxHeartbeats 1000000 in
theorem checkLife_any (n : Nat) (mv rv : Value) (ms : List Rg) (rs : List Rn) (b st : Int) (w : World) (hL : Held ms rs) (hV : RoomV n w mv rv ms rs) :
    Calls Try.prog 67 #[.agg #[mv, rv], .int .i64 b, .int .i64 st] w fun e w' => e = .returned (.int .i64 (lifeE ms rs b st)) ∧ Below w.heap.size w w' := by
  have HCA := Lib.hid fun w' (h : Below w.heap.size w w') => checkAllowed_any n mv rv ms rs w' hL (hV.below h)
  obtain ⟨am, capm, rfl, -⟩ := hV.m
  obtain ⟨ar, capr, rfl, -⟩ := hV.r
  have HBN := Lib.hid fun w' => band_any am ms.length capm b w' (len_max hL.m)
  have HEV := Lib.hid every_any
  have HHA := Lib.hid (has_any 0 10000000000 st)
  have HX := Lib.hid (heap_alloc_new w (.cells #[.slice am ms.length capm, .slice ar rs.length capr] 100))
  have HB := Lib.hid (box_below w (.cells #[.slice am ms.length capm, .slice ar rs.length capr] 100))
  have hpe : lifeE ms rs b st = if allowE ms rs = 0 then (if (bandB ms.length b && hasB 0 10000000000 st) = true then 0 else 2) else allowE ms rs := rfl
  rw [hpe]
  clear hV hL hpe
  generalize allowE ms rs = A at *
  generalize bandB ms.length b = z1 at *
  generalize hasB 0 10000000000 st = z2 at *
  go_enter Try.func67, Try.ntmps67
  go_wp2_with fail
  refine (HCA.out _ HB.out).mono ?_
  rintro e w1 ⟨rfl, hb1⟩
  obtain ⟨c0, c1, hx1⟩ := two_cells HX.out hb1
  have HB1 := Lib.hid (below_to HB.out hb1)
  clear hb1 hx1
  by_cases h : A = 0
  · subst h
    go_wp2_with fail
    refine (HBN.out _).mono ?_
    rintro e w2 ⟨rfl, hb2⟩
    have HB2 := Lib.hid (below_to HB1.out hb2)
    clear hb2 c0 c1
    cases z1 with
    | false =>
      go_wp2
      go_ret
      exact ⟨by simp, HB2.out⟩
    | true =>
      go_wp2_with fail
      refine (HEV.out _).mono ?_
      rintro e w3 ⟨rfl, hb3⟩
      have HB3 := Lib.hid (below_to HB2.out hb3)
      clear hb3
      go_wp2_with fail
      refine (HHA.out _).mono ?_
      rintro e w4 ⟨rfl, hb4⟩
      have HB4 := Lib.hid (below_to HB3.out hb4)
      clear hb4
      cases z2 with
      | false =>
        go_wp2
        go_ret
        exact ⟨by simp, HB4.out⟩
      | true =>
        go_wp2
        go_ret
        exact ⟨by simp, HB4.out⟩
  · have h1 : (A == 0) = false := by rw [beq_eq_false_iff_ne]; exact h
    have h2 : (A != 0) = true := by rw [bne_iff_ne]; exact h
    go_wp2
    go_ret
    exact ⟨rfl, HB1.out⟩

set_option maxRecDepth 100000 in
set_option maxHeartbeats 1000000 in
theorem Rates_err (n : Nat) (mv rv : Value) (ms : List Rg) (rs : List Rn) (w : World) (hL : Held ms rs) (hV : RoomV n w mv rv ms rs) (h : allowE ms rs ≠ 0) :
    Calls Try.prog 27 #[.agg #[mv], rv] w fun e w' => e = .returned (.tuple #[.slice none 0 0, .int .i64 0, .int .i64 (allowE ms rs)]) ∧ Below w.heap.size w w' := by
  have HCA := Lib.hid fun w' (h : Below w.heap.size w w') => checkAllowed_any n mv rv ms rs w' hL (hV.below h)
  obtain ⟨am, capm, rfl, -⟩ := hV.m
  obtain ⟨ar, capr, rfl, -⟩ := hV.r
  have HB := Lib.hid (below2 w (.cells #[.slice am ms.length capm] 33) (.cells #[.slice am ms.length capm, .slice ar rs.length capr] 100))
  clear hV hL
  generalize allowE ms rs = A at *
  have h1 : (A == 0) = false := by rw [beq_eq_false_iff_ne]; exact h
  have h2 : (A != 0) = true := by rw [bne_iff_ne]; exact h
  go_enter Try.func27, Try.ntmps27
  go_wp2_with fail
  refine (HCA.out _ HB.out).mono ?_
  rintro e w1 ⟨rfl, hb1⟩
  have HB1 := Lib.hid (below_to HB.out hb1)
  clear hb1
  go_wp2
  go_ret3
  exact ⟨rfl, HB1.out⟩

set_option maxRecDepth 100000 in
set_option maxHeartbeats 1000000 in
theorem Stretch_err (n : Nat) (mv rv pv : Value) (ms : List Rg) (rs : List Rn) (ss : List Sg) (w : World) (hL : Held ms rs) (hp : ss.length ≤ 1000) (hV : RoomV n w mv rv ms rs) (hPV : SegsV n w pv ss) (h : planE ms rs ss ≠ 0) :
    Calls Try.prog 30 #[.agg #[mv], rv, pv] w fun e w' => e = .returned (.tuple #[.agg #[.int .i64 0, .int .i64 0], .int .i64 (planE ms rs ss)]) ∧ Below w.heap.size w w' := by
  have hn := hV.lt
  have HCA := Lib.hid fun w' (h : Below w.heap.size w w') => checkPlan_any n mv rv pv ms rs ss w' hL hp (hV.below h) (hPV.same (.below hn h))
  obtain ⟨am, capm, rfl, -⟩ := hV.m
  obtain ⟨ar, capr, rfl, -⟩ := hV.r
  obtain ⟨ap, capp, rfl, -⟩ := hPV
  obtain ⟨-, y1, y2⟩ := box3 w (.cells #[.slice am ms.length capm] 33) (.cells #[.int .i64 0, .int .i64 0] 50) (.cells #[.slice am ms.length capm, .slice ar rs.length capr] 100)
  have HR := Lib.hid y1
  have HB := Lib.hid (below3 w (.cells #[.slice am ms.length capm] 33) (.cells #[.int .i64 0, .int .i64 0] 50) (.cells #[.slice am ms.length capm, .slice ar rs.length capr] 100))
  clear hV hL y1 y2
  generalize planE ms rs ss = A at *
  have h1 : (A == 0) = false := by rw [beq_eq_false_iff_ne]; exact h
  have h2 : (A != 0) = true := by rw [bne_iff_ne]; exact h
  go_enter Try.func30, Try.ntmps30
  go_wp2_with fail
  refine (HCA.out _ HB.out).mono ?_
  rintro e w1 ⟨rfl, hb1⟩
  have hr2 := (hb1.block _ (lt_of_block HR.out)).trans HR.out
  have d0 := cell_of_row w1 (w.heap.size + 1) 0 _ _ _ hr2
  have d1 := cell_of_row w1 (w.heap.size + 1) 1 _ _ _ hr2
  have f0 := frozen_of_row w1 (w.heap.size + 1) 0 _ _ hr2
  have f1 := frozen_of_row w1 (w.heap.size + 1) 1 _ _ hr2
  have l1 := lt_of_block hr2
  simp at d0 d1
  have HB1 := Lib.hid (below_to HB.out hb1)
  clear hb1 hr2
  go_wp2
  refine bodyPost_ret (v := .tuple #[.agg #[.int .i64 0, .int .i64 0], .int .i64 A]) ?_ rfl ⟨rfl, ?_⟩
  · simp [results, Try.results30, go_sem, *]
  · exact put2_below _ _ HB1.out (by omega)

set_option maxRecDepth 100000 in
set_option maxHeartbeats 1000000 in
theorem Life_err (n : Nat) (mv rv : Value) (ms : List Rg) (rs : List Rn) (b st : Int) (w : World) (hL : Held ms rs) (hV : RoomV n w mv rv ms rs) (h : lifeE ms rs b st ≠ 0) :
    Calls Try.prog 36 #[.agg #[mv], rv, .int .i64 b, .int .i64 st] w fun e w' => e = .returned (.tuple #[.agg #[.int .i64 0, .int .i64 0], .int .i64 (lifeE ms rs b st)]) ∧ Below w.heap.size w w' := by
  have HCA := Lib.hid fun w' (h : Below w.heap.size w w') => checkLife_any n mv rv ms rs b st w' hL (hV.below h)
  obtain ⟨am, capm, rfl, -⟩ := hV.m
  obtain ⟨ar, capr, rfl, -⟩ := hV.r
  obtain ⟨-, y1, y2⟩ := box3 w (.cells #[.slice am ms.length capm] 33) (.cells #[.int .i64 0, .int .i64 0] 50) (.cells #[.slice am ms.length capm, .slice ar rs.length capr] 100)
  have HR := Lib.hid y1
  have HB := Lib.hid (below3 w (.cells #[.slice am ms.length capm] 33) (.cells #[.int .i64 0, .int .i64 0] 50) (.cells #[.slice am ms.length capm, .slice ar rs.length capr] 100))
  clear hV hL y1 y2
  generalize lifeE ms rs b st = A at *
  have h1 : (A == 0) = false := by rw [beq_eq_false_iff_ne]; exact h
  have h2 : (A != 0) = true := by rw [bne_iff_ne]; exact h
  go_enter Try.func36, Try.ntmps36
  go_wp2_with fail
  refine (HCA.out _ HB.out).mono ?_
  rintro e w1 ⟨rfl, hb1⟩
  have hr2 := (hb1.block _ (lt_of_block HR.out)).trans HR.out
  have d0 := cell_of_row w1 (w.heap.size + 1) 0 _ _ _ hr2
  have d1 := cell_of_row w1 (w.heap.size + 1) 1 _ _ _ hr2
  have f0 := frozen_of_row w1 (w.heap.size + 1) 0 _ _ hr2
  have f1 := frozen_of_row w1 (w.heap.size + 1) 1 _ _ hr2
  have l1 := lt_of_block hr2
  simp at d0 d1
  have HB1 := Lib.hid (below_to HB.out hb1)
  clear hb1 hr2
  go_wp2
  refine bodyPost_ret (v := .tuple #[.agg #[.int .i64 0, .int .i64 0], .int .i64 A]) ?_ rfl ⟨rfl, ?_⟩
  · simp [results, Try.results36, go_sem, *]
  · exact put2_below _ _ HB1.out (by omega)
end Go.Proofs.Ytfijaafkagcmmaa
