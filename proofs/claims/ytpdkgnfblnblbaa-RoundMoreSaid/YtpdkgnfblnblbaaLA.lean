/- The law of rounds: its small functions. Condition: lists are no longer than a thousand. -/
import Derived.Test.YtpdkgnfblnblbaaSF
namespace Go.Proofs.Ytpdkgnfblnblbaa
open Go.RowKit Go.Shelf
attribute [local irreducible] arrV wpQuiet
set_option maxHeartbeats 400000 in
theorem In_any (n lo hi : Int) (w : World) : Calls Try.prog 35 #[.int .i64 n, .int .i64 lo, .int .i64 hi] w fun e w' => e = .returned (.bool (hasB lo hi n)) ∧ Below w.heap.size w w' := by
  cases h1 : decide (lo ≤ n) with
  | false =>
    go_enter Try.func35, Try.ntmps35
    go_wp2
    all_goals
      go_ret
      refine ⟨ret_bool ?_, Below.refl _ _⟩
      simp [hasB] at *
      try omega
  | true =>
    go_enter Try.func35, Try.ntmps35
    go_wp2
    all_goals
      go_ret
      refine ⟨ret_bool ?_, Below.refl _ _⟩
      simp [hasB] at *
      try omega
set_option maxRecDepth 100000 in
set_option maxHeartbeats 1000000 in
theorem list_any (m : Nat) (v : Value) (gs : List Int) (w : World) (hl : gs.length ≤ 1000) (hV : IntsV m w v gs) (hm : m ≤ w.heap.size) :
    Calls Try.prog 22 #[v] w fun e w' => (∃ r, e = .returned r ∧ w'.ownsRow w.heap.size 3 1 r gs.length (gs.map iV)) ∧ Below w.heap.size w w' := by
  obtain ⟨a, cap, rfl⟩ : ∃ a cap, v = .slice a gs.length cap := by obtain ⟨a, c, e, -⟩ := hV; exact ⟨a, c, e⟩
  have hal := box_below w (.cells #[] 3)
  obtain ⟨h0, hc⟩ := ints_cells (hV.same (.below hm hal))
  obtain ⟨ov, W3, hr3, ho3, hb3, -, -, -⟩ := act_app2 el23 w.heap.size 0 (.slice (some ⟨w.heap.size, 0, none⟩) 0 0) [] a gs.length cap (gs.map iV) (w.alloc (.cells #[] 3)) (fun k => k = w.heap.size) 23 (by simp [maxLen]; omega) (by omega) ⟨rfl, .inr ⟨w.heap.size, 0, #[], rfl, Nat.le_refl _, heap_alloc_new w _, Nat.le_refl _, Nat.zero_le _, rfl, rfl⟩⟩ hal.size (by simp) h0 hc (by simp [iV, Value.oneCell']) (fun k h => by simpa [Value.ownBlock] using h.symm) (fun k h => by subst h; simp)
  rw [Nat.zero_add, List.nil_append] at ho3
  have HR := Lib.hid hr3
  have HO := Lib.hid ho3
  have HB := Lib.hid (hal.trans hb3)
  clear hV h0 hc hr3 ho3 hb3 hal
  go_enter Try.func22, Try.ntmps22
  go_wp2_with (first
    | (refine wpList_append_by (v := ov) (W' := W3) (y := .slice (some ⟨w.heap.size, 0, none⟩) 0 0) (z := .slice a gs.length cap) rfl (.tmp 3) (.tmp 4) 23 23 23 rfl rfl rfl rfl HR.out ?_)
    | fail)
  go_ret
  exact ⟨⟨_, rfl, HO.out⟩, HB.out⟩
set_option maxRecDepth 100000 in
set_option maxHeartbeats 1000000 in
theorem ints_same (n : Nat) (av bv : Value) (a : List Int) (w : World) (hl : a.length ≤ 1000) (hA : IntsV n w av a) (hB : IntsV n w bv a) (hn : n ≤ w.heap.size) :
    Calls Try.prog 30 #[av, bv] w fun e w' => e = .returned (.bool true) ∧ Below w.heap.size w w' := by
  obtain ⟨a0, ac, rfl, hap⟩ := hA
  obtain ⟨b0, bc, rfl, hbp⟩ := hB
  have HAP := Lib.hid hap
  have HBP := Lib.hid hbp
  have hne : ((a.length : Int) != a.length) = false := by simp
  clear hap hbp
  go_enter Try.func30, Try.ntmps30
  go_wp2
  clear hne
  go_loopw [5] (fun i wr => ∃ q : Nat, q ≤ a.length ∧ i = .int .i64 q ∧ Hid (Below w.heap.size w wr)) (fun i _ => a.length - (intOf i).toNat)
  case atStart => exact ⟨0, Nat.zero_le _, rfl, Lib.hid (Below.refl _ _)⟩
  case round =>
    obtain ⟨q, hq, rfl, HB⟩ := hrel
    by_cases hlt : q < a.length
    · obtain ⟨xb, xo, rfl, hxb, hxc⟩ := HAP.out (by omega)
      obtain ⟨yb, yo, rfl, hyb, hyc⟩ := HBP.out (by omega)
      have p1 := (HB.out.cell (p := ⟨xb, xo + q, none⟩) (by show xb < w.heap.size; omega)).trans (hxc q hlt)
      have p2 := (HB.out.cell (p := ⟨yb, yo + q, none⟩) (by show yb < w.heap.size; omega)).trans (hyc q hlt)
      have hqn : (q : Int) < a.length := by omega
      have hwq : IntKind.i64.wrap ((q : Int) + 1) = (q : Int) + 1 := IntWalk.i64_in _ (by omega)
      generalize ld a q = x at *
      have g1 := cell_regrown p1
      have g2 := cell_regrown p2
      have hxx : (x != x) = false := by simp
      clear hxc hyc p1 p2
      go_wp2_with fail
      refine wp_region_quiet_below (by kernel_rfl) (by kernel_rfl) ?_
      repeat (quiet_step (fail))
      refine wpQuiet_nil ?_
      intro _ hw'
      obtain ⟨⟨dq, osq⟩, hw''⟩ := hw'
      subst hw''
      have hbr := Lib.hid (below_to HB.out (below_regrown wr dq osq))
      clear g1 g2 HB
      go_wp2
      go_roundw
      case rel => exact ⟨q + 1, by omega, by simp, hbr⟩
      case measure => simp [intOf]; omega
    · obtain rfl : q = a.length := by omega
      go_wp2
      go_ret
      exact ⟨rfl, HB.out⟩
end Go.Proofs.Ytpdkgnfblnblbaa
