/- A list of rates that the material has passes the check: contracts. Condition: such a list. -/
import Derived.Test.YtfijaafkagcmmaaE3
namespace Go.Proofs.Ytfijaafkagcmmaa
open Go.RowKit Go.Shelf
attribute [local irreducible] arrV wpQuiet

set_option maxHeartbeats 400000 in
theorem isNaN_any (a : Int) (w : World) : Calls Try.prog 110 #[.int .i64 a] w fun e w' => e = .returned (.bool false) ∧ Below w.heap.size w w' := by
  go_enter Try.func110, Try.ntmps110
  go_wp2
  go_ret
  exact ⟨ret_bool (by simp), Below.refl _ _⟩
set_option maxHeartbeats 400000 in
theorem less_any (a b : Int) (w : World) : Calls Try.prog 109 #[.int .i64 a, .int .i64 b] w fun e w' => e = .returned (.bool (decide (a < b))) ∧ Below w.heap.size w w' := by
  have HN := Lib.hid isNaN_any
  go_enter Try.func109, Try.ntmps109
  go_wp2_with fail
  refine (HN.out _ _).mono ?_
  rintro e w1 ⟨rfl, hb1⟩
  go_wp2
  all_goals
    go_ret
    refine ⟨ret_bool ?_, hb1⟩
    simp [*]
    try omega

set_option maxRecDepth 100000 in
set_option maxHeartbeats 1000000 in
theorem sorted_ok (n : Nat) (v : Value) (t : List Int) (w : World) (hl : t.length ≤ 1000) (hT : ∀ i, i + 1 < t.length → ld t i ≤ ld t (i + 1)) (hV : IntsV n w v t) (hn : n ≤ w.heap.size) :
    Calls Try.prog 100 #[v] w fun e w' => e = .returned (.bool true) ∧ Below w.heap.size w w' := by
  obtain ⟨a, cap, rfl, -, hp⟩ := hV
  have HP := Lib.hid hp
  have HT := Lib.hid hT
  have hw0 : IntKind.i64.wrap ((t.length : Int) - 1) = (t.length : Int) - 1 := IntWalk.i64_in _ (by omega)
  clear hp hT
  go_enter Try.func100, Try.ntmps100
  go_wp2
  go_loopw [3] (fun i wr => ∃ k : Int, k < t.length ∧ i = .int .i64 k ∧ Hid (Below w.heap.size w wr)) (fun i _ => (intOf i).toNat)
  case atStart => exact ⟨(t.length : Int) - 1, by omega, rfl, Lib.hid (Below.refl _ _)⟩
  case round =>
    obtain ⟨k, hk, rfl, hb⟩ := hrel
    by_cases hlt : 0 < k
    · obtain ⟨b, off, rfl, hbn, hc⟩ := HP.out (by omega)
      have hltb : b < w.heap.size := by omega
      obtain ⟨q, hq⟩ : ∃ q : Nat, k = (q : Int) + 1 := ⟨(k - 1).toNat, by omega⟩
      subst hq
      have p1 := (hb.out.cell (p := ⟨b, off + (q + 1), none⟩) hltb).trans (hc (q + 1) (by omega))
      have p2 := (hb.out.cell (p := ⟨b, off + q, none⟩) hltb).trans (hc q (by omega))
      have HLE := Lib.hid (HT.out q (by omega))
      have hd : decide (ld t (q + 1) < ld t q) = false := by have := HLE.out; simp; omega
      have LS := Lib.hid (less_any (ld t (q + 1)) (ld t q))
      rw [hd] at LS
      have hk0 : (0 : Int) ≤ (q : Int) + 1 := by omega
      have hkt : ((q : Int) + 1).toNat = q + 1 := by omega
      have hw1 : IntKind.i64.wrap (q : Int) = (q : Int) := IntWalk.i64_in _ (by omega)
      have hwq : wrap64 (q : Int) = (q : Int) := IntWalk.wrap64_in _ (by omega)
      have hqn : (q : Int) < t.length := by omega
      generalize ld t (q + 1) = x1 at *
      generalize ld t q = x0 at *
      clear hc hd
      go_wp2_with fail
      have g1 := cell_regrown p1
      have g2 := cell_regrown p2
      clear p1 p2
      refine wp_region_quiet_below (by kernel_rfl) (by kernel_rfl) ?_
      repeat (quiet_step (with_reducible exact Calls.regrown_of (LS.out _)))
      refine wpQuiet_nil ?_
      intro _ hw'
      obtain ⟨⟨dq, osq⟩, hw''⟩ := hw'
      subst hw''
      have hbr := Lib.hid (below_to hb.out (below_regrown wr dq osq))
      clear g1 g2 hb
      go_wp2
      go_roundw
      case rel => exact ⟨(q : Int), by omega, by simp, hbr⟩
      case measure => simp [intOf]
    · go_wp2
      go_ret
      exact ⟨rfl, hb.out⟩
end Go.Proofs.Ytfijaafkagcmmaa
