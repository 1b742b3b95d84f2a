/- Whether distances are possible, and the widest ones: contracts. No condition. -/
import Derived.Test.YtplmlmmjfkbabaaM
namespace Go.Proofs.Ytplmlmmjfkbabaa
open Go.RowKit Go.Shelf

attribute [local irreducible] arrV wpQuiet mat

theorem possD_at {d : Dm} {q : Nat} (h : q < 9) (hd : d q q < 0) : possD d = false := by
  rw [Bool.eq_false_iff]
  intro hp
  have := possD_iff.1 hp q h
  omega

set_option maxRecDepth 100000 in
set_option maxHeartbeats 2000000 in
theorem isPossible_any (d : Dm) (w : World) :
    Calls Try.prog 72 #[.agg (mat d)] w fun e w' => e = .returned (.bool (possD d)) ∧ Below w.heap.size w w' := by
  have HX := Lib.hid (heap_alloc_new w (.cells (mat d) 83))
  have HB := Lib.hid (box_below w (.cells (mat d) 83))
  have HG := Lib.hid fun q (h : q < 9) => mat_get d h h
  have HN := Lib.hid fun q (h : q < 9) hd => possD_at (d := d) h hd
  have HY := Lib.hid (@possD_iff d).2
  generalize possD d = P at *
  go_enter Try.func72, Try.ntmps72
  go_wp2
  generalize World.alloc w _ = W at *
  go_loopw [4] (fun i wr => wr = W ∧ ∃ q : Nat, q ≤ 9 ∧ i = .int .i64 q ∧ Hid (∀ j, j < q → 0 ≤ d j j)) (fun i _ => 9 - (intOf i).toNat)
  case atStart => exact ⟨rfl, 0, by decide, rfl, Lib.hid fun j hj => by omega⟩
  case round =>
    obtain ⟨rfl, q, hq, rfl, hg⟩ := hrel
    by_cases hlt : q < 9
    · have c0 := (cell_of_row wr w.heap.size (q * 9 + q) _ _ _ HX.out).trans (HG.out q hlt)
      have l0 := lt_of_block HX.out
      have hqn : (q : Int) < 9 := by omega
      have hw9 : IntKind.i64.wrap ((q : Int) + 1) = (q : Int) + 1 := IntWalk.i64_in _ (by omega)
      by_cases hd : d q q < 0
      · have hd1 : decide (d q q < 0) = true := decide_eq_true hd
        have EN := Lib.hid (HN.out q hlt hd)
        clear hd
        go_wp2
        go_ret
        exact ⟨by rw [EN.out]; rfl, HB.out⟩
      · have hd1 : decide (d q q < 0) = false := decide_eq_false hd
        have hg' : Hid (∀ j, j < q + 1 → 0 ≤ d j j) := Lib.hid fun j hj => by
          by_cases e : j = q
          · subst e; omega
          · exact hg.out j (by omega)
        clear hd
        go_wp2
        go_roundw
        case rel => exact ⟨trivial, q + 1, by omega, by simp, hg'⟩
        case measure => simp [intOf]; omega
    · obtain rfl : q = 9 := by omega
      have EY := Lib.hid (HY.out fun a ha => hg.out a ha)
      go_wp2
      go_ret
      exact ⟨by rw [EY.out]; rfl, HB.out⟩

/-- What is written so far of the widest distances. -/
def wideP (f t : Nat) : Dm := fun a b => if (a < f ∨ (a = f ∧ b < t)) ∧ a ≠ b ∧ b ≠ 0 then 100 else 0
theorem wideP_zero : EqD (fun _ _ => 0) (wideP 0 0) := fun a b _ _ => by simp [wideP]
theorem wideP_set {f t : Nat} (h1 : f ≠ t) (h2 : t ≠ 0) : EqD (updD (wideP f t) f t 100) (wideP f (t + 1)) := fun a b ha hb => by
  unfold updD wideP
  by_cases h : a = f ∧ b = t
  · obtain ⟨rfl, rfl⟩ := h
    simp [h1, h2]
  · rw [if_neg h]
    have : (a < f ∨ a = f ∧ b < t) ↔ (a < f ∨ a = f ∧ b < t + 1) := by omega
    simp only [this]
theorem wideP_skip {f t : Nat} (h : f = t ∨ t = 0) : EqD (wideP f t) (wideP f (t + 1)) := fun a b ha hb => by
  unfold wideP
  have : ((a < f ∨ a = f ∧ b < t) ∧ a ≠ b ∧ b ≠ 0) ↔ ((a < f ∨ a = f ∧ b < t + 1) ∧ a ≠ b ∧ b ≠ 0) := by omega
  simp only [this]
theorem wideP_row {f : Nat} : EqD (wideP f 9) (wideP (f + 1) 0) := fun a b ha hb => by
  unfold wideP
  have : ((a < f ∨ a = f ∧ b < 9) ∧ a ≠ b ∧ b ≠ 0) ↔ ((a < f + 1 ∨ a = f + 1 ∧ b < 0) ∧ a ≠ b ∧ b ≠ 0) := by omega
  simp only [this]
theorem wideP_all : EqD (wideP 9 0) wideD := fun a b ha hb => by
  unfold wideP wideD
  by_cases h : a = b ∨ b = 0
  · rw [if_pos h, if_neg (by omega)]
  · rw [if_neg h, if_pos (by omega)]
theorem zero_mat : (Array.replicate 81 (Value.int .i64 0)) = mat (fun _ _ => 0) := by
  refine Array.ext (by simp [mat_size]) fun i h1 h2 => ?_
  have hi : i < 81 := by simpa using h1
  have := mat_get (fun _ _ => 0) (a := i / 9) (b := i % 9) (by omega) (by omega)
  rw [show i / 9 * 9 + i % 9 = i by omega] at this
  rw [Array.getElem?_eq_getElem h2] at this
  simpa using this.symm

theorem zero83 : Try.zeroCells83 = mat (fun _ _ => 0) := by
  rw [← zero_mat]
  kernel_rfl

set_option maxRecDepth 100000 in
set_option maxHeartbeats 4000000 in
theorem widest_any (w : World) : Calls Try.prog 70 #[] w fun e w' => e = .returned (.agg (mat wideD)) ∧ Below w.heap.size w w' := by
  have HX := Lib.hid (box2 w (.cells Try.zeroCells83 83) (.cells Try.zeroCells83 83))
  have HB := Lib.hid (below2 w (.cells Try.zeroCells83 83) (.cells Try.zeroCells83 83))
  have HW0 : Hid (mat (fun _ _ => 0) = mat (wideP 0 0)) := Lib.hid (mat_ext wideP_zero)
  have HW9 : Hid (mat (wideP 9 0) = mat wideD) := Lib.hid (mat_ext wideP_all)
  rw [zero83] at HX HB
  have HP := Lib.hid (place_any (-1))
  have hp1 : (pl (-1) : Int) = 0 := rfl
  rw [hp1] at HP
  clear hp1
  go_enter Try.func70, Try.ntmps70
  go_wp2
  rw [zero83, HW0.out]
  rw [HW0.out] at HX HB
  generalize World.alloc (World.alloc w _) _ = W at *
  go_loopw [4] (fun i wr => ∃ f : Nat, f ≤ 9 ∧ i = .int .i64 f ∧ Hid (wr.heap[w.heap.size + 1]? = some (.cells (mat (wideP f 0)) 83 (0, 0))) ∧ Hid (∃ z, wr.heap[w.heap.size]? = some (.cells (mat z) 83 (0, 0))) ∧ Hid (Below w.heap.size w wr)) (fun i _ => 9 - (intOf i).toNat)
  case atStart => exact ⟨0, by decide, rfl, Lib.hid HX.out.2, Lib.hid ⟨_, HX.out.1⟩, HB⟩
  case round =>
    obtain ⟨f, hf, rfl, hx, hx0, hb⟩ := hrel
    by_cases hlf : f < 9
    · have hfn : (f : Int) < 9 := by omega
      have hwf : IntKind.i64.wrap ((f : Int) + 1) = (f : Int) + 1 := IntWalk.i64_in _ (by omega)
      generalize wr = v0 at *
      go_wp2
      go_loopw [7] (fun i wr => ∃ t : Nat, t ≤ 9 ∧ i = .int .i64 t ∧ Hid (wr.heap[w.heap.size + 1]? = some (.cells (mat (wideP f t)) 83 (0, 0))) ∧ Hid (∃ z, wr.heap[w.heap.size]? = some (.cells (mat z) 83 (0, 0))) ∧ Hid (Below w.heap.size w wr)) (fun i _ => 9 - (intOf i).toNat)
      case atStart => exact ⟨0, by decide, rfl, hx, hx0, hb⟩
      case round =>
        clear hx hx0 hb
        obtain ⟨t, ht, rfl, hx, hx0, hb⟩ := hrel
        by_cases hlt : t < 9
        · have htn : (t : Int) < 9 := by omega
          have hwt : IntKind.i64.wrap ((t : Int) + 1) = (t : Int) + 1 := IntWalk.i64_in _ (by omega)
          by_cases hft : f = t
          · have e1 : ((f : Int) != (t : Int)) = false := by simp [hft]
            have hx' : Hid (wr.heap[w.heap.size + 1]? = some (.cells (mat (wideP f (t + 1))) 83 (0, 0))) := Lib.hid (by rw [← mat_ext (wideP_skip (.inl hft))]; exact hx.out)
            clear hft hx
            go_wp2
            go_roundw
            case rel => exact ⟨t + 1, by omega, by simp, hx', hx0, hb⟩
            case measure => simp [intOf]; omega
          · have e1 : ((f : Int) != (t : Int)) = true := by simp; omega
            by_cases h0 : t = 0
            · have hx' : Hid (wr.heap[w.heap.size + 1]? = some (.cells (mat (wideP f (t + 1))) 83 (0, 0))) := Lib.hid (by rw [← mat_ext (wideP_skip (.inr h0))]; exact hx.out)
              have e2 : ((t : Int) != 0) = false := by simp [h0]
              clear hft hx h0
              go_wp2_with fail
              refine (HP.out _ (by decide)).mono ?_
              rintro e v1 ⟨rfl, hb1⟩
              have hx1 := Lib.hid ((hb1.block _ (lt_of_block hx'.out)).trans hx'.out)
              obtain ⟨z, hz⟩ := hx0.out
              have hx2 : Hid (∃ z, v1.heap[w.heap.size]? = some (.cells (mat z) 83 (0, 0))) := Lib.hid ⟨z, (hb1.block _ (lt_of_block hz)).trans hz⟩
              have hb2 := Lib.hid (below_to hb.out hb1)
              clear hb1 hz hx0 hx' hb
              go_wp2
              go_roundw
              case rel => exact ⟨t + 1, by omega, by simp, hx1, hx2, hb2⟩
              case measure => simp [intOf]; omega
            · have e2 : ((t : Int) != 0) = true := by simp; omega
              have EM := Lib.hid (mat_ext (wideP_set hft h0))
              clear hft h0
              go_wp2_with fail
              refine (HP.out _ (by decide)).mono ?_
              rintro e v1 ⟨rfl, hb1⟩
              have hx1 := Lib.hid ((hb1.block _ (lt_of_block hx.out)).trans hx.out)
              obtain ⟨z, hz⟩ := hx0.out
              have hz2 := Lib.hid ((hb1.block _ (lt_of_block hz)).trans hz)
              have hb2 := Lib.hid (below_to hb.out hb1)
              clear hb1 hz hx0 hx hb
              have c0 := (cell_of_row v1 (w.heap.size + 1) (f * 9 + t) _ _ _ hx1.out).trans (mat_get _ hlf hlt)
              have fr := frozen_of_row v1 (w.heap.size + 1) (f * 9 + t) _ _ hx1.out
              have l0 := lt_of_block hx1.out
              go_wp2
              go_roundw
              case rel =>
                refine ⟨t + 1, by omega, by simp, Lib.hid ?_, Lib.hid ⟨z, ?_⟩, Lib.hid ((put_cell _ _ _ _).below hb2.out (by omega))⟩
                · rw [← EM.out]
                  exact set_one _ _ _ _ hlf hlt 100 hx1.out
                · rw [(put_cell _ _ _ _).other _ (by omega)]
                  exact hz2.out
              case measure => simp [intOf]; omega
        · obtain rfl : t = 9 := by omega
          rw [mat_ext wideP_row] at hx
          go_wp2
          go_roundw
          case rel => exact ⟨f + 1, by omega, by simp, hx, hx0, hb⟩
          case measure => simp [intOf]; omega
    · obtain rfl : f = 9 := by omega
      rw [HW9.out] at hx
      obtain ⟨z, hz⟩ := hx0.out
      go_wp2_with (first
        | (refine wpList_load_mat rfl (.tmp 1) rfl (w.heap.size + 1) rfl 83 wideD hx.out ?_)
        | (refine wpList_store_mat rfl (.tmp 0) (.tmp 24) rfl w.heap.size rfl wideD rfl 83 (mat z) (mat_size z) hz ?_
           intro w2 hp2 hx2
           have HX2 := Lib.hid hx2
           have HB2 := Lib.hid (hp2.below hb.out (Nat.le_refl _))
           clear hp2 hx2)
        | fail)
      refine bodyPost_ret (v := .agg (mat wideD)) (results_mat rfl _ _ w.heap.size 83 wideD rfl HX2.out) rfl ⟨rfl, HB2.out⟩
end Go.Proofs.Ytplmlmmjfkbabaa
