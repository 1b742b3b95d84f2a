/- The laboratories that a byte chooses: contract. Conditions: a byte, at most a hundred laboratories. -/
import Derived.Test.YtpdkgnfblnblbaaLC
namespace Go.Proofs.Ytpdkgnfblnblbaa
open Go.RowKit Go.Shelf
attribute [local irreducible] arrV wpQuiet
/-- Which laboratories a byte chooses. -/
def bitB (x : Int) (k : Nat) : Bool := decide (x / 2 ^ min k 8 % 2 = 1)
def chosenL (x : Int) (n : Nat) : List Int := List.map (fun (k : Nat) => (k : Int)) ((List.range n).filter (bitB x))
theorem chosen_succ (x : Int) (n : Nat) : chosenL x (n + 1) = chosenL x n ++ (if bitB x n = true then [(n : Int)] else []) := by
  unfold chosenL
  rw [List.range_succ, List.filter_append, List.map_append]
  cases h : bitB x n <;> simp [h]
theorem chosen_le (x : Int) (n : Nat) : (chosenL x n).length ≤ n := by
  unfold chosenL
  rw [List.length_map]
  exact Nat.le_trans (List.length_filter_le _ _) (by simp)
theorem chosen_mem {x : Int} {n : Nat} {k : Int} : k ∈ chosenL x n ↔ ∃ q : Nat, k = q ∧ q < n ∧ bitB x q = true := by
  unfold chosenL
  simp only [List.mem_map, List.mem_filter, List.mem_range]
  constructor
  · rintro ⟨q, ⟨h1, h2⟩, rfl⟩
    exact ⟨q, rfl, h1, h2⟩
  · rintro ⟨q, rfl, h1, h2⟩
    exact ⟨q, ⟨h1, h2⟩, rfl⟩
theorem chosen_off {x : Int} {n k : Nat} (hk : k < n) : offF (chosenL x n) k = bitB x k := by
  unfold offF
  rw [Bool.eq_iff_iff, List.any_eq_true]
  simp only [decide_eq_true_eq]
  constructor
  · rintro ⟨y, hy, rfl⟩
    obtain ⟨q, e, _, h⟩ := chosen_mem.1 hy
    have : k = q := by omega
    rw [this]; exact h
  · intro h
    exact ⟨(k : Int), chosen_mem.2 ⟨k, rfl, hk, h⟩, rfl⟩
theorem rise_pair {l : List Int} (h : l.Pairwise (· < ·)) : riseB l = true := by
  unfold riseB
  rw [List.all_eq_true]
  intro i hi
  have hi' : i < l.length - 1 := by simpa using hi
  rw [decide_eq_true_eq]
  have := List.pairwise_iff_getElem.1 h i (i + 1) (by omega) (by omega) (by omega)
  simpa [ld, show i < l.length by omega, show i + 1 < l.length by omega] using this
theorem chosen_rise (x : Int) (n : Nat) : (chosenL x n).Pairwise (· < ·) := by
  unfold chosenL
  rw [List.pairwise_map]
  refine List.Pairwise.imp (fun h => ?_) (List.Pairwise.filter _ (List.pairwise_lt_range (n := n)))
  omega
theorem chosen_ok {R : Rd} (h : errR R = 0) (x : Int) : offE R (chosenL x R.labs.length) = 0 := by
  unfold offE
  rw [if_pos h, if_pos]
  rw [Bool.and_eq_true, List.all_eq_true]
  refine ⟨fun k hk => ?_, rise_pair (chosen_rise _ _)⟩
  obtain ⟨q, rfl, hq, -⟩ := chosen_mem.1 hk
  exact decide_eq_true ⟨by omega, by omega⟩

set_option maxRecDepth 100000 in
set_option maxHeartbeats 4000000 in
theorem chosen_any (n : Nat) (p : Rp) (R : Rd) (x : Int) (w : World) (hx : 0 ≤ x ∧ x < 256) (hR : R.labs.length ≤ 100) :
    Calls Try.prog 40 #[rdV p R, .int .u8 x] w fun e w' => (∃ r, e = .returned r ∧ w'.ownsRow w.heap.size 3 1 r (chosenL x R.labs.length).length ((chosenL x R.labs.length).map iV)) ∧ Below w.heap.size w w' := by
  obtain ⟨pla, plc, psa, psc, pba, pbc⟩ := p
  have HX := Lib.hid (heap_alloc_new w (.cells #[.slice pla R.lots.length plc, .slice psa R.smp.length psc, .int .i64 R.sp, .slice pba R.labs.length pbc] 26))
  have HB := Lib.hid (box_below w (.cells #[.slice pla R.lots.length plc, .slice psa R.smp.length psc, .int .i64 R.sp, .slice pba R.labs.length pbc] 26))
  have HZ : Hid ((w.alloc (.cells #[.slice pla R.lots.length plc, .slice psa R.smp.length psc, .int .i64 R.sp, .slice pba R.labs.length pbc] 26)).heap.size = w.heap.size + 1) := Lib.hid (by simp)
  have HSC := Lib.hid (chosen_succ x)
  have HLE := Lib.hid (chosen_le x)
  unfold rdV
  go_enter Try.func40, Try.ntmps40
  go_wp2
  generalize World.alloc w _ = W at *
  go_loopw [5, 6] (fun s i wr => ∃ q : Nat, q ≤ R.labs.length ∧ i = .int .i64 q ∧ Hid (wr.heap[w.heap.size]? = some (.cells #[.slice pla R.lots.length plc, .slice psa R.smp.length psc, .int .i64 R.sp, .slice pba R.labs.length pbc] 26 (0, 0))) ∧ Hid (wr.ownsRow (w.heap.size + 1) 3 1 s (chosenL x q).length ((chosenL x q).map iV)) ∧ Hid (Below w.heap.size w wr)) (fun _ i _ => R.labs.length - (intOf i).toNat)
  case atStart => exact ⟨0, Nat.zero_le _, rfl, HX, Lib.hid (by simpa [chosenL] using World.ownsRow_nil _ _ _ _), HB⟩
  case round =>
    clear HX HB
    obtain ⟨q, hq, rfl, HX, HO, HB⟩ := hrel
    have a0 := cell_of_row wr w.heap.size 0 _ _ _ HX.out
    have a1 := cell_of_row wr w.heap.size 1 _ _ _ HX.out
    have a2 := cell_of_row wr w.heap.size 2 _ _ _ HX.out
    have a3 := cell_of_row wr w.heap.size 3 _ _ _ HX.out
    simp only [List.getElem?_toArray, List.getElem?_cons_zero, List.getElem?_cons_succ] at a0 a1 a2 a3
    have la := lt_of_block HX.out
    by_cases hlt : q < R.labs.length
    · have hqn : (q : Int) < R.labs.length := by omega
      have hwk : IntKind.i64.wrap ((q : Int) + 1) = (q : Int) + 1 := IntWalk.i64_in _ (by omega)
      have hwu : IntKind.u64.wrap (q : Int) = (q : Int) := by simp [IntKind.wrap, IntKind.bits, IntKind.signed]; omega
      have hp2 : (0 : Int) ≤ x / 2 ^ min q 8 := Int.ediv_nonneg hx.1 (Int.le_of_lt (Int.pow_pos (by decide)))
      have hbit : ((x / 2 ^ min q 8).tmod 2 == 1) = bitB x q := by
        rw [Int.tmod_eq_emod_of_nonneg hp2]
        unfold bitB
        rw [Bool.eq_iff_iff]
        simp
      have HSQ := Lib.hid (HSC.out q)
      have hcl := HLE.out q
      obtain ⟨sa, sc, rfl⟩ := own_shape HO.out
      generalize bitB x q = z at *
      cases z with
      | false =>
        clear hp2
        go_wp2
        go_roundw
        case rel =>
          refine ⟨q + 1, by omega, by simp, HX, Lib.hid ?_, HB⟩
          rw [HSQ.out]
          simpa using HO.out
        case measure => simp [intOf]; omega
      | true =>
        clear hp2
        have hba := box_below wr (.cells #[.int .i64 q] 3)
        have hx2 := heap_alloc_new wr (.cells #[.int .i64 q] 3)
        obtain ⟨s2, w2, hr2, ho2, hb2, -, -, -⟩ := act_app2 el23 (w.heap.size + 1) (chosenL x q).length (.slice sa (chosenL x q).length sc) ((chosenL x q).map iV) (some ⟨wr.heap.size, 0, none⟩) 1 1 [.int .i64 q] (wr.alloc (.cells #[.int .i64 q] 3)) (fun k => (Value.slice sa (chosenL x q).length sc).ownBlock = some k) 23 (by unfold maxLen; omega) (by omega) (row_kept HO.out hba) (by have := hba.size; omega) rfl (by simp) (fun _ => ⟨_, 0, rfl, fun j u hj => by
          rw [Nat.zero_add]
          have hj2 : j < 1 := by
            have := (List.getElem?_eq_some_iff.1 hj).1
            simpa using this
          obtain rfl : j = 0 := by omega
          exact (cell_of_row _ _ 0 _ _ _ hx2).trans (by simpa using hj)⟩) (by simp [Value.oneCell']) (fun k h => h) (fun k h => (own_lt (row_kept HO.out hba) h).2)
        have HR2 := Lib.hid hr2
        have HO2 := Lib.hid ho2
        have HXX := Lib.hid ((hb2.block w.heap.size (by omega)).trans ((hba.block _ la).trans HX.out))
        have HBB := Lib.hid ((below_to HB.out hba).trans (hb2.mono (by omega)))
        clear hr2 ho2 hb2 hba hx2
        go_wp2_with (first
          | (refine wpList_append_by (v := s2) (W' := w2) (y := .slice sa (chosenL x q).length sc) (z := .slice (some ⟨wr.heap.size, 0, none⟩) 1 1) rfl (.tmp 20) (.tmp 22) 23 23 23 rfl rfl rfl rfl HR2.out ?_)
          | fail)
        go_roundw
        case rel =>
          refine ⟨q + 1, by omega, by simp, HXX, Lib.hid ?_, HBB⟩
          rw [HSQ.out]
          simpa [iV] using HO2.out
        case measure => simp [intOf]; omega
    · obtain rfl : q = R.labs.length := by omega
      obtain ⟨sa, sc, rfl⟩ := own_shape HO.out
      go_wp2
      go_ret
      exact ⟨⟨_, rfl, ownsRow_mono (by omega) HO.out⟩, HB.out⟩
end Go.Proofs.Ytpdkgnfblnblbaa
