/- The work, the first drop and the first meeting: contracts. -/
import Derived.Test.YtfjlnejeffkdoaaG
namespace Go.Proofs.Ytfjlnejeffkdoaa
open Go.RowKit

def wkTo (ps : List Pt) (t : List Int) : Nat → Int
  | 0 => 0
  | k + 1 => wkTo ps t k + (ld t k + ld t (k + 1)) * ((pt ps (k + 1)).s - (pt ps k).s)
theorem wkTo_bd {ps : List Pt} {r : Rl} {t : List Int} (F : Fine ps r t) : ∀ k : Nat, k < ps.length → -(200000000 * (k : Int)) ≤ wkTo ps t k ∧ wkTo ps t k ≤ 200000000 * (k : Int)
  | 0, _ => by simp [wkTo]
  | k + 1, h => by
    have ih := wkTo_bd F k (by omega)
    have h1 := F.st k (by omega)
    have h2 := F.st (k + 1) h
    have l1 := F.ld k
    have l2 := F.ld (k + 1)
    have hm := mul_le_of (ld t k + ld t (k + 1)) ((pt ps (k + 1)).s - (pt ps k).s) 200000 1000 (by omega) (by omega) (by omega) (by omega) (by omega)
    simp only [wkTo]
    omega

set_option maxRecDepth 100000 in
set_option maxHeartbeats 1000000 in
theorem work_any (b off cap : Nat) (ps : List Pt) (r : Rl) (t : List Int) (w : World) (F : Fine ps r t) (hp : PtsIn w b off ps) :
    Calls Try.prog 72 #[.agg (pullV (.slice (some ⟨b, off, none⟩) ps.length cap) r t)] w fun e w' => e = .returned (.int .i64 (wkTo ps t (ps.length - 1))) ∧ Below w.heap.size w w' := by
  have hlt : b < w.heap.size := block_lt_of_cell (hp 0 F.pos).1
  have hB := box_below w (.cells (pullV (.slice (some ⟨b, off, none⟩) ps.length cap) r t) 124)
  have hL := box_lt w (.cells (pullV (.slice (some ⟨b, off, none⟩) ps.length cap) r t) 124)
  have hc := Lib.hid (box_cell w (pullV (.slice (some ⟨b, off, none⟩) ps.length cap) r t) 124)
  have c0 := (hc.out 0).trans (pullV_0 _ r t)
  have hpos := F.pos
  have hlen := F.len
  go_enter Try.func72, Try.ntmps72
  go_wp2
  generalize World.alloc w _ = W at *
  go_loopw [3, 4] (fun m i wr => ∃ k : Nat, k < ps.length ∧ i = .int .i64 ((k : Int) + 1) ∧ m = .int .i64 (wkTo ps t k) ∧ ∃ n, wr = W.drewN n) (fun _ i _ => ps.length + 1 - (intOf i).toNat)
  case atStart => exact ⟨0, hpos, rfl, rfl, 0, rfl⟩
  case round =>
    obtain ⟨k, hk, rfl, rfl, nd, rfl⟩ := hrel
    by_cases hlt' : (k : Int) + 1 < ps.length
    · have hbd := wkTo_bd F k hk
      have hbd' := wkTo_bd F (k + 1) (by omega)
      have hs := Lib.hid (show wkTo ps t (k + 1) = wkTo ps t k + (ld t k + ld t (k + 1)) * ((pt ps (k + 1)).s - (pt ps k).s) from rfl)
      rw [hs.out] at hbd'
      have p0 := (hB.cell (p := ⟨b, off + k * 3, none⟩) hlt).trans (hp k (by omega)).1
      have p1 := (hB.cell (p := ⟨b, off + (k + 1) * 3, none⟩) hlt).trans (hp (k + 1) (by omega)).1
      have c4 := (hc.out (4 + k)).trans (pullV_at _ r t k (by have := F.tlen; omega))
      have c5 := (hc.out (4 + (k + 1))).trans (pullV_at _ r t (k + 1) (by have := F.tlen; omega))
      have h1 := F.st k (by omega)
      have h2 := F.st (k + 1) (by omega)
      have l1 := F.ld k
      have l2 := F.ld (k + 1)
      have hm := mul_le_of (ld t k + ld t (k + 1)) ((pt ps (k + 1)).s - (pt ps k).s) 200000 1000 (by omega) (by omega) (by omega) (by omega) (by omega)
      have hi20 : (k : Int) + 1 < 20 := by omega
      have hi19 : (k : Int) < 20 := by omega
      have hw1 : IntKind.i64.wrap ((k : Int) + 1 - 1) = k := by rw [Int.add_sub_cancel]; exact IntWalk.i64_in _ (by omega)
      have hw2 : IntKind.i64.wrap (k : Int) = k := IntWalk.i64_in _ (by omega)
      have hpz : (0 : Int) ≤ (k : Int) + 1 := by omega
      have hil : (k : Int) < ps.length := by omega
      generalize (pt ps k).s = s at *
      generalize (pt ps (k + 1)).s = s' at *
      generalize ld t k = x at *
      generalize ld t (k + 1) = y at *
      generalize wkTo ps t k = wk at *
      go_wp2
      go_quiet (fail)
      go_wp2
      go_roundw
      case rel => exact ⟨k + 1, by omega, by simp, by rw [hs.out], _, rfl⟩
      case measure => simp [intOf]; omega
    · obtain rfl : k = ps.length - 1 := by omega
      go_wp2
      go_ret
      exact ⟨rfl, below_dN hB⟩

set_option maxHeartbeats 1000000 in
theorem first_drop (v : Value) (r : Rl) (t : List Int) (many : Nat) (w : World) (ht : t.length = 20) (hi : many < 20) (hl : ∀ i, 0 ≤ ld t i ∧ ld t i ≤ 100000) :
    Calls Try.prog 69 #[.int .i64 many, .func (.func 70) #[.agg (pullV v r t)] #[]] w fun e w' => e = .returned (.int .i64 (fst (dropB r.d t) many)) ∧ Below w.heap.size w w' := by
  have Hl := Lib.hid hl
  have Ht := Lib.hid ht
  clear hl ht
  go_enter Try.func69, Try.ntmps69
  go_wp2
  go_loopw [7] (fun i wr => ∃ k : Nat, k ≤ many ∧ i = .int .i64 k ∧ Hid (∀ j, j < k → dropB r.d t j = false) ∧ Below w.heap.size w wr) (fun i _ => many - (intOf i).toNat)
  case atStart => exact ⟨0, Nat.zero_le _, rfl, Lib.hid (fun j hj => absurd hj (Nat.not_lt_zero _)), Below.refl _ _⟩
  case round =>
    obtain ⟨k, hk, rfl, hno, hb⟩ := hrel
    by_cases hlt : k < many
    · have hv := Lib.hid (drops_any v r t k wr Ht.out (by omega) Hl.out)
      cases hB : dropB r.d t k with
      | true =>
        have hf := Lib.hid (fst_hit (B := dropB r.d t) hlt hB hno.out)
        have HB := Lib.hid hB
        clear hB
        go_wp2_with (go_at_call 70; refine (hv.out).mono ?_; rintro e w1 ⟨rfl, hb1⟩; rw [HB.out])
        go_ret
        exact ⟨by rw [hf.out]; rfl, below_to hb hb1⟩
      | false =>
        have hf : Hid (∀ j, j < k + 1 → dropB r.d t j = false) := Lib.hid (fun j hj => by
          rcases Nat.lt_succ_iff_lt_or_eq.1 hj with h | rfl
          · exact hno.out j h
          · exact hB)
        have HB := Lib.hid hB
        clear hB
        go_wp2_with (go_at_call 70; refine (hv.out).mono ?_; rintro e w1 ⟨rfl, hb1⟩; rw [HB.out])
        go_roundw
        case rel => exact ⟨k + 1, by omega, by simp, hf, below_to hb hb1⟩
        case measure => simp [intOf]; omega
    · obtain rfl : k = many := by omega
      have hf := Lib.hid (fst_none (B := dropB r.d t) hno.out)
      go_wp2
      go_ret
      exact ⟨by rw [hf.out]; rfl, hb⟩

set_option maxHeartbeats 1000000 in
theorem first_meet (b off cap : Nat) (ps : List Pt) (r : Rl) (t : List Int) (w : World) (F : Fine ps r t) (hp : PtsIn w b off ps) :
    Calls Try.prog 69 #[.int .i64 ps.length, .func (.func 71) #[.agg (pullV (.slice (some ⟨b, off, none⟩) ps.length cap) r t)] #[]] w fun e w' => e = .returned (.int .i64 (fst (meetB ps r t) ps.length)) ∧ Below w.heap.size w w' := by
  have hlt0 : b < w.heap.size := block_lt_of_cell (hp 0 F.pos).1
  have hlen := F.len
  go_enter Try.func69, Try.ntmps69
  go_wp2
  go_loopw [7] (fun i wr => ∃ k : Nat, k ≤ ps.length ∧ i = .int .i64 k ∧ Hid (∀ j, j < k → meetB ps r t j = false) ∧ Below w.heap.size w wr) (fun i _ => ps.length - (intOf i).toNat)
  case atStart => exact ⟨0, Nat.zero_le _, rfl, Lib.hid (fun j hj => absurd hj (Nat.not_lt_zero _)), Below.refl _ _⟩
  case round =>
    obtain ⟨k, hk, rfl, hno, hb⟩ := hrel
    by_cases hlt : k < ps.length
    · have hv := Lib.hid (meets_any b off cap ps r t k wr F hlt (hp.below hb hlt0))
      cases hB : meetB ps r t k with
      | true =>
        have hf := Lib.hid (fst_hit (B := meetB ps r t) hlt hB hno.out)
        have HB := Lib.hid hB
        clear hB
        go_wp2_with (go_at_call 71; refine (hv.out).mono ?_; rintro e w1 ⟨rfl, hb1⟩; rw [HB.out])
        go_ret
        exact ⟨by rw [hf.out]; rfl, below_to hb hb1⟩
      | false =>
        have hf : Hid (∀ j, j < k + 1 → meetB ps r t j = false) := Lib.hid (fun j hj => by
          rcases Nat.lt_succ_iff_lt_or_eq.1 hj with h | rfl
          · exact hno.out j h
          · exact hB)
        have HB := Lib.hid hB
        clear hB
        go_wp2_with (go_at_call 71; refine (hv.out).mono ?_; rintro e w1 ⟨rfl, hb1⟩; rw [HB.out])
        go_roundw
        case rel => exact ⟨k + 1, by omega, by simp, hf, below_to hb hb1⟩
        case measure => simp [intOf]; omega
    · obtain rfl : k = ps.length := by omega
      have hf := Lib.hid (fst_none (B := meetB ps r t) hno.out)
      go_wp2
      go_ret
      exact ⟨by rw [hf.out]; rfl, hb⟩

end Go.Proofs.Ytfjlnejeffkdoaa
