/- Small contracts for the checks of one point and of all points: each returns the test of its numbers. No condition but that the points lie in memory. -/
import Derived.Test.YtfjlnejeffkdoaaK
namespace Go.Proofs.Ytfjlnejeffkdoaa
open Go.RowKit

def risesB (ps : List Pt) (i : Nat) : Bool := decide (i = 0 ∨ (pt ps (i - 1)).s < (pt ps i).s)
def goodB (ps : List Pt) (i : Nat) : Bool := risesB ps i && (hasB 0 1000 (pt ps i).s && withinB (pt ps i).lo (pt ps i).hi 0 100000)

set_option maxHeartbeats 400000 in
theorem valid_any (b off cap bc i : Nat) (ps : List Pt) (w : World) (hi : i < ps.length) (hn : ps.length ≤ 20) (hp : PtsIn w b off ps)
    (hbc : w.cell? ⟨bc, 0, none⟩ = some (.slice (some ⟨b, off, none⟩) ps.length cap)) :
    Calls Try.prog 61 #[.int .i64 i, .agg #[.int .i64 (pt ps i).s, .int .i64 (pt ps i).lo, .int .i64 (pt ps i).hi], .pointer (some ⟨bc, 0, none⟩)] w fun e w' => e = .returned (.bool (goodB ps i)) ∧ Below w.heap.size w w' := by
  have hp0 := hp (i - 1) (by omega)
  have hltb := block_lt_of_cell hp0.1
  have hltc := block_lt_of_cell hbc
  have hB := box_below w (.cells #[.int .i64 (pt ps i).s, .int .i64 (pt ps i).lo, .int .i64 (pt ps i).hi] 74)
  have hL := box_lt w (.cells #[.int .i64 (pt ps i).s, .int .i64 (pt ps i).lo, .int .i64 (pt ps i).hi] 74)
  have hc := box_cell w #[.int .i64 (pt ps i).s, .int .i64 (pt ps i).lo, .int .i64 (pt ps i).hi] 74
  have hs' := (hB.cell (p := ⟨b, off + (i-1) * 3, none⟩) hltb).trans hp0.1
  have hbc' := (hB.cell (p := ⟨bc, 0, none⟩) hltc).trans hbc
  clear hp hp0 hbc
  have e : goodB ps i = (risesB ps i && (hasB 0 1000 (pt ps i).s && withinB (pt ps i).lo (pt ps i).hi 0 100000)) := rfl
  rw [e]; clear e
  have er : risesB ps i = decide (i = 0 ∨ (pt ps (i - 1)).s < (pt ps i).s) := rfl
  generalize risesB ps i = ri at *
  generalize (pt ps i).s = s at *
  generalize (pt ps (i-1)).s = s0 at *
  generalize (pt ps i).lo = lo at *
  generalize (pt ps i).hi = hi' at *
  generalize ps.length = n at *
  rcases Nat.eq_zero_or_pos i with h0 | h0
  · subst h0
    obtain rfl : ri = true := by simpa using er
    clear er
    go_enter Try.func61, Try.ntmps61
    go_wp2
    generalize World.alloc w _ = W at *
    have c0 := hc 0
    have c1 := hc 1
    have c2 := hc 2
    simp at c0 c1 c2
    clear hc
    go_quiet (fail)
    cases h1 : hasB 0 1000 s with
    | false =>
      go_wp2_with (go_at_call 62; refine (has_any _ _ _ _).mono ?_; rintro e w1 ⟨rfl, hb1⟩)
      go_ret
      exact ⟨by simp [h1], below_to (below_dN hB) hb1⟩
    | true =>
      go_wp2_with (first | (go_at_call 62; refine (has_any _ _ _ _).mono ?_; rintro e w1 ⟨rfl, hb1⟩; have d1 := (hb1.cell (p := ⟨w.heap.size, 1, none⟩) hL).trans c1; have d2 := (hb1.cell (p := ⟨w.heap.size, 2, none⟩) hL).trans c2) | (go_at_call 63; refine (within_any _ _ _ _ _).mono ?_; rintro e w2 ⟨rfl, hb2⟩))
      go_ret
      exact ⟨by simp [h1], below_to (below_to (below_dN hB) hb1) hb2⟩
  · obtain ⟨i, rfl⟩ : ∃ j, i = j + 1 := ⟨i - 1, by omega⟩
    have hg : ((↑i : Int) + 1 == 0) = false := by simp; omega
    have hw : IntKind.i64.wrap (i : Int) = i := IntWalk.i64_in _ (by omega)
    simp only [Nat.add_sub_cancel] at hs'
    cases hri : ri with
    | true =>
      subst hri
      have hlt : decide (s0 < s) = true := by simpa using er
      clear er
      go_enter Try.func61, Try.ntmps61
      go_wp2
      generalize World.alloc w _ = W at *
      have c0 := hc 0
      have c1 := hc 1
      have c2 := hc 2
      simp at c0 c1 c2
      clear hc
      go_quiet (fail)
      cases h1 : hasB 0 1000 s with
      | false =>
        go_wp2_with (go_at_call 62; refine (has_any _ _ _ _).mono ?_; rintro e w1 ⟨rfl, hb1⟩)
        go_ret
        exact ⟨by simp [h1], below_to (below_dN hB) hb1⟩
      | true =>
        go_wp2_with (first | (go_at_call 62; refine (has_any _ _ _ _).mono ?_; rintro e w1 ⟨rfl, hb1⟩; have d1 := (hb1.cell (p := ⟨w.heap.size, 1, none⟩) hL).trans c1; have d2 := (hb1.cell (p := ⟨w.heap.size, 2, none⟩) hL).trans c2) | (go_at_call 63; refine (within_any _ _ _ _ _).mono ?_; rintro e w2 ⟨rfl, hb2⟩))
        go_ret
        exact ⟨by simp [h1], below_to (below_to (below_dN hB) hb1) hb2⟩
    | false =>
      subst hri
      have hlt : decide (s0 < s) = false := by simpa using er.symm
      clear er
      go_enter Try.func61, Try.ntmps61
      go_wp2
      generalize World.alloc w _ = W at *
      have c0 := hc 0
      have c1 := hc 1
      have c2 := hc 2
      simp at c0 c1 c2
      clear hc
      go_quiet (fail)
      go_wp2
      go_ret
      exact ⟨by simp, below_dN hB⟩

/-- The curve's points pass: from i on. -/
def goodsB (ps : List Pt) (i : Nat) : Bool := decide (∀ j, j < ps.length → i ≤ j → goodB ps j = true)
theorem goodsB_end (ps : List Pt) (i : Nat) (h : ps.length ≤ i) : goodsB ps i = true := by
  simp only [goodsB, decide_eq_true_eq]; intro j h1 h2; omega
theorem goodsB_yes (ps : List Pt) (i : Nat) (h : goodB ps i = true) : goodsB ps i = goodsB ps (i + 1) := by
  rw [Bool.eq_iff_iff]; simp only [goodsB, decide_eq_true_eq]
  constructor
  · intro H j h1 h2; exact H j h1 (by omega)
  · intro H j h1 h2
    rcases Nat.eq_or_lt_of_le h2 with e | e
    · rw [← e]; exact h
    · exact H j h1 e
theorem goodsB_no (ps : List Pt) (i : Nat) (hi : i < ps.length) (h : goodB ps i = false) : goodsB ps i = false := by
  rw [← Bool.not_eq_true]; intro H
  simp only [goodsB, decide_eq_true_eq] at H
  rw [H i hi (Nat.le_refl _)] at h; cases h

set_option maxHeartbeats 400000 in
theorem each_pts (b off cap bc : Nat) (ps : List Pt) (w : World) (hn : ps.length ≤ 20) (h0 : 0 < ps.length) (hp : PtsIn w b off ps)
    (hbc : w.cell? ⟨bc, 0, none⟩ = some (.slice (some ⟨b, off, none⟩) ps.length cap)) :
    Calls Try.prog 64 #[.slice (some ⟨b, off, none⟩) ps.length cap, .func (.func 61) #[] #[.pointer (some ⟨bc, 0, none⟩)]] w fun e w' => e = .returned (.bool (goodsB ps 0)) ∧ Below w.heap.size w w' := by
  have hltb := block_lt_of_cell (hp 0 h0).1
  have hltc := block_lt_of_cell hbc
  go_enter Try.func64, Try.ntmps64
  go_wp2
  go_loopw [9] (fun i wr => ∃ k : Nat, k ≤ ps.length ∧ i = .int .i64 k ∧ Hid (goodsB ps 0 = goodsB ps k) ∧ Below w.heap.size w wr) (fun i _ => ps.length - (intOf i).toNat)
  case atStart => exact ⟨0, Nat.zero_le _, rfl, Lib.hid rfl, Below.refl _ _⟩
  case round =>
    obtain ⟨k, hk, rfl, hg, hb⟩ := hrel
    by_cases hlt : k < ps.length
    · have hpk := hp k hlt
      have p1 := (hb.cell (p := ⟨b, off + k * 3, none⟩) hltb).trans hpk.1
      have p2 := (hb.cell (p := ⟨b, off + k * 3 + 1, none⟩) hltb).trans hpk.2.1
      have p3 := (hb.cell (p := ⟨b, off + k * 3 + 2, none⟩) hltb).trans hpk.2.2
      clear hpk
      have hall : PtsIn (wr.alloc (.cells #[.int .i64 (pt ps k).s, .int .i64 (pt ps k).lo, .int .i64 (pt ps k).hi] 74)) b off ps := hp.below ((hb.alloc hb.size _)) hltb
      have hbc2 : (wr.alloc (.cells #[.int .i64 (pt ps k).s, .int .i64 (pt ps k).lo, .int .i64 (pt ps k).hi] 74)).cell? ⟨bc, 0, none⟩ = some (.slice (some ⟨b, off, none⟩) ps.length cap) := ((hb.alloc hb.size _).cell (p := ⟨bc, 0, none⟩) hltc).trans hbc
      have hb2 : Below w.heap.size w (wr.alloc (.cells #[.int .i64 (pt ps k).s, .int .i64 (pt ps k).lo, .int .i64 (pt ps k).hi] 74)) := hb.alloc hb.size _
      have hv := valid_any b off cap bc k ps _ hlt hn hall hbc2
      have Hv := Lib.hid hv
      clear hall hbc2 hv
      cases hgk : goodB ps k with
      | true =>
        have hge := goodsB_yes ps k hgk
        rw [← hg.out] at hge
        have Hge := Lib.hid hge
        clear hge hg
        have Hgk := Lib.hid hgk
        clear hgk
        go_wp2_with (go_at_call 61; refine (Hv.out).mono ?_; rintro e w1 ⟨rfl, hb1⟩; rw [Hgk.out])
        go_roundw
        case rel => exact ⟨k + 1, by omega, by simp, Hge, below_to hb2 hb1⟩
        case measure => simp [intOf]; omega
      | false =>
        have hgf := (hg.out).trans (goodsB_no ps k hlt hgk)
        have Hgf := Lib.hid hgf
        clear hgf hg
        have Hgk := Lib.hid hgk
        clear hgk
        go_wp2_with (go_at_call 61; refine (Hv.out).mono ?_; rintro e w1 ⟨rfl, hb1⟩; rw [Hgk.out])
        go_ret
        exact ⟨by rw [Hgf.out]; rfl, below_to hb2 hb1⟩
    · have hgf := (hg.out).trans (goodsB_end ps k (by omega))
      have Hgf := Lib.hid hgf
      clear hgf hg
      obtain rfl : k = ps.length := by omega
      go_wp2
      go_ret
      exact ⟨by rw [Hgf.out]; rfl, hb⟩

end Go.Proofs.Ytfjlnejeffkdoaa
