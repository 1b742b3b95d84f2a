/- The checks of a rule and of a curve: contracts. No condition but that the points lie in memory. -/
import Derived.Test.YtfjlnejeffkdoaaC
namespace Go.Proofs.Ytfjlnejeffkdoaa
open Go.RowKit

def ruleB (r : Rl) : Bool := hasB 1 100000 r.d && (hasB 1 1000 r.k && hasB 0 1000 r.o)
def ruleE (r : Rl) : Int := if ruleB r = true then 0 else 1
def ptsE (ps : List Pt) : Int := if goodsB ps 0 = true then 0 else 1
theorem ptsE_yes {ps : List Pt} (h : goodsB ps 0 = true) : ptsE ps = 0 := by simp [ptsE, h]
theorem ptsE_no {ps : List Pt} (h : goodsB ps 0 = false) : ptsE ps = 1 := by simp [ptsE, h]
theorem ruleE_yes {r : Rl} (h : ruleB r = true) : ruleE r = 0 := by simp [ruleE, h]
theorem ruleE_no {r : Rl} (h : ruleB r = false) : ruleE r = 1 := by simp [ruleE, h]

set_option maxHeartbeats 400000 in
theorem rule_check (d k o : Int) (w : World) :
    Calls Try.prog 65 #[.agg #[.int .i64 d, .int .i64 k, .int .i64 o]] w fun e w' => e = .returned (.int .i64 (ruleE ⟨d, k, o⟩)) ∧ Below w.heap.size w w' := by
  have e : ruleB ⟨d, k, o⟩ = (hasB 1 100000 d && (hasB 1 1000 k && hasB 0 1000 o)) := rfl
  have hB : Below w.heap.size w ((((w.alloc (.cells #[.int .i64 d, .int .i64 k, .int .i64 o] 40)).alloc (.cells #[.int .i64 1, .int .i64 100000] 51)).alloc (.cells #[.int .i64 1, .int .i64 1000] 51)).alloc (.cells #[.int .i64 0, .int .i64 1000] 51)) := (((((Below.refl _ w).alloc (Nat.le_refl _) _).alloc (by simp) _).alloc (by simp; omega) _).alloc (by simp; omega) _)
  have hz : w.heap.size + 3 < ((((w.alloc (.cells #[.int .i64 d, .int .i64 k, .int .i64 o] 40)).alloc (.cells #[.int .i64 1, .int .i64 100000] 51)).alloc (.cells #[.int .i64 1, .int .i64 1000] 51)).alloc (.cells #[.int .i64 0, .int .i64 1000] 51)).heap.size := by simp
  cases h1 : hasB 1 100000 d with
  | false =>
    have er : Hid (ruleE ⟨d, k, o⟩ = 1) := ruleE_no (by rw [e, h1]; rfl)
    clear e
    go_enter Try.func65, Try.ntmps65
    go_wp2_with (go_at_call 62; refine (has_any _ _ _ _).mono ?_; rintro e w1 ⟨rfl, hb1⟩)
    go_ret
    exact ⟨by rw [er.out]; rfl, below_to hB hb1⟩
  | true =>
    cases h2 : hasB 1 1000 k with
    | false =>
      have er : Hid (ruleE ⟨d, k, o⟩ = 1) := ruleE_no (by rw [e, h1, h2]; rfl)
      clear e
      go_enter Try.func65, Try.ntmps65
      go_wp2_with fail
      have k1 : ((((w.alloc (.cells #[.int .i64 d, .int .i64 k, .int .i64 o] 40)).alloc (.cells #[.int .i64 1, .int .i64 100000] 51)).alloc (.cells #[.int .i64 1, .int .i64 1000] 51)).alloc (.cells #[.int .i64 0, .int .i64 1000] 51)).cell? ⟨w.heap.size, 1, none⟩ = some (.int .i64 k) := by simp [go_sem]
      have k2 : ((((w.alloc (.cells #[.int .i64 d, .int .i64 k, .int .i64 o] 40)).alloc (.cells #[.int .i64 1, .int .i64 100000] 51)).alloc (.cells #[.int .i64 1, .int .i64 1000] 51)).alloc (.cells #[.int .i64 0, .int .i64 1000] 51)).cell? ⟨w.heap.size + 2, 0, none⟩ = some (.int .i64 1) := by simp [go_sem]
      have k3 : ((((w.alloc (.cells #[.int .i64 d, .int .i64 k, .int .i64 o] 40)).alloc (.cells #[.int .i64 1, .int .i64 100000] 51)).alloc (.cells #[.int .i64 1, .int .i64 1000] 51)).alloc (.cells #[.int .i64 0, .int .i64 1000] 51)).cell? ⟨w.heap.size + 2, 1, none⟩ = some (.int .i64 1000) := by simp [go_sem]
      generalize World.alloc (World.alloc (World.alloc (World.alloc w _) _) _) _ = W at *
      refine (has_any _ _ _ _).mono ?_
      rintro e w1 ⟨rfl, hb1⟩
      have a1 := (hb1.cell (p := ⟨w.heap.size, 1, none⟩) (by simp; omega)).trans k1
      have a2 := (hb1.cell (p := ⟨w.heap.size + 2, 0, none⟩) (by simp; omega)).trans k2
      have a3 := (hb1.cell (p := ⟨w.heap.size + 2, 1, none⟩) (by simp; omega)).trans k3
      go_wp2_with (go_at_call 62; refine (has_any _ _ _ _).mono ?_; rintro e w2 ⟨rfl, hb2⟩)
      go_ret
      exact ⟨by rw [er.out]; rfl, below_to (below_to hB hb1) hb2⟩
    | true =>
      have er : Hid (ruleE ⟨d, k, o⟩ = if hasB 0 1000 o = true then 0 else 1) := by unfold ruleE; rw [e, h1, h2]; rfl
      clear e
      go_enter Try.func65, Try.ntmps65
      go_wp2_with fail
      have k1 : ((((w.alloc (.cells #[.int .i64 d, .int .i64 k, .int .i64 o] 40)).alloc (.cells #[.int .i64 1, .int .i64 100000] 51)).alloc (.cells #[.int .i64 1, .int .i64 1000] 51)).alloc (.cells #[.int .i64 0, .int .i64 1000] 51)).cell? ⟨w.heap.size, 1, none⟩ = some (.int .i64 k) := by simp [go_sem]
      have k2 : ((((w.alloc (.cells #[.int .i64 d, .int .i64 k, .int .i64 o] 40)).alloc (.cells #[.int .i64 1, .int .i64 100000] 51)).alloc (.cells #[.int .i64 1, .int .i64 1000] 51)).alloc (.cells #[.int .i64 0, .int .i64 1000] 51)).cell? ⟨w.heap.size + 2, 0, none⟩ = some (.int .i64 1) := by simp [go_sem]
      have k3 : ((((w.alloc (.cells #[.int .i64 d, .int .i64 k, .int .i64 o] 40)).alloc (.cells #[.int .i64 1, .int .i64 100000] 51)).alloc (.cells #[.int .i64 1, .int .i64 1000] 51)).alloc (.cells #[.int .i64 0, .int .i64 1000] 51)).cell? ⟨w.heap.size + 2, 1, none⟩ = some (.int .i64 1000) := by simp [go_sem]
      have k4 : ((((w.alloc (.cells #[.int .i64 d, .int .i64 k, .int .i64 o] 40)).alloc (.cells #[.int .i64 1, .int .i64 100000] 51)).alloc (.cells #[.int .i64 1, .int .i64 1000] 51)).alloc (.cells #[.int .i64 0, .int .i64 1000] 51)).cell? ⟨w.heap.size, 2, none⟩ = some (.int .i64 o) := by simp [go_sem]
      have k5 : ((((w.alloc (.cells #[.int .i64 d, .int .i64 k, .int .i64 o] 40)).alloc (.cells #[.int .i64 1, .int .i64 100000] 51)).alloc (.cells #[.int .i64 1, .int .i64 1000] 51)).alloc (.cells #[.int .i64 0, .int .i64 1000] 51)).cell? ⟨w.heap.size + 3, 0, none⟩ = some (.int .i64 0) := by simp [go_sem]
      have k6 : ((((w.alloc (.cells #[.int .i64 d, .int .i64 k, .int .i64 o] 40)).alloc (.cells #[.int .i64 1, .int .i64 100000] 51)).alloc (.cells #[.int .i64 1, .int .i64 1000] 51)).alloc (.cells #[.int .i64 0, .int .i64 1000] 51)).cell? ⟨w.heap.size + 3, 1, none⟩ = some (.int .i64 1000) := by simp [go_sem]
      generalize World.alloc (World.alloc (World.alloc (World.alloc w _) _) _) _ = W at *
      refine (has_any _ _ _ _).mono ?_
      rintro e w1 ⟨rfl, hb1⟩
      have a1 := (hb1.cell (p := ⟨w.heap.size, 1, none⟩) (by simp; omega)).trans k1
      have a2 := (hb1.cell (p := ⟨w.heap.size + 2, 0, none⟩) (by simp; omega)).trans k2
      have a3 := (hb1.cell (p := ⟨w.heap.size + 2, 1, none⟩) (by simp; omega)).trans k3
      have hz1 : w.heap.size + 3 < w1.heap.size := Nat.lt_of_lt_of_le hz hb1.size
      go_wp2_with fail
      refine (has_any _ _ _ _).mono ?_
      rintro e w2 ⟨rfl, hb2⟩
      have hb := below_to hb1 hb2
      have a4 := (hb.cell (p := ⟨w.heap.size, 2, none⟩) (by simp; omega)).trans k4
      have a5 := (hb.cell (p := ⟨w.heap.size + 3, 0, none⟩) (by simp; omega)).trans k5
      have a6 := (hb.cell (p := ⟨w.heap.size + 3, 1, none⟩) (by simp; omega)).trans k6
      cases h3 : hasB 0 1000 o with
      | false =>
        rw [h3] at er
        go_wp2_with (go_at_call 62; refine (has_any _ _ _ _).mono ?_; rintro e w3 ⟨rfl, hb3⟩)
        go_ret
        exact ⟨by rw [er.out]; rfl, below_to (below_to hB hb) hb3⟩
      | true =>
        rw [h3] at er
        go_wp2_with (go_at_call 62; refine (has_any _ _ _ _).mono ?_; rintro e w3 ⟨rfl, hb3⟩)
        go_ret
        exact ⟨by rw [er.out]; rfl, below_to (below_to hB hb) hb3⟩
set_option maxHeartbeats 400000 in
theorem check_long (a : Option Addr) (n cap : Nat) (w : World) (h : 20 < n) (hm : n ≤ maxLen) :
    Calls Try.prog 47 #[.agg #[.slice a n cap]] w fun e w' => e = .returned (.int .i64 3) ∧ Below w.heap.size w w' := by
  unfold maxLen at hm
  go_enter Try.func47, Try.ntmps47
  go_wp2
  go_ret
  exact ⟨rfl, box_below _ _⟩
set_option maxHeartbeats 400000 in
theorem check_empty (w : World) (a : Option Addr) (cap : Nat) :
    Calls Try.prog 47 #[.agg #[.slice a 0 cap]] w fun e w' => e = .returned (.int .i64 1) ∧ Below w.heap.size w w' := by
  go_enter Try.func47, Try.ntmps47
  go_wp2
  go_ret
  exact ⟨rfl, box_below _ _⟩
set_option maxHeartbeats 400000 in
theorem check_pts (b off cap : Nat) (ps : List Pt) (w : World) (hn : ps.length ≤ 20) (h0 : 0 < ps.length) (hp : PtsIn w b off ps) :
    Calls Try.prog 47 #[.agg #[.slice (some ⟨b, off, none⟩) ps.length cap]] w fun e w' => e = .returned (.int .i64 (ptsE ps)) ∧ Below w.heap.size w w' := by
  have hltb : b < w.heap.size := block_lt_of_cell (hp 0 h0).1
  have hB := box_below w (.cells #[.slice (some ⟨b, off, none⟩) ps.length cap] 34)
  have hv := each_pts b off cap w.heap.size ps _ hn h0 (hp.below hB hltb) (by simp)
  have Hv := Lib.hid hv
  clear hv
  have hne : ((ps.length : Int) == 0) = false := by rw [beq_eq_false_iff_ne]; omega
  cases hg : goodsB ps 0 with
  | true =>
    have er : Hid (ptsE ps = 0) := ptsE_yes hg
    have Hg := Lib.hid hg
    clear hg
    go_enter Try.func47, Try.ntmps47
    go_wp2_with (go_at_call 64; refine (Hv.out).mono ?_; rintro e w1 ⟨rfl, hb1⟩; rw [Hg.out])
    go_ret
    exact ⟨by rw [er.out]; rfl, below_to hB hb1⟩
  | false =>
    have er : Hid (ptsE ps = 1) := ptsE_no hg
    have Hg := Lib.hid hg
    clear hg
    go_enter Try.func47, Try.ntmps47
    go_wp2_with (go_at_call 64; refine (Hv.out).mono ?_; rintro e w1 ⟨rfl, hb1⟩; rw [Hg.out])
    go_ret
    exact ⟨by rw [er.out]; rfl, below_to hB hb1⟩

/-- The error of a curve with a rule, the points being valid ones in number. -/
def bothE (ps : List Pt) (r : Rl) : Int := if goodsB ps 0 = true then ruleE r else 1

set_option maxHeartbeats 400000 in
theorem rcheck_pts (b off cap : Nat) (ps : List Pt) (d k o : Int) (w : World) (hn : ps.length ≤ 20) (h0 : 0 < ps.length) (hp : PtsIn w b off ps) :
    Calls Try.prog 48 #[.agg #[.slice (some ⟨b, off, none⟩) ps.length cap, .int .i64 d, .int .i64 k, .int .i64 o]] w fun e w' => e = .returned (.int .i64 (bothE ps ⟨d, k, o⟩)) ∧ Below w.heap.size w w' := by
  have hltb : b < w.heap.size := block_lt_of_cell (hp 0 h0).1
  have hB := box_below w (.cells #[.slice (some ⟨b, off, none⟩) ps.length cap, .int .i64 d, .int .i64 k, .int .i64 o] 94)
  have hL := box_lt w (.cells #[.slice (some ⟨b, off, none⟩) ps.length cap, .int .i64 d, .int .i64 k, .int .i64 o] 94)
  have hc := box_cell w #[.slice (some ⟨b, off, none⟩) ps.length cap, .int .i64 d, .int .i64 k, .int .i64 o] 94
  have hv := check_pts b off cap ps _ hn h0 (hp.below hB hltb)
  have Hv := Lib.hid hv
  clear hv
  go_enter Try.func48, Try.ntmps48
  go_wp2_with fail
  generalize World.alloc w _ = W at *
  have c1 := hc 1
  have c2 := hc 2
  have c3 := hc 3
  simp at c1 c2 c3
  clear hc
  refine (Hv.out).mono ?_
  rintro e w1 ⟨rfl, hb1⟩
  have a1 := (hb1.cell (p := ⟨w.heap.size, 1, none⟩) hL).trans c1
  have a2 := (hb1.cell (p := ⟨w.heap.size, 2, none⟩) hL).trans c2
  have a3 := (hb1.cell (p := ⟨w.heap.size, 3, none⟩) hL).trans c3
  cases hg : goodsB ps 0 with
  | true =>
    have er : Hid (bothE ps ⟨d, k, o⟩ = ruleE ⟨d, k, o⟩) := by unfold bothE; rw [hg]; rfl
    rw [ptsE_yes hg]
    clear hg
    go_wp2_with (go_at_call 65; refine (rule_check _ _ _ _).mono ?_; rintro e w2 ⟨rfl, hb2⟩)
    go_ret
    exact ⟨by rw [er.out]; rfl, below_to (below_to hB hb1) hb2⟩
  | false =>
    have er : Hid (bothE ps ⟨d, k, o⟩ = 1) := by unfold bothE; rw [hg]; rfl
    rw [ptsE_no hg]
    clear hg
    go_wp2
    go_ret
    exact ⟨by rw [er.out]; rfl, below_to hB hb1⟩
set_option maxHeartbeats 400000 in
theorem rcheck_long (a : Option Addr) (n cap : Nat) (d k o : Int) (w : World) (h : 20 < n) (hm : n ≤ maxLen) :
    Calls Try.prog 48 #[.agg #[.slice a n cap, .int .i64 d, .int .i64 k, .int .i64 o]] w fun e w' => e = .returned (.int .i64 3) ∧ Below w.heap.size w w' := by
  have hB := box_below w (.cells #[.slice a n cap, .int .i64 d, .int .i64 k, .int .i64 o] 94)
  go_enter Try.func48, Try.ntmps48
  go_wp2_with (go_at_call 47; refine (check_long _ _ _ _ h hm).mono ?_; rintro e w1 ⟨rfl, hb1⟩)
  go_ret
  exact ⟨rfl, below_to hB hb1⟩
set_option maxHeartbeats 400000 in
theorem rcheck_empty (a : Option Addr) (cap : Nat) (d k o : Int) (w : World) :
    Calls Try.prog 48 #[.agg #[.slice a 0 cap, .int .i64 d, .int .i64 k, .int .i64 o]] w fun e w' => e = .returned (.int .i64 1) ∧ Below w.heap.size w w' := by
  have hB := box_below w (.cells #[.slice a 0 cap, .int .i64 d, .int .i64 k, .int .i64 o] 94)
  go_enter Try.func48, Try.ntmps48
  go_wp2_with (go_at_call 47; refine (check_empty _ _ _).mono ?_; rintro e w1 ⟨rfl, hb1⟩)
  go_ret
  exact ⟨rfl, below_to hB hb1⟩

end Go.Proofs.Ytfjlnejeffkdoaa
