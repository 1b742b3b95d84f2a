/- Plain definitions and small lemmas for the curve's proofs: points, rules, truths, what is read; boxes in memory. No condition. Small contracts for the checks of one point and of all points: each returns the test of its numbers. No condition but that the points lie in memory. The checks of a rule and of a curve: contracts. No condition but that the points lie in memory. Whether a truth fits a curve, and the greatest load: contracts. Whether a drop and a meeting happen at a point: contracts. The proof load: its contract. -/
import Derived.Test.YtfjlnejeffkdoaaChecked
import Derived.WalkKit
import Derived.WalkSpells
import Derived.WalkLawsBesides
import Derived.Lib.QuietBelow
import Derived.BigQuiet
import Derived.IntWalk
import Derived.Lib.Hide
/- Plain definitions and small lemmas for the curve's proofs: points, rules, truths, what is read; boxes in memory. No condition. -/
namespace Go.Proofs.Ytfjlnejeffkdoaa
open Go.RowKit

structure Pt where
  s : Int
  lo : Int
  hi : Int
structure Rl where
  d : Int
  k : Int
  o : Int
structure Rs where
  st : Int
  pk : Int
  ya : Int
  y : Int
  ma : Int
  pl : Int
  wk : Int

def pt (ps : List Pt) (i : Nat) : Pt := (ps[i]?).getD ⟨0, 0, 0⟩
def ld (t : List Int) (i : Nat) : Int := (t[i]?).getD 0
def iV (n : Int) : Value := .int .i64 n
def arrV (t : List Int) : Array Value := (t.map iV).toArray
def ptV (p : Pt) : Array Value := #[iV p.s, iV p.lo, iV p.hi]
def rlV (r : Rl) : Array Value := #[iV r.d, iV r.k, iV r.o]
def rsV (x : Rs) : Array Value := #[iV x.st, iV x.pk, iV x.ya, iV x.y, iV x.ma, iV x.pl, iV x.wk]

/-- The points of a curve, in memory: a block, its offset. -/
def PtsIn (w : World) (b off : Nat) (ps : List Pt) : Prop :=
  ∀ i, i < ps.length → w.cell? ⟨b, off + i * 3, none⟩ = some (.int .i64 (pt ps i).s) ∧ w.cell? ⟨b, off + i * 3 + 1, none⟩ = some (.int .i64 (pt ps i).lo) ∧ w.cell? ⟨b, off + i * 3 + 2, none⟩ = some (.int .i64 (pt ps i).hi)

theorem PtsIn.below {n : Nat} {w w' : World} {b off : Nat} {ps : List Pt} (h : PtsIn w b off ps) (hb : Below n w w') (hlt : b < n) : PtsIn w' b off ps := fun i hi =>
  ⟨(hb.cell (p := ⟨b, off + i * 3, none⟩) hlt).trans (h i hi).1, (hb.cell (p := ⟨b, off + i * 3 + 1, none⟩) hlt).trans (h i hi).2.1, (hb.cell (p := ⟨b, off + i * 3 + 2, none⟩) hlt).trans (h i hi).2.2⟩

/-- A box: its cells. -/
theorem box_cell (w : World) (cs : Array Value) (t : TypeId) (j : Nat) : (w.alloc (.cells cs t)).cell? ⟨w.heap.size, j, none⟩ = cs[j]? :=
  cell_of_row _ _ j cs t (0, 0) (heap_alloc_new w _)
theorem box_below (w : World) (o : Obj) : Below w.heap.size w (w.alloc o) := (Below.refl _ _).alloc (Nat.le_refl _) _

theorem bcell {W w1 : World} (hb : Below W.heap.size W w1) : (∀ b o, b < W.heap.size → w1.cell? ⟨b, o, none⟩ = W.cell? ⟨b, o, none⟩) ∧ (∀ b o, b < W.heap.size → w1.frozen? ⟨b, o, none⟩ = W.frozen? ⟨b, o, none⟩) :=
  ⟨fun b o h => hb.cell (p := ⟨b, o, none⟩) h, fun b o h => hb.frozen (p := ⟨b, o, none⟩) h⟩
theorem box_lt (w : World) (o : Obj) : w.heap.size < (w.alloc o).heap.size := by simp
theorem below_to {w W W' : World} (h : Below w.heap.size w W) (h' : Below W.heap.size W W') : Below w.heap.size w W' := h.trans (h'.mono h.size)
theorem below_dN {w W : World} {n : Nat} (h : Below w.heap.size w W) : Below w.heap.size w (W.drewN n) := h.trans ⟨rfl, rfl, rfl, Nat.le_refl _, fun _ _ => rfl⟩

theorem mul_le_of (a b A B : Int) (h0 : 0 ≤ a) (h1 : a ≤ A) (h2 : -B ≤ b) (h3 : b ≤ B) (hB : 0 ≤ B) : -(A * B) ≤ a * b ∧ a * b ≤ A * B := by
  have e1 : a * b ≤ a * B := Int.mul_le_mul_of_nonneg_left h3 h0
  have e2 : a * B ≤ A * B := Int.mul_le_mul_of_nonneg_right h1 hB
  have e3 : a * (-B) ≤ a * b := Int.mul_le_mul_of_nonneg_left h2 h0
  rw [Int.mul_neg] at e3
  omega

def hasB (lo hi n : Int) : Bool := decide (lo ≤ n ∧ n ≤ hi)
def withinB (lo hi olo ohi : Int) : Bool := decide (olo ≤ lo ∧ lo ≤ hi ∧ hi ≤ ohi)

theorem ret_int {k : IntKind} {a b : Int} (h : a = b) : Ending.returned (.int k a) = .returned (.int k b) := by rw [h]
theorem ret_bool {a b : Bool} (h : a = b) : Ending.returned (.bool a) = .returned (.bool b) := by rw [h]

set_option maxHeartbeats 400000 in
theorem has_any (lo hi n : Int) (w : World) :
    Calls Try.prog 62 #[.agg #[.int .i64 lo, .int .i64 hi], .int .i64 n] w fun e w' => e = .returned (.bool (hasB lo hi n)) ∧ Below w.heap.size w w' := by
  go_enter Try.func62, Try.ntmps62
  go_wp2
  all_goals
    go_ret
    refine ⟨ret_bool ?_, box_below _ _⟩
    simp [hasB, *]
    try omega

theorem below2 (w : World) (o o' : Obj) : Below w.heap.size w ((w.alloc o).alloc o') := (box_below w o).trans ((box_below _ o').mono (by simp))
theorem below3 (w : World) (o o' o'' : Obj) : Below w.heap.size w (((w.alloc o).alloc o').alloc o'') := (below2 w o o').trans ((box_below _ o'').mono (by simp; omega))

set_option maxHeartbeats 400000 in
theorem within_any (lo hi olo ohi : Int) (w : World) :
    Calls Try.prog 63 #[.agg #[.int .i64 lo, .int .i64 hi], .agg #[.int .i64 olo, .int .i64 ohi]] w fun e w' => e = .returned (.bool (withinB lo hi olo ohi)) ∧ Below w.heap.size w w' := by
  go_enter Try.func63, Try.ntmps63
  go_wp2
  all_goals
    go_ret
    refine ⟨ret_bool ?_, below2 _ _ _⟩
    simp [withinB, *]
    try omega

set_option maxHeartbeats 400000 in
theorem line_any (b off n cap : Nat) (i : Int) (d k o s : Int) (w : World) (hi0 : 0 ≤ i) (hi : i < n) (_ : n ≤ 20) (hs : w.cell? ⟨b, off + i.toNat * 3, none⟩ = some (.int .i64 s))
   (h1 : 0 ≤ s) (h2 : s ≤ 1000) (h3 : 0 ≤ o) (h4 : o ≤ 1000) (h5 : 0 ≤ k) (h6 : k ≤ 1000) :
    Calls Try.prog 88 #[.agg #[.slice (some ⟨b, off, none⟩) n cap, .int .i64 d, .int .i64 k, .int .i64 o], .int .i64 i] w fun e w' => e = .returned (.int .i64 (k * (s - o))) ∧ Below w.heap.size w w' := by
  obtain ⟨i, rfl⟩ := Int.eq_ofNat_of_zero_le hi0
  rw [Int.toNat_natCast] at hs
  have hlt := block_lt_of_cell hs
  have hB := box_below w (.cells #[.slice (some ⟨b, off, none⟩) n cap, .int .i64 d, .int .i64 k, .int .i64 o] 94)
  have hc := box_cell w #[.slice (some ⟨b, off, none⟩) n cap, .int .i64 d, .int .i64 k, .int .i64 o] 94
  have hs' := (hB.cell (p := ⟨b, off + i * 3, none⟩) hlt).trans hs
  have hm := mul_le_of k (s - o) 1000 1000 h5 h6 (by omega) (by omega) (by omega)
  go_enter Try.func88, Try.ntmps88
  clear hs
  go_wp2
  generalize World.alloc w _ = W at *
  have c0 := hc 0
  have c2 := hc 2
  have c3 := hc 3
  simp at c0 c2 c3
  clear hc
  go_quiet (fail)
  go_wp2
  go_ret
  exact ⟨rfl, hB.trans ⟨rfl, rfl, rfl, Nat.le_refl _, fun _ _ => rfl⟩⟩

end Go.Proofs.Ytfjlnejeffkdoaa

/- Small contracts for the checks of one point and of all points: each returns the test of its numbers. No condition but that the points lie in memory. -/
namespace Go.Proofs.Ytfjlnejeffkdoaa
open Go.RowKit

def risesB (ps : List Pt) (i : Nat) : Bool := decide (i = 0 ∨ (pt ps (i - 1)).s < (pt ps i).s)
def goodB (ps : List Pt) (i : Nat) : Bool := risesB ps i && (hasB 0 1000 (pt ps i).s && withinB (pt ps i).lo (pt ps i).hi 0 100000)

set_option maxHeartbeats 400000 in
theorem valid_any (b off cap bc i : Nat) (ps : List Pt) (w : World) (hi : i < ps.length) (hn : ps.length ≤ 20) (hp : PtsIn w b off ps)
    (hbc : w.cell? ⟨bc, 0, none⟩ = some (.slice (some ⟨b, off, none⟩) ps.length cap)) :
    Calls Try.prog 61 #[.int .i64 i, .agg #[.int .i64 (pt ps i).s, .int .i64 (pt ps i).lo, .int .i64 (pt ps i).hi], .pointer (some ⟨bc, 0, none⟩)] w fun e w' => e = .returned (.bool (goodB ps i)) ∧ Below w.heap.size w w' := by
  have hp0 := hp (i - 1) (by omega)
  have hltb := block_lt_of_cell hp0.1
  have hltc := block_lt_of_cell hbc
  have hB := box_below w (.cells #[.int .i64 (pt ps i).s, .int .i64 (pt ps i).lo, .int .i64 (pt ps i).hi] 74)
  have hL := box_lt w (.cells #[.int .i64 (pt ps i).s, .int .i64 (pt ps i).lo, .int .i64 (pt ps i).hi] 74)
  have hc := box_cell w #[.int .i64 (pt ps i).s, .int .i64 (pt ps i).lo, .int .i64 (pt ps i).hi] 74
  have hs' := (hB.cell (p := ⟨b, off + (i-1) * 3, none⟩) hltb).trans hp0.1
  have hbc' := (hB.cell (p := ⟨bc, 0, none⟩) hltc).trans hbc
  clear hp hp0 hbc
  have e : goodB ps i = (risesB ps i && (hasB 0 1000 (pt ps i).s && withinB (pt ps i).lo (pt ps i).hi 0 100000)) := rfl
  rw [e]; clear e
  have er : risesB ps i = decide (i = 0 ∨ (pt ps (i - 1)).s < (pt ps i).s) := rfl
  generalize risesB ps i = ri at *
  generalize (pt ps i).s = s at *
  generalize (pt ps (i-1)).s = s0 at *
  generalize (pt ps i).lo = lo at *
  generalize (pt ps i).hi = hi' at *
  generalize ps.length = n at *
  rcases Nat.eq_zero_or_pos i with h0 | h0
  · subst h0
    obtain rfl : ri = true := by simpa using er
    clear er
    go_enter Try.func61, Try.ntmps61
    go_wp2
    generalize World.alloc w _ = W at *
    have c0 := hc 0
    have c1 := hc 1
    have c2 := hc 2
    simp at c0 c1 c2
    clear hc
    go_quiet (fail)
    cases h1 : hasB 0 1000 s with
    | false =>
      go_wp2_with (go_at_call 62; refine (has_any _ _ _ _).mono ?_; rintro e w1 ⟨rfl, hb1⟩)
      go_ret
      exact ⟨by simp [h1], below_to (below_dN hB) hb1⟩
    | true =>
      go_wp2_with (first | (go_at_call 62; refine (has_any _ _ _ _).mono ?_; rintro e w1 ⟨rfl, hb1⟩; have d1 := (hb1.cell (p := ⟨w.heap.size, 1, none⟩) hL).trans c1; have d2 := (hb1.cell (p := ⟨w.heap.size, 2, none⟩) hL).trans c2) | (go_at_call 63; refine (within_any _ _ _ _ _).mono ?_; rintro e w2 ⟨rfl, hb2⟩))
      go_ret
      exact ⟨by simp [h1], below_to (below_to (below_dN hB) hb1) hb2⟩
  · obtain ⟨i, rfl⟩ : ∃ j, i = j + 1 := ⟨i - 1, by omega⟩
    have hg : ((↑i : Int) + 1 == 0) = false := by simp; omega
    have hw : IntKind.i64.wrap (i : Int) = i := IntWalk.i64_in _ (by omega)
    simp only [Nat.add_sub_cancel] at hs'
    cases hri : ri with
    | true =>
      subst hri
      have hlt : decide (s0 < s) = true := by simpa using er
      clear er
      go_enter Try.func61, Try.ntmps61
      go_wp2
      generalize World.alloc w _ = W at *
      have c0 := hc 0
      have c1 := hc 1
      have c2 := hc 2
      simp at c0 c1 c2
      clear hc
      go_quiet (fail)
      cases h1 : hasB 0 1000 s with
      | false =>
        go_wp2_with (go_at_call 62; refine (has_any _ _ _ _).mono ?_; rintro e w1 ⟨rfl, hb1⟩)
        go_ret
        exact ⟨by simp [h1], below_to (below_dN hB) hb1⟩
      | true =>
        go_wp2_with (first | (go_at_call 62; refine (has_any _ _ _ _).mono ?_; rintro e w1 ⟨rfl, hb1⟩; have d1 := (hb1.cell (p := ⟨w.heap.size, 1, none⟩) hL).trans c1; have d2 := (hb1.cell (p := ⟨w.heap.size, 2, none⟩) hL).trans c2) | (go_at_call 63; refine (within_any _ _ _ _ _).mono ?_; rintro e w2 ⟨rfl, hb2⟩))
        go_ret
        exact ⟨by simp [h1], below_to (below_to (below_dN hB) hb1) hb2⟩
    | false =>
      subst hri
      have hlt : decide (s0 < s) = false := by simpa using er.symm
      clear er
      go_enter Try.func61, Try.ntmps61
      go_wp2
      generalize World.alloc w _ = W at *
      have c0 := hc 0
      have c1 := hc 1
      have c2 := hc 2
      simp at c0 c1 c2
      clear hc
      go_quiet (fail)
      go_wp2
      go_ret
      exact ⟨by simp, below_dN hB⟩

/-- The curve's points pass: from i on. -/
def goodsB (ps : List Pt) (i : Nat) : Bool := decide (∀ j, j < ps.length → i ≤ j → goodB ps j = true)
theorem goodsB_end (ps : List Pt) (i : Nat) (h : ps.length ≤ i) : goodsB ps i = true := by
  simp only [goodsB, decide_eq_true_eq]; intro j h1 h2; omega
theorem goodsB_yes (ps : List Pt) (i : Nat) (h : goodB ps i = true) : goodsB ps i = goodsB ps (i + 1) := by
  rw [Bool.eq_iff_iff]; simp only [goodsB, decide_eq_true_eq]
  constructor
  · intro H j h1 h2; exact H j h1 (by omega)
  · intro H j h1 h2
    rcases Nat.eq_or_lt_of_le h2 with e | e
    · rw [← e]; exact h
    · exact H j h1 e
theorem goodsB_no (ps : List Pt) (i : Nat) (hi : i < ps.length) (h : goodB ps i = false) : goodsB ps i = false := by
  rw [← Bool.not_eq_true]; intro H
  simp only [goodsB, decide_eq_true_eq] at H
  rw [H i hi (Nat.le_refl _)] at h; cases h

set_option maxHeartbeats 400000 in
theorem each_pts (b off cap bc : Nat) (ps : List Pt) (w : World) (hn : ps.length ≤ 20) (h0 : 0 < ps.length) (hp : PtsIn w b off ps)
    (hbc : w.cell? ⟨bc, 0, none⟩ = some (.slice (some ⟨b, off, none⟩) ps.length cap)) :
    Calls Try.prog 64 #[.slice (some ⟨b, off, none⟩) ps.length cap, .func (.func 61) #[] #[.pointer (some ⟨bc, 0, none⟩)]] w fun e w' => e = .returned (.bool (goodsB ps 0)) ∧ Below w.heap.size w w' := by
  have hltb := block_lt_of_cell (hp 0 h0).1
  have hltc := block_lt_of_cell hbc
  go_enter Try.func64, Try.ntmps64
  go_wp2
  go_loopw [9] (fun i wr => ∃ k : Nat, k ≤ ps.length ∧ i = .int .i64 k ∧ Hid (goodsB ps 0 = goodsB ps k) ∧ Below w.heap.size w wr) (fun i _ => ps.length - (intOf i).toNat)
  case atStart => exact ⟨0, Nat.zero_le _, rfl, Lib.hid rfl, Below.refl _ _⟩
  case round =>
    obtain ⟨k, hk, rfl, hg, hb⟩ := hrel
    by_cases hlt : k < ps.length
    · have hpk := hp k hlt
      have p1 := (hb.cell (p := ⟨b, off + k * 3, none⟩) hltb).trans hpk.1
      have p2 := (hb.cell (p := ⟨b, off + k * 3 + 1, none⟩) hltb).trans hpk.2.1
      have p3 := (hb.cell (p := ⟨b, off + k * 3 + 2, none⟩) hltb).trans hpk.2.2
      clear hpk
      have hall : PtsIn (wr.alloc (.cells #[.int .i64 (pt ps k).s, .int .i64 (pt ps k).lo, .int .i64 (pt ps k).hi] 74)) b off ps := hp.below ((hb.alloc hb.size _)) hltb
      have hbc2 : (wr.alloc (.cells #[.int .i64 (pt ps k).s, .int .i64 (pt ps k).lo, .int .i64 (pt ps k).hi] 74)).cell? ⟨bc, 0, none⟩ = some (.slice (some ⟨b, off, none⟩) ps.length cap) := ((hb.alloc hb.size _).cell (p := ⟨bc, 0, none⟩) hltc).trans hbc
      have hb2 : Below w.heap.size w (wr.alloc (.cells #[.int .i64 (pt ps k).s, .int .i64 (pt ps k).lo, .int .i64 (pt ps k).hi] 74)) := hb.alloc hb.size _
      have hv := valid_any b off cap bc k ps _ hlt hn hall hbc2
      have Hv := Lib.hid hv
      clear hall hbc2 hv
      cases hgk : goodB ps k with
      | true =>
        have hge := goodsB_yes ps k hgk
        rw [← hg.out] at hge
        have Hge := Lib.hid hge
        clear hge hg
        have Hgk := Lib.hid hgk
        clear hgk
        go_wp2_with (go_at_call 61; refine (Hv.out).mono ?_; rintro e w1 ⟨rfl, hb1⟩; rw [Hgk.out])
        go_roundw
        case rel => exact ⟨k + 1, by omega, by simp, Hge, below_to hb2 hb1⟩
        case measure => simp [intOf]; omega
      | false =>
        have hgf := (hg.out).trans (goodsB_no ps k hlt hgk)
        have Hgf := Lib.hid hgf
        clear hgf hg
        have Hgk := Lib.hid hgk
        clear hgk
        go_wp2_with (go_at_call 61; refine (Hv.out).mono ?_; rintro e w1 ⟨rfl, hb1⟩; rw [Hgk.out])
        go_ret
        exact ⟨by rw [Hgf.out]; rfl, below_to hb2 hb1⟩
    · have hgf := (hg.out).trans (goodsB_end ps k (by omega))
      have Hgf := Lib.hid hgf
      clear hgf hg
      obtain rfl : k = ps.length := by omega
      go_wp2
      go_ret
      exact ⟨by rw [Hgf.out]; rfl, hb⟩

end Go.Proofs.Ytfjlnejeffkdoaa

/- The checks of a rule and of a curve: contracts. No condition but that the points lie in memory. -/
namespace Go.Proofs.Ytfjlnejeffkdoaa
open Go.RowKit

def ruleB (r : Rl) : Bool := hasB 1 100000 r.d && (hasB 1 1000 r.k && hasB 0 1000 r.o)
def ruleE (r : Rl) : Int := if ruleB r = true then 0 else 1
def ptsE (ps : List Pt) : Int := if goodsB ps 0 = true then 0 else 1
theorem ptsE_yes {ps : List Pt} (h : goodsB ps 0 = true) : ptsE ps = 0 := by simp [ptsE, h]
theorem ptsE_no {ps : List Pt} (h : goodsB ps 0 = false) : ptsE ps = 1 := by simp [ptsE, h]
theorem ruleE_yes {r : Rl} (h : ruleB r = true) : ruleE r = 0 := by simp [ruleE, h]
theorem ruleE_no {r : Rl} (h : ruleB r = false) : ruleE r = 1 := by simp [ruleE, h]

set_option maxHeartbeats 400000 in
theorem rule_check (d k o : Int) (w : World) :
    Calls Try.prog 65 #[.agg #[.int .i64 d, .int .i64 k, .int .i64 o]] w fun e w' => e = .returned (.int .i64 (ruleE ⟨d, k, o⟩)) ∧ Below w.heap.size w w' := by
  have e : ruleB ⟨d, k, o⟩ = (hasB 1 100000 d && (hasB 1 1000 k && hasB 0 1000 o)) := rfl
  have hB : Below w.heap.size w ((((w.alloc (.cells #[.int .i64 d, .int .i64 k, .int .i64 o] 40)).alloc (.cells #[.int .i64 1, .int .i64 100000] 51)).alloc (.cells #[.int .i64 1, .int .i64 1000] 51)).alloc (.cells #[.int .i64 0, .int .i64 1000] 51)) := (((((Below.refl _ w).alloc (Nat.le_refl _) _).alloc (by simp) _).alloc (by simp; omega) _).alloc (by simp; omega) _)
  have hz : w.heap.size + 3 < ((((w.alloc (.cells #[.int .i64 d, .int .i64 k, .int .i64 o] 40)).alloc (.cells #[.int .i64 1, .int .i64 100000] 51)).alloc (.cells #[.int .i64 1, .int .i64 1000] 51)).alloc (.cells #[.int .i64 0, .int .i64 1000] 51)).heap.size := by simp
  cases h1 : hasB 1 100000 d with
  | false =>
    have er : Hid (ruleE ⟨d, k, o⟩ = 1) := ruleE_no (by rw [e, h1]; rfl)
    clear e
    go_enter Try.func65, Try.ntmps65
    go_wp2_with (go_at_call 62; refine (has_any _ _ _ _).mono ?_; rintro e w1 ⟨rfl, hb1⟩)
    go_ret
    exact ⟨by rw [er.out]; rfl, below_to hB hb1⟩
  | true =>
    cases h2 : hasB 1 1000 k with
    | false =>
      have er : Hid (ruleE ⟨d, k, o⟩ = 1) := ruleE_no (by rw [e, h1, h2]; rfl)
      clear e
      go_enter Try.func65, Try.ntmps65
      go_wp2_with fail
      have k1 : ((((w.alloc (.cells #[.int .i64 d, .int .i64 k, .int .i64 o] 40)).alloc (.cells #[.int .i64 1, .int .i64 100000] 51)).alloc (.cells #[.int .i64 1, .int .i64 1000] 51)).alloc (.cells #[.int .i64 0, .int .i64 1000] 51)).cell? ⟨w.heap.size, 1, none⟩ = some (.int .i64 k) := by simp [go_sem]
      have k2 : ((((w.alloc (.cells #[.int .i64 d, .int .i64 k, .int .i64 o] 40)).alloc (.cells #[.int .i64 1, .int .i64 100000] 51)).alloc (.cells #[.int .i64 1, .int .i64 1000] 51)).alloc (.cells #[.int .i64 0, .int .i64 1000] 51)).cell? ⟨w.heap.size + 2, 0, none⟩ = some (.int .i64 1) := by simp [go_sem]
      have k3 : ((((w.alloc (.cells #[.int .i64 d, .int .i64 k, .int .i64 o] 40)).alloc (.cells #[.int .i64 1, .int .i64 100000] 51)).alloc (.cells #[.int .i64 1, .int .i64 1000] 51)).alloc (.cells #[.int .i64 0, .int .i64 1000] 51)).cell? ⟨w.heap.size + 2, 1, none⟩ = some (.int .i64 1000) := by simp [go_sem]
      generalize World.alloc (World.alloc (World.alloc (World.alloc w _) _) _) _ = W at *
      refine (has_any _ _ _ _).mono ?_
      rintro e w1 ⟨rfl, hb1⟩
      have a1 := (hb1.cell (p := ⟨w.heap.size, 1, none⟩) (by simp; omega)).trans k1
      have a2 := (hb1.cell (p := ⟨w.heap.size + 2, 0, none⟩) (by simp; omega)).trans k2
      have a3 := (hb1.cell (p := ⟨w.heap.size + 2, 1, none⟩) (by simp; omega)).trans k3
      go_wp2_with (go_at_call 62; refine (has_any _ _ _ _).mono ?_; rintro e w2 ⟨rfl, hb2⟩)
      go_ret
      exact ⟨by rw [er.out]; rfl, below_to (below_to hB hb1) hb2⟩
    | true =>
      have er : Hid (ruleE ⟨d, k, o⟩ = if hasB 0 1000 o = true then 0 else 1) := by unfold ruleE; rw [e, h1, h2]; rfl
      clear e
      go_enter Try.func65, Try.ntmps65
      go_wp2_with fail
      have k1 : ((((w.alloc (.cells #[.int .i64 d, .int .i64 k, .int .i64 o] 40)).alloc (.cells #[.int .i64 1, .int .i64 100000] 51)).alloc (.cells #[.int .i64 1, .int .i64 1000] 51)).alloc (.cells #[.int .i64 0, .int .i64 1000] 51)).cell? ⟨w.heap.size, 1, none⟩ = some (.int .i64 k) := by simp [go_sem]
      have k2 : ((((w.alloc (.cells #[.int .i64 d, .int .i64 k, .int .i64 o] 40)).alloc (.cells #[.int .i64 1, .int .i64 100000] 51)).alloc (.cells #[.int .i64 1, .int .i64 1000] 51)).alloc (.cells #[.int .i64 0, .int .i64 1000] 51)).cell? ⟨w.heap.size + 2, 0, none⟩ = some (.int .i64 1) := by simp [go_sem]
      have k3 : ((((w.alloc (.cells #[.int .i64 d, .int .i64 k, .int .i64 o] 40)).alloc (.cells #[.int .i64 1, .int .i64 100000] 51)).alloc (.cells #[.int .i64 1, .int .i64 1000] 51)).alloc (.cells #[.int .i64 0, .int .i64 1000] 51)).cell? ⟨w.heap.size + 2, 1, none⟩ = some (.int .i64 1000) := by simp [go_sem]
      have k4 : ((((w.alloc (.cells #[.int .i64 d, .int .i64 k, .int .i64 o] 40)).alloc (.cells #[.int .i64 1, .int .i64 100000] 51)).alloc (.cells #[.int .i64 1, .int .i64 1000] 51)).alloc (.cells #[.int .i64 0, .int .i64 1000] 51)).cell? ⟨w.heap.size, 2, none⟩ = some (.int .i64 o) := by simp [go_sem]
      have k5 : ((((w.alloc (.cells #[.int .i64 d, .int .i64 k, .int .i64 o] 40)).alloc (.cells #[.int .i64 1, .int .i64 100000] 51)).alloc (.cells #[.int .i64 1, .int .i64 1000] 51)).alloc (.cells #[.int .i64 0, .int .i64 1000] 51)).cell? ⟨w.heap.size + 3, 0, none⟩ = some (.int .i64 0) := by simp [go_sem]
      have k6 : ((((w.alloc (.cells #[.int .i64 d, .int .i64 k, .int .i64 o] 40)).alloc (.cells #[.int .i64 1, .int .i64 100000] 51)).alloc (.cells #[.int .i64 1, .int .i64 1000] 51)).alloc (.cells #[.int .i64 0, .int .i64 1000] 51)).cell? ⟨w.heap.size + 3, 1, none⟩ = some (.int .i64 1000) := by simp [go_sem]
      generalize World.alloc (World.alloc (World.alloc (World.alloc w _) _) _) _ = W at *
      refine (has_any _ _ _ _).mono ?_
      rintro e w1 ⟨rfl, hb1⟩
      have a1 := (hb1.cell (p := ⟨w.heap.size, 1, none⟩) (by simp; omega)).trans k1
      have a2 := (hb1.cell (p := ⟨w.heap.size + 2, 0, none⟩) (by simp; omega)).trans k2
      have a3 := (hb1.cell (p := ⟨w.heap.size + 2, 1, none⟩) (by simp; omega)).trans k3
      have hz1 : w.heap.size + 3 < w1.heap.size := Nat.lt_of_lt_of_le hz hb1.size
      go_wp2_with fail
      refine (has_any _ _ _ _).mono ?_
      rintro e w2 ⟨rfl, hb2⟩
      have hb := below_to hb1 hb2
      have a4 := (hb.cell (p := ⟨w.heap.size, 2, none⟩) (by simp; omega)).trans k4
      have a5 := (hb.cell (p := ⟨w.heap.size + 3, 0, none⟩) (by simp; omega)).trans k5
      have a6 := (hb.cell (p := ⟨w.heap.size + 3, 1, none⟩) (by simp; omega)).trans k6
      cases h3 : hasB 0 1000 o with
      | false =>
        rw [h3] at er
        go_wp2_with (go_at_call 62; refine (has_any _ _ _ _).mono ?_; rintro e w3 ⟨rfl, hb3⟩)
        go_ret
        exact ⟨by rw [er.out]; rfl, below_to (below_to hB hb) hb3⟩
      | true =>
        rw [h3] at er
        go_wp2_with (go_at_call 62; refine (has_any _ _ _ _).mono ?_; rintro e w3 ⟨rfl, hb3⟩)
        go_ret
        exact ⟨by rw [er.out]; rfl, below_to (below_to hB hb) hb3⟩
set_option maxHeartbeats 400000 in
theorem check_long (a : Option Addr) (n cap : Nat) (w : World) (h : 20 < n) (hm : n ≤ maxLen) :
    Calls Try.prog 47 #[.agg #[.slice a n cap]] w fun e w' => e = .returned (.int .i64 3) ∧ Below w.heap.size w w' := by
  unfold maxLen at hm
  go_enter Try.func47, Try.ntmps47
  go_wp2
  go_ret
  exact ⟨rfl, box_below _ _⟩
set_option maxHeartbeats 400000 in
theorem check_empty (w : World) (a : Option Addr) (cap : Nat) :
    Calls Try.prog 47 #[.agg #[.slice a 0 cap]] w fun e w' => e = .returned (.int .i64 1) ∧ Below w.heap.size w w' := by
  go_enter Try.func47, Try.ntmps47
  go_wp2
  go_ret
  exact ⟨rfl, box_below _ _⟩
set_option maxHeartbeats 400000 in
theorem check_pts (b off cap : Nat) (ps : List Pt) (w : World) (hn : ps.length ≤ 20) (h0 : 0 < ps.length) (hp : PtsIn w b off ps) :
    Calls Try.prog 47 #[.agg #[.slice (some ⟨b, off, none⟩) ps.length cap]] w fun e w' => e = .returned (.int .i64 (ptsE ps)) ∧ Below w.heap.size w w' := by
  have hltb : b < w.heap.size := block_lt_of_cell (hp 0 h0).1
  have hB := box_below w (.cells #[.slice (some ⟨b, off, none⟩) ps.length cap] 34)
  have hv := each_pts b off cap w.heap.size ps _ hn h0 (hp.below hB hltb) (by simp)
  have Hv := Lib.hid hv
  clear hv
  have hne : ((ps.length : Int) == 0) = false := by rw [beq_eq_false_iff_ne]; omega
  cases hg : goodsB ps 0 with
  | true =>
    have er : Hid (ptsE ps = 0) := ptsE_yes hg
    have Hg := Lib.hid hg
    clear hg
    go_enter Try.func47, Try.ntmps47
    go_wp2_with (go_at_call 64; refine (Hv.out).mono ?_; rintro e w1 ⟨rfl, hb1⟩; rw [Hg.out])
    go_ret
    exact ⟨by rw [er.out]; rfl, below_to hB hb1⟩
  | false =>
    have er : Hid (ptsE ps = 1) := ptsE_no hg
    have Hg := Lib.hid hg
    clear hg
    go_enter Try.func47, Try.ntmps47
    go_wp2_with (go_at_call 64; refine (Hv.out).mono ?_; rintro e w1 ⟨rfl, hb1⟩; rw [Hg.out])
    go_ret
    exact ⟨by rw [er.out]; rfl, below_to hB hb1⟩

/-- The error of a curve with a rule, the points being valid ones in number. -/
def bothE (ps : List Pt) (r : Rl) : Int := if goodsB ps 0 = true then ruleE r else 1

set_option maxHeartbeats 400000 in
theorem rcheck_pts (b off cap : Nat) (ps : List Pt) (d k o : Int) (w : World) (hn : ps.length ≤ 20) (h0 : 0 < ps.length) (hp : PtsIn w b off ps) :
    Calls Try.prog 48 #[.agg #[.slice (some ⟨b, off, none⟩) ps.length cap, .int .i64 d, .int .i64 k, .int .i64 o]] w fun e w' => e = .returned (.int .i64 (bothE ps ⟨d, k, o⟩)) ∧ Below w.heap.size w w' := by
  have hltb : b < w.heap.size := block_lt_of_cell (hp 0 h0).1
  have hB := box_below w (.cells #[.slice (some ⟨b, off, none⟩) ps.length cap, .int .i64 d, .int .i64 k, .int .i64 o] 94)
  have hL := box_lt w (.cells #[.slice (some ⟨b, off, none⟩) ps.length cap, .int .i64 d, .int .i64 k, .int .i64 o] 94)
  have hc := box_cell w #[.slice (some ⟨b, off, none⟩) ps.length cap, .int .i64 d, .int .i64 k, .int .i64 o] 94
  have hv := check_pts b off cap ps _ hn h0 (hp.below hB hltb)
  have Hv := Lib.hid hv
  clear hv
  go_enter Try.func48, Try.ntmps48
  go_wp2_with fail
  generalize World.alloc w _ = W at *
  have c1 := hc 1
  have c2 := hc 2
  have c3 := hc 3
  simp at c1 c2 c3
  clear hc
  refine (Hv.out).mono ?_
  rintro e w1 ⟨rfl, hb1⟩
  have a1 := (hb1.cell (p := ⟨w.heap.size, 1, none⟩) hL).trans c1
  have a2 := (hb1.cell (p := ⟨w.heap.size, 2, none⟩) hL).trans c2
  have a3 := (hb1.cell (p := ⟨w.heap.size, 3, none⟩) hL).trans c3
  cases hg : goodsB ps 0 with
  | true =>
    have er : Hid (bothE ps ⟨d, k, o⟩ = ruleE ⟨d, k, o⟩) := by unfold bothE; rw [hg]; rfl
    rw [ptsE_yes hg]
    clear hg
    go_wp2_with (go_at_call 65; refine (rule_check _ _ _ _).mono ?_; rintro e w2 ⟨rfl, hb2⟩)
    go_ret
    exact ⟨by rw [er.out]; rfl, below_to (below_to hB hb1) hb2⟩
  | false =>
    have er : Hid (bothE ps ⟨d, k, o⟩ = 1) := by unfold bothE; rw [hg]; rfl
    rw [ptsE_no hg]
    clear hg
    go_wp2
    go_ret
    exact ⟨by rw [er.out]; rfl, below_to hB hb1⟩
set_option maxHeartbeats 400000 in
theorem rcheck_long (a : Option Addr) (n cap : Nat) (d k o : Int) (w : World) (h : 20 < n) (hm : n ≤ maxLen) :
    Calls Try.prog 48 #[.agg #[.slice a n cap, .int .i64 d, .int .i64 k, .int .i64 o]] w fun e w' => e = .returned (.int .i64 3) ∧ Below w.heap.size w w' := by
  have hB := box_below w (.cells #[.slice a n cap, .int .i64 d, .int .i64 k, .int .i64 o] 94)
  go_enter Try.func48, Try.ntmps48
  go_wp2_with (go_at_call 47; refine (check_long _ _ _ _ h hm).mono ?_; rintro e w1 ⟨rfl, hb1⟩)
  go_ret
  exact ⟨rfl, below_to hB hb1⟩
set_option maxHeartbeats 400000 in
theorem rcheck_empty (a : Option Addr) (cap : Nat) (d k o : Int) (w : World) :
    Calls Try.prog 48 #[.agg #[.slice a 0 cap, .int .i64 d, .int .i64 k, .int .i64 o]] w fun e w' => e = .returned (.int .i64 1) ∧ Below w.heap.size w w' := by
  have hB := box_below w (.cells #[.slice a 0 cap, .int .i64 d, .int .i64 k, .int .i64 o] 94)
  go_enter Try.func48, Try.ntmps48
  go_wp2_with (go_at_call 47; refine (check_empty _ _ _).mono ?_; rintro e w1 ⟨rfl, hb1⟩)
  go_ret
  exact ⟨rfl, below_to hB hb1⟩

end Go.Proofs.Ytfjlnejeffkdoaa

/- Whether a truth fits a curve, and the greatest load: contracts. -/
namespace Go.Proofs.Ytfjlnejeffkdoaa
open Go.RowKit

def IntsIn (w : World) (b off : Nat) (t : List Int) : Prop := ∀ i, i < t.length → w.cell? ⟨b, off + i, none⟩ = some (.int .i64 (ld t i))
theorem IntsIn.below {n : Nat} {w w' : World} {b off : Nat} {t : List Int} (h : IntsIn w b off t) (hb : Below n w w') (hlt : b < n) : IntsIn w' b off t := fun i hi =>
  (hb.cell (p := ⟨b, off + i, none⟩) hlt).trans (h i hi)

def fitB (ps : List Pt) (t : List Int) (i : Nat) : Bool := hasB (pt ps i).lo (pt ps i).hi (ld t i)
def fitsB (ps : List Pt) (t : List Int) (i : Nat) : Bool := decide (∀ j, j < ps.length → i ≤ j → fitB ps t j = true)
theorem fitsB_end (ps : List Pt) (t : List Int) (i : Nat) (h : ps.length ≤ i) : fitsB ps t i = true := by
  simp only [fitsB, decide_eq_true_eq]; intro j h1 h2; omega
theorem fitsB_yes (ps : List Pt) (t : List Int) (i : Nat) (h : fitB ps t i = true) : fitsB ps t i = fitsB ps t (i + 1) := by
  rw [Bool.eq_iff_iff]; simp only [fitsB, decide_eq_true_eq]
  constructor
  · intro H j h1 h2; exact H j h1 (by omega)
  · intro H j h1 h2
    rcases Nat.eq_or_lt_of_le h2 with e | e
    · rw [← e]; exact h
    · exact H j h1 e
theorem fitsB_no (ps : List Pt) (t : List Int) (i : Nat) (hi : i < ps.length) (h : fitB ps t i = false) : fitsB ps t i = false := by
  rw [← Bool.not_eq_true]; intro H
  simp only [fitsB, decide_eq_true_eq] at H
  rw [H i hi (Nat.le_refl _)] at h; cases h

set_option maxHeartbeats 400000 in
theorem fit_any (b off cap bc i : Nat) (ps : List Pt) (t : List Int) (w : World) (hi : i < ps.length) (hn : ps.length ≤ 20) (hp : PtsIn w b off ps)
    (hbc : w.cell? ⟨bc, 0, none⟩ = some (.slice (some ⟨b, off, none⟩) ps.length cap)) :
    Calls Try.prog 67 #[.int .i64 i, .int .i64 (ld t i), .pointer (some ⟨bc, 0, none⟩)] w fun e w' => e = .returned (.bool (fitB ps t i)) ∧ Below w.heap.size w w' := by
  have p1 := (hp i hi).2.1
  have p2 := (hp i hi).2.2
  have e : fitB ps t i = hasB (pt ps i).lo (pt ps i).hi (ld t i) := rfl
  rw [e]; clear e hp
  generalize (pt ps i).lo = lo at *
  generalize (pt ps i).hi = hi' at *
  generalize ld t i = x at *
  generalize ps.length = n at *
  go_enter Try.func67, Try.ntmps67
  go_wp2_with (go_at_call 62; refine (has_any _ _ _ _).mono ?_; rintro e w1 ⟨rfl, hb1⟩)
  go_ret
  exact ⟨rfl, hb1⟩

set_option maxHeartbeats 400000 in
theorem each_ints (b off cap bc bt offt capt : Nat) (ps : List Pt) (t : List Int) (w : World) (hn : ps.length ≤ 20) (h0 : 0 < ps.length) (hp : PtsIn w b off ps) (ht : t.length = ps.length) (hi : IntsIn w bt offt t)
    (hbc : w.cell? ⟨bc, 0, none⟩ = some (.slice (some ⟨b, off, none⟩) ps.length cap)) :
    Calls Try.prog 66 #[.slice (some ⟨bt, offt, none⟩) ps.length capt, .func (.func 67) #[] #[.pointer (some ⟨bc, 0, none⟩)]] w fun e w' => e = .returned (.bool (fitsB ps t 0)) ∧ Below w.heap.size w w' := by
  have hltb := block_lt_of_cell (hp 0 h0).1
  have hltc := block_lt_of_cell hbc
  have hltt := block_lt_of_cell (hi 0 (by omega))
  have Ht := Lib.hid ht
  clear ht
  go_enter Try.func66, Try.ntmps66
  go_wp2
  go_loopw [9] (fun i wr => ∃ k : Nat, k ≤ ps.length ∧ i = .int .i64 k ∧ Hid (fitsB ps t 0 = fitsB ps t k) ∧ Below w.heap.size w wr) (fun i _ => ps.length - (intOf i).toNat)
  case atStart => exact ⟨0, Nat.zero_le _, rfl, Lib.hid rfl, Below.refl _ _⟩
  case round =>
    obtain ⟨k, hk, rfl, hg, hb⟩ := hrel
    by_cases hlt : k < ps.length
    · have p1 := (hb.cell (p := ⟨bt, offt + k, none⟩) hltt).trans (hi k (by rw [Ht.out]; exact hlt))
      have hv := fit_any b off cap bc k ps t wr hlt hn (hp.below hb hltb) ((hb.cell (p := ⟨bc, 0, none⟩) hltc).trans hbc)
      have Hv := Lib.hid hv
      clear hv
      cases hgk : fitB ps t k with
      | true =>
        have hge := fitsB_yes ps t k hgk
        rw [← hg.out] at hge
        have Hge := Lib.hid hge
        clear hge hg
        have Hgk := Lib.hid hgk
        clear hgk
        go_wp2_with (go_at_call 67; refine (Hv.out).mono ?_; rintro e w1 ⟨rfl, hb1⟩; rw [Hgk.out])
        go_roundw
        case rel => exact ⟨k + 1, by omega, by simp, Hge, below_to hb hb1⟩
        case measure => simp [intOf]; omega
      | false =>
        have hgf := (hg.out).trans (fitsB_no ps t k hlt hgk)
        have Hgf := Lib.hid hgf
        clear hgf hg
        have Hgk := Lib.hid hgk
        clear hgk
        go_wp2_with (go_at_call 67; refine (Hv.out).mono ?_; rintro e w1 ⟨rfl, hb1⟩; rw [Hgk.out])
        go_ret
        exact ⟨by rw [Hgf.out]; rfl, below_to hb hb1⟩
    · have hgf := (hg.out).trans (fitsB_end ps t k (by omega))
      have Hgf := Lib.hid hgf
      clear hgf hg
      obtain rfl : k = ps.length := by omega
      go_wp2
      go_ret
      exact ⟨by rw [Hgf.out]; rfl, hb⟩

set_option maxHeartbeats 400000 in
theorem allows_ne (a a' : Option Addr) (n cap m cap' : Nat) (w : World) (h : m ≠ n) :
    Calls Try.prog 49 #[.agg #[.slice a n cap], .slice a' m cap'] w fun e w' => e = .returned (.bool false) ∧ Below w.heap.size w w' := by
  have hne : ((m : Int) == (n : Int)) = false := by rw [beq_eq_false_iff_ne]; omega
  go_enter Try.func49, Try.ntmps49
  go_wp2
  go_ret
  exact ⟨rfl, box_below _ _⟩
set_option maxHeartbeats 400000 in
theorem allows_any (b off cap bt offt capt : Nat) (ps : List Pt) (t : List Int) (w : World) (hn : ps.length ≤ 20) (h0 : 0 < ps.length) (hp : PtsIn w b off ps) (ht : t.length = ps.length) (hi : IntsIn w bt offt t) :
    Calls Try.prog 49 #[.agg #[.slice (some ⟨b, off, none⟩) ps.length cap], .slice (some ⟨bt, offt, none⟩) ps.length capt] w fun e w' => e = .returned (.bool (fitsB ps t 0)) ∧ Below w.heap.size w w' := by
  have hltb : b < w.heap.size := block_lt_of_cell (hp 0 h0).1
  have hltt : bt < w.heap.size := block_lt_of_cell (hi 0 (by omega))
  have hB := box_below w (.cells #[.slice (some ⟨b, off, none⟩) ps.length cap] 34)
  have hv := each_ints b off cap w.heap.size bt offt capt ps t _ hn h0 (hp.below hB hltb) ht (hi.below hB hltt) (by simp)
  have Hv := Lib.hid hv
  have Ht := Lib.hid ht
  clear hv ht
  go_enter Try.func49, Try.ntmps49
  go_wp2_with (go_at_call 66; refine (Hv.out).mono ?_; rintro e w1 ⟨rfl, hb1⟩)
  go_ret
  exact ⟨rfl, below_to hB hb1⟩

def grt (l : List Int) : Int := l.foldl max 0
theorem grt_take (t : List Int) (k : Nat) (h : k < t.length) : grt (t.take (k + 1)) = max (grt (t.take k)) (ld t k) := by
  unfold grt ld
  rw [List.take_succ_eq_append_getElem h, List.foldl_append]
  simp [h]

set_option maxHeartbeats 400000 in
theorem greatest_any (b off cap : Nat) (t : List Int) (w : World) (hn : t.length ≤ 20) (hi : IntsIn w b off t) :
    Calls Try.prog 68 #[.slice (some ⟨b, off, none⟩) t.length cap] w fun e w' => e = .returned (.int .i64 (grt t)) ∧ w' = w := by
  go_enter Try.func68, Try.ntmps68
  go_wp2
  go_loop [3, 8] (fun m i => ∃ k : Nat, k ≤ t.length ∧ i = .int .i64 k ∧ m = .int .i64 (grt (t.take k))) (fun _ i => t.length - (intOf i).toNat)
  case atStart => exact ⟨0, Nat.zero_le _, rfl, rfl⟩
  case round =>
    obtain ⟨k, hk, rfl, rfl⟩ := hrel
    by_cases hlt : k < t.length
    · have p1 := hi k hlt
      have hs := Lib.hid (grt_take t k hlt)
      generalize grt (t.take k) = g at *
      go_wp2
      all_goals
        go_round
        case rel => exact ⟨k + 1, by omega, by simp, by rw [hs.out]; congr 1; omega⟩
        case measure => simp [intOf]; omega
    · obtain rfl : k = t.length := by omega
      go_wp2
      go_ret
      exact ⟨ret_int (by simp), rfl⟩

/-- The least index below 'many' that has what is asked for, or -1. -/
def fst (B : Nat → Bool) (many : Nat) : Int := ((List.range many).find? B).elim (-1) (fun i => (i : Int))
theorem fst_hit {B : Nat → Bool} {many k : Nat} (h : k < many) (hB : B k = true) (hn : ∀ j, j < k → B j = false) : fst B many = k := by
  unfold fst
  rw [show (List.range many).find? B = some k from by
    rw [List.find?_eq_some_iff_append]
    refine ⟨hB, List.range k, (List.range (many - k - 1)).map (k + 1 + ·), ?_, fun a ha => by simp [hn a (List.mem_range.1 ha)]⟩
    obtain ⟨d, rfl⟩ : ∃ d, many = k + (1 + d) := ⟨many - k - 1, by omega⟩
    rw [List.range_add, show k + (1 + d) - k - 1 = d by omega, List.range_add]
    simp [Function.comp_def, Nat.add_assoc]]
  rfl
theorem fst_none {B : Nat → Bool} {many : Nat} (hn : ∀ j, j < many → B j = false) : fst B many = -1 := by
  unfold fst
  rw [show (List.range many).find? B = none from by rw [List.find?_eq_none]; intro a ha; simp [hn a (List.mem_range.1 ha)]]
  rfl
theorem fst_cases (B : Nat → Bool) (many : Nat) : (fst B many = -1 ∧ ∀ j, j < many → B j = false) ∨ ∃ k, k < many ∧ fst B many = k ∧ B k = true ∧ ∀ j, j < k → B j = false := by
  by_cases h : ∃ k, k < many ∧ B k = true ∧ ∀ j, j < k → B j = false
  · obtain ⟨k, h1, h2, h3⟩ := h
    exact .inr ⟨k, h1, fst_hit h1 h2 h3, h2, h3⟩
  · have hn : ∀ j, j < many → B j = false := by
      intro j
      induction j using Nat.strongRecOn with
      | ind j ih =>
        intro hj
        cases hb : B j with
        | false => rfl
        | true => exact (h ⟨j, hj, hb, fun i hi => ih i hi (by omega)⟩).elim
    exact .inl ⟨fst_none hn, hn⟩

set_option maxHeartbeats 400000 in
theorem index_any (b off cap : Nat) (v : Int) (t : List Int) (w : World) (hn : t.length ≤ 20) (hi : IntsIn w b off t) :
    Calls Try.prog 73 #[.slice (some ⟨b, off, none⟩) t.length cap, .int .i64 v] w fun e w' => e = .returned (.int .i64 (fst (fun i => v == ld t i) t.length)) ∧ w' = w := by
  go_enter Try.func73, Try.ntmps73
  go_wp2
  go_loop [8] (fun i => ∃ k : Nat, k ≤ t.length ∧ i = .int .i64 k ∧ Hid (∀ j, j < k → (v == ld t j) = false)) (fun i => t.length - (intOf i).toNat)
  case atStart => exact ⟨0, Nat.zero_le _, rfl, Lib.hid (fun j hj => absurd hj (Nat.not_lt_zero _))⟩
  case round =>
    obtain ⟨k, hk, rfl, hno⟩ := hrel
    by_cases hlt : k < t.length
    · have p1 := hi k hlt
      cases hv : (v == ld t k) with
      | true =>
        have hf := Lib.hid (fst_hit (B := fun i => v == ld t i) hlt hv hno.out)
        go_wp2
        go_ret
        exact ⟨by rw [hf.out]; rfl, rfl⟩
      | false =>
        have hf : Hid (∀ j, j < k + 1 → (v == ld t j) = false) := Lib.hid (fun j hj => by
          rcases Nat.lt_succ_iff_lt_or_eq.1 hj with h | rfl
          · exact hno.out j h
          · exact hv)
        go_wp2
        go_round
        case rel => exact ⟨k + 1, by omega, by simp, hf⟩
        case measure => simp [intOf]; omega
    · obtain rfl : k = t.length := by omega
      have hf := Lib.hid (fst_none (B := fun i => v == ld t i) hno.out)
      go_wp2
      go_ret
      exact ⟨by rw [hf.out]; rfl, rfl⟩

end Go.Proofs.Ytfjlnejeffkdoaa

/- Whether a drop and a meeting happen at a point: contracts. -/
namespace Go.Proofs.Ytfjlnejeffkdoaa
open Go.RowKit

def pullV (v : Value) (r : Rl) (t : List Int) : Array Value := #[v, iV r.d, iV r.k, iV r.o] ++ arrV t
theorem arrV_get (t : List Int) (i : Nat) (h : i < t.length) : (arrV t)[i]? = some (.int .i64 (ld t i)) := by simp [arrV, ld, h, iV]
theorem arrV_size (t : List Int) : (arrV t).size = t.length := by simp [arrV]
theorem pullV_0 (v : Value) (r : Rl) (t : List Int) : (pullV v r t)[0]? = some v := by simp [pullV, Array.getElem?_append]
theorem pullV_1 (v : Value) (r : Rl) (t : List Int) : (pullV v r t)[1]? = some (.int .i64 r.d) := by simp [pullV, Array.getElem?_append, iV]
theorem pullV_2 (v : Value) (r : Rl) (t : List Int) : (pullV v r t)[2]? = some (.int .i64 r.k) := by simp [pullV, Array.getElem?_append, iV]
theorem pullV_3 (v : Value) (r : Rl) (t : List Int) : (pullV v r t)[3]? = some (.int .i64 r.o) := by simp [pullV, Array.getElem?_append, iV]
theorem pullV_at (v : Value) (r : Rl) (t : List Int) (i : Nat) (h : i < t.length) : (pullV v r t)[4 + i]? = some (.int .i64 (ld t i)) := by
  rw [← arrV_get t i h]
  unfold pullV
  rw [Array.getElem?_append_right (by simp)]
  congr 1
  simp

def dropB (d : Int) (t : List Int) (i : Nat) : Bool := decide (d ≤ ld t i - ld t (i + 1))
def lineI (ps : List Pt) (r : Rl) (i : Nat) : Int := r.k * ((pt ps i).s - r.o)
def meetB (ps : List Pt) (r : Rl) (t : List Int) (i : Nat) : Bool := decide (ld t i ≤ lineI ps r i)

/-- What is known of a curve, a rule and a truth that are valid. -/
structure Fine (ps : List Pt) (r : Rl) (t : List Int) : Prop where
  len : ps.length ≤ 20
  pos : 0 < ps.length
  tlen : t.length = 20
  st : ∀ i, i < ps.length → 0 ≤ (pt ps i).s ∧ (pt ps i).s ≤ 1000
  k : 1 ≤ r.k ∧ r.k ≤ 1000
  o : 0 ≤ r.o ∧ r.o ≤ 1000
  d : 1 ≤ r.d ∧ r.d ≤ 100000
  ld : ∀ i, 0 ≤ ld t i ∧ ld t i ≤ 100000

set_option maxHeartbeats 400000 in
theorem drops_any (v : Value) (r : Rl) (t : List Int) (i : Nat) (w : World) (ht : t.length = 20) (hi : i + 1 < 20) (hl : ∀ i, 0 ≤ ld t i ∧ ld t i ≤ 100000) :
    Calls Try.prog 70 #[.agg (pullV v r t), .int .i64 i] w fun e w' => e = .returned (.bool (dropB r.d t i)) ∧ Below w.heap.size w w' := by
  have hB := box_below w (.cells (pullV v r t) 124)
  have hc := box_cell w (pullV v r t) 124
  have c1 := (hc 1).trans (pullV_1 v r t)
  have c4 := (hc (4 + i)).trans (pullV_at v r t i (by omega))
  have c5 := (hc (4 + (i + 1))).trans (pullV_at v r t (i + 1) (by omega))
  have e : dropB r.d t i = decide (r.d ≤ ld t i - ld t (i + 1)) := rfl
  have h1 := hl i
  have h2 := hl (i + 1)
  have hw : IntKind.i64.wrap ((i : Int) + 1) = (i : Int) + 1 := IntWalk.i64_in _ (by omega)
  have hp : (0 : Int) ≤ (i : Int) + 1 := by omega
  have hn : ((i : Int) + 1).toNat = i + 1 := by omega
  rw [e]; clear e hc hl ht
  generalize r.d = d at *
  generalize ld t i = x at *
  generalize ld t (i + 1) = y at *
  go_enter Try.func70, Try.ntmps70
  go_wp2
  generalize World.alloc w _ = W at *
  go_quiet (fail)
  go_wp2
  go_ret
  exact ⟨rfl, below_dN hB⟩

set_option maxHeartbeats 400000 in
theorem meets_any (b off cap : Nat) (ps : List Pt) (r : Rl) (t : List Int) (i : Nat) (w : World) (F : Fine ps r t) (hi : i < ps.length) (hp : PtsIn w b off ps) :
    Calls Try.prog 71 #[.agg (pullV (.slice (some ⟨b, off, none⟩) ps.length cap) r t), .int .i64 i] w fun e w' => e = .returned (.bool (meetB ps r t i)) ∧ Below w.heap.size w w' := by
  have hlt : b < w.heap.size := block_lt_of_cell (hp 0 F.pos).1
  have hB := box_below w (.cells (pullV (.slice (some ⟨b, off, none⟩) ps.length cap) r t) 124)
  have hc := box_cell w (pullV (.slice (some ⟨b, off, none⟩) ps.length cap) r t) 124
  have c0 := (hc 0).trans (pullV_0 _ r t)
  have c1 := (hc 1).trans (pullV_1 _ r t)
  have c2 := (hc 2).trans (pullV_2 _ r t)
  have c3 := (hc 3).trans (pullV_3 _ r t)
  have c4 := (hc (4 + i)).trans (pullV_at _ r t i (by have := F.tlen; have := F.len; omega))
  have p0 := (hB.cell (p := ⟨b, off + i * 3, none⟩) hlt).trans (hp i hi).1
  have e : meetB ps r t i = decide (ld t i ≤ r.k * ((pt ps i).s - r.o)) := rfl
  have h1 := F.ld i
  have h2 := F.st i hi
  have hlen := F.len
  have hi20 : (i : Int) < 20 := by omega
  have hk := F.k
  have ho := F.o
  rw [e]; clear e hc F hp
  have hm := mul_le_of r.k ((pt ps i).s - r.o) 1000 1000 (by omega) (by omega) (by omega) (by omega) (by omega)
  generalize r.d = d at *
  generalize r.k = k at *
  generalize r.o = o at *
  generalize (pt ps i).s = s at *
  generalize ld t i = x at *
  generalize ps.length = n at *
  go_enter Try.func71, Try.ntmps71
  go_wp2
  generalize World.alloc w _ = W at *
  have g0 := cell_regrown c0
  have g1 := cell_regrown c1
  have g2 := cell_regrown c2
  have g3 := cell_regrown c3
  have g4 := cell_regrown c4
  have gp := cell_regrown p0
  clear c0 c1 c2 c3 c4 p0
  refine wp_region_quiet_below (by kernel_rfl) (by kernel_rfl) ?_
  repeat (quiet_step (exact Calls.regrown_of (line_any b off n cap i d k o s _ (by omega) (by omega) (by omega) (by simpa using gp _ _) (by omega) (by omega) (by omega) (by omega) (by omega) (by omega))))
  refine wpQuiet_nil ?_
  intro _ hw'
  obtain ⟨⟨dq, osq⟩, hw''⟩ := hw'
  subst hw''
  go_wp2
  go_ret
  exact ⟨rfl, below_to hB (below_regrown W dq osq)⟩

end Go.Proofs.Ytfjlnejeffkdoaa

/- The proof load: its contract. -/
namespace Go.Proofs.Ytfjlnejeffkdoaa
open Go.RowKit

theorem num_nonneg (a b p q : Int) (ha : 0 ≤ a) (hb : 0 ≤ b) (hp : p < a) (hq : b ≤ q) : 0 ≤ a * q - b * p := by
  rcases Int.le_total p 0 with h | h
  · have e1 : b * p ≤ 0 := Int.mul_nonpos_of_nonneg_of_nonpos hb h
    have e2 : 0 ≤ a * q := Int.mul_nonneg ha (Int.le_trans hb hq)
    omega
  · have e1 : a * b ≤ a * q := Int.mul_le_mul_of_nonneg_left hq ha
    have e2 : b * p ≤ b * a := Int.mul_le_mul_of_nonneg_left (by omega) hb
    rw [Int.mul_comm b a] at e2
    omega

def plI (ps : List Pt) (r : Rl) (t : List Int) : Nat → Int
  | 0 => ld t 0
  | i + 1 => (ld t i * lineI ps r (i + 1) - ld t (i + 1) * lineI ps r i) / (ld t i - lineI ps r i + lineI ps r (i + 1) - ld t (i + 1))

set_option maxHeartbeats 400000 in
theorem proof0 (v : Value) (r : Rl) (t : List Int) (w : World) (ht : t.length = 20) :
    Calls Try.prog 74 #[.agg (pullV v r t), .int .i64 0] w fun e w' => e = .returned (.int .i64 (ld t 0)) ∧ Below w.heap.size w w' := by
  have hB := box_below w (.cells (pullV v r t) 124)
  have hc := box_cell w (pullV v r t) 124
  have c4 := (hc (4 + 0)).trans (pullV_at v r t 0 (by omega))
  clear hc
  go_enter Try.func74, Try.ntmps74
  go_wp2
  go_ret
  exact ⟨rfl, hB⟩

set_option maxRecDepth 100000 in
set_option maxHeartbeats 1000000 in
theorem proof1 (b off cap : Nat) (ps : List Pt) (r : Rl) (t : List Int) (i : Nat) (w : World) (F : Fine ps r t) (hi : i + 1 < ps.length) (hp : PtsIn w b off ps)
    (hno : meetB ps r t i = false) (hyes : meetB ps r t (i + 1) = true) :
    Calls Try.prog 74 #[.agg (pullV (.slice (some ⟨b, off, none⟩) ps.length cap) r t), .int .i64 ((i : Int) + 1)] w fun e w' => e = .returned (.int .i64 (plI ps r t (i + 1))) ∧ Below w.heap.size w w' := by
  have hlt : b < w.heap.size := block_lt_of_cell (hp 0 F.pos).1
  have hB := box_below w (.cells (pullV (.slice (some ⟨b, off, none⟩) ps.length cap) r t) 124)
  have hc := box_cell w (pullV (.slice (some ⟨b, off, none⟩) ps.length cap) r t) 124
  have c0 := (hc 0).trans (pullV_0 _ r t)
  have c1 := (hc 1).trans (pullV_1 _ r t)
  have c2 := (hc 2).trans (pullV_2 _ r t)
  have c3 := (hc 3).trans (pullV_3 _ r t)
  have c4 := (hc (4 + i)).trans (pullV_at _ r t i (by have := F.tlen; have := F.len; omega))
  have c5 := (hc (4 + (i + 1))).trans (pullV_at _ r t (i + 1) (by have := F.tlen; have := F.len; omega))
  have p0 := (hB.cell (p := ⟨b, off + i * 3, none⟩) hlt).trans (hp i (by omega)).1
  have p1 := (hB.cell (p := ⟨b, off + (i + 1) * 3, none⟩) hlt).trans (hp (i + 1) hi).1
  have e : plI ps r t (i + 1) = (ld t i * (r.k * ((pt ps (i + 1)).s - r.o)) - ld t (i + 1) * (r.k * ((pt ps i).s - r.o))) / (ld t i - (r.k * ((pt ps i).s - r.o)) + (r.k * ((pt ps (i + 1)).s - r.o)) - ld t (i + 1)) := rfl
  have h1 := F.ld i
  have h1' := F.ld (i + 1)
  have h2 := F.st i (by omega)
  have h2' := F.st (i + 1) hi
  have hlen := F.len
  have hi20 : (i : Int) + 1 < 20 := by omega
  have hi19 : (i : Int) < 20 := by omega
  have hk := F.k
  have ho := F.o
  have hn : r.k * ((pt ps i).s - r.o) < ld t i := Int.not_le.1 (of_decide_eq_false hno)
  have hy : ld t (i + 1) ≤ r.k * ((pt ps (i + 1)).s - r.o) := of_decide_eq_true hyes
  have hm := mul_le_of r.k ((pt ps i).s - r.o) 1000 1000 (by omega) (by omega) (by omega) (by omega) (by omega)
  have hm' := mul_le_of r.k ((pt ps (i + 1)).s - r.o) 1000 1000 (by omega) (by omega) (by omega) (by omega) (by omega)
  rw [e]; clear e hc F hp hno hyes
  have hw1 : IntKind.i64.wrap ((i : Int) + 1 - 1) = i := by rw [Int.add_sub_cancel]; exact IntWalk.i64_in _ (by omega)
  have hw2 : IntKind.i64.wrap (i : Int) = i := IntWalk.i64_in _ (by omega)
  have hpz : (0 : Int) ≤ (i : Int) + 1 := by omega
  have htn : ((i : Int) + 1).toNat = i + 1 := by omega
  have hne : ((i : Int) + 1 == 0) = false := by rw [beq_eq_false_iff_ne]; omega
  have hil : (i : Int) + 1 < ps.length := by omega
  have L0 := fun (W : World) hs => line_any b off ps.length cap i r.d r.k r.o (pt ps i).s W (by omega) (by omega) (by omega) hs (by omega) (by omega) (by omega) (by omega) (by omega) (by omega)
  have L1 := fun (W : World) hs => line_any b off ps.length cap ((i : Int) + 1) r.d r.k r.o (pt ps (i + 1)).s W (by omega) (by omega) (by omega) hs (by omega) (by omega) (by omega) (by omega) (by omega) (by omega)
  have LL0 := Lib.hid L0
  have LL1 := Lib.hid L1
  clear L0 L1
  generalize r.d = d at *
  generalize (pt ps i).s = s at *
  generalize (pt ps (i + 1)).s = s' at *
  generalize r.k * (s - r.o) = p at *
  generalize r.k * (s' - r.o) = q at *
  generalize r.k = k at *
  generalize r.o = o at *
  generalize ld t i = x at *
  generalize ld t (i + 1) = y at *
  generalize ps.length = n at *
  have hx := mul_le_of x q 100000 1000000 (by omega) (by omega) (by omega) (by omega) (by omega)
  have hx' := mul_le_of y p 100000 1000000 (by omega) (by omega) (by omega) (by omega) (by omega)
  have hnn := num_nonneg x y p q (by omega) (by omega) hn hy
  go_enter Try.func74, Try.ntmps74
  go_wp2
  generalize World.alloc w _ = W at *
  have g0 := cell_regrown c0
  have g1 := cell_regrown c1
  have g2 := cell_regrown c2
  have g3 := cell_regrown c3
  have g4 := cell_regrown c4
  have g5 := cell_regrown c5
  have gp := cell_regrown p0
  have gq := cell_regrown p1
  clear c0 c1 c2 c3 c4 c5 p0 p1
  refine wp_region_quiet_below (by kernel_rfl) (by kernel_rfl) ?_
  repeat (quiet_step (first | (refine Calls.regrown_of (v := .int .i64 p) ?_; (with_reducible refine LL0.out _ ?_); simpa using gp _ _) | (refine Calls.regrown_of (v := .int .i64 q) ?_; (with_reducible refine LL1.out _ ?_); rw [htn]; exact gq _ _)))
  refine wpQuiet_nil ?_
  intro _ hw'
  obtain ⟨⟨dq, osq⟩, hw''⟩ := hw'
  subst hw''
  go_wp2
  go_ret
  exact ⟨rfl, below_to hB (below_regrown W dq osq)⟩

end Go.Proofs.Ytfjlnejeffkdoaa
