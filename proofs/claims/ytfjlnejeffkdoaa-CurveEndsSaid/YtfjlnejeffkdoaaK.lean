/- Plain definitions and small lemmas for the curve's proofs: points, rules, truths, what is read; boxes in memory. No condition. -/
import Derived.Test.YtfjlnejeffkdoaaChecked
import Derived.WalkKit
import Derived.WalkSpells
import Derived.WalkLawsBesides
import Derived.Lib.QuietBelow
import Derived.BigQuiet
import Derived.IntWalk
import Derived.Lib.Hide
namespace Go.Proofs.Ytfjlnejeffkdoaa
open Go.RowKit

structure Pt where
  s : Int
  lo : Int
  hi : Int
structure Rl where
  d : Int
  k : Int
  o : Int
structure Rs where
  st : Int
  pk : Int
  ya : Int
  y : Int
  ma : Int
  pl : Int
  wk : Int

def pt (ps : List Pt) (i : Nat) : Pt := (ps[i]?).getD ⟨0, 0, 0⟩
def ld (t : List Int) (i : Nat) : Int := (t[i]?).getD 0
def iV (n : Int) : Value := .int .i64 n
def arrV (t : List Int) : Array Value := (t.map iV).toArray
def ptV (p : Pt) : Array Value := #[iV p.s, iV p.lo, iV p.hi]
def rlV (r : Rl) : Array Value := #[iV r.d, iV r.k, iV r.o]
def rsV (x : Rs) : Array Value := #[iV x.st, iV x.pk, iV x.ya, iV x.y, iV x.ma, iV x.pl, iV x.wk]

/-- The points of a curve, in memory: a block, its offset. -/
def PtsIn (w : World) (b off : Nat) (ps : List Pt) : Prop :=
  ∀ i, i < ps.length → w.cell? ⟨b, off + i * 3, none⟩ = some (.int .i64 (pt ps i).s) ∧ w.cell? ⟨b, off + i * 3 + 1, none⟩ = some (.int .i64 (pt ps i).lo) ∧ w.cell? ⟨b, off + i * 3 + 2, none⟩ = some (.int .i64 (pt ps i).hi)

theorem PtsIn.below {n : Nat} {w w' : World} {b off : Nat} {ps : List Pt} (h : PtsIn w b off ps) (hb : Below n w w') (hlt : b < n) : PtsIn w' b off ps := fun i hi =>
  ⟨(hb.cell (p := ⟨b, off + i * 3, none⟩) hlt).trans (h i hi).1, (hb.cell (p := ⟨b, off + i * 3 + 1, none⟩) hlt).trans (h i hi).2.1, (hb.cell (p := ⟨b, off + i * 3 + 2, none⟩) hlt).trans (h i hi).2.2⟩

/-- A box: its cells. -/
theorem box_cell (w : World) (cs : Array Value) (t : TypeId) (j : Nat) : (w.alloc (.cells cs t)).cell? ⟨w.heap.size, j, none⟩ = cs[j]? :=
  cell_of_row _ _ j cs t (0, 0) (heap_alloc_new w _)
theorem box_below (w : World) (o : Obj) : Below w.heap.size w (w.alloc o) := (Below.refl _ _).alloc (Nat.le_refl _) _

theorem bcell {W w1 : World} (hb : Below W.heap.size W w1) : (∀ b o, b < W.heap.size → w1.cell? ⟨b, o, none⟩ = W.cell? ⟨b, o, none⟩) ∧ (∀ b o, b < W.heap.size → w1.frozen? ⟨b, o, none⟩ = W.frozen? ⟨b, o, none⟩) :=
  ⟨fun b o h => hb.cell (p := ⟨b, o, none⟩) h, fun b o h => hb.frozen (p := ⟨b, o, none⟩) h⟩
theorem box_lt (w : World) (o : Obj) : w.heap.size < (w.alloc o).heap.size := by simp
theorem below_to {w W W' : World} (h : Below w.heap.size w W) (h' : Below W.heap.size W W') : Below w.heap.size w W' := h.trans (h'.mono h.size)
theorem below_dN {w W : World} {n : Nat} (h : Below w.heap.size w W) : Below w.heap.size w (W.drewN n) := h.trans ⟨rfl, rfl, rfl, Nat.le_refl _, fun _ _ => rfl⟩

theorem mul_le_of (a b A B : Int) (h0 : 0 ≤ a) (h1 : a ≤ A) (h2 : -B ≤ b) (h3 : b ≤ B) (hB : 0 ≤ B) : -(A * B) ≤ a * b ∧ a * b ≤ A * B := by
  have e1 : a * b ≤ a * B := Int.mul_le_mul_of_nonneg_left h3 h0
  have e2 : a * B ≤ A * B := Int.mul_le_mul_of_nonneg_right h1 hB
  have e3 : a * (-B) ≤ a * b := Int.mul_le_mul_of_nonneg_left h2 h0
  rw [Int.mul_neg] at e3
  omega

def hasB (lo hi n : Int) : Bool := decide (lo ≤ n ∧ n ≤ hi)
def withinB (lo hi olo ohi : Int) : Bool := decide (olo ≤ lo ∧ lo ≤ hi ∧ hi ≤ ohi)

theorem ret_int {k : IntKind} {a b : Int} (h : a = b) : Ending.returned (.int k a) = .returned (.int k b) := by rw [h]
theorem ret_bool {a b : Bool} (h : a = b) : Ending.returned (.bool a) = .returned (.bool b) := by rw [h]

set_option maxHeartbeats 400000 in
theorem has_any (lo hi n : Int) (w : World) :
    Calls Try.prog 62 #[.agg #[.int .i64 lo, .int .i64 hi], .int .i64 n] w fun e w' => e = .returned (.bool (hasB lo hi n)) ∧ Below w.heap.size w w' := by
  go_enter Try.func62, Try.ntmps62
  go_wp2
  all_goals
    go_ret
    refine ⟨ret_bool ?_, box_below _ _⟩
    simp [hasB, *]
    try omega

theorem below2 (w : World) (o o' : Obj) : Below w.heap.size w ((w.alloc o).alloc o') := (box_below w o).trans ((box_below _ o').mono (by simp))
theorem below3 (w : World) (o o' o'' : Obj) : Below w.heap.size w (((w.alloc o).alloc o').alloc o'') := (below2 w o o').trans ((box_below _ o'').mono (by simp; omega))

set_option maxHeartbeats 400000 in
theorem within_any (lo hi olo ohi : Int) (w : World) :
    Calls Try.prog 63 #[.agg #[.int .i64 lo, .int .i64 hi], .agg #[.int .i64 olo, .int .i64 ohi]] w fun e w' => e = .returned (.bool (withinB lo hi olo ohi)) ∧ Below w.heap.size w w' := by
  go_enter Try.func63, Try.ntmps63
  go_wp2
  all_goals
    go_ret
    refine ⟨ret_bool ?_, below2 _ _ _⟩
    simp [withinB, *]
    try omega

set_option maxHeartbeats 400000 in
theorem line_any (b off n cap : Nat) (i : Int) (d k o s : Int) (w : World) (hi0 : 0 ≤ i) (hi : i < n) (_ : n ≤ 20) (hs : w.cell? ⟨b, off + i.toNat * 3, none⟩ = some (.int .i64 s))
   (h1 : 0 ≤ s) (h2 : s ≤ 1000) (h3 : 0 ≤ o) (h4 : o ≤ 1000) (h5 : 0 ≤ k) (h6 : k ≤ 1000) :
    Calls Try.prog 88 #[.agg #[.slice (some ⟨b, off, none⟩) n cap, .int .i64 d, .int .i64 k, .int .i64 o], .int .i64 i] w fun e w' => e = .returned (.int .i64 (k * (s - o))) ∧ Below w.heap.size w w' := by
  obtain ⟨i, rfl⟩ := Int.eq_ofNat_of_zero_le hi0
  rw [Int.toNat_natCast] at hs
  have hlt := block_lt_of_cell hs
  have hB := box_below w (.cells #[.slice (some ⟨b, off, none⟩) n cap, .int .i64 d, .int .i64 k, .int .i64 o] 94)
  have hc := box_cell w #[.slice (some ⟨b, off, none⟩) n cap, .int .i64 d, .int .i64 k, .int .i64 o] 94
  have hs' := (hB.cell (p := ⟨b, off + i * 3, none⟩) hlt).trans hs
  have hm := mul_le_of k (s - o) 1000 1000 h5 h6 (by omega) (by omega) (by omega)
  go_enter Try.func88, Try.ntmps88
  clear hs
  go_wp2
  generalize World.alloc w _ = W at *
  have c0 := hc 0
  have c2 := hc 2
  have c3 := hc 3
  simp at c0 c2 c3
  clear hc
  go_quiet (fail)
  go_wp2
  go_ret
  exact ⟨rfl, hB.trans ⟨rfl, rfl, rfl, Nat.le_refl _, fun _ _ => rfl⟩⟩

end Go.Proofs.Ytfjlnejeffkdoaa
