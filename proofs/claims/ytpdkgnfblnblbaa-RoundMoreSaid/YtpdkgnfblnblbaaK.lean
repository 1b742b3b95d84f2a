/- Rounds, ranges and lists of numbers, as they lie in memory; the plain facts that go with them. No condition. -/
import Derived.Test.YtpdkgnfblnblbaaChecked
import Derived.WalkKit
import Derived.WalkSpells
import Derived.WalkLawsBesides
import Derived.Lib.QuietBelow
import Derived.BigQuiet
import Derived.IntWalk
import Derived.Lib.Hide
import Derived.Test.YtpdkgnfblnblbaaA
import Derived.Test.YtpdkgnfblnblbaaQ
namespace Go.Proofs.Ytpdkgnfblnblbaa
open Go.RowKit

def iV (n : Int) : Value := .int .i64 n
def arrV (t : List Int) : Array Value := (t.map iV).toArray
/-- Who is off, as an array. -/
def offA (o : Nat → Bool) : Array Value := #[.bool (o 0), .bool (o 1), .bool (o 2), .bool (o 3), .bool (o 4), .bool (o 5)]

/-- The same blocks below n. -/
def Same (n : Nat) (w w' : World) : Prop := ∀ k, k < n → w'.heap[k]? = w.heap[k]?
theorem Same.below {n : Nat} {w w' : World} (hn : n ≤ w.heap.size) (h : Below w.heap.size w w') : Same n w w' := fun k hk => h.block k (by omega)
theorem Same.but {n : Nat} {w w' : World} {T : Nat → Prop} (hn : n ≤ w.heap.size) (hT : ∀ k, T k → n ≤ k) (h : But T w w') : Same n w w' := fun k hk => h.block k (by omega) fun ht => by have := hT k ht; omega
theorem Same.cell {n : Nat} {w w' : World} (h : Same n w w') {b o : Nat} {v : Value} (hb : b < n) (hc : w.cell? ⟨b, o, none⟩ = some v) : w'.cell? ⟨b, o, none⟩ = some v :=
  (World.cell?_of_block (w := w) (h b hb)).trans hc

def RgsV (n : Nat) (w : World) (v : Value) (ms : List Rg) : Prop :=
  ∃ a cap, v = .slice a ms.length cap ∧ (0 < ms.length → ∃ b off, a = some ⟨b, off, none⟩ ∧ b < n ∧ ∀ i, i < ms.length →
    w.cell? ⟨b, off + i * 2, none⟩ = some (.int .i64 (rg ms i).lo) ∧ w.cell? ⟨b, off + i * 2 + 1, none⟩ = some (.int .i64 (rg ms i).hi))
def IntsV (n : Nat) (w : World) (v : Value) (xs : List Int) : Prop :=
  ∃ a cap, v = .slice a xs.length cap ∧ (0 < xs.length → ∃ b off, a = some ⟨b, off, none⟩ ∧ b < n ∧ ∀ i, i < xs.length → w.cell? ⟨b, off + i, none⟩ = some (.int .i64 (ld xs i)))
def LabsV (n : Nat) (w : World) (v : Value) (xs : List Lb) : Prop :=
  ∃ a cap, v = .slice a xs.length cap ∧ (0 < xs.length → ∃ b off, a = some ⟨b, off, none⟩ ∧ b < n ∧ ∀ i, i < xs.length →
    w.cell? ⟨b, off + i * 2, none⟩ = some (.int .i64 (lb xs i).tol) ∧ ∃ r, w.cell? ⟨b, off + i * 2 + 1, none⟩ = some r ∧ IntsV n w r (lb xs i).rs)
theorem RgsV.same {n : Nat} {w w' : World} {v : Value} {ms : List Rg} (h : RgsV n w v ms) (hs : Same n w w') : RgsV n w' v ms := by
  obtain ⟨a, cap, rfl, hp⟩ := h
  refine ⟨a, cap, rfl, fun h0 => ?_⟩
  obtain ⟨b, off, rfl, hb, hc⟩ := hp h0
  exact ⟨b, off, rfl, hb, fun i hi => ⟨hs.cell hb (hc i hi).1, hs.cell hb (hc i hi).2⟩⟩
theorem IntsV.same {n : Nat} {w w' : World} {v : Value} {xs : List Int} (h : IntsV n w v xs) (hs : Same n w w') : IntsV n w' v xs := by
  obtain ⟨a, cap, rfl, hp⟩ := h
  refine ⟨a, cap, rfl, fun h0 => ?_⟩
  obtain ⟨b, off, rfl, hb, hc⟩ := hp h0
  exact ⟨b, off, rfl, hb, fun i hi => hs.cell hb (hc i hi)⟩
theorem LabsV.same {n : Nat} {w w' : World} {v : Value} {xs : List Lb} (h : LabsV n w v xs) (hs : Same n w w') : LabsV n w' v xs := by
  obtain ⟨a, cap, rfl, hp⟩ := h
  refine ⟨a, cap, rfl, fun h0 => ?_⟩
  obtain ⟨b, off, rfl, hb, hc⟩ := hp h0
  refine ⟨b, off, rfl, hb, fun i hi => ?_⟩
  obtain ⟨h1, r, h2, h3⟩ := hc i hi
  exact ⟨hs.cell hb h1, r, hs.cell hb h2, h3.same hs⟩
theorem RgsV.up {n m : Nat} {w : World} {v : Value} {ms : List Rg} (h : RgsV n w v ms) (hm : n ≤ m) : RgsV m w v ms := by
  obtain ⟨a, cap, rfl, hp⟩ := h
  refine ⟨a, cap, rfl, fun h0 => ?_⟩
  obtain ⟨b, off, rfl, hb, hc⟩ := hp h0
  exact ⟨b, off, rfl, by omega, hc⟩
theorem IntsV.up {n m : Nat} {w : World} {v : Value} {xs : List Int} (h : IntsV n w v xs) (hm : n ≤ m) : IntsV m w v xs := by
  obtain ⟨a, cap, rfl, hp⟩ := h
  refine ⟨a, cap, rfl, fun h0 => ?_⟩
  obtain ⟨b, off, rfl, hb, hc⟩ := hp h0
  exact ⟨b, off, rfl, by omega, hc⟩
theorem LabsV.up {n m : Nat} {w : World} {v : Value} {xs : List Lb} (h : LabsV n w v xs) (hm : n ≤ m) : LabsV m w v xs := by
  obtain ⟨a, cap, rfl, hp⟩ := h
  refine ⟨a, cap, rfl, fun h0 => ?_⟩
  obtain ⟨b, off, rfl, hb, hc⟩ := hp h0
  refine ⟨b, off, rfl, by omega, fun i hi => ?_⟩
  obtain ⟨h1, r, h2, h3⟩ := hc i hi
  exact ⟨h1, r, h2, h3.up hm⟩

/-- Where the three lists of a round lie. -/
structure Rp where
  la : Option Addr
  lc : Nat
  sa : Option Addr
  sc : Nat
  ba : Option Addr
  bc : Nat
def lotsV (p : Rp) (R : Rd) : Value := .slice p.la R.lots.length p.lc
def smpV (p : Rp) (R : Rd) : Value := .slice p.sa R.smp.length p.sc
def labsV (p : Rp) (R : Rd) : Value := .slice p.ba R.labs.length p.bc
structure RdV (n : Nat) (w : World) (p : Rp) (R : Rd) : Prop where
  lots : RgsV n w (lotsV p R) R.lots
  smp : IntsV n w (smpV p R) R.smp
  labs : LabsV n w (labsV p R) R.labs
theorem RdV.same {n : Nat} {w w' : World} {p : Rp} {R : Rd} (h : RdV n w p R) (hs : Same n w w') : RdV n w' p R := ⟨h.lots.same hs, h.smp.same hs, h.labs.same hs⟩
theorem RdV.up {n m : Nat} {w : World} {p : Rp} {R : Rd} (h : RdV n w p R) (hm : n ≤ m) : RdV m w p R := ⟨h.lots.up hm, h.smp.up hm, h.labs.up hm⟩
def rdV (p : Rp) (R : Rd) : Value := .agg #[.slice p.la R.lots.length p.lc, .slice p.sa R.smp.length p.sc, .int .i64 R.sp, .slice p.ba R.labs.length p.bc]
def trA (p : Rp) (R : Rd) (o : Nat → Bool) : Array Value := #[.slice p.la R.lots.length p.lc, .slice p.sa R.smp.length p.sc, .int .i64 R.sp, .slice p.ba R.labs.length p.bc, .bool (o 0), .bool (o 1), .bool (o 2), .bool (o 3), .bool (o 4), .bool (o 5)]
def rgV (r : Rg) : Value := .agg #[.int .i64 r.lo, .int .i64 r.hi]

theorem box_below (w : World) (o : Obj) : Below w.heap.size w (w.alloc o) := (Below.refl _ _).alloc (Nat.le_refl _) _
theorem below_to {w W W' : World} (h : Below w.heap.size w W) (h' : Below W.heap.size W W') : Below w.heap.size w W' := h.trans (h'.mono h.size)
theorem below2 (w : World) (o o' : Obj) : Below w.heap.size w ((w.alloc o).alloc o') := (box_below w o).trans ((box_below _ o').mono (by simp))
theorem below3 (w : World) (o o' o'' : Obj) : Below w.heap.size w (((w.alloc o).alloc o').alloc o'') := (below2 w o o').trans ((box_below _ o'').mono (by simp; omega))
theorem ret_bool {a b : Bool} (h : a = b) : Ending.returned (.bool a) = .returned (.bool b) := by rw [h]

end Go.Proofs.Ytpdkgnfblnblbaa
