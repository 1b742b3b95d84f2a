/- Materials, runs and plans, as they lie in memory; the plain facts that go with them. No condition. -/
import Derived.Test.YtfijaafkagcmmaaChecked
import Derived.WalkKit
import Derived.WalkSpells
import Derived.WalkLawsBesides
import Derived.Lib.QuietBelow
import Derived.BigQuiet
import Derived.IntWalk
import Derived.Lib.Hide
import Derived.Test.YtfijaafkagcmmaaA
import Derived.Test.YtfijaafkagcmmaaQ
namespace Go.Proofs.Ytfijaafkagcmmaa
open Go.RowKit

def iV (n : Int) : Value := .int .i64 n
def ld (t : List Int) (i : Nat) : Int := (t[i]?).getD 0
def arrV (t : List Int) : Array Value := (t.map iV).toArray
def rg (ms : List Rg) (i : Nat) : Rg := (ms[i]?).getD ⟨0, 0⟩
def sg (ss : List Sg) (i : Nat) : Sg := (ss[i]?).getD ⟨0, ⟨0, 0⟩⟩
def rn (rs : List Rn) (i : Nat) : Rn := (rs[i]?).getD ⟨[], ⟨0, 0⟩⟩
theorem rt_ld (x : List Int) (i : Int) : rt x i = ld x i.toNat := rfl
theorem rg_mem {ms : List Rg} {i : Nat} (h : i < ms.length) : rg ms i ∈ ms := by simp [rg, h]
theorem sg_mem {ss : List Sg} {i : Nat} (h : i < ss.length) : sg ss i ∈ ss := by simp [sg, h]
theorem rn_mem {rs : List Rn} {i : Nat} (h : i < rs.length) : rn rs i ∈ rs := by simp [rn, h]

/-- The same blocks below n. -/
def Same (n : Nat) (w w' : World) : Prop := ∀ k, k < n → w'.heap[k]? = w.heap[k]?
theorem Same.below {n : Nat} {w w' : World} (hn : n ≤ w.heap.size) (h : Below w.heap.size w w') : Same n w w' := fun k hk => h.block k (by omega)
theorem Same.but {n : Nat} {w w' : World} {T : Nat → Prop} (hn : n ≤ w.heap.size) (hT : ∀ k, T k → n ≤ k) (h : But T w w') : Same n w w' := fun k hk => h.block k (by omega) fun ht => by have := hT k ht; omega
theorem Same.cell {n : Nat} {w w' : World} (h : Same n w w') {b o : Nat} {v : Value} (hb : b < n) (hc : w.cell? ⟨b, o, none⟩ = some v) : w'.cell? ⟨b, o, none⟩ = some v :=
  (World.cell?_of_block (w := w) (h b hb)).trans hc

def RgsV (n : Nat) (w : World) (v : Value) (ms : List Rg) : Prop :=
  ∃ a cap, v = .slice a ms.length cap ∧ (0 < ms.length → ∃ b off, a = some ⟨b, off, none⟩ ∧ b < n ∧ ∀ i, i < ms.length →
    w.cell? ⟨b, off + i * 2, none⟩ = some (.int .i64 (rg ms i).lo) ∧ w.cell? ⟨b, off + i * 2 + 1, none⟩ = some (.int .i64 (rg ms i).hi))
def SegsV (n : Nat) (w : World) (v : Value) (ss : List Sg) : Prop :=
  ∃ a cap, v = .slice a ss.length cap ∧ (0 < ss.length → ∃ b off, a = some ⟨b, off, none⟩ ∧ b < n ∧ ∀ i, i < ss.length →
    w.cell? ⟨b, off + i * 3, none⟩ = some (.int .i64 (sg ss i).b) ∧ w.cell? ⟨b, off + i * 3 + 1, none⟩ = some (.int .i64 (sg ss i).h.lo) ∧ w.cell? ⟨b, off + i * 3 + 2, none⟩ = some (.int .i64 (sg ss i).h.hi))
def RunsV (n : Nat) (w : World) (v : Value) (rs : List Rn) : Prop :=
  ∃ a cap, v = .slice a rs.length cap ∧ (0 < rs.length → ∃ b off, a = some ⟨b, off, none⟩ ∧ b < n ∧ ∀ i, i < rs.length → ∃ sv,
    w.cell? ⟨b, off + i * 3, none⟩ = some sv ∧ w.cell? ⟨b, off + i * 3 + 1, none⟩ = some (.int .i64 (rn rs i).seen.lo) ∧ w.cell? ⟨b, off + i * 3 + 2, none⟩ = some (.int .i64 (rn rs i).seen.hi) ∧ SegsV n w sv (rn rs i).ss)
theorem RgsV.same {n : Nat} {w w' : World} {v : Value} {ms : List Rg} (h : RgsV n w v ms) (hs : Same n w w') : RgsV n w' v ms := by
  obtain ⟨a, cap, rfl, hp⟩ := h
  refine ⟨a, cap, rfl, fun h0 => ?_⟩
  obtain ⟨b, off, rfl, hb, hc⟩ := hp h0
  exact ⟨b, off, rfl, hb, fun i hi => ⟨hs.cell hb (hc i hi).1, hs.cell hb (hc i hi).2⟩⟩
theorem SegsV.same {n : Nat} {w w' : World} {v : Value} {ss : List Sg} (h : SegsV n w v ss) (hs : Same n w w') : SegsV n w' v ss := by
  obtain ⟨a, cap, rfl, hp⟩ := h
  refine ⟨a, cap, rfl, fun h0 => ?_⟩
  obtain ⟨b, off, rfl, hb, hc⟩ := hp h0
  exact ⟨b, off, rfl, hb, fun i hi => ⟨hs.cell hb (hc i hi).1, hs.cell hb (hc i hi).2.1, hs.cell hb (hc i hi).2.2⟩⟩
theorem RunsV.same {n : Nat} {w w' : World} {v : Value} {rs : List Rn} (h : RunsV n w v rs) (hs : Same n w w') : RunsV n w' v rs := by
  obtain ⟨a, cap, rfl, hp⟩ := h
  refine ⟨a, cap, rfl, fun h0 => ?_⟩
  obtain ⟨b, off, rfl, hb, hc⟩ := hp h0
  refine ⟨b, off, rfl, hb, fun i hi => ?_⟩
  obtain ⟨sv, h1, h2, h3, h4⟩ := hc i hi
  exact ⟨sv, hs.cell hb h1, hs.cell hb h2, hs.cell hb h3, h4.same hs⟩
theorem RgsV.up {n m : Nat} {w : World} {v : Value} {ms : List Rg} (h : RgsV n w v ms) (hm : n ≤ m) : RgsV m w v ms := by
  obtain ⟨a, cap, rfl, hp⟩ := h
  refine ⟨a, cap, rfl, fun h0 => ?_⟩
  obtain ⟨b, off, rfl, hb, hc⟩ := hp h0
  exact ⟨b, off, rfl, by omega, hc⟩
theorem SegsV.up {n m : Nat} {w : World} {v : Value} {ss : List Sg} (h : SegsV n w v ss) (hm : n ≤ m) : SegsV m w v ss := by
  obtain ⟨a, cap, rfl, hp⟩ := h
  refine ⟨a, cap, rfl, fun h0 => ?_⟩
  obtain ⟨b, off, rfl, hb, hc⟩ := hp h0
  exact ⟨b, off, rfl, by omega, hc⟩
theorem RunsV.up {n m : Nat} {w : World} {v : Value} {rs : List Rn} (h : RunsV n w v rs) (hm : n ≤ m) : RunsV m w v rs := by
  obtain ⟨a, cap, rfl, hp⟩ := h
  refine ⟨a, cap, rfl, fun h0 => ?_⟩
  obtain ⟨b, off, rfl, hb, hc⟩ := hp h0
  refine ⟨b, off, rfl, by omega, fun i hi => ?_⟩
  obtain ⟨sv, h1, h2, h3, h4⟩ := hc i hi
  exact ⟨sv, h1, h2, h3, h4.up hm⟩

/-- A material and its runs, in blocks below n. -/
structure RoomV (n : Nat) (w : World) (mv rv : Value) (ms : List Rg) (rs : List Rn) : Prop where
  lt : n ≤ w.heap.size
  m : RgsV n w mv ms
  r : RunsV n w rv rs
theorem RoomV.below {n : Nat} {w w' : World} {mv rv : Value} {ms : List Rg} {rs : List Rn} (h : RoomV n w mv rv ms rs) (hb : Below w.heap.size w w') : RoomV n w' mv rv ms rs :=
  ⟨Nat.le_trans h.lt hb.size, h.m.same (.below h.lt hb), h.r.same (.below h.lt hb)⟩
theorem RoomV.but {n : Nat} {w w' : World} {T : Nat → Prop} {mv rv : Value} {ms : List Rg} {rs : List Rn} (h : RoomV n w mv rv ms rs) (hT : ∀ k, T k → n ≤ k) (hb : But T w w') : RoomV n w' mv rv ms rs :=
  ⟨Nat.le_trans h.lt hb.size, h.m.same (.but h.lt hT hb), h.r.same (.but h.lt hT hb)⟩

theorem box_below (w : World) (o : Obj) : Below w.heap.size w (w.alloc o) := (Below.refl _ _).alloc (Nat.le_refl _) _
theorem below_to {w W W' : World} (h : Below w.heap.size w W) (h' : Below W.heap.size W W') : Below w.heap.size w W' := h.trans (h'.mono h.size)
theorem below2 (w : World) (o o' : Obj) : Below w.heap.size w ((w.alloc o).alloc o') := (box_below w o).trans ((box_below _ o').mono (by simp))
theorem below3 (w : World) (o o' o'' : Obj) : Below w.heap.size w (((w.alloc o).alloc o').alloc o'') := (below2 w o o').trans ((box_below _ o'').mono (by simp; omega))
theorem ret_bool {a b : Bool} (h : a = b) : Ending.returned (.bool a) = .returned (.bool b) := by rw [h]

end Go.Proofs.Ytfijaafkagcmmaa
