/- Albums, ranges and lists of numbers, as they lie in memory; the plain facts that go with them. No condition. -/
import Derived.Test.YtplmlmmjfkbabaaChecked
import Derived.WalkKit
import Derived.WalkSpells
import Derived.WalkLawsBesides
import Derived.Lib.QuietBelow
import Derived.BigQuiet
import Derived.IntWalk
import Derived.Lib.Hide
import Derived.Test.YtplmlmmjfkbabaaBJ
import Derived.Test.YtplmlmmjfkbabaaQ
namespace Go.Proofs.Ytplmlmmjfkbabaa
open Go.RowKit

def iV (n : Int) : Value := .int .i64 n
def ld (t : List Int) (i : Nat) : Int := (t[i]?).getD 0
def arrV (t : List Int) : Array Value := (t.map iV).toArray
def cm (cs : List Cm) (i : Nat) : Cm := (cs[i]?).getD ⟨0, 0, 0, 0⟩
theorem rg_mem {ms : List Rg} {i : Nat} (h : i < ms.length) : rg ms i ∈ ms := by simp [rg, h]
theorem cm_mem {cs : List Cm} {i : Nat} (h : i < cs.length) : cm cs i ∈ cs := by simp [cm, h]

/-- The same blocks below n. -/
def Same (n : Nat) (w w' : World) : Prop := ∀ k, k < n → w'.heap[k]? = w.heap[k]?
theorem Same.below {n : Nat} {w w' : World} (hn : n ≤ w.heap.size) (h : Below w.heap.size w w') : Same n w w' := fun k hk => h.block k (by omega)
theorem Same.but {n : Nat} {w w' : World} {T : Nat → Prop} (hn : n ≤ w.heap.size) (hT : ∀ k, T k → n ≤ k) (h : But T w w') : Same n w w' := fun k hk => h.block k (by omega) fun ht => by have := hT k ht; omega
theorem Same.cell {n : Nat} {w w' : World} (h : Same n w w') {b o : Nat} {v : Value} (hb : b < n) (hc : w.cell? ⟨b, o, none⟩ = some v) : w'.cell? ⟨b, o, none⟩ = some v :=
  (World.cell?_of_block (w := w) (h b hb)).trans hc

def RgsV (n : Nat) (w : World) (v : Value) (ms : List Rg) : Prop :=
  ∃ a cap, v = .slice a ms.length cap ∧ (0 < ms.length → ∃ b off, a = some ⟨b, off, none⟩ ∧ b < n ∧ ∀ i, i < ms.length →
    w.cell? ⟨b, off + i * 2, none⟩ = some (.int .i64 (rg ms i).lo) ∧ w.cell? ⟨b, off + i * 2 + 1, none⟩ = some (.int .i64 (rg ms i).hi))
def CmsV (n : Nat) (w : World) (v : Value) (cs : List Cm) : Prop :=
  ∃ a cap, v = .slice a cs.length cap ∧ (0 < cs.length → ∃ b off, a = some ⟨b, off, none⟩ ∧ b < n ∧ ∀ i, i < cs.length →
    w.cell? ⟨b, off + i * 4, none⟩ = some (.int .i64 (cm cs i).l) ∧ w.cell? ⟨b, off + i * 4 + 1, none⟩ = some (.int .i64 (cm cs i).r) ∧ w.cell? ⟨b, off + i * 4 + 2, none⟩ = some (.int .i64 (cm cs i).lo) ∧ w.cell? ⟨b, off + i * 4 + 3, none⟩ = some (.int .i64 (cm cs i).hi))
def IntsV (n : Nat) (w : World) (v : Value) (xs : List Int) : Prop :=
  ∃ a cap, v = .slice a xs.length cap ∧ (0 < xs.length → ∃ b off, a = some ⟨b, off, none⟩ ∧ b < n ∧ ∀ i, i < xs.length → w.cell? ⟨b, off + i, none⟩ = some (.int .i64 (ld xs i)))
theorem RgsV.same {n : Nat} {w w' : World} {v : Value} {ms : List Rg} (h : RgsV n w v ms) (hs : Same n w w') : RgsV n w' v ms := by
  obtain ⟨a, cap, rfl, hp⟩ := h
  refine ⟨a, cap, rfl, fun h0 => ?_⟩
  obtain ⟨b, off, rfl, hb, hc⟩ := hp h0
  exact ⟨b, off, rfl, hb, fun i hi => ⟨hs.cell hb (hc i hi).1, hs.cell hb (hc i hi).2⟩⟩
theorem CmsV.same {n : Nat} {w w' : World} {v : Value} {cs : List Cm} (h : CmsV n w v cs) (hs : Same n w w') : CmsV n w' v cs := by
  obtain ⟨a, cap, rfl, hp⟩ := h
  refine ⟨a, cap, rfl, fun h0 => ?_⟩
  obtain ⟨b, off, rfl, hb, hc⟩ := hp h0
  exact ⟨b, off, rfl, hb, fun i hi => ⟨hs.cell hb (hc i hi).1, hs.cell hb (hc i hi).2.1, hs.cell hb (hc i hi).2.2.1, hs.cell hb (hc i hi).2.2.2⟩⟩
theorem IntsV.same {n : Nat} {w w' : World} {v : Value} {xs : List Int} (h : IntsV n w v xs) (hs : Same n w w') : IntsV n w' v xs := by
  obtain ⟨a, cap, rfl, hp⟩ := h
  refine ⟨a, cap, rfl, fun h0 => ?_⟩
  obtain ⟨b, off, rfl, hb, hc⟩ := hp h0
  exact ⟨b, off, rfl, hb, fun i hi => hs.cell hb (hc i hi)⟩
theorem RgsV.up {n m : Nat} {w : World} {v : Value} {ms : List Rg} (h : RgsV n w v ms) (hm : n ≤ m) : RgsV m w v ms := by
  obtain ⟨a, cap, rfl, hp⟩ := h
  refine ⟨a, cap, rfl, fun h0 => ?_⟩
  obtain ⟨b, off, rfl, hb, hc⟩ := hp h0
  exact ⟨b, off, rfl, by omega, hc⟩
theorem CmsV.up {n m : Nat} {w : World} {v : Value} {cs : List Cm} (h : CmsV n w v cs) (hm : n ≤ m) : CmsV m w v cs := by
  obtain ⟨a, cap, rfl, hp⟩ := h
  refine ⟨a, cap, rfl, fun h0 => ?_⟩
  obtain ⟨b, off, rfl, hb, hc⟩ := hp h0
  exact ⟨b, off, rfl, by omega, hc⟩
theorem IntsV.up {n m : Nat} {w : World} {v : Value} {xs : List Int} (h : IntsV n w v xs) (hm : n ≤ m) : IntsV m w v xs := by
  obtain ⟨a, cap, rfl, hp⟩ := h
  refine ⟨a, cap, rfl, fun h0 => ?_⟩
  obtain ⟨b, off, rfl, hb, hc⟩ := hp h0
  exact ⟨b, off, rfl, by omega, hc⟩

/-- Distances, in an array of nine by nine. -/
def mat (d : Dm) : Array Value := ((List.range 81).map fun k => iV (d (k / 9) (k % 9))).toArray
theorem mat_size (d : Dm) : (mat d).size = 81 := by simp [mat]
theorem mat_get (d : Dm) {a b : Nat} (ha : a < 9) (hb : b < 9) : (mat d)[a * 9 + b]? = some (.int .i64 (d a b)) := by
  have h1 : (a * 9 + b) / 9 = a := by omega
  have h2 : (a * 9 + b) % 9 = b := by omega
  have h3 : a * 9 + b < 81 := by omega
  simp [mat, iV, h1, h2, h3]
theorem mat_one (d : Dm) : (mat d).all (·.oneCell') = true := by
  rw [mat, List.all_toArray, List.all_eq_true]
  intro v hv
  obtain ⟨a, _, rfl⟩ := List.mem_map.1 hv
  rfl
theorem mat_ext {d d' : Dm} (h : EqD d d') : mat d = mat d' := by
  unfold mat
  congr 1
  refine List.map_congr_left fun k hk => ?_
  have : k < 81 := by simpa using hk
  rw [h (k / 9) (k % 9) (by omega) (by omega)]

theorem box_below (w : World) (o : Obj) : Below w.heap.size w (w.alloc o) := (Below.refl _ _).alloc (Nat.le_refl _) _
theorem below_to {w W W' : World} (h : Below w.heap.size w W) (h' : Below W.heap.size W W') : Below w.heap.size w W' := h.trans (h'.mono h.size)
theorem below2 (w : World) (o o' : Obj) : Below w.heap.size w ((w.alloc o).alloc o') := (box_below w o).trans ((box_below _ o').mono (by simp))
theorem below3 (w : World) (o o' o'' : Obj) : Below w.heap.size w (((w.alloc o).alloc o').alloc o'') := (below2 w o o').trans ((box_below _ o'').mono (by simp; omega))
theorem ret_bool {a b : Bool} (h : a = b) : Ending.returned (.bool a) = .returned (.bool b) := by rw [h]

end Go.Proofs.Ytplmlmmjfkbabaa
