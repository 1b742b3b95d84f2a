/- A plan that is copied and changed: how it lies, and plain facts. Condition: at most a thousand segments. -/
import Derived.Test.YtfijaafkagcmmaaR6
namespace Go.Proofs.Ytfijaafkagcmmaa
open Go.RowKit Go.Shelf
attribute [local irreducible] arrV wpQuiet

theorem el52 : ElemOk 52 84 3 24 := ⟨by kernel_rfl, elem_info 84 3 24 (by kernel_rfl) (by kernel_rfl) (by kernel_rfl), by decide, by decide⟩
theorem sg_set_same {ss : List Sg} {j : Nat} (s : Sg) (h : j < ss.length) : sg (ss.set j s) j = s := by simp [sg, h]
theorem sg_set_other {ss : List Sg} {i j : Nat} (s : Sg) (h : i ≠ j) : sg (ss.set j s) i = sg ss i := by simp [sg, List.getElem?_set_ne (Ne.symm h)]

/-- A row of segments of one's own. -/
structure RowS (g n : Nat) (ss : List Sg) (A : World) : Prop where
  row : ∃ cur, A.heap[g]? = some (.cells cur 84 (0, 0)) ∧ n * 3 ≤ cur.size
  len : ss.length = n
  segs : ∀ i, i < n → A.cell? ⟨g, i * 3, none⟩ = some (.int .i64 (sg ss i).b) ∧ A.cell? ⟨g, i * 3 + 1, none⟩ = some (.int .i64 (sg ss i).h.lo) ∧ A.cell? ⟨g, i * 3 + 2, none⟩ = some (.int .i64 (sg ss i).h.hi)
theorem RowS.lt {g n : Nat} {ss : List Sg} {A : World} (h : RowS g n ss A) : g < A.heap.size := by
  obtain ⟨cur, h1, _⟩ := h.row
  exact lt_of_block h1
theorem RowS.same {g n : Nat} {ss : List Sg} {A B : World} (h : RowS g n ss A) (hb : B.heap[g]? = A.heap[g]?) : RowS g n ss B := by
  obtain ⟨cur, h1, h2⟩ := h.row
  have hc : ∀ o, B.cell? ⟨g, o, none⟩ = A.cell? ⟨g, o, none⟩ := fun o => World.cell?_of_block hb
  exact ⟨⟨cur, hb.trans h1, h2⟩, h.len, fun i hi => by rw [hc, hc, hc]; exact h.segs i hi⟩
theorem RowS.below {g n : Nat} {ss : List Sg} {A B : World} (h : RowS g n ss A) (hb : Below A.heap.size A B) : RowS g n ss B := h.same (hb.block _ h.lt)
theorem RowS.other {g n g' o : Nat} {ss : List Sg} {A : World} {v : Value} (h : RowS g n ss A) (hg : g ≠ g') : RowS g n ss (A.setCell ⟨g', o, none⟩ v) := h.same (heap_setCell_other A ⟨g', o, none⟩ g v hg)
theorem RowS.segsV {g n : Nat} {ss : List Sg} {A : World} (h : RowS g n ss A) (cx : Nat) : SegsV A.heap.size A (.slice (some ⟨g, 0, none⟩) n cx) ss :=
  ⟨some ⟨g, 0, none⟩, cx, by rw [h.len], fun _ => ⟨g, 0, rfl, h.lt, fun i hi => by rw [Nat.zero_add]; exact h.segs i (by rw [← h.len]; exact hi)⟩⟩
theorem RowS.at_ {g n : Nat} {ss : List Sg} {A : World} (h : RowS g n ss A) {j : Nat} (hj : j < n) : A.frozen? ⟨g, j * 3, none⟩ = false ∧ A.frozen? ⟨g, j * 3 + 1, none⟩ = false ∧ A.frozen? ⟨g, j * 3 + 2, none⟩ = false := by
  obtain ⟨cur, h1, h2⟩ := h.row
  exact ⟨frozen_of_row A g _ _ _ h1, frozen_of_row A g _ _ _ h1, frozen_of_row A g _ _ _ h1⟩
theorem RowS.set {g n : Nat} {ss : List Sg} {A : World} (h : RowS g n ss A) {j : Nat} (hj : j < n) (k : Nat) (x : Int) (s : Sg)
    (hk : (k = 0 ∧ s = ⟨x, (sg ss j).h⟩) ∨ (k = 1 ∧ s = ⟨(sg ss j).b, ⟨x, (sg ss j).h.hi⟩⟩) ∨ (k = 2 ∧ s = ⟨(sg ss j).b, ⟨(sg ss j).h.lo, x⟩⟩)) :
    RowS g n (ss.set j s) (A.setCell ⟨g, j * 3 + k, none⟩ (.int .i64 x)) := by
  obtain ⟨cur, h1, h2⟩ := h.row
  have hnew := heap_setCell_same A g (j * 3 + k) cur 84 (.int .i64 x) h1
  have hlen := h.len
  refine ⟨⟨_, hnew, by simpa using h2⟩, by simpa using hlen, fun i hi' => ?_⟩
  have hp := h.segs i hi'
  have key : ∀ o, o < n * 3 → (A.setCell ⟨g, j * 3 + k, none⟩ (.int .i64 x)).cell? ⟨g, o, none⟩ = if j * 3 + k = o then some (.int .i64 x) else A.cell? ⟨g, o, none⟩ := fun o ho => by
    rw [cell_of_row _ g o _ _ _ hnew, cell_of_row A g o _ _ _ h1, Array.getElem?_setIfInBounds]
    by_cases e : j * 3 + k = o
    · rw [if_pos e, if_pos e, if_pos (by omega)]
    · rw [if_neg e, if_neg e]
  have k0 := key (i * 3) (by omega)
  have k1 := key (i * 3 + 1) (by omega)
  have k2 := key (i * 3 + 2) (by omega)
  by_cases e : i = j
  · subst e
    rw [sg_set_same s (by omega)]
    rcases hk with ⟨rfl, rfl⟩ | ⟨rfl, rfl⟩ | ⟨rfl, rfl⟩
    · rw [if_neg (by omega)] at k1 k2
      rw [if_pos (by omega)] at k0
      exact ⟨k0, k1.trans hp.2.1, k2.trans hp.2.2⟩
    · rw [if_neg (by omega)] at k0 k2
      rw [if_pos rfl] at k1
      exact ⟨k0.trans hp.1, k1, k2.trans hp.2.2⟩
    · rw [if_neg (by omega)] at k0 k1
      rw [if_pos rfl] at k2
      exact ⟨k0.trans hp.1, k1.trans hp.2.1, k2⟩
  · rw [sg_set_other s e]
    have hk3 : k = 0 ∨ k = 1 ∨ k = 2 := by rcases hk with ⟨h, _⟩ | ⟨h, _⟩ | ⟨h, _⟩ <;> omega
    rw [if_neg (by omega)] at k0 k1 k2
    exact ⟨k0.trans hp.1, k1.trans hp.2.1, k2.trans hp.2.2⟩

theorem flatS_len (l : List Sg) : (flatS l).length = l.length * 3 := by
  induction l with
  | nil => rfl
  | cons a l ih =>
    simp only [flatS, List.flatMap_cons, List.length_append, List.length_cons, List.length_nil] at ih ⊢
    omega
theorem flatS_one {l : List Sg} {u : Value} (h : u ∈ flatS l) : u.oneCell' = true := by
  obtain ⟨s, _, hs⟩ := List.mem_flatMap.1 h
  simp at hs
  rcases hs with rfl | rfl | rfl <;> rfl
theorem segs_all {w : World} {b off : Nat} {ss : List Sg} (h : ∀ i, i < ss.length → w.cell? ⟨b, off + i * 3, none⟩ = some (.int .i64 (sg ss i).b) ∧ w.cell? ⟨b, off + i * 3 + 1, none⟩ = some (.int .i64 (sg ss i).h.lo) ∧ w.cell? ⟨b, off + i * 3 + 2, none⟩ = some (.int .i64 (sg ss i).h.hi))
    (j : Nat) (u : Value) (hu : (flatS ss)[j]? = some u) : w.cell? ⟨b, off + j, none⟩ = some u := by
  have hj : j < ss.length * 3 := by
    have := (List.getElem?_eq_some_iff.1 hu).1
    rwa [flatS_len] at this
  obtain ⟨i, r, hr, rfl⟩ : ∃ i r, r < 3 ∧ j = i * 3 + r := ⟨j / 3, j % 3, Nat.mod_lt _ (by decide), by omega⟩
  have hi : i < ss.length := by omega
  obtain ⟨f1, f2, f3⟩ := flatS_get ss i hi
  obtain ⟨c1, c2, c3⟩ := h i hi
  rcases (by omega : r = 0 ∨ r = 1 ∨ r = 2) with rfl | rfl | rfl
  · rw [Nat.add_zero] at hu ⊢; rw [f1] at hu; rw [c1, ← hu]
  · rw [f2] at hu; rw [← hu, ← c2, Nat.add_assoc]
  · rw [f3] at hu; rw [← hu, ← c3, Nat.add_assoc]

set_option maxRecDepth 100000 in
theorem app_copy (m : Nat) (a : Option Addr) (cap ty : Nat) (ss : List Sg) (W : World) (h0 : 0 < ss.length) (hn : ss.length ≤ 1000) (hP : SegsV m W (.slice a ss.length cap) ss) (hm : m ≤ W.heap.size) :
    ∃ g cx w', (Builtin.append_ #[52, 52] ty #[.slice (some ⟨W.heap.size, 0, none⟩) 0 0, .slice a ss.length cap]).run Try.prog (W.alloc (.cells #[] 84 (0, 0))) = .ok (.slice (some ⟨g, 0, none⟩) ss.length cx) w' ∧
      RowS g ss.length ss w' ∧ W.heap.size ≤ g ∧ Below W.heap.size W w' := by
  obtain ⟨a', cap', e, hp⟩ := hP
  cases e
  obtain ⟨b, off, rfl, hbm, hc⟩ := hp h0
  obtain ⟨i, z, hi, hz, hs, hby, hzs⟩ := el52.i
  have hown : (W.alloc (.cells #[] 84 (0, 0))).ownsRow W.heap.size 84 3 (.slice (some ⟨W.heap.size, 0, none⟩) 0 0) 0 [] :=
    ⟨rfl, .inr ⟨W.heap.size, 0, #[], rfl, Nat.le_refl _, heap_alloc_new W _, Nat.le_refl _, Nat.zero_le _, rfl, rfl⟩⟩
  have hal := box_below W (.cells #[] 84 (0, 0))
  obtain ⟨g, c, w', hrun, h2, h3, h4, h5⟩ := run_append_lies (P := Try.prog) (W.alloc (.cells #[] 84 (0, 0))) 52 ty W.heap.size 84 i z 3 24 el52.u hi hz hs hby hzs (by decide) (.slice (some ⟨W.heap.size, 0, none⟩) 0 0) 0 [] hown ⟨b, off, none⟩ ss.length cap (flatS ss) (by rw [flatS_len])
    (fun j u hj => by
      have := segs_all (w := W) hc j u hj
      rw [Addr.add_lit]
      exact (hal.cell (p := ⟨b, off + j, none⟩) (by show b < W.heap.size; omega)).trans this)
    (fun u hu => flatS_one hu) h0 (by simp [maxLen]; omega) (by omega) (by simp) (W.heap.size + 1) (by simp)
  rw [Nat.zero_add] at hrun h2
  rw [List.nil_append] at h2
  refine ⟨g, c, w', hrun, ?_, ?_, ?_⟩
  · have hg := own_get h2 h0
    obtain ⟨g', c', e, hb, hlt, hcell⟩ := hg
    cases e
    refine ⟨?_, rfl, fun i hi => ?_⟩
    · rcases h2.2 with ⟨hv, _⟩ | ⟨g', cap', cur, hv, _, hg', hn', _, hs', _⟩
      · cases hv
      · cases hv
        exact ⟨cur, hg', by omega⟩
    · obtain ⟨f1, f2, f3⟩ := flatS_get ss i hi
      exact ⟨(hcell _ (by omega)).trans f1, (hcell _ (by omega)).trans f2, (hcell _ (by omega)).trans f3⟩
  · rcases h4 with h4 | h4
    · simp [Value.ownBlock] at h4
      omega
    · omega
  · exact ⟨h3.os.trans hal.os, h3.tape.trans hal.tape, h3.output.trans hal.output, Nat.le_trans hal.size h3.size, fun k hk => (h3.block k (Nat.lt_of_lt_of_le hk hal.size) (fun e => by simp [Value.ownBlock] at e; omega)).trans (hal.block k hk)⟩
end Go.Proofs.Ytfijaafkagcmmaa
