/- A row of runs of one's own, of which one gets other segments. No condition. -/
import Derived.Test.YtfijaafkagcmmaaF4
import Derived.Test.YtfijaafkagcmmaaR6
namespace Go.Proofs.Ytfijaafkagcmmaa
open Go.RowKit Go.Shelf
attribute [local irreducible] arrV wpQuiet

theorem put3 (w : World) (b : Nat) (x y z x' y' z' : Value) (t : TypeId) (h : w.heap[b]? = some (.cells #[x, y, z] t (0, 0))) : (((w.setCell ⟨b, 0, none⟩ x').setCell ⟨b, 1, none⟩ y').setCell ⟨b, 2, none⟩ z').heap[b]? = some (.cells #[x', y', z'] t (0, 0)) := by
  have h1 := heap_setCell_same w b 0 _ t x' h
  have h2 := heap_setCell_same _ b 1 _ t y' h1
  have h3 := heap_setCell_same _ b 2 _ t z' h2
  simpa using h3
theorem put3_other (w : World) (b k : Nat) (x' y' z' : Value) (hk : k ≠ b) : (((w.setCell ⟨b, 0, none⟩ x').setCell ⟨b, 1, none⟩ y').setCell ⟨b, 2, none⟩ z').heap[k]? = w.heap[k]? :=
  (heap_setCell_other _ ⟨b, 2, none⟩ k z' hk).trans ((heap_setCell_other _ ⟨b, 1, none⟩ k y' hk).trans (heap_setCell_other w ⟨b, 0, none⟩ k x' hk))
theorem put3_below {B : Nat} {A w : World} {b : Nat} (x' y' z' : Value) (h : Below B A w) (hb : B ≤ b) : Below B A (((w.setCell ⟨b, 0, none⟩ x').setCell ⟨b, 1, none⟩ y').setCell ⟨b, 2, none⟩ z') :=
  ((h.setCell (p := ⟨b, 0, none⟩) hb x').setCell (p := ⟨b, 1, none⟩) hb y').setCell (p := ⟨b, 2, none⟩) hb z'
theorem own_segs_any {w : World} {base e : Nat} {v : Value} {l : List Sg} (h : w.ownsRow base e 3 v l.length (flatS l)) : SegsV w.heap.size w v l := by
  cases Nat.eq_zero_or_pos l.length with
  | inl h0 =>
    rw [h0] at h
    obtain ⟨a, cap, rfl⟩ := own_nil h
    exact ⟨a, cap, by rw [h0], fun hp => by omega⟩
  | inr h0 =>
    obtain ⟨g, cap, rfl, hb, hg, hc⟩ := own_get h h0
    refine ⟨_, cap, rfl, fun _ => ⟨g, 0, rfl, hg, fun i hi => ?_⟩⟩
    obtain ⟨f1, f2, f3⟩ := flatS_get l i hi
    rw [Nat.zero_add]
    exact ⟨(hc _ (by omega)).trans f1, (hc _ (by omega)).trans f2, (hc _ (by omega)).trans f3⟩
theorem rn_set_same {rs : List Rn} {j : Nat} (r : Rn) (h : j < rs.length) : rn (rs.set j r) j = r := by simp [rn, h]
theorem rn_set_other {rs : List Rn} {i j : Nat} (r : Rn) (h : i ≠ j) : rn (rs.set j r) i = rn rs i := by simp [rn, List.getElem?_set_ne (Ne.symm h)]

structure RowR (m g n : Nat) (rs : List Rn) (A : World) : Prop where
  row : ∃ cur, A.heap[g]? = some (.cells cur 90 (0, 0)) ∧ n * 3 ≤ cur.size
  len : rs.length = n
  lt : m ≤ A.heap.size
  runs : ∀ i, i < n → ∃ sv, A.cell? ⟨g, i * 3, none⟩ = some sv ∧ A.cell? ⟨g, i * 3 + 1, none⟩ = some (.int .i64 (rn rs i).seen.lo) ∧ A.cell? ⟨g, i * 3 + 2, none⟩ = some (.int .i64 (rn rs i).seen.hi) ∧ SegsV m A sv (rn rs i).ss
theorem RowR.here {m g n : Nat} {rs : List Rn} {A : World} (h : RowR m g n rs A) : g < A.heap.size := by
  obtain ⟨cur, h1, _⟩ := h.row
  exact lt_of_block h1
theorem RowR.below {m g n : Nat} {rs : List Rn} {A B : World} (h : RowR m g n rs A) (hb : Below A.heap.size A B) : RowR m g n rs B := by
  obtain ⟨cur, h1, h2⟩ := h.row
  have hg := hb.block _ h.here
  have hc : ∀ o, B.cell? ⟨g, o, none⟩ = A.cell? ⟨g, o, none⟩ := fun o => World.cell?_of_block hg
  refine ⟨⟨cur, hg.trans h1, h2⟩, h.len, Nat.le_trans h.lt hb.size, fun i hi => ?_⟩
  obtain ⟨sv, c0, c1, c2, c3⟩ := h.runs i hi
  exact ⟨sv, by rw [hc]; exact c0, by rw [hc]; exact c1, by rw [hc]; exact c2, c3.same (.below h.lt hb)⟩
theorem RowR.other {m g n b : Nat} {rs : List Rn} {A B : World} (h : RowR m g n rs A) (hmb : m ≤ b) (hgb : g ≠ b) (hs : A.heap.size ≤ B.heap.size) (hb : ∀ k, k ≠ b → B.heap[k]? = A.heap[k]?) : RowR m g n rs B := by
  obtain ⟨cur, h1, h2⟩ := h.row
  have hg := hb g hgb
  have hc : ∀ o, B.cell? ⟨g, o, none⟩ = A.cell? ⟨g, o, none⟩ := fun o => World.cell?_of_block hg
  refine ⟨⟨cur, hg.trans h1, h2⟩, h.len, Nat.le_trans h.lt hs, fun i hi => ?_⟩
  obtain ⟨sv, c0, c1, c2, c3⟩ := h.runs i hi
  exact ⟨sv, by rw [hc]; exact c0, by rw [hc]; exact c1, by rw [hc]; exact c2, c3.same fun k hk => hb k (by omega)⟩
theorem RowR.of {m base g n cap : Nat} {rs : List Rn} {A : World} {xs : List Value} (hn : rs.length = n) (h0 : 0 < n) (h : RunX m A rs xs) (hm : m ≤ A.heap.size) (ho : A.ownsRow base 90 3 (.slice (some ⟨g, 0, none⟩) n cap) n xs) : RowR m g n rs A := by
  subst hn
  have hx := h.1
  rcases ho.2 with ⟨hv, _⟩ | ⟨g', c', cur, hv, hb, hg, hn', _, hs, ht⟩
  · cases hv
  cases hv
  have hcell : ∀ j, j < rs.length * 3 → A.cell? ⟨g, j, none⟩ = xs[j]? := fun j hj => by
    have h1 : (cur.toList.take (rs.length * 3))[j]? = xs[j]? := by rw [ht]
    rw [List.getElem?_take_of_lt hj] at h1
    rw [cell_of_row A g j _ _ _ hg, ← Array.getElem?_toList, h1]
  refine ⟨⟨cur, hg, by omega⟩, rfl, hm, fun i hi => ?_⟩
  obtain ⟨sv, f1, f2, f3, f4⟩ := h.2 i hi
  exact ⟨sv, (hcell _ (by omega)).trans f1, (hcell _ (by omega)).trans f2, (hcell _ (by omega)).trans f3, f4⟩
theorem RowR.fresh {m g n : Nat} {rs : List Rn} {A : World} (h : RowR m g n rs A) (o : Nat) : A.frozen? ⟨g, o, none⟩ = false := by
  obtain ⟨cur, h1, h2⟩ := h.row
  exact frozen_of_row A g _ _ _ h1
theorem RowR.set_runs {m g n base : Nat} {rs : List Rn} {A : World} (h : RowR m g n rs A) (hmg : m ≤ g) {j : Nat} (hj : j < n) (v : Value) (ss : List Sg) (cx : Nat) (hv : A.ownsRow base 84 3 v ss.length (flatS ss)) (hg : g < base) :
    RunsV A.heap.size (A.setCell ⟨g, j * 3, none⟩ v) (.slice (some ⟨g, 0, none⟩) n cx) (rs.set j ⟨ss, (rn rs j).seen⟩) := by
  obtain ⟨cur, h1, h2⟩ := h.row
  have hlt := h.here
  have hlen := h.len
  have hnew := heap_setCell_same A g (j * 3) cur 90 v h1
  have hsz : (A.setCell ⟨g, j * 3, none⟩ v).heap.size = A.heap.size := by simp
  have hsame : ∀ k, k ≠ g → (A.setCell ⟨g, j * 3, none⟩ v).heap[k]? = A.heap[k]? := fun k hk => heap_setCell_other A ⟨g, j * 3, none⟩ k v hk
  have hv' : SegsV A.heap.size (A.setCell ⟨g, j * 3, none⟩ v) v ss := by
    have := own_segs_any (row_same (w' := A.setCell ⟨g, j * 3, none⟩ v) hv (fun k cur' hk => hsame k (fun e => by
      subst e
      have := tags_differ h1 hk
      exact absurd this (by decide))))
    rwa [hsz] at this
  refine ⟨_, cx, by simp [hlen], fun _ => ⟨g, 0, rfl, hlt, fun i hi => ?_⟩⟩
  rw [Nat.zero_add]
  have hi' : i < n := by simpa [hlen] using hi
  have key : ∀ o, o < n * 3 → (A.setCell ⟨g, j * 3, none⟩ v).cell? ⟨g, o, none⟩ = if j * 3 = o then some v else A.cell? ⟨g, o, none⟩ := fun o ho => by
    rw [cell_of_row _ g o _ _ _ hnew, cell_of_row A g o _ _ _ h1, Array.getElem?_setIfInBounds]
    by_cases e : j * 3 = o
    · rw [if_pos e, if_pos e, if_pos (by omega)]
    · rw [if_neg e, if_neg e]
  have k0 := key (i * 3) (by omega)
  have k1 := key (i * 3 + 1) (by omega)
  have k2 := key (i * 3 + 2) (by omega)
  obtain ⟨sv, c0, c1, c2, c3⟩ := h.runs i hi'
  rw [if_neg (by omega)] at k1 k2
  by_cases e : i = j
  · subst e
    rw [if_pos rfl] at k0
    rw [rn_set_same _ (by omega)]
    exact ⟨v, k0, k1.trans c1, k2.trans c2, hv'⟩
  · rw [if_neg (by omega)] at k0
    rw [rn_set_other _ e]
    exact ⟨sv, k0.trans c0, k1.trans c1, k2.trans c2, (c3.same fun k hk => hsame k (by omega)).up h.lt⟩
section
open Go.ChangeShapes Go.WideShapes Go.ChangeAt Go.Deep
set_option maxRecDepth 100000
variable {H : Type} {enc : TypeId × Value → H} {w : World} {base fuel : Nat} {spare : Nat → Bool} {held : Bool}
theorem seg_cap {cs : List Value} {x : DataW H × List MemPlace} (h : DataW.trod enc Try.prog w base spare held fuel 52 cs = some x) {a : Option Addr} {n c : Nat} (e : cs = [.slice a n c]) : n ≤ c := by
  rcases open_slice Try.underlying52 h with ⟨hcs, _⟩ | ⟨a', len', cap', m, n', D, Pl, hcs, hb, hl, _⟩
  · rw [e] at hcs
    simp only [List.cons.injEq, Value.slice.injEq, and_true] at hcs
    omega
  · rw [e] at hcs
    simp only [List.cons.injEq, Value.slice.injEq, and_true] at hcs
    obtain ⟨-, e1, e2⟩ := hcs
    omega
theorem run_cap {cs : List Value} {x : DataW H × List MemPlace} (h : DataW.trod enc Try.prog w base spare held fuel 90 cs = some x) {a : Option Addr} {n c : Nat} (e : cs[0]? = some (.slice a n c)) : n ≤ c := by
  obtain ⟨xs, m, _, _, hl, hxl, hf⟩ := DataW.trod_struct Try.underlying90 h
  rw [cells90] at hl
  obtain ⟨c0, c1, c2, rfl⟩ := len3 hl
  obtain ⟨y0, y1, rfl⟩ := len2 hxl
  have f0 : DataW.trod enc Try.prog w base spare held m 52 (([c0, c1, c2].drop 0).take (Try.prog.cellsOf 52)) = [y0, y1][0]? := hf 0 _ rfl
  rw [cells52] at f0
  simp only [List.getElem?_cons_zero, Option.some.injEq] at e
  subst e
  exact seg_cap (show DataW.trod enc Try.prog w base spare held m 52 [_] = some y0 from f0) rfl
theorem run_caps {r : Reach} {b0 : Nat} {v : Value} {d : DataW H} {p : List MemPlace} (hv : Value.okWide Try.prog w r b0 25 v) (h : DataW.Trod enc Try.prog w base spare held 25 v d p) :
    ∀ b off len cap, v = .slice (some ⟨b, off, none⟩) len cap → ∀ i, i < len → ∀ a n c, w.cell? ⟨b, off + i * 3, none⟩ = some (.slice a n c) → n ≤ c := by
  obtain ⟨a0, len, cap, rfl⟩ := okWide_slice Try.underlying25 hv
  obtain ⟨fuel, hf⟩ := h
  intro b off len' cap' e i hi a n c hc
  simp only [Value.slice.injEq] at e
  obtain ⟨rfl, rfl, rfl⟩ := e
  rcases open_slice Try.underlying25 hf with ⟨hcs, _⟩ | ⟨a', len', cap', m, n', D, Pl, hcs, hb, hl, hm, hmm, hx, hix⟩
  · simp [Value.cells] at hcs
  · simp only [Value.cells, List.cons.injEq, Value.slice.injEq, Option.some.injEq, and_true] at hcs
    obtain ⟨e0, e1, e2⟩ := hcs
    subst e0 e1 e2
    have hlm : len ≤ m := by rw [hmm]; split <;> omega
    obtain ⟨cs', hc', ht⟩ := hix i (by omega)
    rw [cells90] at hc'
    obtain ⟨_, hsz, hat⟩ := World.cells?_some hc'
    have a0 := hat 0 (by decide)
    rw [add_add, Nat.add_zero] at a0
    simp only [Go.WideShapes.add_plain] at a0
    refine run_cap ht (a := a) (c := c) ?_
    rw [hc] at a0
    exact a0.symm
end
end Go.Proofs.Ytfijaafkagcmmaa
