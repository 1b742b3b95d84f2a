/- Distances in memory: loads and stores of all of them, and of one. No condition. -/
import Derived.Test.YtplmlmmjfkbabaaGJ
import Derived.Laws.Rows
import Derived.Deep.MidRow
namespace Go.Proofs.Ytplmlmmjfkbabaa
open Go.RowKit Go.Shelf

def updD (d : Dm) (a b : Nat) (x : Int) : Dm := fun i j => if i = a ∧ j = b then x else d i j
theorem mat_set (d : Dm) {a b : Nat} (ha : a < 9) (hb : b < 9) (x : Int) : (mat d).setIfInBounds (a * 9 + b) (.int .i64 x) = mat (updD d a b x) := by
  refine Array.ext (by simp [mat]) fun i h1 h2 => ?_
  have hi : i < 81 := by simpa [mat] using h2
  simp only [mat, Array.getElem_setIfInBounds, List.getElem_toArray, List.getElem_map, List.getElem_range, updD, iV]
  by_cases h : a * 9 + b = i
  · subst h
    have e1 : (a * 9 + b) / 9 = a := by omega
    have e2 : (a * 9 + b) % 9 = b := by omega
    simp [e1, e2]
  · have : ¬ (i / 9 = a ∧ i % 9 = b) := by omega
    simp [h, this]

theorem s83 : (Try.prog.info? 83).map (·.size) = some 81 := by kernel_rfl
theorem u83 : Try.prog.underlying 83 = some (.array 9 81) := by kernel_rfl

/-- All but one block is as it was. -/
structure Put (g : Nat) (w w2 : World) : Prop where
  os : w2.os = w.os
  tape : w2.tape = w.tape
  output : w2.output = w.output
  size : w2.heap.size = w.heap.size
  other : ∀ k, k ≠ g → w2.heap[k]? = w.heap[k]?
theorem Put.below {g B : Nat} {A w w2 : World} (h : Put g w w2) (hb : Below B A w) (hg : B ≤ g) : Below B A w2 :=
  ⟨h.os.trans hb.os, h.tape.trans hb.tape, h.output.trans hb.output, by rw [h.size]; exact hb.size, fun k hk => (h.other k (by omega)).trans (hb.block k hk)⟩
theorem Put.but {g : Nat} {T : Nat → Prop} {A w w2 : World} (h : Put g w w2) (hb : But T A w) (hg : T g ∨ A.heap.size ≤ g) : But T A w2 :=
  ⟨h.os.trans hb.os, h.tape.trans hb.tape, h.output.trans hb.output, by rw [h.size]; exact hb.size, fun k hk hn => (h.other k (by rintro rfl; rcases hg with hg | hg; exact hn hg; omega)).trans (hb.block k hk hn)⟩
theorem put_cells (b off : Nat) (vs : List Value) (w : World) : Put b w (w.setCells b off vs) := by
  induction vs generalizing off w with
  | nil => exact ⟨rfl, rfl, rfl, rfl, fun _ _ => rfl⟩
  | cons v r ih =>
    have h := ih (off + 1) (w.setCell ⟨b, off, none⟩ v)
    exact ⟨h.os, h.tape, h.output, h.size.trans (by simp [World.setCell]), fun k hk => (h.other k hk).trans (heap_setCell_other w ⟨b, off, none⟩ k v hk)⟩
theorem put_cell (b off : Nat) (v : Value) (w : World) : Put b w (w.setCell ⟨b, off, none⟩ v) := put_cells b off [v] w

section
variable {ops : Array Oper} {rest : List Oper} {o : Oper} {a : Act} {Q : Exit → Act → World → Prop} {w : World}
theorem wpList_load_mat (hgd : o.guard = none) (x : Operand) (ho : o.op = .load 83 x) (g : Nat) (hx : a.eval x = .pointer (some ⟨g, 0, none⟩)) (t : TypeId) (d : Dm) (hg : w.heap[g]? = some (.cells (mat d) t (0, 0)))
    (h : wpList Try.prog ops Q rest (a.put o.dst (.agg (mat d))) w) : wpList Try.prog ops Q (o :: rest) a w :=
  wpList_load_row hgd 83 x ho g hx t (mat d) (0, 0) _ hg u83 rfl (by rw [mat_size]; exact s83) h
theorem wpList_store_mat (hgd : o.guard = none) (x y : Operand) (ho : o.op = .store 83 x y) (g : Nat) (hx : a.eval x = .pointer (some ⟨g, 0, none⟩)) (d : Dm) (hy : a.eval y = .agg (mat d)) (t : TypeId) (cur : Array Value) (hc : cur.size = 81)
    (hg : w.heap[g]? = some (.cells cur t (0, 0))) (h : ∀ w2, Put g w w2 → w2.heap[g]? = some (.cells (mat d) t (0, 0)) → wpList Try.prog ops Q rest (a.put o.dst undef) w2) : wpList Try.prog ops Q (o :: rest) a w := by
  refine wpList_store_mid hgd 83 x y ho g 0 (mat d) hx hy ?_ (by rw [mat_size]; exact s83) (mat_one d) (h _ (put_cells _ _ _ _) (set_whole g t w cur (mat d) (by rw [hc, mat_size]) hg))
  rw [mat_size]
  exact there_block hg (by rw [hc]; exact Nat.le_refl _)
end
section
variable {F : Fence} {n' : Nat} {ops : Array Oper} {rest : List Oper} {o : Oper} {a : Act} {Q : Exit → Act → World → Prop} {w : World}
theorem wpListIn_load_mat (hgd : o.guard = none) (x : Operand) (ho : o.op = .load 83 x) (g : Nat) (hx : a.eval x = .pointer (some ⟨g, 0, none⟩)) (t : TypeId) (d : Dm) (hg : w.heap[g]? = some (.cells (mat d) t (0, 0)))
    (h : wpListIn F n' Try.prog ops Q rest (a.put o.dst (.agg (mat d))) w) : wpListIn F n' Try.prog ops Q (o :: rest) a w :=
  wpListIn_load_row hgd 83 x ho g 0 hx (mat d).toList (.array 9 81) (range_block (t := t) (by simpa using hg)) u83 rfl (by rw [Array.length_toList, mat_size]; exact s83) (mat d) (by simp) h
theorem wpListIn_store_mat (hgd : o.guard = none) (x y : Operand) (ho : o.op = .store 83 x y) (g : Nat) (hx : a.eval x = .pointer (some ⟨g, 0, none⟩)) (d : Dm) (hy : a.eval y = .agg (mat d)) (t : TypeId) (cur : Array Value) (hc : cur.size = 81)
    (hg : w.heap[g]? = some (.cells cur t (0, 0))) (h : ∀ w2, Put g w w2 → w2.heap[g]? = some (.cells (mat d) t (0, 0)) → wpListIn F n' Try.prog ops Q rest (a.put o.dst undef) w2) : wpListIn F n' Try.prog ops Q (o :: rest) a w := by
  refine wpListIn_store_row hgd 83 x y ho g 0 (mat d) hx hy ?_ (by rw [mat_size]; exact s83) (mat_one d) (h _ (put_cells _ _ _ _) (set_whole g t w cur (mat d) (by rw [hc, mat_size]) hg))
  rw [mat_size]
  exact there_block hg (by rw [hc]; exact Nat.le_refl _)
end
theorem results_mat {fn : Func} {p : Tmp} (h : fn.results = #[.cell p 83]) (tmps : Array Value) (w : World) (g : Nat) (t : TypeId) (d : Dm) (hp : tmps.getD p undef = .pointer (some ⟨g, 0, none⟩)) (hg : w.heap[g]? = some (.cells (mat d) t (0, 0))) :
    (results fn tmps).run Try.prog w = .ok (.agg (mat d)) w := results_cell_row h tmps w g t (mat d) (0, 0) _ hp hg u83 rfl (by rw [mat_size]; exact s83)
theorem set_one (w : World) (g : Nat) (t : TypeId) (d : Dm) {i j : Nat} (hi : i < 9) (hj : j < 9) (x : Int) (hg : w.heap[g]? = some (.cells (mat d) t (0, 0))) :
    (w.setCell ⟨g, i * 9 + j, none⟩ (.int .i64 x)).heap[g]? = some (.cells (mat (updD d i j x)) t (0, 0)) := by
  rw [heap_setCell_same w g (i * 9 + j) _ t _ hg, mat_set d hi hj]
theorem exec_store_int {a : Act} {o : Oper} {W : World} (ty : TypeId) (x y : Operand) (ho : o.op = .store ty x y) {b off : Nat} {k : IntKind} {n : Int} {u : Value} (hx : a.eval x = .pointer (some ⟨b, off, none⟩)) (hy : a.eval y = .int k n)
    (hc : W.cell? ⟨b, off, none⟩ = some u) (hf : W.frozen? ⟨b, off, none⟩ = false) (hi : (Try.prog.info? ty).map (·.size) = some 1) :
    (execOp a.eval o).run Try.prog W = .ok .skip (W.setCell ⟨b, off, none⟩ (.int k n)) := by
  have hs := run_storeCells_cells (P := Try.prog) b off [.int k n] 0 W (fun j hj => by
    obtain rfl : j = 0 := by simp at hj; exact hj
    simpa using by rw [hc]; rfl) (fun j hj => by
    obtain rfl : j = 0 := by simp at hj; exact hj
    simpa using hf) (fun v hv => by
    simp at hv
    subst hv
    rfl)
  simp only [Nat.add_zero] at hs
  cases hq : Try.prog.info? ty with
  | none => simp [hq] at hi
  | some i =>
    have h1 : i.size = 1 := by simpa [hq] using hi
    unfold execOp
    simp [ho, hx, hy, Instr.storeAt, Instr.sureAddr, storeVar, sizeOf, typeInfo, hq, Value.cells, h1, hs, Result.andThen, World.setCells]
end Go.Proofs.Ytplmlmmjfkbabaa
