/- Shelves in memory: loads and stores of them. No condition. -/
import Derived.Test.YtplmlmmjfkbabaaN
import Derived.Laws.ResultCell
import Derived.Great.BuildSlice
namespace Go.Proofs.Ytplmlmmjfkbabaa
open Go.RowKit Go.Shelf

/-- A shelf: the album's pictures, its comparisons, its distances. -/
def shl (n : Int) (v : Value) (d : Dm) : Array Value := #[.int .i64 n, v] ++ mat d
def nul : Dm := fun _ _ => 0
set_option maxRecDepth 100000 in
theorem built85 (n : Int) (v : Value) (d : Dm) : Try.prog.built 85 [(0, .agg #[.int .i64 n, v]), (1, .agg (mat d))] = some (shl n v d) := by kernel_rfl
theorem built85_0 : Try.prog.built 85 [] = some (shl 0 (.slice none 0 0) nul) := by kernel_rfl
theorem zero85 : Try.zeroCells85 = shl 0 (.slice none 0 0) nul := by kernel_rfl
theorem s85 : (Try.prog.info? 85).map (·.size) = some 83 := by kernel_rfl
theorem shl_size (n : Int) (v : Value) (d : Dm) : (shl n v d).size = 83 := by simp [shl, mat_size]
theorem shl_list (n : Int) (v : Value) (d : Dm) : (shl n v d).toList = [.int .i64 n, v] ++ (mat d).toList := by simp [shl]
theorem shl_one (n : Int) {v : Value} (hv : v.oneCell' = true) (d : Dm) : (shl n v d).all (·.oneCell') = true := by
  have h := mat_one d
  rw [Array.all_eq_true_iff_forall_mem] at h ⊢
  intro x hx
  rw [shl, Array.mem_append] at hx
  rcases hx with hx | hx
  · simp at hx
    rcases hx with rfl | rfl
    · rfl
    · exact hv
  · exact h x hx
theorem shl_0 (n : Int) (v : Value) (d : Dm) : (shl n v d)[0]? = some (.int .i64 n) := by rw [shl, Array.getElem?_append_left (by simp)]; rfl
theorem shl_1 (n : Int) (v : Value) (d : Dm) : (shl n v d)[1]? = some v := by rw [shl, Array.getElem?_append_left (by simp)]; rfl
theorem shl_get (n : Int) (v : Value) (d : Dm) {a b : Nat} (ha : a < 9) (hb : b < 9) : (shl n v d)[2 + a * 9 + b]? = some (.int .i64 (d a b)) := by
  have := mat_get d ha hb
  rw [shl, Array.getElem?_append_right (by simp; omega)]
  simpa [show 2 + a * 9 + b - 2 = a * 9 + b by omega] using this
theorem range_from {w : World} {b : Nat} {pre l : List Value} {t : TypeId} (h : w.heap[b]? = some (.cells (pre ++ l).toArray t (0, 0))) : w.rangeAt b pre.length l := fun j v hv => by
  rw [cell_of_row w b _ _ _ _ h, List.getElem?_toArray, List.getElem?_append_right (by omega), Nat.add_sub_cancel_left]
  exact hv

section
variable {ops : Array Oper} {rest : List Oper} {o : Oper} {a : Act} {Q : Exit → Act → World → Prop} {w : World}
theorem wpList_load_sh (hgd : o.guard = none) (x : Operand) (ho : o.op = .load 85 x) (g : Nat) (hx : a.eval x = .pointer (some ⟨g, 0, none⟩)) (t : TypeId) (n : Int) (v : Value) (d : Dm) (hg : w.heap[g]? = some (.cells (shl n v d) t (0, 0)))
    (h : wpList Try.prog ops Q rest (a.put o.dst (.agg (shl n v d))) w) : wpList Try.prog ops Q (o :: rest) a w :=
  wpList_load_row hgd 85 x ho g hx t (shl n v d) (0, 0) _ hg Try.underlying85 rfl (by rw [shl_size]; exact s85) h
theorem wpList_store_sh (hgd : o.guard = none) (x y : Operand) (ho : o.op = .store 85 x y) (g : Nat) (hx : a.eval x = .pointer (some ⟨g, 0, none⟩)) (n : Int) (v : Value) (d : Dm) (hv : v.oneCell' = true) (hy : a.eval y = .agg (shl n v d)) (t : TypeId) (cur : Array Value) (hc : cur.size = 83)
    (hg : w.heap[g]? = some (.cells cur t (0, 0))) (h : ∀ w2, Put g w w2 → w2.heap[g]? = some (.cells (shl n v d) t (0, 0)) → wpList Try.prog ops Q rest (a.put o.dst undef) w2) : wpList Try.prog ops Q (o :: rest) a w := by
  refine wpList_store_mid hgd 85 x y ho g 0 (shl n v d) hx hy ?_ (by rw [shl_size]; exact s85) (shl_one n hv d) (h _ (put_cells _ _ _ _) (set_whole g t w cur (shl n v d) (by rw [hc, shl_size]) hg))
  rw [shl_size]
  exact there_block hg (by rw [hc]; exact Nat.le_refl _)
/-- The distances alone. -/
theorem wpList_load_shd (hgd : o.guard = none) (x : Operand) (ho : o.op = .load 83 x) (g : Nat) (hx : a.eval x = .pointer (some ⟨g, 2, none⟩)) (t : TypeId) (n : Int) (v : Value) (d : Dm) (hg : w.heap[g]? = some (.cells (shl n v d) t (0, 0)))
    (h : wpList Try.prog ops Q rest (a.put o.dst (.agg (mat d))) w) : wpList Try.prog ops Q (o :: rest) a w :=
  wpList_load_mid hgd 83 x ho g 2 hx (mat d).toList _ (range_from (pre := [Value.int .i64 n, v]) (t := t) (by rw [← shl_list, Array.toArray_toList]; exact hg)) u83 rfl (by rw [Array.length_toList, mat_size]; exact s83) (by rw [Array.toArray_toList]; exact h)
theorem wpList_store_shd (hgd : o.guard = none) (x y : Operand) (ho : o.op = .store 83 x y) (g : Nat) (hx : a.eval x = .pointer (some ⟨g, 2, none⟩)) (n : Int) (v : Value) (d e : Dm) (hy : a.eval y = .agg (mat e)) (t : TypeId)
    (hg : w.heap[g]? = some (.cells (shl n v d) t (0, 0))) (h : ∀ w2, Put g w w2 → w2.heap[g]? = some (.cells (shl n v e) t (0, 0)) → wpList Try.prog ops Q rest (a.put o.dst undef) w2) : wpList Try.prog ops Q (o :: rest) a w := by
  have hg' : w.heap[g]? = some (.cells ([Value.int .i64 n, v] ++ (mat d).toList ++ []).toArray t (0, 0)) := by rw [List.append_nil, ← shl_list, Array.toArray_toList]; exact hg
  have hs := set_list g t (mat e).toList [Value.int .i64 n, v] (mat d).toList [] w (by rw [Array.length_toList, Array.length_toList, mat_size, mat_size]) hg'
  rw [List.append_nil, ← shl_list, Array.toArray_toList] at hs
  refine wpList_store_mid hgd 83 x y ho g 2 (mat e) hx hy ?_ (by rw [mat_size]; exact s83) (mat_one e) (h _ (put_cells _ _ _ _) hs)
  rw [mat_size]
  intro j hj
  exact ⟨by rw [cell_of_row w g _ _ _ _ hg]; simp [shl_size]; omega, frozen_of_row w g _ _ _ hg⟩
end
theorem results_sh {fn : Func} {p u : Tmp} (h : fn.results = #[.cell p 85, .tmp u]) (tmps : Array Value) (w : World) (g : Nat) (t : TypeId) (n : Int) (v : Value) (d : Dm) (hp : tmps.getD p undef = .pointer (some ⟨g, 0, none⟩)) (hg : w.heap[g]? = some (.cells (shl n v d) t (0, 0))) (r : Value) (hu : tmps.getD u undef = r) :
    (results fn tmps).run Try.prog w = .ok (.tuple #[.agg (shl n v d), r]) w := by
  rw [results_cell_tmp h, hp, hu]
  simp [asAddr, run_loadVar_row w g t 85 (shl n v d) (0, 0) _ hg Try.underlying85 rfl (by rw [shl_size]; exact s85)]
theorem exec_build85 {a : Act} {o : Oper} {w : World} (x y : Operand) (ho : o.op = .build 85 #[(0, x), (1, y)]) (n : Int) (v : Value) (d : Dm) (hx : a.eval x = .agg #[.int .i64 n, v]) (hy : a.eval y = .agg (mat d)) :
    (execOp a.eval o).run Try.prog w = .ok (.value (.agg (shl n v d))) w := by
  unfold execOp
  simp only [ho, Sem.run_bind]
  rw [run_build w 85 _ (shl n v d) (by simp [hx, hy]; exact built85 n v d)]
  rfl
theorem exec_store_sh {a : Act} {o : Oper} {w : World} (x y : Operand) (ho : o.op = .store 85 x y) (g : Nat) (hx : a.eval x = .pointer (some ⟨g, 0, none⟩)) (n : Int) (v : Value) (d : Dm) (hv : v.oneCell' = true) (hy : a.eval y = .agg (shl n v d)) (t : TypeId) (cur : Array Value) (hc : cur.size = 83)
    (hg : w.heap[g]? = some (.cells cur t (0, 0))) : ∃ w2, (execOp a.eval o).run Try.prog w = .ok .skip w2 ∧ Put g w w2 ∧ w2.heap[g]? = some (.cells (shl n v d) t (0, 0)) :=
  ⟨_, exec_store_row 85 x y ho g 0 (shl n v d) hx hy (by rw [shl_size]; exact there_block hg (by rw [hc]; exact Nat.le_refl _)) (by rw [shl_size]; exact s85) (shl_one n hv d), put_cells _ _ _ _, set_whole g t w cur (shl n v d) (by rw [hc, shl_size]) hg⟩
theorem Tail.put_sh {ops : Array Oper} {S : World → Prop} {Q : Exit → Act → World → Prop} {τ : List Nat} {i : Nat} {o : Oper} {a : Act} {w : World} (hoi : ops[i]? = some o) (hw : Region.wanted o (yielded ops a.tmps) = true) (x y : Operand) (ho : o.op = .store 85 x y) (g : Nat) (hx : a.eval x = .pointer (some ⟨g, 0, none⟩)) (n : Int) (v : Value) (d : Dm) (hv : v.oneCell' = true) (hy : a.eval y = .agg (shl n v d)) (t : TypeId) (cur : Array Value) (hc : cur.size = 83)
    (hg : w.heap[g]? = some (.cells cur t (0, 0))) (h : ∀ w2, Put g w w2 → w2.heap[g]? = some (.cells (shl n v d) t (0, 0)) → S w2 ∧ Tail Try.prog ops S Q τ (a.put o.dst undef) w2) : Tail Try.prog ops S Q (i :: τ) a w := by
  obtain ⟨w2, hr, hp, hx2⟩ := exec_store_sh x y ho g hx n v d hv hy t cur hc hg
  exact Tail.skip hoi hw hr (h w2 hp hx2).1 (h w2 hp hx2).2
end Go.Proofs.Ytplmlmmjfkbabaa
