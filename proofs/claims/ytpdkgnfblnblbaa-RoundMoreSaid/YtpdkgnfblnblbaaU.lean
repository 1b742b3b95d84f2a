/- Small facts about blocks, rows and cells. No condition. -/
import Derived.Test.YtpdkgnfblnblbaaK
import Derived.Test.YtpdkgnfblnblbaaR
import Derived.Laws.Rows
import Derived.Great.BuildSlice
import Derived.Shelf.Abstract
import Derived.Shelf.RegionOpen
import Derived.OwnWalkIn
import Derived.TacticsInMore
import Derived.LoopNIn
import Derived.LoopIn
import Derived.WalkMore
namespace Go.Proofs.Ytpdkgnfblnblbaa
open Go.RowKit Go.Shelf

theorem heap_alloc_low (w : World) (o : Obj) (i : Nat) (h : i < w.heap.size) : (w.alloc o).heap[i]? = w.heap[i]? := Below.heap_alloc w o i h
theorem box_cell (w : World) (cs : Array Value) (t : TypeId) (j : Nat) : (w.alloc (.cells cs t)).cell? ⟨w.heap.size, j, none⟩ = cs[j]? := by
  rw [cell_of_row _ w.heap.size j _ _ _ (heap_alloc_new w _)]
theorem below_cells {B b : Nat} {a : World} (hb : B ≤ b) : ∀ (vs : List Value) (o : Nat) (w : World), Below B a w → Below B a (w.setCells b o vs)
  | [], _, _, h => h
  | v :: r, o, w, h => below_cells hb r (o + 1) _ (h.setCell (p := ⟨b, o, none⟩) hb v)
theorem size_cells (b : Nat) : ∀ (vs : List Value) (o : Nat) (w : World), (w.setCells b o vs).heap.size = w.heap.size
  | [], _, _ => rfl
  | v :: r, o, w => (size_cells b r (o + 1) _).trans (by simp [World.setCell])
theorem heap_cells (b : Nat) : ∀ (vs : List Value) (o : Nat) (w : World) (k : Nat), k ≠ b → (w.setCells b o vs).heap[k]? = w.heap[k]?
  | [], _, _, _, _ => rfl
  | v :: r, o, w, k, h => (heap_cells b r (o + 1) _ k h).trans (heap_setCell_other w ⟨b, o, none⟩ k v h)
theorem below_drawn (w : World) : Below w.heap.size w { w with drawn := w.drawn + 1 } := ⟨rfl, rfl, rfl, Nat.le_refl _, fun _ _ => rfl⟩
theorem range_block {w : World} {b : Nat} {l : List Value} {t : TypeId} (h : w.heap[b]? = some (.cells l.toArray t (0, 0))) : w.rangeAt b 0 l := fun j v hv => by
  rw [Nat.zero_add, cell_of_row w b j _ _ _ h]; simpa using hv
theorem arr_list (t : List Int) : (arrV t).toList = t.map iV := by simp [arrV]
theorem arr_list' (t : List Int) : (t.map iV).toArray = arrV t := by simp [arrV]
theorem arrV_size (t : List Int) : (arrV t).size = t.length := by simp [arrV]
theorem arrV_get (t : List Int) (i : Nat) (h : i < t.length) : (arrV t)[i]? = some (.int .i64 (ld t i)) := by simp [arrV, ld, h, iV]
theorem arrV_one (t : List Int) : (arrV t).all (·.oneCell') = true := by
  rw [← arr_list' t, List.all_toArray, List.all_eq_true]
  intro v hv
  obtain ⟨a, _, rfl⟩ := List.mem_map.1 hv
  rfl
theorem set_list (b : Nat) (t : TypeId) : ∀ (vs pre mid post : List Value) (w : World), mid.length = vs.length → w.heap[b]? = some (.cells (pre ++ mid ++ post).toArray t (0, 0)) →
    (w.setCells b pre.length vs).heap[b]? = some (.cells (pre ++ vs ++ post).toArray t (0, 0))
  | [], pre, mid, post, w, hm, h => by
    obtain rfl : mid = [] := List.eq_nil_of_length_eq_zero hm
    simpa [World.setCells] using h
  | v :: r, pre, [], post, w, hm, h => by simp at hm
  | v :: r, pre, m :: ms, post, w, hm, h => by
    have h1 := heap_setCell_same w b pre.length _ t v h
    have e : (pre ++ m :: ms ++ post).toArray.setIfInBounds pre.length v = ((pre ++ [v]) ++ ms ++ post).toArray := by
      simp
    rw [e] at h1
    have := set_list b t r (pre ++ [v]) ms post (w.setCell ⟨b, pre.length, none⟩ v) (by simpa using hm) h1
    simpa [World.setCells] using this
theorem set_whole (b : Nat) (t : TypeId) (w : World) (cur vs : Array Value) (hm : cur.size = vs.size) (h : w.heap[b]? = some (.cells cur t (0, 0))) :
    (w.setCells b 0 vs.toList).heap[b]? = some (.cells vs t (0, 0)) := by
  have := set_list b t vs.toList [] cur.toList [] w (by simpa using hm) (by simpa using h)
  simpa using this
theorem there_block {w : World} {b n : Nat} {cs : Array Value} {t : TypeId} (h : w.heap[b]? = some (.cells cs t (0, 0))) (hn : n ≤ cs.size) : w.there b 0 n := fun j hj => by
  rw [Nat.zero_add]
  exact ⟨by rw [cell_of_row w b j _ _ _ h]; simp; omega, frozen_of_row w b j _ _ h⟩

theorem box3 (w : World) (A B C : Obj) : (((w.alloc A).alloc B).alloc C).heap[w.heap.size]? = some A ∧ (((w.alloc A).alloc B).alloc C).heap[w.heap.size + 1]? = some B ∧ (((w.alloc A).alloc B).alloc C).heap[w.heap.size + 1 + 1]? = some C := by
  have h0 := heap_alloc_new w A
  have h1 := heap_alloc_new (w.alloc A) B
  have h2 := heap_alloc_new ((w.alloc A).alloc B) C
  simp only [World.size_alloc] at h1 h2
  refine ⟨?_, ?_, h2⟩
  · rw [heap_alloc_low _ _ _ (by simp; omega), heap_alloc_low _ _ _ (by simp)]; exact h0
  · rw [heap_alloc_low _ _ _ (by simp)]; exact h1
theorem exec_buildSlice {P : Program} {a : Act} {o : Oper} {w : World} (t e : TypeId) (len : Nat) (parts : Array (Nat × Operand)) (ho : o.op = .buildSlice t len parts) (hu : P.underlying t = some (.slice e)) (cells : Array Value)
    (hf : ((P.info? e).bind fun ie => ie.zero.bind fun z => if len * ie.size > 2 ^ 24 ∨ len * ie.size = 0 then none else Instr.fill (fun i => some (i * ie.size, ie.size)) ((Array.range (len * ie.size)).map (z.cells[· % z.cells.size]!)) (parts.map fun (i, x) => (i, a.eval x)).toList) = some cells) : (execOp a.eval o).run P w = .ok (.value (.slice (some ⟨w.heap.size, 0, none⟩) len len)) (w.alloc (.cells cells e)) := by
  cases hie : P.info? e with
  | none => simp [hie] at hf
  | some ie =>
    simp only [hie, Option.bind_some] at hf
    cases hz : ie.zero with
    | none => simp [hz] at hf
    | some z =>
      simp only [hz, Option.bind_some] at hf
      by_cases hc : len * ie.size > 2 ^ 24 ∨ len * ie.size = 0
      · simp [hc] at hf
      · rw [if_neg hc] at hf
        unfold execOp
        simp only [ho, Sem.run_bind, run_buildSlice w t e len _ cells ie z hu hie hz (fun h' => hc (Or.inl h')) (fun h' => hc (Or.inr h')) hf, Result.andThen_ok]
        rfl

theorem box2 (w : World) (A B : Obj) : ((w.alloc A).alloc B).heap[w.heap.size]? = some A ∧ ((w.alloc A).alloc B).heap[w.heap.size + 1]? = some B := by
  have h0 := heap_alloc_new w A
  have h1 := heap_alloc_new (w.alloc A) B
  simp only [World.size_alloc] at h1
  exact ⟨by rw [heap_alloc_low _ _ _ (by simp)]; exact h0, h1⟩

theorem wpListIn_store_row {F : Fence} {n' : Nat} {P : Program} {ops : Array Oper} {rest : List Oper} {o : Oper} {a : Act} {Q : Exit → Act → World → Prop} {w : World} (hgd : o.guard = none) (ty : TypeId) (x y : Operand) (ho : o.op = .store ty x y)
    (b off : Nat) (cells : Array Value) (hx : a.eval x = .pointer (some ⟨b, off, none⟩)) (hy : a.eval y = .agg cells) (ht : w.there b off cells.size) (hi : (P.info? ty).map (·.size) = some cells.size) (h1 : cells.all (·.oneCell') = true)
    (h : wpListIn F n' P ops Q rest (a.put o.dst undef) (w.setCells b off cells.toList)) : wpListIn F n' P ops Q (o :: rest) a w := by
  refine wpListIn_plain hgd fun K hK => ?_
  have hr := exec_store_row (P := P) ty x y ho b off cells hx hy ht hi h1
  unfold Oper.wpIn
  refine ⟨by simp [Oper.about, ho], ?_⟩
  rw [Oper.semAt_plain F _ _ (by rw [ho]; intro c hc'; cases hc'), hr]
  exact hK _ _ h
theorem wpListIn_load_row {F : Fence} {n' : Nat} {P : Program} {ops : Array Oper} {rest : List Oper} {o : Oper} {a : Act} {Q : Exit → Act → World → Prop} {w : World} (hgd : o.guard = none) (ty : TypeId) (x : Operand) (ho : o.op = .load ty x)
    (b off : Nat) (hx : a.eval x = .pointer (some ⟨b, off, none⟩)) (cs : List Value) (d : TypeDesc) (hc : w.rangeAt b off cs) (hu : P.underlying ty = some d) (hd : d.isRow = true) (hi : (P.info? ty).map (·.size) = some cs.length) (A : Array Value) (hA : cs.toArray = A)
    (h : wpListIn F n' P ops Q rest (a.put o.dst (.agg A)) w) : wpListIn F n' P ops Q (o :: rest) a w := by
  refine wpListIn_plain hgd fun K hK => ?_
  have hr := exec_load_row (P := P) ty x ho b off hx cs d hc hu hd hi A hA
  unfold Oper.wpIn
  refine ⟨by simp [Oper.about, ho], ?_⟩
  rw [Oper.semAt_plain F _ _ (by rw [ho]; intro c hc'; cases hc'), hr]
  exact hK _ _ h

theorem wpListIn_store_gen {F : Fence} {n' : Nat} {P : Program} {ops : Array Oper} {rest : List Oper} {o : Oper} {a : Act} {Q : Exit → Act → World → Prop} {w : World} (hgd : o.guard = none) (ty : TypeId) (x y : Operand) (ho : o.op = .store ty x y)
    (b off : Nat) (cells : Array Value) (hx : a.eval x = .pointer (some ⟨b, off, none⟩)) (hy : a.eval y = .agg cells) (ht : w.there b off cells.size) (hi : (P.info? ty).map (·.size) = some cells.size) (h1 : cells.all (·.oneCell') = true)
    (h : ∀ w2, w2 = w.setCells b off cells.toList → wpListIn F n' P ops Q rest (a.put o.dst undef) w2) : wpListIn F n' P ops Q (o :: rest) a w :=
  wpListIn_store_row hgd ty x y ho b off cells hx hy ht hi h1 (h _ rfl)

end Go.Proofs.Ytpdkgnfblnblbaa
