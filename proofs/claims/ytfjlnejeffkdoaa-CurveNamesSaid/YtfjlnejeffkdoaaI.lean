/- What the pull of a truth calls, in every later world: contracts. -/
import Derived.Test.YtfjlnejeffkdoaaH
import Derived.Test.YtfjlnejeffkdoaaBA
namespace Go.Proofs.Ytfjlnejeffkdoaa
open Go.RowKit

theorem u97 : Try.prog.underlying 97 = some (.array 20 3) := Try.underlying97
theorem s97 : (Try.prog.info? 97).map (·.size) = some 20 := by kernel_rfl
theorem s124 : (Try.prog.info? 124).map (·.size) = some 24 := by kernel_rfl

/-- A row in a block. -/
theorem range_box (w : World) (l : List Value) (t : TypeId) : (w.alloc (.cells l.toArray t)).rangeAt w.heap.size 0 l := fun j v hv => by
  rw [Nat.zero_add, box_cell]; simpa using hv
theorem World.rangeAt_below {n : Nat} {w w' : World} {b o : Nat} {cs : List Value} (h : w.rangeAt b o cs) (hb : Below n w w') (hlt : b < n) : w'.rangeAt b o cs := fun j v hv =>
  (hb.cell (p := ⟨b, o + j, none⟩) hlt).trans (h j v hv)
def pullL (v : Value) (r : Rl) (t : List Int) : List Value := [v, iV r.d, iV r.k, iV r.o] ++ t.map iV
theorem pullL_arr (v : Value) (r : Rl) (t : List Int) : (pullL v r t).toArray = pullV v r t := by simp [pullL, pullV, arrV]

/-- A list of twenty, taken apart. -/
theorem twenty (t : List Int) (h : t.length = 20) : ∃ a b c d e f g i j k l m n o p q r s u v, t = [a, b, c, d, e, f, g, i, j, k, l, m, n, o, p, q, r, s, u, v] := by
  match t, h with
  | [a, b, c, d, e, f, g, i, j, k, l, m, n, o, p, q, r, s, u, v], _ => exact ⟨a, b, c, d, e, f, g, i, j, k, l, m, n, o, p, q, r, s, u, v, rfl⟩

set_option maxRecDepth 100000 in
set_option maxHeartbeats 1000000 in
theorem build_pull (b off n cap : Nat) (d k o : Int) (t : List Int) (h : t.length = 20) (w : World) :
    (Instr.build 124 #[(0, .agg #[.slice (some ⟨b, off, none⟩) n cap, .int .i64 d, .int .i64 k, .int .i64 o]), (1, .agg (arrV t))]).run Try.prog w = .ok (.agg (pullV (.slice (some ⟨b, off, none⟩) n cap) ⟨d, k, o⟩ t)) w := by
  obtain ⟨a, b, c, d, e, f, g, i, j, k, l, m, n, o, p, q, r, s, u, v, rfl⟩ := twenty t h
  kernel_rfl

theorem wpList_build_run {P : Program} {ops : Array Oper} {rest : List Oper} {o : Oper} {a : Act} {w : World} {Q : Exit → Act → World → Prop} (hgd : o.guard = none) (ty : TypeId) (parts : Array (Nat × Operand)) (ho : o.op = .build ty parts)
    (vs : Array (Nat × Value)) (hv : parts.map (fun x => (x.1, a.eval x.2)) = vs) (v : Value) (hrun : (Instr.build ty vs).run P w = .ok v w)
    (h : wpList P ops Q rest (a.put o.dst v) w) : wpList P ops Q (o :: rest) a w :=
  wpList_plain hgd fun _ hK => by
    unfold Oper.wp execOp
    simp only [ho, hv, Sem.run_bind, hrun, Result.andThen_ok, Sem.run_pure]
    exact hK _ _ h
theorem wpList_alloc_run {P : Program} {ops : Array Oper} {rest : List Oper} {o : Oper} {a : Act} {w : World} {Q : Exit → Act → World → Prop} (hgd : o.guard = none) (ty : TypeId) (ho : o.op = .alloc ty)
    (v : Value) (w' : World) (hrun : (Instr.alloc ty true (.tuple #[])).run P w = .ok v w')
    (h : wpList P ops Q rest (a.put o.dst v) w') : wpList P ops Q (o :: rest) a w :=
  wpList_plain hgd fun _ hK => by
    unfold Oper.wp execOp
    simp only [ho, Sem.run_bind, hrun, Result.andThen_ok, Sem.run_pure]
    exact hK _ _ h
def zero124 : Array Value := (Value.slice none 0 0 :: List.replicate 23 (iV 0)).toArray
theorem alloc124 (w : World) : (Instr.alloc 124 true (.tuple #[])).run Try.prog w = .ok (.pointer (some ⟨w.heap.size, 0, none⟩)) (w.alloc (.cells zero124 124)) := by kernel_rfl
theorem alloc124_at (W : World) (B : Nat) (h : W.heap.size = B) : (Instr.alloc 124 true (.tuple #[])).run Try.prog W = .ok (.pointer (some ⟨B, 0, none⟩)) (W.alloc (.cells zero124 124)) := by
  subst h; exact alloc124 W
theorem zero124_size : zero124.size = 24 := by rfl
theorem range_two (w : World) (A C : Obj) (t : List Int) : (((w.alloc A).alloc (.cells (arrV t) 97)).alloc C).rangeAt (w.heap.size + 1) 0 (t.map iV) := by
  have h := range_box (w.alloc A) (t.map iV) 97
  rw [World.size_alloc] at h
  exact World.rangeAt_alloc h C
theorem there_box (w : World) (cs : Array Value) (t : TypeId) (n : Nat) (hn : n ≤ cs.size) : (w.alloc (.cells cs t)).there w.heap.size 0 n := fun j hj => by
  rw [Nat.zero_add]
  exact ⟨by rw [box_cell]; simp; omega, frozen_of_row _ _ j cs t (heap_alloc_new w _)⟩
theorem there_at {W : World} {B : Nat} (hW : W.heap.size = B) (cs : Array Value) (t : TypeId) (n : Nat) (hn : n ≤ cs.size) : (W.alloc (.cells cs t)).there B 0 n := by
  subst hW; exact there_box _ _ _ _ hn
theorem pullV_one (v : Value) (r : Rl) (t : List Int) (hv : v.oneCell' = true) : (pullV v r t).all (·.oneCell') = true := by
  rw [← pullL_arr]
  refine all_oneCell_toArray fun x hx => ?_
  simp only [pullL, List.mem_append, List.mem_cons, List.mem_map, List.not_mem_nil, or_false] at hx
  rcases hx with (rfl | rfl | rfl | rfl) | ⟨a, _, rfl⟩ <;> first | exact hv | rfl
theorem pullV_size (v : Value) (r : Rl) (t : List Int) (h : t.length = 20) : (pullV v r t).size = 24 := by simp [pullV, arrV_size, h]

theorem arrV_mk (t : List Int) : (List.map iV t).toArray = arrV t := rfl
theorem pullV_list (v : Value) (r : Rl) (t : List Int) : (pullV v r t).toList = pullL v r t := by simp [pullL, pullV, arrV]
theorem below_cells {B b : Nat} {a : World} (hb : B ≤ b) : ∀ (vs : List Value) (o : Nat) (w : World), Below B a w → Below B a (w.setCells b o vs)
  | [], _, _, h => h
  | v :: r, o, w, h => below_cells hb r (o + 1) _ (h.setCell (p := ⟨b, o, none⟩) hb v)
theorem size_cells (b : Nat) : ∀ (vs : List Value) (o : Nat) (w : World), (w.setCells b o vs).heap.size = w.heap.size
  | [], _, _ => rfl
  | v :: r, o, w => (size_cells b r (o + 1) _).trans (by simp [World.setCell])
theorem heap_cells (b : Nat) : ∀ (vs : List Value) (o : Nat) (w : World) (k : Nat), k ≠ b → (w.setCells b o vs).heap[k]? = w.heap[k]?
  | [], _, _, _, _ => rfl
  | v :: r, o, w, k, h => (heap_cells b r (o + 1) _ k h).trans (heap_setCell_other w ⟨b, o, none⟩ k v h)
theorem heap_alloc_low (w : World) (o : Obj) (i : Nat) (h : i < w.heap.size) : (w.alloc o).heap[i]? = w.heap[i]? := Below.heap_alloc w o i h
def zero37 : Array Value := #[.int .i64 0, .int .i64 0, .int .i64 0, .int .i64 0, .int .i64 0, .int .i64 0, .int .i64 0]
/-- The world in which the pull has been laid. -/
structure One (w W1 : World) (v : Value) (r : Rl) (t : List Int) : Prop where
  below : Below w.heap.size w W1
  size : W1.heap.size = w.heap.size + 4
  c0 : W1.cell? ⟨w.heap.size, 0, none⟩ = some v
  tr : W1.rangeAt (w.heap.size + 1) 0 (t.map iV)
  rs : W1.heap[w.heap.size + 1 + 1]? = some (.cells zero37 37 (0, 0))
  pu : W1.rangeAt (w.heap.size + 1 + 1 + 1) 0 (pullL v r t)
theorem one_of (w : World) (v x1 x2 x3 : Value) (r : Rl) (t : List Int) (ht : t.length = 20) :
    One w (((((w.alloc (.cells #[v, x1, x2, x3] 94)).alloc (.cells (arrV t) 97)).alloc (.cells zero37 37)).alloc (.cells zero124 124)).setCells (w.heap.size + 1 + 1 + 1) 0 (pullV v r t).toList) v r t := by
  have hth : ((((w.alloc (.cells #[v, x1, x2, x3] 94)).alloc (.cells (arrV t) 97)).alloc (.cells zero37 37)).alloc (.cells zero124 124)).there (w.heap.size + 1 + 1 + 1) 0 24 := there_at (by simp) _ _ _ (by rw [zero124_size]; decide)
  have hlen : (pullL v r t).length = 24 := by simp [pullL, ht]
  refine ⟨?_, ?_, ?_, ?_, ?_, ?_⟩
  · exact below_cells (by omega) _ _ _ (((((Below.refl _ w).alloc (Nat.le_refl _) _).alloc (by simp) _).alloc (by simp; omega) _).alloc (by simp; omega) _)
  · rw [size_cells]; simp
  · rw [World.cell?_of_block (heap_cells _ _ _ _ _ (by show w.heap.size ≠ _; omega))]; simp [go_sem]
  · have h := World.rangeAt_alloc (range_two w (.cells #[v, x1, x2, x3] 94) (.cells zero37 37) t) (.cells zero124 124)
    exact World.rangeAt_setCells_apart h _ _ _ (.inl (by omega))
  · rw [heap_cells _ _ _ _ _ (by omega), Go.Proofs.Ytfjlnejeffkdoaa.heap_alloc_low _ _ _ (by simp)]
    have := heap_alloc_new ((w.alloc (.cells #[v, x1, x2, x3] 94)).alloc (.cells (arrV t) 97)) (.cells zero37 37)
    simpa using this
  · rw [pullV_list]
    exact World.rangeAt_setCells_same _ _ _ _ (by rw [hlen]; exact hth)


attribute [local irreducible] pullV arrV zero124

theorem fst_congr {B B' : Nat → Bool} {n : Nat} (h : ∀ i, i < n → B i = B' i) : fst B n = fst B' n := by
  rcases fst_cases B n with ⟨e, hn⟩ | ⟨k, hk, e, hb, hn⟩
  · rw [e, fst_none (fun j hj => by rw [← h j hj]; exact hn j hj)]
  · rw [e, fst_hit hk (by rw [← h k hk]; exact hb) (fun j hj => by rw [← h j (by omega)]; exact hn j hj)]
theorem ld_take (t : List Int) (n i : Nat) (h : i < n) : ld (t.take n) i = ld t i := by simp [ld, h]

/-- What the calls of the third statement give, in every world that has grown out of W. -/
structure Calls3 (W : World) (B b off cap : Nat) (ps : List Pt) (r : Rl) (t : List Int) (P : Array Value) : Prop where
  g : ∀ w', Below W.heap.size W w' → Calls Try.prog 68 #[.slice (some ⟨B, 0, none⟩) ps.length 20] w' fun e w'' => e = .returned (.int .i64 (grt (t.take ps.length))) ∧ w'' = w'
  d : ∀ w', Below W.heap.size W w' → Calls Try.prog 69 #[.int .i64 ((ps.length : Int) - 1), .func (.func 70) #[.agg P] #[]] w' fun e w'' => e = .returned (.int .i64 (fst (dropB r.d t) (ps.length - 1))) ∧ Below w'.heap.size w' w''
  m : ∀ w', Below W.heap.size W w' → Calls Try.prog 69 #[.int .i64 ps.length, .func (.func 71) #[.agg P] #[]] w' fun e w'' => e = .returned (.int .i64 (fst (meetB ps r t) ps.length)) ∧ Below w'.heap.size w' w''
  i : ∀ w', Below W.heap.size W w' → Calls Try.prog 73 #[.slice (some ⟨B, 0, none⟩) ps.length 20, .int .i64 (grt (t.take ps.length))] w' fun e w'' => e = .returned (.int .i64 (fst (fun i => grt (t.take ps.length) == ld t i) ps.length)) ∧ w'' = w'
  p0 : fst (meetB ps r t) ps.length = 0 → ∀ w', Below W.heap.size W w' → Calls Try.prog 74 #[.agg P, .int .i64 0] w' fun e w'' => e = .returned (.int .i64 (plI ps r t 0)) ∧ Below w'.heap.size w' w''
  p1 : ∀ k : Nat, fst (meetB ps r t) ps.length = (k : Int) + 1 → ∀ w', Below W.heap.size W w' → Calls Try.prog 74 #[.agg P, .int .i64 ((k : Int) + 1)] w' fun e w'' => e = .returned (.int .i64 (plI ps r t (k + 1))) ∧ Below w'.heap.size w' w''
  k : ∀ w', Below W.heap.size W w' → Calls Try.prog 72 #[.agg P] w' fun e w'' => e = .returned (.int .i64 (wkTo ps t (ps.length - 1))) ∧ Below w'.heap.size w' w''

theorem calls3 (w W : World) (b off cap : Nat) (ps : List Pt) (r : Rl) (t : List Int) (F : Fine ps r t) (hp : PtsIn w b off ps) (hW : One w W (.slice (some ⟨b, off, none⟩) ps.length cap) r t) :
    Calls3 W (w.heap.size + 1) b off cap ps r t (pullV (.slice (some ⟨b, off, none⟩) ps.length cap) r t) := by
  have hlt : b < w.heap.size := block_lt_of_cell (hp 0 F.pos).1
  have hpW : PtsIn W b off ps := hp.below hW.below hlt
  have hltW : b < W.heap.size := Nat.lt_of_lt_of_le hlt hW.below.size
  have hlen := F.len
  have htl := F.tlen
  have hpos := F.pos
  have e : (t.take ps.length).length = ps.length := by simp; omega
  have hin : ∀ w', Below W.heap.size W w' → IntsIn w' (w.heap.size + 1) 0 (t.take ps.length) := fun w' h i hi => by
    rw [e] at hi
    have h1 := hW.tr i (iV (ld t i)) (by simp [ld, show i < t.length by omega])
    have h2 := (h.cell (p := ⟨w.heap.size + 1, 0 + i, none⟩) (by show w.heap.size + 1 < W.heap.size; rw [hW.size]; omega)).trans h1
    rw [h2]
    simp [ld, iV, hi, show i < t.length by omega]
  refine ⟨fun w' h => ?_, fun w' h => ?_, fun w' h => ?_, fun w' h => ?_, fun hz w' h => ?_, fun k hk w' h => ?_, fun w' h => ?_⟩
  · have hi := hin w' h
    have := greatest_any (w.heap.size + 1) 0 20 (t.take ps.length) w' (by omega) hi
    rw [e] at this
    exact this
  · have := first_drop (.slice (some ⟨b, off, none⟩) ps.length cap) r t (ps.length - 1) w' htl (by omega) F.ld
    rw [show ((ps.length - 1 : Nat) : Int) = (ps.length : Int) - 1 by omega] at this
    exact this
  · exact first_meet b off cap ps r t w' F (hpW.below h hltW)
  · have := index_any (w.heap.size + 1) 0 20 (grt (t.take ps.length)) (t.take ps.length) w' (by omega) (hin w' h)
    rw [e, fst_congr (B' := fun i => grt (t.take ps.length) == ld t i) (fun i hi => by rw [ld_take t _ i hi])] at this
    exact this
  · exact proof0 _ r t w' htl
  · rcases fst_cases (meetB ps r t) ps.length with ⟨e0, _⟩ | ⟨j, hj, e0, hb, hn⟩
    · omega
    · obtain rfl : j = k + 1 := by omega
      exact proof1 b off cap ps r t k w' F hj (hpW.below h hltW) (hn k (by omega)) hb
  · exact work_any b off cap ps r t w' F (hpW.below h hltW)


end Go.Proofs.Ytfjlnejeffkdoaa
