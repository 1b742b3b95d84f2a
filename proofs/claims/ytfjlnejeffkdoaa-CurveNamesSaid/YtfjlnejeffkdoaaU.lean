/- The choices at a meeting: a contract. -/
import Derived.Test.YtfjlnejeffkdoaaT
import Derived.Great.Walk
namespace Go.Proofs.Ytfjlnejeffkdoaa
open Go.RowKit Go.Shelf

theorem exec_buildSlice {P : Program} {a : Act} {o : Oper} {w : World} (t e : TypeId) (len : Nat) (parts : Array (Nat × Operand)) (ho : o.op = .buildSlice t len parts) (hu : P.underlying t = some (.slice e)) (cells : Array Value)
    (hf : P.builtSlice e len (parts.map fun (i, x) => (i, a.eval x)).toList = some cells) : (execOp a.eval o).run P w = .ok (.value (.slice (some ⟨w.heap.size, 0, none⟩) len len)) (w.alloc (.cells cells e)) := by
  unfold Program.builtSlice at hf
  cases hie : P.info? e with
  | none => simp [hie] at hf
  | some ie =>
    simp only [hie] at hf
    cases hz : ie.zero with
    | none => simp [hz] at hf
    | some z =>
      simp only [hz] at hf
      by_cases hc : len * ie.size > 2 ^ 24 ∨ len * ie.size = 0
      · simp [hc] at hf
      · rw [if_neg hc] at hf
        unfold execOp
        simp only [ho, Sem.run_bind, run_buildSlice w t e len _ cells ie z hu hie hz (fun h' => hc (Or.inl h')) (fun h' => hc (Or.inr h')) hf, Result.andThen_ok]
        rfl

theorem box2 (w : World) (A B : Obj) : ((w.alloc A).alloc B).heap[w.heap.size]? = some A ∧ ((w.alloc A).alloc B).heap[w.heap.size + 1]? = some B := by
  have h0 := heap_alloc_new w A
  have h1 := heap_alloc_new (w.alloc A) B
  simp only [World.size_alloc] at h1
  exact ⟨by rw [heap_alloc_low _ _ _ (by simp)]; exact h0, h1⟩

theorem intsIn_new (w : World) (l : List Int) : IntsIn (w.alloc (.cells (l.map (Value.int .i64)).toArray 3 (0, 0))) w.heap.size 0 l := fun i hi => by
  rw [Nat.zero_add, cell_of_row _ w.heap.size i _ _ _ (heap_alloc_new w _)]
  simp [ld, hi]

set_option maxRecDepth 100000 in
set_option maxHeartbeats 1000000 in
theorem meet_choices (b off cap : Nat) (ps : List Pt) (r : Rl) (fa fl : Int) (i : Nat) (w : World) (F : Sane ps r) (hi : i < ps.length) (hfa : fa = (i : Int) - 1) (hp : PtsIn w b off ps) :
    Calls Try.prog 96 #[.agg #[.slice (some ⟨b, off, none⟩) ps.length cap, .int .i64 r.d, .int .i64 r.k, .int .i64 r.o], .agg #[.int .i64 fa, .int .i64 fl]] w fun e w' =>
      ∃ B c, e = .returned (.slice (some ⟨B, 0, none⟩) [(pt ps i).lo, (pt ps i).hi, lineI ps r i].length c) ∧ IntsIn w' B 0 [(pt ps i).lo, (pt ps i).hi, lineI ps r i] ∧ w.heap.size ≤ B ∧ Below w.heap.size w w' := by
  have hlt : b < w.heap.size := block_lt_of_cell (hp 0 F.pos).1
  have hB := below2 w (.cells #[.slice (some ⟨b, off, none⟩) ps.length cap, .int .i64 r.d, .int .i64 r.k, .int .i64 r.o] 94 (0, 0)) (.cells #[.int .i64 fa, .int .i64 fl] 151 (0, 0))
  have p0 := (hB.cell (p := ⟨b, off + i * 3, none⟩) hlt).trans (hp i hi).1
  have p1 := (hB.cell (p := ⟨b, off + i * 3 + 1, none⟩) hlt).trans (hp i hi).2.1
  have p2 := (hB.cell (p := ⟨b, off + i * 3 + 2, none⟩) hlt).trans (hp i hi).2.2
  have hB3 := below3 w (.cells #[.slice (some ⟨b, off, none⟩) ps.length cap, .int .i64 r.d, .int .i64 r.k, .int .i64 r.o] 94 (0, 0)) (.cells #[.int .i64 fa, .int .i64 fl] 151 (0, 0)) (.cells #[.int .i64 (pt ps i).lo, .int .i64 (pt ps i).hi] 51 (0, 0))
  obtain ⟨b0, -, b2⟩ := box3 w (.cells #[.slice (some ⟨b, off, none⟩) ps.length cap, .int .i64 r.d, .int .i64 r.k, .int .i64 r.o] 94 (0, 0)) (.cells #[.int .i64 fa, .int .i64 fl] 151 (0, 0)) (.cells #[.int .i64 (pt ps i).lo, .int .i64 (pt ps i).hi] 51 (0, 0))
  have q0 := Lib.hid ((hB3.cell (p := ⟨b, off + i * 3, none⟩) hlt).trans (hp i hi).1)
  have HB3 := Lib.hid hB3
  have B0 := Lib.hid b0
  have B2 := Lib.hid b2
  clear hB3 b0 b2
  have e : lineI ps r i = (r.k * ((pt ps i).s - r.o)) := rfl
  have h2 := F.st i hi
  have hlen := F.len
  have hk := F.k
  have ho := F.o
  rw [e]; clear e F hp
  have hm := mul_le_of r.k ((pt ps i).s - r.o) 1000 1000 (by omega) (by omega) (by omega) (by omega) (by omega)
  have hiI : (i : Int) < ps.length := by omega
  subst hfa
  have hw1 : IntKind.i64.wrap ((i : Int) - 1 + 1) = (i : Int) := by rw [IntWalk.i64_in _ (by omega)]; omega
  generalize r.d = d at *
  generalize r.k = k at *
  generalize r.o = o at *
  generalize (pt ps i).s = s at *
  generalize (pt ps i).lo = lo at *
  generalize (pt ps i).hi = hi' at *
  generalize ps.length = n at *
  go_enter Try.func96, Try.ntmps96
  go_wp2_with fail
  clear hB p0 p1 p2 hw1
  generalize World.alloc (World.alloc (World.alloc w _) _) _ = W at *
  have hA : w.heap.size < W.heap.size := lt_of_block B0.out
  have hC : w.heap.size + 1 + 1 < W.heap.size := lt_of_block B2.out
  have hbW : b < W.heap.size := Nat.lt_trans hlt hA
  have HC : Hid (∀ w1, Below W.heap.size W w1 → w1.cell? ⟨w.heap.size, 0, none⟩ = some (.slice (some ⟨b, off, none⟩) n cap) ∧ w1.cell? ⟨w.heap.size, 1, none⟩ = some (.int .i64 d) ∧ w1.cell? ⟨w.heap.size, 2, none⟩ = some (.int .i64 k) ∧ w1.cell? ⟨w.heap.size, 3, none⟩ = some (.int .i64 o) ∧ w1.cell? ⟨w.heap.size + 1 + 1, 0, none⟩ = some (.int .i64 lo) ∧ w1.cell? ⟨w.heap.size + 1 + 1, 1, none⟩ = some (.int .i64 hi')) := Lib.hid fun w1 hS => by
    have x0 := (hS.block _ hA).trans B0.out
    have x2 := (hS.block _ hC).trans B2.out
    have y0 := cell_of_row w1 _ 0 _ _ _ x0
    have y1 := cell_of_row w1 _ 1 _ _ _ x0
    have y2 := cell_of_row w1 _ 2 _ _ _ x0
    have y3 := cell_of_row w1 _ 3 _ _ _ x0
    have z0 := cell_of_row w1 _ 0 _ _ _ x2
    have z1 := cell_of_row w1 _ 1 _ _ _ x2
    exact ⟨y0, y1, y2, y3, z0, z1⟩
  refine wp_region_noPanic ?_
  refine wp_region_chain (fun w' => Below W.heap.size W w') (fun w1 w2 h hb => grow_to h hb) (below_drawn _) (by kernel_rfl) (fun _ _ _ _ _ h => h)
    [(false, 0), (false, 1), (false, 2), (false, 3), (false, 4), (false, 5), (true, 6)] [7, 8] (by kernel_rfl) ?_
  iterate 6
    (refine Walk.takes rfl rfl ?_; apply Exists.intro; refine ⟨fun w1 hS => ?_, ?_⟩; (obtain ⟨d0, d1, d2, d3, e0, e1⟩ := HC.out w1 hS; go_simp; with_reducible rfl); simp only [List.getElem_toArray, List.getElem_cons_succ, List.getElem_cons_zero, Act.put, List.setIfInBounds_toArray, List.set_cons_zero, List.set_cons_succ])
  refine Walk.calls rfl rfl ?_; apply Exists.intro; apply Exists.intro; refine ⟨fun w1 hS => ?_, fun w1 hb => ?_⟩; (clear hS; go_simp; exact ⟨rfl, rfl⟩)
  refine (line_any b off n cap i d k o s w1 (by omega) (by omega) (by omega) ?_ (by omega) (by omega) (by omega) (by omega) (by omega) (by omega)).mono ?_
  · rw [Int.toNat_natCast]
    exact ((grow_to (below_drawn _) hb).cell (p := ⟨b, off + i * 3, none⟩) hbW).trans q0.out
  rintro e w2 ⟨rfl, hb2⟩
  refine ⟨_, rfl, hb2, ?_⟩
  simp only [List.getElem_toArray, List.getElem_cons_succ, List.getElem_cons_zero, Act.put, List.setIfInBounds_toArray, List.set_cons_zero, List.set_cons_succ]
  refine Walk.fin ?_
  rintro w4 _ hS4
  have hS5 : Below W.heap.size W (w4.alloc (.cells #[.int .i64 lo, .int .i64 hi', .int .i64 (k * (s - o))] 3 (0, 0))) := hS4.alloc hS4.size _
  refine Tail.grows rfl rfl (exec_buildSlice 27 3 3 _ rfl Try.underlying27 #[.int .i64 lo, .int .i64 hi', .int .i64 (k * (s - o))] (by kernel_rfl)) hS5 ?_
  simp only [List.getElem_toArray, List.getElem_cons_succ, List.getElem_cons_zero, Act.put, List.setIfInBounds_toArray, List.set_cons_zero, List.set_cons_succ]
  refine Tail.value rfl rfl rfl (Tail.done (NoPanic.normal ?_))
  simp only [List.getElem_toArray, List.getElem_cons_succ, List.getElem_cons_zero, Act.put, List.setIfInBounds_toArray, List.set_cons_zero, List.set_cons_succ]
  have hI := Lib.hid (intsIn_new w4 [lo, hi', k * (s - o)])
  have hS6 := Lib.hid hS5
  have hz := Lib.hid (Nat.le_trans (Nat.le_of_lt hA) hS4.size)
  clear hS5 hS4
  go_wp2
  go_ret
  exact ⟨_, ⟨_, rfl⟩, hI.out, hz.out, HB3.out.trans (hS6.out.mono (Nat.le_of_lt hA))⟩
end Go.Proofs.Ytfjlnejeffkdoaa
