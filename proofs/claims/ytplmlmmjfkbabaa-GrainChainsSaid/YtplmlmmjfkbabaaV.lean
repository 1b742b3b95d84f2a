/- What a shelf tells of pictures: contracts. Conditions: the pictures are there, and nothing is great. -/
import Derived.Test.YtplmlmmjfkbabaaP
namespace Go.Proofs.Ytplmlmmjfkbabaa
open Go.RowKit Go.Shelf
attribute [local irreducible] arrV wpQuiet mat shl

theorem pl_nat (p : Nat) : pl (p : Int) = p + 1 := by unfold pl; omega
theorem pl_chart : pl (-1) = 0 := rfl
theorem u41 : ∃ fs, Try.prog.underlying 41 = some (.struct fs) := ⟨_, Try.underlying41⟩
theorem s41 : (Try.prog.info? 41).map (·.size) = some 2 := by kernel_rfl

set_option maxRecDepth 100000 in
set_option maxHeartbeats 4000000 in
theorem difference_any (n : Int) (v : Value) (d : Dm) (p q : Int) (w : World) (hp : -1 ≤ p ∧ p < 8) (hq : -1 ≤ q ∧ q < 8) (hd : Mid d) :
    Calls Try.prog 52 #[.agg (shl n v d), .int .i64 p, .int .i64 q] w fun e w' => e = .returned (.agg #[.int .i64 (-d (pl p) (pl q)), .int .i64 (d (pl q) (pl p))]) ∧ Below w.heap.size w w' := by
  have HX := Lib.hid (box2 w (.cells (shl n v d) 85) (.cells #[.int .i64 0, .int .i64 0] 41))
  have HB := Lib.hid (below2 w (.cells (shl n v d) 85) (.cells #[.int .i64 0, .int .i64 0] 41))
  have HPF := Lib.hid fun w => place_any p w (by omega)
  have HPT := Lib.hid fun w => place_any q w (by omega)
  have hpf : pl p < 9 := by unfold pl; omega
  have hpt : pl q < 9 := by unfold pl; omega
  have hd1 := hd _ _ hpf hpt
  have hG1 := Lib.hid (shl_get n v d hpf hpt)
  have hG2 := Lib.hid (shl_get n v d hpt hpf)
  clear hp hq hd
  generalize pl p = F at *
  generalize pl q = T at *
  have hFn : (F : Int) < 9 := by omega
  have hTn : (T : Int) < 9 := by omega
  generalize d T F = Y at *
  generalize d F T = X at *
  have hwx : IntKind.i64.wrap (-X) = -X := IntWalk.i64_in _ (by omega)
  go_enter Try.func52, Try.ntmps52
  go_wp2
  generalize World.alloc (World.alloc w _) _ = W at *
  have HC : Hid (∀ w', (But (fun k => k = w.heap.size + 1) W w' ∧ w'.heap[w.heap.size]? = W.heap[w.heap.size]?) → w'.cell? ⟨w.heap.size, 2 + F * 9 + T, none⟩ = some (.int .i64 X) ∧ w'.cell? ⟨w.heap.size, 2 + T * 9 + F, none⟩ = some (.int .i64 Y) ∧ w.heap.size < w'.heap.size) := Lib.hid fun w' h => by
    have z := h.2.trans HX.out.1
    exact ⟨(cell_of_row w' w.heap.size _ _ _ _ z).trans hG1.out, (cell_of_row w' w.heap.size _ _ _ _ z).trans hG2.out, lt_of_block z⟩
  clear hG1 hG2 hd1
  have hlt1 := lt_of_block HX.out.2
  refine wp_region_noPanic ?_
  refine wp_region_chain (fun w' => But (fun k => k = w.heap.size + 1) W w' ∧ w'.heap[w.heap.size]? = W.heap[w.heap.size]?) (fun w1 w2 h hb => ⟨h.1.trans (But.of_below hb), (hb.block _ (by have := h.1.size; omega)).trans h.2⟩) ⟨But.of_below (below_drawn _), rfl⟩ (by kernel_rfl) (fun _ _ _ _ _ h => h)
    [(false, 0), (false, 2), (false, 4), (false, 9), (false, 11), (false, 13), (true, 1), (false, 5), (true, 3), (false, 6), (false, 7), (false, 8), (true, 10), (false, 14), (true, 12), (false, 15), (false, 16), (false, 17)] [18] (by kernel_rfl) ?_
  have hacc := below_drawn W
  iterate 6
    (refine Walk.takes rfl rfl ?_; apply Exists.intro; refine ⟨fun w' hS => ?_, ?_⟩; (obtain ⟨z1, z2, z3⟩ := HC.out w' hS; clear hS; go_simp; with_reducible rfl); simp only [List.getElem_toArray, List.getElem_cons_succ, List.getElem_cons_zero, Act.put, List.setIfInBounds_toArray, List.set_cons_zero, List.set_cons_succ])
  refine Walk.calls rfl rfl ?_; apply Exists.intro; apply Exists.intro; refine ⟨fun w' hS => ?_, fun v1 hb => ?_⟩; (clear hS; go_simp; exact ⟨rfl, rfl⟩)
  refine (HPF.out v1).mono ?_
  rintro e v2 ⟨rfl, hb2⟩
  refine ⟨_, rfl, hb2, ?_⟩
  simp only [List.getElem_toArray, List.getElem_cons_succ, List.getElem_cons_zero, Act.put, List.setIfInBounds_toArray, List.set_cons_zero, List.set_cons_succ]
  replace hacc := below_to (below_to hacc hb) hb2
  clear hb hb2
  iterate 1
    (refine Walk.takes rfl rfl ?_; apply Exists.intro; refine ⟨fun w' hS => ?_, ?_⟩; (obtain ⟨z1, z2, z3⟩ := HC.out w' hS; clear hS; go_simp; with_reducible rfl); simp only [List.getElem_toArray, List.getElem_cons_succ, List.getElem_cons_zero, Act.put, List.setIfInBounds_toArray, List.set_cons_zero, List.set_cons_succ])
  refine Walk.calls rfl rfl ?_; apply Exists.intro; apply Exists.intro; refine ⟨fun w' hS => ?_, fun v1 hb => ?_⟩; (clear hS; go_simp; exact ⟨rfl, rfl⟩)
  refine (HPT.out v1).mono ?_
  rintro e v2 ⟨rfl, hb2⟩
  refine ⟨_, rfl, hb2, ?_⟩
  simp only [List.getElem_toArray, List.getElem_cons_succ, List.getElem_cons_zero, Act.put, List.setIfInBounds_toArray, List.set_cons_zero, List.set_cons_succ]
  replace hacc := below_to (below_to hacc hb) hb2
  clear hb hb2
  iterate 3
    (refine Walk.takes rfl rfl ?_; apply Exists.intro; refine ⟨fun w' hS => ?_, ?_⟩; (obtain ⟨z1, z2, z3⟩ := HC.out w' hS; clear hS; go_simp; with_reducible rfl); simp only [List.getElem_toArray, List.getElem_cons_succ, List.getElem_cons_zero, Act.put, List.setIfInBounds_toArray, List.set_cons_zero, List.set_cons_succ])
  refine Walk.calls rfl rfl ?_; apply Exists.intro; apply Exists.intro; refine ⟨fun w' hS => ?_, fun v1 hb => ?_⟩; (clear hS; go_simp; exact ⟨rfl, rfl⟩)
  refine (HPT.out v1).mono ?_
  rintro e v2 ⟨rfl, hb2⟩
  refine ⟨_, rfl, hb2, ?_⟩
  simp only [List.getElem_toArray, List.getElem_cons_succ, List.getElem_cons_zero, Act.put, List.setIfInBounds_toArray, List.set_cons_zero, List.set_cons_succ]
  replace hacc := below_to (below_to hacc hb) hb2
  clear hb hb2
  iterate 1
    (refine Walk.takes rfl rfl ?_; apply Exists.intro; refine ⟨fun w' hS => ?_, ?_⟩; (obtain ⟨z1, z2, z3⟩ := HC.out w' hS; clear hS; go_simp; with_reducible rfl); simp only [List.getElem_toArray, List.getElem_cons_succ, List.getElem_cons_zero, Act.put, List.setIfInBounds_toArray, List.set_cons_zero, List.set_cons_succ])
  refine Walk.calls rfl rfl ?_; apply Exists.intro; apply Exists.intro; refine ⟨fun w' hS => ?_, fun v1 hb => ?_⟩; (clear hS; go_simp; exact ⟨rfl, rfl⟩)
  refine (HPF.out v1).mono ?_
  rintro e v2 ⟨rfl, hb2⟩
  refine ⟨_, rfl, hb2, ?_⟩
  simp only [List.getElem_toArray, List.getElem_cons_succ, List.getElem_cons_zero, Act.put, List.setIfInBounds_toArray, List.set_cons_zero, List.set_cons_succ]
  replace hacc := below_to (below_to hacc hb) hb2
  clear hb hb2
  iterate 3
    (refine Walk.takes rfl rfl ?_; apply Exists.intro; refine ⟨fun w' hS => ?_, ?_⟩; (obtain ⟨z1, z2, z3⟩ := HC.out w' hS; clear hS; go_simp; with_reducible rfl); simp only [List.getElem_toArray, List.getElem_cons_succ, List.getElem_cons_zero, Act.put, List.setIfInBounds_toArray, List.set_cons_zero, List.set_cons_succ])
  refine Walk.fin fun v6 hb6 hS6 => ?_
  have hb7 := below_to hacc hb6
  have hx7 := (hb7.block _ hlt1).trans HX.out.2
  have hS8 : But (fun k => k = w.heap.size + 1) W (v6.setCells (w.heap.size + 1) 0 [.int .i64 (-X), .int .i64 Y]) := (put_cells _ _ _ _).but hS6.1 (.inl rfl)
  refine Tail.skip rfl rfl (exec_store_row 41 (.tmp 6) (.tmp 24) rfl (w.heap.size + 1) 0 #[.int .i64 (-X), .int .i64 Y] rfl rfl (there_block hx7 (Nat.le_refl _)) s41 (by simp [Value.oneCell'])) ⟨hS8, (heap_cells _ _ _ _ _ (by omega)).trans hS6.2⟩ (Tail.done (NoPanic.normal ?_))
  have q9 := set_whole (w.heap.size + 1) 41 v6 #[.int .i64 0, .int .i64 0] #[.int .i64 (-X), .int .i64 Y] rfl hx7
  have hb9 := (put_cells (w.heap.size + 1) 0 [Value.int .i64 (-X), .int .i64 Y] v6).below (below_to HB.out hb7) (by omega)
  have Q9 := Lib.hid q9
  have HB9 := Lib.hid hb9
  clear hb6 hS6 hb7 hx7 hS8 hacc q9 hb9
  simp only [Array.toList] at Q9 HB9 ⊢
  generalize World.setCells v6 _ _ _ = w9 at *
  go_wp2
  exact bodyPost_ret (results_cell_row rfl _ _ (w.heap.size + 1) 41 _ _ _ rfl Q9.out Try.underlying41 rfl s41) rfl ⟨rfl, HB9.out⟩
end Go.Proofs.Ytplmlmmjfkbabaa
