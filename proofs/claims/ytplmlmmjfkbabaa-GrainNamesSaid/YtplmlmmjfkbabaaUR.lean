/- The law GrainNames, walked. No condition. -/
import Derived.Test.YtplmlmmjfkbabaaUQ
import Derived.BigRegion
import Derived.BigQuiet
namespace Go.Proofs.Ytplmlmmjfkbabaa
open Go.RowKit Go.Shelf
attribute [local irreducible] arrV wpQuiet mat shl

theorem wpList_st {ops : Array Oper} {rest : List Oper} {o : Oper} {a : Act} {Q : Exit → Act → World → Prop} {W : World} (hgd : o.guard = none) (ty : TypeId) (x y : Operand) (ho : o.op = .store ty x y) {b off : Nat} {ad : Option Addr} {n c : Nat} {u : Value} (hx : a.eval x = .pointer (some ⟨b, off, none⟩)) (hy : a.eval y = .slice ad n c)
    (hc : W.cell? ⟨b, off, none⟩ = some u) (hf : W.frozen? ⟨b, off, none⟩ = false) (hi : (Try.prog.info? ty).map (·.size) = some 1)
    (h : ∀ w2, w2 = W.setCell ⟨b, off, none⟩ (.slice ad n c) → wpList Try.prog ops Q rest (a.put o.dst undef) w2) : wpList Try.prog ops Q (o :: rest) a W := by
  have hr := exec_store_one ty x y ho hx hy hc hf hi
  refine wpList_plain hgd fun K hK => ?_
  unfold Oper.wp
  rw [hr]
  exact hK _ _ (h _ rfl)
theorem exec_sti {a : Act} {o : Oper} {W : World} (x : Operand) (k : Int) (ho : o.op = .store 3 x (.const (.int .i64 k))) {b off : Nat} {u : Value} (hx : a.eval x = .pointer (some ⟨b, off, none⟩))
    (hc : W.cell? ⟨b, off, none⟩ = some u) (hf : W.frozen? ⟨b, off, none⟩ = false) :
    (execOp a.eval o).run Try.prog W = .ok .skip (W.setCell ⟨b, off, none⟩ (.int .i64 k)) := by
  have hs := run_storeCells_cells (P := Try.prog) b off [.int .i64 k] 0 W (fun j hj => by
    obtain rfl : j = 0 := by simp at hj; exact hj
    simpa using by rw [hc]; rfl) (fun j hj => by
    obtain rfl : j = 0 := by simp at hj; exact hj
    simpa using hf) (fun v hv => by
    simp at hv
    subst hv
    rfl)
  simp only [Nat.add_zero] at hs
  have hi : (Try.prog.info? 3).map (·.size) = some 1 := by kernel_rfl
  cases hq : Try.prog.info? 3 with
  | none => simp [hq] at hi
  | some i =>
    have h1 : i.size = 1 := by simpa [hq] using hi
    have hy : a.eval (.const (.int .i64 k)) = .int .i64 k := rfl
    unfold execOp
    simp [ho, hx, hy, Instr.storeAt, Instr.sureAddr, storeVar, sizeOf, typeInfo, hq, Value.cells, h1, hs, Result.andThen, World.setCells]
theorem wpList_sti {ops : Array Oper} {rest : List Oper} {o : Oper} {a : Act} {Q : Exit → Act → World → Prop} {W : World} (hgd : o.guard = none) (x : Operand) (k : Int) (ho : o.op = .store 3 x (.const (.int .i64 k))) {b off : Nat} {u : Value} (hx : a.eval x = .pointer (some ⟨b, off, none⟩))
    (hc : W.cell? ⟨b, off, none⟩ = some u) (hf : W.frozen? ⟨b, off, none⟩ = false)
    (h : ∀ w2, w2 = W.setCell ⟨b, off, none⟩ (.int .i64 k) → wpList Try.prog ops Q rest (a.put o.dst undef) w2) : wpList Try.prog ops Q (o :: rest) a W := by
  have hr := exec_sti x k ho hx hc hf
  refine wpList_plain hgd fun K hK => ?_
  unfold Oper.wp
  rw [hr]
  exact hK _ _ (h _ rfl)
theorem make13 (w : World) : (Instr.makeSlice 29 (.int .i64 13) (.int .i64 13)).run Try.prog w = .ok (.slice (some ⟨w.heap.size, 0, none⟩) 13 13) (w.alloc (.cells (flatC manyL).toArray 67)) := by kernel_rfl
/-- A cell is set: other blocks are kept. -/
theorem set_row {w w2 : World} {b j : Nat} {v : Value} (h : w2 = w.setCell ⟨b, j, none⟩ v) {k : Nat} {o : Obj} (hk : w.heap[k]? = some o) (hne : k ≠ b) : w2.heap[k]? = some o := by
  rw [h]
  exact (heap_setCell_other w ⟨b, j, none⟩ k v hne).trans hk
theorem tag_ne {w : World} {b k : Nat} {c c' : Array Value} {t t' : TypeId} (hk : w.heap[k]? = some (.cells c t (0, 0))) (hb : w.heap[b]? = some (.cells c' t' (0, 0))) (h : t ≠ t') : k ≠ b := fun e => by
  rw [e, hb] at hk
  cases hk
  exact h rfl
theorem wpList_mk13 {ops : Array Oper} {rest : List Oper} {o : Oper} {a : Act} {Q : Exit → Act → World → Prop} {W : World} (hgd : o.guard = none) (ho : o.op = .makeSlice 29 (.const (.int .i64 13)) (.const (.int .i64 13))) (B : Nat) (hB : W.heap.size = B)
    (h : ∀ w2, w2 = W.alloc (.cells (flatC manyL).toArray 67) → wpList Try.prog ops Q rest (a.put o.dst (.slice (some ⟨B, 0, none⟩) 13 13)) w2) : wpList Try.prog ops Q (o :: rest) a W := by
  have hr : (execOp a.eval o).run Try.prog W = .ok (.value (.slice (some ⟨B, 0, none⟩) 13 13)) (W.alloc (.cells (flatC manyL).toArray 67)) := by
    have h1 : a.eval (.const (.int .i64 13)) = .int .i64 13 := rfl
    have h2 := make13 W
    unfold execOp
    simp only [ho, h1, Sem.run_bind, h2, Result.andThen_ok]
    rw [hB]
    rfl
  refine wpList_plain hgd fun K hK => ?_
  unfold Oper.wp
  rw [hr]
  exact hK _ _ (h _ rfl)
theorem same_set : (flatC shownL).toArray.setIfInBounds 5 (.int .i64 1) = (flatC sameL).toArray := by rfl
theorem wide_set : (flatC shownL).toArray.setIfInBounds 7 (.int .i64 101) = (flatC wideL).toArray := by rfl
theorem row_same {w w2 : World} {g : Nat} (h : w2 = w.setCell ⟨g, 5, none⟩ (.int .i64 1)) (hg : w.heap[g]? = some (.cells (flatC shownL).toArray 67 (0, 0))) : w2.heap[g]? = some (.cells (flatC sameL).toArray 67 (0, 0)) := by
  rw [h, ← same_set]
  exact heap_setCell_same w g 5 _ 67 _ hg
theorem row_wide {w w2 : World} {g : Nat} (h : w2 = w.setCell ⟨g, 7, none⟩ (.int .i64 101)) (hg : w.heap[g]? = some (.cells (flatC shownL).toArray 67 (0, 0))) : w2.heap[g]? = some (.cells (flatC wideL).toArray 67 (0, 0)) := by
  rw [h, ← wide_set]
  exact heap_setCell_same w g 7 _ 67 _ hg
theorem row_box {w w2 : World} {b g g' n n' : Nat} (h : w2 = w.setCell ⟨b, 1, none⟩ (.slice (some ⟨g', 0, none⟩) n' n')) (hg : w.heap[b]? = some (.cells #[.int .i64 3, .slice (some ⟨g, 0, none⟩) n n] 31 (0, 0))) : w2.heap[b]? = some (.cells #[.int .i64 3, .slice (some ⟨g', 0, none⟩) n' n'] 31 (0, 0)) := by
  rw [h]
  exact heap_setCell_same w b 1 _ 31 _ hg
theorem box_at {w : World} {b g n : Nat} (hg : w.heap[b]? = some (.cells #[.int .i64 3, .slice (some ⟨g, 0, none⟩) n n] 31 (0, 0))) : w.cell? ⟨b, 1, none⟩ = some (.slice (some ⟨g, 0, none⟩) n n) ∧ w.frozen? ⟨b, 1, none⟩ = false := ⟨cell_of_row w b 1 _ _ _ hg, frozen_of_row w b 1 _ _ hg⟩
theorem shown_at {w : World} {g : Nat} (hg : w.heap[g]? = some (.cells (flatC shownL).toArray 67 (0, 0))) : (w.cell? ⟨g, 5, none⟩ = some (.int .i64 0) ∧ w.frozen? ⟨g, 5, none⟩ = false) ∧ w.cell? ⟨g, 7, none⟩ = some (.int .i64 5) ∧ w.frozen? ⟨g, 7, none⟩ = false :=
  ⟨⟨cell_of_row w g 5 _ _ _ hg, frozen_of_row w g 5 _ _ hg⟩, cell_of_row w g 7 _ _ _ hg, frozen_of_row w g 7 _ _ hg⟩
theorem s29 : (Try.prog.info? 29).map (·.size) = some 1 := by kernel_rfl
set_option maxRecDepth 100000 in
set_option maxHeartbeats 16000000 in
theorem names_walk (w : World) : Calls Try.prog 9 #[] w fun e w' => e = .returned (.bool true) ∧ Below w.heap.size w w' := by
  have HBA := Lib.hid (Below.refl w.heap.size w)
  go_enter Try.func9, Try.ntmps9
  go_wp2_with fail
  refine (shown_any _).mono ?_
  rintro e u1 ⟨⟨mu1, rfl, hm⟩, hb⟩
  replace HBA := Lib.hid (below_to HBA.out hb)
  clear hb
  have HV1 := Lib.hid hm
  clear hm
  go_wp2_with fail
  have hbt := Between_some (p := 0) (q := 1) shown_ok HV1.out (by decide) (by decide) shown_d
  rw [show pl (0 : Int) = 1 from rfl, show pl (1 : Int) = 2 from rfl, names_bet.1, names_bet.2] at hbt
  refine (hbt).mono ?_
  rintro e u2 ⟨rfl, hb⟩
  replace HBA := Lib.hid (below_to HBA.out hb)
  replace HV1 := Lib.hid ((HV1.out.same (.below (Nat.le_refl _) hb)).up hb.size)
  clear hb
  clear hbt
  clear HV1
  go_wp2_with fail
  have hbx := box_below u2 (.cells #[.int .i64 (-5), .int .i64 (-3)] 41)
  have hnx := heap_alloc_new u2 (.cells #[.int .i64 (-5), .int .i64 (-3)] 41)
  replace HBA := Lib.hid (below_to HBA.out hbx)
  have X1 := Lib.hid hnx
  clear hbx hnx
  generalize World.alloc u2 _ = u3 at *
  generalize u2.heap.size = b1 at *
  refine (shown_any _).mono ?_
  rintro e u4 ⟨⟨mu4, rfl, hm⟩, hb⟩
  replace HBA := Lib.hid (below_to HBA.out hb)
  replace X1 := Lib.hid ((hb.block _ (lt_of_block X1.out)).trans X1.out)
  clear hb
  have HV1 := Lib.hid hm
  clear hm
  go_wp2_with fail
  have hbx := box_below u4 (.cells #[.int .i64 3, .int .i64 2, .int .i64 1] 3)
  have hnx := heap_alloc_new u4 (.cells #[.int .i64 3, .int .i64 2, .int .i64 1] 3)
  replace HBA := Lib.hid (below_to HBA.out hbx)
  replace X1 := Lib.hid ((hbx.block _ (lt_of_block X1.out)).trans X1.out)
  replace HV1 := Lib.hid ((HV1.out.same (.below (Nat.le_refl _) hbx)).up hbx.size)
  have Aq2 := Lib.hid hnx
  clear hbx hnx
  generalize World.alloc u4 _ = u5 at *
  generalize u4.heap.size = aq2 at *
  have hte := Tells_ok (xs := [3, 2, 1]) (p := 0) (cs := shownL) (n := 3) (cc := 3) (by decide) HV1.out (by decide) (ints_row1 (xs := [3, 2, 1]) Aq2.out rfl) names_tell.1 names_tell.2.1
  refine (hte).mono ?_
  rintro e u6 ⟨rfl, hb⟩
  replace HBA := Lib.hid (below_to HBA.out hb)
  replace X1 := Lib.hid ((hb.block _ (lt_of_block X1.out)).trans X1.out)
  replace HV1 := Lib.hid ((HV1.out.same (.below (Nat.le_refl _) hb)).up hb.size)
  replace Aq2 := Lib.hid ((hb.block _ (lt_of_block Aq2.out)).trans Aq2.out)
  clear hb
  clear hte
  clear HV1
  clear Aq2
  go_wp2_with fail
  have hbx := box_below u6 (.cells #[.int .i64 0, .int .i64 43] 41)
  have hnx := heap_alloc_new u6 (.cells #[.int .i64 0, .int .i64 43] 41)
  replace HBA := Lib.hid (below_to HBA.out hbx)
  replace X1 := Lib.hid ((hbx.block _ (lt_of_block X1.out)).trans X1.out)
  have B3X := Lib.hid hnx
  clear hbx hnx
  generalize World.alloc u6 _ = u7 at *
  generalize u6.heap.size = b3 at *
  refine (shown_any _).mono ?_
  rintro e u8 ⟨⟨mu8, rfl, hm⟩, hb⟩
  replace HBA := Lib.hid (below_to HBA.out hb)
  replace X1 := Lib.hid ((hb.block _ (lt_of_block X1.out)).trans X1.out)
  replace B3X := Lib.hid ((hb.block _ (lt_of_block B3X.out)).trans B3X.out)
  clear hb
  have HV1 := Lib.hid hm
  clear hm
  go_wp2_with fail
  have hbx := box_below u8 (.cells #[.int .i64 0, .int .i64 1] 3)
  have hnx := heap_alloc_new u8 (.cells #[.int .i64 0, .int .i64 1] 3)
  replace HBA := Lib.hid (below_to HBA.out hbx)
  replace X1 := Lib.hid ((hbx.block _ (lt_of_block X1.out)).trans X1.out)
  replace B3X := Lib.hid ((hbx.block _ (lt_of_block B3X.out)).trans B3X.out)
  replace HV1 := Lib.hid ((HV1.out.same (.below (Nat.le_refl _) hbx)).up hbx.size)
  have Aq3 := Lib.hid hnx
  clear hbx hnx
  generalize World.alloc u8 _ = u9 at *
  generalize u8.heap.size = aq3 at *
  have hte := Tells_ok (xs := [0, 1]) (p := 1) (cs := shownL) (n := 3) (cc := 2) (by decide) HV1.out (by decide) (ints_row1 (xs := [0, 1]) Aq3.out rfl) names_tell.2.2.1 names_tell.2.2.2.1
  refine (hte).mono ?_
  rintro e u10 ⟨rfl, hb⟩
  replace HBA := Lib.hid (below_to HBA.out hb)
  replace X1 := Lib.hid ((hb.block _ (lt_of_block X1.out)).trans X1.out)
  replace B3X := Lib.hid ((hb.block _ (lt_of_block B3X.out)).trans B3X.out)
  replace HV1 := Lib.hid ((HV1.out.same (.below (Nat.le_refl _) hb)).up hb.size)
  replace Aq3 := Lib.hid ((hb.block _ (lt_of_block Aq3.out)).trans Aq3.out)
  clear hb
  clear hte
  clear HV1
  clear Aq3
  go_wp2_with fail
  have hbx := box_below u10 (.cells #[.int .i64 43, .int .i64 50] 41)
  have hnx := heap_alloc_new u10 (.cells #[.int .i64 43, .int .i64 50] 41)
  replace HBA := Lib.hid (below_to HBA.out hbx)
  replace X1 := Lib.hid ((hbx.block _ (lt_of_block X1.out)).trans X1.out)
  replace B3X := Lib.hid ((hbx.block _ (lt_of_block B3X.out)).trans B3X.out)
  have B5X := Lib.hid hnx
  clear hbx hnx
  generalize World.alloc u10 _ = u11 at *
  generalize u10.heap.size = b5 at *
  refine (shown_any _).mono ?_
  rintro e u12 ⟨⟨mu12, rfl, hm⟩, hb⟩
  replace HBA := Lib.hid (below_to HBA.out hb)
  replace X1 := Lib.hid ((hb.block _ (lt_of_block X1.out)).trans X1.out)
  replace B3X := Lib.hid ((hb.block _ (lt_of_block B3X.out)).trans B3X.out)
  replace B5X := Lib.hid ((hb.block _ (lt_of_block B5X.out)).trans B5X.out)
  clear hb
  have HV1 := Lib.hid hm
  clear hm
  go_wp2_with fail
  have hbx := box_below u12 (.cells #[.int .i64 1, .int .i64 2] 3)
  have hnx := heap_alloc_new u12 (.cells #[.int .i64 1, .int .i64 2] 3)
  replace HBA := Lib.hid (below_to HBA.out hbx)
  replace X1 := Lib.hid ((hbx.block _ (lt_of_block X1.out)).trans X1.out)
  replace B3X := Lib.hid ((hbx.block _ (lt_of_block B3X.out)).trans B3X.out)
  replace B5X := Lib.hid ((hbx.block _ (lt_of_block B5X.out)).trans B5X.out)
  replace HV1 := Lib.hid ((HV1.out.same (.below (Nat.le_refl _) hbx)).up hbx.size)
  have Aq4 := Lib.hid hnx
  clear hbx hnx
  generalize World.alloc u12 _ = u13 at *
  generalize u12.heap.size = aq4 at *
  have hte := Tells_ok (xs := [1, 2]) (p := 2) (cs := shownL) (n := 3) (cc := 2) (by decide) HV1.out (by decide) (ints_row1 (xs := [1, 2]) Aq4.out rfl) names_tell.2.2.2.2.1 names_tell.2.2.2.2.2.1
  refine (hte).mono ?_
  rintro e u14 ⟨rfl, hb⟩
  replace HBA := Lib.hid (below_to HBA.out hb)
  replace X1 := Lib.hid ((hb.block _ (lt_of_block X1.out)).trans X1.out)
  replace B3X := Lib.hid ((hb.block _ (lt_of_block B3X.out)).trans B3X.out)
  replace B5X := Lib.hid ((hb.block _ (lt_of_block B5X.out)).trans B5X.out)
  replace HV1 := Lib.hid ((HV1.out.same (.below (Nat.le_refl _) hb)).up hb.size)
  replace Aq4 := Lib.hid ((hb.block _ (lt_of_block Aq4.out)).trans Aq4.out)
  clear hb
  clear hte
  clear HV1
  clear Aq4
  go_wp2_with fail
  have hbx := box_below u14 (.cells #[.int .i64 1, .int .i64 100] 41)
  have hnx := heap_alloc_new u14 (.cells #[.int .i64 1, .int .i64 100] 41)
  replace HBA := Lib.hid (below_to HBA.out hbx)
  replace X1 := Lib.hid ((hbx.block _ (lt_of_block X1.out)).trans X1.out)
  replace B3X := Lib.hid ((hbx.block _ (lt_of_block B3X.out)).trans B3X.out)
  replace B5X := Lib.hid ((hbx.block _ (lt_of_block B5X.out)).trans B5X.out)
  have B7X := Lib.hid hnx
  clear hbx hnx
  generalize World.alloc u14 _ = u15 at *
  generalize u14.heap.size = b7 at *
  refine (shown_own _).mono ?_
  rintro e u16 ⟨⟨g5, rfl, hg, hm⟩, hb⟩
  have hg5 : w.heap.size ≤ g5 := Nat.le_trans HBA.out.size hg
  replace HBA := Lib.hid (below_to HBA.out hb)
  replace X1 := Lib.hid ((hb.block _ (lt_of_block X1.out)).trans X1.out)
  replace B3X := Lib.hid ((hb.block _ (lt_of_block B3X.out)).trans B3X.out)
  replace B5X := Lib.hid ((hb.block _ (lt_of_block B5X.out)).trans B5X.out)
  replace B7X := Lib.hid ((hb.block _ (lt_of_block B7X.out)).trans B7X.out)
  clear hb hg
  have Sg5 := Lib.hid hm
  clear hm
  have hbx := box_below u16 (.cells #[.int .i64 3, .slice (some ⟨g5, 0, none⟩) 4 4] 31)
  have HN9 := Lib.hid (heap_alloc_new u16 (.cells #[.int .i64 3, .slice (some ⟨g5, 0, none⟩) 4 4] 31))
  have hg5u : g5 < u16.heap.size := lt_of_block Sg5.out
  replace HBA := Lib.hid (below_to HBA.out hbx)
  replace X1 := Lib.hid ((hbx.block _ (lt_of_block X1.out)).trans X1.out)
  replace B3X := Lib.hid ((hbx.block _ (lt_of_block B3X.out)).trans B3X.out)
  replace B5X := Lib.hid ((hbx.block _ (lt_of_block B5X.out)).trans B5X.out)
  replace B7X := Lib.hid ((hbx.block _ (lt_of_block B7X.out)).trans B7X.out)
  replace Sg5 := Lib.hid ((hbx.block _ (lt_of_block Sg5.out)).trans Sg5.out)
  clear hbx
  have HOWN := Lib.hid (shown_row hg5 Sg5.out)
  have hsz : w.heap.size ≤ (World.alloc u16 (.cells #[.int .i64 3, .slice (some ⟨g5, 0, none⟩) 4 4] 31)).heap.size := HBA.out.size
  have hszx : (World.alloc u16 (.cells #[.int .i64 3, .slice (some ⟨g5, 0, none⟩) 4 4] 31)).heap.size = u16.heap.size + 1 := by simp
  go_wp2_with (first
    | (refine wpList_app el29 rfl (.tmp 48) (.tmp 50) rfl w.heap.size 4 _ _ #[.int .i64 0, .int .i64 2, .int .i64 5, .int .i64 9] rfl (by intro u hu; simp at hu; rcases hu with rfl | rfl | rfl | rfl <;> rfl) rfl (by first | rfl | (rw [hszx]; rfl)) HOWN.out hsz (by decide) ?_
       intro gq cq z1 hown hgr _
       have hne9 : ∀ k, k ≠ g5 → k < (World.alloc u16 (.cells #[.int .i64 3, .slice (some ⟨g5, 0, none⟩) 4 4] 31)).heap.size → z1.heap[k]? = (World.alloc u16 (.cells #[.int .i64 3, .slice (some ⟨g5, 0, none⟩) 4 4] 31)).heap[k]? := fun k hk hlt => hgr.block k hlt (fun e => hk (Option.some.inj (show some g5 = some k from e)).symm)
       have Z9 := Lib.hid ((hne9 u16.heap.size (by omega) (lt_of_block HN9.out)).trans HN9.out)
       have ZX1 := Lib.hid ((hne9 b1 (fun e => by have h1 := X1.out; have h2 := Sg5.out; rw [e, h2] at h1; cases h1) (lt_of_block X1.out)).trans X1.out)
       have ZX3 := Lib.hid ((hne9 b3 (fun e => by have h1 := B3X.out; have h2 := Sg5.out; rw [e, h2] at h1; cases h1) (lt_of_block B3X.out)).trans B3X.out)
       have ZX5 := Lib.hid ((hne9 b5 (fun e => by have h1 := B5X.out; have h2 := Sg5.out; rw [e, h2] at h1; cases h1) (lt_of_block B5X.out)).trans B5X.out)
       have ZX7 := Lib.hid ((hne9 b7 (fun e => by have h1 := B7X.out; have h2 := Sg5.out; rw [e, h2] at h1; cases h1) (lt_of_block B7X.out)).trans B7X.out)
       have ZBA := Lib.hid (HBA.out.trans hgr.below)
       have ZOW := Lib.hid hown
       clear hown hgr hne9)
    | (refine wpList_st rfl 29 (.tmp 52) (.tmp 51) rfl rfl rfl (cell_of_row z1 u16.heap.size 1 _ _ _ Z9.out) (frozen_of_row z1 u16.heap.size 1 _ _ Z9.out) s29 ?_
       intro z2 hz2
       have hoth : ∀ k, k ≠ u16.heap.size → z2.heap[k]? = z1.heap[k]? := fun k hk => by rw [hz2]; exact heap_setCell_other z1 ⟨u16.heap.size, 1, none⟩ k _ hk
       have Y9 : Hid (z2.heap[u16.heap.size]? = some (.cells #[.int .i64 3, .slice (some ⟨gq, 0, none⟩) 5 cq] 31 (0, 0))) := Lib.hid (by rw [hz2]; exact heap_setCell_same z1 u16.heap.size 1 _ 31 _ Z9.out)
       have htg : ∀ (k : Nat) (c : Array Value) (t : TypeId), z1.heap[k]? = some (Obj.cells c t (0, 0)) → t ≠ 31 → k ≠ u16.heap.size := fun k c t h1 h2 e => by
         rw [e, Z9.out] at h1
         cases h1
         exact h2 rfl
       have YX1 := Lib.hid ((hoth b1 (htg _ _ _ ZX1.out (by decide))).trans ZX1.out)
       have YX3 := Lib.hid ((hoth b3 (htg _ _ _ ZX3.out (by decide))).trans ZX3.out)
       have YX5 := Lib.hid ((hoth b5 (htg _ _ _ ZX5.out (by decide))).trans ZX5.out)
       have YX7 := Lib.hid ((hoth b7 (htg _ _ _ ZX7.out (by decide))).trans ZX7.out)
       have hb9w : w.heap.size ≤ u16.heap.size := Nat.le_trans hg5 (Nat.le_of_lt hg5u)
       have YBA : Hid (Below w.heap.size w z2) := Lib.hid (by rw [hz2]; exact ZBA.out.setCell (p := ⟨u16.heap.size, 1, none⟩) hb9w _)
       have YOW := Lib.hid (own_block_same (w' := z2) ZOW.out fun k hk => hoth k (by
         obtain ⟨c, e⟩ := own_tag ZOW.out hk
         exact htg _ _ _ e (by decide)))
       clear hz2 hoth htg
       have c0 := cell_of_row z2 u16.heap.size 0 _ _ _ Y9.out
       have c1 := cell_of_row z2 u16.heap.size 1 _ _ _ Y9.out
       simp only [List.getElem?_toArray, List.getElem?_cons_zero, List.getElem?_cons_succ] at c0 c1
       have lc := lt_of_block Y9.out)
    | fail)
  clear Z9 ZX1 ZX3 ZX5 ZX7 ZBA ZOW X1 B3X B5X B7X HBA HOWN HN9 Sg5 hsz hszx hg5u hb9w c0 c1 lc
  have HBA := YBA
  have X1 := YX1
  have B3X := YX3
  have B5X := YX5
  have B7X := YX7
  have N9 := Y9
  have HVO := Lib.hid (own_cms (l := oddL) (by exact YOW.out))
  clear YBA YX1 YX3 YX5 YX7 Y9 YOW
  generalize u16.heap.size = b9 at *
  have hdo := Doubtful_any z2.heap.size 3 _ oddL z2 (by decide) HVO.out (Nat.le_refl _)
  rw [fault_of odd_ok, odd_doubt] at hdo
  refine (hdo).mono ?_
  rintro e u17 ⟨⟨rd, rfl, -, h1⟩, hb⟩
  replace HBA := Lib.hid (below_to HBA.out hb)
  replace X1 := Lib.hid ((hb.block _ (lt_of_block X1.out)).trans X1.out)
  replace B3X := Lib.hid ((hb.block _ (lt_of_block B3X.out)).trans B3X.out)
  replace B5X := Lib.hid ((hb.block _ (lt_of_block B5X.out)).trans B5X.out)
  replace B7X := Lib.hid ((hb.block _ (lt_of_block B7X.out)).trans B7X.out)
  replace N9 := Lib.hid ((hb.block _ (lt_of_block N9.out)).trans N9.out)
  replace HVO := Lib.hid ((HVO.out.same (.below (Nat.le_refl _) hb)).up hb.size)
  clear hb
  have HDV := Lib.hid (own_ints (l := [1]) (h1 rfl))
  clear hdo h1
  have d0 := cell_of_row u17 b1 0 _ _ _ X1.out
  have d1 := cell_of_row u17 b1 1 _ _ _ X1.out
  simp only [List.getElem?_toArray, List.getElem?_cons_zero, List.getElem?_cons_succ] at d0 d1
  have ld := lt_of_block X1.out
  have k0 := cell_of_row u17 b3 0 _ _ _ B3X.out
  have k1 := cell_of_row u17 b3 1 _ _ _ B3X.out
  simp only [List.getElem?_toArray, List.getElem?_cons_zero, List.getElem?_cons_succ] at k0 k1
  have lk := lt_of_block B3X.out
  have p0 := cell_of_row u17 b5 0 _ _ _ B5X.out
  have p1 := cell_of_row u17 b5 1 _ _ _ B5X.out
  simp only [List.getElem?_toArray, List.getElem?_cons_zero, List.getElem?_cons_succ] at p0 p1
  have lp := lt_of_block B5X.out
  have q0 := cell_of_row u17 b7 0 _ _ _ B7X.out
  have q1 := cell_of_row u17 b7 1 _ _ _ B7X.out
  simp only [List.getElem?_toArray, List.getElem?_cons_zero, List.getElem?_cons_succ] at q0 q1
  have lq := lt_of_block B7X.out
  have n1 := fun w => neqr41 (-5) (-3) w
  have n2 := fun w => neqr41 0 43 w
  have n3 := fun w => neqr41 43 50 w
  have n4 := fun w => neqr41 1 100 w
  go_wp2_with fail
  clear n1 n2 n3 n4 d0 d1 ld k0 k1 lk p0 p1 lp q0 q1 lq
  clear X1
  clear B3X
  clear B5X
  clear B7X
  have hbx := box_below u17 (.cells #[.int .i64 1] 3)
  have hnx := heap_alloc_new u17 (.cells #[.int .i64 1] 3)
  replace HBA := Lib.hid (below_to HBA.out hbx)
  replace N9 := Lib.hid ((hbx.block _ (lt_of_block N9.out)).trans N9.out)
  replace HVO := Lib.hid ((HVO.out.same (.below (Nat.le_refl _) hbx)).up hbx.size)
  replace HDV := Lib.hid ((HDV.out.same (.below (Nat.le_refl _) hbx)).up hbx.size)
  have Aq8 := Lib.hid hnx
  clear hbx hnx
  generalize World.alloc u17 _ = u18 at *
  generalize u17.heap.size = aq8 at *
  refine (ints_same u18.heap.size _ _ [1] u18 (by decide) HDV.out (ints_row1 (xs := [1]) Aq8.out rfl) (Nat.le_refl _)).mono ?_
  rintro e u19 ⟨rfl, hb⟩
  replace HBA := Lib.hid (below_to HBA.out hb)
  replace N9 := Lib.hid ((hb.block _ (lt_of_block N9.out)).trans N9.out)
  replace HVO := Lib.hid ((HVO.out.same (.below (Nat.le_refl _) hb)).up hb.size)
  replace HDV := Lib.hid ((HDV.out.same (.below (Nat.le_refl _) hb)).up hb.size)
  replace Aq8 := Lib.hid ((hb.block _ (lt_of_block Aq8.out)).trans Aq8.out)
  clear hb
  clear HDV
  clear Aq8
  go_wp2_with fail
  refine (shown_any _).mono ?_
  rintro e u20 ⟨⟨mu20, rfl, hm⟩, hb⟩
  replace HBA := Lib.hid (below_to HBA.out hb)
  replace N9 := Lib.hid ((hb.block _ (lt_of_block N9.out)).trans N9.out)
  replace HVO := Lib.hid ((HVO.out.same (.below (Nat.le_refl _) hb)).up hb.size)
  clear hb
  have HV1 := Lib.hid hm
  clear hm
  go_wp2_with fail
  have hbx := box_below u20 (.cells #[.int .i64 40, .int .i64 44, .int .i64 42] 3)
  have hnx := heap_alloc_new u20 (.cells #[.int .i64 40, .int .i64 44, .int .i64 42] 3)
  replace HBA := Lib.hid (below_to HBA.out hbx)
  replace N9 := Lib.hid ((hbx.block _ (lt_of_block N9.out)).trans N9.out)
  replace HVO := Lib.hid ((HVO.out.same (.below (Nat.le_refl _) hbx)).up hbx.size)
  replace HV1 := Lib.hid ((HV1.out.same (.below (Nat.le_refl _) hbx)).up hbx.size)
  have Ap0 := Lib.hid hnx
  clear hbx hnx
  generalize World.alloc u20 _ = u21 at *
  generalize u20.heap.size = ap0 at *
  have hpf := ProveFit_any u21.heap.size 3 _ (.slice (some ⟨ap0, 0, none⟩) 3 3) shownL [40, 44, 42] u21 (by decide) (by decide) HV1.out (ints_row1 (xs := [40, 44, 42]) Ap0.out rfl) (Nat.le_refl _)
  rw [names_prove.1] at hpf
  refine (hpf).mono ?_
  rintro e u22 ⟨rfl, hb⟩
  replace HBA := Lib.hid (below_to HBA.out hb)
  replace N9 := Lib.hid ((hb.block _ (lt_of_block N9.out)).trans N9.out)
  replace HVO := Lib.hid ((HVO.out.same (.below (Nat.le_refl _) hb)).up hb.size)
  replace HV1 := Lib.hid ((HV1.out.same (.below (Nat.le_refl _) hb)).up hb.size)
  replace Ap0 := Lib.hid ((hb.block _ (lt_of_block Ap0.out)).trans Ap0.out)
  clear hb
  clear hpf
  clear HV1
  clear Ap0
  go_wp2_with fail
  refine (shown_any _).mono ?_
  rintro e u23 ⟨⟨mu23, rfl, hm⟩, hb⟩
  replace HBA := Lib.hid (below_to HBA.out hb)
  replace N9 := Lib.hid ((hb.block _ (lt_of_block N9.out)).trans N9.out)
  replace HVO := Lib.hid ((HVO.out.same (.below (Nat.le_refl _) hb)).up hb.size)
  clear hb
  have HV1 := Lib.hid hm
  clear hm
  go_wp2_with fail
  have hbx := box_below u23 (.cells #[.int .i64 40, .int .i64 42, .int .i64 42] 3)
  have hnx := heap_alloc_new u23 (.cells #[.int .i64 40, .int .i64 42, .int .i64 42] 3)
  replace HBA := Lib.hid (below_to HBA.out hbx)
  replace N9 := Lib.hid ((hbx.block _ (lt_of_block N9.out)).trans N9.out)
  replace HVO := Lib.hid ((HVO.out.same (.below (Nat.le_refl _) hbx)).up hbx.size)
  replace HV1 := Lib.hid ((HV1.out.same (.below (Nat.le_refl _) hbx)).up hbx.size)
  have Ap1 := Lib.hid hnx
  clear hbx hnx
  generalize World.alloc u23 _ = u24 at *
  generalize u23.heap.size = ap1 at *
  have hpf := ProveFit_any u24.heap.size 3 _ (.slice (some ⟨ap1, 0, none⟩) 3 3) shownL [40, 42, 42] u24 (by decide) (by decide) HV1.out (ints_row1 (xs := [40, 42, 42]) Ap1.out rfl) (Nat.le_refl _)
  rw [names_prove.2.1] at hpf
  refine (hpf).mono ?_
  rintro e u25 ⟨rfl, hb⟩
  replace HBA := Lib.hid (below_to HBA.out hb)
  replace N9 := Lib.hid ((hb.block _ (lt_of_block N9.out)).trans N9.out)
  replace HVO := Lib.hid ((HVO.out.same (.below (Nat.le_refl _) hb)).up hb.size)
  replace HV1 := Lib.hid ((HV1.out.same (.below (Nat.le_refl _) hb)).up hb.size)
  replace Ap1 := Lib.hid ((hb.block _ (lt_of_block Ap1.out)).trans Ap1.out)
  clear hb
  clear hpf
  clear HV1
  clear Ap1
  go_wp2_with fail
  refine (shown_any _).mono ?_
  rintro e u26 ⟨⟨mu26, rfl, hm⟩, hb⟩
  replace HBA := Lib.hid (below_to HBA.out hb)
  replace N9 := Lib.hid ((hb.block _ (lt_of_block N9.out)).trans N9.out)
  replace HVO := Lib.hid ((HVO.out.same (.below (Nat.le_refl _) hb)).up hb.size)
  clear hb
  have HV1 := Lib.hid hm
  clear hm
  go_wp2_with fail
  have hbx := box_below u26 (.cells #[.int .i64 40, .int .i64 44] 3)
  have hnx := heap_alloc_new u26 (.cells #[.int .i64 40, .int .i64 44] 3)
  replace HBA := Lib.hid (below_to HBA.out hbx)
  replace N9 := Lib.hid ((hbx.block _ (lt_of_block N9.out)).trans N9.out)
  replace HVO := Lib.hid ((HVO.out.same (.below (Nat.le_refl _) hbx)).up hbx.size)
  replace HV1 := Lib.hid ((HV1.out.same (.below (Nat.le_refl _) hbx)).up hbx.size)
  have Ap2 := Lib.hid hnx
  clear hbx hnx
  generalize World.alloc u26 _ = u27 at *
  generalize u26.heap.size = ap2 at *
  have hpf := ProveFit_any u27.heap.size 3 _ (.slice (some ⟨ap2, 0, none⟩) 2 2) shownL [40, 44] u27 (by decide) (by decide) HV1.out (ints_row1 (xs := [40, 44]) Ap2.out rfl) (Nat.le_refl _)
  rw [names_prove.2.2] at hpf
  refine (hpf).mono ?_
  rintro e u28 ⟨rfl, hb⟩
  replace HBA := Lib.hid (below_to HBA.out hb)
  replace N9 := Lib.hid ((hb.block _ (lt_of_block N9.out)).trans N9.out)
  replace HVO := Lib.hid ((HVO.out.same (.below (Nat.le_refl _) hb)).up hb.size)
  replace HV1 := Lib.hid ((HV1.out.same (.below (Nat.le_refl _) hb)).up hb.size)
  replace Ap2 := Lib.hid ((hb.block _ (lt_of_block Ap2.out)).trans Ap2.out)
  clear hb
  clear hpf
  clear HV1
  clear Ap2
  have c0 := cell_of_row u28 b9 0 _ _ _ N9.out
  have c1 := cell_of_row u28 b9 1 _ _ _ N9.out
  simp only [List.getElem?_toArray, List.getElem?_cons_zero, List.getElem?_cons_succ] at c0 c1
  have lc := lt_of_block N9.out
  go_wp2_with fail
  clear c0 c1 lc
  refine (Grades_none odd_ok HVO.out odd_none).mono ?_
  rintro e u29 ⟨rfl, hb⟩
  replace HBA := Lib.hid (below_to HBA.out hb)
  replace N9 := Lib.hid ((hb.block _ (lt_of_block N9.out)).trans N9.out)
  replace HVO := Lib.hid ((HVO.out.same (.below (Nat.le_refl _) hb)).up hb.size)
  clear hb
  have c0 := cell_of_row u29 b9 0 _ _ _ N9.out
  have c1 := cell_of_row u29 b9 1 _ _ _ N9.out
  simp only [List.getElem?_toArray, List.getElem?_cons_zero, List.getElem?_cons_succ] at c0 c1
  have lc := lt_of_block N9.out
  go_wp2_with fail
  clear c0 c1 lc
  have hbt := Between_any u29.heap.size 3 _ oddL 0 3 u29 (by decide) HVO.out (Nat.le_refl _)
  rw [names_lay.1] at hbt
  refine (hbt).mono ?_
  rintro e u30 ⟨⟨x2, y2, rfl, h1, -⟩, hb⟩
  replace HBA := Lib.hid (below_to HBA.out hb)
  replace N9 := Lib.hid ((hb.block _ (lt_of_block N9.out)).trans N9.out)
  replace HVO := Lib.hid ((HVO.out.same (.below (Nat.le_refl _) hb)).up hb.size)
  clear hb
  obtain ⟨rfl, rfl⟩ := h1 (by decide)
  clear hbt h1
  go_wp2_with fail
  refine (shown_any _).mono ?_
  rintro e u31 ⟨⟨mu31, rfl, hm⟩, hb⟩
  replace HBA := Lib.hid (below_to HBA.out hb)
  replace N9 := Lib.hid ((hb.block _ (lt_of_block N9.out)).trans N9.out)
  replace HVO := Lib.hid ((HVO.out.same (.below (Nat.le_refl _) hb)).up hb.size)
  clear hb
  have HV1 := Lib.hid hm
  clear hm
  go_wp2_with fail
  have hbx := box_below u31 (.cells #[.int .i64 2] 3)
  have hnx := heap_alloc_new u31 (.cells #[.int .i64 2] 3)
  replace HBA := Lib.hid (below_to HBA.out hbx)
  replace N9 := Lib.hid ((hbx.block _ (lt_of_block N9.out)).trans N9.out)
  replace HVO := Lib.hid ((HVO.out.same (.below (Nat.le_refl _) hbx)).up hbx.size)
  replace HV1 := Lib.hid ((HV1.out.same (.below (Nat.le_refl _) hbx)).up hbx.size)
  have Aq12 := Lib.hid hnx
  clear hbx hnx
  generalize World.alloc u31 _ = u32 at *
  generalize u31.heap.size = aq12 at *
  have hte := Tells_err (xs := [2]) (p := 0) (cs := shownL) (n := 3) (cc := 1) (by decide) HV1.out (by decide) (ints_row1 (xs := [2]) Aq12.out rfl) names_errs.1 (by decide)
  refine (hte).mono ?_
  rintro e u33 ⟨rfl, hb⟩
  replace HBA := Lib.hid (below_to HBA.out hb)
  replace N9 := Lib.hid ((hb.block _ (lt_of_block N9.out)).trans N9.out)
  replace HVO := Lib.hid ((HVO.out.same (.below (Nat.le_refl _) hb)).up hb.size)
  replace HV1 := Lib.hid ((HV1.out.same (.below (Nat.le_refl _) hb)).up hb.size)
  replace Aq12 := Lib.hid ((hb.block _ (lt_of_block Aq12.out)).trans Aq12.out)
  clear hb
  clear hte
  clear HV1
  clear Aq12
  go_wp2_with fail
  refine (shown_any _).mono ?_
  rintro e u34 ⟨⟨mu34, rfl, hm⟩, hb⟩
  replace HBA := Lib.hid (below_to HBA.out hb)
  replace N9 := Lib.hid ((hb.block _ (lt_of_block N9.out)).trans N9.out)
  replace HVO := Lib.hid ((HVO.out.same (.below (Nat.le_refl _) hb)).up hb.size)
  clear hb
  have HV1 := Lib.hid hm
  clear hm
  go_wp2_with fail
  have hbx := box_below u34 (.cells #[.int .i64 1, .int .i64 0, .int .i64 1] 3)
  have hnx := heap_alloc_new u34 (.cells #[.int .i64 1, .int .i64 0, .int .i64 1] 3)
  replace HBA := Lib.hid (below_to HBA.out hbx)
  replace N9 := Lib.hid ((hbx.block _ (lt_of_block N9.out)).trans N9.out)
  replace HVO := Lib.hid ((HVO.out.same (.below (Nat.le_refl _) hbx)).up hbx.size)
  replace HV1 := Lib.hid ((HV1.out.same (.below (Nat.le_refl _) hbx)).up hbx.size)
  have Aq13 := Lib.hid hnx
  clear hbx hnx
  generalize World.alloc u34 _ = u35 at *
  generalize u34.heap.size = aq13 at *
  have hte := Tells_err (xs := [1, 0, 1]) (p := 1) (cs := shownL) (n := 3) (cc := 3) (by decide) HV1.out (by decide) (ints_row1 (xs := [1, 0, 1]) Aq13.out rfl) names_errs.2.1 (by decide)
  refine (hte).mono ?_
  rintro e u36 ⟨rfl, hb⟩
  replace HBA := Lib.hid (below_to HBA.out hb)
  replace N9 := Lib.hid ((hb.block _ (lt_of_block N9.out)).trans N9.out)
  replace HVO := Lib.hid ((HVO.out.same (.below (Nat.le_refl _) hb)).up hb.size)
  replace HV1 := Lib.hid ((HV1.out.same (.below (Nat.le_refl _) hb)).up hb.size)
  replace Aq13 := Lib.hid ((hb.block _ (lt_of_block Aq13.out)).trans Aq13.out)
  clear hb
  clear hte
  clear HV1
  clear Aq13
  go_wp2_with fail
  refine wp_region_noPanic ?_
  refine wp_region_acts (fun w' => Below u36.heap.size u36 w') (fun _ _ h hb => grow_to h hb) (below_drawn _) (by kernel_rfl) (fun _ _ _ _ _ h => h)
    [.float 1, .call 0, .join, .call 2, .take 3, .take 4, .take 5] [6] (by kernel_rfl) ?_
  refine GWalk.floats (.cells #[.int .i64 0, .int .i64 0, .int .i64 0, .int .i64 0, .int .i64 0, .int .i64 0, .int .i64 0, .int .i64 0, .int .i64 0, .int .i64 0, .int .i64 0, .int .i64 0, .int .i64 0, .int .i64 0, .int .i64 0, .int .i64 0, .int .i64 0, .int .i64 0, .int .i64 0, .int .i64 0, .int .i64 0] 3) (fun b => .slice (some ⟨b, 0, none⟩) 21 21) rfl rfl rfl (fun w1 => ?_) ?_
  · kernel_rfl
  simp only [List.nil_append, List.cons_append]
  refine GWalk.calls rfl rfl ?_; apply Exists.intro; apply Exists.intro; refine ⟨fun w' hS => ?_, fun v1 hb hS hO => ?_⟩; (clear hS; go_simp; exact ⟨rfl, rfl⟩)
  refine (shown_any v1).mono ?_
  rintro e v2 ⟨⟨m14, rfl, hm⟩, hb2⟩
  refine ⟨_, rfl, hb2, grow_to hS hb2, ?_⟩
  simp only [List.getElem_toArray, List.getElem_cons_succ, List.getElem_cons_zero, Act.put, List.setIfInBounds_toArray, List.set_cons_zero, List.set_cons_succ]
  have HV1 := Lib.hid hm
  have hS2 := grow_to hS hb2
  clear hb hS hO hb2 hm
  refine GWalk.joins fun v3 b14 hb hj1 hj2 hj3 hj4 => ?_
  simp only [List.getElem_toArray, List.getElem_cons_succ, List.getElem_cons_zero, Act.put, List.setIfInBounds_toArray, List.set_cons_zero, List.set_cons_succ]
  have hS3 := grow_to hS2 hb
  replace HV1 := Lib.hid ((HV1.out.same (.below (Nat.le_refl _) hb)).up hb.size)
  have A14 := Lib.hid hj4
  clear hb hj1 hj2 hj3 hj4 hS2
  refine GWalk.calls rfl rfl ?_; apply Exists.intro; apply Exists.intro; refine ⟨fun w' hS => ?_, fun v4 hb hS hO => ?_⟩; (clear hS; go_simp; exact ⟨rfl, rfl⟩)
  replace HV1 := Lib.hid ((HV1.out.same (.below (Nat.le_refl _) hb)).up hb.size)
  replace A14 := Lib.hid ((hb.block _ (lt_of_block A14.out)).trans A14.out)
  refine (Tells_err (xs := List.replicate 21 0) (p := 0) (cs := shownL) (n := 3) (cc := 21) (by decide) HV1.out (by decide) (ints_row1 (xs := List.replicate 21 0) A14.out rfl) names_errs.2.2.1 (by decide)).mono ?_
  rintro e v5 ⟨rfl, hb2⟩
  refine ⟨_, rfl, hb2, grow_to hS hb2, ?_⟩
  simp only [List.getElem_toArray, List.getElem_cons_succ, List.getElem_cons_zero, Act.put, List.setIfInBounds_toArray, List.set_cons_zero, List.set_cons_succ]
  clear hb hS hO hb2 hS3 HV1 A14
  iterate 3
    (refine GWalk.takes rfl rfl ?_; apply Exists.intro; refine ⟨fun w' hS => ?_, ?_⟩; (clear hS; go_simp; with_reducible rfl); simp only [List.getElem_toArray, List.getElem_cons_succ, List.getElem_cons_zero, Act.put, List.setIfInBounds_toArray, List.set_cons_zero, List.set_cons_succ])
  refine GWalk.fin fun v6 hb6 hb => ?_
  clear hb6
  refine Tail.value rfl rfl (by go_simp; with_reducible rfl) ?_
  simp only [List.getElem_toArray, List.getElem_cons_succ, List.getElem_cons_zero, Act.put, List.setIfInBounds_toArray, List.set_cons_zero, List.set_cons_succ]
  refine Tail.done (NoPanic.normal ?_)
  replace HBA := Lib.hid (below_to HBA.out hb)
  replace N9 := Lib.hid ((hb.block _ (lt_of_block N9.out)).trans N9.out)
  replace HVO := Lib.hid ((HVO.out.same (.below (Nat.le_refl _) hb)).up hb.size)
  clear hb
  go_wp2_with fail
  refine (shown_any _).mono ?_
  rintro e u37 ⟨⟨mu37, rfl, hm⟩, hb⟩
  replace HBA := Lib.hid (below_to HBA.out hb)
  replace N9 := Lib.hid ((hb.block _ (lt_of_block N9.out)).trans N9.out)
  replace HVO := Lib.hid ((HVO.out.same (.below (Nat.le_refl _) hb)).up hb.size)
  clear hb
  have HV1 := Lib.hid hm
  clear hm
  go_wp2_with fail
  have hbx := box_below u37 (.cells #[.int .i64 4] 3)
  have hnx := heap_alloc_new u37 (.cells #[.int .i64 4] 3)
  replace HBA := Lib.hid (below_to HBA.out hbx)
  replace N9 := Lib.hid ((hbx.block _ (lt_of_block N9.out)).trans N9.out)
  replace HVO := Lib.hid ((HVO.out.same (.below (Nat.le_refl _) hbx)).up hbx.size)
  replace HV1 := Lib.hid ((HV1.out.same (.below (Nat.le_refl _) hbx)).up hbx.size)
  have Aq15 := Lib.hid hnx
  clear hbx hnx
  generalize World.alloc u37 _ = u38 at *
  generalize u37.heap.size = aq15 at *
  have hte := Tells_err (xs := [4]) (p := 0) (cs := shownL) (n := 3) (cc := 1) (by decide) HV1.out (by decide) (ints_row1 (xs := [4]) Aq15.out rfl) names_errs.2.2.2 (by decide)
  refine (hte).mono ?_
  rintro e u39 ⟨rfl, hb⟩
  replace HBA := Lib.hid (below_to HBA.out hb)
  replace N9 := Lib.hid ((hb.block _ (lt_of_block N9.out)).trans N9.out)
  replace HVO := Lib.hid ((HVO.out.same (.below (Nat.le_refl _) hb)).up hb.size)
  replace HV1 := Lib.hid ((HV1.out.same (.below (Nat.le_refl _) hb)).up hb.size)
  replace Aq15 := Lib.hid ((hb.block _ (lt_of_block Aq15.out)).trans Aq15.out)
  clear hb
  clear hte
  clear HV1
  clear Aq15
  go_wp2_with fail
  have hbx := box_below u39 (.cells #[.int .i64 0, .int .i64 0] 41)
  have hnx := heap_alloc_new u39 (.cells #[.int .i64 0, .int .i64 0] 41)
  replace HBA := Lib.hid (below_to HBA.out hbx)
  replace N9 := Lib.hid ((hbx.block _ (lt_of_block N9.out)).trans N9.out)
  replace HVO := Lib.hid ((HVO.out.same (.below (Nat.le_refl _) hbx)).up hbx.size)
  have X12 := Lib.hid hnx
  clear hbx hnx
  generalize World.alloc u39 _ = u40 at *
  generalize u39.heap.size = b12 at *
  clear X12
  have hfi := Finest_any u40.heap.size 0 (.slice none 0 0) [] u40 (by decide) (no_cms _ _) (Nat.le_refl _)
  rw [names_lay.2.1] at hfi
  refine (hfi).mono ?_
  rintro e u41 ⟨⟨r16, rfl, h1, -⟩, hb⟩
  replace HBA := Lib.hid (below_to HBA.out hb)
  replace N9 := Lib.hid ((hb.block _ (lt_of_block N9.out)).trans N9.out)
  replace HVO := Lib.hid ((HVO.out.same (.below (Nat.le_refl _) hb)).up hb.size)
  clear hb
  obtain rfl := h1 (by decide)
  clear hfi h1
  go_wp2_with fail
  refine (shown_any _).mono ?_
  rintro e u42 ⟨⟨mu42, rfl, hm⟩, hb⟩
  replace HBA := Lib.hid (below_to HBA.out hb)
  replace N9 := Lib.hid ((hb.block _ (lt_of_block N9.out)).trans N9.out)
  replace HVO := Lib.hid ((HVO.out.same (.below (Nat.le_refl _) hb)).up hb.size)
  clear hb
  have HV1 := Lib.hid hm
  clear hm
  go_wp2_with fail
  have hch := Chain_any u42.heap.size 3 _ shownL (-1) true u42 (by decide) HV1.out (Nat.le_refl _)
  rw [names_lay.2.2] at hch
  refine (hch).mono ?_
  rintro e u43 ⟨⟨r17, rfl, h1, -⟩, hb⟩
  replace HBA := Lib.hid (below_to HBA.out hb)
  replace N9 := Lib.hid ((hb.block _ (lt_of_block N9.out)).trans N9.out)
  replace HVO := Lib.hid ((HVO.out.same (.below (Nat.le_refl _) hb)).up hb.size)
  replace HV1 := Lib.hid ((HV1.out.same (.below (Nat.le_refl _) hb)).up hb.size)
  clear hb
  obtain rfl := h1 (by decide)
  clear hch h1
  clear HV1
  have c0 := cell_of_row u43 b9 0 _ _ _ N9.out
  have c1 := cell_of_row u43 b9 1 _ _ _ N9.out
  simp only [List.getElem?_toArray, List.getElem?_cons_zero, List.getElem?_cons_succ] at c0 c1
  have lc := lt_of_block N9.out
  go_wp2_with fail
  clear c0 c1 lc
  have hte := Tells_ok (xs := []) (p := 0) (cs := oddL) (n := 3) (ca := none) (cc := 0) (by decide) HVO.out (by decide) (no_ints _ _) names_tell.2.2.2.2.2.2.1 names_tell.2.2.2.2.2.2.2
  refine (hte).mono ?_
  rintro e u44 ⟨rfl, hb⟩
  replace HBA := Lib.hid (below_to HBA.out hb)
  replace N9 := Lib.hid ((hb.block _ (lt_of_block N9.out)).trans N9.out)
  replace HVO := Lib.hid ((HVO.out.same (.below (Nat.le_refl _) hb)).up hb.size)
  clear hb
  clear hte
  clear HVO
  clear N9
  go_wp2_with fail
  have hbx := box_below u44 (.cells #[.int .i64 0, .int .i64 100] 41)
  have hnx := heap_alloc_new u44 (.cells #[.int .i64 0, .int .i64 100] 41)
  replace HBA := Lib.hid (below_to HBA.out hbx)
  have X18 := Lib.hid hnx
  clear hbx hnx
  generalize World.alloc u44 _ = u45 at *
  generalize u44.heap.size = b18 at *
  refine (shown_own _).mono ?_
  rintro e u46 ⟨⟨g20, rfl, hg, hm⟩, hb⟩
  have hg20 : w.heap.size ≤ g20 := Nat.le_trans HBA.out.size hg
  replace HBA := Lib.hid (below_to HBA.out hb)
  replace X18 := Lib.hid ((hb.block _ (lt_of_block X18.out)).trans X18.out)
  clear hb hg
  have Sg20 := Lib.hid hm
  clear hm
  go_wp2_with fail
  refine (shown_own _).mono ?_
  rintro e u47 ⟨⟨g21, rfl, hg, hm⟩, hb⟩
  have hg21 : w.heap.size ≤ g21 := Nat.le_trans HBA.out.size hg
  replace HBA := Lib.hid (below_to HBA.out hb)
  replace X18 := Lib.hid ((hb.block _ (lt_of_block X18.out)).trans X18.out)
  replace Sg20 := Lib.hid ((hb.block _ (lt_of_block Sg20.out)).trans Sg20.out)
  clear hb hg
  have Sg21 := Lib.hid hm
  clear hm
  go_wp2_with fail
  refine (shown_own _).mono ?_
  rintro e u48 ⟨⟨g22, rfl, hg, hm⟩, hb⟩
  have hg22 : w.heap.size ≤ g22 := Nat.le_trans HBA.out.size hg
  have hgne : g21 ≠ g22 := by have := lt_of_block Sg21.out; omega
  replace HBA := Lib.hid (below_to HBA.out hb)
  replace X18 := Lib.hid ((hb.block _ (lt_of_block X18.out)).trans X18.out)
  replace Sg20 := Lib.hid ((hb.block _ (lt_of_block Sg20.out)).trans Sg20.out)
  replace Sg21 := Lib.hid ((hb.block _ (lt_of_block Sg21.out)).trans Sg21.out)
  clear hb hg
  have Sg22 := Lib.hid hm
  clear hm
  have hx3 := box3 u48 (.cells #[.int .i64 3, .slice (some ⟨g20, 0, none⟩) 4 4] 31) (.cells #[.int .i64 3, .slice (some ⟨g21, 0, none⟩) 4 4] 31) (.cells #[.int .i64 3, .slice (some ⟨g22, 0, none⟩) 4 4] 31)
  have hbx := below3 u48 (.cells #[.int .i64 3, .slice (some ⟨g20, 0, none⟩) 4 4] 31) (.cells #[.int .i64 3, .slice (some ⟨g21, 0, none⟩) 4 4] 31) (.cells #[.int .i64 3, .slice (some ⟨g22, 0, none⟩) 4 4] 31)
  have hz3 : (((World.alloc u48 (.cells #[.int .i64 3, .slice (some ⟨g20, 0, none⟩) 4 4] 31)).alloc (.cells #[.int .i64 3, .slice (some ⟨g21, 0, none⟩) 4 4] 31)).alloc (.cells #[.int .i64 3, .slice (some ⟨g22, 0, none⟩) 4 4] 31)).heap.size = u48.heap.size + 1 + 1 + 1 := by simp
  have hgs : g20 < u48.heap.size ∧ g21 < u48.heap.size ∧ g22 < u48.heap.size ∧ b18 < u48.heap.size := ⟨lt_of_block Sg20.out, lt_of_block Sg21.out, lt_of_block Sg22.out, lt_of_block X18.out⟩
  have hwu : w.heap.size ≤ u48.heap.size := HBA.out.size
  have hg2 := hgne
  have N20 := Lib.hid hx3.1
  have N21 := Lib.hid hx3.2.1
  have N22 := Lib.hid hx3.2.2
  replace HBA := Lib.hid (below_to HBA.out hbx)
  replace X18 := Lib.hid ((hbx.block _ (lt_of_block X18.out)).trans X18.out)
  replace Sg20 := Lib.hid ((hbx.block _ (lt_of_block Sg20.out)).trans Sg20.out)
  replace Sg21 := Lib.hid ((hbx.block _ (lt_of_block Sg21.out)).trans Sg21.out)
  replace Sg22 := Lib.hid ((hbx.block _ (lt_of_block Sg22.out)).trans Sg22.out)
  clear hbx hx3
  have hwz : w.heap.size < (((World.alloc u48 (.cells #[.int .i64 3, .slice (some ⟨g20, 0, none⟩) 4 4] 31)).alloc (.cells #[.int .i64 3, .slice (some ⟨g21, 0, none⟩) 4 4] 31)).alloc (.cells #[.int .i64 3, .slice (some ⟨g22, 0, none⟩) 4 4] 31)).heap.size := by rw [hz3]; omega
  go_wp2_with (first
    | (refine wpList_mk13 rfl rfl (u48.heap.size + 1 + 1 + 1) hz3 ?_
       intro y0 hy0
       have hbm : Below (((World.alloc u48 (.cells #[.int .i64 3, .slice (some ⟨g20, 0, none⟩) 4 4] 31)).alloc (.cells #[.int .i64 3, .slice (some ⟨g21, 0, none⟩) 4 4] 31)).alloc (.cells #[.int .i64 3, .slice (some ⟨g22, 0, none⟩) 4 4] 31)).heap.size (((World.alloc u48 (.cells #[.int .i64 3, .slice (some ⟨g20, 0, none⟩) 4 4] 31)).alloc (.cells #[.int .i64 3, .slice (some ⟨g21, 0, none⟩) 4 4] 31)).alloc (.cells #[.int .i64 3, .slice (some ⟨g22, 0, none⟩) 4 4] 31)) y0 := by rw [hy0]; exact box_below _ _
       have JM : Hid (y0.heap[u48.heap.size + 1 + 1 + 1]? = some (.cells (flatC manyL).toArray 67 (0, 0))) := Lib.hid (by rw [hy0, ← hz3]; exact heap_alloc_new _ _)
       have J20 := Lib.hid ((hbm.block _ (lt_of_block N20.out)).trans N20.out)
       have J21 := Lib.hid ((hbm.block _ (lt_of_block N21.out)).trans N21.out)
       have J22 := Lib.hid ((hbm.block _ (lt_of_block N22.out)).trans N22.out)
       have Jg21 := Lib.hid ((hbm.block _ (lt_of_block Sg21.out)).trans Sg21.out)
       have Jg22 := Lib.hid ((hbm.block _ (lt_of_block Sg22.out)).trans Sg22.out)
       have J18 := Lib.hid ((hbm.block _ (lt_of_block X18.out)).trans X18.out)
       have JBA := Lib.hid (below_to HBA.out hbm)
       clear hy0 hbm)
    | (refine wpList_st rfl 29 (.tmp 171) (.tmp 170) rfl (b := u48.heap.size) (off := 1) (ad := some ⟨u48.heap.size + 1 + 1 + 1, 0, none⟩) (n := 13) (c := 13) ?hx ?hy (box_at J20.out).1 (box_at J20.out).2 s29 ?k
       case hx => rfl
       case hy => rfl
       intro y1 hy1
       have A20 : Hid (y1.heap[u48.heap.size]? = some (.cells #[.int .i64 3, .slice (some ⟨u48.heap.size + 1 + 1 + 1, 0, none⟩) 13 13] 31 (0, 0))) := Lib.hid (row_box hy1 J20.out)
       have A21 := Lib.hid (set_row hy1 J21.out (by omega))
       have A22 := Lib.hid (set_row hy1 J22.out (by omega))
       have AM := Lib.hid (set_row hy1 JM.out (by omega))
       have Ag21 := Lib.hid (set_row hy1 Jg21.out (by omega))
       have Ag22 := Lib.hid (set_row hy1 Jg22.out (by omega))
       have A18 := Lib.hid (set_row hy1 J18.out (by omega))
       have ABA : Hid (Below w.heap.size w y1) := Lib.hid (by rw [hy1]; exact JBA.out.setCell (p := ⟨u48.heap.size, 1, none⟩) (by show w.heap.size ≤ u48.heap.size; omega) _)
       clear hy1
       have c1 := cell_of_row y1 (u48.heap.size + 1) 1 _ _ _ A21.out
       simp only [List.getElem?_toArray, List.getElem?_cons_zero, List.getElem?_cons_succ] at c1
       have lc := lt_of_block A21.out)
    | (refine wpList_sti rfl (.tmp 175) 1 rfl (b := g21) (off := 5) ?hx3 (shown_at Ag21.out).1.1 (shown_at Ag21.out).1.2 ?k3
       case hx3 => rfl
       intro y2 hy2
       have Dg21 : Hid (y2.heap[g21]? = some (.cells (flatC sameL).toArray 67 (0, 0))) := Lib.hid (row_same hy2 Ag21.out)
       have D20 := Lib.hid (set_row hy2 A20.out (by omega))
       have D21 := Lib.hid (set_row hy2 A21.out (by omega))
       have D22 := Lib.hid (set_row hy2 A22.out (by omega))
       have DM := Lib.hid (set_row hy2 AM.out (by omega))
       have Dg22 := Lib.hid (set_row hy2 Ag22.out (fun e => hg2 e.symm))
       have D18 := Lib.hid (set_row hy2 A18.out (tag_ne A18.out Ag21.out (by decide)))
       have DBA : Hid (Below w.heap.size w y2) := Lib.hid (by rw [hy2]; exact ABA.out.setCell (p := ⟨g21, 5, none⟩) (by show w.heap.size ≤ g21; exact hg21) _)
       clear hy2 c1 lc
       have c1 := cell_of_row y2 (u48.heap.size + 1 + 1) 1 _ _ _ D22.out
       simp only [List.getElem?_toArray, List.getElem?_cons_zero, List.getElem?_cons_succ] at c1
       have lc := lt_of_block D22.out)
    | (refine wpList_sti rfl (.tmp 179) 101 rfl (b := g22) (off := 7) ?hx4 (shown_at Dg22.out).2.1 (shown_at Dg22.out).2.2 ?k4
       case hx4 => rfl
       intro y3 hy3
       have Eg22 : Hid (y3.heap[g22]? = some (.cells (flatC wideL).toArray 67 (0, 0))) := Lib.hid (row_wide hy3 Dg22.out)
       have E20 := Lib.hid (set_row hy3 D20.out (by omega))
       have E21 := Lib.hid (set_row hy3 D21.out (by omega))
       have E22 := Lib.hid (set_row hy3 D22.out (by omega))
       have EM := Lib.hid (set_row hy3 DM.out (by omega))
       have Eg21 := Lib.hid (set_row hy3 Dg21.out hg2)
       have E18 := Lib.hid (set_row hy3 D18.out (tag_ne D18.out Dg22.out (by decide)))
       have EBA : Hid (Below w.heap.size w y3) := Lib.hid (by rw [hy3]; exact DBA.out.setCell (p := ⟨g22, 7, none⟩) (by show w.heap.size ≤ g22; exact hg22) _)
       clear hy3 c1 lc
       have c0 := cell_of_row y3 b18 0 _ _ _ E18.out
       have c1 := cell_of_row y3 b18 1 _ _ _ E18.out
       have d0 := cell_of_row y3 u48.heap.size 0 _ _ _ E20.out
       have d1 := cell_of_row y3 u48.heap.size 1 _ _ _ E20.out
       simp only [List.getElem?_toArray, List.getElem?_cons_zero, List.getElem?_cons_succ] at c0 c1 d0 d1
       have lc := lt_of_block E18.out
       have ld := lt_of_block E20.out
       have q41 := fun w => eqr41 0 100 0 100 w)
    | fail)
  clear c0 c1 d0 d1 lc ld q41
  clear JM J20 J21 J22 Jg21 Jg22 J18 JBA A20 A21 A22 AM Ag21 Ag22 A18 ABA D20 D21 D22 DM Dg21 Dg22 D18 DBA N20 N21 N22 Sg20 Sg21 Sg22 X18 HBA hz3
  have HBA := EBA
  clear EBA E18
  clear E20
  have hck := CheckAlbum_any y3.heap.size 3 (.slice (some ⟨u48.heap.size + 1 + 1 + 1, 0, none⟩) 13 13) manyL y3 (by decide) (block_cms (t := 67) (cs := manyL) EM.out) (Nat.le_refl _)
  rw [names_fault.1] at hck
  refine (hck).mono ?_
  rintro e u49 ⟨rfl, hb⟩
  replace HBA := Lib.hid (below_to HBA.out hb)
  replace E21 := Lib.hid ((hb.block _ (lt_of_block E21.out)).trans E21.out)
  replace E22 := Lib.hid ((hb.block _ (lt_of_block E22.out)).trans E22.out)
  replace EM := Lib.hid ((hb.block _ (lt_of_block EM.out)).trans EM.out)
  replace Eg21 := Lib.hid ((hb.block _ (lt_of_block Eg21.out)).trans Eg21.out)
  replace Eg22 := Lib.hid ((hb.block _ (lt_of_block Eg22.out)).trans Eg22.out)
  clear hb
  clear hck
  have c0 := cell_of_row u49 (u48.heap.size + 1) 0 _ _ _ E21.out
  have c1 := cell_of_row u49 (u48.heap.size + 1) 1 _ _ _ E21.out
  simp only [List.getElem?_toArray, List.getElem?_cons_zero, List.getElem?_cons_succ] at c0 c1
  have lc := lt_of_block E21.out
  go_wp2_with fail
  clear c0 c1 lc
  have hck := CheckAlbum_any u49.heap.size 3 (.slice (some ⟨g21, 0, none⟩) 4 4) sameL u49 (by decide) (block_cms (t := 67) (cs := sameL) Eg21.out) (Nat.le_refl _)
  rw [names_fault.2.1] at hck
  refine (hck).mono ?_
  rintro e u50 ⟨rfl, hb⟩
  replace HBA := Lib.hid (below_to HBA.out hb)
  replace E21 := Lib.hid ((hb.block _ (lt_of_block E21.out)).trans E21.out)
  replace E22 := Lib.hid ((hb.block _ (lt_of_block E22.out)).trans E22.out)
  replace EM := Lib.hid ((hb.block _ (lt_of_block EM.out)).trans EM.out)
  replace Eg21 := Lib.hid ((hb.block _ (lt_of_block Eg21.out)).trans Eg21.out)
  replace Eg22 := Lib.hid ((hb.block _ (lt_of_block Eg22.out)).trans Eg22.out)
  clear hb
  clear hck
  have c0 := cell_of_row u50 (u48.heap.size + 1 + 1) 0 _ _ _ E22.out
  have c1 := cell_of_row u50 (u48.heap.size + 1 + 1) 1 _ _ _ E22.out
  simp only [List.getElem?_toArray, List.getElem?_cons_zero, List.getElem?_cons_succ] at c0 c1
  have lc := lt_of_block E22.out
  go_wp2_with fail
  clear c0 c1 lc
  have hck := CheckAlbum_any u50.heap.size 3 (.slice (some ⟨g22, 0, none⟩) 4 4) wideL u50 (by decide) (block_cms (t := 67) (cs := wideL) Eg22.out) (Nat.le_refl _)
  rw [names_fault.2.2.1] at hck
  refine (hck).mono ?_
  rintro e u51 ⟨rfl, hb⟩
  replace HBA := Lib.hid (below_to HBA.out hb)
  replace E21 := Lib.hid ((hb.block _ (lt_of_block E21.out)).trans E21.out)
  replace E22 := Lib.hid ((hb.block _ (lt_of_block E22.out)).trans E22.out)
  replace EM := Lib.hid ((hb.block _ (lt_of_block EM.out)).trans EM.out)
  replace Eg21 := Lib.hid ((hb.block _ (lt_of_block Eg21.out)).trans Eg21.out)
  replace Eg22 := Lib.hid ((hb.block _ (lt_of_block Eg22.out)).trans Eg22.out)
  clear hb
  clear hck
  go_wp2_with fail
  have hck := CheckAlbum_any u51.heap.size 9 (.slice none 0 0) [] u51 (by decide) (no_cms _ _) (Nat.le_refl _)
  rw [names_fault.2.2.2.1] at hck
  refine (hck).mono ?_
  rintro e u52 ⟨rfl, hb⟩
  replace HBA := Lib.hid (below_to HBA.out hb)
  replace E21 := Lib.hid ((hb.block _ (lt_of_block E21.out)).trans E21.out)
  replace E22 := Lib.hid ((hb.block _ (lt_of_block E22.out)).trans E22.out)
  replace EM := Lib.hid ((hb.block _ (lt_of_block EM.out)).trans EM.out)
  replace Eg21 := Lib.hid ((hb.block _ (lt_of_block Eg21.out)).trans Eg21.out)
  replace Eg22 := Lib.hid ((hb.block _ (lt_of_block Eg22.out)).trans Eg22.out)
  clear hb
  clear hck
  go_wp2_with fail
  have hck := CheckAlbum_any u52.heap.size 0 (.slice none 0 0) [] u52 (by decide) (no_cms _ _) (Nat.le_refl _)
  rw [names_fault.2.2.2.2] at hck
  refine (hck).mono ?_
  rintro e u53 ⟨rfl, hb⟩
  replace HBA := Lib.hid (below_to HBA.out hb)
  replace E21 := Lib.hid ((hb.block _ (lt_of_block E21.out)).trans E21.out)
  replace E22 := Lib.hid ((hb.block _ (lt_of_block E22.out)).trans E22.out)
  replace EM := Lib.hid ((hb.block _ (lt_of_block EM.out)).trans EM.out)
  replace Eg21 := Lib.hid ((hb.block _ (lt_of_block Eg21.out)).trans Eg21.out)
  replace Eg22 := Lib.hid ((hb.block _ (lt_of_block Eg22.out)).trans Eg22.out)
  clear hb
  clear hck
  go_wp2_with fail
  refine (awake_any u53).mono ?_
  rintro e v9 ⟨rfl, hb⟩
  have HBF := Lib.hid (below_to HBA.out hb)
  clear hb
  go_wp2
  go_ret
  exact ⟨rfl, HBF.out⟩
end Go.Proofs.Ytplmlmmjfkbabaa
