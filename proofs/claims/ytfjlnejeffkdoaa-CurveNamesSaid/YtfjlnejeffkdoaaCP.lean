/- The law CurveNames, walked. No condition. -/
import Derived.Test.YtfjlnejeffkdoaaCO
namespace Go.Proofs.Ytfjlnejeffkdoaa
open Go.RowKit Go.Shelf
attribute [local irreducible] arrV wpQuiet

theorem listV_new (w : World) (l : List Int) : ListV (w.alloc (.cells (l.map (Value.int .i64)).toArray 3 (0, 0))) (.slice (some ⟨w.heap.size, 0, none⟩) l.length l.length) l := ⟨_, _, rfl, fun _ => ⟨_, rfl, intsIn_new w l⟩⟩

set_option maxRecDepth 100000 in
set_option maxHeartbeats 8000000 in
theorem names_any (w0 : World) : Calls Try.prog 7 #[] w0 fun e w' => e = .returned (.bool true) ∧ Below w0.heap.size w0 w' := by
  have HP := Lib.hid pulled_row
  have HR := Lib.hid rule_any
  have HA := Lib.hid awake_any
  have HB : Hid (Below w0.heap.size w0 w0) := Lib.hid (Below.refl _ _)
  go_enter Try.func7, Try.ntmps7
  go_wp2_with fail
  refine (HP.out _).mono ?_
  rintro e w1 ⟨B1, rfl, hB, hp, hb1⟩
  have hg1 : Below w0.heap.size w0 w1 := hb1
  replace HB := Lib.hid (grow_to HB.out hg1)
  have P1 := Lib.hid (row_pts hp)
  clear hB hp hb1 hg1
  go_wp2_with fail
  refine (HR.out _).mono ?_
  rintro e w2 ⟨rfl, hb2⟩
  have hg2 : Below w1.heap.size w1 w2 := hb2
  replace P1 := Lib.hid (P1.out.below hg2 (block_lt_of_cell (P1.out 0 (by decide)).1))
  replace HB := Lib.hid (grow_to HB.out hg2)
  clear hb2 hg2
  go_wp2_with fail
  refine (q_span0 B1 _ P1.out).mono ?_
  rintro e w3 ⟨rfl, hb3⟩
  have hg3 : Below w2.heap.size w2 w3 := hb3
  replace P1 := Lib.hid (P1.out.below hg3 (block_lt_of_cell (P1.out 0 (by decide)).1))
  replace HB := Lib.hid (grow_to HB.out hg3)
  clear hb3 hg3
  clear P1
  have X1 := Lib.hid (heap_alloc_new w3 (.cells #[.int .i64 120, .int .i64 130] 51))
  have hal := grow_alloc w3 (.cells #[.int .i64 120, .int .i64 130] 51)
  go_wp2_with fail
  refine (HP.out _).mono ?_
  rintro e w4 ⟨B4, rfl, hB, hp, hb4⟩
  have hg4 : Below w3.heap.size w3 w4 := grow_to hal hb4
  replace X1 := Lib.hid ((hb4.block _ (lt_of_block X1.out)).trans X1.out)
  replace HB := Lib.hid (grow_to HB.out hg4)
  generalize w3.heap.size = nX1 at *
  have P2 := Lib.hid (row_pts hp)
  clear hB hp hb4 hg4 hal
  go_wp2_with fail
  refine (HR.out _).mono ?_
  rintro e w5 ⟨rfl, hb5⟩
  have hg5 : Below w4.heap.size w4 w5 := hb5
  replace X1 := Lib.hid ((hg5.block _ (lt_of_block X1.out)).trans X1.out)
  replace P2 := Lib.hid (P2.out.below hg5 (block_lt_of_cell (P2.out 0 (by decide)).1))
  replace HB := Lib.hid (grow_to HB.out hg5)
  clear hb5 hg5
  go_wp2_with fail
  refine (q_span3 B4 _ P2.out).mono ?_
  rintro e w6 ⟨rfl, hb6⟩
  have hg6 : Below w5.heap.size w5 w6 := hb6
  replace X1 := Lib.hid ((hg6.block _ (lt_of_block X1.out)).trans X1.out)
  replace P2 := Lib.hid (P2.out.below hg6 (block_lt_of_cell (P2.out 0 (by decide)).1))
  replace HB := Lib.hid (grow_to HB.out hg6)
  clear hb6 hg6
  clear P2
  have X3 := Lib.hid (heap_alloc_new w6 (.cells #[.int .i64 8060, .int .i64 8760] 51))
  have hal := grow_alloc w6 (.cells #[.int .i64 8060, .int .i64 8760] 51)
  go_wp2_with fail
  refine (HP.out _).mono ?_
  rintro e w7 ⟨B7, rfl, hB, hp, hb7⟩
  have hg7 : Below w6.heap.size w6 w7 := grow_to hal hb7
  replace X1 := Lib.hid ((hg7.block _ (lt_of_block X1.out)).trans X1.out)
  replace X3 := Lib.hid ((hb7.block _ (lt_of_block X3.out)).trans X3.out)
  replace HB := Lib.hid (grow_to HB.out hg7)
  generalize w6.heap.size = nX3 at *
  have P3 := Lib.hid (row_pts hp)
  clear hB hp hb7 hg7 hal
  go_wp2_with fail
  refine (HR.out _).mono ?_
  rintro e w8 ⟨rfl, hb8⟩
  have hg8 : Below w7.heap.size w7 w8 := hb8
  replace X1 := Lib.hid ((hg8.block _ (lt_of_block X1.out)).trans X1.out)
  replace X3 := Lib.hid ((hg8.block _ (lt_of_block X3.out)).trans X3.out)
  replace P3 := Lib.hid (P3.out.below hg8 (block_lt_of_cell (P3.out 0 (by decide)).1))
  replace HB := Lib.hid (grow_to HB.out hg8)
  clear hb8 hg8
  go_wp2_with fail
  refine (q_points B7 _ P3.out).mono ?_
  rintro e w9 ⟨y0, y1, y2, rfl, hv0, hv1, hv2, hb9⟩
  have hg9 : Below w8.heap.size w8 w9 := hb9
  replace X1 := Lib.hid ((hg9.block _ (lt_of_block X1.out)).trans X1.out)
  replace X3 := Lib.hid ((hg9.block _ (lt_of_block X3.out)).trans X3.out)
  replace P3 := Lib.hid (P3.out.below hg9 (block_lt_of_cell (P3.out 0 (by decide)).1))
  replace HB := Lib.hid (grow_to HB.out hg9)
  have V0 := Lib.hid hv0
  have V1 := Lib.hid hv1
  have V2 := Lib.hid hv2
  clear hv0 hv1 hv2
  clear hb9 hg9
  clear P3
  have cX10 := cell_of_row w9 nX1 0 _ _ _ X1.out
  have cX11 := cell_of_row w9 nX1 1 _ _ _ X1.out
  have cX30 := cell_of_row w9 nX3 0 _ _ _ X3.out
  have cX31 := cell_of_row w9 nX3 1 _ _ _ X3.out
  simp at cX10 cX11 cX30 cX31
  have e51a : ∀ w, (binOp .neq 51 (.agg #[.int .i64 120, .int .i64 130]) (.agg #[.int .i64 120, .int .i64 130])).run Try.prog w = .ok (.bool false) w := fun w => by kernel_rfl
  have e51b : ∀ w, (binOp .neq 51 (.agg #[.int .i64 8060, .int .i64 8760]) (.agg #[.int .i64 8060, .int .i64 8760])).run Try.prog w = .ok (.bool false) w := fun w => by kernel_rfl
  have m51 := gd51
  go_wp2_with fail
  refine (ints_same y0 _ [4] _ (by decide) (V0.out.below (grow_alloc w9 _)) (listV_new w9 [4])).mono ?_
  rintro e w10 ⟨rfl, hb10⟩
  have hg10 : Below w9.heap.size w9 w10 := grow_to (grow_alloc w9 _) hb10
  replace V1 := Lib.hid (V1.out.below hg10)
  replace V2 := Lib.hid (V2.out.below hg10)
  replace HB := Lib.hid (grow_to HB.out hg10)
  clear cX10 cX11 cX30 cX31 e51a e51b m51 X1 X3 V0
  clear hb10 hg10
  go_wp2_with fail
  refine (ints_same y1 _ [2, 4] _ (by decide) (V1.out.below (grow_alloc w10 _)) (listV_new w10 [2, 4])).mono ?_
  rintro e w11 ⟨rfl, hb11⟩
  have hg11 : Below w10.heap.size w10 w11 := grow_to (grow_alloc w10 _) hb11
  replace V1 := Lib.hid (V1.out.below hg11)
  replace V2 := Lib.hid (V2.out.below hg11)
  replace HB := Lib.hid (grow_to HB.out hg11)
  clear hb11 hg11
  clear V1
  go_wp2_with fail
  refine (ints_same y2 _ [3] _ (by decide) (V2.out.below (grow_alloc w11 _)) (listV_new w11 [3])).mono ?_
  rintro e w12 ⟨rfl, hb12⟩
  have hg12 : Below w11.heap.size w11 w12 := grow_to (grow_alloc w11 _) hb12
  replace V2 := Lib.hid (V2.out.below hg12)
  replace HB := Lib.hid (grow_to HB.out hg12)
  clear hb12 hg12
  clear V2
  go_wp2_with fail
  refine (HP.out _).mono ?_
  rintro e w13 ⟨B13, rfl, hB, hp, hb13⟩
  have hg13 : Below w12.heap.size w12 w13 := hb13
  replace HB := Lib.hid (grow_to HB.out hg13)
  have P1 := Lib.hid (row_pts hp)
  clear hB hp hb13 hg13
  go_wp2_with fail
  refine (HR.out _).mono ?_
  rintro e w14 ⟨rfl, hb14⟩
  have hg14 : Below w13.heap.size w13 w14 := hb14
  replace P1 := Lib.hid (P1.out.below hg14 (block_lt_of_cell (P1.out 0 (by decide)).1))
  replace HB := Lib.hid (grow_to HB.out hg14)
  clear hb14 hg14
  go_wp2_with fail
  refine (q_prove B13 w14.heap.size 97 true _ (P1.out.below (grow_alloc w14 _) (block_lt_of_cell (P1.out 0 (by decide)).1)) (intsIn_new w14 [0, 50, 100, 94, 125, 105]) rfl).mono ?_
  rintro e w15 ⟨rfl, hb15⟩
  have hg15 : Below w14.heap.size w14 w15 := grow_to (grow_alloc w14 _) hb15
  replace P1 := Lib.hid (P1.out.below hg15 (block_lt_of_cell (P1.out 0 (by decide)).1))
  replace HB := Lib.hid (grow_to HB.out hg15)
  clear hb15 hg15
  clear P1
  go_wp2_with fail
  refine (HP.out _).mono ?_
  rintro e w16 ⟨B16, rfl, hB, hp, hb16⟩
  have hg16 : Below w15.heap.size w15 w16 := hb16
  replace HB := Lib.hid (grow_to HB.out hg16)
  have P1 := Lib.hid (row_pts hp)
  clear hB hp hb16 hg16
  go_wp2_with fail
  refine (HR.out _).mono ?_
  rintro e w17 ⟨rfl, hb17⟩
  have hg17 : Below w16.heap.size w16 w17 := hb17
  replace P1 := Lib.hid (P1.out.below hg17 (block_lt_of_cell (P1.out 0 (by decide)).1))
  replace HB := Lib.hid (grow_to HB.out hg17)
  clear hb17 hg17
  go_wp2_with fail
  refine (q_prove B16 w17.heap.size 98 false _ (P1.out.below (grow_alloc w17 _) (block_lt_of_cell (P1.out 0 (by decide)).1)) (intsIn_new w17 [0, 50, 100, 94, 125, 105]) rfl).mono ?_
  rintro e w18 ⟨rfl, hb18⟩
  have hg18 : Below w17.heap.size w17 w18 := grow_to (grow_alloc w17 _) hb18
  replace P1 := Lib.hid (P1.out.below hg18 (block_lt_of_cell (P1.out 0 (by decide)).1))
  replace HB := Lib.hid (grow_to HB.out hg18)
  clear hb18 hg18
  clear P1
  go_wp2_with fail
  refine (HP.out _).mono ?_
  rintro e w19 ⟨B19, rfl, hB, hp, hb19⟩
  have hg19 : Below w18.heap.size w18 w19 := hb19
  replace HB := Lib.hid (grow_to HB.out hg19)
  have P1 := Lib.hid (row_pts hp)
  clear hB hp hb19 hg19
  go_wp2_with fail
  refine (HR.out _).mono ?_
  rintro e w20 ⟨rfl, hb20⟩
  have hg20 : Below w19.heap.size w19 w20 := hb20
  replace P1 := Lib.hid (P1.out.below hg20 (block_lt_of_cell (P1.out 0 (by decide)).1))
  replace HB := Lib.hid (grow_to HB.out hg20)
  clear hb20 hg20
  go_wp2_with fail
  refine (q_proveShort B19 w20.heap.size _ (P1.out.below (grow_alloc w20 _) (block_lt_of_cell (P1.out 0 (by decide)).1))).mono ?_
  rintro e w21 ⟨rfl, hb21⟩
  have hg21 : Below w20.heap.size w20 w21 := grow_to (grow_alloc w20 _) hb21
  replace P1 := Lib.hid (P1.out.below hg21 (block_lt_of_cell (P1.out 0 (by decide)).1))
  replace HB := Lib.hid (grow_to HB.out hg21)
  clear hb21 hg21
  clear P1
  go_wp2_with fail
  refine (HR.out _).mono ?_
  rintro e w22 ⟨rfl, hb22⟩
  have hg22 : Below w21.heap.size w21 w22 := hb22
  replace HB := Lib.hid (grow_to HB.out hg22)
  clear hb22 hg22
  go_wp2_with fail
  refine (HR.out _).mono ?_
  rintro e w23 ⟨rfl, hb23⟩
  have hg23 : Below w22.heap.size w22 w23 := hb23
  replace HB := Lib.hid (grow_to HB.out hg23)
  clear hb23 hg23
  have hbx := below2 w23 (.cells #[.int .i64 1000, .int .i64 5, .int .i64 4] 40) (.cells #[.int .i64 5, .int .i64 5, .int .i64 900] 40)
  obtain ⟨hx1, hx2⟩ := box2 w23 (.cells #[.int .i64 1000, .int .i64 5, .int .i64 4] 40) (.cells #[.int .i64 5, .int .i64 5, .int .i64 900] 40)
  go_wp2
  generalize World.alloc (World.alloc w23 _) _ = v23 at *
  replace HB := Lib.hid (grow_to HB.out hbx)
  have R1 := Lib.hid hx1
  have R2 := Lib.hid hx2
  clear hbx hx1 hx2
  generalize w23.heap.size = nR at *
  clear w23
  refine wp_region_noPanic ?_
  refine wp_region_chain (fun w' => Below v23.heap.size v23 w') (fun _ _ h hb => grow_to h hb) (below_drawn _) (by kernel_rfl) (fun _ _ _ _ _ h => h)
    [(false, 1), (true, 0), (true, 2), (false, 3), (false, 4), (false, 5)] [6] (by kernel_rfl) ?_
  (refine Walk.takes rfl rfl ?_; apply Exists.intro; refine ⟨fun w' hS => ?_, ?_⟩; (have y := (hS.block _ (lt_of_block R1.out)).trans R1.out; have u0 := cell_of_row w' nR 0 _ _ _ y; have u1 := cell_of_row w' nR 1 _ _ _ y; have u2 := cell_of_row w' nR 2 _ _ _ y; (try simp at u0 u1 u2); clear y; clear hS; go_simp; with_reducible rfl); simp only [List.getElem_toArray, List.getElem_cons_succ, List.getElem_cons_zero, Act.put, List.setIfInBounds_toArray, List.set_cons_zero, List.set_cons_succ])
  refine Walk.calls rfl rfl ?_; apply Exists.intro; apply Exists.intro; refine ⟨fun w' hS => ?_, fun w' hba => ?_⟩; (clear hS; go_simp; exact ⟨rfl, rfl⟩)
  refine (HP.out w').mono ?_
  rintro e u1 ⟨BB, rfl, hB, hp, hbb⟩
  refine ⟨_, rfl, hbb, ?_⟩
  simp only [List.getElem_toArray, List.getElem_cons_succ, List.getElem_cons_zero, Act.put, List.setIfInBounds_toArray, List.set_cons_zero, List.set_cons_succ]
  have hp2 := row_pts hp
  clear hB hp hba hbb
  refine Walk.calls rfl rfl ?_; apply Exists.intro; apply Exists.intro; refine ⟨fun w' hS => ?_, fun w' hba => ?_⟩; (clear hS; go_simp; exact ⟨rfl, rfl⟩)
  refine (q_calm BB w' (hp2.below hba (block_lt_of_cell (hp2 0 (by decide)).1))).mono ?_
  rintro e u2 ⟨rfl, hbb⟩
  refine ⟨_, rfl, hbb, ?_⟩
  simp only [List.getElem_toArray, List.getElem_cons_succ, List.getElem_cons_zero, Act.put, List.setIfInBounds_toArray, List.set_cons_zero, List.set_cons_succ]
  clear hba hbb hp2
  (refine Walk.takes rfl rfl ?_; apply Exists.intro; refine ⟨fun w' hS => ?_, ?_⟩; (clear hS; go_simp; with_reducible rfl); simp only [List.getElem_toArray, List.getElem_cons_succ, List.getElem_cons_zero, Act.put, List.setIfInBounds_toArray, List.set_cons_zero, List.set_cons_succ])
  (refine Walk.takes rfl rfl ?_; apply Exists.intro; refine ⟨fun w' hS => ?_, ?_⟩; (clear hS; go_simp; with_reducible rfl); simp only [List.getElem_toArray, List.getElem_cons_succ, List.getElem_cons_zero, Act.put, List.setIfInBounds_toArray, List.set_cons_zero, List.set_cons_succ])
  (refine Walk.takes rfl rfl ?_; apply Exists.intro; refine ⟨fun w' hS => ?_, ?_⟩; (clear hS; go_simp; with_reducible rfl); simp only [List.getElem_toArray, List.getElem_cons_succ, List.getElem_cons_zero, Act.put, List.setIfInBounds_toArray, List.set_cons_zero, List.set_cons_succ])
  refine Walk.fin ?_
  intro va hb7 hS7
  clear hb7
  iterate 1
    (refine Tail.value rfl rfl (by go_simp; with_reducible rfl) ?_; simp only [List.getElem_toArray, List.getElem_cons_succ, List.getElem_cons_zero, Act.put, List.setIfInBounds_toArray, List.set_cons_zero, List.set_cons_succ])
  refine Tail.done (NoPanic.normal ?_)
  replace HB := Lib.hid (grow_to HB.out hS7)
  replace R2 := Lib.hid ((hS7.block _ (lt_of_block R2.out)).trans R2.out)
  clear R1
  clear hS7
  go_wp2
  refine wp_region_noPanic ?_
  refine wp_region_chain (fun w' => Below va.heap.size va w') (fun _ _ h hb => grow_to h hb) (below_drawn _) (by kernel_rfl) (fun _ _ _ _ _ h => h)
    [(false, 1), (true, 0), (true, 2), (false, 3), (false, 4), (false, 5)] [6] (by kernel_rfl) ?_
  (refine Walk.takes rfl rfl ?_; apply Exists.intro; refine ⟨fun w' hS => ?_, ?_⟩; (have y := (hS.block _ (lt_of_block R2.out)).trans R2.out; have u0 := cell_of_row w' (nR + 1) 0 _ _ _ y; have u1 := cell_of_row w' (nR + 1) 1 _ _ _ y; have u2 := cell_of_row w' (nR + 1) 2 _ _ _ y; (try simp at u0 u1 u2); clear y; clear hS; go_simp; with_reducible rfl); simp only [List.getElem_toArray, List.getElem_cons_succ, List.getElem_cons_zero, Act.put, List.setIfInBounds_toArray, List.set_cons_zero, List.set_cons_succ])
  refine Walk.calls rfl rfl ?_; apply Exists.intro; apply Exists.intro; refine ⟨fun w' hS => ?_, fun w' hba => ?_⟩; (clear hS; go_simp; exact ⟨rfl, rfl⟩)
  refine (HP.out w').mono ?_
  rintro e u1 ⟨BB, rfl, hB, hp, hbb⟩
  refine ⟨_, rfl, hbb, ?_⟩
  simp only [List.getElem_toArray, List.getElem_cons_succ, List.getElem_cons_zero, Act.put, List.setIfInBounds_toArray, List.set_cons_zero, List.set_cons_succ]
  have hp2 := row_pts hp
  clear hB hp hba hbb
  refine Walk.calls rfl rfl ?_; apply Exists.intro; apply Exists.intro; refine ⟨fun w' hS => ?_, fun w' hba => ?_⟩; (clear hS; go_simp; exact ⟨rfl, rfl⟩)
  refine (q_far BB w' (hp2.below hba (block_lt_of_cell (hp2 0 (by decide)).1))).mono ?_
  rintro e u2 ⟨rfl, hbb⟩
  refine ⟨_, rfl, hbb, ?_⟩
  simp only [List.getElem_toArray, List.getElem_cons_succ, List.getElem_cons_zero, Act.put, List.setIfInBounds_toArray, List.set_cons_zero, List.set_cons_succ]
  clear hba hbb hp2
  (refine Walk.takes rfl rfl ?_; apply Exists.intro; refine ⟨fun w' hS => ?_, ?_⟩; (clear hS; go_simp; with_reducible rfl); simp only [List.getElem_toArray, List.getElem_cons_succ, List.getElem_cons_zero, Act.put, List.setIfInBounds_toArray, List.set_cons_zero, List.set_cons_succ])
  (refine Walk.takes rfl rfl ?_; apply Exists.intro; refine ⟨fun w' hS => ?_, ?_⟩; (clear hS; go_simp; with_reducible rfl); simp only [List.getElem_toArray, List.getElem_cons_succ, List.getElem_cons_zero, Act.put, List.setIfInBounds_toArray, List.set_cons_zero, List.set_cons_succ])
  (refine Walk.takes rfl rfl ?_; apply Exists.intro; refine ⟨fun w' hS => ?_, ?_⟩; (clear hS; go_simp; with_reducible rfl); simp only [List.getElem_toArray, List.getElem_cons_succ, List.getElem_cons_zero, Act.put, List.setIfInBounds_toArray, List.set_cons_zero, List.set_cons_succ])
  refine Walk.fin ?_
  intro wb hb7 hS7
  clear hb7
  iterate 1
    (refine Tail.value rfl rfl (by go_simp; with_reducible rfl) ?_; simp only [List.getElem_toArray, List.getElem_cons_succ, List.getElem_cons_zero, Act.put, List.setIfInBounds_toArray, List.set_cons_zero, List.set_cons_succ])
  refine Tail.done (NoPanic.normal ?_)
  replace HB := Lib.hid (grow_to HB.out hS7)
  clear R2
  clear hS7
  clear u2
  obtain ⟨w24, rfl⟩ : ∃ w24, w24 = wb := ⟨_, rfl⟩
  go_wp2_with fail
  refine (HP.out _).mono ?_
  rintro e w25 ⟨B25, rfl, hB, hp, hb25⟩
  have hg25 : Below w24.heap.size w24 w25 := hb25
  replace HB := Lib.hid (grow_to HB.out hg25)
  have P1 := Lib.hid (row_pts hp)
  clear hB hp hb25 hg25
  go_wp2_with fail
  refine (HR.out _).mono ?_
  rintro e w26 ⟨rfl, hb26⟩
  have hg26 : Below w25.heap.size w25 w26 := hb26
  replace P1 := Lib.hid (P1.out.below hg26 (block_lt_of_cell (P1.out 0 (by decide)).1))
  replace HB := Lib.hid (grow_to HB.out hg26)
  clear hb26 hg26
  go_wp2_with fail
  refine (q_span4 B25 _ P1.out).mono ?_
  rintro e w27 ⟨rfl, hb27⟩
  have hg27 : Below w26.heap.size w26 w27 := hb27
  replace P1 := Lib.hid (P1.out.below hg27 (block_lt_of_cell (P1.out 0 (by decide)).1))
  replace HB := Lib.hid (grow_to HB.out hg27)
  clear hb27 hg27
  clear P1
  go_wp2_with fail
  refine (HP.out _).mono ?_
  rintro e w28 ⟨B28, rfl, hB, hp, hb28⟩
  have hg28 : Below w27.heap.size w27 w28 := hb28
  replace HB := Lib.hid (grow_to HB.out hg28)
  have P1 := Lib.hid (row_pts hp)
  clear hB hp hb28 hg28
  go_wp2_with fail
  refine (HR.out _).mono ?_
  rintro e w29 ⟨rfl, hb29⟩
  have hg29 : Below w28.heap.size w28 w29 := hb29
  replace P1 := Lib.hid (P1.out.below hg29 (block_lt_of_cell (P1.out 0 (by decide)).1))
  replace HB := Lib.hid (grow_to HB.out hg29)
  clear hb29 hg29
  go_wp2_with fail
  refine (q_111 B28 w29.heap.size _ (P1.out.below (grow_alloc w29 _) (block_lt_of_cell (P1.out 0 (by decide)).1)) (intsIn_new w29 [0, 50, 100, 94, 125, 111])).mono ?_
  rintro e w30 ⟨rfl, hb30⟩
  have hg30 : Below w29.heap.size w29 w30 := grow_to (grow_alloc w29 _) hb30
  replace P1 := Lib.hid (P1.out.below hg30 (block_lt_of_cell (P1.out 0 (by decide)).1))
  replace HB := Lib.hid (grow_to HB.out hg30)
  clear hb30 hg30
  clear P1
  go_wp2_with fail
  refine (HP.out _).mono ?_
  rintro e w31 ⟨B31, rfl, hB, hp, hb31⟩
  have hg31 : Below w30.heap.size w30 w31 := grow_to (grow_alloc w30 _) hb31
  replace HB := Lib.hid (grow_to HB.out hg31)
  have P1 := Lib.hid (row_pts hp)
  clear hB hp hb31 hg31
  go_wp2_with fail
  refine (q_noRule B31 _ _ (P1.out.below (grow_alloc w31 _) (block_lt_of_cell (P1.out 0 (by decide)).1))).mono ?_
  rintro e w32 ⟨rfl, hb32⟩
  have hg32 : Below w31.heap.size w31 w32 := grow_to (grow_alloc w31 _) hb32
  replace P1 := Lib.hid (P1.out.below hg32 (block_lt_of_cell (P1.out 0 (by decide)).1))
  replace HB := Lib.hid (grow_to HB.out hg32)
  clear hb32 hg32
  clear P1
  go_wp2_with fail
  refine (at_any 5 7 9 _).mono ?_
  rintro e w33 ⟨rfl, hb33⟩
  have hg33 : Below w32.heap.size w32 w33 := grow_to (grow_alloc w32 _) hb33
  replace HB := Lib.hid (grow_to HB.out hg33)
  clear hb33 hg33
  go_wp2_with fail
  refine (q_one w33.heap.size (w33.heap.size + 1) _ (one_pts (box2 w33 (.cells #[.int .i64 5, .int .i64 7, .int .i64 9] 74) (.cells #[.int .i64 8] 3)).1) (by have h := intsIn_new (w33.alloc (.cells #[.int .i64 5, .int .i64 7, .int .i64 9] 74)) [8]; rw [World.size_alloc] at h; exact h)).mono ?_
  rintro e w34 ⟨rfl, hb34⟩
  have hg34 : Below w33.heap.size w33 w34 := grow_to (below2 w33 (.cells #[.int .i64 5, .int .i64 7, .int .i64 9] 74) (.cells #[.int .i64 8] 3)) hb34
  replace HB := Lib.hid (grow_to HB.out hg34)
  clear hb34 hg34
  have X15 := Lib.hid (heap_alloc_new w34 (.cells #[.int .i64 8, .int .i64 0, .int .i64 (-1), .int .i64 0, .int .i64 0, .int .i64 8, .int .i64 0] 37))
  have hal := grow_alloc w34 (.cells #[.int .i64 8, .int .i64 0, .int .i64 (-1), .int .i64 0, .int .i64 0, .int .i64 8, .int .i64 0] 37)
  go_wp2_with fail
  refine (HP.out _).mono ?_
  rintro e w35 ⟨B35, rfl, hB, hp, hb35⟩
  have hg35 : Below w34.heap.size w34 w35 := grow_to hal hb35
  replace X15 := Lib.hid ((hb35.block _ (lt_of_block X15.out)).trans X15.out)
  replace HB := Lib.hid (grow_to HB.out hg35)
  generalize w34.heap.size = nX15 at *
  have Pm := Lib.hid (row_pts hp)
  clear hB hp hb35 hg35 hal
  have HZ0 := HB.out.size
  have HZX := Lib.hid (lt_of_block X15.out)
  go_wp2_with fail
  refine (HP.out _).mono ?_
  rintro e w36 ⟨B36, rfl, hB, hp, hb36⟩
  have hg36 : Below w35.heap.size w35 w36 := hb36
  replace X15 := Lib.hid ((hg36.block _ (lt_of_block X15.out)).trans X15.out)
  replace Pm := Lib.hid (Pm.out.below hg36 (block_lt_of_cell (Pm.out 0 (by decide)).1))
  replace HB := Lib.hid (grow_to HB.out hg36)
  have HNS := Lib.hid (Nat.le_trans HZ0 hB)
  have HNX := Lib.hid (Nat.lt_of_lt_of_le HZX.out hB)
  have Ps := Lib.hid hp
  clear hB hp hb36 hg36 HZ0
  have HL36 := Lib.hid (lt_of_block Ps.out)
  go_wp2_with fail
  refine (HP.out _).mono ?_
  rintro e w37 ⟨B37, rfl, hB, hp, hb37⟩
  have hg37 : Below w36.heap.size w36 w37 := hb37
  replace X15 := Lib.hid ((hg37.block _ (lt_of_block X15.out)).trans X15.out)
  replace Pm := Lib.hid (Pm.out.below hg37 (block_lt_of_cell (Pm.out 0 (by decide)).1))
  replace Ps := Lib.hid ((hg37.block _ (lt_of_block Ps.out)).trans Ps.out)
  replace HB := Lib.hid (grow_to HB.out hg37)
  have HNE := Lib.hid (Nat.lt_of_lt_of_le HL36.out hB)
  have Po := Lib.hid hp
  clear hB hp hb37 hg37 HL36
  obtain ⟨M, hmk⟩ := make21
  go_upto_region 16 with fail
  clear hmk
  obtain ⟨hA, hBb, hCc⟩ := box3 w37 (.cells #[.slice (some ⟨w37.heap.size + 1 + 1 + 1, 0, none⟩) 21 21] 34) (.cells #[.slice (some ⟨B36, 0, none⟩) 6 6] 34) (.cells #[.slice (some ⟨B37, 0, none⟩) 6 6] 34)
  have hb3 := below3 w37 (.cells #[.slice (some ⟨w37.heap.size + 1 + 1 + 1, 0, none⟩) 21 21] 34) (.cells #[.slice (some ⟨B36, 0, none⟩) 6 6] 34) (.cells #[.slice (some ⟨B37, 0, none⟩) 6 6] 34)
  have hal := grow_alloc (((w37.alloc (.cells #[.slice (some ⟨w37.heap.size + 1 + 1 + 1, 0, none⟩) 21 21] 34)).alloc (.cells #[.slice (some ⟨B36, 0, none⟩) 6 6] 34)).alloc (.cells #[.slice (some ⟨B37, 0, none⟩) 6 6] 34)) (.cells M 74)
  replace hA := (hal.block _ (lt_of_block hA)).trans hA
  replace hBb := (hal.block _ (lt_of_block hBb)).trans hBb
  replace hCc := (hal.block _ (lt_of_block hCc)).trans hCc
  have hg := grow_to hb3 hal
  generalize World.alloc (World.alloc (World.alloc (World.alloc w37 _) _) _) _ = v0 at *
  replace X15 := Lib.hid ((hg.block _ (lt_of_block X15.out)).trans X15.out)
  have hlPs := lt_of_block Ps.out
  replace Ps := Lib.hid ((hg.block _ (lt_of_block Ps.out)).trans Ps.out)
  have hlPo := lt_of_block Po.out
  replace Po := Lib.hid ((hg.block _ (lt_of_block Po.out)).trans Po.out)
  have HB18 := Lib.hid (grow_to HB.out hg)
  have HXA := Lib.hid hA
  have HXB := Lib.hid hBb
  have HXC := Lib.hid hCc
  clear hb3 hal hg hA hBb hCc HB Pm
  have NE1 : Hid (B36 < B37 ∧ B37 < w37.heap.size) := Lib.hid ⟨HNE.out, hlPo⟩
  clear hlPs hlPo
  have b0 := cell_of_row v0 (w37.heap.size + 1) 0 _ _ _ HXB.out
  have a3 := cell_of_row v0 B36 3 _ _ _ Ps.out
  have z3 := frozen_of_row v0 B36 3 _ _ Ps.out
  have l3 := lt_of_block Ps.out
  simp at b0
  simp [rowP] at a3
  go_upto_region 17 with fail
  clear b0 a3 z3 l3
  have n1 := heap_setCell_same v0 B36 3 _ 74 (.int .i64 0) Ps.out
  have oth : ∀ j, j ≠ B36 → (v0.setCell ⟨B36, 3, none⟩ (.int .i64 0)).heap[j]? = v0.heap[j]? := fun j hj => heap_setCell_other _ ⟨B36, 3, none⟩ j _ (by exact fun e => hj e)
  have hbs := HB18.out.setCell (p := ⟨B36, 3, none⟩) (show w0.heap.size ≤ B36 from by have := HNS.out; have := NE1.out; omega) (.int .i64 0)
  generalize World.setCell v0 _ _ = v1 at *
  replace HXA := Lib.hid ((oth (w37.heap.size) (by have := NE1.out; omega)).trans HXA.out)
  replace HXB := Lib.hid ((oth (w37.heap.size + 1) (by have := NE1.out; omega)).trans HXB.out)
  replace HXC := Lib.hid ((oth (w37.heap.size + 1 + 1) (by have := NE1.out; omega)).trans HXC.out)
  replace X15 := Lib.hid ((oth nX15 (by have := NE1.out; have := HNX.out; omega)).trans X15.out)
  replace Po := Lib.hid ((oth B37 (by have := NE1.out; omega)).trans Po.out)
  replace Ps := Lib.hid n1
  replace HB18 := Lib.hid hbs
  clear n1 oth hbs
  clear v0
  have b0 := cell_of_row v1 (w37.heap.size + 1 + 1) 0 _ _ _ HXC.out
  have a3 := cell_of_row v1 B37 4 _ _ _ Po.out
  have z3 := frozen_of_row v1 B37 4 _ _ Po.out
  have l3 := lt_of_block Po.out
  simp at b0
  simp [rowP] at a3
  go_upto_region 18 with fail
  clear b0 a3 z3 l3
  have n1 := heap_setCell_same v1 B37 4 _ 74 (.int .i64 53) Po.out
  have oth : ∀ j, j ≠ B37 → (v1.setCell ⟨B37, 4, none⟩ (.int .i64 53)).heap[j]? = v1.heap[j]? := fun j hj => heap_setCell_other _ ⟨B37, 4, none⟩ j _ (by exact fun e => hj e)
  have hbs := HB18.out.setCell (p := ⟨B37, 4, none⟩) (show w0.heap.size ≤ B37 from by have := HNS.out; have := NE1.out; omega) (.int .i64 53)
  generalize World.setCell v1 _ _ = v2 at *
  replace HXA := Lib.hid ((oth (w37.heap.size) (by have := NE1.out; omega)).trans HXA.out)
  replace HXB := Lib.hid ((oth (w37.heap.size + 1) (by have := NE1.out; omega)).trans HXB.out)
  replace HXC := Lib.hid ((oth (w37.heap.size + 1 + 1) (by have := NE1.out; omega)).trans HXC.out)
  replace X15 := Lib.hid ((oth nX15 (by have := NE1.out; have := HNX.out; omega)).trans X15.out)
  replace Ps := Lib.hid ((oth B36 (by have := NE1.out; omega)).trans Ps.out)
  replace Po := Lib.hid n1
  replace HB18 := Lib.hid hbs
  clear n1 oth hbs
  clear v1
  have x0 := cell_of_row v2 nX15 0 _ _ _ X15.out
  have x1 := cell_of_row v2 nX15 1 _ _ _ X15.out
  have x2 := cell_of_row v2 nX15 2 _ _ _ X15.out
  have x3 := cell_of_row v2 nX15 3 _ _ _ X15.out
  have x4 := cell_of_row v2 nX15 4 _ _ _ X15.out
  have x5 := cell_of_row v2 nX15 5 _ _ _ X15.out
  have x6 := cell_of_row v2 nX15 6 _ _ _ X15.out
  simp at x0 x1 x2 x3 x4 x5 x6
  have bA := cell_of_row v2 (w37.heap.size) 0 _ _ _ HXA.out
  simp at bA
  have e37 : ∀ w, (binOp .eql 37 (.agg #[.int .i64 8, .int .i64 0, .int .i64 (-1), .int .i64 0, .int .i64 0, .int .i64 8, .int .i64 0]) (.agg #[.int .i64 8, .int .i64 0, .int .i64 (-1), .int .i64 0, .int .i64 0, .int .i64 8, .int .i64 0])).run Try.prog w = .ok (.bool true) w := fun w => by kernel_rfl
  have m37 := gd37
  go_wp2_with fail
  clear x0 x1 x2 x3 x4 x5 x6 e37 m37 bA
  refine (q_many _ v2).mono ?_
  rintro e v3 ⟨rfl, hb2⟩
  replace HXA := Lib.hid ((hb2.block _ (lt_of_block HXA.out)).trans HXA.out)
  replace HXB := Lib.hid ((hb2.block _ (lt_of_block HXB.out)).trans HXB.out)
  replace HXC := Lib.hid ((hb2.block _ (lt_of_block HXC.out)).trans HXC.out)
  replace Ps := Lib.hid ((hb2.block _ (lt_of_block Ps.out)).trans Ps.out)
  replace Po := Lib.hid ((hb2.block _ (lt_of_block Po.out)).trans Po.out)
  replace HB18 := Lib.hid (grow_to HB18.out hb2)
  clear hb2
  have bA := cell_of_row v3 (w37.heap.size + 1) 0 _ _ _ HXB.out
  simp at bA
  go_wp2_with fail
  clear bA
  refine (q_bad B36 _ v3 rfl (by kernel_rfl) (row_pts_same Ps.out)).mono ?_
  rintro e v4 ⟨rfl, hb3⟩
  replace HXA := Lib.hid ((hb3.block _ (lt_of_block HXA.out)).trans HXA.out)
  replace HXB := Lib.hid ((hb3.block _ (lt_of_block HXB.out)).trans HXB.out)
  replace HXC := Lib.hid ((hb3.block _ (lt_of_block HXC.out)).trans HXC.out)
  replace Ps := Lib.hid ((hb3.block _ (lt_of_block Ps.out)).trans Ps.out)
  replace Po := Lib.hid ((hb3.block _ (lt_of_block Po.out)).trans Po.out)
  replace HB18 := Lib.hid (grow_to HB18.out hb3)
  clear hb3
  have bA := cell_of_row v4 (w37.heap.size + 1 + 1) 0 _ _ _ HXC.out
  simp at bA
  go_wp2_with fail
  clear bA
  refine (q_bad B37 _ v4 rfl (by kernel_rfl) (row_pts_odd Po.out)).mono ?_
  rintro e v5 ⟨rfl, hb4⟩
  replace HXA := Lib.hid ((hb4.block _ (lt_of_block HXA.out)).trans HXA.out)
  replace HXB := Lib.hid ((hb4.block _ (lt_of_block HXB.out)).trans HXB.out)
  replace HXC := Lib.hid ((hb4.block _ (lt_of_block HXC.out)).trans HXC.out)
  replace Ps := Lib.hid ((hb4.block _ (lt_of_block Ps.out)).trans Ps.out)
  replace Po := Lib.hid ((hb4.block _ (lt_of_block Po.out)).trans Po.out)
  replace HB18 := Lib.hid (grow_to HB18.out hb4)
  clear hb4
  go_wp2_with fail
  refine (q_none v5).mono ?_
  rintro e v6 ⟨rfl, hb5⟩
  replace HXA := Lib.hid ((hb5.block _ (lt_of_block HXA.out)).trans HXA.out)
  replace HXB := Lib.hid ((hb5.block _ (lt_of_block HXB.out)).trans HXB.out)
  replace HXC := Lib.hid ((hb5.block _ (lt_of_block HXC.out)).trans HXC.out)
  replace Ps := Lib.hid ((hb5.block _ (lt_of_block Ps.out)).trans Ps.out)
  replace Po := Lib.hid ((hb5.block _ (lt_of_block Po.out)).trans Po.out)
  replace HB18 := Lib.hid (grow_to HB18.out hb5)
  clear hb5
  go_wp2_with fail
  refine (HA.out _).mono ?_
  rintro e v7 ⟨rfl, hb9⟩
  have hbf := grow_to HB18.out hb9
  clear hb9
  go_wp2
  go_ret
  exact ⟨rfl, hbf⟩
end Go.Proofs.Ytfjlnejeffkdoaa
