/- What the chapter shows, and that the law is awake: contracts. -/
import Derived.Test.YtfjlnejeffkdoaaEE
namespace Go.Proofs.Ytfjlnejeffkdoaa
open Go.RowKit Go.Shelf
attribute [local irreducible] arrV

theorem wpList_lay {ops : Array Oper} {rest : List Oper} {o : Oper} {a : Act} {Q : Exit → Act → World → Prop} {w : World} (hgd : o.guard = none) (t e : TypeId) (len : Nat) (parts : Array (Nat × Operand)) (ho : o.op = .buildSlice t len parts) (hu : Try.prog.underlying t = some (.slice e)) (cells : Array Value)
    (hf : Try.prog.builtSlice e len (parts.map fun (i, x) => (i, a.eval x)).toList = some cells)
    (hK : ∀ w2, w2 = w.alloc (.cells cells e) → wpList Try.prog ops Q rest (a.put o.dst (.slice (some ⟨w.heap.size, 0, none⟩) len len)) w2) : wpList Try.prog ops Q (o :: rest) a w := by
  refine wpList_plain hgd fun K' hK' => ?_
  have hr := exec_buildSlice (P := Try.prog) (a := a) (w := w) t e len parts ho hu cells hf
  unfold Oper.wp
  rw [hr]
  exact hK' _ _ (hK _ rfl)

set_option maxHeartbeats 400000 in
theorem at_any (s lo hi : Int) (w : World) : Calls Try.prog 40 #[.int .i64 s, .int .i64 lo, .int .i64 hi] w fun e w' => e = .returned (.agg #[.int .i64 s, .int .i64 lo, .int .i64 hi]) ∧ Below w.heap.size w w' := by
  go_enter Try.func40, Try.ntmps40
  go_wp2
  refine bodyPost_ret (v := .agg #[.int .i64 s, .int .i64 lo, .int .i64 hi]) (by simp [results, Try.results40, go_sem]) rfl ⟨rfl, box_below _ _⟩
set_option maxHeartbeats 400000 in
theorem rule_any (w : World) : Calls Try.prog 39 #[] w fun e w' => e = .returned (.agg #[.int .i64 5, .int .i64 5, .int .i64 4]) ∧ Below w.heap.size w w' := by
  go_enter Try.func39, Try.ntmps39
  go_wp2
  refine bodyPost_ret (v := .agg #[.int .i64 5, .int .i64 5, .int .i64 4]) (by simp [results, Try.results39, go_sem]) rfl ⟨rfl, box_below _ _⟩

def pulledP : List Pt := [⟨0, 0, 0⟩, ⟨10, 48, 52⟩, ⟨20, 95, 105⟩, ⟨30, 90, 96⟩, ⟨40, 120, 130⟩, ⟨50, 100, 110⟩]
def ruleP : Rl := ⟨5, 5, 4⟩
theorem u32' : Try.prog.underlying 32 = some (.slice 74) := by kernel_rfl
set_option maxRecDepth 100000 in
theorem read_pulled : readR pulledP ruleP (pad [0, 50, 100, 94, 125, 105]) = ⟨125, 4, 2, 100, 3, 97, 8430⟩ := by kernel_rfl
theorem span_yield : bnd (numsL pulledP ruleP (fun x => (x.ya, x.y)) (searchL pulledP (chD pulledP ruleP) (hpD ruleP))) = some (95, 130) := by kernel_rfl
theorem span_proof : bnd (numsL pulledP ruleP (fun x => (x.ma, x.pl)) (searchL pulledP (chM pulledP ruleP) (hpM pulledP ruleP))) = some (93, 101) := by kernel_rfl

theorem both_pulled : bothE pulledP ruleP = 0 := by kernel_rfl
theorem sane_pulled : Sane pulledP ruleP where
  len := by decide
  pos := by decide
  st := fun i hi => by
    have : i < 6 := hi
    match i, this with
    | 0, _ => decide
    | 1, _ => decide
    | 2, _ => decide
    | 3, _ => decide
    | 4, _ => decide
    | 5, _ => decide
  lo := fun i hi => by
    have : i < 6 := hi
    match i, this with
    | 0, _ => decide
    | 1, _ => decide
    | 2, _ => decide
    | 3, _ => decide
    | 4, _ => decide
    | 5, _ => decide
  k := by decide
  o := by decide
  d := by decide

theorem pulled_built : Try.prog.builtSlice 74 6 [(0, .agg #[.int .i64 0, .int .i64 0, .int .i64 0]), (1, .agg #[.int .i64 10, .int .i64 48, .int .i64 52]), (2, .agg #[.int .i64 20, .int .i64 95, .int .i64 105]), (3, .agg #[.int .i64 30, .int .i64 90, .int .i64 96]), (4, .agg #[.int .i64 40, .int .i64 120, .int .i64 130]), (5, .agg #[.int .i64 50, .int .i64 100, .int .i64 110])] =
    some #[.int .i64 0, .int .i64 0, .int .i64 0, .int .i64 10, .int .i64 48, .int .i64 52, .int .i64 20, .int .i64 95, .int .i64 105, .int .i64 30, .int .i64 90, .int .i64 96, .int .i64 40, .int .i64 120, .int .i64 130, .int .i64 50, .int .i64 100, .int .i64 110] := by kernel_rfl

set_option maxRecDepth 100000 in
set_option maxHeartbeats 1000000 in
theorem pulled_any (w : World) : Calls Try.prog 38 #[] w fun e w' => ∃ B, e = .returned (.agg #[.slice (some ⟨B, 0, none⟩) 6 6]) ∧ w.heap.size ≤ B ∧ PtsIn w' B 0 pulledP ∧ Below w.heap.size w w' := by
  have HA := Lib.hid at_any
  have hB0 := Lib.hid (box_below w (.cells #[.slice none 0 0] 34))
  have hX0 := Lib.hid (heap_alloc_new w (.cells #[.slice none 0 0] 34))
  go_enter Try.func38, Try.ntmps38
  go_wp2_with fail
  refine (HA.out _ _ _ _).mono ?_
  rintro e w1 ⟨rfl, hb1⟩
  have hx := (hb1.block w.heap.size (by simp)).trans hX0.out
  have hbw := below_to hB0.out hb1
  clear hb1
  iterate 5
    (go_wp2_with fail
     refine (HA.out _ _ _ _).mono ?_
     rintro e w2 ⟨rfl, hb2⟩
     replace hx := (hb2.block w.heap.size (lt_of_block hx)).trans hx
     replace hbw := below_to hbw hb2
     clear hb2
     clear w1
     rename World => w1)
  have hf0 := frozen_of_row w1 w.heap.size 0 _ _ hx
  have hc0 := cell_of_row w1 w.heap.size 0 _ _ _ hx
  simp at hc0
  have hl0 := lt_of_block hx
  have HX := Lib.hid hx
  have HBW := Lib.hid hbw
  clear hx hbw
  go_wp2
  obtain ⟨W9, hW9⟩ : ∃ W9, (w1.setCell ⟨w.heap.size, 0, none⟩ (.slice (some ⟨w1.heap.size, 0, none⟩) 6 6)).alloc (.cells #[.int .i64 0, .int .i64 0, .int .i64 0, .int .i64 10, .int .i64 48, .int .i64 52, .int .i64 20, .int .i64 95, .int .i64 105, .int .i64 30, .int .i64 90, .int .i64 96, .int .i64 40, .int .i64 120, .int .i64 130, .int .i64 50, .int .i64 100, .int .i64 110] 74) = W9 := ⟨_, rfl⟩
  rw [hW9]
  have q1 := heap_setCell_same w1 w.heap.size 0 _ 34 (.slice (some ⟨w1.heap.size, 0, none⟩) 6 6) HX.out
  have hsz : (w1.setCell ⟨w.heap.size, 0, none⟩ (.slice (some ⟨w1.heap.size, 0, none⟩) 6 6)).heap.size = w1.heap.size := by simp [World.setCell]
  have q2 := heap_alloc_new (w1.setCell ⟨w.heap.size, 0, none⟩ (.slice (some ⟨w1.heap.size, 0, none⟩) 6 6)) (.cells #[.int .i64 0, .int .i64 0, .int .i64 0, .int .i64 10, .int .i64 48, .int .i64 52, .int .i64 20, .int .i64 95, .int .i64 105, .int .i64 30, .int .i64 90, .int .i64 96, .int .i64 40, .int .i64 120, .int .i64 130, .int .i64 50, .int .i64 100, .int .i64 110] 74)
  rw [hsz, hW9] at q2
  have q3 : W9.heap[w.heap.size]? = some (.cells #[.slice (some ⟨w1.heap.size, 0, none⟩) 6 6] 34 (0, 0)) := by rw [← hW9]; exact (Below.heap_alloc _ _ _ (lt_of_block q1)).trans q1
  have q4 : Below w.heap.size w W9 := by
    rw [← hW9]
    exact (HBW.out.setCell (p := ⟨w.heap.size, 0, none⟩) (Nat.le_refl _) _).alloc (by rw [hsz]; exact Nat.le_of_lt hl0) _
  have c := cell_of_row W9 w.heap.size 0 _ _ _ q3
  simp at c
  clear hf0 hc0 hW9 q1 q3 hsz
  refine bodyPost_ret (v := .agg #[.slice (some ⟨w1.heap.size, 0, none⟩) 6 6]) (by simp [results, Try.results38, go_sem, c]) rfl ⟨w1.heap.size, rfl, Nat.le_of_lt hl0, fun i hi => ?_, q4⟩
  have : i < 6 := hi
  have hc := fun j => cell_of_row W9 w1.heap.size j _ _ _ q2
  match i, this with
  | 0, _ => exact ⟨hc 0, hc 1, hc 2⟩
  | 1, _ => exact ⟨hc 3, hc 4, hc 5⟩
  | 2, _ => exact ⟨hc 6, hc 7, hc 8⟩
  | 3, _ => exact ⟨hc 9, hc 10, hc 11⟩
  | 4, _ => exact ⟨hc 12, hc 13, hc 14⟩
  | 5, _ => exact ⟨hc 15, hc 16, hc 17⟩

theorem s37e : Try.prog.underlying 37 = some (.struct (Try.prog.fieldsOf 37)) := by kernel_rfl
theorem s51e : Try.prog.underlying 51 = some (.struct (Try.prog.fieldsOf 51)) := by kernel_rfl
theorem eq37 (w : World) : (binOp .eql 37 (.agg #[.int .i64 125, .int .i64 4, .int .i64 2, .int .i64 100, .int .i64 3, .int .i64 97, .int .i64 8430]) (.agg #[.int .i64 125, .int .i64 4, .int .i64 2, .int .i64 100, .int .i64 3, .int .i64 97, .int .i64 8430])).run Try.prog w = .ok (.bool true) w := by kernel_rfl
theorem eq51a (w : World) : (binOp .eql 51 (.agg #[.int .i64 95, .int .i64 130]) (.agg #[.int .i64 95, .int .i64 130])).run Try.prog w = .ok (.bool true) w := by kernel_rfl
theorem eq51b (w : World) : (binOp .eql 51 (.agg #[.int .i64 93, .int .i64 101]) (.agg #[.int .i64 93, .int .i64 101])).run Try.prog w = .ok (.bool true) w := by kernel_rfl
theorem gd37 : Try.prog.eqGuardType Try.prog.depth 37 = false := by kernel_rfl
theorem gd51 : Try.prog.eqGuardType Try.prog.depth 51 = false := by kernel_rfl
theorem good_pulled : Good pulledP ruleP [0, 50, 100, 94, 125, 105] := ⟨by decide, by decide, by kernel_rfl, by kernel_rfl, by decide, by kernel_rfl⟩

theorem read_demo (b bt : Nat) (w : World) (hp : PtsIn w b 0 pulledP) (hi : IntsIn w bt 0 [0, 50, 100, 94, 125, 105]) :
    Calls Try.prog 19 #[.agg #[.slice (some ⟨b, 0, none⟩) 6 6], .agg #[.int .i64 5, .int .i64 5, .int .i64 4], .slice (some ⟨bt, 0, none⟩) 6 6] w
      fun e w' => e = .returned (.tuple #[.agg #[.int .i64 125, .int .i64 4, .int .i64 2, .int .i64 100, .int .i64 3, .int .i64 97, .int .i64 8430], .int .i64 0]) ∧ Below w.heap.size w w' := by
  have := Read_ok b 0 6 bt 0 6 pulledP ruleP [0, 50, 100, 94, 125, 105] w good_pulled hp hi
  rw [read_pulled] at this
  exact this
theorem span_demo1 (b : Nat) (w : World) (hp : PtsIn w b 0 pulledP) : Calls Try.prog 28 #[.agg #[.slice (some ⟨b, 0, none⟩) 6 6], .agg #[.int .i64 5, .int .i64 5, .int .i64 4], .int .u8 1] w
      fun e w' => e = .returned (.tuple #[.agg #[.int .i64 95, .int .i64 130], .int .i64 0]) ∧ Below w.heap.size w w' := by
  have := Span_ok 79 80 b 0 6 1 pulledP ruleP _ _ w sane_pulled both_pulled (truths_yield sane_pulled b 0 6) found_yield qty1 hp
  rw [span_yield] at this
  exact this
theorem span_demo2 (b : Nat) (w : World) (hp : PtsIn w b 0 pulledP) : Calls Try.prog 28 #[.agg #[.slice (some ⟨b, 0, none⟩) 6 6], .agg #[.int .i64 5, .int .i64 5, .int .i64 4], .int .u8 2] w
      fun e w' => e = .returned (.tuple #[.agg #[.int .i64 93, .int .i64 101], .int .i64 0]) ∧ Below w.heap.size w w' := by
  have := Span_ok 81 82 b 0 6 2 pulledP ruleP _ _ w sane_pulled both_pulled (truths_meet sane_pulled b 0 6) found_proof qty2 hp
  rw [span_proof] at this
  exact this

set_option maxRecDepth 100000 in
set_option maxHeartbeats 2000000 in
theorem awake_any (w : World) : Calls Try.prog 16 #[] w fun e w' => e = .returned (.bool true) ∧ Below w.heap.size w w' := by
  have HP := Lib.hid pulled_any
  have HR := Lib.hid rule_any
  go_enter Try.func16, Try.ntmps16
  go_wp2_with fail
  refine (HP.out _).mono ?_
  rintro e w1 ⟨B1, rfl, hB1, hp1, hb1⟩
  go_wp2_with fail
  refine (HR.out _).mono ?_
  rintro e w2 ⟨rfl, hb2⟩
  have hp2 := hp1.below hb2 (block_lt_of_cell (hp1 0 (by decide)).1)
  have hbw2 := below_to hb1 hb2
  clear hp1 hb1 hb2 hB1
  have HP2 := Lib.hid hp2
  have HBW2 := Lib.hid hbw2
  clear hp2 hbw2
  go_wp2_with fail
  have hbx := box_below w2 (.cells #[.int .i64 0, .int .i64 50, .int .i64 100, .int .i64 94, .int .i64 125, .int .i64 105] 3)
  refine (read_demo B1 w2.heap.size _ (HP2.out.below hbx (block_lt_of_cell (HP2.out 0 (by decide)).1)) (intsIn_new w2 [0, 50, 100, 94, 125, 105])).mono ?_
  rintro e w3 ⟨rfl, hb3⟩
  have hbw3 := below_to HBW2.out (below_to hbx hb3)
  have HBW3 := Lib.hid hbw3
  clear hbx hb3 hbw3 HP2 HBW2
  go_wp2_with fail
  have hbx := box_below w3 (.cells #[.int .i64 125, .int .i64 4, .int .i64 2, .int .i64 100, .int .i64 3, .int .i64 97, .int .i64 8430] 37)
  have hx1 := heap_alloc_new w3 (.cells #[.int .i64 125, .int .i64 4, .int .i64 2, .int .i64 100, .int .i64 3, .int .i64 97, .int .i64 8430] 37)
  refine (HP.out _).mono ?_
  rintro e w4 ⟨B4, rfl, hB4, hp4, hb4⟩
  replace hx1 := (hb4.block _ (lt_of_block hx1)).trans hx1
  have hbw4 := below_to HBW3.out (below_to hbx hb4)
  have HP4 := Lib.hid hp4
  clear hbx hb4 hB4 hp4 HBW3
  generalize w3.heap.size = X1 at *
  go_wp2_with fail
  refine (HR.out _).mono ?_
  rintro e w5 ⟨rfl, hb5⟩
  replace hx1 := (hb5.block _ (lt_of_block hx1)).trans hx1
  have hp5 := HP4.out.below hb5 (block_lt_of_cell (HP4.out 0 (by decide)).1)
  have hbw5 := below_to hbw4 hb5
  have HP5 := Lib.hid hp5
  clear hb5 hbw4 HP4 hp5
  go_wp2_with fail
  refine (span_demo1 B4 _ HP5.out).mono ?_
  rintro e w6 ⟨rfl, hb6⟩
  replace hx1 := (hb6.block _ (lt_of_block hx1)).trans hx1
  have hbw6 := below_to hbw5 hb6
  clear hb6 hbw5 HP5
  go_wp2_with fail
  have hbx := box_below w6 (.cells #[.int .i64 95, .int .i64 130] 51)
  have hx3 := heap_alloc_new w6 (.cells #[.int .i64 95, .int .i64 130] 51)
  refine (HP.out _).mono ?_
  rintro e w7 ⟨B7, rfl, hB7, hp7, hb7⟩
  replace hx1 := (hb7.block _ (by have := lt_of_block hx1; simp; omega)).trans ((hbx.block _ (lt_of_block hx1)).trans hx1)
  replace hx3 := (hb7.block _ (lt_of_block hx3)).trans hx3
  have hbw7 := below_to hbw6 (below_to hbx hb7)
  have HP7 := Lib.hid hp7
  clear hbx hb7 hB7 hp7 hbw6
  generalize w6.heap.size = X3 at *
  go_wp2_with fail
  refine (HR.out _).mono ?_
  rintro e w8 ⟨rfl, hb8⟩
  replace hx1 := (hb8.block _ (lt_of_block hx1)).trans hx1
  replace hx3 := (hb8.block _ (lt_of_block hx3)).trans hx3
  have hp8 := HP7.out.below hb8 (block_lt_of_cell (HP7.out 0 (by decide)).1)
  have hbw8 := below_to hbw7 hb8
  have HP8 := Lib.hid hp8
  clear hb8 hbw7 HP7 hp8
  go_wp2_with fail
  refine (span_demo2 B7 _ HP8.out).mono ?_
  rintro e w9 ⟨rfl, hb9⟩
  replace hx1 := (hb9.block _ (lt_of_block hx1)).trans hx1
  replace hx3 := (hb9.block _ (lt_of_block hx3)).trans hx3
  have hbw9 := below_to hbw8 hb9
  clear hb9 hbw8 HP8 HP HR
  have HBW9 := Lib.hid hbw9
  clear hbw9
  have a0 := cell_of_row w9 X1 0 _ _ _ hx1
  have a1 := cell_of_row w9 X1 1 _ _ _ hx1
  have a2 := cell_of_row w9 X1 2 _ _ _ hx1
  have a3 := cell_of_row w9 X1 3 _ _ _ hx1
  have a4 := cell_of_row w9 X1 4 _ _ _ hx1
  have a5 := cell_of_row w9 X1 5 _ _ _ hx1
  have a6 := cell_of_row w9 X1 6 _ _ _ hx1
  have b0 := cell_of_row w9 X3 0 _ _ _ hx3
  have b1 := cell_of_row w9 X3 1 _ _ _ hx3
  simp at a0 a1 a2 a3 a4 a5 a6 b0 b1
  have l1 := lt_of_block hx1
  have l3 := lt_of_block hx3
  clear hx1 hx3
  have e37 := eq37
  have e51 := eq51a
  have e51' := eq51b
  have m37 := gd37
  have m51 := gd51
  go_wp2
  go_ret
  exact ⟨rfl, HBW9.out.trans ((box_below w9 _).mono HBW9.out.size)⟩
end Go.Proofs.Ytfjlnejeffkdoaa
