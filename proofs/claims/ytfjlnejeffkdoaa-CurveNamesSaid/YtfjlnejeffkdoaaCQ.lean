/- What CurveNames asks: the single answers. No condition. The law CurveNames, walked. No condition. The statement CurveNames holds: the law returns true. No condition. -/
import Derived.Test.YtfjlnejeffkdoaaCN
import Derived.Test.YtfjlnejeffkdoaaCK
import Derived.Laws.MakeOwn
namespace Go.Proofs.Ytfjlnejeffkdoaa
open Go.RowKit Go.Shelf
attribute [local irreducible] arrV

def rowP : Array Value := #[.int .i64 0, .int .i64 0, .int .i64 0, .int .i64 10, .int .i64 48, .int .i64 52, .int .i64 20, .int .i64 95, .int .i64 105, .int .i64 30, .int .i64 90, .int .i64 96, .int .i64 40, .int .i64 120, .int .i64 130, .int .i64 50, .int .i64 100, .int .i64 110]

set_option maxRecDepth 100000 in
set_option maxHeartbeats 1000000 in
theorem pulled_row (w : World) : Calls Try.prog 38 #[] w fun e w' => ∃ B, e = .returned (.agg #[.slice (some ⟨B, 0, none⟩) 6 6]) ∧ w.heap.size ≤ B ∧ w'.heap[B]? = some (.cells rowP 74 (0, 0)) ∧ Below w.heap.size w w' := by
  have HA := Lib.hid at_any
  have hB0 := Lib.hid (box_below w (.cells #[.slice none 0 0] 34))
  have hX0 := Lib.hid (heap_alloc_new w (.cells #[.slice none 0 0] 34))
  go_enter Try.func38, Try.ntmps38
  go_wp2_with fail
  refine (HA.out _ _ _ _).mono ?_
  rintro e w1 ⟨rfl, hb1⟩
  have hx := (hb1.block w.heap.size (by simp)).trans hX0.out
  have hbw := below_to hB0.out hb1
  clear hb1
  iterate 5
    (go_wp2_with fail
     refine (HA.out _ _ _ _).mono ?_
     rintro e w2 ⟨rfl, hb2⟩
     replace hx := (hb2.block w.heap.size (lt_of_block hx)).trans hx
     replace hbw := below_to hbw hb2
     clear hb2
     clear w1
     rename World => w1)
  have hf0 := frozen_of_row w1 w.heap.size 0 _ _ hx
  have hc0 := cell_of_row w1 w.heap.size 0 _ _ _ hx
  simp at hc0
  have hl0 := lt_of_block hx
  have HX := Lib.hid hx
  have HBW := Lib.hid hbw
  clear hx hbw
  go_wp2
  obtain ⟨W9, hW9⟩ : ∃ W9, (w1.setCell ⟨w.heap.size, 0, none⟩ (.slice (some ⟨w1.heap.size, 0, none⟩) 6 6)).alloc (.cells #[.int .i64 0, .int .i64 0, .int .i64 0, .int .i64 10, .int .i64 48, .int .i64 52, .int .i64 20, .int .i64 95, .int .i64 105, .int .i64 30, .int .i64 90, .int .i64 96, .int .i64 40, .int .i64 120, .int .i64 130, .int .i64 50, .int .i64 100, .int .i64 110] 74) = W9 := ⟨_, rfl⟩
  rw [hW9]
  have q1 := heap_setCell_same w1 w.heap.size 0 _ 34 (.slice (some ⟨w1.heap.size, 0, none⟩) 6 6) HX.out
  have hsz : (w1.setCell ⟨w.heap.size, 0, none⟩ (.slice (some ⟨w1.heap.size, 0, none⟩) 6 6)).heap.size = w1.heap.size := by simp [World.setCell]
  have q2 := heap_alloc_new (w1.setCell ⟨w.heap.size, 0, none⟩ (.slice (some ⟨w1.heap.size, 0, none⟩) 6 6)) (.cells #[.int .i64 0, .int .i64 0, .int .i64 0, .int .i64 10, .int .i64 48, .int .i64 52, .int .i64 20, .int .i64 95, .int .i64 105, .int .i64 30, .int .i64 90, .int .i64 96, .int .i64 40, .int .i64 120, .int .i64 130, .int .i64 50, .int .i64 100, .int .i64 110] 74)
  rw [hsz, hW9] at q2
  have q3 : W9.heap[w.heap.size]? = some (.cells #[.slice (some ⟨w1.heap.size, 0, none⟩) 6 6] 34 (0, 0)) := by rw [← hW9]; exact (Below.heap_alloc _ _ _ (lt_of_block q1)).trans q1
  have q4 : Below w.heap.size w W9 := by
    rw [← hW9]
    exact (HBW.out.setCell (p := ⟨w.heap.size, 0, none⟩) (Nat.le_refl _) _).alloc (by rw [hsz]; exact Nat.le_of_lt hl0) _
  have c := cell_of_row W9 w.heap.size 0 _ _ _ q3
  simp at c
  clear hf0 hc0 hW9 q1 q3 hsz
  refine bodyPost_ret (v := .agg #[.slice (some ⟨w1.heap.size, 0, none⟩) 6 6]) (by simp [results, Try.results38, go_sem, c]) rfl ⟨w1.heap.size, rfl, Nat.le_of_lt hl0, q2, q4⟩


theorem row_pts {w : World} {B : Nat} (h : w.heap[B]? = some (.cells rowP 74 (0, 0))) : PtsIn w B 0 pulledP := fun i hi => by
  have : i < 6 := hi
  have hc := fun j => cell_of_row w B j _ _ _ h
  match i, this with
  | 0, _ => exact ⟨hc 0, hc 1, hc 2⟩
  | 1, _ => exact ⟨hc 3, hc 4, hc 5⟩
  | 2, _ => exact ⟨hc 6, hc 7, hc 8⟩
  | 3, _ => exact ⟨hc 9, hc 10, hc 11⟩
  | 4, _ => exact ⟨hc 12, hc 13, hc 14⟩
  | 5, _ => exact ⟨hc 15, hc 16, hc 17⟩

theorem sp0 : spanP pulledP ruleP 0 = some (120, 130) := by kernel_rfl
theorem sp3 : spanP pulledP ruleP 3 = some (8060, 8760) := by kernel_rfl
theorem my0 : mayP pulledP ruleP 0 = [4] := by kernel_rfl
theorem my1 : mayP pulledP ruleP 1 = [2, 4] := by kernel_rfl
theorem my2 : mayP pulledP ruleP 2 = [3] := by kernel_rfl
def calmP : Rl := ⟨1000, 5, 4⟩
def farP : Rl := ⟨5, 5, 900⟩
theorem spCalm : spanP pulledP calmP 1 = none := by kernel_rfl
theorem spFar : spanP pulledP farP 2 = none := by kernel_rfl
theorem good_p : goodsB pulledP 0 = true := by kernel_rfl
theorem saneCalm : Sane pulledP calmP := sane_of (by decide) (by decide) good_p (by decide)
theorem saneFar : Sane pulledP farP := sane_of (by decide) (by decide) good_p (by decide)
theorem bothCalm : bothE pulledP calmP = 0 := by kernel_rfl
theorem bothFar : bothE pulledP farP = 0 := by kernel_rfl
theorem rdOne : readR [⟨5, 7, 9⟩] ⟨1, 2, 1⟩ (pad [8]) = ⟨8, 0, -1, 0, 0, 8, 0⟩ := by kernel_rfl
theorem goodOne : Good [⟨5, 7, 9⟩] ⟨1, 2, 1⟩ [8] := ⟨by decide, by decide, by kernel_rfl, by kernel_rfl, by decide, by kernel_rfl⟩

theorem q_span0 (b : Nat) (w : World) (hp : PtsIn w b 0 pulledP) : Calls Try.prog 28 #[.agg #[.slice (some ⟨b, 0, none⟩) 6 6], .agg #[.int .i64 5, .int .i64 5, .int .i64 4], .int .u8 0] w
      fun e w' => e = .returned (.tuple #[.agg #[.int .i64 120, .int .i64 130], .int .i64 0]) ∧ Below w.heap.size w w' := by
  have := Span_kd b 0 6 0 pulledP ruleP w sane_pulled both_pulled (by omega) hp
  rw [sp0] at this
  exact this
theorem q_span3 (b : Nat) (w : World) (hp : PtsIn w b 0 pulledP) : Calls Try.prog 28 #[.agg #[.slice (some ⟨b, 0, none⟩) 6 6], .agg #[.int .i64 5, .int .i64 5, .int .i64 4], .int .u8 3] w
      fun e w' => e = .returned (.tuple #[.agg #[.int .i64 8060, .int .i64 8760], .int .i64 0]) ∧ Below w.heap.size w w' := by
  have := Span_kd b 0 6 3 pulledP ruleP w sane_pulled both_pulled (by omega) hp
  rw [sp3] at this
  exact this
theorem q_points (b : Nat) (w : World) (hp : PtsIn w b 0 pulledP) : Calls Try.prog 31 #[.agg #[.slice (some ⟨b, 0, none⟩) 6 6], .agg #[.int .i64 5, .int .i64 5, .int .i64 4]] w
      fun e w' => ∃ v0 v1 v2, e = .returned (.tuple #[v0, v1, v2, .int .i64 0]) ∧ ListV w' v0 [4] ∧ ListV w' v1 [2, 4] ∧ ListV w' v2 [3] ∧ Below w.heap.size w w' := by
  have := Points_ok b 0 6 pulledP ruleP w sane_pulled both_pulled hp
  rw [my0, my1, my2] at this
  exact this
theorem q_prove (b bt : Nat) (nb : Int) (q : Bool) (w : World) (hp : PtsIn w b 0 pulledP) (hi : IntsIn w bt 0 [0, 50, 100, 94, 125, 105]) (hq : ((97 : Int) == nb) = q) : Calls Try.prog 35 #[.agg #[.slice (some ⟨b, 0, none⟩) 6 6], .agg #[.int .i64 5, .int .i64 5, .int .i64 4], .slice (some ⟨bt, 0, none⟩) 6 6, .int .u8 2, .int .i64 nb] w
      fun e w' => e = .returned (.bool q) ∧ Below w.heap.size w w' := by
  have := ProveRead_ok (.slice (some ⟨bt, 0, none⟩) 6 6) 2 nb 81 82 (fun x => (x.ma, x.pl)) ⟨125, 4, 2, 100, 3, 97, 8430⟩ 5 5 4 (some ⟨b, 0, none⟩) 6 6 true q w kind2 rfl hq fun W hb => read_demo b bt W (hp.below hb (block_lt_of_cell (hp 0 (by decide)).1)) (hi.below hb (block_lt_of_cell (hi 0 (by decide))))
  rw [Bool.true_and] at this
  exact this
theorem q_check (b : Nat) (w : World) (d k o : Int) (hp : PtsIn w b 0 pulledP) : Calls Try.prog 48 #[.agg #[.slice (some ⟨b, 0, none⟩) 6 6, .int .i64 d, .int .i64 k, .int .i64 o]] w fun e w' => e = .returned (.int .i64 (bothE pulledP ⟨d, k, o⟩)) ∧ Below w.heap.size w w' :=
  rcheck_pts b 0 6 pulledP d k o w (by decide) (by decide) hp
theorem q_readShort (b bt : Nat) (w : World) (hp : PtsIn w b 0 pulledP) : Calls Try.prog 19 #[.agg #[.slice (some ⟨b, 0, none⟩) 6 6], .agg #[.int .i64 5, .int .i64 5, .int .i64 4], .slice (some ⟨bt, 0, none⟩) 5 5] w fun e w' => e = .returned (.tuple #[.agg zero37, .int .i64 2]) ∧ Below w.heap.size w w' :=
  Read_out (some ⟨b, 0, none⟩) (some ⟨bt, 0, none⟩) 6 6 5 5 5 5 4 w (fun W hb => by
    have := q_check b W 5 5 4 (hp.below hb (block_lt_of_cell (hp 0 (by decide)).1))
    rw [show bothE pulledP ⟨5, 5, 4⟩ = 0 from both_pulled] at this
    exact this) fun W _ => allows_ne _ _ _ _ _ _ W (by decide)
theorem q_proveShort (b bt : Nat) (w : World) (hp : PtsIn w b 0 pulledP) : Calls Try.prog 35 #[.agg #[.slice (some ⟨b, 0, none⟩) 6 6], .agg #[.int .i64 5, .int .i64 5, .int .i64 4], .slice (some ⟨bt, 0, none⟩) 5 5, .int .u8 2, .int .i64 97] w
      fun e w' => e = .returned (.bool false) ∧ Below w.heap.size w w' :=
  ProveRead_err (.slice (some ⟨bt, 0, none⟩) 5 5) 2 97 2 _ true 5 5 4 (some ⟨b, 0, none⟩) 6 6 w (.inl (by decide)) ⟨_, _, rfl, .inr ⟨_, _, rfl, rfl⟩⟩ qty2 ⟨0, 0, 0, 0, 0, 0, 0⟩ fun W hb => q_readShort b bt W (hp.below hb (block_lt_of_cell (hp 0 (by decide)).1))
theorem q_calm (b : Nat) (w : World) (hp : PtsIn w b 0 pulledP) : Calls Try.prog 28 #[.agg #[.slice (some ⟨b, 0, none⟩) 6 6], .agg #[.int .i64 1000, .int .i64 5, .int .i64 4], .int .u8 1] w
      fun e w' => e = .returned (.tuple #[.agg #[.int .i64 0, .int .i64 0], .int .i64 7]) ∧ Below w.heap.size w w' := by
  have := Span_kd b 0 6 1 pulledP calmP w saneCalm bothCalm (by omega) hp
  rw [spCalm] at this
  exact this
theorem q_far (b : Nat) (w : World) (hp : PtsIn w b 0 pulledP) : Calls Try.prog 34 #[.agg #[.slice (some ⟨b, 0, none⟩) 6 6], .agg #[.int .i64 5, .int .i64 5, .int .i64 900], .int .u8 2, .bool true] w
      fun e w' => e = .returned (.tuple #[.slice none 0 0, .int .i64 7]) ∧ Below w.heap.size w w' := by
  have := Shows_ok 81 82 b 0 6 2 true pulledP farP _ (fun x => (x.ma, x.pl)) w saneFar bothFar (truths_meet saneFar b 0 6) kind2 hp Clone_any
  rw [show bnd (numsL pulledP farP (fun x => (x.ma, x.pl)) (searchL pulledP (chM pulledP farP) (hpM pulledP farP))) = none by kernel_rfl] at this
  exact this.mono fun e w' ⟨v, he, hv, hb⟩ => ⟨by rw [he, show v = _ from hv], hb⟩
theorem q_span4 (b : Nat) (w : World) (hp : PtsIn w b 0 pulledP) : Calls Try.prog 28 #[.agg #[.slice (some ⟨b, 0, none⟩) 6 6], .agg #[.int .i64 5, .int .i64 5, .int .i64 4], .int .u8 4] w
      fun e w' => e = .returned (.tuple #[.agg #[.int .i64 0, .int .i64 0], .int .i64 2]) ∧ Below w.heap.size w w' :=
  Span_bad (some ⟨b, 0, none⟩) 6 6 4 5 5 4 2 w fun W hb => spanOf_kind (some ⟨b, 0, none⟩) 6 6 4 5 5 4 W (by omega) fun W2 hb2 => by
    have := q_check b W2 5 5 4 (hp.below (below_to hb hb2) (block_lt_of_cell (hp 0 (by decide)).1))
    rw [show bothE pulledP ⟨5, 5, 4⟩ = 0 from both_pulled] at this
    exact this
theorem q_111 (b bt : Nat) (w : World) (hp : PtsIn w b 0 pulledP) (hi : IntsIn w bt 0 [0, 50, 100, 94, 125, 111]) : Calls Try.prog 19 #[.agg #[.slice (some ⟨b, 0, none⟩) 6 6], .agg #[.int .i64 5, .int .i64 5, .int .i64 4], .slice (some ⟨bt, 0, none⟩) 6 6] w
      fun e w' => e = .returned (.tuple #[.agg #[.int .i64 0, .int .i64 0, .int .i64 0, .int .i64 0, .int .i64 0, .int .i64 0, .int .i64 0], .int .i64 2]) ∧ Below w.heap.size w w' :=
  Read_out (some ⟨b, 0, none⟩) (some ⟨bt, 0, none⟩) 6 6 6 6 5 5 4 w (fun W hb => by
    have := q_check b W 5 5 4 (hp.below hb (block_lt_of_cell (hp 0 (by decide)).1))
    rw [show bothE pulledP ⟨5, 5, 4⟩ = 0 from both_pulled] at this
    exact this) fun W hb => by
    have := allows_any b 0 6 bt 0 6 pulledP [0, 50, 100, 94, 125, 111] W (by decide) (by decide) (hp.below hb (block_lt_of_cell (hp 0 (by decide)).1)) rfl (hi.below hb (block_lt_of_cell (hi 0 (by decide))))
    rw [show fitsB pulledP [0, 50, 100, 94, 125, 111] 0 = false by kernel_rfl] at this
    exact this
theorem q_noRule (b : Nat) (tl : Value) (w : World) (hp : PtsIn w b 0 pulledP) : Calls Try.prog 19 #[.agg #[.slice (some ⟨b, 0, none⟩) 6 6], .agg #[.int .i64 0, .int .i64 1, .int .i64 0], tl] w
      fun e w' => e = .returned (.tuple #[.agg #[.int .i64 0, .int .i64 0, .int .i64 0, .int .i64 0, .int .i64 0, .int .i64 0, .int .i64 0], .int .i64 1]) ∧ Below w.heap.size w w' :=
  Read_err (some ⟨b, 0, none⟩) 6 6 tl 0 1 0 1 w (by omega) fun W hb => by
    have := q_check b W 0 1 0 (hp.below hb (block_lt_of_cell (hp 0 (by decide)).1))
    rw [show bothE pulledP ⟨0, 1, 0⟩ = 1 by kernel_rfl] at this
    exact this
theorem q_one (b bt : Nat) (w : World) (hp : PtsIn w b 0 [⟨5, 7, 9⟩]) (hi : IntsIn w bt 0 [8]) : Calls Try.prog 19 #[.agg #[.slice (some ⟨b, 0, none⟩) 1 1], .agg #[.int .i64 1, .int .i64 2, .int .i64 1], .slice (some ⟨bt, 0, none⟩) 1 1] w
      fun e w' => e = .returned (.tuple #[.agg #[.int .i64 8, .int .i64 0, .int .i64 (-1), .int .i64 0, .int .i64 0, .int .i64 8, .int .i64 0], .int .i64 0]) ∧ Below w.heap.size w w' := by
  have := Read_ok b 0 1 bt 0 1 [⟨5, 7, 9⟩] ⟨1, 2, 1⟩ [8] w goodOne hp hi
  rw [rdOne] at this
  exact this
theorem one_pts {w : World} {B : Nat} (h : w.heap[B]? = some (.cells #[.int .i64 5, .int .i64 7, .int .i64 9] 74 (0, 0))) : PtsIn w B 0 [⟨5, 7, 9⟩] := fun i hi => by
  have : i < 1 := hi
  have hc := fun j => cell_of_row w B j _ _ _ h
  match i, this with
  | 0, _ => exact ⟨hc 0, hc 1, hc 2⟩
theorem row_pts_same {w : World} {B : Nat} (h : w.heap[B]? = some (.cells (rowP.setIfInBounds 3 (.int .i64 0)) 74 (0, 0))) : PtsIn w B 0 [⟨0, 0, 0⟩, ⟨0, 48, 52⟩, ⟨20, 95, 105⟩, ⟨30, 90, 96⟩, ⟨40, 120, 130⟩, ⟨50, 100, 110⟩] := fun i hi => by
  have : i < 6 := hi
  have hc := fun j => cell_of_row w B j _ _ _ h
  match i, this with
  | 0, _ => exact ⟨hc 0, hc 1, hc 2⟩
  | 1, _ => exact ⟨hc 3, hc 4, hc 5⟩
  | 2, _ => exact ⟨hc 6, hc 7, hc 8⟩
  | 3, _ => exact ⟨hc 9, hc 10, hc 11⟩
  | 4, _ => exact ⟨hc 12, hc 13, hc 14⟩
  | 5, _ => exact ⟨hc 15, hc 16, hc 17⟩
theorem row_pts_odd {w : World} {B : Nat} (h : w.heap[B]? = some (.cells (rowP.setIfInBounds 4 (.int .i64 53)) 74 (0, 0))) : PtsIn w B 0 [⟨0, 0, 0⟩, ⟨10, 53, 52⟩, ⟨20, 95, 105⟩, ⟨30, 90, 96⟩, ⟨40, 120, 130⟩, ⟨50, 100, 110⟩] := fun i hi => by
  have : i < 6 := hi
  have hc := fun j => cell_of_row w B j _ _ _ h
  match i, this with
  | 0, _ => exact ⟨hc 0, hc 1, hc 2⟩
  | 1, _ => exact ⟨hc 3, hc 4, hc 5⟩
  | 2, _ => exact ⟨hc 6, hc 7, hc 8⟩
  | 3, _ => exact ⟨hc 9, hc 10, hc 11⟩
  | 4, _ => exact ⟨hc 12, hc 13, hc 14⟩
  | 5, _ => exact ⟨hc 15, hc 16, hc 17⟩
theorem info74 : ∃ i z, Try.prog.info? 74 = some i ∧ i.zero = some z ∧ i.bytes = 24 := by
  have h2 : (Try.prog.info? 74).map (·.bytes) = some 24 := by kernel_rfl
  have h3 : ((Try.prog.info? 74).bind (·.zero)).map (·.cells.size) = some 3 := by kernel_rfl
  cases h : Try.prog.info? 74 with
  | none => simp [h] at h2
  | some i =>
    simp [h] at h2 h3
    obtain ⟨z, hz, _⟩ := h3
    exact ⟨i, z, rfl, hz, h2⟩
theorem make21 : ∃ M : Array Value, ∀ w, (Instr.makeSlice 32 (.int .i64 21) (.int .i64 21)).run Try.prog w = .ok (.slice (some ⟨w.heap.size, 0, none⟩) 21 21) (w.alloc (.cells M 74)) := by
  obtain ⟨i, z, hi, hz, hb⟩ := info74
  exact ⟨_, fun w => run_make w 32 74 i z u32' hi hz .i64 .i64 21 21 (by omega) (by omega) (by omega) (by omega)⟩
theorem q_many (b : Nat) (w : World) : Calls Try.prog 17 #[.agg #[.slice (some ⟨b, 0, none⟩) 21 21]] w fun e w' => e = .returned (.int .i64 3) ∧ Below w.heap.size w w' :=
  CheckCurve_of _ 3 w fun W _ => check_long _ 21 21 W (by omega) (by decide)
theorem q_none (w : World) : Calls Try.prog 17 #[.agg #[.slice none 0 0]] w fun e w' => e = .returned (.int .i64 1) ∧ Below w.heap.size w w' :=
  CheckCurve_of _ 1 w fun W _ => check_empty W none 0
theorem q_bad (b : Nat) (ps : List Pt) (w : World) (hn : ps.length = 6) (hg : ptsE ps = 1) (hp : PtsIn w b 0 ps) : Calls Try.prog 17 #[.agg #[.slice (some ⟨b, 0, none⟩) 6 6]] w fun e w' => e = .returned (.int .i64 1) ∧ Below w.heap.size w w' :=
  CheckCurve_of _ 1 w fun W hb => by
    have := check_pts b 0 6 ps W (by omega) (by omega) (hp.below hb (block_lt_of_cell (hp 0 (by omega)).1))
    rw [hn, hg] at this
    exact this
end Go.Proofs.Ytfjlnejeffkdoaa

namespace Go.Proofs.Ytfjlnejeffkdoaa
open Go.RowKit Go.Shelf
attribute [local irreducible] arrV wpQuiet

theorem listV_new (w : World) (l : List Int) : ListV (w.alloc (.cells (l.map (Value.int .i64)).toArray 3 (0, 0))) (.slice (some ⟨w.heap.size, 0, none⟩) l.length l.length) l := ⟨_, _, rfl, fun _ => ⟨_, rfl, intsIn_new w l⟩⟩

set_option maxRecDepth 100000 in
set_option maxHeartbeats 8000000 in
theorem names_any (w0 : World) : Calls Try.prog 7 #[] w0 fun e w' => e = .returned (.bool true) ∧ Below w0.heap.size w0 w' := by
  have HP := Lib.hid pulled_row
  have HR := Lib.hid rule_any
  have HA := Lib.hid awake_any
  have HB : Hid (Below w0.heap.size w0 w0) := Lib.hid (Below.refl _ _)
  go_enter Try.func7, Try.ntmps7
  go_wp2_with fail
  refine (HP.out _).mono ?_
  rintro e w1 ⟨B1, rfl, hB, hp, hb1⟩
  have hg1 : Below w0.heap.size w0 w1 := hb1
  replace HB := Lib.hid (grow_to HB.out hg1)
  have P1 := Lib.hid (row_pts hp)
  clear hB hp hb1 hg1
  go_wp2_with fail
  refine (HR.out _).mono ?_
  rintro e w2 ⟨rfl, hb2⟩
  have hg2 : Below w1.heap.size w1 w2 := hb2
  replace P1 := Lib.hid (P1.out.below hg2 (block_lt_of_cell (P1.out 0 (by decide)).1))
  replace HB := Lib.hid (grow_to HB.out hg2)
  clear hb2 hg2
  go_wp2_with fail
  refine (q_span0 B1 _ P1.out).mono ?_
  rintro e w3 ⟨rfl, hb3⟩
  have hg3 : Below w2.heap.size w2 w3 := hb3
  replace P1 := Lib.hid (P1.out.below hg3 (block_lt_of_cell (P1.out 0 (by decide)).1))
  replace HB := Lib.hid (grow_to HB.out hg3)
  clear hb3 hg3
  clear P1
  have X1 := Lib.hid (heap_alloc_new w3 (.cells #[.int .i64 120, .int .i64 130] 51))
  have hal := grow_alloc w3 (.cells #[.int .i64 120, .int .i64 130] 51)
  go_wp2_with fail
  refine (HP.out _).mono ?_
  rintro e w4 ⟨B4, rfl, hB, hp, hb4⟩
  have hg4 : Below w3.heap.size w3 w4 := grow_to hal hb4
  replace X1 := Lib.hid ((hb4.block _ (lt_of_block X1.out)).trans X1.out)
  replace HB := Lib.hid (grow_to HB.out hg4)
  generalize w3.heap.size = nX1 at *
  have P2 := Lib.hid (row_pts hp)
  clear hB hp hb4 hg4 hal
  go_wp2_with fail
  refine (HR.out _).mono ?_
  rintro e w5 ⟨rfl, hb5⟩
  have hg5 : Below w4.heap.size w4 w5 := hb5
  replace X1 := Lib.hid ((hg5.block _ (lt_of_block X1.out)).trans X1.out)
  replace P2 := Lib.hid (P2.out.below hg5 (block_lt_of_cell (P2.out 0 (by decide)).1))
  replace HB := Lib.hid (grow_to HB.out hg5)
  clear hb5 hg5
  go_wp2_with fail
  refine (q_span3 B4 _ P2.out).mono ?_
  rintro e w6 ⟨rfl, hb6⟩
  have hg6 : Below w5.heap.size w5 w6 := hb6
  replace X1 := Lib.hid ((hg6.block _ (lt_of_block X1.out)).trans X1.out)
  replace P2 := Lib.hid (P2.out.below hg6 (block_lt_of_cell (P2.out 0 (by decide)).1))
  replace HB := Lib.hid (grow_to HB.out hg6)
  clear hb6 hg6
  clear P2
  have X3 := Lib.hid (heap_alloc_new w6 (.cells #[.int .i64 8060, .int .i64 8760] 51))
  have hal := grow_alloc w6 (.cells #[.int .i64 8060, .int .i64 8760] 51)
  go_wp2_with fail
  refine (HP.out _).mono ?_
  rintro e w7 ⟨B7, rfl, hB, hp, hb7⟩
  have hg7 : Below w6.heap.size w6 w7 := grow_to hal hb7
  replace X1 := Lib.hid ((hg7.block _ (lt_of_block X1.out)).trans X1.out)
  replace X3 := Lib.hid ((hb7.block _ (lt_of_block X3.out)).trans X3.out)
  replace HB := Lib.hid (grow_to HB.out hg7)
  generalize w6.heap.size = nX3 at *
  have P3 := Lib.hid (row_pts hp)
  clear hB hp hb7 hg7 hal
  go_wp2_with fail
  refine (HR.out _).mono ?_
  rintro e w8 ⟨rfl, hb8⟩
  have hg8 : Below w7.heap.size w7 w8 := hb8
  replace X1 := Lib.hid ((hg8.block _ (lt_of_block X1.out)).trans X1.out)
  replace X3 := Lib.hid ((hg8.block _ (lt_of_block X3.out)).trans X3.out)
  replace P3 := Lib.hid (P3.out.below hg8 (block_lt_of_cell (P3.out 0 (by decide)).1))
  replace HB := Lib.hid (grow_to HB.out hg8)
  clear hb8 hg8
  go_wp2_with fail
  refine (q_points B7 _ P3.out).mono ?_
  rintro e w9 ⟨y0, y1, y2, rfl, hv0, hv1, hv2, hb9⟩
  have hg9 : Below w8.heap.size w8 w9 := hb9
  replace X1 := Lib.hid ((hg9.block _ (lt_of_block X1.out)).trans X1.out)
  replace X3 := Lib.hid ((hg9.block _ (lt_of_block X3.out)).trans X3.out)
  replace P3 := Lib.hid (P3.out.below hg9 (block_lt_of_cell (P3.out 0 (by decide)).1))
  replace HB := Lib.hid (grow_to HB.out hg9)
  have V0 := Lib.hid hv0
  have V1 := Lib.hid hv1
  have V2 := Lib.hid hv2
  clear hv0 hv1 hv2
  clear hb9 hg9
  clear P3
  have cX10 := cell_of_row w9 nX1 0 _ _ _ X1.out
  have cX11 := cell_of_row w9 nX1 1 _ _ _ X1.out
  have cX30 := cell_of_row w9 nX3 0 _ _ _ X3.out
  have cX31 := cell_of_row w9 nX3 1 _ _ _ X3.out
  simp at cX10 cX11 cX30 cX31
  have e51a : ∀ w, (binOp .neq 51 (.agg #[.int .i64 120, .int .i64 130]) (.agg #[.int .i64 120, .int .i64 130])).run Try.prog w = .ok (.bool false) w := fun w => by kernel_rfl
  have e51b : ∀ w, (binOp .neq 51 (.agg #[.int .i64 8060, .int .i64 8760]) (.agg #[.int .i64 8060, .int .i64 8760])).run Try.prog w = .ok (.bool false) w := fun w => by kernel_rfl
  have m51 := gd51
  go_wp2_with fail
  refine (ints_same y0 _ [4] _ (by decide) (V0.out.below (grow_alloc w9 _)) (listV_new w9 [4])).mono ?_
  rintro e w10 ⟨rfl, hb10⟩
  have hg10 : Below w9.heap.size w9 w10 := grow_to (grow_alloc w9 _) hb10
  replace V1 := Lib.hid (V1.out.below hg10)
  replace V2 := Lib.hid (V2.out.below hg10)
  replace HB := Lib.hid (grow_to HB.out hg10)
  clear cX10 cX11 cX30 cX31 e51a e51b m51 X1 X3 V0
  clear hb10 hg10
  go_wp2_with fail
  refine (ints_same y1 _ [2, 4] _ (by decide) (V1.out.below (grow_alloc w10 _)) (listV_new w10 [2, 4])).mono ?_
  rintro e w11 ⟨rfl, hb11⟩
  have hg11 : Below w10.heap.size w10 w11 := grow_to (grow_alloc w10 _) hb11
  replace V1 := Lib.hid (V1.out.below hg11)
  replace V2 := Lib.hid (V2.out.below hg11)
  replace HB := Lib.hid (grow_to HB.out hg11)
  clear hb11 hg11
  clear V1
  go_wp2_with fail
  refine (ints_same y2 _ [3] _ (by decide) (V2.out.below (grow_alloc w11 _)) (listV_new w11 [3])).mono ?_
  rintro e w12 ⟨rfl, hb12⟩
  have hg12 : Below w11.heap.size w11 w12 := grow_to (grow_alloc w11 _) hb12
  replace V2 := Lib.hid (V2.out.below hg12)
  replace HB := Lib.hid (grow_to HB.out hg12)
  clear hb12 hg12
  clear V2
  go_wp2_with fail
  refine (HP.out _).mono ?_
  rintro e w13 ⟨B13, rfl, hB, hp, hb13⟩
  have hg13 : Below w12.heap.size w12 w13 := hb13
  replace HB := Lib.hid (grow_to HB.out hg13)
  have P1 := Lib.hid (row_pts hp)
  clear hB hp hb13 hg13
  go_wp2_with fail
  refine (HR.out _).mono ?_
  rintro e w14 ⟨rfl, hb14⟩
  have hg14 : Below w13.heap.size w13 w14 := hb14
  replace P1 := Lib.hid (P1.out.below hg14 (block_lt_of_cell (P1.out 0 (by decide)).1))
  replace HB := Lib.hid (grow_to HB.out hg14)
  clear hb14 hg14
  go_wp2_with fail
  refine (q_prove B13 w14.heap.size 97 true _ (P1.out.below (grow_alloc w14 _) (block_lt_of_cell (P1.out 0 (by decide)).1)) (intsIn_new w14 [0, 50, 100, 94, 125, 105]) rfl).mono ?_
  rintro e w15 ⟨rfl, hb15⟩
  have hg15 : Below w14.heap.size w14 w15 := grow_to (grow_alloc w14 _) hb15
  replace P1 := Lib.hid (P1.out.below hg15 (block_lt_of_cell (P1.out 0 (by decide)).1))
  replace HB := Lib.hid (grow_to HB.out hg15)
  clear hb15 hg15
  clear P1
  go_wp2_with fail
  refine (HP.out _).mono ?_
  rintro e w16 ⟨B16, rfl, hB, hp, hb16⟩
  have hg16 : Below w15.heap.size w15 w16 := hb16
  replace HB := Lib.hid (grow_to HB.out hg16)
  have P1 := Lib.hid (row_pts hp)
  clear hB hp hb16 hg16
  go_wp2_with fail
  refine (HR.out _).mono ?_
  rintro e w17 ⟨rfl, hb17⟩
  have hg17 : Below w16.heap.size w16 w17 := hb17
  replace P1 := Lib.hid (P1.out.below hg17 (block_lt_of_cell (P1.out 0 (by decide)).1))
  replace HB := Lib.hid (grow_to HB.out hg17)
  clear hb17 hg17
  go_wp2_with fail
  refine (q_prove B16 w17.heap.size 98 false _ (P1.out.below (grow_alloc w17 _) (block_lt_of_cell (P1.out 0 (by decide)).1)) (intsIn_new w17 [0, 50, 100, 94, 125, 105]) rfl).mono ?_
  rintro e w18 ⟨rfl, hb18⟩
  have hg18 : Below w17.heap.size w17 w18 := grow_to (grow_alloc w17 _) hb18
  replace P1 := Lib.hid (P1.out.below hg18 (block_lt_of_cell (P1.out 0 (by decide)).1))
  replace HB := Lib.hid (grow_to HB.out hg18)
  clear hb18 hg18
  clear P1
  go_wp2_with fail
  refine (HP.out _).mono ?_
  rintro e w19 ⟨B19, rfl, hB, hp, hb19⟩
  have hg19 : Below w18.heap.size w18 w19 := hb19
  replace HB := Lib.hid (grow_to HB.out hg19)
  have P1 := Lib.hid (row_pts hp)
  clear hB hp hb19 hg19
  go_wp2_with fail
  refine (HR.out _).mono ?_
  rintro e w20 ⟨rfl, hb20⟩
  have hg20 : Below w19.heap.size w19 w20 := hb20
  replace P1 := Lib.hid (P1.out.below hg20 (block_lt_of_cell (P1.out 0 (by decide)).1))
  replace HB := Lib.hid (grow_to HB.out hg20)
  clear hb20 hg20
  go_wp2_with fail
  refine (q_proveShort B19 w20.heap.size _ (P1.out.below (grow_alloc w20 _) (block_lt_of_cell (P1.out 0 (by decide)).1))).mono ?_
  rintro e w21 ⟨rfl, hb21⟩
  have hg21 : Below w20.heap.size w20 w21 := grow_to (grow_alloc w20 _) hb21
  replace P1 := Lib.hid (P1.out.below hg21 (block_lt_of_cell (P1.out 0 (by decide)).1))
  replace HB := Lib.hid (grow_to HB.out hg21)
  clear hb21 hg21
  clear P1
  go_wp2_with fail
  refine (HR.out _).mono ?_
  rintro e w22 ⟨rfl, hb22⟩
  have hg22 : Below w21.heap.size w21 w22 := hb22
  replace HB := Lib.hid (grow_to HB.out hg22)
  clear hb22 hg22
  go_wp2_with fail
  refine (HR.out _).mono ?_
  rintro e w23 ⟨rfl, hb23⟩
  have hg23 : Below w22.heap.size w22 w23 := hb23
  replace HB := Lib.hid (grow_to HB.out hg23)
  clear hb23 hg23
  have hbx := below2 w23 (.cells #[.int .i64 1000, .int .i64 5, .int .i64 4] 40) (.cells #[.int .i64 5, .int .i64 5, .int .i64 900] 40)
  obtain ⟨hx1, hx2⟩ := box2 w23 (.cells #[.int .i64 1000, .int .i64 5, .int .i64 4] 40) (.cells #[.int .i64 5, .int .i64 5, .int .i64 900] 40)
  go_wp2
  generalize World.alloc (World.alloc w23 _) _ = v23 at *
  replace HB := Lib.hid (grow_to HB.out hbx)
  have R1 := Lib.hid hx1
  have R2 := Lib.hid hx2
  clear hbx hx1 hx2
  generalize w23.heap.size = nR at *
  clear w23
  refine wp_region_noPanic ?_
  refine wp_region_chain (fun w' => Below v23.heap.size v23 w') (fun _ _ h hb => grow_to h hb) (below_drawn _) (by kernel_rfl) (fun _ _ _ _ _ h => h)
    [(false, 1), (true, 0), (true, 2), (false, 3), (false, 4), (false, 5)] [6] (by kernel_rfl) ?_
  (refine Walk.takes rfl rfl ?_; apply Exists.intro; refine ⟨fun w' hS => ?_, ?_⟩; (have y := (hS.block _ (lt_of_block R1.out)).trans R1.out; have u0 := cell_of_row w' nR 0 _ _ _ y; have u1 := cell_of_row w' nR 1 _ _ _ y; have u2 := cell_of_row w' nR 2 _ _ _ y; (try simp at u0 u1 u2); clear y; clear hS; go_simp; with_reducible rfl); simp only [List.getElem_toArray, List.getElem_cons_succ, List.getElem_cons_zero, Act.put, List.setIfInBounds_toArray, List.set_cons_zero, List.set_cons_succ])
  refine Walk.calls rfl rfl ?_; apply Exists.intro; apply Exists.intro; refine ⟨fun w' hS => ?_, fun w' hba => ?_⟩; (clear hS; go_simp; exact ⟨rfl, rfl⟩)
  refine (HP.out w').mono ?_
  rintro e u1 ⟨BB, rfl, hB, hp, hbb⟩
  refine ⟨_, rfl, hbb, ?_⟩
  simp only [List.getElem_toArray, List.getElem_cons_succ, List.getElem_cons_zero, Act.put, List.setIfInBounds_toArray, List.set_cons_zero, List.set_cons_succ]
  have hp2 := row_pts hp
  clear hB hp hba hbb
  refine Walk.calls rfl rfl ?_; apply Exists.intro; apply Exists.intro; refine ⟨fun w' hS => ?_, fun w' hba => ?_⟩; (clear hS; go_simp; exact ⟨rfl, rfl⟩)
  refine (q_calm BB w' (hp2.below hba (block_lt_of_cell (hp2 0 (by decide)).1))).mono ?_
  rintro e u2 ⟨rfl, hbb⟩
  refine ⟨_, rfl, hbb, ?_⟩
  simp only [List.getElem_toArray, List.getElem_cons_succ, List.getElem_cons_zero, Act.put, List.setIfInBounds_toArray, List.set_cons_zero, List.set_cons_succ]
  clear hba hbb hp2
  (refine Walk.takes rfl rfl ?_; apply Exists.intro; refine ⟨fun w' hS => ?_, ?_⟩; (clear hS; go_simp; with_reducible rfl); simp only [List.getElem_toArray, List.getElem_cons_succ, List.getElem_cons_zero, Act.put, List.setIfInBounds_toArray, List.set_cons_zero, List.set_cons_succ])
  (refine Walk.takes rfl rfl ?_; apply Exists.intro; refine ⟨fun w' hS => ?_, ?_⟩; (clear hS; go_simp; with_reducible rfl); simp only [List.getElem_toArray, List.getElem_cons_succ, List.getElem_cons_zero, Act.put, List.setIfInBounds_toArray, List.set_cons_zero, List.set_cons_succ])
  (refine Walk.takes rfl rfl ?_; apply Exists.intro; refine ⟨fun w' hS => ?_, ?_⟩; (clear hS; go_simp; with_reducible rfl); simp only [List.getElem_toArray, List.getElem_cons_succ, List.getElem_cons_zero, Act.put, List.setIfInBounds_toArray, List.set_cons_zero, List.set_cons_succ])
  refine Walk.fin ?_
  intro va hb7 hS7
  clear hb7
  iterate 1
    (refine Tail.value rfl rfl (by go_simp; with_reducible rfl) ?_; simp only [List.getElem_toArray, List.getElem_cons_succ, List.getElem_cons_zero, Act.put, List.setIfInBounds_toArray, List.set_cons_zero, List.set_cons_succ])
  refine Tail.done (NoPanic.normal ?_)
  replace HB := Lib.hid (grow_to HB.out hS7)
  replace R2 := Lib.hid ((hS7.block _ (lt_of_block R2.out)).trans R2.out)
  clear R1
  clear hS7
  go_wp2
  refine wp_region_noPanic ?_
  refine wp_region_chain (fun w' => Below va.heap.size va w') (fun _ _ h hb => grow_to h hb) (below_drawn _) (by kernel_rfl) (fun _ _ _ _ _ h => h)
    [(false, 1), (true, 0), (true, 2), (false, 3), (false, 4), (false, 5)] [6] (by kernel_rfl) ?_
  (refine Walk.takes rfl rfl ?_; apply Exists.intro; refine ⟨fun w' hS => ?_, ?_⟩; (have y := (hS.block _ (lt_of_block R2.out)).trans R2.out; have u0 := cell_of_row w' (nR + 1) 0 _ _ _ y; have u1 := cell_of_row w' (nR + 1) 1 _ _ _ y; have u2 := cell_of_row w' (nR + 1) 2 _ _ _ y; (try simp at u0 u1 u2); clear y; clear hS; go_simp; with_reducible rfl); simp only [List.getElem_toArray, List.getElem_cons_succ, List.getElem_cons_zero, Act.put, List.setIfInBounds_toArray, List.set_cons_zero, List.set_cons_succ])
  refine Walk.calls rfl rfl ?_; apply Exists.intro; apply Exists.intro; refine ⟨fun w' hS => ?_, fun w' hba => ?_⟩; (clear hS; go_simp; exact ⟨rfl, rfl⟩)
  refine (HP.out w').mono ?_
  rintro e u1 ⟨BB, rfl, hB, hp, hbb⟩
  refine ⟨_, rfl, hbb, ?_⟩
  simp only [List.getElem_toArray, List.getElem_cons_succ, List.getElem_cons_zero, Act.put, List.setIfInBounds_toArray, List.set_cons_zero, List.set_cons_succ]
  have hp2 := row_pts hp
  clear hB hp hba hbb
  refine Walk.calls rfl rfl ?_; apply Exists.intro; apply Exists.intro; refine ⟨fun w' hS => ?_, fun w' hba => ?_⟩; (clear hS; go_simp; exact ⟨rfl, rfl⟩)
  refine (q_far BB w' (hp2.below hba (block_lt_of_cell (hp2 0 (by decide)).1))).mono ?_
  rintro e u2 ⟨rfl, hbb⟩
  refine ⟨_, rfl, hbb, ?_⟩
  simp only [List.getElem_toArray, List.getElem_cons_succ, List.getElem_cons_zero, Act.put, List.setIfInBounds_toArray, List.set_cons_zero, List.set_cons_succ]
  clear hba hbb hp2
  (refine Walk.takes rfl rfl ?_; apply Exists.intro; refine ⟨fun w' hS => ?_, ?_⟩; (clear hS; go_simp; with_reducible rfl); simp only [List.getElem_toArray, List.getElem_cons_succ, List.getElem_cons_zero, Act.put, List.setIfInBounds_toArray, List.set_cons_zero, List.set_cons_succ])
  (refine Walk.takes rfl rfl ?_; apply Exists.intro; refine ⟨fun w' hS => ?_, ?_⟩; (clear hS; go_simp; with_reducible rfl); simp only [List.getElem_toArray, List.getElem_cons_succ, List.getElem_cons_zero, Act.put, List.setIfInBounds_toArray, List.set_cons_zero, List.set_cons_succ])
  (refine Walk.takes rfl rfl ?_; apply Exists.intro; refine ⟨fun w' hS => ?_, ?_⟩; (clear hS; go_simp; with_reducible rfl); simp only [List.getElem_toArray, List.getElem_cons_succ, List.getElem_cons_zero, Act.put, List.setIfInBounds_toArray, List.set_cons_zero, List.set_cons_succ])
  refine Walk.fin ?_
  intro wb hb7 hS7
  clear hb7
  iterate 1
    (refine Tail.value rfl rfl (by go_simp; with_reducible rfl) ?_; simp only [List.getElem_toArray, List.getElem_cons_succ, List.getElem_cons_zero, Act.put, List.setIfInBounds_toArray, List.set_cons_zero, List.set_cons_succ])
  refine Tail.done (NoPanic.normal ?_)
  replace HB := Lib.hid (grow_to HB.out hS7)
  clear R2
  clear hS7
  clear u2
  obtain ⟨w24, rfl⟩ : ∃ w24, w24 = wb := ⟨_, rfl⟩
  go_wp2_with fail
  refine (HP.out _).mono ?_
  rintro e w25 ⟨B25, rfl, hB, hp, hb25⟩
  have hg25 : Below w24.heap.size w24 w25 := hb25
  replace HB := Lib.hid (grow_to HB.out hg25)
  have P1 := Lib.hid (row_pts hp)
  clear hB hp hb25 hg25
  go_wp2_with fail
  refine (HR.out _).mono ?_
  rintro e w26 ⟨rfl, hb26⟩
  have hg26 : Below w25.heap.size w25 w26 := hb26
  replace P1 := Lib.hid (P1.out.below hg26 (block_lt_of_cell (P1.out 0 (by decide)).1))
  replace HB := Lib.hid (grow_to HB.out hg26)
  clear hb26 hg26
  go_wp2_with fail
  refine (q_span4 B25 _ P1.out).mono ?_
  rintro e w27 ⟨rfl, hb27⟩
  have hg27 : Below w26.heap.size w26 w27 := hb27
  replace P1 := Lib.hid (P1.out.below hg27 (block_lt_of_cell (P1.out 0 (by decide)).1))
  replace HB := Lib.hid (grow_to HB.out hg27)
  clear hb27 hg27
  clear P1
  go_wp2_with fail
  refine (HP.out _).mono ?_
  rintro e w28 ⟨B28, rfl, hB, hp, hb28⟩
  have hg28 : Below w27.heap.size w27 w28 := hb28
  replace HB := Lib.hid (grow_to HB.out hg28)
  have P1 := Lib.hid (row_pts hp)
  clear hB hp hb28 hg28
  go_wp2_with fail
  refine (HR.out _).mono ?_
  rintro e w29 ⟨rfl, hb29⟩
  have hg29 : Below w28.heap.size w28 w29 := hb29
  replace P1 := Lib.hid (P1.out.below hg29 (block_lt_of_cell (P1.out 0 (by decide)).1))
  replace HB := Lib.hid (grow_to HB.out hg29)
  clear hb29 hg29
  go_wp2_with fail
  refine (q_111 B28 w29.heap.size _ (P1.out.below (grow_alloc w29 _) (block_lt_of_cell (P1.out 0 (by decide)).1)) (intsIn_new w29 [0, 50, 100, 94, 125, 111])).mono ?_
  rintro e w30 ⟨rfl, hb30⟩
  have hg30 : Below w29.heap.size w29 w30 := grow_to (grow_alloc w29 _) hb30
  replace P1 := Lib.hid (P1.out.below hg30 (block_lt_of_cell (P1.out 0 (by decide)).1))
  replace HB := Lib.hid (grow_to HB.out hg30)
  clear hb30 hg30
  clear P1
  go_wp2_with fail
  refine (HP.out _).mono ?_
  rintro e w31 ⟨B31, rfl, hB, hp, hb31⟩
  have hg31 : Below w30.heap.size w30 w31 := grow_to (grow_alloc w30 _) hb31
  replace HB := Lib.hid (grow_to HB.out hg31)
  have P1 := Lib.hid (row_pts hp)
  clear hB hp hb31 hg31
  go_wp2_with fail
  refine (q_noRule B31 _ _ (P1.out.below (grow_alloc w31 _) (block_lt_of_cell (P1.out 0 (by decide)).1))).mono ?_
  rintro e w32 ⟨rfl, hb32⟩
  have hg32 : Below w31.heap.size w31 w32 := grow_to (grow_alloc w31 _) hb32
  replace P1 := Lib.hid (P1.out.below hg32 (block_lt_of_cell (P1.out 0 (by decide)).1))
  replace HB := Lib.hid (grow_to HB.out hg32)
  clear hb32 hg32
  clear P1
  go_wp2_with fail
  refine (at_any 5 7 9 _).mono ?_
  rintro e w33 ⟨rfl, hb33⟩
  have hg33 : Below w32.heap.size w32 w33 := grow_to (grow_alloc w32 _) hb33
  replace HB := Lib.hid (grow_to HB.out hg33)
  clear hb33 hg33
  go_wp2_with fail
  refine (q_one w33.heap.size (w33.heap.size + 1) _ (one_pts (box2 w33 (.cells #[.int .i64 5, .int .i64 7, .int .i64 9] 74) (.cells #[.int .i64 8] 3)).1) (by have h := intsIn_new (w33.alloc (.cells #[.int .i64 5, .int .i64 7, .int .i64 9] 74)) [8]; rw [World.size_alloc] at h; exact h)).mono ?_
  rintro e w34 ⟨rfl, hb34⟩
  have hg34 : Below w33.heap.size w33 w34 := grow_to (below2 w33 (.cells #[.int .i64 5, .int .i64 7, .int .i64 9] 74) (.cells #[.int .i64 8] 3)) hb34
  replace HB := Lib.hid (grow_to HB.out hg34)
  clear hb34 hg34
  have X15 := Lib.hid (heap_alloc_new w34 (.cells #[.int .i64 8, .int .i64 0, .int .i64 (-1), .int .i64 0, .int .i64 0, .int .i64 8, .int .i64 0] 37))
  have hal := grow_alloc w34 (.cells #[.int .i64 8, .int .i64 0, .int .i64 (-1), .int .i64 0, .int .i64 0, .int .i64 8, .int .i64 0] 37)
  go_wp2_with fail
  refine (HP.out _).mono ?_
  rintro e w35 ⟨B35, rfl, hB, hp, hb35⟩
  have hg35 : Below w34.heap.size w34 w35 := grow_to hal hb35
  replace X15 := Lib.hid ((hb35.block _ (lt_of_block X15.out)).trans X15.out)
  replace HB := Lib.hid (grow_to HB.out hg35)
  generalize w34.heap.size = nX15 at *
  have Pm := Lib.hid (row_pts hp)
  clear hB hp hb35 hg35 hal
  have HZ0 := HB.out.size
  have HZX := Lib.hid (lt_of_block X15.out)
  go_wp2_with fail
  refine (HP.out _).mono ?_
  rintro e w36 ⟨B36, rfl, hB, hp, hb36⟩
  have hg36 : Below w35.heap.size w35 w36 := hb36
  replace X15 := Lib.hid ((hg36.block _ (lt_of_block X15.out)).trans X15.out)
  replace Pm := Lib.hid (Pm.out.below hg36 (block_lt_of_cell (Pm.out 0 (by decide)).1))
  replace HB := Lib.hid (grow_to HB.out hg36)
  have HNS := Lib.hid (Nat.le_trans HZ0 hB)
  have HNX := Lib.hid (Nat.lt_of_lt_of_le HZX.out hB)
  have Ps := Lib.hid hp
  clear hB hp hb36 hg36 HZ0
  have HL36 := Lib.hid (lt_of_block Ps.out)
  go_wp2_with fail
  refine (HP.out _).mono ?_
  rintro e w37 ⟨B37, rfl, hB, hp, hb37⟩
  have hg37 : Below w36.heap.size w36 w37 := hb37
  replace X15 := Lib.hid ((hg37.block _ (lt_of_block X15.out)).trans X15.out)
  replace Pm := Lib.hid (Pm.out.below hg37 (block_lt_of_cell (Pm.out 0 (by decide)).1))
  replace Ps := Lib.hid ((hg37.block _ (lt_of_block Ps.out)).trans Ps.out)
  replace HB := Lib.hid (grow_to HB.out hg37)
  have HNE := Lib.hid (Nat.lt_of_lt_of_le HL36.out hB)
  have Po := Lib.hid hp
  clear hB hp hb37 hg37 HL36
  obtain ⟨M, hmk⟩ := make21
  go_upto_region 16 with fail
  clear hmk
  obtain ⟨hA, hBb, hCc⟩ := box3 w37 (.cells #[.slice (some ⟨w37.heap.size + 1 + 1 + 1, 0, none⟩) 21 21] 34) (.cells #[.slice (some ⟨B36, 0, none⟩) 6 6] 34) (.cells #[.slice (some ⟨B37, 0, none⟩) 6 6] 34)
  have hb3 := below3 w37 (.cells #[.slice (some ⟨w37.heap.size + 1 + 1 + 1, 0, none⟩) 21 21] 34) (.cells #[.slice (some ⟨B36, 0, none⟩) 6 6] 34) (.cells #[.slice (some ⟨B37, 0, none⟩) 6 6] 34)
  have hal := grow_alloc (((w37.alloc (.cells #[.slice (some ⟨w37.heap.size + 1 + 1 + 1, 0, none⟩) 21 21] 34)).alloc (.cells #[.slice (some ⟨B36, 0, none⟩) 6 6] 34)).alloc (.cells #[.slice (some ⟨B37, 0, none⟩) 6 6] 34)) (.cells M 74)
  replace hA := (hal.block _ (lt_of_block hA)).trans hA
  replace hBb := (hal.block _ (lt_of_block hBb)).trans hBb
  replace hCc := (hal.block _ (lt_of_block hCc)).trans hCc
  have hg := grow_to hb3 hal
  generalize World.alloc (World.alloc (World.alloc (World.alloc w37 _) _) _) _ = v0 at *
  replace X15 := Lib.hid ((hg.block _ (lt_of_block X15.out)).trans X15.out)
  have hlPs := lt_of_block Ps.out
  replace Ps := Lib.hid ((hg.block _ (lt_of_block Ps.out)).trans Ps.out)
  have hlPo := lt_of_block Po.out
  replace Po := Lib.hid ((hg.block _ (lt_of_block Po.out)).trans Po.out)
  have HB18 := Lib.hid (grow_to HB.out hg)
  have HXA := Lib.hid hA
  have HXB := Lib.hid hBb
  have HXC := Lib.hid hCc
  clear hb3 hal hg hA hBb hCc HB Pm
  have NE1 : Hid (B36 < B37 ∧ B37 < w37.heap.size) := Lib.hid ⟨HNE.out, hlPo⟩
  clear hlPs hlPo
  have b0 := cell_of_row v0 (w37.heap.size + 1) 0 _ _ _ HXB.out
  have a3 := cell_of_row v0 B36 3 _ _ _ Ps.out
  have z3 := frozen_of_row v0 B36 3 _ _ Ps.out
  have l3 := lt_of_block Ps.out
  simp at b0
  simp [rowP] at a3
  go_upto_region 17 with fail
  clear b0 a3 z3 l3
  have n1 := heap_setCell_same v0 B36 3 _ 74 (.int .i64 0) Ps.out
  have oth : ∀ j, j ≠ B36 → (v0.setCell ⟨B36, 3, none⟩ (.int .i64 0)).heap[j]? = v0.heap[j]? := fun j hj => heap_setCell_other _ ⟨B36, 3, none⟩ j _ (by exact fun e => hj e)
  have hbs := HB18.out.setCell (p := ⟨B36, 3, none⟩) (show w0.heap.size ≤ B36 from by have := HNS.out; have := NE1.out; omega) (.int .i64 0)
  generalize World.setCell v0 _ _ = v1 at *
  replace HXA := Lib.hid ((oth (w37.heap.size) (by have := NE1.out; omega)).trans HXA.out)
  replace HXB := Lib.hid ((oth (w37.heap.size + 1) (by have := NE1.out; omega)).trans HXB.out)
  replace HXC := Lib.hid ((oth (w37.heap.size + 1 + 1) (by have := NE1.out; omega)).trans HXC.out)
  replace X15 := Lib.hid ((oth nX15 (by have := NE1.out; have := HNX.out; omega)).trans X15.out)
  replace Po := Lib.hid ((oth B37 (by have := NE1.out; omega)).trans Po.out)
  replace Ps := Lib.hid n1
  replace HB18 := Lib.hid hbs
  clear n1 oth hbs
  clear v0
  have b0 := cell_of_row v1 (w37.heap.size + 1 + 1) 0 _ _ _ HXC.out
  have a3 := cell_of_row v1 B37 4 _ _ _ Po.out
  have z3 := frozen_of_row v1 B37 4 _ _ Po.out
  have l3 := lt_of_block Po.out
  simp at b0
  simp [rowP] at a3
  go_upto_region 18 with fail
  clear b0 a3 z3 l3
  have n1 := heap_setCell_same v1 B37 4 _ 74 (.int .i64 53) Po.out
  have oth : ∀ j, j ≠ B37 → (v1.setCell ⟨B37, 4, none⟩ (.int .i64 53)).heap[j]? = v1.heap[j]? := fun j hj => heap_setCell_other _ ⟨B37, 4, none⟩ j _ (by exact fun e => hj e)
  have hbs := HB18.out.setCell (p := ⟨B37, 4, none⟩) (show w0.heap.size ≤ B37 from by have := HNS.out; have := NE1.out; omega) (.int .i64 53)
  generalize World.setCell v1 _ _ = v2 at *
  replace HXA := Lib.hid ((oth (w37.heap.size) (by have := NE1.out; omega)).trans HXA.out)
  replace HXB := Lib.hid ((oth (w37.heap.size + 1) (by have := NE1.out; omega)).trans HXB.out)
  replace HXC := Lib.hid ((oth (w37.heap.size + 1 + 1) (by have := NE1.out; omega)).trans HXC.out)
  replace X15 := Lib.hid ((oth nX15 (by have := NE1.out; have := HNX.out; omega)).trans X15.out)
  replace Ps := Lib.hid ((oth B36 (by have := NE1.out; omega)).trans Ps.out)
  replace Po := Lib.hid n1
  replace HB18 := Lib.hid hbs
  clear n1 oth hbs
  clear v1
  have x0 := cell_of_row v2 nX15 0 _ _ _ X15.out
  have x1 := cell_of_row v2 nX15 1 _ _ _ X15.out
  have x2 := cell_of_row v2 nX15 2 _ _ _ X15.out
  have x3 := cell_of_row v2 nX15 3 _ _ _ X15.out
  have x4 := cell_of_row v2 nX15 4 _ _ _ X15.out
  have x5 := cell_of_row v2 nX15 5 _ _ _ X15.out
  have x6 := cell_of_row v2 nX15 6 _ _ _ X15.out
  simp at x0 x1 x2 x3 x4 x5 x6
  have bA := cell_of_row v2 (w37.heap.size) 0 _ _ _ HXA.out
  simp at bA
  have e37 : ∀ w, (binOp .eql 37 (.agg #[.int .i64 8, .int .i64 0, .int .i64 (-1), .int .i64 0, .int .i64 0, .int .i64 8, .int .i64 0]) (.agg #[.int .i64 8, .int .i64 0, .int .i64 (-1), .int .i64 0, .int .i64 0, .int .i64 8, .int .i64 0])).run Try.prog w = .ok (.bool true) w := fun w => by kernel_rfl
  have m37 := gd37
  go_wp2_with fail
  clear x0 x1 x2 x3 x4 x5 x6 e37 m37 bA
  refine (q_many _ v2).mono ?_
  rintro e v3 ⟨rfl, hb2⟩
  replace HXA := Lib.hid ((hb2.block _ (lt_of_block HXA.out)).trans HXA.out)
  replace HXB := Lib.hid ((hb2.block _ (lt_of_block HXB.out)).trans HXB.out)
  replace HXC := Lib.hid ((hb2.block _ (lt_of_block HXC.out)).trans HXC.out)
  replace Ps := Lib.hid ((hb2.block _ (lt_of_block Ps.out)).trans Ps.out)
  replace Po := Lib.hid ((hb2.block _ (lt_of_block Po.out)).trans Po.out)
  replace HB18 := Lib.hid (grow_to HB18.out hb2)
  clear hb2
  have bA := cell_of_row v3 (w37.heap.size + 1) 0 _ _ _ HXB.out
  simp at bA
  go_wp2_with fail
  clear bA
  refine (q_bad B36 _ v3 rfl (by kernel_rfl) (row_pts_same Ps.out)).mono ?_
  rintro e v4 ⟨rfl, hb3⟩
  replace HXA := Lib.hid ((hb3.block _ (lt_of_block HXA.out)).trans HXA.out)
  replace HXB := Lib.hid ((hb3.block _ (lt_of_block HXB.out)).trans HXB.out)
  replace HXC := Lib.hid ((hb3.block _ (lt_of_block HXC.out)).trans HXC.out)
  replace Ps := Lib.hid ((hb3.block _ (lt_of_block Ps.out)).trans Ps.out)
  replace Po := Lib.hid ((hb3.block _ (lt_of_block Po.out)).trans Po.out)
  replace HB18 := Lib.hid (grow_to HB18.out hb3)
  clear hb3
  have bA := cell_of_row v4 (w37.heap.size + 1 + 1) 0 _ _ _ HXC.out
  simp at bA
  go_wp2_with fail
  clear bA
  refine (q_bad B37 _ v4 rfl (by kernel_rfl) (row_pts_odd Po.out)).mono ?_
  rintro e v5 ⟨rfl, hb4⟩
  replace HXA := Lib.hid ((hb4.block _ (lt_of_block HXA.out)).trans HXA.out)
  replace HXB := Lib.hid ((hb4.block _ (lt_of_block HXB.out)).trans HXB.out)
  replace HXC := Lib.hid ((hb4.block _ (lt_of_block HXC.out)).trans HXC.out)
  replace Ps := Lib.hid ((hb4.block _ (lt_of_block Ps.out)).trans Ps.out)
  replace Po := Lib.hid ((hb4.block _ (lt_of_block Po.out)).trans Po.out)
  replace HB18 := Lib.hid (grow_to HB18.out hb4)
  clear hb4
  go_wp2_with fail
  refine (q_none v5).mono ?_
  rintro e v6 ⟨rfl, hb5⟩
  replace HXA := Lib.hid ((hb5.block _ (lt_of_block HXA.out)).trans HXA.out)
  replace HXB := Lib.hid ((hb5.block _ (lt_of_block HXB.out)).trans HXB.out)
  replace HXC := Lib.hid ((hb5.block _ (lt_of_block HXC.out)).trans HXC.out)
  replace Ps := Lib.hid ((hb5.block _ (lt_of_block Ps.out)).trans Ps.out)
  replace Po := Lib.hid ((hb5.block _ (lt_of_block Po.out)).trans Po.out)
  replace HB18 := Lib.hid (grow_to HB18.out hb5)
  clear hb5
  go_wp2_with fail
  refine (HA.out _).mono ?_
  rintro e v7 ⟨rfl, hb9⟩
  have hbf := grow_to HB18.out hb9
  clear hb9
  go_wp2
  go_ret
  exact ⟨rfl, hbf⟩
end Go.Proofs.Ytfjlnejeffkdoaa

namespace Go.Proofs.Ytfjlnejeffkdoaa
open Go.ChangeShapes Go.WideShapes Go.ChangeAt Go.RowKit
attribute [local irreducible] arrV

set_option maxRecDepth 100000 in
theorem names_lifted (os : Os) (started : os.Started) (H : Type) (enc : TypeId × Value → H) :
    ReturnsInHanded {} Try.checked os 7 .any (Rows.curveNamesSpec.pre6 enc Try.prog Try.f7 Rows.curveNamesRow.domain false) (Rows.curveNamesSpec.post enc Try.prog Try.f7 false true false false) := by
  refine returnsInHanded_of_change (C := Try.checked) Try.own started (by kernel_rfl) Try.func7
    (ChangeSpec.witness6 (enc := enc) (C := Try.checked) false ⟨#[], #[], []⟩ 8 (by kernel_rfl) (by kernel_rfl) (by kernel_rfl) (by kernel_rfl)) ?_
  intro W base args ds gs before hval0 hW _ _
  have hW' := hW
  obtain ⟨p, q, hA0, hV, rfl, hfz, hnd⟩ := hW
  have hA : DataW.TrodAll enc Try.prog W 0 (fun _ => true) true Try.f7.params.toList args.toList ds p := hA0
  rw [Try.params7] at hA
  obtain ⟨hargs, rfl, rfl⟩ := trodAll_nil hA
  obtain ⟨args⟩ := args
  simp only at hargs
  subst hargs
  obtain ⟨rfl, rfl⟩ := trodVars_none hV
  clear hA0 hval0
  refine (names_any W).mono fun e W' ⟨he, hb⟩ => ?_
  subst he
  have e1 : Rows.curveNamesSpec.fn H ([] ++ []) = { results := [.lit (.bool true)], args := [] } := rfl
  refine ⟨_, rfl, _, _, _, [], [], [], hW', ?_, ?_, ?_, hb.frame _, fun h => by cases h⟩
  · rw [e1]
    exact trodAll_mk1 (shut_bool Try.underlying4 true)
  · rw [e1]
    exact trodAll_mk0
  · rfl

theorem names_holds : Rows.CurveNamesSaid :=
  OpenClaim.holds_of_wide 7 Try.f7 rfl rfl rfl rfl rfl rfl rfl ⟨rfl, rfl, rfl, rfl, rfl⟩ rfl rfl rfl rfl rfl (by kernel_rfl) Try.func7 (by kernel_rfl)
    (of_decide_eq_true (by kernel_rfl)) (by unfold Func.isWrapper; rw [if_neg (of_decide_eq_false (by kernel_rfl))]; exact ⟨rfl, rfl⟩)
    (fun os started H enc _ => names_lifted os started H enc)
#print axioms names_holds
end Go.Proofs.Ytfjlnejeffkdoaa
