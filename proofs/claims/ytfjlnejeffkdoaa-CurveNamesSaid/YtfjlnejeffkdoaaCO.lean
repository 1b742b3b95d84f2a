/- What CurveNames asks: the single answers. No condition. -/
import Derived.Test.YtfjlnejeffkdoaaCN
import Derived.Test.YtfjlnejeffkdoaaCK
import Derived.Laws.MakeOwn
namespace Go.Proofs.Ytfjlnejeffkdoaa
open Go.RowKit Go.Shelf
attribute [local irreducible] arrV

def rowP : Array Value := #[.int .i64 0, .int .i64 0, .int .i64 0, .int .i64 10, .int .i64 48, .int .i64 52, .int .i64 20, .int .i64 95, .int .i64 105, .int .i64 30, .int .i64 90, .int .i64 96, .int .i64 40, .int .i64 120, .int .i64 130, .int .i64 50, .int .i64 100, .int .i64 110]

set_option maxRecDepth 100000 in
set_option maxHeartbeats 1000000 in
theorem pulled_row (w : World) : Calls Try.prog 38 #[] w fun e w' => ∃ B, e = .returned (.agg #[.slice (some ⟨B, 0, none⟩) 6 6]) ∧ w.heap.size ≤ B ∧ w'.heap[B]? = some (.cells rowP 74 (0, 0)) ∧ Below w.heap.size w w' := by
  have HA := Lib.hid at_any
  have hB0 := Lib.hid (box_below w (.cells #[.slice none 0 0] 34))
  have hX0 := Lib.hid (heap_alloc_new w (.cells #[.slice none 0 0] 34))
  go_enter Try.func38, Try.ntmps38
  go_wp2_with fail
  refine (HA.out _ _ _ _).mono ?_
  rintro e w1 ⟨rfl, hb1⟩
  have hx := (hb1.block w.heap.size (by simp)).trans hX0.out
  have hbw := below_to hB0.out hb1
  clear hb1
  iterate 5
    (go_wp2_with fail
     refine (HA.out _ _ _ _).mono ?_
     rintro e w2 ⟨rfl, hb2⟩
     replace hx := (hb2.block w.heap.size (lt_of_block hx)).trans hx
     replace hbw := below_to hbw hb2
     clear hb2
     clear w1
     rename World => w1)
  have hf0 := frozen_of_row w1 w.heap.size 0 _ _ hx
  have hc0 := cell_of_row w1 w.heap.size 0 _ _ _ hx
  simp at hc0
  have hl0 := lt_of_block hx
  have HX := Lib.hid hx
  have HBW := Lib.hid hbw
  clear hx hbw
  go_wp2
  obtain ⟨W9, hW9⟩ : ∃ W9, (w1.setCell ⟨w.heap.size, 0, none⟩ (.slice (some ⟨w1.heap.size, 0, none⟩) 6 6)).alloc (.cells #[.int .i64 0, .int .i64 0, .int .i64 0, .int .i64 10, .int .i64 48, .int .i64 52, .int .i64 20, .int .i64 95, .int .i64 105, .int .i64 30, .int .i64 90, .int .i64 96, .int .i64 40, .int .i64 120, .int .i64 130, .int .i64 50, .int .i64 100, .int .i64 110] 74) = W9 := ⟨_, rfl⟩
  rw [hW9]
  have q1 := heap_setCell_same w1 w.heap.size 0 _ 34 (.slice (some ⟨w1.heap.size, 0, none⟩) 6 6) HX.out
  have hsz : (w1.setCell ⟨w.heap.size, 0, none⟩ (.slice (some ⟨w1.heap.size, 0, none⟩) 6 6)).heap.size = w1.heap.size := by simp [World.setCell]
  have q2 := heap_alloc_new (w1.setCell ⟨w.heap.size, 0, none⟩ (.slice (some ⟨w1.heap.size, 0, none⟩) 6 6)) (.cells #[.int .i64 0, .int .i64 0, .int .i64 0, .int .i64 10, .int .i64 48, .int .i64 52, .int .i64 20, .int .i64 95, .int .i64 105, .int .i64 30, .int .i64 90, .int .i64 96, .int .i64 40, .int .i64 120, .int .i64 130, .int .i64 50, .int .i64 100, .int .i64 110] 74)
  rw [hsz, hW9] at q2
  have q3 : W9.heap[w.heap.size]? = some (.cells #[.slice (some ⟨w1.heap.size, 0, none⟩) 6 6] 34 (0, 0)) := by rw [← hW9]; exact (Below.heap_alloc _ _ _ (lt_of_block q1)).trans q1
  have q4 : Below w.heap.size w W9 := by
    rw [← hW9]
    exact (HBW.out.setCell (p := ⟨w.heap.size, 0, none⟩) (Nat.le_refl _) _).alloc (by rw [hsz]; exact Nat.le_of_lt hl0) _
  have c := cell_of_row W9 w.heap.size 0 _ _ _ q3
  simp at c
  clear hf0 hc0 hW9 q1 q3 hsz
  refine bodyPost_ret (v := .agg #[.slice (some ⟨w1.heap.size, 0, none⟩) 6 6]) (by simp [results, Try.results38, go_sem, c]) rfl ⟨w1.heap.size, rfl, Nat.le_of_lt hl0, q2, q4⟩


theorem row_pts {w : World} {B : Nat} (h : w.heap[B]? = some (.cells rowP 74 (0, 0))) : PtsIn w B 0 pulledP := fun i hi => by
  have : i < 6 := hi
  have hc := fun j => cell_of_row w B j _ _ _ h
  match i, this with
  | 0, _ => exact ⟨hc 0, hc 1, hc 2⟩
  | 1, _ => exact ⟨hc 3, hc 4, hc 5⟩
  | 2, _ => exact ⟨hc 6, hc 7, hc 8⟩
  | 3, _ => exact ⟨hc 9, hc 10, hc 11⟩
  | 4, _ => exact ⟨hc 12, hc 13, hc 14⟩
  | 5, _ => exact ⟨hc 15, hc 16, hc 17⟩

theorem sp0 : spanP pulledP ruleP 0 = some (120, 130) := by kernel_rfl
theorem sp3 : spanP pulledP ruleP 3 = some (8060, 8760) := by kernel_rfl
theorem my0 : mayP pulledP ruleP 0 = [4] := by kernel_rfl
theorem my1 : mayP pulledP ruleP 1 = [2, 4] := by kernel_rfl
theorem my2 : mayP pulledP ruleP 2 = [3] := by kernel_rfl
def calmP : Rl := ⟨1000, 5, 4⟩
def farP : Rl := ⟨5, 5, 900⟩
theorem spCalm : spanP pulledP calmP 1 = none := by kernel_rfl
theorem spFar : spanP pulledP farP 2 = none := by kernel_rfl
theorem good_p : goodsB pulledP 0 = true := by kernel_rfl
theorem saneCalm : Sane pulledP calmP := sane_of (by decide) (by decide) good_p (by decide)
theorem saneFar : Sane pulledP farP := sane_of (by decide) (by decide) good_p (by decide)
theorem bothCalm : bothE pulledP calmP = 0 := by kernel_rfl
theorem bothFar : bothE pulledP farP = 0 := by kernel_rfl
theorem rdOne : readR [⟨5, 7, 9⟩] ⟨1, 2, 1⟩ (pad [8]) = ⟨8, 0, -1, 0, 0, 8, 0⟩ := by kernel_rfl
theorem goodOne : Good [⟨5, 7, 9⟩] ⟨1, 2, 1⟩ [8] := ⟨by decide, by decide, by kernel_rfl, by kernel_rfl, by decide, by kernel_rfl⟩

theorem q_span0 (b : Nat) (w : World) (hp : PtsIn w b 0 pulledP) : Calls Try.prog 28 #[.agg #[.slice (some ⟨b, 0, none⟩) 6 6], .agg #[.int .i64 5, .int .i64 5, .int .i64 4], .int .u8 0] w
      fun e w' => e = .returned (.tuple #[.agg #[.int .i64 120, .int .i64 130], .int .i64 0]) ∧ Below w.heap.size w w' := by
  have := Span_kd b 0 6 0 pulledP ruleP w sane_pulled both_pulled (by omega) hp
  rw [sp0] at this
  exact this
theorem q_span3 (b : Nat) (w : World) (hp : PtsIn w b 0 pulledP) : Calls Try.prog 28 #[.agg #[.slice (some ⟨b, 0, none⟩) 6 6], .agg #[.int .i64 5, .int .i64 5, .int .i64 4], .int .u8 3] w
      fun e w' => e = .returned (.tuple #[.agg #[.int .i64 8060, .int .i64 8760], .int .i64 0]) ∧ Below w.heap.size w w' := by
  have := Span_kd b 0 6 3 pulledP ruleP w sane_pulled both_pulled (by omega) hp
  rw [sp3] at this
  exact this
theorem q_points (b : Nat) (w : World) (hp : PtsIn w b 0 pulledP) : Calls Try.prog 31 #[.agg #[.slice (some ⟨b, 0, none⟩) 6 6], .agg #[.int .i64 5, .int .i64 5, .int .i64 4]] w
      fun e w' => ∃ v0 v1 v2, e = .returned (.tuple #[v0, v1, v2, .int .i64 0]) ∧ ListV w' v0 [4] ∧ ListV w' v1 [2, 4] ∧ ListV w' v2 [3] ∧ Below w.heap.size w w' := by
  have := Points_ok b 0 6 pulledP ruleP w sane_pulled both_pulled hp
  rw [my0, my1, my2] at this
  exact this
theorem q_prove (b bt : Nat) (nb : Int) (q : Bool) (w : World) (hp : PtsIn w b 0 pulledP) (hi : IntsIn w bt 0 [0, 50, 100, 94, 125, 105]) (hq : ((97 : Int) == nb) = q) : Calls Try.prog 35 #[.agg #[.slice (some ⟨b, 0, none⟩) 6 6], .agg #[.int .i64 5, .int .i64 5, .int .i64 4], .slice (some ⟨bt, 0, none⟩) 6 6, .int .u8 2, .int .i64 nb] w
      fun e w' => e = .returned (.bool q) ∧ Below w.heap.size w w' := by
  have := ProveRead_ok (.slice (some ⟨bt, 0, none⟩) 6 6) 2 nb 81 82 (fun x => (x.ma, x.pl)) ⟨125, 4, 2, 100, 3, 97, 8430⟩ 5 5 4 (some ⟨b, 0, none⟩) 6 6 true q w kind2 rfl hq fun W hb => read_demo b bt W (hp.below hb (block_lt_of_cell (hp 0 (by decide)).1)) (hi.below hb (block_lt_of_cell (hi 0 (by decide))))
  rw [Bool.true_and] at this
  exact this
theorem q_check (b : Nat) (w : World) (d k o : Int) (hp : PtsIn w b 0 pulledP) : Calls Try.prog 48 #[.agg #[.slice (some ⟨b, 0, none⟩) 6 6, .int .i64 d, .int .i64 k, .int .i64 o]] w fun e w' => e = .returned (.int .i64 (bothE pulledP ⟨d, k, o⟩)) ∧ Below w.heap.size w w' :=
  rcheck_pts b 0 6 pulledP d k o w (by decide) (by decide) hp
theorem q_readShort (b bt : Nat) (w : World) (hp : PtsIn w b 0 pulledP) : Calls Try.prog 19 #[.agg #[.slice (some ⟨b, 0, none⟩) 6 6], .agg #[.int .i64 5, .int .i64 5, .int .i64 4], .slice (some ⟨bt, 0, none⟩) 5 5] w fun e w' => e = .returned (.tuple #[.agg zero37, .int .i64 2]) ∧ Below w.heap.size w w' :=
  Read_out (some ⟨b, 0, none⟩) (some ⟨bt, 0, none⟩) 6 6 5 5 5 5 4 w (fun W hb => by
    have := q_check b W 5 5 4 (hp.below hb (block_lt_of_cell (hp 0 (by decide)).1))
    rw [show bothE pulledP ⟨5, 5, 4⟩ = 0 from both_pulled] at this
    exact this) fun W _ => allows_ne _ _ _ _ _ _ W (by decide)
theorem q_proveShort (b bt : Nat) (w : World) (hp : PtsIn w b 0 pulledP) : Calls Try.prog 35 #[.agg #[.slice (some ⟨b, 0, none⟩) 6 6], .agg #[.int .i64 5, .int .i64 5, .int .i64 4], .slice (some ⟨bt, 0, none⟩) 5 5, .int .u8 2, .int .i64 97] w
      fun e w' => e = .returned (.bool false) ∧ Below w.heap.size w w' :=
  ProveRead_err (.slice (some ⟨bt, 0, none⟩) 5 5) 2 97 2 _ true 5 5 4 (some ⟨b, 0, none⟩) 6 6 w (.inl (by decide)) ⟨_, _, rfl, .inr ⟨_, _, rfl, rfl⟩⟩ qty2 ⟨0, 0, 0, 0, 0, 0, 0⟩ fun W hb => q_readShort b bt W (hp.below hb (block_lt_of_cell (hp 0 (by decide)).1))
theorem q_calm (b : Nat) (w : World) (hp : PtsIn w b 0 pulledP) : Calls Try.prog 28 #[.agg #[.slice (some ⟨b, 0, none⟩) 6 6], .agg #[.int .i64 1000, .int .i64 5, .int .i64 4], .int .u8 1] w
      fun e w' => e = .returned (.tuple #[.agg #[.int .i64 0, .int .i64 0], .int .i64 7]) ∧ Below w.heap.size w w' := by
  have := Span_kd b 0 6 1 pulledP calmP w saneCalm bothCalm (by omega) hp
  rw [spCalm] at this
  exact this
theorem q_far (b : Nat) (w : World) (hp : PtsIn w b 0 pulledP) : Calls Try.prog 34 #[.agg #[.slice (some ⟨b, 0, none⟩) 6 6], .agg #[.int .i64 5, .int .i64 5, .int .i64 900], .int .u8 2, .bool true] w
      fun e w' => e = .returned (.tuple #[.slice none 0 0, .int .i64 7]) ∧ Below w.heap.size w w' := by
  have := Shows_ok 81 82 b 0 6 2 true pulledP farP _ (fun x => (x.ma, x.pl)) w saneFar bothFar (truths_meet saneFar b 0 6) kind2 hp Clone_any
  rw [show bnd (numsL pulledP farP (fun x => (x.ma, x.pl)) (searchL pulledP (chM pulledP farP) (hpM pulledP farP))) = none by kernel_rfl] at this
  exact this.mono fun e w' ⟨v, he, hv, hb⟩ => ⟨by rw [he, show v = _ from hv], hb⟩
theorem q_span4 (b : Nat) (w : World) (hp : PtsIn w b 0 pulledP) : Calls Try.prog 28 #[.agg #[.slice (some ⟨b, 0, none⟩) 6 6], .agg #[.int .i64 5, .int .i64 5, .int .i64 4], .int .u8 4] w
      fun e w' => e = .returned (.tuple #[.agg #[.int .i64 0, .int .i64 0], .int .i64 2]) ∧ Below w.heap.size w w' :=
  Span_bad (some ⟨b, 0, none⟩) 6 6 4 5 5 4 2 w fun W hb => spanOf_kind (some ⟨b, 0, none⟩) 6 6 4 5 5 4 W (by omega) fun W2 hb2 => by
    have := q_check b W2 5 5 4 (hp.below (below_to hb hb2) (block_lt_of_cell (hp 0 (by decide)).1))
    rw [show bothE pulledP ⟨5, 5, 4⟩ = 0 from both_pulled] at this
    exact this
theorem q_111 (b bt : Nat) (w : World) (hp : PtsIn w b 0 pulledP) (hi : IntsIn w bt 0 [0, 50, 100, 94, 125, 111]) : Calls Try.prog 19 #[.agg #[.slice (some ⟨b, 0, none⟩) 6 6], .agg #[.int .i64 5, .int .i64 5, .int .i64 4], .slice (some ⟨bt, 0, none⟩) 6 6] w
      fun e w' => e = .returned (.tuple #[.agg #[.int .i64 0, .int .i64 0, .int .i64 0, .int .i64 0, .int .i64 0, .int .i64 0, .int .i64 0], .int .i64 2]) ∧ Below w.heap.size w w' :=
  Read_out (some ⟨b, 0, none⟩) (some ⟨bt, 0, none⟩) 6 6 6 6 5 5 4 w (fun W hb => by
    have := q_check b W 5 5 4 (hp.below hb (block_lt_of_cell (hp 0 (by decide)).1))
    rw [show bothE pulledP ⟨5, 5, 4⟩ = 0 from both_pulled] at this
    exact this) fun W hb => by
    have := allows_any b 0 6 bt 0 6 pulledP [0, 50, 100, 94, 125, 111] W (by decide) (by decide) (hp.below hb (block_lt_of_cell (hp 0 (by decide)).1)) rfl (hi.below hb (block_lt_of_cell (hi 0 (by decide))))
    rw [show fitsB pulledP [0, 50, 100, 94, 125, 111] 0 = false by kernel_rfl] at this
    exact this
theorem q_noRule (b : Nat) (tl : Value) (w : World) (hp : PtsIn w b 0 pulledP) : Calls Try.prog 19 #[.agg #[.slice (some ⟨b, 0, none⟩) 6 6], .agg #[.int .i64 0, .int .i64 1, .int .i64 0], tl] w
      fun e w' => e = .returned (.tuple #[.agg #[.int .i64 0, .int .i64 0, .int .i64 0, .int .i64 0, .int .i64 0, .int .i64 0, .int .i64 0], .int .i64 1]) ∧ Below w.heap.size w w' :=
  Read_err (some ⟨b, 0, none⟩) 6 6 tl 0 1 0 1 w (by omega) fun W hb => by
    have := q_check b W 0 1 0 (hp.below hb (block_lt_of_cell (hp 0 (by decide)).1))
    rw [show bothE pulledP ⟨0, 1, 0⟩ = 1 by kernel_rfl] at this
    exact this
theorem q_one (b bt : Nat) (w : World) (hp : PtsIn w b 0 [⟨5, 7, 9⟩]) (hi : IntsIn w bt 0 [8]) : Calls Try.prog 19 #[.agg #[.slice (some ⟨b, 0, none⟩) 1 1], .agg #[.int .i64 1, .int .i64 2, .int .i64 1], .slice (some ⟨bt, 0, none⟩) 1 1] w
      fun e w' => e = .returned (.tuple #[.agg #[.int .i64 8, .int .i64 0, .int .i64 (-1), .int .i64 0, .int .i64 0, .int .i64 8, .int .i64 0], .int .i64 0]) ∧ Below w.heap.size w w' := by
  have := Read_ok b 0 1 bt 0 1 [⟨5, 7, 9⟩] ⟨1, 2, 1⟩ [8] w goodOne hp hi
  rw [rdOne] at this
  exact this
theorem one_pts {w : World} {B : Nat} (h : w.heap[B]? = some (.cells #[.int .i64 5, .int .i64 7, .int .i64 9] 74 (0, 0))) : PtsIn w B 0 [⟨5, 7, 9⟩] := fun i hi => by
  have : i < 1 := hi
  have hc := fun j => cell_of_row w B j _ _ _ h
  match i, this with
  | 0, _ => exact ⟨hc 0, hc 1, hc 2⟩
theorem row_pts_same {w : World} {B : Nat} (h : w.heap[B]? = some (.cells (rowP.setIfInBounds 3 (.int .i64 0)) 74 (0, 0))) : PtsIn w B 0 [⟨0, 0, 0⟩, ⟨0, 48, 52⟩, ⟨20, 95, 105⟩, ⟨30, 90, 96⟩, ⟨40, 120, 130⟩, ⟨50, 100, 110⟩] := fun i hi => by
  have : i < 6 := hi
  have hc := fun j => cell_of_row w B j _ _ _ h
  match i, this with
  | 0, _ => exact ⟨hc 0, hc 1, hc 2⟩
  | 1, _ => exact ⟨hc 3, hc 4, hc 5⟩
  | 2, _ => exact ⟨hc 6, hc 7, hc 8⟩
  | 3, _ => exact ⟨hc 9, hc 10, hc 11⟩
  | 4, _ => exact ⟨hc 12, hc 13, hc 14⟩
  | 5, _ => exact ⟨hc 15, hc 16, hc 17⟩
theorem row_pts_odd {w : World} {B : Nat} (h : w.heap[B]? = some (.cells (rowP.setIfInBounds 4 (.int .i64 53)) 74 (0, 0))) : PtsIn w B 0 [⟨0, 0, 0⟩, ⟨10, 53, 52⟩, ⟨20, 95, 105⟩, ⟨30, 90, 96⟩, ⟨40, 120, 130⟩, ⟨50, 100, 110⟩] := fun i hi => by
  have : i < 6 := hi
  have hc := fun j => cell_of_row w B j _ _ _ h
  match i, this with
  | 0, _ => exact ⟨hc 0, hc 1, hc 2⟩
  | 1, _ => exact ⟨hc 3, hc 4, hc 5⟩
  | 2, _ => exact ⟨hc 6, hc 7, hc 8⟩
  | 3, _ => exact ⟨hc 9, hc 10, hc 11⟩
  | 4, _ => exact ⟨hc 12, hc 13, hc 14⟩
  | 5, _ => exact ⟨hc 15, hc 16, hc 17⟩
theorem info74 : ∃ i z, Try.prog.info? 74 = some i ∧ i.zero = some z ∧ i.bytes = 24 := by
  have h2 : (Try.prog.info? 74).map (·.bytes) = some 24 := by kernel_rfl
  have h3 : ((Try.prog.info? 74).bind (·.zero)).map (·.cells.size) = some 3 := by kernel_rfl
  cases h : Try.prog.info? 74 with
  | none => simp [h] at h2
  | some i =>
    simp [h] at h2 h3
    obtain ⟨z, hz, _⟩ := h3
    exact ⟨i, z, rfl, hz, h2⟩
theorem make21 : ∃ M : Array Value, ∀ w, (Instr.makeSlice 32 (.int .i64 21) (.int .i64 21)).run Try.prog w = .ok (.slice (some ⟨w.heap.size, 0, none⟩) 21 21) (w.alloc (.cells M 74)) := by
  obtain ⟨i, z, hi, hz, hb⟩ := info74
  exact ⟨_, fun w => run_make w 32 74 i z u32' hi hz .i64 .i64 21 21 (by omega) (by omega) (by omega) (by omega)⟩
theorem q_many (b : Nat) (w : World) : Calls Try.prog 17 #[.agg #[.slice (some ⟨b, 0, none⟩) 21 21]] w fun e w' => e = .returned (.int .i64 3) ∧ Below w.heap.size w w' :=
  CheckCurve_of _ 3 w fun W _ => check_long _ 21 21 W (by omega) (by decide)
theorem q_none (w : World) : Calls Try.prog 17 #[.agg #[.slice none 0 0]] w fun e w' => e = .returned (.int .i64 1) ∧ Below w.heap.size w w' :=
  CheckCurve_of _ 1 w fun W _ => check_empty W none 0
theorem q_bad (b : Nat) (ps : List Pt) (w : World) (hn : ps.length = 6) (hg : ptsE ps = 1) (hp : PtsIn w b 0 ps) : Calls Try.prog 17 #[.agg #[.slice (some ⟨b, 0, none⟩) 6 6]] w fun e w' => e = .returned (.int .i64 1) ∧ Below w.heap.size w w' :=
  CheckCurve_of _ 1 w fun W hb => by
    have := check_pts b 0 6 ps W (by omega) (by omega) (hp.below hb (block_lt_of_cell (hp 0 (by omega)).1))
    rw [hn, hg] at this
    exact this
end Go.Proofs.Ytfjlnejeffkdoaa
