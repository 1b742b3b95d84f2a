/- Span: its contract. -/
import Derived.Test.YtfjlnejeffkdoaaDD
namespace Go.Proofs.Ytfjlnejeffkdoaa
open Go.RowKit Go.Shelf
attribute [local irreducible] arrV

def spanR : Option (Int × Int) → Value
  | none => .tuple #[.agg #[.int .i64 0, .int .i64 0], .int .i64 7]
  | some (lo, hi) => .tuple #[.agg #[.int .i64 lo, .int .i64 hi], .int .i64 0]

theorem pair_end {w w1 : World} {B6 : Nat} {u v : Value} (x y : Int) (A B : Obj) (hbw : Below w.heap.size w w1) (hB : w.heap.size ≤ B6) (Y2 : w1.heap[B6]? = some (.cells #[u, v] 51 (0, 0))) :
    (((w1.setCell ⟨B6, 0, none⟩ (.int .i64 x)).setCell ⟨B6, 1, none⟩ (.int .i64 y)).alloc A |>.alloc B).cell? ⟨B6, 0, none⟩ = some (.int .i64 x) ∧
    (((w1.setCell ⟨B6, 0, none⟩ (.int .i64 x)).setCell ⟨B6, 1, none⟩ (.int .i64 y)).alloc A |>.alloc B).cell? ⟨B6, 1, none⟩ = some (.int .i64 y) ∧
    Below w.heap.size w (((w1.setCell ⟨B6, 0, none⟩ (.int .i64 x)).setCell ⟨B6, 1, none⟩ (.int .i64 y)).alloc A |>.alloc B) := by
  have q1 := heap_setCell_same w1 B6 0 _ 51 (.int .i64 x) Y2
  have q2 := heap_setCell_same _ B6 1 _ 51 (.int .i64 y) q1
  have q3 := (below2 ((w1.setCell ⟨B6, 0, none⟩ (.int .i64 x)).setCell ⟨B6, 1, none⟩ (.int .i64 y)) A B).block B6 (lt_of_block q2) |>.trans q2
  have hb9 : Below w.heap.size w ((w1.setCell ⟨B6, 0, none⟩ (.int .i64 x)).setCell ⟨B6, 1, none⟩ (.int .i64 y)) := (hbw.setCell (p := ⟨B6, 0, none⟩) hB _).setCell (p := ⟨B6, 1, none⟩) hB _
  exact ⟨cell_of_row _ B6 0 _ _ _ q3, cell_of_row _ B6 1 _ _ _ q3, below_to hb9 (below2 _ A B)⟩

set_option maxRecDepth 100000 in
set_option maxHeartbeats 1000000 in
theorem Span_ok (ft fg b off cap : Nat) (kd : Int) (ps : List Pt) (r : Rl) (ts : List (List Int)) (fnd : Rs → Int × Int) (w : World) (F : Sane ps r) (HE : bothE ps r = 0) (HT : TruthsOf ps r b off cap ft ts) (HF : FoundBy fg fnd)
    (HK : ∀ w, Calls Try.prog 57 #[.int .u8 kd] w fun e w' => e = .returned (.tuple #[.agg #[.func (.func ft) #[] #[], .func (.func fg) #[] #[]], .bool true]) ∧ Below w.heap.size w w') (hp : PtsIn w b off ps) :
    Calls Try.prog 28 #[.agg #[.slice (some ⟨b, off, none⟩) ps.length cap], .agg #[.int .i64 r.d, .int .i64 r.k, .int .i64 r.o], .int .u8 kd] w fun e w' => e = .returned (spanR (bnd (numsL ps r fnd ts))) ∧ Below w.heap.size w w' := by
  have hltb : b < w.heap.size := block_lt_of_cell (hp 0 F.pos).1
  have HC := Lib.hid fun W (hb : Below w.heap.size w W) => spanOf_ok ft fg b off cap kd ps r ts fnd W F HE HT HF HK (hp.below hb hltb)
  have HB3 := Lib.hid (below3 w)
  have HX := Lib.hid (box3 w)
  generalize bnd (numsL ps r fnd ts) = o at *
  clear hp
  cases o with
  | none =>
    go_enter Try.func28, Try.ntmps28
    go_wp2_with (go_at_call 55; refine (HC.out _ (HB3.out _ _ _)).mono ?_; unfold spanV; rintro e w1 ⟨rfl, hb1⟩
                 have y2 := (hb1.block _ (by simp)).trans (HX.out _ _ _).2.2
                 have hbw := below_to (HB3.out _ _ _) hb1
                 have hs1 : w.heap.size + 3 ≤ w1.heap.size := by have := hb1.size; simp at this; omega
                 have HB6 : Hid (w.heap.size ≤ w.heap.size + 1 + 1) := Lib.hid (by omega)
                 generalize w.heap.size + 1 + 1 = B6 at *
                 have r2 := cell_of_row w1 B6 0 _ _ _ y2
                 have r3 := cell_of_row w1 B6 1 _ _ _ y2
                 have rf2 := frozen_of_row w1 B6 0 _ _ y2
                 have rf3 := frozen_of_row w1 B6 1 _ _ y2
                 have hl := lt_of_block y2
                 simp at r2 r3
                 have HBW := Lib.hid hbw
                 have Y2 := Lib.hid y2
                 clear y2 hb1 hbw)
    obtain ⟨e0, e1, e2⟩ := pair_end 0 0 (.cells #[.nilFunc, .nilFunc] 105) (.cells #[.int .i64 0, .int .i64 0] 51) HBW.out HB6.out Y2.out
    generalize World.alloc (World.alloc _ _) _ = W9 at *
    clear r2 r3 rf2 rf3 hl hs1
    exact bodyPost_ret (v := .tuple #[.agg #[.int .i64 0, .int .i64 0], .int .i64 7]) (by simp [results, Try.results28, go_sem, e0, e1]) rfl ⟨rfl, e2⟩
  | some o =>
    obtain ⟨lo, hi⟩ := o
    go_enter Try.func28, Try.ntmps28
    go_wp2_with (go_at_call 55; refine (HC.out _ (HB3.out _ _ _)).mono ?_; unfold spanV; rintro e w1 ⟨rfl, hb1⟩
                 have y2 := (hb1.block _ (by simp)).trans (HX.out _ _ _).2.2
                 have hbw := below_to (HB3.out _ _ _) hb1
                 have hs1 : w.heap.size + 3 ≤ w1.heap.size := by have := hb1.size; simp at this; omega
                 have HB6 : Hid (w.heap.size ≤ w.heap.size + 1 + 1) := Lib.hid (by omega)
                 generalize w.heap.size + 1 + 1 = B6 at *
                 have r2 := cell_of_row w1 B6 0 _ _ _ y2
                 have r3 := cell_of_row w1 B6 1 _ _ _ y2
                 have rf2 := frozen_of_row w1 B6 0 _ _ y2
                 have rf3 := frozen_of_row w1 B6 1 _ _ y2
                 have hl := lt_of_block y2
                 simp at r2 r3
                 have HBW := Lib.hid hbw
                 have Y2 := Lib.hid y2
                 clear y2 hb1 hbw)
    obtain ⟨e0, e1, e2⟩ := pair_end lo hi (.cells #[.func (.func ft) #[] #[], .func (.func fg) #[] #[]] 105) (.cells #[.int .i64 lo, .int .i64 hi] 51) HBW.out HB6.out Y2.out
    generalize World.alloc (World.alloc _ _) _ = W9 at *
    clear r2 r3 rf2 rf3 hl hs1
    exact bodyPost_ret (v := .tuple #[.agg #[.int .i64 lo, .int .i64 hi], .int .i64 0]) (by simp [results, Try.results28, go_sem, e0, e1]) rfl ⟨rfl, e2⟩
end Go.Proofs.Ytfjlnejeffkdoaa
