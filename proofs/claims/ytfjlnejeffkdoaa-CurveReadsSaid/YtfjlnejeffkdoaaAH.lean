/- For CurveReads: a curve of up to 25 points for the program, and an empty one; a copy of an empty list; the program's reading where there is an error; equal results compared; a truth opened to cells. Conditions: the lengths. -/
import Derived.Test.YtfjlnejeffkdoaaAE
import Derived.Test.YtfjlnejeffkdoaaNN
namespace Go.Proofs.Ytfjlnejeffkdoaa
open Go.RowKit Go.Shelf
attribute [local irreducible] arrV wpQuiet

set_option maxRecDepth 100000 in
set_option maxHeartbeats 1000000 in
theorem Curve_25 (b off cap : Nat) (ps : List Pt) (w : World) (hn : ps.length ≤ 25) (h0 : 0 < ps.length) (hp : PtsIn w b off ps) :
    Calls Try.prog 18 #[.agg #[.slice (some ⟨b, off, none⟩) ps.length cap]] w fun e w' => ∃ B c, e = .returned (.agg #[.slice (some ⟨B, 0, none⟩) ps.length c]) ∧ PtsIn w' B 0 ps ∧ w.heap.size ≤ B ∧ Below w.heap.size w w' := by
  have hltb := block_lt_of_cell (hp 0 h0).1
  obtain ⟨x0, x1, x2⟩ := box3 w (.cells #[.slice (some ⟨b, off, none⟩) ps.length cap] 24) (.cells #[.slice none 0 0] 34) (.cells #[.slice none 0 0] 34)
  have hB3 := below3 w (.cells #[.slice (some ⟨b, off, none⟩) ps.length cap] 24) (.cells #[.slice none 0 0] 34) (.cells #[.slice none 0 0] 34)
  have X0 := Lib.hid x0
  have X1 := Lib.hid x1
  have X2 := Lib.hid x2
  have HB3 := Lib.hid hB3
  have hs3 : Hid (w.heap.size + 3 ≤ (((w.alloc (.cells #[.slice (some ⟨b, off, none⟩) ps.length cap] 24)).alloc (.cells #[.slice none 0 0] 34)).alloc (.cells #[.slice none 0 0] 34)).heap.size) := Lib.hid (by simp)
  clear x0 x1 x2 hB3
  go_enter Try.func18, Try.ntmps18
  go_wp2
  go_loopw [4] (fun i wr => ∃ (q : Nat) (v : Value), q ≤ ps.length ∧ i = .int .i64 q ∧ Hid (wr.heap[w.heap.size]? = some (.cells #[.slice (some ⟨b, off, none⟩) ps.length cap] 24 (0, 0))) ∧ Hid (wr.heap[w.heap.size + 1]? = some (.cells #[.slice none 0 0] 34 (0, 0))) ∧
      Hid (wr.heap[w.heap.size + 1 + 1]? = some (.cells #[v] 34 (0, 0))) ∧ Hid (wr.ownsRow (w.heap.size + 3) 74 3 v q (flatT (ps.take q))) ∧ Hid (Below w.heap.size w wr) ∧ w.heap.size + 3 ≤ wr.heap.size) (fun i _ => ps.length - (intOf i).toNat)
  case atStart => exact ⟨0, .slice none 0 0, Nat.zero_le _, rfl, X0, X1, X2, Lib.hid (World.ownsRow_nil _ _ _ _), HB3, hs3.out⟩
  case round =>
    obtain ⟨q, v, hq, rfl, hx0, hx1, hx2, hown, hb, hsz⟩ := hrel
    have c0 := cell_of_row wr w.heap.size 0 _ _ _ hx0.out
    have c2 := cell_of_row wr (w.heap.size + 1 + 1) 0 _ _ _ hx2.out
    have f2 := frozen_of_row wr (w.heap.size + 1 + 1) 0 _ _ hx2.out
    simp at c0 c2
    have l0 := lt_of_block hx0.out
    have l2 := lt_of_block hx2.out
    by_cases hlt : q < ps.length
    · have p1 := (hb.out.cell (p := ⟨b, off + q * 3, none⟩) hltb).trans (hp q hlt).1
      have p2 := (hb.out.cell (p := ⟨b, off + q * 3 + 1, none⟩) hltb).trans (hp q hlt).2.1
      have p3 := (hb.out.cell (p := ⟨b, off + q * 3 + 2, none⟩) hltb).trans (hp q hlt).2.2
      have hqn : (q : Int) < ps.length := by omega
      have hw9 : IntKind.i64.wrap ((q : Int) + 1) = (q : Int) + 1 := IntWalk.i64_in _ (by omega)
      have HFL := Lib.hid (flatT_take ps q hlt)
      generalize hP : pt ps q = P at *
      have HP := Lib.hid hP
      clear hP
      go_wp2_with (first
        | (refine wpList_append_pt2 rfl (.tmp 19) (.tmp 30) rfl (w.heap.size + 3) q v (flatT (ps.take q)) P rfl rfl (by exact hown.out) hsz (by omega) ?_
           intro v' w5 h1 h2
           obtain ⟨g', cp', rfl⟩ : ∃ g' c', v' = .slice (some ⟨g', 0, none⟩) (q + 1) c' := by
             rcases h1.2 with ⟨_, h⟩ | ⟨g', c', _, h, _⟩
             · omega
             · exact ⟨g', c', h⟩
           have y0 := (h2.block w.heap.size (by omega)).trans hx0.out
           have y1 := (h2.block (w.heap.size + 1) (by omega)).trans hx1.out
           have y2 := (h2.block (w.heap.size + 1 + 1) (by omega)).trans hx2.out
           have hb5 : Below w.heap.size w w5 := hb.out.trans (h2.mono (by omega))
           have hs5 : w.heap.size + 3 ≤ w5.heap.size := Nat.le_trans hsz h2.size
           clear c0 c2 f2 l0 l2 p1 p2 p3 h2
           have f2 := frozen_of_row w5 (w.heap.size + 1 + 1) 0 _ _ y2
           have c2 := cell_of_row w5 (w.heap.size + 1 + 1) 0 _ _ _ y2
           simp at c2
           have l2 := lt_of_block y2
           have Y0 := Lib.hid y0
           have Y1 := Lib.hid y1
           have Y2 := Lib.hid y2
           have H1 := Lib.hid h1
           have HB5 := Lib.hid hb5
           clear y0 y1 y2 h1 hb5)
        | fail)
      go_roundw
      case rel =>
        refine ⟨q + 1, .slice (some ⟨g', 0, none⟩) (q + 1) cp', by omega, by simp, Lib.hid ?_, Lib.hid ?_, Lib.hid ?_, Lib.hid ?_, Lib.hid ?_, ?_⟩
        · exact (heap_setCell_other w5 ⟨w.heap.size + 1 + 1, 0, none⟩ w.heap.size _ (by show w.heap.size ≠ w.heap.size + 1 + 1; omega)).trans Y0.out
        · exact (heap_setCell_other w5 ⟨w.heap.size + 1 + 1, 0, none⟩ (w.heap.size + 1) _ (by show w.heap.size + 1 ≠ w.heap.size + 1 + 1; omega)).trans Y1.out
        · exact heap_setCell_same w5 (w.heap.size + 1 + 1) 0 _ 34 (.slice (some ⟨g', 0, none⟩) (q + 1) cp') Y2.out
        · rw [HFL.out]
          obtain ⟨o1, o2⟩ := H1.out
          refine ⟨o1, o2.elim .inl fun ⟨g, cp, cur, e1, e2, e3, e4⟩ => .inr ⟨g, cp, cur, e1, e2, ?_, e4⟩⟩
          exact (heap_setCell_other w5 ⟨w.heap.size + 1 + 1, 0, none⟩ g _ (by show g ≠ w.heap.size + 1 + 1; omega)).trans e3
        · exact HB5.out.setCell (p := ⟨w.heap.size + 1 + 1, 0, none⟩) (by show w.heap.size ≤ w.heap.size + 1 + 1; omega) _
        · simpa [World.setCell] using hs5
      case measure => simp [intOf] <;> omega
    · obtain rfl : q = ps.length := by omega
      rw [List.take_length] at hown
      obtain ⟨B, c, rfl, hpp, hBB⟩ := pts_own hown.out h0
      have c1 := cell_of_row wr (w.heap.size + 1) 0 _ _ _ hx1.out
      have f1 := frozen_of_row wr (w.heap.size + 1) 0 _ _ hx1.out
      simp at c1
      have l1 := lt_of_block hx1.out
      have HPP := Lib.hid hpp
      clear hpp
      go_wp2
      have q1 := heap_setCell_same wr (w.heap.size + 1) 0 _ 34 (.slice (some ⟨B, 0, none⟩) ps.length c) hx1.out
      have hb9 := hb.out.setCell (p := ⟨w.heap.size + 1, 0, none⟩) (by show w.heap.size ≤ w.heap.size + 1; omega) (.slice (some ⟨B, 0, none⟩) ps.length c)
      have hp9 : PtsIn (wr.setCell ⟨w.heap.size + 1, 0, none⟩ (.slice (some ⟨B, 0, none⟩) ps.length c)) B 0 ps := fun i hi => by
        have hh : (wr.setCell ⟨w.heap.size + 1, 0, none⟩ (.slice (some ⟨B, 0, none⟩) ps.length c)).heap[B]? = wr.heap[B]? := heap_setCell_other wr ⟨w.heap.size + 1, 0, none⟩ B _ (by show B ≠ w.heap.size + 1; omega)
        exact ⟨(World.cell?_of_block hh).trans (HPP.out i hi).1, (World.cell?_of_block hh).trans (HPP.out i hi).2.1, (World.cell?_of_block hh).trans (HPP.out i hi).2.2⟩
      have c9 := cell_of_row _ (w.heap.size + 1) 0 _ _ _ q1
      simp at c9
      clear c0 c1 c2 f1 f2
      generalize wr.setCell ⟨w.heap.size + 1, 0, none⟩ (.slice (some ⟨B, 0, none⟩) ps.length c) = W9 at *
      exact bodyPost_ret (v := .agg #[.slice (some ⟨B, 0, none⟩) ps.length c]) (by simp [results, Try.results18, go_sem, c9]) rfl ⟨B, c, rfl, hp9, by omega, hb9⟩

set_option maxRecDepth 100000 in
set_option maxHeartbeats 1000000 in
theorem Curve_0 (sa : Option Addr) (cap : Nat) (w : World) :
    Calls Try.prog 18 #[.agg #[.slice sa 0 cap]] w fun e w' => e = .returned (.agg #[.slice none 0 0]) ∧ Below w.heap.size w w' := by
  obtain ⟨x0, x1, x2⟩ := box3 w (.cells #[.slice sa 0 cap] 24) (.cells #[.slice none 0 0] 34) (.cells #[.slice none 0 0] 34)
  have hB3 := below3 w (.cells #[.slice sa 0 cap] 24) (.cells #[.slice none 0 0] 34) (.cells #[.slice none 0 0] 34)
  have X0 := Lib.hid x0
  have X1 := Lib.hid x1
  have X2 := Lib.hid x2
  have HB3 := Lib.hid hB3
  clear x0 x1 x2 hB3
  go_enter Try.func18, Try.ntmps18
  go_wp2
  go_loopw [4] (fun i wr => i = .int .i64 0 ∧ Hid (wr.heap[w.heap.size]? = some (.cells #[.slice sa 0 cap] 24 (0, 0))) ∧ Hid (wr.heap[w.heap.size + 1]? = some (.cells #[.slice none 0 0] 34 (0, 0))) ∧
      Hid (wr.heap[w.heap.size + 1 + 1]? = some (.cells #[.slice none 0 0] 34 (0, 0))) ∧ Hid (Below w.heap.size w wr)) (fun _ _ => 0)
  case atStart => exact ⟨rfl, X0, X1, X2, HB3⟩
  case round =>
    obtain ⟨rfl, hx0, hx1, hx2, hb⟩ := hrel
    have c0 := cell_of_row wr w.heap.size 0 _ _ _ hx0.out
    have c1 := cell_of_row wr (w.heap.size + 1) 0 _ _ _ hx1.out
    have c2 := cell_of_row wr (w.heap.size + 1 + 1) 0 _ _ _ hx2.out
    have f1 := frozen_of_row wr (w.heap.size + 1) 0 _ _ hx1.out
    simp at c0 c1 c2
    have l1 := lt_of_block hx1.out
    go_wp2
    refine bodyPost_ret (v := .agg #[.slice none 0 0]) (by simp [results, Try.results18, go_sem, *]) rfl ⟨rfl, ?_⟩
    exact hb.out.setCell (p := ⟨w.heap.size + 1, 0, none⟩) (by show w.heap.size ≤ w.heap.size + 1; omega) _

theorem append27_none (W : World) (ty c : Nat) (sa : Option Addr) : (Builtin.append_ #[27, 27] ty #[.slice none 0 0, .slice sa 0 c]).run Try.prog W = .ok (.slice none 0 0) W := by
  obtain ⟨i, z, hi, hz, hsz, hby, hzs⟩ := int_info
  cases sa with
  | none => simp [Builtin.append_, run_underlying Try.underlying27, sizeOf, typeInfo, hi, Builtin.lenOf, run_firstCells_none, Result.andThen]
  | some a =>
    have hf := run_firstCells_some (P := Try.prog) W i.size 0 a 0 c [] (by simp) (by simp)
    simp [Builtin.append_, run_underlying Try.underlying27, sizeOf, typeInfo, hi, Builtin.lenOf, hf, Result.andThen]
theorem wpList_append27_none {ops : Array Oper} {rest : List Oper} {o : Oper} {a : Act} {Q : Exit → Act → World → Prop} {W : World} (hgd : o.guard = none) (s x : Operand) (ho : o.op = .call { callee := .builtin .append, args := #[s, x], argTypes := #[27, 27] }) (c : Nat) (sa : Option Addr)
    (hs : a.eval s = .slice none 0 0) (hx : a.eval x = .slice sa 0 c) (h : wpList Try.prog ops Q rest (a.put o.dst (.slice none 0 0)) W) : wpList Try.prog ops Q (o :: rest) a W := by
  refine wpList_plain hgd fun K hK => ?_
  unfold Oper.wp
  have hr : (execOp a.eval o).run Try.prog W = .ok (.value (.slice none 0 0)) W := by simp [execOp, ho, resolve, invoke, builtin, hs, hx, append27_none, Result.andThen]
  rw [hr]
  exact hK _ _ h
theorem list_0 (sa : Option Addr) (cap : Nat) (w : World) : Calls Try.prog 21 #[.slice sa 0 cap] w fun e w' => e = .returned (.slice none 0 0) ∧ Below w.heap.size w w' := by
  go_enter Try.func21, Try.ntmps21
  go_wp2_with (first
    | (refine wpList_append27_none rfl (.const (.slice none 0 0)) (.tmp 3) rfl cap sa rfl rfl ?_)
    | fail)
  go_ret
  exact ⟨rfl, Below.refl _ _⟩

theorem eqr37 (x : Rs) (w : World) : (binOp .eql 37 (.agg (rsV x)) (.agg (rsV x))).run Try.prog w = .ok (.bool true) w := by
  have h : (Op.equal 37 (.agg (rsV x)) (.agg (rsV x))).run Try.prog w = .ok true w := by
    show (Op.equalIn (9999 + 1) 37 _ _).run Try.prog w = _
    rw [run_equalIn_struct w 9999 37 _ _ s37e st37]
    exact eq_fields x w _ fields37
  simp [binOp, Sem.run_bind, h, Result.andThen_ok, Sem.run_pure]

set_option maxRecDepth 100000 in
set_option maxHeartbeats 2000000 in
theorem Read_err (sa : Option Addr) (n cap : Nat) (tl : Value) (d k o : Int) (E : Int) (w : World) (hE : E ≠ 0) (HC : ∀ W, Below w.heap.size w W → Calls Try.prog 48 #[.agg #[.slice sa n cap, .int .i64 d, .int .i64 k, .int .i64 o]] W fun e w' => e = .returned (.int .i64 E) ∧ Below W.heap.size W w') :
    Calls Try.prog 19 #[.agg #[.slice sa n cap], .agg #[.int .i64 d, .int .i64 k, .int .i64 o], tl] w fun e w' => e = .returned (.tuple #[.agg zero37, .int .i64 E]) ∧ Below w.heap.size w w' := by
  have Hrc := Lib.hid HC
  have hne : (E == 0) = false := by rw [beq_eq_false_iff_ne]; exact hE
  have hne' : (E != 0) = true := by rw [bne_iff_ne]; exact hE
  have hR := rd_of w (.slice sa n cap) (.int .i64 d) (.int .i64 k) (.int .i64 o)
  clear HC
  go_enter Try.func19, Try.ntmps19
  go_wp2_with fail
  generalize World.alloc (World.alloc (World.alloc (World.alloc w _) _) _) _ = W at *
  refine (Hrc.out W hR.below).mono ?_
  rintro e w1 ⟨rfl, hb1⟩
  have B1 := Lib.hid (grow_to hR.below hb1)
  have Z1 := (hb1.block (w.heap.size + 1 + 1) (by rw [hR.size]; omega)).trans hR.rs
  clear hb1 hR
  have z0 := cell_of_row w1 (w.heap.size + 1 + 1) 0 _ _ _ Z1
  have g0 := frozen_of_row w1 (w.heap.size + 1 + 1) 0 _ _ Z1
  have z1 := cell_of_row w1 (w.heap.size + 1 + 1) 1 _ _ _ Z1
  have g1 := frozen_of_row w1 (w.heap.size + 1 + 1) 1 _ _ Z1
  have z2 := cell_of_row w1 (w.heap.size + 1 + 1) 2 _ _ _ Z1
  have g2 := frozen_of_row w1 (w.heap.size + 1 + 1) 2 _ _ Z1
  have z3 := cell_of_row w1 (w.heap.size + 1 + 1) 3 _ _ _ Z1
  have g3 := frozen_of_row w1 (w.heap.size + 1 + 1) 3 _ _ Z1
  have z4 := cell_of_row w1 (w.heap.size + 1 + 1) 4 _ _ _ Z1
  have g4 := frozen_of_row w1 (w.heap.size + 1 + 1) 4 _ _ Z1
  have z5 := cell_of_row w1 (w.heap.size + 1 + 1) 5 _ _ _ Z1
  have g5 := frozen_of_row w1 (w.heap.size + 1 + 1) 5 _ _ Z1
  have z6 := cell_of_row w1 (w.heap.size + 1 + 1) 6 _ _ _ Z1
  have g6 := frozen_of_row w1 (w.heap.size + 1 + 1) 6 _ _ Z1
  simp [zero37] at z0 z1 z2 z3 z4 z5 z6
  clear Z1
  go_wp2
  refine bodyPost_ret (v := .tuple #[.agg #[.int .i64 0, .int .i64 0, .int .i64 0, .int .i64 0, .int .i64 0, .int .i64 0, .int .i64 0], .int .i64 E]) (by simp [results, Try.results19, go_sem, *]) rfl ⟨rfl, ?_⟩
  iterate 7 (refine Below.setCell (p := ⟨w.heap.size + 1 + 1, _, none⟩) ?_ (by show w.heap.size ≤ w.heap.size + 1 + 1; omega) _)
  exact B1.out

set_option maxRecDepth 100000 in
set_option maxHeartbeats 2000000 in
theorem Read_out (sa st : Option Addr) (n cap m capt : Nat) (d k o : Int) (w : World) (HC : ∀ W, Below w.heap.size w W → Calls Try.prog 48 #[.agg #[.slice sa n cap, .int .i64 d, .int .i64 k, .int .i64 o]] W fun e w' => e = .returned (.int .i64 0) ∧ Below W.heap.size W w')
    (HA : ∀ W, Below w.heap.size w W → Calls Try.prog 49 #[.agg #[.slice sa n cap], .slice st m capt] W fun e w' => e = .returned (.bool false) ∧ Below W.heap.size W w') :
    Calls Try.prog 19 #[.agg #[.slice sa n cap], .agg #[.int .i64 d, .int .i64 k, .int .i64 o], .slice st m capt] w fun e w' => e = .returned (.tuple #[.agg zero37, .int .i64 2]) ∧ Below w.heap.size w w' := by
  have Hrc := Lib.hid HC
  have Hal := Lib.hid HA
  have hR := rd_of w (.slice sa n cap) (.int .i64 d) (.int .i64 k) (.int .i64 o)
  clear HC HA
  go_enter Try.func19, Try.ntmps19
  go_wp2_with fail
  generalize World.alloc (World.alloc (World.alloc (World.alloc w _) _) _) _ = W at *
  refine (Hrc.out W hR.below).mono ?_
  rintro e w1 ⟨rfl, hb1⟩
  have q0 := (hb1.cell (p := ⟨w.heap.size, 0, none⟩) (by show w.heap.size < W.heap.size; rw [hR.size]; omega)).trans hR.c0
  have B1 := Lib.hid (grow_to hR.below hb1)
  have Z1 := Lib.hid ((hb1.block (w.heap.size + 1 + 1) (by rw [hR.size]; omega)).trans hR.rs)
  clear hb1 hR
  go_wp2_with fail
  refine (Hal.out w1 B1.out).mono ?_
  rintro e w2 ⟨rfl, hb2⟩
  have Z2 := (hb2.block (w.heap.size + 1 + 1) (lt_of_block Z1.out)).trans Z1.out
  have B2 := Lib.hid (grow_to B1.out hb2)
  clear hb2 q0 Z1
  have z0 := cell_of_row w2 (w.heap.size + 1 + 1) 0 _ _ _ Z2
  have g0 := frozen_of_row w2 (w.heap.size + 1 + 1) 0 _ _ Z2
  have z1 := cell_of_row w2 (w.heap.size + 1 + 1) 1 _ _ _ Z2
  have g1 := frozen_of_row w2 (w.heap.size + 1 + 1) 1 _ _ Z2
  have z2 := cell_of_row w2 (w.heap.size + 1 + 1) 2 _ _ _ Z2
  have g2 := frozen_of_row w2 (w.heap.size + 1 + 1) 2 _ _ Z2
  have z3 := cell_of_row w2 (w.heap.size + 1 + 1) 3 _ _ _ Z2
  have g3 := frozen_of_row w2 (w.heap.size + 1 + 1) 3 _ _ Z2
  have z4 := cell_of_row w2 (w.heap.size + 1 + 1) 4 _ _ _ Z2
  have g4 := frozen_of_row w2 (w.heap.size + 1 + 1) 4 _ _ Z2
  have z5 := cell_of_row w2 (w.heap.size + 1 + 1) 5 _ _ _ Z2
  have g5 := frozen_of_row w2 (w.heap.size + 1 + 1) 5 _ _ Z2
  have z6 := cell_of_row w2 (w.heap.size + 1 + 1) 6 _ _ _ Z2
  have g6 := frozen_of_row w2 (w.heap.size + 1 + 1) 6 _ _ Z2
  simp [zero37] at z0 z1 z2 z3 z4 z5 z6
  clear Z2
  go_wp2
  refine bodyPost_ret (v := .tuple #[.agg #[.int .i64 0, .int .i64 0, .int .i64 0, .int .i64 0, .int .i64 0, .int .i64 0, .int .i64 0], .int .i64 2]) (by simp [results, Try.results19, go_sem, *]) rfl ⟨rfl, ?_⟩
  iterate 7 (refine Below.setCell (p := ⟨w.heap.size + 1 + 1, _, none⟩) ?_ (by show w.heap.size ≤ w.heap.size + 1 + 1; omega) _)
  exact B2.out

set_option maxRecDepth 100000 in
open Go.ChangeShapes Go.WideShapes Go.ChangeAt Go.Deep in
/-- A list of numbers, opened to cells. -/
theorem open_truth {H : Type} {enc : TypeId × Value → H} {w : World} {base : Nat} {spare : Nat → Bool} {held : Bool} {r : Reach} {b0 : Nat} {v : Value} {d : DataW H} {p : List MemPlace} (hv : Value.okWide Try.prog w r b0 27 v) (h : DataW.Trod enc Try.prog w base spare held 27 v d p) :
    ∃ (aw : Option Addr) (m capw : Nat), v = .slice aw m capw ∧ m ≤ maxLen ∧ (0 < m → ∃ bw ow t, aw = some ⟨bw, ow, none⟩ ∧ t.length = m ∧ IntsIn w bw ow t) := by
  obtain ⟨a0, len, cap, rfl⟩ := okWide_slice Try.underlying27 hv
  obtain ⟨fuel, hf⟩ := h
  rcases open_ints Try.underlying27 Try.underlying3 cells3 hf with ⟨hcs, _⟩ | ⟨a, len', cap', zs, hcs, _, hl, hm, hz, _, hcell, hwz⟩
  · simp only [Value.cells, List.cons.injEq, Value.slice.injEq, and_true] at hcs
    obtain ⟨rfl, rfl, rfl⟩ := hcs
    exact ⟨none, 0, 0, rfl, Nat.zero_le _, fun h => absurd h (by decide)⟩
  · simp only [Value.cells, List.cons.injEq, Value.slice.injEq, and_true] at hcs
    obtain ⟨rfl, rfl, rfl⟩ := hcs
    have hlz : len ≤ zs.length := by rw [hz]; split <;> omega
    refine ⟨some a, len, cap, rfl, Nat.le_trans hl hm, fun h0 => ?_⟩
    obtain ⟨b, off, rfl, hc⟩ := ints_at hcell (by omega)
    refine ⟨b, off, zs.take len, rfl, by simp; omega, fun i hi => ?_⟩
    simp only [List.length_take] at hi
    have := hc i (by omega)
    rw [this]
    simp [ld, List.getElem?_take, List.getD_eq_getElem?_getD, show i < len by omega]
end Go.Proofs.Ytfjlnejeffkdoaa
