/- For CurveReads: a curve of up to 25 points for the program, and an empty one; a copy of an empty list; the program's reading where there is an error; equal results compared; a truth opened to cells. Conditions: the lengths. CurveReads, walked: what it calls given as contracts. The statement CurveReads holds: for every curve, rule and list of numbers the law returns true and leaves what it was given as it was. No condition. -/
import Derived.Test.YtfjlnejeffkdoaaAE
import Derived.Test.YtfjlnejeffkdoaaNN
import Derived.Test.YtfjlnejeffkdoaaAG
namespace Go.Proofs.Ytfjlnejeffkdoaa
open Go.RowKit Go.Shelf
attribute [local irreducible] arrV wpQuiet

set_option maxRecDepth 100000 in
set_option maxHeartbeats 1000000 in
theorem Curve_25 (b off cap : Nat) (ps : List Pt) (w : World) (hn : ps.length ≤ 25) (h0 : 0 < ps.length) (hp : PtsIn w b off ps) :
    Calls Try.prog 18 #[.agg #[.slice (some ⟨b, off, none⟩) ps.length cap]] w fun e w' => ∃ B c, e = .returned (.agg #[.slice (some ⟨B, 0, none⟩) ps.length c]) ∧ PtsIn w' B 0 ps ∧ w.heap.size ≤ B ∧ Below w.heap.size w w' := by
  have hltb := block_lt_of_cell (hp 0 h0).1
  obtain ⟨x0, x1, x2⟩ := box3 w (.cells #[.slice (some ⟨b, off, none⟩) ps.length cap] 24) (.cells #[.slice none 0 0] 34) (.cells #[.slice none 0 0] 34)
  have hB3 := below3 w (.cells #[.slice (some ⟨b, off, none⟩) ps.length cap] 24) (.cells #[.slice none 0 0] 34) (.cells #[.slice none 0 0] 34)
  have X0 := Lib.hid x0
  have X1 := Lib.hid x1
  have X2 := Lib.hid x2
  have HB3 := Lib.hid hB3
  have hs3 : Hid (w.heap.size + 3 ≤ (((w.alloc (.cells #[.slice (some ⟨b, off, none⟩) ps.length cap] 24)).alloc (.cells #[.slice none 0 0] 34)).alloc (.cells #[.slice none 0 0] 34)).heap.size) := Lib.hid (by simp)
  clear x0 x1 x2 hB3
  go_enter Try.func18, Try.ntmps18
  go_wp2
  go_loopw [4] (fun i wr => ∃ (q : Nat) (v : Value), q ≤ ps.length ∧ i = .int .i64 q ∧ Hid (wr.heap[w.heap.size]? = some (.cells #[.slice (some ⟨b, off, none⟩) ps.length cap] 24 (0, 0))) ∧ Hid (wr.heap[w.heap.size + 1]? = some (.cells #[.slice none 0 0] 34 (0, 0))) ∧
      Hid (wr.heap[w.heap.size + 1 + 1]? = some (.cells #[v] 34 (0, 0))) ∧ Hid (wr.ownsRow (w.heap.size + 3) 74 3 v q (flatT (ps.take q))) ∧ Hid (Below w.heap.size w wr) ∧ w.heap.size + 3 ≤ wr.heap.size) (fun i _ => ps.length - (intOf i).toNat)
  case atStart => exact ⟨0, .slice none 0 0, Nat.zero_le _, rfl, X0, X1, X2, Lib.hid (World.ownsRow_nil _ _ _ _), HB3, hs3.out⟩
  case round =>
    obtain ⟨q, v, hq, rfl, hx0, hx1, hx2, hown, hb, hsz⟩ := hrel
    have c0 := cell_of_row wr w.heap.size 0 _ _ _ hx0.out
    have c2 := cell_of_row wr (w.heap.size + 1 + 1) 0 _ _ _ hx2.out
    have f2 := frozen_of_row wr (w.heap.size + 1 + 1) 0 _ _ hx2.out
    simp at c0 c2
    have l0 := lt_of_block hx0.out
    have l2 := lt_of_block hx2.out
    by_cases hlt : q < ps.length
    · have p1 := (hb.out.cell (p := ⟨b, off + q * 3, none⟩) hltb).trans (hp q hlt).1
      have p2 := (hb.out.cell (p := ⟨b, off + q * 3 + 1, none⟩) hltb).trans (hp q hlt).2.1
      have p3 := (hb.out.cell (p := ⟨b, off + q * 3 + 2, none⟩) hltb).trans (hp q hlt).2.2
      have hqn : (q : Int) < ps.length := by omega
      have hw9 : IntKind.i64.wrap ((q : Int) + 1) = (q : Int) + 1 := IntWalk.i64_in _ (by omega)
      have HFL := Lib.hid (flatT_take ps q hlt)
      generalize hP : pt ps q = P at *
      have HP := Lib.hid hP
      clear hP
      go_wp2_with (first
        | (refine wpList_append_pt2 rfl (.tmp 19) (.tmp 30) rfl (w.heap.size + 3) q v (flatT (ps.take q)) P rfl rfl (by exact hown.out) hsz (by omega) ?_
           intro v' w5 h1 h2
           obtain ⟨g', cp', rfl⟩ : ∃ g' c', v' = .slice (some ⟨g', 0, none⟩) (q + 1) c' := by
             rcases h1.2 with ⟨_, h⟩ | ⟨g', c', _, h, _⟩
             · omega
             · exact ⟨g', c', h⟩
           have y0 := (h2.block w.heap.size (by omega)).trans hx0.out
           have y1 := (h2.block (w.heap.size + 1) (by omega)).trans hx1.out
           have y2 := (h2.block (w.heap.size + 1 + 1) (by omega)).trans hx2.out
           have hb5 : Below w.heap.size w w5 := hb.out.trans (h2.mono (by omega))
           have hs5 : w.heap.size + 3 ≤ w5.heap.size := Nat.le_trans hsz h2.size
           clear c0 c2 f2 l0 l2 p1 p2 p3 h2
           have f2 := frozen_of_row w5 (w.heap.size + 1 + 1) 0 _ _ y2
           have c2 := cell_of_row w5 (w.heap.size + 1 + 1) 0 _ _ _ y2
           simp at c2
           have l2 := lt_of_block y2
           have Y0 := Lib.hid y0
           have Y1 := Lib.hid y1
           have Y2 := Lib.hid y2
           have H1 := Lib.hid h1
           have HB5 := Lib.hid hb5
           clear y0 y1 y2 h1 hb5)
        | fail)
      go_roundw
      case rel =>
        refine ⟨q + 1, .slice (some ⟨g', 0, none⟩) (q + 1) cp', by omega, by simp, Lib.hid ?_, Lib.hid ?_, Lib.hid ?_, Lib.hid ?_, Lib.hid ?_, ?_⟩
        · exact (heap_setCell_other w5 ⟨w.heap.size + 1 + 1, 0, none⟩ w.heap.size _ (by show w.heap.size ≠ w.heap.size + 1 + 1; omega)).trans Y0.out
        · exact (heap_setCell_other w5 ⟨w.heap.size + 1 + 1, 0, none⟩ (w.heap.size + 1) _ (by show w.heap.size + 1 ≠ w.heap.size + 1 + 1; omega)).trans Y1.out
        · exact heap_setCell_same w5 (w.heap.size + 1 + 1) 0 _ 34 (.slice (some ⟨g', 0, none⟩) (q + 1) cp') Y2.out
        · rw [HFL.out]
          obtain ⟨o1, o2⟩ := H1.out
          refine ⟨o1, o2.elim .inl fun ⟨g, cp, cur, e1, e2, e3, e4⟩ => .inr ⟨g, cp, cur, e1, e2, ?_, e4⟩⟩
          exact (heap_setCell_other w5 ⟨w.heap.size + 1 + 1, 0, none⟩ g _ (by show g ≠ w.heap.size + 1 + 1; omega)).trans e3
        · exact HB5.out.setCell (p := ⟨w.heap.size + 1 + 1, 0, none⟩) (by show w.heap.size ≤ w.heap.size + 1 + 1; omega) _
        · simpa [World.setCell] using hs5
      case measure => simp [intOf] <;> omega
    · obtain rfl : q = ps.length := by omega
      rw [List.take_length] at hown
      obtain ⟨B, c, rfl, hpp, hBB⟩ := pts_own hown.out h0
      have c1 := cell_of_row wr (w.heap.size + 1) 0 _ _ _ hx1.out
      have f1 := frozen_of_row wr (w.heap.size + 1) 0 _ _ hx1.out
      simp at c1
      have l1 := lt_of_block hx1.out
      have HPP := Lib.hid hpp
      clear hpp
      go_wp2
      have q1 := heap_setCell_same wr (w.heap.size + 1) 0 _ 34 (.slice (some ⟨B, 0, none⟩) ps.length c) hx1.out
      have hb9 := hb.out.setCell (p := ⟨w.heap.size + 1, 0, none⟩) (by show w.heap.size ≤ w.heap.size + 1; omega) (.slice (some ⟨B, 0, none⟩) ps.length c)
      have hp9 : PtsIn (wr.setCell ⟨w.heap.size + 1, 0, none⟩ (.slice (some ⟨B, 0, none⟩) ps.length c)) B 0 ps := fun i hi => by
        have hh : (wr.setCell ⟨w.heap.size + 1, 0, none⟩ (.slice (some ⟨B, 0, none⟩) ps.length c)).heap[B]? = wr.heap[B]? := heap_setCell_other wr ⟨w.heap.size + 1, 0, none⟩ B _ (by show B ≠ w.heap.size + 1; omega)
        exact ⟨(World.cell?_of_block hh).trans (HPP.out i hi).1, (World.cell?_of_block hh).trans (HPP.out i hi).2.1, (World.cell?_of_block hh).trans (HPP.out i hi).2.2⟩
      have c9 := cell_of_row _ (w.heap.size + 1) 0 _ _ _ q1
      simp at c9
      clear c0 c1 c2 f1 f2
      generalize wr.setCell ⟨w.heap.size + 1, 0, none⟩ (.slice (some ⟨B, 0, none⟩) ps.length c) = W9 at *
      exact bodyPost_ret (v := .agg #[.slice (some ⟨B, 0, none⟩) ps.length c]) (by simp [results, Try.results18, go_sem, c9]) rfl ⟨B, c, rfl, hp9, by omega, hb9⟩

set_option maxRecDepth 100000 in
set_option maxHeartbeats 1000000 in
theorem Curve_0 (sa : Option Addr) (cap : Nat) (w : World) :
    Calls Try.prog 18 #[.agg #[.slice sa 0 cap]] w fun e w' => e = .returned (.agg #[.slice none 0 0]) ∧ Below w.heap.size w w' := by
  obtain ⟨x0, x1, x2⟩ := box3 w (.cells #[.slice sa 0 cap] 24) (.cells #[.slice none 0 0] 34) (.cells #[.slice none 0 0] 34)
  have hB3 := below3 w (.cells #[.slice sa 0 cap] 24) (.cells #[.slice none 0 0] 34) (.cells #[.slice none 0 0] 34)
  have X0 := Lib.hid x0
  have X1 := Lib.hid x1
  have X2 := Lib.hid x2
  have HB3 := Lib.hid hB3
  clear x0 x1 x2 hB3
  go_enter Try.func18, Try.ntmps18
  go_wp2
  go_loopw [4] (fun i wr => i = .int .i64 0 ∧ Hid (wr.heap[w.heap.size]? = some (.cells #[.slice sa 0 cap] 24 (0, 0))) ∧ Hid (wr.heap[w.heap.size + 1]? = some (.cells #[.slice none 0 0] 34 (0, 0))) ∧
      Hid (wr.heap[w.heap.size + 1 + 1]? = some (.cells #[.slice none 0 0] 34 (0, 0))) ∧ Hid (Below w.heap.size w wr)) (fun _ _ => 0)
  case atStart => exact ⟨rfl, X0, X1, X2, HB3⟩
  case round =>
    obtain ⟨rfl, hx0, hx1, hx2, hb⟩ := hrel
    have c0 := cell_of_row wr w.heap.size 0 _ _ _ hx0.out
    have c1 := cell_of_row wr (w.heap.size + 1) 0 _ _ _ hx1.out
    have c2 := cell_of_row wr (w.heap.size + 1 + 1) 0 _ _ _ hx2.out
    have f1 := frozen_of_row wr (w.heap.size + 1) 0 _ _ hx1.out
    simp at c0 c1 c2
    have l1 := lt_of_block hx1.out
    go_wp2
    refine bodyPost_ret (v := .agg #[.slice none 0 0]) (by simp [results, Try.results18, go_sem, *]) rfl ⟨rfl, ?_⟩
    exact hb.out.setCell (p := ⟨w.heap.size + 1, 0, none⟩) (by show w.heap.size ≤ w.heap.size + 1; omega) _

theorem append27_none (W : World) (ty c : Nat) (sa : Option Addr) : (Builtin.append_ #[27, 27] ty #[.slice none 0 0, .slice sa 0 c]).run Try.prog W = .ok (.slice none 0 0) W := by
  obtain ⟨i, z, hi, hz, hsz, hby, hzs⟩ := int_info
  cases sa with
  | none => simp [Builtin.append_, run_underlying Try.underlying27, sizeOf, typeInfo, hi, Builtin.lenOf, run_firstCells_none, Result.andThen]
  | some a =>
    have hf := run_firstCells_some (P := Try.prog) W i.size 0 a 0 c [] (by simp) (by simp)
    simp [Builtin.append_, run_underlying Try.underlying27, sizeOf, typeInfo, hi, Builtin.lenOf, hf, Result.andThen]
theorem wpList_append27_none {ops : Array Oper} {rest : List Oper} {o : Oper} {a : Act} {Q : Exit → Act → World → Prop} {W : World} (hgd : o.guard = none) (s x : Operand) (ho : o.op = .call { callee := .builtin .append, args := #[s, x], argTypes := #[27, 27] }) (c : Nat) (sa : Option Addr)
    (hs : a.eval s = .slice none 0 0) (hx : a.eval x = .slice sa 0 c) (h : wpList Try.prog ops Q rest (a.put o.dst (.slice none 0 0)) W) : wpList Try.prog ops Q (o :: rest) a W := by
  refine wpList_plain hgd fun K hK => ?_
  unfold Oper.wp
  have hr : (execOp a.eval o).run Try.prog W = .ok (.value (.slice none 0 0)) W := by simp [execOp, ho, resolve, invoke, builtin, hs, hx, append27_none, Result.andThen]
  rw [hr]
  exact hK _ _ h
theorem list_0 (sa : Option Addr) (cap : Nat) (w : World) : Calls Try.prog 21 #[.slice sa 0 cap] w fun e w' => e = .returned (.slice none 0 0) ∧ Below w.heap.size w w' := by
  go_enter Try.func21, Try.ntmps21
  go_wp2_with (first
    | (refine wpList_append27_none rfl (.const (.slice none 0 0)) (.tmp 3) rfl cap sa rfl rfl ?_)
    | fail)
  go_ret
  exact ⟨rfl, Below.refl _ _⟩

theorem eqr37 (x : Rs) (w : World) : (binOp .eql 37 (.agg (rsV x)) (.agg (rsV x))).run Try.prog w = .ok (.bool true) w := by
  have h : (Op.equal 37 (.agg (rsV x)) (.agg (rsV x))).run Try.prog w = .ok true w := by
    show (Op.equalIn (9999 + 1) 37 _ _).run Try.prog w = _
    rw [run_equalIn_struct w 9999 37 _ _ s37e st37]
    exact eq_fields x w _ fields37
  simp [binOp, Sem.run_bind, h, Result.andThen_ok, Sem.run_pure]

set_option maxRecDepth 100000 in
set_option maxHeartbeats 2000000 in
theorem Read_err (sa : Option Addr) (n cap : Nat) (tl : Value) (d k o : Int) (E : Int) (w : World) (hE : E ≠ 0) (HC : ∀ W, Below w.heap.size w W → Calls Try.prog 48 #[.agg #[.slice sa n cap, .int .i64 d, .int .i64 k, .int .i64 o]] W fun e w' => e = .returned (.int .i64 E) ∧ Below W.heap.size W w') :
    Calls Try.prog 19 #[.agg #[.slice sa n cap], .agg #[.int .i64 d, .int .i64 k, .int .i64 o], tl] w fun e w' => e = .returned (.tuple #[.agg zero37, .int .i64 E]) ∧ Below w.heap.size w w' := by
  have Hrc := Lib.hid HC
  have hne : (E == 0) = false := by rw [beq_eq_false_iff_ne]; exact hE
  have hne' : (E != 0) = true := by rw [bne_iff_ne]; exact hE
  have hR := rd_of w (.slice sa n cap) (.int .i64 d) (.int .i64 k) (.int .i64 o)
  clear HC
  go_enter Try.func19, Try.ntmps19
  go_wp2_with fail
  generalize World.alloc (World.alloc (World.alloc (World.alloc w _) _) _) _ = W at *
  refine (Hrc.out W hR.below).mono ?_
  rintro e w1 ⟨rfl, hb1⟩
  have B1 := Lib.hid (grow_to hR.below hb1)
  have Z1 := (hb1.block (w.heap.size + 1 + 1) (by rw [hR.size]; omega)).trans hR.rs
  clear hb1 hR
  have z0 := cell_of_row w1 (w.heap.size + 1 + 1) 0 _ _ _ Z1
  have g0 := frozen_of_row w1 (w.heap.size + 1 + 1) 0 _ _ Z1
  have z1 := cell_of_row w1 (w.heap.size + 1 + 1) 1 _ _ _ Z1
  have g1 := frozen_of_row w1 (w.heap.size + 1 + 1) 1 _ _ Z1
  have z2 := cell_of_row w1 (w.heap.size + 1 + 1) 2 _ _ _ Z1
  have g2 := frozen_of_row w1 (w.heap.size + 1 + 1) 2 _ _ Z1
  have z3 := cell_of_row w1 (w.heap.size + 1 + 1) 3 _ _ _ Z1
  have g3 := frozen_of_row w1 (w.heap.size + 1 + 1) 3 _ _ Z1
  have z4 := cell_of_row w1 (w.heap.size + 1 + 1) 4 _ _ _ Z1
  have g4 := frozen_of_row w1 (w.heap.size + 1 + 1) 4 _ _ Z1
  have z5 := cell_of_row w1 (w.heap.size + 1 + 1) 5 _ _ _ Z1
  have g5 := frozen_of_row w1 (w.heap.size + 1 + 1) 5 _ _ Z1
  have z6 := cell_of_row w1 (w.heap.size + 1 + 1) 6 _ _ _ Z1
  have g6 := frozen_of_row w1 (w.heap.size + 1 + 1) 6 _ _ Z1
  simp [zero37] at z0 z1 z2 z3 z4 z5 z6
  clear Z1
  go_wp2
  refine bodyPost_ret (v := .tuple #[.agg #[.int .i64 0, .int .i64 0, .int .i64 0, .int .i64 0, .int .i64 0, .int .i64 0, .int .i64 0], .int .i64 E]) (by simp [results, Try.results19, go_sem, *]) rfl ⟨rfl, ?_⟩
  iterate 7 (refine Below.setCell (p := ⟨w.heap.size + 1 + 1, _, none⟩) ?_ (by show w.heap.size ≤ w.heap.size + 1 + 1; omega) _)
  exact B1.out

set_option maxRecDepth 100000 in
set_option maxHeartbeats 2000000 in
theorem Read_out (sa st : Option Addr) (n cap m capt : Nat) (d k o : Int) (w : World) (HC : ∀ W, Below w.heap.size w W → Calls Try.prog 48 #[.agg #[.slice sa n cap, .int .i64 d, .int .i64 k, .int .i64 o]] W fun e w' => e = .returned (.int .i64 0) ∧ Below W.heap.size W w')
    (HA : ∀ W, Below w.heap.size w W → Calls Try.prog 49 #[.agg #[.slice sa n cap], .slice st m capt] W fun e w' => e = .returned (.bool false) ∧ Below W.heap.size W w') :
    Calls Try.prog 19 #[.agg #[.slice sa n cap], .agg #[.int .i64 d, .int .i64 k, .int .i64 o], .slice st m capt] w fun e w' => e = .returned (.tuple #[.agg zero37, .int .i64 2]) ∧ Below w.heap.size w w' := by
  have Hrc := Lib.hid HC
  have Hal := Lib.hid HA
  have hR := rd_of w (.slice sa n cap) (.int .i64 d) (.int .i64 k) (.int .i64 o)
  clear HC HA
  go_enter Try.func19, Try.ntmps19
  go_wp2_with fail
  generalize World.alloc (World.alloc (World.alloc (World.alloc w _) _) _) _ = W at *
  refine (Hrc.out W hR.below).mono ?_
  rintro e w1 ⟨rfl, hb1⟩
  have q0 := (hb1.cell (p := ⟨w.heap.size, 0, none⟩) (by show w.heap.size < W.heap.size; rw [hR.size]; omega)).trans hR.c0
  have B1 := Lib.hid (grow_to hR.below hb1)
  have Z1 := Lib.hid ((hb1.block (w.heap.size + 1 + 1) (by rw [hR.size]; omega)).trans hR.rs)
  clear hb1 hR
  go_wp2_with fail
  refine (Hal.out w1 B1.out).mono ?_
  rintro e w2 ⟨rfl, hb2⟩
  have Z2 := (hb2.block (w.heap.size + 1 + 1) (lt_of_block Z1.out)).trans Z1.out
  have B2 := Lib.hid (grow_to B1.out hb2)
  clear hb2 q0 Z1
  have z0 := cell_of_row w2 (w.heap.size + 1 + 1) 0 _ _ _ Z2
  have g0 := frozen_of_row w2 (w.heap.size + 1 + 1) 0 _ _ Z2
  have z1 := cell_of_row w2 (w.heap.size + 1 + 1) 1 _ _ _ Z2
  have g1 := frozen_of_row w2 (w.heap.size + 1 + 1) 1 _ _ Z2
  have z2 := cell_of_row w2 (w.heap.size + 1 + 1) 2 _ _ _ Z2
  have g2 := frozen_of_row w2 (w.heap.size + 1 + 1) 2 _ _ Z2
  have z3 := cell_of_row w2 (w.heap.size + 1 + 1) 3 _ _ _ Z2
  have g3 := frozen_of_row w2 (w.heap.size + 1 + 1) 3 _ _ Z2
  have z4 := cell_of_row w2 (w.heap.size + 1 + 1) 4 _ _ _ Z2
  have g4 := frozen_of_row w2 (w.heap.size + 1 + 1) 4 _ _ Z2
  have z5 := cell_of_row w2 (w.heap.size + 1 + 1) 5 _ _ _ Z2
  have g5 := frozen_of_row w2 (w.heap.size + 1 + 1) 5 _ _ Z2
  have z6 := cell_of_row w2 (w.heap.size + 1 + 1) 6 _ _ _ Z2
  have g6 := frozen_of_row w2 (w.heap.size + 1 + 1) 6 _ _ Z2
  simp [zero37] at z0 z1 z2 z3 z4 z5 z6
  clear Z2
  go_wp2
  refine bodyPost_ret (v := .tuple #[.agg #[.int .i64 0, .int .i64 0, .int .i64 0, .int .i64 0, .int .i64 0, .int .i64 0, .int .i64 0], .int .i64 2]) (by simp [results, Try.results19, go_sem, *]) rfl ⟨rfl, ?_⟩
  iterate 7 (refine Below.setCell (p := ⟨w.heap.size + 1 + 1, _, none⟩) ?_ (by show w.heap.size ≤ w.heap.size + 1 + 1; omega) _)
  exact B2.out

set_option maxRecDepth 100000 in
open Go.ChangeShapes Go.WideShapes Go.ChangeAt Go.Deep in
/-- A list of numbers, opened to cells. -/
theorem open_truth {H : Type} {enc : TypeId × Value → H} {w : World} {base : Nat} {spare : Nat → Bool} {held : Bool} {r : Reach} {b0 : Nat} {v : Value} {d : DataW H} {p : List MemPlace} (hv : Value.okWide Try.prog w r b0 27 v) (h : DataW.Trod enc Try.prog w base spare held 27 v d p) :
    ∃ (aw : Option Addr) (m capw : Nat), v = .slice aw m capw ∧ m ≤ maxLen ∧ (0 < m → ∃ bw ow t, aw = some ⟨bw, ow, none⟩ ∧ t.length = m ∧ IntsIn w bw ow t) := by
  obtain ⟨a0, len, cap, rfl⟩ := okWide_slice Try.underlying27 hv
  obtain ⟨fuel, hf⟩ := h
  rcases open_ints Try.underlying27 Try.underlying3 cells3 hf with ⟨hcs, _⟩ | ⟨a, len', cap', zs, hcs, _, hl, hm, hz, _, hcell, hwz⟩
  · simp only [Value.cells, List.cons.injEq, Value.slice.injEq, and_true] at hcs
    obtain ⟨rfl, rfl, rfl⟩ := hcs
    exact ⟨none, 0, 0, rfl, Nat.zero_le _, fun h => absurd h (by decide)⟩
  · simp only [Value.cells, List.cons.injEq, Value.slice.injEq, and_true] at hcs
    obtain ⟨rfl, rfl, rfl⟩ := hcs
    have hlz : len ≤ zs.length := by rw [hz]; split <;> omega
    refine ⟨some a, len, cap, rfl, Nat.le_trans hl hm, fun h0 => ?_⟩
    obtain ⟨b, off, rfl, hc⟩ := ints_at hcell (by omega)
    refine ⟨b, off, zs.take len, rfl, by simp; omega, fun i hi => ?_⟩
    simp only [List.length_take] at hi
    have := hc i (by omega)
    rw [this]
    simp [ld, List.getElem?_take, List.getD_eq_getElem?_getD, show i < len by omega]
end Go.Proofs.Ytfjlnejeffkdoaa

namespace Go.Proofs.Ytfjlnejeffkdoaa
open Go.RowKit Go.Shelf
attribute [local irreducible] arrV wpQuiet

set_option maxRecDepth 100000 in
set_option maxHeartbeats 1000000 in
theorem reads_no (sa st : Option Addr) (n cap m capt : Nat) (d k o : Int) (w : World) (h : 25 < n ∨ 30 < m) (hm : m ≤ maxLen) :
    Calls Try.prog 3 #[.agg #[.slice sa n cap], .agg #[.int .i64 d, .int .i64 k, .int .i64 o], .slice st m capt] w fun e w' => e = .returned (.bool true) ∧ Below w.heap.size w w' := by
  have hb2 := below2 w (.cells #[.slice sa n cap] 24) (.cells #[.int .i64 d, .int .i64 k, .int .i64 o] 26)
  have HT := Lib.hid fun W => Thin_any sa n cap W
  have HA := Lib.hid awake_any
  unfold maxLen at hm
  by_cases hn : n ≤ 25
  · have hd : decide (n ≤ 25) = true := by simpa using hn
    have hmm : (30 : Int) < (m : Int) := by omega
    rw [hd] at HT
    clear h hd
    go_enter Try.func3, Try.ntmps3
    go_wp2_with fail
    refine (HT.out _).mono ?_
    rintro e w1 ⟨rfl, hb1⟩
    have HB := Lib.hid (below_to hb2 hb1)
    clear hb1 hb2
    go_wp2_with fail
    refine (HA.out _).mono ?_
    rintro e w2 ⟨rfl, hb3⟩
    have hbf := below_to HB.out hb3
    clear hb3
    go_wp2
    go_ret
    exact ⟨rfl, hbf⟩
  · have hd : decide (n ≤ 25) = false := by simp; omega
    rw [hd] at HT
    clear h hd
    go_enter Try.func3, Try.ntmps3
    go_wp2_with fail
    refine (HT.out _).mono ?_
    rintro e w1 ⟨rfl, hb1⟩
    have HB := Lib.hid (below_to hb2 hb1)
    clear hb1 hb2
    go_wp2_with fail
    refine (HA.out _).mono ?_
    rintro e w2 ⟨rfl, hb3⟩
    have hbf := below_to HB.out hb3
    clear hb3
    go_wp2
    go_ret
    exact ⟨rfl, hbf⟩

set_option maxRecDepth 100000 in
set_option maxHeartbeats 4000000 in
theorem reads_walk (sa st : Option Addr) (n cap m capt : Nat) (d k o E1 E EE : Int) (X : Rs) (tb : Bool) (CV TL : Value → World → Prop) (w : World) (hn : n ≤ 25) (hm : m ≤ 30)
    (HCVg : ∀ v w1 w2, CV v w1 → Below w1.heap.size w1 w2 → CV v w2) (HTLg : ∀ v w1 w2, TL v w1 → Below w1.heap.size w1 w2 → TL v w2)
    (HCV : ∀ W, Below w.heap.size w W → Calls Try.prog 18 #[.agg #[.slice sa n cap]] W fun e w' => ∃ v, e = .returned (.agg #[v]) ∧ CV v w' ∧ Below W.heap.size W w')
    (HCC : ∀ v W, CV v W → Calls Try.prog 17 #[.agg #[v]] W fun e w' => e = .returned (.int .i64 E1) ∧ Below W.heap.size W w')
    (HLS : ∀ W, Below w.heap.size w W → Calls Try.prog 21 #[.slice st m capt] W fun e w' => ∃ tl, e = .returned tl ∧ TL tl w' ∧ Below W.heap.size W w')
    (HRD : ∀ v tl W, CV v W → TL tl W → Calls Try.prog 19 #[.agg #[v], .agg #[.int .i64 d, .int .i64 k, .int .i64 o], tl] W fun e w' => e = .returned (.tuple #[.agg (rsV X), .int .i64 EE]) ∧ Below W.heap.size W w')
    (HFL : ∀ W, Below w.heap.size w W → Calls Try.prog 22 #[.agg #[.slice sa n cap], .agg #[.int .i64 d, .int .i64 k, .int .i64 o]] W fun e w' => e = .returned (.int .i64 E) ∧ Below W.heap.size W w')
    (HFT : ∀ W, Below w.heap.size w W → Calls Try.prog 23 #[.agg #[.slice sa n cap]] W fun e w' => e = .returned (.int .i64 E1) ∧ Below W.heap.size W w')
    (HIT : E = 0 → ∀ W, Below w.heap.size w W → Calls Try.prog 24 #[.agg #[.slice sa n cap], .slice st m capt] W fun e w' => e = .returned (.bool tb) ∧ Below W.heap.size W w')
    (HX : (E ≠ 0 ∧ EE = E ∧ X = ⟨0, 0, 0, 0, 0, 0, 0⟩) ∨ (E = 0 ∧ tb = false ∧ EE = 2 ∧ X = ⟨0, 0, 0, 0, 0, 0, 0⟩) ∨
      (E = 0 ∧ tb = true ∧ EE = 0 ∧ ∀ W, Below w.heap.size w W → Calls Try.prog 26 #[.agg #[.slice sa n cap], .agg #[.int .i64 d, .int .i64 k, .int .i64 o], .slice st m capt] W fun e w' => e = .returned (.agg (rsV X)) ∧ Below W.heap.size W w')) :
    Calls Try.prog 3 #[.agg #[.slice sa n cap], .agg #[.int .i64 d, .int .i64 k, .int .i64 o], .slice st m capt] w fun e w' => e = .returned (.bool true) ∧ Below w.heap.size w w' := by
  have hb2 := below2 w (.cells #[.slice sa n cap] 24) (.cells #[.int .i64 d, .int .i64 k, .int .i64 o] 26)
  obtain ⟨hx1, hx2⟩ := box2 w (.cells #[.slice sa n cap] 24) (.cells #[.int .i64 d, .int .i64 k, .int .i64 o] 26)
  have HT := Lib.hid fun W => Thin_any sa n cap W
  have hd : decide (n ≤ 25) = true := by simpa using hn
  rw [hd] at HT
  have hmm : ¬ (30 : Int) < (m : Int) := by omega
  have hmd : decide ((30 : Int) < (m : Int)) = false := by simp; omega
  have HA := Lib.hid awake_any
  have H1 := Lib.hid HCVg
  have H2 := Lib.hid HTLg
  have H3 := Lib.hid HCV
  have H4 := Lib.hid HCC
  have H5 := Lib.hid HLS
  have H6 := Lib.hid HRD
  have H7 := Lib.hid HFL
  have H8 := Lib.hid HFT
  have H9 := Lib.hid HIT
  have H10 := Lib.hid HX
  clear HCVg HTLg HCV HCC HLS HRD HFL HFT HIT HX hd hn hm
  go_enter Try.func3, Try.ntmps3
  go_wp2_with fail
  generalize World.alloc (World.alloc w _) _ = W1 at *
  refine (HT.out _).mono ?_
  rintro e w1 ⟨rfl, hb1⟩
  have HBW := Lib.hid (below_to hb2 hb1)
  have HC : Hid (∀ w', Below w1.heap.size w1 w' → w'.cell? ⟨w.heap.size, 0, none⟩ = some (.slice sa n cap) ∧ w'.cell? ⟨w.heap.size + 1, 0, none⟩ = some (.int .i64 d) ∧ w'.cell? ⟨w.heap.size + 1, 1, none⟩ = some (.int .i64 k) ∧ w'.cell? ⟨w.heap.size + 1, 2, none⟩ = some (.int .i64 o)) := Lib.hid fun w' h => by
    have z1 := (hb1.block _ (lt_of_block hx1)).trans hx1
    have z2 := (hb1.block _ (lt_of_block hx2)).trans hx2
    have y1 := (h.block _ (lt_of_block z1)).trans z1
    have y2 := (h.block _ (lt_of_block z2)).trans z2
    exact ⟨cell_of_row w' w.heap.size 0 _ _ _ y1, cell_of_row w' (w.heap.size + 1) 0 _ _ _ y2, cell_of_row w' (w.heap.size + 1) 1 _ _ _ y2, cell_of_row w' (w.heap.size + 1) 2 _ _ _ y2⟩
  clear hb1 hb2 hx1 hx2
  clear W1
  obtain ⟨d0, d1, d2, d3⟩ := HC.out w1 (Below.refl _ _)
  go_wp2_with fail
  refine (H3.out _ HBW.out).mono ?_
  rintro e w2 ⟨v, rfl, hv, hb2⟩
  have HB2 := Lib.hid hb2
  clear hb2 d0 d1 d2 d3
  go_wp2_with fail
  refine (H4.out v w2 hv).mono ?_
  rintro e w3 ⟨rfl, hb3⟩
  have HB3 := Lib.hid (grow_to HB2.out hb3)
  clear hb3 hv HB2
  clear w2
  go_wp2
  refine wp_region_noPanic ?_
  refine wp_region_float (by kernel_rfl) (fun _ _ _ _ _ h => h) 10 _ rfl 8 rfl rfl (.cells zero37 37) (fun a w => by kernel_rfl)
    [(false, 0), (false, 2), (false, 4), (true, 1), (true, 3), (true, 5), (true, 6), (false, 7), (false, 8), (false, 9)] [11, 12] (by kernel_rfl) ?_
  iterate 3
    (refine Walk.takes rfl rfl ?_; apply Exists.intro; refine ⟨fun w' hS => ?_, ?_⟩; (obtain ⟨d0, d1, d2, d3⟩ := HC.out w' (grow_to HB3.out hS); go_simp; with_reducible rfl); simp only [List.getElem_toArray, List.getElem_cons_succ, List.getElem_cons_zero, Act.put, List.setIfInBounds_toArray, List.set_cons_zero, List.set_cons_succ])
  refine Walk.calls rfl rfl ?_; apply Exists.intro; apply Exists.intro; refine ⟨fun w' hS => ?_, fun w' hba => ?_⟩; (clear hS; go_simp; exact ⟨rfl, rfl⟩)
  have hu0 := below_to HBW.out (grow_to HB3.out (grow_to (below_drawn _) hba))
  refine (H3.out w' hu0).mono ?_
  rintro e u1 ⟨v2, rfl, hv2, hbb⟩
  refine ⟨_, rfl, hbb, ?_⟩
  simp only [List.getElem_toArray, List.getElem_cons_succ, List.getElem_cons_zero, Act.put, List.setIfInBounds_toArray, List.set_cons_zero, List.set_cons_succ]
  have hu1 := below_to hu0 hbb
  clear hba hbb hu0
  refine Walk.calls rfl rfl ?_; apply Exists.intro; apply Exists.intro; refine ⟨fun w' hS => ?_, fun w' hba => ?_⟩; (clear hS; go_simp; exact ⟨rfl, rfl⟩)
  refine (Rule_any d k o w').mono ?_
  rintro e u2 ⟨rfl, hbb⟩
  refine ⟨_, rfl, hbb, ?_⟩
  simp only [List.getElem_toArray, List.getElem_cons_succ, List.getElem_cons_zero, Act.put, List.setIfInBounds_toArray, List.set_cons_zero, List.set_cons_succ]
  replace hv2 := H1.out _ _ _ (H1.out _ _ _ hv2 hba) hbb
  have hu2 := below_to (below_to hu1 hba) hbb
  clear hba hbb hu1
  refine Walk.calls rfl rfl ?_; apply Exists.intro; apply Exists.intro; refine ⟨fun w' hS => ?_, fun w' hba => ?_⟩; (clear hS; go_simp; exact ⟨rfl, rfl⟩)
  refine (H5.out w' (below_to hu2 hba)).mono ?_
  rintro e u3 ⟨tl, rfl, htl, hbb⟩
  refine ⟨_, rfl, hbb, ?_⟩
  simp only [List.getElem_toArray, List.getElem_cons_succ, List.getElem_cons_zero, Act.put, List.setIfInBounds_toArray, List.set_cons_zero, List.set_cons_succ]
  replace hv2 := H1.out _ _ _ (H1.out _ _ _ hv2 hba) hbb
  clear hba hbb hu2
  refine Walk.calls rfl rfl ?_; apply Exists.intro; apply Exists.intro; refine ⟨fun w' hS => ?_, fun w' hba => ?_⟩; (clear hS; go_simp; exact ⟨rfl, rfl⟩)
  refine (H6.out v2 tl w' (H1.out _ _ _ hv2 hba) (H2.out _ _ _ htl hba)).mono ?_
  rintro e u4 ⟨rfl, hbb⟩
  refine ⟨_, rfl, hbb, ?_⟩
  simp only [List.getElem_toArray, List.getElem_cons_succ, List.getElem_cons_zero, Act.put, List.setIfInBounds_toArray, List.set_cons_zero, List.set_cons_succ]
  clear hba hbb hv2 htl
  iterate 3
    (refine Walk.takes rfl rfl ?_; apply Exists.intro; refine ⟨fun w' hS => ?_, ?_⟩; (clear hS; go_simp; with_reducible rfl); simp only [List.getElem_toArray, List.getElem_cons_succ, List.getElem_cons_zero, Act.put, List.setIfInBounds_toArray, List.set_cons_zero, List.set_cons_succ])
  refine Walk.fin ?_
  intro v7 hb7 b8 hbb8 hz8 hw7
  simp only [List.getElem_toArray, List.getElem_cons_succ, List.getElem_cons_zero, Act.put, List.setIfInBounds_toArray, List.set_cons_zero, List.set_cons_succ]
  have hs37 : (Try.prog.info? 37).map (·.size) = some (rsV X).size := s37
  have n1 := set_whole b8 37 v7 zero37 (rsV X) rfl hz8
  have n3 := below_cells (b := b8) hbb8 (rsV X).toList 0 v7 hw7
  refine Tail.skip rfl rfl (exec_store_row 37 (.tmp 8) (.tmp 31) rfl b8 0 (rsV X) rfl rfl (there_block hz8 (Nat.le_refl _)) hs37 (by simp [rsV, iV, Value.oneCell'])) n3 ?_
  simp only [List.getElem_toArray, List.getElem_cons_succ, List.getElem_cons_zero, Act.put, List.setIfInBounds_toArray, List.set_cons_zero, List.set_cons_succ]
  generalize v7.setCells b8 0 (rsV X).toList = w4 at *
  (refine Tail.value rfl rfl (by go_simp; with_reducible rfl) ?_; simp only [List.getElem_toArray, List.getElem_cons_succ, List.getElem_cons_zero, Act.put, List.setIfInBounds_toArray, List.set_cons_zero, List.set_cons_succ])
  refine Tail.done (NoPanic.normal ?_)
  clear hz8 hw7 hb7 hs37 hbb8
  clear v7
  have HB4 := Lib.hid (grow_to HB3.out n3)
  have N1 := Lib.hid n1
  clear n1 n3 HB3
  clear w3
  have HF : Hid (∀ w', Below w4.heap.size w4 w' → w'.cell? ⟨b8, 0, none⟩ = some (.int .i64 X.st) ∧ w'.cell? ⟨b8, 1, none⟩ = some (.int .i64 X.pk) ∧ w'.cell? ⟨b8, 2, none⟩ = some (.int .i64 X.ya) ∧ w'.cell? ⟨b8, 3, none⟩ = some (.int .i64 X.y) ∧ w'.cell? ⟨b8, 4, none⟩ = some (.int .i64 X.ma) ∧ w'.cell? ⟨b8, 5, none⟩ = some (.int .i64 X.pl) ∧ w'.cell? ⟨b8, 6, none⟩ = some (.int .i64 X.wk)) := Lib.hid fun w' h => by
    have y1 := (h.block _ (lt_of_block N1.out)).trans N1.out
    exact ⟨cell_of_row w' b8 0 _ _ _ y1, cell_of_row w' b8 1 _ _ _ y1, cell_of_row w' b8 2 _ _ _ y1, cell_of_row w' b8 3 _ _ _ y1, cell_of_row w' b8 4 _ _ _ y1, cell_of_row w' b8 5 _ _ _ y1, cell_of_row w' b8 6 _ _ _ y1⟩
  obtain ⟨d0, d1, d2, d3⟩ := HC.out w4 HB4.out
  go_wp2_with fail
  refine (H7.out _ (below_to HBW.out HB4.out)).mono ?_
  rintro e w5 ⟨rfl, hb5⟩
  have G5 := Lib.hid hb5
  clear hb5 d0 d1 d2 d3
  obtain ⟨d0, d1, d2, d3⟩ := HC.out w5 (grow_to HB4.out G5.out)
  go_wp2_with fail
  refine (H8.out _ (below_to HBW.out (grow_to HB4.out G5.out))).mono ?_
  rintro e w6 ⟨rfl, hb6⟩
  have G6 := Lib.hid (grow_to G5.out hb6)
  clear hb6 d0 d1 d2 d3 G5
  clear w5
  have hE1 : (E1 != E1) = false := by simp
  rcases H10.out with ⟨he, e1, e2⟩ | ⟨e0, e1, e2, e3⟩ | ⟨e0, e1, e2, HRR⟩
  · subst e1 e2
    have hne : (EE == 0) = false := by rw [beq_eq_false_iff_ne]; exact he
    have hne' : (EE != 0) = true := by rw [bne_iff_ne]; exact he
    have h37 : ∀ w, (binOp .eql 37 (.agg #[.int .i64 0, .int .i64 0, .int .i64 0, .int .i64 0, .int .i64 0, .int .i64 0, .int .i64 0]) (.agg #[.int .i64 0, .int .i64 0, .int .i64 0, .int .i64 0, .int .i64 0, .int .i64 0, .int .i64 0])).run Try.prog w = .ok (.bool true) w := eqr37 ⟨0, 0, 0, 0, 0, 0, 0⟩
    obtain ⟨f0, f1, f2, f3, f4, f5, f6⟩ := HF.out w6 G6.out
    try simp only at f0 f1 f2 f3 f4 f5 f6
    go_wp2_with fail
    refine (HA.out _).mono ?_
    rintro e w7 ⟨rfl, hb7⟩
    have hbf := below_to HBW.out (grow_to HB4.out (grow_to G6.out hb7))
    clear hb7 f0 f1 f2 f3 f4 f5 f6
    go_wp2
    go_ret
    exact ⟨rfl, hbf⟩
  · subst e0 e1 e2 e3
    have HIT := Lib.hid (H9.out (by first | rfl | trivial))
    obtain ⟨d0, d1, d2, d3⟩ := HC.out w6 (grow_to HB4.out G6.out)
    go_wp2_with fail
    refine (HIT.out _ (below_to HBW.out (grow_to HB4.out G6.out))).mono ?_
    rintro e w7 ⟨rfl, hb7⟩
    have G7 := Lib.hid (grow_to G6.out hb7)
    clear hb7 d0 d1 d2 d3
    have h37 : ∀ w, (binOp .eql 37 (.agg #[.int .i64 0, .int .i64 0, .int .i64 0, .int .i64 0, .int .i64 0, .int .i64 0, .int .i64 0]) (.agg #[.int .i64 0, .int .i64 0, .int .i64 0, .int .i64 0, .int .i64 0, .int .i64 0, .int .i64 0])).run Try.prog w = .ok (.bool true) w := eqr37 ⟨0, 0, 0, 0, 0, 0, 0⟩
    obtain ⟨f0, f1, f2, f3, f4, f5, f6⟩ := HF.out w7 G7.out
    try simp only at f0 f1 f2 f3 f4 f5 f6
    go_wp2_with fail
    refine (HA.out _).mono ?_
    rintro e w8 ⟨rfl, hb8⟩
    have hbf := below_to HBW.out (grow_to HB4.out (grow_to G7.out hb8))
    clear hb8 f0 f1 f2 f3 f4 f5 f6
    go_wp2
    go_ret
    exact ⟨rfl, hbf⟩
  · subst e0 e1 e2
    have HR := Lib.hid HRR
    clear HRR
    have HIT := Lib.hid (H9.out (by first | rfl | trivial))
    obtain ⟨d0, d1, d2, d3⟩ := HC.out w6 (grow_to HB4.out G6.out)
    go_wp2_with fail
    refine (HIT.out _ (below_to HBW.out (grow_to HB4.out G6.out))).mono ?_
    rintro e w7 ⟨rfl, hb7⟩
    have G7 := Lib.hid (grow_to G6.out hb7)
    clear hb7 d0 d1 d2 d3 G6
    clear w6
    go_wp2
    refine wp_region_noPanic ?_
    refine wp_region_chain (fun w' => Below w7.heap.size w7 w') (fun _ _ h hb => grow_to h hb) (below_drawn _) (by kernel_rfl) (fun _ _ _ _ _ h => h)
      [(false, 0), (false, 1), (false, 2), (false, 3), (false, 4), (false, 5), (false, 6), (true, 7), (true, 8), (false, 9), (false, 10), (false, 11), (true, 12), (false, 13)] [14] (by kernel_rfl) ?_
    iterate 7
      (refine Walk.takes rfl rfl ?_; apply Exists.intro; refine ⟨fun w' hS => ?_, ?_⟩; (obtain ⟨d0, d1, d2, d3⟩ := HC.out w' (grow_to HB4.out (grow_to G7.out hS)); obtain ⟨f0, f1, f2, f3, f4, f5, f6⟩ := HF.out w' (grow_to G7.out hS); clear hS; go_simp; with_reducible rfl); simp only [List.getElem_toArray, List.getElem_cons_succ, List.getElem_cons_zero, Act.put, List.setIfInBounds_toArray, List.set_cons_zero, List.set_cons_succ])
    refine Walk.calls rfl rfl ?_; apply Exists.intro; apply Exists.intro; refine ⟨fun w' hS => ?_, fun w' hba => ?_⟩; (clear hS; go_simp; exact ⟨rfl, rfl⟩)
    refine (HR.out w' (below_to HBW.out (grow_to HB4.out (grow_to G7.out (grow_to (below_drawn _) hba))))).mono ?_
    rintro e u1 ⟨rfl, hbb⟩
    refine ⟨_, rfl, hbb, ?_⟩
    simp only [List.getElem_toArray, List.getElem_cons_succ, List.getElem_cons_zero, Act.put, List.setIfInBounds_toArray, List.set_cons_zero, List.set_cons_succ]
    clear hba hbb
    refine Walk.calls rfl rfl ?_; apply Exists.intro; apply Exists.intro; refine ⟨fun w' hS => ?_, fun w' hba => ?_⟩; (clear hS; go_simp; exact ⟨rfl, rfl⟩)
    refine (result_any X w').mono ?_
    rintro e u2 ⟨rfl, hbb⟩
    refine ⟨_, rfl, hbb, ?_⟩
    simp only [List.getElem_toArray, List.getElem_cons_succ, List.getElem_cons_zero, Act.put, List.setIfInBounds_toArray, List.set_cons_zero, List.set_cons_succ]
    clear hba hbb
    rw [show rsV X = #[.int .i64 X.st, .int .i64 X.pk, .int .i64 X.ya, .int .i64 X.y, .int .i64 X.ma, .int .i64 X.pl, .int .i64 X.wk] from rfl]
    have h37 : ∀ w, (binOp .eql 37 (.agg #[.int .i64 X.st, .int .i64 X.pk, .int .i64 X.ya, .int .i64 X.y, .int .i64 X.ma, .int .i64 X.pl, .int .i64 X.wk]) (.agg #[.int .i64 X.st, .int .i64 X.pk, .int .i64 X.ya, .int .i64 X.y, .int .i64 X.ma, .int .i64 X.pl, .int .i64 X.wk])).run Try.prog w = .ok (.bool true) w := eqr37 X
    iterate 3
      (refine Walk.takes rfl rfl ?_; apply Exists.intro; refine ⟨fun w' hS => ?_, ?_⟩; (clear hS; go_simp; with_reducible rfl); simp only [List.getElem_toArray, List.getElem_cons_succ, List.getElem_cons_zero, Act.put, List.setIfInBounds_toArray, List.set_cons_zero, List.set_cons_succ])
    refine Walk.calls rfl rfl ?_; apply Exists.intro; apply Exists.intro; refine ⟨fun w' hS => ?_, fun w' hba => ?_⟩; (clear hS; go_simp; exact ⟨rfl, rfl⟩)
    refine (HA.out w').mono ?_
    rintro e u3 ⟨rfl, hbb⟩
    refine ⟨_, rfl, hbb, ?_⟩
    simp only [List.getElem_toArray, List.getElem_cons_succ, List.getElem_cons_zero, Act.put, List.setIfInBounds_toArray, List.set_cons_zero, List.set_cons_succ]
    clear hba hbb
    (refine Walk.takes rfl rfl ?_; apply Exists.intro; refine ⟨fun w' hS => ?_, ?_⟩; (clear hS; go_simp; with_reducible rfl); simp only [List.getElem_toArray, List.getElem_cons_succ, List.getElem_cons_zero, Act.put, List.setIfInBounds_toArray, List.set_cons_zero, List.set_cons_succ])
    refine Walk.fin fun w8 hb8 hS8 => ?_
    (refine Tail.value rfl rfl (by go_simp; with_reducible rfl) ?_; simp only [List.getElem_toArray, List.getElem_cons_succ, List.getElem_cons_zero, Act.put, List.setIfInBounds_toArray, List.set_cons_zero, List.set_cons_succ])
    refine Tail.done (NoPanic.normal ?_)
    have hbf := below_to HBW.out (grow_to HB4.out (grow_to G7.out hS8))
    clear hb8 hS8
    go_wp2
    go_ret
    exact ⟨rfl, hbf⟩
end Go.Proofs.Ytfjlnejeffkdoaa

namespace Go.Proofs.Ytfjlnejeffkdoaa
open Go.ChangeShapes Go.WideShapes Go.ChangeAt Go.RowKit
attribute [local irreducible] arrV

/-- The copied curve. -/
def CVp (n : Nat) (ps : List Pt) (v : Value) (W : World) : Prop := ∃ s c, v = .slice s n c ∧ (0 < n → ∃ B, s = some ⟨B, 0, none⟩ ∧ PtsIn W B 0 ps)
def TLp (m : Nat) (t : List Int) (v : Value) (W : World) : Prop := ∃ s c, v = .slice s m c ∧ (0 < m → ∃ B, s = some ⟨B, 0, none⟩ ∧ IntsIn W B 0 t)
theorem CVp.grown {n : Nat} {ps : List Pt} (hps : ps.length = n) : ∀ v w1 w2, CVp n ps v w1 → Below w1.heap.size w1 w2 → CVp n ps v w2 := fun v w1 w2 ⟨s, c, e, h⟩ hb => ⟨s, c, e, fun h0 => by
  obtain ⟨B, e2, hP⟩ := h h0
  exact ⟨B, e2, hP.below hb (block_lt_of_cell (hP 0 (by omega)).1)⟩⟩
theorem TLp.grown {m : Nat} {t : List Int} (ht : t.length = m) : ∀ v w1 w2, TLp m t v w1 → Below w1.heap.size w1 w2 → TLp m t v w2 := fun v w1 w2 ⟨s, c, e, h⟩ hb => ⟨s, c, e, fun h0 => by
  obtain ⟨B, e2, hP⟩ := h h0
  exact ⟨B, e2, hP.below hb (block_lt_of_cell (hP 0 (by omega)))⟩⟩

theorem curve_cv (sa : Option Addr) (n cap : Nat) (ps : List Pt) (w : World) (hn : n ≤ 25) (hps : ps.length = n) (hp : 0 < n → ∃ b off, sa = some ⟨b, off, none⟩ ∧ PtsIn w b off ps) :
    ∀ W, Below w.heap.size w W → Calls Try.prog 18 #[.agg #[.slice sa n cap]] W fun e w' => ∃ v, e = .returned (.agg #[v]) ∧ CVp n ps v w' ∧ Below W.heap.size W w' := fun W hb => by
  rcases Nat.eq_zero_or_pos n with h | h
  · subst h
    exact (Curve_0 sa cap W).mono fun e w' ⟨he, hb'⟩ => ⟨_, he, ⟨none, 0, rfl, fun h0 => absurd h0 (by omega)⟩, hb'⟩
  · obtain ⟨b, off, rfl, hP⟩ := hp h
    subst hps
    exact (Curve_25 b off cap ps W hn h (hP.below hb (block_lt_of_cell (hP 0 h).1))).mono fun e w' ⟨B, c, he, h1, _, hb'⟩ => ⟨_, he, ⟨some ⟨B, 0, none⟩, c, rfl, fun _ => ⟨B, rfl, h1⟩⟩, hb'⟩
theorem list_tl (st : Option Addr) (m capt : Nat) (t : List Int) (w : World) (hm : m ≤ 30) (ht : t.length = m) (hp : 0 < m → ∃ b off, st = some ⟨b, off, none⟩ ∧ IntsIn w b off t) :
    ∀ W, Below w.heap.size w W → Calls Try.prog 21 #[.slice st m capt] W fun e w' => ∃ v, e = .returned v ∧ TLp m t v w' ∧ Below W.heap.size W w' := fun W hb => by
  rcases Nat.eq_zero_or_pos m with h | h
  · subst h
    exact (list_0 st capt W).mono fun e w' ⟨he, hb'⟩ => ⟨_, he, ⟨none, 0, rfl, fun h0 => absurd h0 (by omega)⟩, hb'⟩
  · obtain ⟨b, off, rfl, hP⟩ := hp h
    subst ht
    exact (list_any b off capt t W h (by omega) (hP.below hb (block_lt_of_cell (hP 0 h)))).mono fun e w' ⟨B, c, he, h1, _, hb'⟩ => ⟨_, he, ⟨some ⟨B, 0, none⟩, c, rfl, fun _ => ⟨B, rfl, h1⟩⟩, hb'⟩

/-- Where the curve or the rule is not valid. -/
theorem reads_bad (sa st : Option Addr) (n cap m capt : Nat) (d k o E1 : Int) (ps : List Pt) (t : List Int) (w : World) (hn : n ≤ 25) (hm : m ≤ 30) (hps : ps.length = n) (hp : 0 < n → ∃ b off, sa = some ⟨b, off, none⟩ ∧ PtsIn w b off ps)
    (ht : t.length = m) (hi : 0 < m → ∃ b off, st = some ⟨b, off, none⟩ ∧ IntsIn w b off t) (hE1 : E1 = 0 ∨ E1 = 1 ∨ E1 = 3) (hE : (if E1 = 0 then ruleE ⟨d, k, o⟩ else E1) ≠ 0)
    (HK : ∀ s c W, (0 < n → ∃ B, s = some ⟨B, 0, none⟩ ∧ PtsIn W B 0 ps) → Calls Try.prog 47 #[.agg #[.slice s n c]] W fun e w' => e = .returned (.int .i64 E1) ∧ Below W.heap.size W w')
    (HR : ∀ s c W, (0 < n → ∃ B, s = some ⟨B, 0, none⟩ ∧ PtsIn W B 0 ps) → Calls Try.prog 48 #[.agg #[.slice s n c, .int .i64 d, .int .i64 k, .int .i64 o]] W fun e w' => e = .returned (.int .i64 (if E1 = 0 then ruleE ⟨d, k, o⟩ else E1)) ∧ Below W.heap.size W w')
    (HF : ∀ W, Below w.heap.size w W → Calls Try.prog 23 #[.agg #[.slice sa n cap]] W fun e w' => e = .returned (.int .i64 E1) ∧ Below W.heap.size W w') :
    Calls Try.prog 3 #[.agg #[.slice sa n cap], .agg #[.int .i64 d, .int .i64 k, .int .i64 o], .slice st m capt] w fun e w' => e = .returned (.bool true) ∧ Below w.heap.size w w' := by
  refine reads_walk sa st n cap m capt d k o E1 (if E1 = 0 then ruleE ⟨d, k, o⟩ else E1) (if E1 = 0 then ruleE ⟨d, k, o⟩ else E1) ⟨0, 0, 0, 0, 0, 0, 0⟩ false (CVp n ps) (TLp m t) w hn hm (CVp.grown hps) (TLp.grown ht) (curve_cv sa n cap ps w hn hps hp) ?_ (list_tl st m capt t w hm ht hi) ?_
    (fun W hb => fault_any sa n cap E1 d k o W hE1 (IsRule_any d k o) (fun W' hb' => HF W' (below_to hb hb'))) HF (fun h => absurd h hE) (.inl ⟨hE, rfl, rfl⟩)
  · rintro v W ⟨s, c, rfl, h⟩
    exact CheckCurve_of _ E1 W fun W' hb => HK s c W' fun h0 => by
      obtain ⟨B, e, hP⟩ := h h0
      exact ⟨B, e, hP.below hb (block_lt_of_cell (hP 0 (by omega)).1)⟩
  · rintro v tl W ⟨s, c, rfl, h⟩ _
    exact Read_err s n c tl d k o _ W hE fun W' hb => HR s c W' fun h0 => by
      obtain ⟨B, e, hP⟩ := h h0
      exact ⟨B, e, hP.below hb (block_lt_of_cell (hP 0 (by omega)).1)⟩

/-- The law returns true: a curve, a rule and numbers, as they lie in memory. -/
theorem reads_law (sa st : Option Addr) (n cap m capt : Nat) (d k o : Int) (w : World) (hnl : n ≤ maxLen) (hml : m ≤ maxLen) (hp0 : 0 < n → ∃ b off ps, sa = some ⟨b, off, none⟩ ∧ ps.length = n ∧ PtsIn w b off ps)
    (ht0 : 0 < m → ∃ b off t, st = some ⟨b, off, none⟩ ∧ t.length = m ∧ IntsIn w b off t) :
    Calls Try.prog 3 #[.agg #[.slice sa n cap], .agg #[.int .i64 d, .int .i64 k, .int .i64 o], .slice st m capt] w fun e w' => e = .returned (.bool true) ∧ Below w.heap.size w w' := by
  by_cases hbig : 25 < n ∨ 30 < m
  · exact reads_no sa st n cap m capt d k o w hbig hml
  have hn : n ≤ 25 := by omega
  have hm : m ≤ 30 := by omega
  obtain ⟨ps, hps, hp⟩ : ∃ ps : List Pt, ps.length = n ∧ (0 < n → ∃ b off, sa = some ⟨b, off, none⟩ ∧ PtsIn w b off ps) := by
    rcases Nat.eq_zero_or_pos n with h | h
    · exact ⟨[], h.symm, fun h' => absurd h' (by omega)⟩
    · obtain ⟨b, off, ps, e, h1, h2⟩ := hp0 h
      exact ⟨ps, h1, fun _ => ⟨b, off, e, h2⟩⟩
  obtain ⟨t, ht, hi⟩ : ∃ t : List Int, t.length = m ∧ (0 < m → ∃ b off, st = some ⟨b, off, none⟩ ∧ IntsIn w b off t) := by
    rcases Nat.eq_zero_or_pos m with h | h
    · exact ⟨[], h.symm, fun h' => absurd h' (by omega)⟩
    · obtain ⟨b, off, t, e, h1, h2⟩ := ht0 h
      exact ⟨t, h1, fun _ => ⟨b, off, e, h2⟩⟩
  by_cases h20 : 20 < n
  · exact reads_bad sa st n cap m capt d k o 3 ps t w hn hm hps hp ht hi (by omega) (by simp) (fun s c W _ => check_long s n c W h20 hnl) (fun s c W _ => by simpa using rcheck_long s n c d k o W h20 hnl) (fun W _ => Fault_long sa n cap W h20 hnl)
  by_cases hz : n = 0
  · subst hz
    exact reads_bad sa st 0 cap m capt d k o 1 ps t w hn hm hps hp ht hi (by omega) (by simp) (fun s c W _ => check_empty W s c) (fun s c W _ => by simpa using rcheck_empty s c d k o W) (fun W _ => Fault_empty sa cap W)
  have hl : 0 < n := by omega
  obtain ⟨b, off, rfl, hP⟩ := hp hl
  have hltb := block_lt_of_cell (hP 0 (by omega)).1
  subst hps
  have hl20 : ps.length ≤ 20 := by omega
  have hE : ptsE ps = 0 ∨ ptsE ps = 1 ∨ ptsE ps = 3 := by
    unfold ptsE; split <;> simp
  have hF : ∀ W, Below w.heap.size w W → Calls Try.prog 23 #[.agg #[.slice (some ⟨b, off, none⟩) ps.length cap]] W fun e w' => e = .returned (.int .i64 (ptsE ps)) ∧ Below W.heap.size W w' :=
    fun W hb => Fault_pts b off cap ps W hl20 hl (hP.below hb hltb)
  have hboth : bothE ps ⟨d, k, o⟩ = if ptsE ps = 0 then ruleE ⟨d, k, o⟩ else ptsE ps := by
    unfold bothE
    cases hg : goodsB ps 0
    · simp [ptsE_no hg]
    · simp [ptsE_yes hg]
  by_cases hbad : (if ptsE ps = 0 then ruleE ⟨d, k, o⟩ else ptsE ps) ≠ 0
  · refine reads_bad _ st _ cap m capt d k o (ptsE ps) ps t w hn hm rfl hp ht hi hE hbad (fun s c W h => ?_) (fun s c W h => ?_) hF
    · obtain ⟨B, rfl, hB⟩ := h hl
      exact check_pts B 0 c ps W hl20 hl hB
    · obtain ⟨B, rfl, hB⟩ := h hl
      rw [← hboth]
      exact rcheck_pts B 0 c ps d k o W hl20 hl hB
  have hg : goodsB ps 0 = true := by
    cases hg : goodsB ps 0
    · simp [ptsE_no hg] at hbad
    · rfl
  have hr : ruleB ⟨d, k, o⟩ = true := by
    cases hr : ruleB ⟨d, k, o⟩
    · simp [ptsE_yes hg, ruleE_no hr] at hbad
    · rfl
  have hE0 : (if ptsE ps = 0 then ruleE ⟨d, k, o⟩ else ptsE ps) = 0 := by simp [ptsE_yes hg, ruleE_yes hr]
  have hfl : ∀ W, Below w.heap.size w W → Calls Try.prog 22 #[.agg #[.slice (some ⟨b, off, none⟩) ps.length cap], .agg #[.int .i64 d, .int .i64 k, .int .i64 o]] W fun e w' => e = .returned (.int .i64 0) ∧ Below W.heap.size W w' := fun W hb => by
    have := fault_any (some ⟨b, off, none⟩) ps.length cap (ptsE ps) d k o W hE (IsRule_any d k o) (fun W' hb' => hF W' (below_to hb hb'))
    rw [hE0] at this
    exact this
  have hcc : ∀ v W, CVp ps.length ps v W → Calls Try.prog 17 #[.agg #[v]] W fun e w' => e = .returned (.int .i64 (ptsE ps)) ∧ Below W.heap.size W w' := by
    rintro v W ⟨s, c, rfl, h⟩
    obtain ⟨B, rfl, hB⟩ := h hl
    exact CheckCurve_of _ _ W fun W' hb => check_pts B 0 c ps W' hl20 hl (hB.below hb (block_lt_of_cell (hB 0 hl).1))
  have hrc : ∀ (B c : Nat) W, PtsIn W B 0 ps → Calls Try.prog 48 #[.agg #[.slice (some ⟨B, 0, none⟩) ps.length c, .int .i64 d, .int .i64 k, .int .i64 o]] W fun e w' => e = .returned (.int .i64 0) ∧ Below W.heap.size W w' := fun B c W hB => by
    have := rcheck_pts B 0 c ps d k o W hl20 hl hB
    rw [hboth, hE0] at this
    exact this
  by_cases hmn : m = ps.length
  · subst hmn
    have htn := ht
    obtain ⟨bt, offt, rfl, hI⟩ := hi hl
    have hltt := block_lt_of_cell (hI 0 (by omega))
    have hit : ∀ W, Below w.heap.size w W → Calls Try.prog 24 #[.agg #[.slice (some ⟨b, off, none⟩) ps.length cap], .slice (some ⟨bt, offt, none⟩) ps.length capt] W fun e w' => e = .returned (.bool (fitsB ps t 0)) ∧ Below W.heap.size W w' :=
      fun W hb => IsTruth_eq b off cap bt offt capt ps t W hl20 hl (hP.below hb hltb) htn (hI.below hb hltt)
    cases hf : fitsB ps t 0 with
    | false =>
      rw [hf] at hit
      refine reads_walk _ _ _ cap _ capt d k o (ptsE ps) 0 2 ⟨0, 0, 0, 0, 0, 0, 0⟩ false (CVp ps.length ps) (TLp ps.length t) w hn hm (CVp.grown rfl) (TLp.grown ht) (curve_cv _ _ cap ps w hn rfl hp) hcc (list_tl _ _ capt t w hm ht hi) ?_ hfl hF (fun _ => hit) (.inr (.inl ⟨rfl, rfl, rfl, rfl⟩))
      rintro v tl W ⟨s, c, rfl, h⟩ ⟨s', c', rfl, h'⟩
      obtain ⟨B, rfl, hB⟩ := h hl
      obtain ⟨B', rfl, hB'⟩ := h' hl
      refine Read_out _ _ _ c _ c' d k o W (fun W' hb => hrc B c W' (hB.below hb (block_lt_of_cell (hB 0 hl).1))) fun W' hb => ?_
      have := allows_any B 0 c B' 0 c' ps t W' hl20 hl (hB.below hb (block_lt_of_cell (hB 0 hl).1)) htn (hB'.below hb (block_lt_of_cell (hB' 0 (by omega))))
      rw [hf] at this
      exact this
    | true =>
      rw [hf] at hit
      have G : Good ps ⟨d, k, o⟩ t := ⟨hl20, hl, hg, hr, htn, hf⟩
      refine reads_walk _ _ _ cap _ capt d k o (ptsE ps) 0 0 (readR ps ⟨d, k, o⟩ (pad t)) true (CVp ps.length ps) (TLp ps.length t) w hn hm (CVp.grown rfl) (TLp.grown ht) (curve_cv _ _ cap ps w hn rfl hp) hcc (list_tl _ _ capt t w hm ht hi) ?_ hfl hF (fun _ => hit) (.inr (.inr ⟨rfl, rfl, rfl, fun W hb => RefRead_any b off cap bt offt capt ps ⟨d, k, o⟩ t W G (hP.below hb hltb) (hI.below hb hltt)⟩))
      rintro v tl W ⟨s, c, rfl, h⟩ ⟨s', c', rfl, h'⟩
      obtain ⟨B, rfl, hB⟩ := h hl
      obtain ⟨B', rfl, hB'⟩ := h' hl
      exact Read_ok B 0 c B' 0 c' ps ⟨d, k, o⟩ t W G hB hB'
  · refine reads_walk _ st _ cap m capt d k o (ptsE ps) 0 2 ⟨0, 0, 0, 0, 0, 0, 0⟩ false (CVp ps.length ps) (TLp m t) w hn hm (CVp.grown rfl) (TLp.grown ht) (curve_cv _ _ cap ps w hn rfl hp) hcc (list_tl _ _ capt t w hm ht hi) ?_ hfl hF (fun _ W _ => IsTruth_ne _ _ _ _ _ _ W hmn) (.inr (.inl ⟨rfl, rfl, rfl, rfl⟩))
    rintro v tl W ⟨s, c, rfl, h⟩ ⟨s', c', rfl, h'⟩
    obtain ⟨B, rfl, hB⟩ := h hl
    exact Read_out _ _ _ c _ c' d k o W (fun W' hb => hrc B c W' (hB.below hb (block_lt_of_cell (hB 0 hl).1))) fun W' hb => allows_ne _ _ _ _ _ _ W' hmn

set_option maxRecDepth 100000 in
theorem reads_lifted (os : Os) (started : os.Started) (H : Type) (enc : TypeId × Value → H) :
    ReturnsInHanded {} Try.checked os 3 .any (Rows.curveReadsSpec.pre6 enc Try.prog Try.f3 Rows.curveReadsRow.domain false) (Rows.curveReadsSpec.post enc Try.prog Try.f3 false true false false) := by
  refine returnsInHanded_of_change (C := Try.checked) Try.own started (by kernel_rfl) Try.func3
    (ChangeSpec.witness6 (enc := enc) (C := Try.checked) false ⟨#[], #[.agg #[.slice none 0 0], .agg #[.int .i64 0, .int .i64 0, .int .i64 0], .slice none 0 0], []⟩ 8 (by kernel_rfl) (by kernel_rfl) (by kernel_rfl) (by kernel_rfl)) ?_
  intro W base args ds gs before hval0 hW _ _
  have hval : ∀ (j : Nat) t v, Try.f3.params[j]? = some t → args[j]? = some v → Value.okWide Try.prog W .any base t v := hval0
  have hW' := hW
  obtain ⟨p, q, hA0, hV, rfl, hfz, hnd⟩ := hW
  have hA : DataW.TrodAll enc Try.prog W 0 (fun _ => true) true Try.f3.params.toList args.toList ds p := hA0
  rw [Try.params3] at hA hval
  obtain ⟨v0, vs0, d0, ds0, p0, q0, hargs, rfl, rfl, h0, r0⟩ := trodAll_cons hA
  obtain ⟨v1, vs1, d1, ds1, p1, q1, rfl, rfl, rfl, h1, r1⟩ := trodAll_cons r0
  obtain ⟨v2, vs2, d2, ds2, p2, q2, rfl, rfl, rfl, h2, r2⟩ := trodAll_cons r1
  obtain ⟨rfl, rfl, rfl⟩ := trodAll_nil r2
  obtain ⟨args⟩ := args
  simp only at hargs
  subst hargs
  obtain ⟨rfl, rfl⟩ := trodVars_none hV
  obtain ⟨sa, n, cap, rfl, hn, hp⟩ := open_curve (hval 0 24 v0 rfl rfl) h0
  obtain ⟨d, k, o, rfl⟩ := open_rule (hval 1 26 v1 rfl rfl) h1
  obtain ⟨st, m, capt, rfl, hm, ht⟩ := open_truth (hval 2 27 v2 rfl rfl) h2
  clear hA0 hval0
  refine (reads_law sa st n cap m capt d k o W hn hm hp ht).mono fun e W' ⟨he, hb⟩ => ?_
  subst he
  have hlt : ∀ x ∈ p0 ++ (p1 ++ p2), x.block < W.heap.size := fun x hx => by simpa using hW'.lt x (by simpa using hx)
  have e1 : Rows.curveReadsSpec.fn H ([d0, d1, d2] ++ []) = { results := [.lit (.bool true)], args := [d0, d1, d2] } := rfl
  refine ⟨_, rfl, _, _, _, [], p0 ++ (p1 ++ (p2 ++ [])), [], hW', ?_, ?_, ?_, hb.frame _, fun h => by cases h⟩
  · rw [e1]
    exact trodAll_mk1 (shut_bool Try.underlying4 true)
  · rw [e1]
    exact trodAll_cons_mk (Below.trod Try.laidOut (by kernel_rfl) (of_decide_eq_true (by kernel_rfl)) h0 hb (fun x hx => hlt x (by simp [hx])))
      (trodAll_cons_mk (Below.trod Try.laidOut (by kernel_rfl) (of_decide_eq_true (by kernel_rfl)) h1 hb (fun x hx => hlt x (by simp [hx])))
      (trodAll_cons_mk (Below.trod Try.laidOut (by kernel_rfl) (of_decide_eq_true (by kernel_rfl)) h2 hb (fun x hx => hlt x (by simp [hx])))
      trodAll_mk0))
  · rfl

theorem reads_holds : Rows.CurveReadsSaid :=
  OpenClaim.holds_of_wide 3 Try.f3 rfl rfl rfl rfl rfl rfl rfl ⟨rfl, rfl, rfl, rfl, rfl⟩ rfl rfl rfl rfl rfl (by kernel_rfl) Try.func3 (by kernel_rfl)
    (of_decide_eq_true (by kernel_rfl)) (by unfold Func.isWrapper; rw [if_neg (of_decide_eq_false (by kernel_rfl))]; exact ⟨rfl, rfl⟩)
    (fun os started H enc _ => reads_lifted os started H enc)
#print axioms reads_holds
end Go.Proofs.Ytfjlnejeffkdoaa
