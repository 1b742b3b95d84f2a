/- The curve in the law: its contract. -/
import Derived.Test.YtfjlnejeffkdoaaHH
namespace Go.Proofs.Ytfjlnejeffkdoaa
open Go.RowKit Go.Shelf
attribute [local irreducible] arrV

theorem flatT_take (ps : List Pt) (q : Nat) (h : q < ps.length) : flatT (ps.take (q + 1)) = flatT (ps.take q) ++ [.int .i64 (pt ps q).s, .int .i64 (pt ps q).lo, .int .i64 (pt ps q).hi] := by
  rw [List.take_add_one, List.getElem?_eq_getElem h]
  simp only [flatT, List.flatMap_append, Option.toList_some, List.flatMap_cons, List.flatMap_nil, List.append_nil]
  simp [pt, h]
theorem pt_built (x y z : Int) : Try.prog.builtSlice 74 1 [(0, .agg #[.int .i64 x, .int .i64 y, .int .i64 z])] = some #[.int .i64 x, .int .i64 y, .int .i64 z] := by kernel_rfl

theorem wpList_append_pt2 {ops : Array Oper} {rest : List Oper} {o : Oper} {a : Act} {Q : Exit → Act → World → Prop} {W : World} {A : Obj} (hgd : o.guard = none) (s x : Operand) (ho : o.op = .call { callee := .builtin .append, args := #[s, x], argTypes := #[32, 32] }) (base n : Nat) (v : Value) (xs : List Value) (p : Pt)
    (hs : a.eval s = v) (hx : a.eval x = .slice (some ⟨W.heap.size + 1, 0, none⟩) 1 1) (hown : W.ownsRow base 74 3 v n xs) (hb : base ≤ W.heap.size) (hn : n ≤ 100)
    (h : ∀ v' w', w'.ownsRow base 74 3 v' (n + 1) (xs ++ [.int .i64 p.s, .int .i64 p.lo, .int .i64 p.hi]) → Below base W w' → wpList Try.prog ops Q rest (a.put o.dst v') w') : wpList Try.prog ops Q (o :: rest) a ((W.alloc A).alloc (.cells #[.int .i64 p.s, .int .i64 p.lo, .int .i64 p.hi] 74 (0, 0))) := by
  have hb2 := below2 W A (.cells #[.int .i64 p.s, .int .i64 p.lo, .int .i64 p.hi] 74 (0, 0))
  refine wpList_append_pt hgd s x ho base n v xs p (W.heap.size + 1) hs hx (hown.kept (row := none) ⟨rfl, rfl, rfl, hb2.size, fun k hk _ => hb2.block k hk⟩ (by cases h : v.ownBlock <;> simp)) (Nat.le_trans hb hb2.size) (box2 W A _).2 hn ?_
  intro v' w' h1 h2
  exact h v' w' h1 ((hb2.mono hb).trans h2)

set_option maxRecDepth 100000 in
set_option maxHeartbeats 1000000 in
theorem Curve_any (b off cap : Nat) (ps : List Pt) (w : World) (hn : ps.length ≤ 20) (h0 : 0 < ps.length) (hp : PtsIn w b off ps) :
    Calls Try.prog 18 #[.agg #[.slice (some ⟨b, off, none⟩) ps.length cap]] w fun e w' => ∃ B c, e = .returned (.agg #[.slice (some ⟨B, 0, none⟩) ps.length c]) ∧ PtsIn w' B 0 ps ∧ w.heap.size ≤ B ∧ Below w.heap.size w w' := by
  have hltb := block_lt_of_cell (hp 0 h0).1
  obtain ⟨x0, x1, x2⟩ := box3 w (.cells #[.slice (some ⟨b, off, none⟩) ps.length cap] 24) (.cells #[.slice none 0 0] 34) (.cells #[.slice none 0 0] 34)
  have hB3 := below3 w (.cells #[.slice (some ⟨b, off, none⟩) ps.length cap] 24) (.cells #[.slice none 0 0] 34) (.cells #[.slice none 0 0] 34)
  have X0 := Lib.hid x0
  have X1 := Lib.hid x1
  have X2 := Lib.hid x2
  have HB3 := Lib.hid hB3
  have hs3 : Hid (w.heap.size + 3 ≤ (((w.alloc (.cells #[.slice (some ⟨b, off, none⟩) ps.length cap] 24)).alloc (.cells #[.slice none 0 0] 34)).alloc (.cells #[.slice none 0 0] 34)).heap.size) := Lib.hid (by simp)
  clear x0 x1 x2 hB3
  go_enter Try.func18, Try.ntmps18
  go_wp2
  go_loopw [4] (fun i wr => ∃ (q : Nat) (v : Value), q ≤ ps.length ∧ i = .int .i64 q ∧ Hid (wr.heap[w.heap.size]? = some (.cells #[.slice (some ⟨b, off, none⟩) ps.length cap] 24 (0, 0))) ∧ Hid (wr.heap[w.heap.size + 1]? = some (.cells #[.slice none 0 0] 34 (0, 0))) ∧
      Hid (wr.heap[w.heap.size + 1 + 1]? = some (.cells #[v] 34 (0, 0))) ∧ Hid (wr.ownsRow (w.heap.size + 3) 74 3 v q (flatT (ps.take q))) ∧ Hid (Below w.heap.size w wr) ∧ w.heap.size + 3 ≤ wr.heap.size) (fun i _ => ps.length - (intOf i).toNat)
  case atStart => exact ⟨0, .slice none 0 0, Nat.zero_le _, rfl, X0, X1, X2, Lib.hid (World.ownsRow_nil _ _ _ _), HB3, hs3.out⟩
  case round =>
    obtain ⟨q, v, hq, rfl, hx0, hx1, hx2, hown, hb, hsz⟩ := hrel
    have c0 := cell_of_row wr w.heap.size 0 _ _ _ hx0.out
    have c2 := cell_of_row wr (w.heap.size + 1 + 1) 0 _ _ _ hx2.out
    have f2 := frozen_of_row wr (w.heap.size + 1 + 1) 0 _ _ hx2.out
    simp at c0 c2
    have l0 := lt_of_block hx0.out
    have l2 := lt_of_block hx2.out
    by_cases hlt : q < ps.length
    · have p1 := (hb.out.cell (p := ⟨b, off + q * 3, none⟩) hltb).trans (hp q hlt).1
      have p2 := (hb.out.cell (p := ⟨b, off + q * 3 + 1, none⟩) hltb).trans (hp q hlt).2.1
      have p3 := (hb.out.cell (p := ⟨b, off + q * 3 + 2, none⟩) hltb).trans (hp q hlt).2.2
      have hqn : (q : Int) < ps.length := by omega
      have hw9 : IntKind.i64.wrap ((q : Int) + 1) = (q : Int) + 1 := IntWalk.i64_in _ (by omega)
      have HFL := Lib.hid (flatT_take ps q hlt)
      generalize hP : pt ps q = P at *
      have HP := Lib.hid hP
      clear hP
      go_wp2_with (first
        | (refine wpList_append_pt2 rfl (.tmp 19) (.tmp 30) rfl (w.heap.size + 3) q v (flatT (ps.take q)) P rfl rfl (by exact hown.out) hsz (by omega) ?_
           intro v' w5 h1 h2
           obtain ⟨g', cp', rfl⟩ : ∃ g' c', v' = .slice (some ⟨g', 0, none⟩) (q + 1) c' := by
             rcases h1.2 with ⟨_, h⟩ | ⟨g', c', _, h, _⟩
             · omega
             · exact ⟨g', c', h⟩
           have y0 := (h2.block w.heap.size (by omega)).trans hx0.out
           have y1 := (h2.block (w.heap.size + 1) (by omega)).trans hx1.out
           have y2 := (h2.block (w.heap.size + 1 + 1) (by omega)).trans hx2.out
           have hb5 : Below w.heap.size w w5 := hb.out.trans (h2.mono (by omega))
           have hs5 : w.heap.size + 3 ≤ w5.heap.size := Nat.le_trans hsz h2.size
           clear c0 c2 f2 l0 l2 p1 p2 p3 h2
           have f2 := frozen_of_row w5 (w.heap.size + 1 + 1) 0 _ _ y2
           have c2 := cell_of_row w5 (w.heap.size + 1 + 1) 0 _ _ _ y2
           simp at c2
           have l2 := lt_of_block y2
           have Y0 := Lib.hid y0
           have Y1 := Lib.hid y1
           have Y2 := Lib.hid y2
           have H1 := Lib.hid h1
           have HB5 := Lib.hid hb5
           clear y0 y1 y2 h1 hb5)
        | fail)
      go_roundw
      case rel =>
        refine ⟨q + 1, .slice (some ⟨g', 0, none⟩) (q + 1) cp', by omega, by simp, Lib.hid ?_, Lib.hid ?_, Lib.hid ?_, Lib.hid ?_, Lib.hid ?_, ?_⟩
        · exact (heap_setCell_other w5 ⟨w.heap.size + 1 + 1, 0, none⟩ w.heap.size _ (by show w.heap.size ≠ w.heap.size + 1 + 1; omega)).trans Y0.out
        · exact (heap_setCell_other w5 ⟨w.heap.size + 1 + 1, 0, none⟩ (w.heap.size + 1) _ (by show w.heap.size + 1 ≠ w.heap.size + 1 + 1; omega)).trans Y1.out
        · exact heap_setCell_same w5 (w.heap.size + 1 + 1) 0 _ 34 (.slice (some ⟨g', 0, none⟩) (q + 1) cp') Y2.out
        · rw [HFL.out]
          obtain ⟨o1, o2⟩ := H1.out
          refine ⟨o1, o2.elim .inl fun ⟨g, cp, cur, e1, e2, e3, e4⟩ => .inr ⟨g, cp, cur, e1, e2, ?_, e4⟩⟩
          exact (heap_setCell_other w5 ⟨w.heap.size + 1 + 1, 0, none⟩ g _ (by show g ≠ w.heap.size + 1 + 1; omega)).trans e3
        · exact HB5.out.setCell (p := ⟨w.heap.size + 1 + 1, 0, none⟩) (by show w.heap.size ≤ w.heap.size + 1 + 1; omega) _
        · simpa [World.setCell] using hs5
      case measure => simp [intOf] <;> omega
    · obtain rfl : q = ps.length := by omega
      rw [List.take_length] at hown
      obtain ⟨B, c, rfl, hpp, hBB⟩ := pts_own hown.out h0
      have c1 := cell_of_row wr (w.heap.size + 1) 0 _ _ _ hx1.out
      have f1 := frozen_of_row wr (w.heap.size + 1) 0 _ _ hx1.out
      simp at c1
      have l1 := lt_of_block hx1.out
      have HPP := Lib.hid hpp
      clear hpp
      go_wp2
      have q1 := heap_setCell_same wr (w.heap.size + 1) 0 _ 34 (.slice (some ⟨B, 0, none⟩) ps.length c) hx1.out
      have hb9 := hb.out.setCell (p := ⟨w.heap.size + 1, 0, none⟩) (by show w.heap.size ≤ w.heap.size + 1; omega) (.slice (some ⟨B, 0, none⟩) ps.length c)
      have hp9 : PtsIn (wr.setCell ⟨w.heap.size + 1, 0, none⟩ (.slice (some ⟨B, 0, none⟩) ps.length c)) B 0 ps := fun i hi => by
        have hh : (wr.setCell ⟨w.heap.size + 1, 0, none⟩ (.slice (some ⟨B, 0, none⟩) ps.length c)).heap[B]? = wr.heap[B]? := heap_setCell_other wr ⟨w.heap.size + 1, 0, none⟩ B _ (by show B ≠ w.heap.size + 1; omega)
        exact ⟨(World.cell?_of_block hh).trans (HPP.out i hi).1, (World.cell?_of_block hh).trans (HPP.out i hi).2.1, (World.cell?_of_block hh).trans (HPP.out i hi).2.2⟩
      have c9 := cell_of_row _ (w.heap.size + 1) 0 _ _ _ q1
      simp at c9
      clear c0 c1 c2 f1 f2
      generalize wr.setCell ⟨w.heap.size + 1, 0, none⟩ (.slice (some ⟨B, 0, none⟩) ps.length c) = W9 at *
      exact bodyPost_ret (v := .agg #[.slice (some ⟨B, 0, none⟩) ps.length c]) (by simp [results, Try.results18, go_sem, c9]) rfl ⟨B, c, rfl, hp9, by omega, hb9⟩
end Go.Proofs.Ytfjlnejeffkdoaa
