/- The trace: its contract. -/
import Derived.Test.YtfjlnejeffkdoaaT
import Derived.Test.YtfjlnejeffkdoaaW
namespace Go.Proofs.Ytfjlnejeffkdoaa
open Go.RowKit Go.Shelf

/-- The truth that leads to a place. -/
def trB (E : List (Plc × Plc)) : Nat → Plc → List Int → List Int
  | 0, _, t => t
  | k + 1, f, t => trB E k ((findP E f).getD (0, 0)) (t.set k f.2)
theorem trB_len (E : List (Plc × Plc)) : ∀ (k : Nat) (f : Plc) (t : List Int), (trB E k f t).length = t.length
  | 0, _, _ => rfl
  | k + 1, f, t => by simp [trB, trB_len E k]
/-- Each known place was come to from a place of the point before it, which is known too, or is nowhere. -/
def Tree (n : Nat) (E : List (Plc × Plc)) : Prop := ∀ p q, findP E p = some q → q.1 = p.1 - 1 ∧ 0 ≤ p.1 ∧ p.1 < n ∧ (0 ≤ q.1 → (findP E q).isSome)

theorem wpList_look_pl {w : World} {ops : Array Oper} {rest : List Oper} {o : Oper} {a : Act} {Q : Exit → Act → World → Prop} (hg : o.guard = none) (m x : Operand) (hop : o.op = Op.lookup 153 m x false)
    (cm : Nat) (E : List (Plc × Plc)) (hm : a.eval m = .map (some cm)) (hM : MapIs w cm E) (p : Plc) (hx : a.eval x = .agg #[.int .i64 p.1, .int .i64 p.2])
    (q : Plc) (hq : (findP E p).getD (0, 0) = q) (hK : wpList Try.prog ops Q rest (a.put o.dst (.agg #[.int .i64 q.1, .int .i64 q.2])) w) : wpList Try.prog ops Q (o :: rest) a w := by
  refine wpList_plain hg fun K' hK' => ?_
  have hrun := (look_pl hM p).2
  have hx' : a.eval x = plV p := hx
  unfold Oper.wp
  simp [execOp, hop, hm, hx', hrun, Result.andThen, hq]
  exact hK' _ _ hK

theorem wpList_store_gen {P : Program} {ops : Array Oper} {rest : List Oper} {o : Oper} {a : Act} {Q : Exit → Act → World → Prop} {w : World} (hgd : o.guard = none) (ty : TypeId) (x y : Operand) (ho : o.op = .store ty x y)
    (b off : Nat) (cells : Array Value) (hx : a.eval x = .pointer (some ⟨b, off, none⟩)) (hy : a.eval y = .agg cells) (ht : w.there b off cells.size) (hi : (P.info? ty).map (·.size) = some cells.size) (h1 : cells.all (·.oneCell') = true)
    (h : ∀ w2, w2 = w.setCells b off cells.toList → wpList P ops Q rest (a.put o.dst undef) w2) : wpList P ops Q (o :: rest) a w := by
  refine wpList_plain hgd fun K hK => ?_
  have hr := exec_store_row (P := P) ty x y ho b off cells hx hy ht hi h1
  unfold Oper.wp
  rw [hr]
  exact hK _ _ (h _ rfl)

theorem box4' (w : World) (A B C D : Obj) : ((((w.alloc A).alloc B).alloc C).alloc D).heap[w.heap.size + 1]? = some B ∧ ((((w.alloc A).alloc B).alloc C).alloc D).heap[w.heap.size + 1 + 1]? = some C ∧ ((((w.alloc A).alloc B).alloc C).alloc D).heap[w.heap.size + 1 + 1 + 1]? = some D ∧
    Below w.heap.size w ((((w.alloc A).alloc B).alloc C).alloc D) ∧ ((((w.alloc A).alloc B).alloc C).alloc D).heap.size = w.heap.size + 4 := by
  obtain ⟨h0, h1, h2⟩ := box3 w A B C
  have h3 := heap_alloc_new (((w.alloc A).alloc B).alloc C) D
  simp only [World.size_alloc] at h3
  exact ⟨by rw [heap_alloc_low _ _ _ (by simp <;> omega)]; exact h1, by rw [heap_alloc_low _ _ _ (by simp <;> omega)]; exact h2, h3, (below3 w A B C).alloc (by simp; omega) D, by simp⟩

theorem arrV_set (t : List Int) (k : Nat) (v : Int) : (arrV t).setIfInBounds k (.int .i64 v) = arrV (t.set k v) := by
  unfold arrV
  rw [List.setIfInBounds_toArray, List.map_set]; rfl

theorem MapIs.block {w w' : World} {cm : Nat} {E : List (Plc × Plc)} (h : MapIs w cm E) (hb : w'.heap[cm]? = w.heap[cm]?) : MapIs w' cm E := by
  obtain ⟨es, clock, h1, h2⟩ := h
  exact ⟨es, clock, hb.trans h1, h2⟩
theorem MapIs.lt {w : World} {cm : Nat} {E : List (Plc × Plc)} (h : MapIs w cm E) : cm < w.heap.size := by
  obtain ⟨es, clock, h1, h2⟩ := h
  exact (Array.getElem?_eq_some_iff.1 h1).1

set_option maxRecDepth 100000 in
set_option maxHeartbeats 1000000 in
theorem trace_any (b off cap cm : Nat) (ps : List Pt) (d k o : Int) (E : List (Plc × Plc)) (i : Nat) (fl tl : Int) (w : World) (hlen : ps.length ≤ 20) (hi : i < ps.length) (hp : PtsIn w b off ps) (hM : MapIs w cm E) (hT : Tree ps.length E)
    (hf : i = 0 ∨ (findP E ((i : Int) - 1, fl)).isSome) :
    Calls Try.prog 101 #[.agg #[.slice (some ⟨b, off, none⟩) ps.length cap, .int .i64 d, .int .i64 k, .int .i64 o], .map (some cm), .agg #[.int .i64 ((i : Int) - 1), .int .i64 fl], .agg #[.int .i64 i, .int .i64 tl]] w fun e w' =>
      e = .returned (.agg (arrV (trB E i ((i : Int) - 1, fl) ((lowT ps).set i tl)))) ∧ Below w.heap.size w w' := by
  have hltb : b < w.heap.size := block_lt_of_cell (hp 0 (by omega)).1
  have hltc := hM.lt
  have HP := Lib.hid hp
  have HM := Lib.hid hM
  have HL := Lib.hid fun W (hb : Below w.heap.size w W) => lows_any b off cap ps d k o W hlen (by omega) (hp.below hb hltb)
  clear hp hM
  have HB4 := Lib.hid (box4' w)
  have hlz : (arrV (lowT ps)).size = 20 := by rw [arrV_size]; exact upT_len _ _
  have HLZ := Lib.hid hlz
  have hs97 : Hid ((Try.prog.info? 97).map (·.size) = some (arrV (lowT ps)).size) := s97.trans (by rw [hlz])
  clear hlz
  go_enter Try.func101, Try.ntmps101
  go_wp2_with (first
    | (go_at_call 92
       refine (HL.out _ (HB4.out _ _ _ _).2.2.2.1).mono ?_
       rintro e w1 ⟨rfl, hb1⟩
       have q1 := (hb1.block _ (by rw [(HB4.out _ _ _ _).2.2.2.2]; omega)).trans (HB4.out _ _ _ _).1
       have q2 := (hb1.block _ (by rw [(HB4.out _ _ _ _).2.2.2.2]; omega)).trans (HB4.out _ _ _ _).2.1
       have q3 := (hb1.block _ (by rw [(HB4.out _ _ _ _).2.2.2.2]; omega)).trans (HB4.out _ _ _ _).2.2.1
       have hb := (HB4.out _ _ _ _).2.2.2.1.trans (hb1.mono (HB4.out _ _ _ _).2.2.2.1.size)
       have hsz := hb1.size
       rw [(HB4.out _ _ _ _).2.2.2.2] at hsz
       clear hb1)
    | (refine wpList_store_gen rfl 97 (.tmp 9) (.tmp 11) rfl _ 0 (arrV (lowT ps)) rfl rfl (there_block (heap_alloc_new _ _) (by rw [HLZ.out]; exact Nat.le_refl _)) (by exact hs97.out) (arrV_one _) ?_
       intro w2 hw2
       have hbx : Below w1.heap.size w1 w2 := by rw [hw2]; exact below_cells (Nat.le_refl _) _ 0 _ ((Below.refl _ w1).alloc (Nat.le_refl _) _)
       have hSb : w2.heap[w1.heap.size]? = some (.cells (arrV (lowT ps)) 97 (0, 0)) := by rw [hw2]; exact set_whole w1.heap.size 97 _ _ _ (by rw [HLZ.out]; rfl) (heap_alloc_new w1 _)
       clear hw2
       replace q1 := (hbx.block _ (by omega)).trans q1
       replace q2 := (hbx.block _ (by omega)).trans q2
       replace q3 := (hbx.block _ (by omega)).trans q3
       replace hb := below_to hb hbx
       clear hbx
       generalize w1.heap.size = B9 at *
       clear w1
       have c1 := cell_of_row w2 (w.heap.size + 1 + 1) 0 _ _ _ q2
       have c2 := cell_of_row w2 (w.heap.size + 1 + 1) 1 _ _ _ q2
       simp at c1 c2
       have hi20 : (i : Int) < 20 := by omega
       have c3 := (cell_of_row w2 B9 i _ _ _ hSb).trans (arrV_get _ i (by unfold lowT; rw [upT_len]; omega))
       have f3 := frozen_of_row w2 B9 i _ _ hSb
       have l3 := lt_of_block hSb
       have Q1 := Lib.hid q1
       have Q3 := Lib.hid q3
       have HSb := Lib.hid hSb
       have HBB := Lib.hid hb
       have hB9 := Lib.hid hsz
       clear q1 q2 q3 hSb hb)
    | fail)
  clear c1 c2 c3 f3
  have HF := Lib.hid hf
  clear hf
  go_loopw [27] (fun _ wr => ∃ (q : Nat) (l : Int) (t : List Int), q ≤ i ∧ t.length = 20 ∧ Hid (q = 0 ∨ (findP E ((q : Int) - 1, l)).isSome) ∧ Hid (trB E q ((q : Int) - 1, l) t = trB E i ((i : Int) - 1, fl) ((lowT ps).set i tl)) ∧
      Hid (wr.heap[w.heap.size + 1]? = some (.cells #[.int .i64 ((q : Int) - 1), .int .i64 l] 151 (0, 0))) ∧ Hid (wr.heap[B9]? = some (.cells (arrV t) 97 (0, 0))) ∧
      Hid (wr.heap[w.heap.size + 1 + 1 + 1]? = w2.heap[w.heap.size + 1 + 1 + 1]?) ∧ Below w.heap.size w wr) (fun _ wr => match wr.cell? ⟨w.heap.size + 1, 0, none⟩ with | some (.int _ a) => (a + 1).toNat | _ => 0)
  case atStart =>
    refine ⟨i, fl, _, Nat.le_refl _, ?_, HF, Lib.hid rfl, ?_, ?_, ?_, ?_⟩
    · simp [lowT, upT_len]
    · exact Lib.hid ((heap_setCell_other w2 ⟨B9, i, none⟩ (w.heap.size + 1) _ (by show w.heap.size + 1 ≠ B9; omega)).trans Q1.out)
    · have := heap_setCell_same w2 B9 i _ 97 (.int .i64 tl) HSb.out
      rw [arrV_set] at this
      exact Lib.hid this
    · exact Lib.hid (heap_setCell_other w2 ⟨B9, i, none⟩ (w.heap.size + 1 + 1 + 1) _ (by show w.heap.size + 1 + 1 + 1 ≠ B9; omega))
    · exact HBB.out.setCell (p := ⟨B9, i, none⟩) (by show w.heap.size ≤ B9; omega) _
  case round =>
    obtain ⟨q, l, t, hq, ht, hs, hE, h1, h9, h3, hb⟩ := hrel
    have l1 := lt_of_block h1.out
    have l9 := lt_of_block h9.out
    have Ht := Lib.hid ht
    cases q with
    | zero =>
      have c0 := cell_of_row wr (w.heap.size + 1) 0 _ _ _ h1.out
      simp at c0
      have h3' := h3.out.trans Q3.out
      have HE : Hid (arrV t = arrV (trB E i ((i : Int) - 1, fl) ((lowT ps).set i tl))) := Lib.hid (by rw [← hE.out]; rfl)
      have HRg := Lib.hid (range_block (l := t.map iV) (by rw [arr_list']; exact h9.out))
      have HTh := Lib.hid (there_block (n := 20) h3' (Nat.le_refl _))
      have hs97a : Hid ((Try.prog.info? 97).map (·.size) = some (t.map iV).length) := s97.trans (by rw [List.length_map, Ht.out])
      have hs97' : Hid ((Try.prog.info? 97).map (·.size) = some (arrV t).size) := s97.trans (by rw [arrV_size, Ht.out])
      have hth : Hid (wr.there (w.heap.size + 1 + 1 + 1) 0 (arrV t).size) := by rw [arrV_size, Ht.out]; exact HTh.out
      have HW9 := Lib.hid (set_whole (w.heap.size + 1 + 1 + 1) 97 wr _ (arrV t) (by rw [arrV_size, Ht.out]; rfl) h3')
      have HB9' := Lib.hid (below_cells (b := w.heap.size + 1 + 1 + 1) (by omega) (arrV t).toList 0 wr hb)
      clear h3'
      go_wp2_with (first
        | (refine wpList_load_mid rfl 97 (.tmp 9) rfl _ _ rfl (t.map iV) (.array 20 3) (by exact HRg.out) u97 rfl (by exact hs97a.out) ?_; rw [arr_list'])
        | (refine wpList_store_mid rfl 97 (.tmp 8) (.tmp 28) rfl (w.heap.size + 1 + 1 + 1) 0 (arrV t) rfl rfl (by exact hth.out) (by exact hs97'.out) (arrV_one _) ?_)
        | fail)
      refine bodyPost_ret (v := .agg (arrV t)) (results_cell_row rfl _ _ (w.heap.size + 1 + 1 + 1) 97 _ _ (.array 20 3) rfl HW9.out u97 rfl hs97'.out) rfl ⟨by rw [HE.out], HB9'.out⟩
    | succ q =>
      have e1 : ((q + 1 : Nat) : Int) - 1 = (q : Int) := by omega
      rw [e1] at h1 hs hE
      obtain ⟨⟨qa, l2⟩, hfq⟩ : ∃ x, findP E ((q : Int), l) = some x := Option.isSome_iff_exists.1 (hs.out.resolve_left (by omega))
      obtain ⟨hqa, -, -, hnx⟩ := hT _ _ hfq
      simp only at hqa hnx
      subst hqa
      have HFq := Lib.hid hfq
      have HNx := Lib.hid hnx
      clear hfq hnx hs
      have c0 := cell_of_row wr (w.heap.size + 1) 0 _ _ _ h1.out
      have c1 := cell_of_row wr (w.heap.size + 1) 1 _ _ _ h1.out
      simp at c0 c1
      have f0 := frozen_of_row wr (w.heap.size + 1) 0 _ _ h1.out
      have f1 := frozen_of_row wr (w.heap.size + 1) 1 _ _ h1.out
      have g1 : (((q : Int)) == -1) = false := by simp
      have g2 : (((q : Int)) != -1) = true := by simp
      have hq20 : (q : Int) < 20 := by omega
      have c9 := (cell_of_row wr B9 q _ _ _ h9.out).trans (arrV_get _ q (by rw [Ht.out]; omega))
      have f9 := frozen_of_row wr B9 q _ _ h9.out
      have hMM : Hid (MapIs (wr.setCell ⟨B9, q, none⟩ (.int .i64 l)) cm E) := Lib.hid (HM.out.block ((heap_setCell_other wr ⟨B9, q, none⟩ cm _ (by show cm ≠ B9; omega)).trans (hb.block cm hltc)))
      clear ht
      go_wp2_with (first
        | (refine wpList_look_pl rfl (.tmp 25) (.tmp 26) rfl cm E rfl (by exact hMM.out) ((q : Int), l) rfl ((q : Int) - 1, l2) (by rw [HFq.out]; rfl) ?_)
        | fail)
      have hx1 : ∀ x y : Int, Hid ((((wr.setCell ⟨B9, q, none⟩ (.int .i64 l)).setCell ⟨w.heap.size + 1, 0, none⟩ (.int .i64 x)).setCell ⟨w.heap.size + 1, 1, none⟩ (.int .i64 y)).heap[w.heap.size + 1]? = some (.cells #[.int .i64 x, .int .i64 y] 151 (0, 0))) := fun x y => by
        have e0 := (heap_setCell_other wr ⟨B9, q, none⟩ (w.heap.size + 1) (.int .i64 l) (by show w.heap.size + 1 ≠ B9; omega)).trans h1.out
        have e1 := heap_setCell_same _ (w.heap.size + 1) 0 _ 151 (.int .i64 x) e0
        exact Lib.hid (heap_setCell_same _ (w.heap.size + 1) 1 _ 151 (.int .i64 y) e1)
      have hx9 : ∀ x y : Value, Hid ((((wr.setCell ⟨B9, q, none⟩ (.int .i64 l)).setCell ⟨w.heap.size + 1, 0, none⟩ x).setCell ⟨w.heap.size + 1, 1, none⟩ y).heap[B9]? = some (.cells (arrV (t.set q l)) 97 (0, 0))) := fun x y => by
        have e0 := heap_setCell_same wr B9 q _ 97 (.int .i64 l) h9.out
        rw [arrV_set] at e0
        exact Lib.hid ((heap_setCell_other _ ⟨w.heap.size + 1, 1, none⟩ B9 y (by show B9 ≠ w.heap.size + 1; omega)).trans ((heap_setCell_other _ ⟨w.heap.size + 1, 0, none⟩ B9 x (by show B9 ≠ w.heap.size + 1; omega)).trans e0))
      have hx3 : ∀ x y : Value, Hid ((((wr.setCell ⟨B9, q, none⟩ (.int .i64 l)).setCell ⟨w.heap.size + 1, 0, none⟩ x).setCell ⟨w.heap.size + 1, 1, none⟩ y).heap[w.heap.size + 1 + 1 + 1]? = w2.heap[w.heap.size + 1 + 1 + 1]?) := fun x y =>
        Lib.hid ((heap_setCell_other _ ⟨w.heap.size + 1, 1, none⟩ (w.heap.size + 1 + 1 + 1) y (by show w.heap.size + 1 + 1 + 1 ≠ w.heap.size + 1; omega)).trans ((heap_setCell_other _ ⟨w.heap.size + 1, 0, none⟩ (w.heap.size + 1 + 1 + 1) x (by show w.heap.size + 1 + 1 + 1 ≠ w.heap.size + 1; omega)).trans ((heap_setCell_other wr ⟨B9, q, none⟩ (w.heap.size + 1 + 1 + 1) _ (by show w.heap.size + 1 + 1 + 1 ≠ B9; omega)).trans h3.out)))
      have hxb : ∀ x y : Value, Hid (Below w.heap.size w (((wr.setCell ⟨B9, q, none⟩ (.int .i64 l)).setCell ⟨w.heap.size + 1, 0, none⟩ x).setCell ⟨w.heap.size + 1, 1, none⟩ y)) := fun x y =>
        Lib.hid (((hb.setCell (p := ⟨B9, q, none⟩) (by show w.heap.size ≤ B9; omega) _).setCell (p := ⟨w.heap.size + 1, 0, none⟩) (by show w.heap.size ≤ w.heap.size + 1; omega) _).setCell (p := ⟨w.heap.size + 1, 1, none⟩) (by show w.heap.size ≤ w.heap.size + 1; omega) _)
      go_roundw
      case rel =>
        refine ⟨q, l2, t.set q l, by omega, by simp [Ht.out], ?_, ?_, hx1 _ _, hx9 _ _, hx3 _ _, (hxb _ _).out⟩
        · refine Lib.hid ?_
          rcases Nat.eq_zero_or_pos q with h | h
          · exact .inl h
          · exact .inr (HNx.out (by omega))
        · refine Lib.hid ?_
          rw [← hE.out]
          simp [trB, HFq.out]
      case measure =>
        rw [cell_of_row _ (w.heap.size + 1) 0 _ _ _ (hx1 _ _).out, cell_of_row wr (w.heap.size + 1) 0 _ _ _ h1.out]
        simp
end Go.Proofs.Ytfjlnejeffkdoaa
