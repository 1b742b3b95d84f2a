/- The truths that are raised: an iterator, its contract. -/
import Derived.Test.YtfjlnejeffkdoaaP
namespace Go.Proofs.Ytfjlnejeffkdoaa
open Go.RowKit Go.Shelf
attribute [local irreducible] arrV
attribute [local go_sem] Oper.semAt_some

theorem wpListIn_store_row {F : Fence} {n' : Nat} {P : Program} {ops : Array Oper} {rest : List Oper} {o : Oper} {a : Act} {Q : Exit → Act → World → Prop} {w : World} (hgd : o.guard = none) (ty : TypeId) (x y : Operand) (ho : o.op = .store ty x y)
    (b off : Nat) (cells : Array Value) (hx : a.eval x = .pointer (some ⟨b, off, none⟩)) (hy : a.eval y = .agg cells) (ht : w.there b off cells.size) (hi : (P.info? ty).map (·.size) = some cells.size) (h1 : cells.all (·.oneCell') = true)
    (h : wpListIn F n' P ops Q rest (a.put o.dst undef) (w.setCells b off cells.toList)) : wpListIn F n' P ops Q (o :: rest) a w := by
  refine wpListIn_plain hgd fun K hK => ?_
  have hr := exec_store_row (P := P) ty x y ho b off cells hx hy ht hi h1
  unfold Oper.wpIn
  refine ⟨by simp [Oper.about, ho], ?_⟩
  rw [Oper.semAt_plain F _ _ (by rw [ho]; intro c hc'; cases hc'), hr]
  exact hK _ _ h
theorem wpListIn_load_row {F : Fence} {n' : Nat} {P : Program} {ops : Array Oper} {rest : List Oper} {o : Oper} {a : Act} {Q : Exit → Act → World → Prop} {w : World} (hgd : o.guard = none) (ty : TypeId) (x : Operand) (ho : o.op = .load ty x)
    (b off : Nat) (hx : a.eval x = .pointer (some ⟨b, off, none⟩)) (cs : List Value) (d : TypeDesc) (hc : w.rangeAt b off cs) (hu : P.underlying ty = some d) (hd : d.isRow = true) (hi : (P.info? ty).map (·.size) = some cs.length) (A : Array Value) (hA : cs.toArray = A)
    (h : wpListIn F n' P ops Q rest (a.put o.dst (.agg A)) w) : wpListIn F n' P ops Q (o :: rest) a w := by
  refine wpListIn_plain hgd fun K hK => ?_
  have hr := exec_load_row (P := P) ty x ho b off hx cs d hc hu hd hi A hA
  unfold Oper.wpIn
  refine ⟨by simp [Oper.about, ho], ?_⟩
  rw [Oper.semAt_plain F _ _ (by rw [ho]; intro c hc'; cases hc'), hr]
  exact hK _ _ h

theorem wpListIn_store_gen {F : Fence} {n' : Nat} {P : Program} {ops : Array Oper} {rest : List Oper} {o : Oper} {a : Act} {Q : Exit → Act → World → Prop} {w : World} (hgd : o.guard = none) (ty : TypeId) (x y : Operand) (ho : o.op = .store ty x y)
    (b off : Nat) (cells : Array Value) (hx : a.eval x = .pointer (some ⟨b, off, none⟩)) (hy : a.eval y = .agg cells) (ht : w.there b off cells.size) (hi : (P.info? ty).map (·.size) = some cells.size) (h1 : cells.all (·.oneCell') = true)
    (h : ∀ w2, w2 = w.setCells b off cells.toList → wpListIn F n' P ops Q rest (a.put o.dst undef) w2) : wpListIn F n' P ops Q (o :: rest) a w :=
  wpListIn_store_row hgd ty x y ho b off cells hx hy ht hi h1 (h _ rfl)

def raiseT (ps : List Pt) (i : Nat) : List Int := (lowT ps).set i (pt ps i).hi
theorem raiseT_len (ps : List Pt) (i : Nat) : (raiseT ps i).length = 20 := by simp [raiseT, lowT, upT_len]
theorem raiseT_arr (ps : List Pt) (i : Nat) : (arrV (lowT ps)).setIfInBounds i (.int .i64 (pt ps i).hi) = arrV (raiseT ps i) := by
  unfold arrV raiseT
  rw [List.setIfInBounds_toArray, List.map_set]; rfl
def raised (ps : List Pt) (k : Nat) : List (List Int) := lowT ps :: (List.range k).map (raiseT ps)
theorem raised_succ (ps : List Pt) (k : Nat) : raised ps (k + 1) = raised ps k ++ [raiseT ps k] := by simp [raised, List.range_succ]

set_option maxRecDepth 100000 in
set_option maxHeartbeats 2000000 in
theorem raised_seq (Br b off cap : Nat) (ps : List Pt) (r : Rl) (w : World) (hlen : ps.length ≤ 20) (hpos : 0 < ps.length) (hB : Box w Br b off cap ps r) (hlo : IsTr ps (lowT ps)) (hra : ∀ i, i < ps.length → IsTr ps (raiseT ps i)) :
    SeqT Try.prog 91 #[.pointer (some ⟨Br, 0, none⟩)] (fun t : List Int => #[Value.agg (arrV t)]) (IsTr ps) Rfree Never (TCx (fun k => k = Br ∨ k = b)) (fun xs => xs = raised ps ps.length) (fun _ => True) w := by
  intro l T J Jx W hW hTC hJ hJx hY h0
  have hBW : Box W Br b off cap ps r := hB.but (But.of_below (T := fun _ => False) hW) id id
  have hnBr : ¬ T Br := fun h => (hTC Br h).2 (.inl rfl)
  have hnb : ¬ T b := fun h => (hTC b h).2 (.inr rfl)
  refine callsIn_of_wp Try.func91 rfl trivial ?_ rfl
  simp only [Try.ntmps91, List.size_toArray, List.length_cons, List.length_nil, Nat.reduceAdd, Nat.reduceSub, Array.replicate_succ, Array.replicate_zero, List.push_toArray, List.append_toArray, List.nil_append, List.cons_append]
  have c0 := cell_of_row W Br 0 _ _ _ hBW.blk
  have c1 := cell_of_row W Br 1 _ _ _ hBW.blk
  have c2 := cell_of_row W Br 2 _ _ _ hBW.blk
  have c3 := cell_of_row W Br 3 _ _ _ hBW.blk
  simp at c0 c1 c2 c3
  gi_wp2_with fail
  refine ⟨trivial, rfl, ?_⟩
  refine (callsIn_wide.2 (lows_any b off cap ps r.d r.k r.o W hlen hpos hBW.pts)).mono ?_
  rintro e w1 ⟨rfl, hb1⟩
  have hJ1 := hJ _ _ _ h0 (Rfree.of_below hTC (Nat.le_refl _) hb1)
  have hbt1 : But T W w1 := But.of_below hb1
  obtain ⟨fn, tmps, assign, body, hy, hR⟩ := hY [] (lowT ps) w1 hlo hJ1 hbt1
  unfold lowT at hy
  clear c0 c1 c2 c3
  gi_wp2_with fail
  refine ⟨rfl, ?_⟩
  refine hR.mono ?_
  clear hy hR
  rintro e W2 (⟨rfl, hJ2, hbt2⟩ | ⟨rfl, hJx2, hbt2⟩)
  · have hB2 : Box W2 Br b off cap ps r := (hBW.but hbt1 hnBr hnb).but hbt2 hnBr hnb
    have c0 := cell_of_row W2 Br 0 _ _ _ hB2.blk
    simp at c0
    have hbt3 := hbt1.trans hbt2
    clear hb1 hbt1 hbt2 hJ1
    gi_wp2
    clear c0
    gi_loopw [15] (fun i wr => ∃ q : Nat, q ≤ ps.length ∧ i = .int .i64 q ∧ J (raised ps q) wr ∧ But T W wr) (fun i _ => ps.length - (intOf i).toNat)
    case atStart => exact ⟨0, Nat.zero_le _, rfl, hJ2, hbt3⟩
    case round =>
      obtain ⟨q, hq, rfl, hJq, hbq⟩ := hrel
      have hBq : Box wr Br b off cap ps r := hBW.but hbq hnBr hnb
      by_cases hlt : q < ps.length
      · have hpq := hBq.pts q hlt
        have p1 := hpq.1
        have p2 := hpq.2.1
        have p3 := hpq.2.2
        clear hpq
        have d0 := cell_of_row wr Br 0 _ _ _ hBq.blk
        have d1 := cell_of_row wr Br 1 _ _ _ hBq.blk
        have d2 := cell_of_row wr Br 2 _ _ _ hBq.blk
        have d3 := cell_of_row wr Br 3 _ _ _ hBq.blk
        simp at d0 d1 d2 d3
        have hBr : Br < wr.heap.size := lt_of_block hBq.blk
        have hbb : b < wr.heap.size := block_lt_of_cell p1
        have hq20 : (q : Int) < 20 := by omega
        have hqn : (q : Int) < ps.length := by omega
        gi_wp2_with fail
        refine ⟨trivial, rfl, ?_⟩
        have hW9b : Below wr.heap.size wr (wr.alloc (.cells #[.int .i64 (pt ps q).s, .int .i64 (pt ps q).lo, .int .i64 (pt ps q).hi] 74 (0, 0))) := (Below.refl _ wr).alloc (Nat.le_refl _) _
        have hW9n := heap_alloc_new wr (.cells #[.int .i64 (pt ps q).s, .int .i64 (pt ps q).lo, .int .i64 (pt ps q).hi] 74 (0, 0))
        generalize (wr.alloc (.cells #[.int .i64 (pt ps q).s, .int .i64 (pt ps q).lo, .int .i64 (pt ps q).hi] 74 (0, 0))) = w9 at *
        have hsz : wr.heap.size < w9.heap.size := lt_of_block hW9n
        have hB9 : Box w9 Br b off cap ps r := hBq.but (But.of_below (T := fun _ => False) hW9b) id id
        refine (callsIn_wide.2 (lows_any b off cap ps r.d r.k r.o w9 hlen hpos hB9.pts)).mono ?_
        rintro e w1 ⟨rfl, hb1⟩
        clear d0 d1 d2 d3 p1 p2 p3
        have e0 := (hb1.block _ hsz).trans hW9n
        have e2 := cell_of_row w1 wr.heap.size 2 _ _ _ e0
        simp at e2
        have hsz1 : wr.heap.size < w1.heap.size := lt_of_block e0
        have hbt1 : But T wr w1 := (But.of_below hW9b).trans (But.of_below hb1)
        have hba : Below wr.heap.size wr w1 := hW9b.trans (hb1.mono hW9b.size)
        clear hb1
        have hsz0 : (arrV (upT (fun i => (pt ps i).lo) ps.length)).size = 20 := by rw [arrV_size, upT_len]
        have hs97' : Hid ((Try.prog.info? 97).map (·.size) = some (arrV (upT (fun i => (pt ps i).lo) ps.length)).size) := s97.trans (by rw [hsz0])
        have hs97 : Hid ((Try.prog.info? 97).map (·.size) = some ((raiseT ps q).map iV).length) := s97.trans (by rw [List.length_map, raiseT_len])
        have hTh : ∀ A : Array Value, A.size = 20 → Hid ((w1.alloc (.cells A 97 (0, 0))).there w1.heap.size 0 (arrV (upT (fun i => (pt ps i).lo) ps.length)).size) := fun A hA => there_block (heap_alloc_new w1 _) (by rw [hsz0, hA]; exact Nat.le_refl _)
        have hSW : ∀ A : Array Value, A.size = 20 → Hid (((w1.alloc (.cells A 97 (0, 0))).setCells w1.heap.size 0 (arrV (upT (fun i => (pt ps i).lo) ps.length)).toList).heap[w1.heap.size]? = some (.cells (arrV (lowT ps)) 97 (0, 0))) := fun A hA => set_whole w1.heap.size 97 _ A _ (by rw [hsz0, hA]) (heap_alloc_new w1 _)
        have hSB : ∀ A : Array Value, Hid (Below wr.heap.size wr ((w1.alloc (.cells A 97 (0, 0))).setCells w1.heap.size 0 (arrV (upT (fun i => (pt ps i).lo) ps.length)).toList)) := fun A => below_cells (Nat.le_of_lt hsz1) _ 0 _ (hba.alloc (Nat.le_of_lt hsz1) _)
        have hSE : ∀ A : Array Value, Hid (((w1.alloc (.cells A 97 (0, 0))).setCells w1.heap.size 0 (arrV (upT (fun i => (pt ps i).lo) ps.length)).toList).cell? ⟨wr.heap.size, 2, none⟩ = some (.int .i64 (pt ps q).hi)) := fun A => by
          have hbx : Below w1.heap.size w1 ((w1.alloc (.cells A 97 (0, 0))).setCells w1.heap.size 0 (arrV (upT (fun i => (pt ps i).lo) ps.length)).toList) := below_cells (Nat.le_refl _) _ 0 _ ((Below.refl _ w1).alloc (Nat.le_refl _) _)
          exact (hbx.cell (p := ⟨wr.heap.size, 2, none⟩) hsz1).trans e2
        gi_wp2_with (first
          | (refine wpListIn_store_gen rfl 97 (.tmp 5) (.tmp 21) rfl w1.heap.size 0 (arrV (upT (fun i => (pt ps i).lo) ps.length)) rfl rfl (by exact (hTh _ rfl).out) (by exact hs97'.out) (arrV_one _) ?_
             intro w2 hw2
             have hE : w2.cell? ⟨wr.heap.size, 2, none⟩ = some (.int .i64 (pt ps q).hi) := by rw [hw2]; exact (hSE _).out
             have hSb : w2.heap[w1.heap.size]? = some (.cells (arrV (lowT ps)) 97 (0, 0)) := by rw [hw2]; exact (hSW _ rfl).out
             have hBb : Below wr.heap.size wr w2 := by rw [hw2]; exact (hSB _).out
             clear hw2
             have hc3 := (cell_of_row w2 w1.heap.size q _ _ _ hSb).trans (arrV_get _ q (by unfold lowT; rw [upT_len]; omega))
             have hf3 := frozen_of_row w2 w1.heap.size q _ _ hSb
             have hl3 := lt_of_block hSb
             have h3s := heap_setCell_same w2 w1.heap.size q _ 97 (.int .i64 (pt ps q).hi) hSb
             rw [raiseT_arr] at h3s
             have h3 := Lib.hid h3s
             clear h3s
             have hb3 : Below wr.heap.size wr (w2.setCell ⟨w1.heap.size, q, none⟩ (.int .i64 (pt ps q).hi)) := hBb.setCell (Nat.le_of_lt hsz1) _
             have hJ3 := hJ _ _ _ hJq (Rfree.of_below hTC hbq.size hb3)
             have hbt3 : But T W _ := hbq.trans (But.of_below hb3)
             obtain ⟨fn', tmps', assign', body', hy, hR⟩ := hY (raised ps q) (raiseT ps q) _ (hra q hlt) hJ3 hbt3
             have hRH := Lib.hid hR
             have hJ3H := Lib.hid hJ3
             have hBH := Lib.hid (And.intro hb3 hbt3)
             have hSbH := Lib.hid hSb
             clear hR hJ3 hb3 hbt3 hBb hSb)
          | (refine wpListIn_load_row rfl 97 (.tmp 5) rfl w1.heap.size 0 rfl ((raiseT ps q).map iV) (.array 20 3) (by exact range_block (t := 97) (by rw [arr_list']; exact h3.out)) u97 rfl (by exact hs97.out) (arrV (raiseT ps q)) (arr_list' _) ?_)
          | fail)
        refine ⟨rfl, ?_⟩
        refine hRH.out.mono ?_
        clear hRH hy h3 hSbH hE hc3 hf3 hJ3H e0 e2
        rintro e W4 (⟨rfl, hJ4, hbt4⟩ | ⟨rfl, hJx4, hbt4⟩)
        · gi_wp2
          go_roundw
          case rel =>
            refine ⟨q + 1, by omega, by simp, ?_, hBH.out.2.trans hbt4⟩
            rw [raised_succ]; exact hJ4
          case measure => simp [intOf]; omega
        · gi_wp2
          refine bodyPost_ret (results_none rfl _ _ _) rfl ?_
          exact ⟨⟨_, rfl⟩, hBH.out.2.trans hbt4, .inr ⟨_, trivial, hJx4⟩⟩
      · obtain rfl : q = ps.length := by omega
        gi_wp2
        go_end0
        exact ⟨⟨_, rfl⟩, hbq, .inl ⟨_, rfl, hJq⟩⟩
  · gi_wp2
    refine bodyPost_ret (results_none rfl _ _ _) rfl ?_
    exact ⟨⟨_, rfl⟩, hbt1.trans hbt2, .inr ⟨_, trivial, hJx2⟩⟩
end Go.Proofs.Ytfjlnejeffkdoaa
