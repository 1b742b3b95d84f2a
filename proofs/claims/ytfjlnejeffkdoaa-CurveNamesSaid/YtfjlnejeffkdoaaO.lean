/- The least and the greatest loads: contracts. -/
import Derived.Test.YtfjlnejeffkdoaaL
namespace Go.Proofs.Ytfjlnejeffkdoaa
open Go.RowKit
attribute [local irreducible] arrV

/-- The first k loads, by f; 0 behind them. -/
def upT (f : Nat → Int) (k : Nat) : List Int := (List.range 20).map fun i => if i < k then f i else 0
theorem upT_len (f : Nat → Int) (k : Nat) : (upT f k).length = 20 := by simp [upT]
theorem upT_ld (f : Nat → Int) (k i : Nat) (h : i < 20) : ld (upT f k) i = if i < k then f i else 0 := by simp [upT, ld, h]
theorem upT_zero (f : Nat → Int) : arrV (upT f 0) = #[.int .i64 0, .int .i64 0, .int .i64 0, .int .i64 0, .int .i64 0, .int .i64 0, .int .i64 0, .int .i64 0, .int .i64 0, .int .i64 0, .int .i64 0, .int .i64 0, .int .i64 0, .int .i64 0, .int .i64 0, .int .i64 0, .int .i64 0, .int .i64 0, .int .i64 0, .int .i64 0] := by
  simp [upT, arrV, iV, List.range_succ]
theorem upT_set (f : Nat → Int) (k : Nat) (h : k < 20) : (arrV (upT f k)).setIfInBounds k (.int .i64 (f k)) = arrV (upT f (k + 1)) := by
  apply Array.ext_getElem?
  intro i
  rw [Array.getElem?_setIfInBounds]
  by_cases hi : i < 20
  · have e1 := arrV_get (upT f k) i (by rw [upT_len]; exact hi)
    have e2 := arrV_get (upT f (k + 1)) i (by rw [upT_len]; exact hi)
    rw [upT_ld f k i hi] at e1
    rw [upT_ld f (k + 1) i hi] at e2
    rw [e2]
    by_cases hk : k = i
    · subst hk
      simp [arrV_size, upT_len, h]
    · rw [if_neg hk, e1]
      by_cases hlt : i < k
      · simp [hlt, show i < k + 1 by omega]
      · simp [hlt, show ¬ i < k + 1 by omega]
  · have n1 : (arrV (upT f k))[i]? = none := Array.getElem?_eq_none (by rw [arrV_size, upT_len]; omega)
    have n2 : (arrV (upT f (k + 1)))[i]? = none := Array.getElem?_eq_none (by rw [arrV_size, upT_len]; omega)
    rw [n1, n2]
    have hne : k ≠ i := by omega
    simp [hne]
theorem arrV_one (t : List Int) : (arrV t).all (·.oneCell') = true := by
  unfold arrV
  exact all_oneCell_toArray fun v hv => by
    simp only [List.mem_map] at hv
    obtain ⟨a, _, rfl⟩ := hv
    rfl
theorem arr_list (t : List Int) : (arrV t).toList = t.map iV := by simp [arrV]
theorem arr_list' (t : List Int) : (t.map iV).toArray = arrV t := by simp [arrV]

theorem set_list (b : Nat) (t : TypeId) : ∀ (vs pre mid post : List Value) (w : World), mid.length = vs.length → w.heap[b]? = some (.cells (pre ++ mid ++ post).toArray t (0, 0)) →
    (w.setCells b pre.length vs).heap[b]? = some (.cells (pre ++ vs ++ post).toArray t (0, 0))
  | [], pre, mid, post, w, hm, h => by
    obtain rfl : mid = [] := List.eq_nil_of_length_eq_zero hm
    simpa [World.setCells] using h
  | v :: r, pre, [], post, w, hm, h => by simp at hm
  | v :: r, pre, m :: ms, post, w, hm, h => by
    have h1 := heap_setCell_same w b pre.length _ t v h
    have e : (pre ++ m :: ms ++ post).toArray.setIfInBounds pre.length v = ((pre ++ [v]) ++ ms ++ post).toArray := by
      simp
    rw [e] at h1
    have := set_list b t r (pre ++ [v]) ms post (w.setCell ⟨b, pre.length, none⟩ v) (by simpa using hm) h1
    simpa [World.setCells] using this
theorem set_whole (b : Nat) (t : TypeId) (w : World) (cur vs : Array Value) (hm : cur.size = vs.size) (h : w.heap[b]? = some (.cells cur t (0, 0))) :
    (w.setCells b 0 vs.toList).heap[b]? = some (.cells vs t (0, 0)) := by
  have := set_list b t vs.toList [] cur.toList [] w (by simpa using hm) (by simpa using h)
  simpa using this
theorem there_block {w : World} {b n : Nat} {cs : Array Value} {t : TypeId} (h : w.heap[b]? = some (.cells cs t (0, 0))) (hn : n ≤ cs.size) : w.there b 0 n := fun j hj => by
  rw [Nat.zero_add]
  exact ⟨by rw [cell_of_row w b j _ _ _ h]; simp; omega, frozen_of_row w b j _ _ h⟩

set_option maxRecDepth 100000 in
set_option maxHeartbeats 1000000 in
theorem lows_any (b off cap : Nat) (ps : List Pt) (d k o : Int) (w : World) (hlen : ps.length ≤ 20) (hpos : 0 < ps.length) (hp : PtsIn w b off ps) :
    Calls Try.prog 92 #[.agg #[.slice (some ⟨b, off, none⟩) ps.length cap, .int .i64 d, .int .i64 k, .int .i64 o]] w fun e w' => e = .returned (.agg (arrV (upT (fun i => (pt ps i).lo) ps.length))) ∧ Below w.heap.size w w' := by
  have hltb : b < w.heap.size := block_lt_of_cell (hp 0 hpos).1
  have HP := Lib.hid hp
  clear hp
  have hz := upT_zero (fun i => (pt ps i).lo)
  have HZ := Lib.hid hz
  clear hz
  go_enter Try.func92, Try.ntmps92
  go_wp2
  rw [← HZ.out]
  have hW0 : ∀ A B C : Obj, ((((w.alloc A).alloc B).alloc C).heap[w.heap.size + 1]? = some B) ∧ ((((w.alloc A).alloc B).alloc C).heap[w.heap.size + 1 + 1]? = some C) := fun A B C => by
    have h1 := heap_alloc_new (w.alloc A) B
    have h2 := heap_alloc_new ((w.alloc A).alloc B) C
    simp only [World.size_alloc] at h1 h2
    exact ⟨by rw [heap_alloc_low _ _ _ (by simp)]; exact h1, h2⟩
  have hbW := fun A B C : Obj => (((Below.refl _ w).alloc (Nat.le_refl _) A).alloc (by simp) B).alloc (by simp; omega) C
  have HW0 := Lib.hid hW0
  have HBW := Lib.hid hbW
  clear hW0 hbW
  go_loopw [10] (fun i wr => ∃ q : Nat, q ≤ ps.length ∧ i = .int .i64 q ∧ Hid (wr.heap[w.heap.size + 1 + 1]? = some (.cells (arrV (upT (fun i => (pt ps i).lo) q)) 97 (0, 0))) ∧ Hid (wr.heap[w.heap.size + 1]? = some (.cells (arrV (upT (fun i => (pt ps i).lo) 0)) 97 (0, 0))) ∧ Below w.heap.size w wr) (fun i _ => ps.length - (intOf i).toNat)
  case atStart => exact ⟨0, Nat.zero_le _, rfl, Lib.hid (HW0.out _ _ _).2, Lib.hid (HW0.out _ _ _).1, HBW.out _ _ _⟩
  case round =>
    obtain ⟨q, hq, rfl, h3, h2, hb⟩ := hrel
    by_cases hlt : q < ps.length
    · have hpq := HP.out q hlt
      have p1 := (hb.cell (p := ⟨b, off + q * 3, none⟩) hltb).trans hpq.1
      have p2 := (hb.cell (p := ⟨b, off + q * 3 + 1, none⟩) hltb).trans hpq.2.1
      have p3 := (hb.cell (p := ⟨b, off + q * 3 + 2, none⟩) hltb).trans hpq.2.2
      clear hpq
      have hq20 : (q : Int) < 20 := by omega
      have hqn : (q : Int) < ps.length := by omega
      have hc3 := (cell_of_row wr (w.heap.size + 1 + 1) q _ _ _ h3.out).trans (arrV_get _ q (by rw [upT_len]; omega))
      have hf3 := frozen_of_row wr (w.heap.size + 1 + 1) q _ _ h3.out
      have hl3 := lt_of_block h3.out
      have HS := Lib.hid (upT_set (fun i => (pt ps i).lo) q (by omega))
      generalize hv : (pt ps q).lo = v at *
      have HV := Lib.hid hv
      clear hv
      go_wp2
      go_roundw
      case rel =>
        refine ⟨q + 1, by omega, by simp, ?_, ?_, ?_⟩
        · refine Lib.hid ((Below.heap_alloc _ _ _ (by show _ < (wr.heap.modify _ _).size; rw [Array.size_modify]; exact hl3)).trans ?_)
          have := heap_setCell_same wr (w.heap.size + 1 + 1) q _ 97 (.int .i64 v) h3.out
          have e := HS.out
          rw [e] at this
          exact this
        · refine Lib.hid ((Below.heap_alloc _ _ _ (by show _ < (wr.heap.modify _ _).size; rw [Array.size_modify]; omega)).trans ?_)
          exact (heap_setCell_other wr ⟨w.heap.size + 1 + 1, q, none⟩ (w.heap.size + 1) _ (by show w.heap.size + 1 ≠ w.heap.size + 1 + 1; omega)).trans h2.out
        · have hbs := hb.setCell (p := ⟨w.heap.size + 1 + 1, q, none⟩) (by show w.heap.size ≤ w.heap.size + 1 + 1; omega) (.int .i64 v)
          exact hbs.alloc hbs.size _
      case measure => simp [intOf]; omega
    · obtain rfl : q = ps.length := by omega
      have HRg := Lib.hid (range_block (l := (upT (fun i => (pt ps i).lo) ps.length).map iV) (by rw [arr_list']; exact h3.out))
      have HTh := Lib.hid (there_block (n := 20) h2.out (by rw [arrV_size, upT_len]; exact Nat.le_refl _))
      have hs97 : Hid ((Try.prog.info? 97).map (·.size) = some ((upT (fun i => (pt ps i).lo) ps.length).map iV).length) := s97.trans (by rw [List.length_map, upT_len])
      have hs97' : Hid ((Try.prog.info? 97).map (·.size) = some (arrV (upT (fun i => (pt ps i).lo) ps.length)).size) := s97.trans (by rw [arrV_size, upT_len])
      have hth : Hid (wr.there (w.heap.size + 1) 0 (arrV (upT (fun i => (pt ps i).lo) ps.length)).size) := by rw [arrV_size, upT_len]; exact HTh.out
      have HW9 := Lib.hid (set_whole (w.heap.size + 1) 97 wr (arrV (upT (fun i => (pt ps i).lo) 0)) (arrV (upT (fun i => (pt ps i).lo) ps.length)) (by rw [arrV_size, arrV_size, upT_len, upT_len]) h2.out)
      have HB9 := Lib.hid (below_cells (b := w.heap.size + 1) (by omega) (arrV (upT (fun i => (pt ps i).lo) ps.length)).toList 0 wr hb)
      go_wp2_with (first
        | (refine wpList_load_mid rfl 97 (.tmp 3) rfl _ _ rfl ((upT (fun i => (pt ps i).lo) ps.length).map iV) (.array 20 3) (by exact HRg.out) u97 rfl (by exact hs97.out) ?_; rw [arr_list'])
        | (refine wpList_store_mid rfl 97 (.tmp 2) (.tmp 21) rfl (w.heap.size + 1) 0 (arrV (upT (fun i => (pt ps i).lo) ps.length)) rfl rfl (by exact hth.out) (by exact hs97'.out) (arrV_one _) ?_)
        | fail)
      refine bodyPost_ret (v := .agg (arrV (upT (fun i => (pt ps i).lo) ps.length))) (results_cell_row rfl _ _ (w.heap.size + 1) 97 _ _ (.array 20 3) rfl HW9.out u97 rfl hs97'.out) rfl ⟨rfl, HB9.out⟩

set_option maxRecDepth 100000 in
set_option maxHeartbeats 1000000 in
theorem highs_any (b off cap : Nat) (ps : List Pt) (d k o : Int) (w : World) (hlen : ps.length ≤ 20) (hpos : 0 < ps.length) (hp : PtsIn w b off ps) :
    Calls Try.prog 99 #[.agg #[.slice (some ⟨b, off, none⟩) ps.length cap, .int .i64 d, .int .i64 k, .int .i64 o]] w fun e w' => e = .returned (.agg (arrV (upT (fun i => (pt ps i).hi) ps.length))) ∧ Below w.heap.size w w' := by
  have hltb : b < w.heap.size := block_lt_of_cell (hp 0 hpos).1
  have HP := Lib.hid hp
  clear hp
  have hz := upT_zero (fun i => (pt ps i).hi)
  have HZ := Lib.hid hz
  clear hz
  go_enter Try.func99, Try.ntmps99
  go_wp2
  rw [← HZ.out]
  have hW0 : ∀ A B C : Obj, ((((w.alloc A).alloc B).alloc C).heap[w.heap.size + 1]? = some B) ∧ ((((w.alloc A).alloc B).alloc C).heap[w.heap.size + 1 + 1]? = some C) := fun A B C => by
    have h1 := heap_alloc_new (w.alloc A) B
    have h2 := heap_alloc_new ((w.alloc A).alloc B) C
    simp only [World.size_alloc] at h1 h2
    exact ⟨by rw [heap_alloc_low _ _ _ (by simp)]; exact h1, h2⟩
  have hbW := fun A B C : Obj => (((Below.refl _ w).alloc (Nat.le_refl _) A).alloc (by simp) B).alloc (by simp; omega) C
  have HW0 := Lib.hid hW0
  have HBW := Lib.hid hbW
  clear hW0 hbW
  go_loopw [10] (fun i wr => ∃ q : Nat, q ≤ ps.length ∧ i = .int .i64 q ∧ Hid (wr.heap[w.heap.size + 1 + 1]? = some (.cells (arrV (upT (fun i => (pt ps i).hi) q)) 97 (0, 0))) ∧ Hid (wr.heap[w.heap.size + 1]? = some (.cells (arrV (upT (fun i => (pt ps i).hi) 0)) 97 (0, 0))) ∧ Below w.heap.size w wr) (fun i _ => ps.length - (intOf i).toNat)
  case atStart => exact ⟨0, Nat.zero_le _, rfl, Lib.hid (HW0.out _ _ _).2, Lib.hid (HW0.out _ _ _).1, HBW.out _ _ _⟩
  case round =>
    obtain ⟨q, hq, rfl, h3, h2, hb⟩ := hrel
    by_cases hlt : q < ps.length
    · have hpq := HP.out q hlt
      have p1 := (hb.cell (p := ⟨b, off + q * 3, none⟩) hltb).trans hpq.1
      have p2 := (hb.cell (p := ⟨b, off + q * 3 + 1, none⟩) hltb).trans hpq.2.1
      have p3 := (hb.cell (p := ⟨b, off + q * 3 + 2, none⟩) hltb).trans hpq.2.2
      clear hpq
      have hq20 : (q : Int) < 20 := by omega
      have hqn : (q : Int) < ps.length := by omega
      have hc3 := (cell_of_row wr (w.heap.size + 1 + 1) q _ _ _ h3.out).trans (arrV_get _ q (by rw [upT_len]; omega))
      have hf3 := frozen_of_row wr (w.heap.size + 1 + 1) q _ _ h3.out
      have hl3 := lt_of_block h3.out
      have HS := Lib.hid (upT_set (fun i => (pt ps i).hi) q (by omega))
      generalize hv : (pt ps q).hi = v at *
      have HV := Lib.hid hv
      clear hv
      go_wp2
      go_roundw
      case rel =>
        refine ⟨q + 1, by omega, by simp, ?_, ?_, ?_⟩
        · refine Lib.hid ((Below.heap_alloc _ _ _ (by show _ < (wr.heap.modify _ _).size; rw [Array.size_modify]; exact hl3)).trans ?_)
          have := heap_setCell_same wr (w.heap.size + 1 + 1) q _ 97 (.int .i64 v) h3.out
          have e := HS.out
          rw [e] at this
          exact this
        · refine Lib.hid ((Below.heap_alloc _ _ _ (by show _ < (wr.heap.modify _ _).size; rw [Array.size_modify]; omega)).trans ?_)
          exact (heap_setCell_other wr ⟨w.heap.size + 1 + 1, q, none⟩ (w.heap.size + 1) _ (by show w.heap.size + 1 ≠ w.heap.size + 1 + 1; omega)).trans h2.out
        · have hbs := hb.setCell (p := ⟨w.heap.size + 1 + 1, q, none⟩) (by show w.heap.size ≤ w.heap.size + 1 + 1; omega) (.int .i64 v)
          exact hbs.alloc hbs.size _
      case measure => simp [intOf]; omega
    · obtain rfl : q = ps.length := by omega
      have HRg := Lib.hid (range_block (l := (upT (fun i => (pt ps i).hi) ps.length).map iV) (by rw [arr_list']; exact h3.out))
      have HTh := Lib.hid (there_block (n := 20) h2.out (by rw [arrV_size, upT_len]; exact Nat.le_refl _))
      have hs97 : Hid ((Try.prog.info? 97).map (·.size) = some ((upT (fun i => (pt ps i).hi) ps.length).map iV).length) := s97.trans (by rw [List.length_map, upT_len])
      have hs97' : Hid ((Try.prog.info? 97).map (·.size) = some (arrV (upT (fun i => (pt ps i).hi) ps.length)).size) := s97.trans (by rw [arrV_size, upT_len])
      have hth : Hid (wr.there (w.heap.size + 1) 0 (arrV (upT (fun i => (pt ps i).hi) ps.length)).size) := by rw [arrV_size, upT_len]; exact HTh.out
      have HW9 := Lib.hid (set_whole (w.heap.size + 1) 97 wr (arrV (upT (fun i => (pt ps i).hi) 0)) (arrV (upT (fun i => (pt ps i).hi) ps.length)) (by rw [arrV_size, arrV_size, upT_len, upT_len]) h2.out)
      have HB9 := Lib.hid (below_cells (b := w.heap.size + 1) (by omega) (arrV (upT (fun i => (pt ps i).hi) ps.length)).toList 0 wr hb)
      go_wp2_with (first
        | (refine wpList_load_mid rfl 97 (.tmp 3) rfl _ _ rfl ((upT (fun i => (pt ps i).hi) ps.length).map iV) (.array 20 3) (by exact HRg.out) u97 rfl (by exact hs97.out) ?_; rw [arr_list'])
        | (refine wpList_store_mid rfl 97 (.tmp 2) (.tmp 21) rfl (w.heap.size + 1) 0 (arrV (upT (fun i => (pt ps i).hi) ps.length)) rfl rfl (by exact hth.out) (by exact hs97'.out) (arrV_one _) ?_)
        | fail)
      refine bodyPost_ret (v := .agg (arrV (upT (fun i => (pt ps i).hi) ps.length))) (results_cell_row rfl _ _ (w.heap.size + 1) 97 _ _ (.array 20 3) rfl HW9.out u97 rfl hs97'.out) rfl ⟨rfl, HB9.out⟩

end Go.Proofs.Ytfjlnejeffkdoaa
