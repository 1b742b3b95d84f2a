/- The law's copies of plans and runs: contracts. Condition: at most a thousand of each. -/
import Derived.Test.YtfijaafkagcmmaaR3
namespace Go.Proofs.Ytfijaafkagcmmaa
open Go.RowKit Go.Shelf
attribute [local irreducible] arrV wpQuiet

set_option maxHeartbeats 400000 in
theorem to_any (a b : Int) (w : World) :
    Calls Try.prog 35 #[.agg #[.int .i64 a, .int .i64 b]] w fun e w' => e = .returned (.agg #[.int .i64 a, .int .i64 b]) ∧ Below w.heap.size w w' := by
  go_enter Try.func35, Try.ntmps35
  go_wp2
  refine bodyPost_ret (v := .agg #[.int .i64 a, .int .i64 b]) ?_ rfl ⟨rfl, below2 w _ _⟩
  simp [results, Try.results35, go_sem]

def flatS (l : List Sg) : List Value := l.flatMap fun s => [.int .i64 s.b, .int .i64 s.h.lo, .int .i64 s.h.hi]
theorem flatS_get : ∀ (l : List Sg) (i : Nat), i < l.length → (flatS l)[i * 3]? = some (.int .i64 (sg l i).b) ∧ (flatS l)[i * 3 + 1]? = some (.int .i64 (sg l i).h.lo) ∧ (flatS l)[i * 3 + 2]? = some (.int .i64 (sg l i).h.hi)
  | [], i, h => by simp at h
  | a :: l, 0, _ => by simp [flatS, sg]
  | a :: l, i + 1, h => by
    have ih := flatS_get l i (by simpa using h)
    have e1 : (i + 1) * 3 = i * 3 + 3 := by omega
    have e2 : (i + 1) * 3 + 1 = i * 3 + 1 + 3 := by omega
    have e3 : (i + 1) * 3 + 2 = i * 3 + 2 + 3 := by omega
    have hc : flatS (a :: l) = .int .i64 a.b :: .int .i64 a.h.lo :: .int .i64 a.h.hi :: flatS l := rfl
    have hr : sg (a :: l) (i + 1) = sg l i := by simp [sg]
    rw [e3, e2, e1, hc, hr]
    simpa using ih
theorem flatS_take {ss : List Sg} {q : Nat} (h : q < ss.length) : flatS (ss.take (q + 1)) = flatS (ss.take q) ++ [.int .i64 (sg ss q).b, .int .i64 (sg ss q).h.lo, .int .i64 (sg ss q).h.hi] := by
  have e : sg ss q = ss[q] := by simp [sg, h]
  rw [take_snoc h, e]
  simp only [flatS, List.flatMap_append, List.flatMap_cons, List.flatMap_nil, List.append_nil]
/-- What lies in a row of one's own. -/
theorem own_get {w : World} {base e sz n : Nat} {v : Value} {xs : List Value} (h : w.ownsRow base e sz v n xs) (hn : 0 < n) :
    ∃ g cap, v = .slice (some ⟨g, 0, none⟩) n cap ∧ base ≤ g ∧ g < w.heap.size ∧ ∀ j, j < n * sz → w.cell? ⟨g, j, none⟩ = xs[j]? := by
  rcases h.2 with ⟨hv, h0⟩ | ⟨g, cap, cur, hv, hb, hg, hn', _, hs, ht⟩
  · omega
  · refine ⟨g, cap, hv, hb, lt_of_block hg, fun j hj => ?_⟩
    have h1 : (cur.toList.take (n * sz))[j]? = xs[j]? := by rw [ht]
    rw [List.getElem?_take_of_lt hj] at h1
    rw [cell_of_row w g j _ _ _ hg, ← Array.getElem?_toList, h1]
theorem own_nil {w : World} {base e sz : Nat} {v : Value} {xs : List Value} (h : w.ownsRow base e sz v 0 xs) : ∃ a cap, v = .slice a 0 cap := by
  rcases h.2 with ⟨hv, h0⟩ | ⟨g, cap, cur, hv, hb, hg, hn', _, hs, ht⟩
  · exact ⟨_, _, hv⟩
  · exact ⟨_, _, hv⟩
theorem own_segs {w : World} {base : Nat} {v : Value} {l : List Sg} (h : w.ownsRow base 76 3 v l.length (flatS l)) : SegsV w.heap.size w v l := by
  cases Nat.eq_zero_or_pos l.length with
  | inl h0 =>
    rw [h0] at h
    obtain ⟨a, cap, rfl⟩ := own_nil h
    exact ⟨a, cap, by rw [h0], fun hp => by omega⟩
  | inr h0 =>
    obtain ⟨g, cap, rfl, hb, hg, hc⟩ := own_get h h0
    refine ⟨_, cap, rfl, fun _ => ⟨g, 0, rfl, hg, fun i hi => ?_⟩⟩
    obtain ⟨f1, f2, f3⟩ := flatS_get l i hi
    rw [Nat.zero_add]
    exact ⟨(hc _ (by omega)).trans f1, (hc _ (by omega)).trans f2, (hc _ (by omega)).trans f3⟩

set_option maxRecDepth 100000 in
set_option maxHeartbeats 2000000 in
theorem Plan_any (n : Nat) (v : Value) (ss : List Sg) (w : World) (hl : ss.length ≤ 1000) (hV : SegsV n w v ss) (hn : n ≤ w.heap.size) :
    Calls Try.prog 31 #[v] w fun e w' => (∃ v', e = .returned v' ∧ w'.ownsRow w.heap.size 76 3 v' ss.length (flatS ss)) ∧ Below w.heap.size w w' := by
  obtain ⟨a, cap, rfl, hp⟩ := hV
  have HP := Lib.hid hp
  clear hp
  go_enter Try.func31, Try.ntmps31
  go_wp2
  go_loopw [3, 4] (fun s i wr => ∃ q : Nat, q ≤ ss.length ∧ i = .int .i64 q ∧ Hid (Below w.heap.size w wr) ∧ Hid (wr.ownsRow w.heap.size 76 3 s q (flatS (ss.take q)))) (fun _ i _ => ss.length - (intOf i).toNat)
  case atStart => exact ⟨0, Nat.zero_le _, rfl, Lib.hid (Below.refl _ _), Lib.hid (World.ownsRow_nil _ _ _ _)⟩
  case round =>
    obtain ⟨q, hq, rfl, hb, hown⟩ := hrel
    by_cases hlt : q < ss.length
    · obtain ⟨b, off, rfl, hbn, hc⟩ := HP.out (by omega)
      have hltb : b < w.heap.size := by omega
      have p1 := (hb.out.cell (p := ⟨b, off + q * 3, none⟩) hltb).trans (hc q hlt).1
      have p2 := (hb.out.cell (p := ⟨b, off + q * 3 + 1, none⟩) hltb).trans (hc q hlt).2.1
      have p3 := (hb.out.cell (p := ⟨b, off + q * 3 + 2, none⟩) hltb).trans (hc q hlt).2.2
      have PP := Lib.hid (And.intro p1 (And.intro p2 p3))
      clear hc p1 p2 p3
      have hqn : (q : Int) < ss.length := by omega
      have hw9 : IntKind.i64.wrap ((q : Int) + 1) = (q : Int) + 1 := IntWalk.i64_in _ (by omega)
      have PT := Lib.hid (flatS_take hlt)
      have TO := Lib.hid (to_any (sg ss q).h.lo (sg ss q).h.hi)
      generalize (sg ss q).b = B at *
      generalize (sg ss q).h.lo = lo at *
      generalize (sg ss q).h.hi = hi at *
      go_wp2
      have HC : Hid (∀ w1, Below w.heap.size wr w1 → w1.cell? ⟨b, off + q * 3, none⟩ = some (.int .i64 B) ∧ w1.cell? ⟨b, off + q * 3 + 1, none⟩ = some (.int .i64 lo) ∧ w1.cell? ⟨b, off + q * 3 + 2, none⟩ = some (.int .i64 hi)) := Lib.hid fun w1 hS =>
        ⟨(hS.cell (p := ⟨b, off + q * 3, none⟩) hltb).trans PP.out.1, (hS.cell (p := ⟨b, off + q * 3 + 1, none⟩) hltb).trans PP.out.2.1, (hS.cell (p := ⟨b, off + q * 3 + 2, none⟩) hltb).trans PP.out.2.2⟩
      have hszr := hb.out.size
      refine wp_region_noPanic ?_
      refine wp_region_chain (fun w1 => Below w.heap.size wr w1) (fun w1 w2 h hb => h.trans (hb.mono (by have := h.size; omega))) ((below_drawn _).mono (by omega)) (by kernel_rfl) (fun _ _ _ _ _ h => h)
        [(false, 0), (false, 1), (false, 2), (false, 3), (false, 4), (false, 5), (false, 6), (false, 7), (false, 8), (false, 9), (false, 10), (true, 11), (false, 12)] [13, 14, 15] (by kernel_rfl) ?_
      iterate 11
        (refine Walk.takes rfl rfl ?_; apply Exists.intro; refine ⟨fun w1 hS => ?_, ?_⟩; (obtain ⟨d0, d1, d2⟩ := HC.out w1 hS; go_simp; with_reducible rfl); simp only [List.getElem_toArray, List.getElem_cons_succ, List.getElem_cons_zero, Act.put, List.setIfInBounds_toArray, List.set_cons_zero, List.set_cons_succ])
      refine Walk.calls rfl rfl ?_; apply Exists.intro; apply Exists.intro; refine ⟨fun w2 hS => ?_, fun w2 hb2 => ?_⟩; (clear hS; go_simp; exact ⟨rfl, rfl⟩)
      refine (TO.out _).mono ?_
      rintro e w3 ⟨rfl, hb3⟩
      refine ⟨_, rfl, hb3, ?_⟩
      simp only [List.getElem_toArray, List.getElem_cons_succ, List.getElem_cons_zero, Act.put, List.setIfInBounds_toArray, List.set_cons_zero, List.set_cons_succ]
      iterate 1
        (refine Walk.takes rfl rfl ?_; apply Exists.intro; refine ⟨fun w1 hS => ?_, ?_⟩; (clear hS; go_simp; with_reducible rfl); simp only [List.getElem_toArray, List.getElem_cons_succ, List.getElem_cons_zero, Act.put, List.setIfInBounds_toArray, List.set_cons_zero, List.set_cons_succ])
      refine Walk.fin ?_
      rintro w4 hb4 hS4
      have hb5 : Below wr.heap.size wr w4 := below_to (below_to ((below_drawn wr).trans hb2) hb3) hb4
      have own4 := hown.out.kept (w' := w4) (row := none) ⟨hb5.os, hb5.tape, hb5.output, hb5.size, fun k hk _ => hb5.block k hk⟩ (Classical.em _)
      have hN4 := hb5.size
      have hS6 : Below w.heap.size wr (w4.alloc (.cells #[.int .i64 B, .int .i64 lo, .int .i64 hi] 76 (0, 0))) := hS4.alloc (by omega) _
      refine Tail.grows rfl rfl (exec_buildSlice 55 76 1 _ rfl el55.u #[.int .i64 B, .int .i64 lo, .int .i64 hi] (by kernel_rfl)) hS6 ?_
      simp only [List.getElem_toArray, List.getElem_cons_succ, List.getElem_cons_zero, Act.put, List.setIfInBounds_toArray, List.set_cons_zero, List.set_cons_succ]
      refine Tail.app el55 rfl rfl (.tmp 11) (.tmp 24) rfl w.heap.size q _ (flatS (List.take q ss)) #[.int .i64 B, .int .i64 lo, .int .i64 hi] rfl (by intro u hu; simp at hu; rcases hu with rfl | rfl | rfl <;> rfl) rfl rfl own4 (by omega) (by omega) ?_
      rintro g5 c5 w5 own5 hg5 -
      refine ⟨hS4.trans hg5.below, ?_⟩
      simp only [List.getElem_toArray, List.getElem_cons_succ, List.getElem_cons_zero, Act.put, List.setIfInBounds_toArray, List.set_cons_zero, List.set_cons_succ]
      refine Tail.value rfl rfl rfl (Tail.done (NoPanic.normal ?_))
      simp only [List.getElem_toArray, List.getElem_cons_succ, List.getElem_cons_zero, Act.put, List.setIfInBounds_toArray, List.set_cons_zero, List.set_cons_succ]
      have hW5 := Lib.hid (hS4.trans hg5.below)
      have O5 := Lib.hid own5
      clear hg5 own5 own4 hS6 hS4 hb4 hb5 hN4 hb2 hb3
      go_wp2
      go_roundw
      case rel =>
        refine ⟨q + 1, by omega, by simp, Lib.hid (hb.out.trans hW5.out), Lib.hid ?_⟩
        rw [PT.out]
        exact O5.out
      case measure => simp [intOf] <;> omega
    · obtain rfl : q = ss.length := by omega
      rw [List.take_length] at hown
      go_wp2
      go_ret
      exact ⟨⟨_, rfl, hown.out⟩, hb.out⟩

theorem row_same {w w' : World} {base e sz n : Nat} {v : Value} {xs : List Value} (h : w.ownsRow base e sz v n xs) (hb : ∀ (k : Nat) (cur : Array Value), w.heap[k]? = some (.cells cur e (0, 0)) → w'.heap[k]? = w.heap[k]?) : w'.ownsRow base e sz v n xs := by
  refine ⟨h.1, ?_⟩
  rcases h.2 with ⟨hv, h0⟩ | ⟨g, cap, cur, hv, hbg, hg, hr⟩
  · exact .inl ⟨hv, h0⟩
  · exact .inr ⟨g, cap, cur, hv, hbg, (hb g cur hg).trans hg, hr⟩
theorem own_tag {w : World} {base e sz n g : Nat} {v : Value} {xs : List Value} (h : w.ownsRow base e sz v n xs) (hv : v.ownBlock = some g) : ∃ cur, w.heap[g]? = some (.cells cur e (0, 0)) := by
  rcases h.2 with ⟨hv', h0⟩ | ⟨g', cap, cur, hv', hbg, hg, hr⟩
  · rw [hv'] at hv; simp [Value.ownBlock] at hv
  · rw [hv'] at hv
    simp [Value.ownBlock] at hv
    subst hv
    exact ⟨cur, hg⟩
theorem own_shape {w : World} {base e sz n : Nat} {v : Value} {xs : List Value} (h : w.ownsRow base e sz v n xs) : ∃ a cap, v = .slice a n cap := by
  rcases h.2 with ⟨hv, h0⟩ | ⟨g, cap, cur, hv, hr⟩
  · exact ⟨none, 0, by rw [hv, h0]⟩
  · exact ⟨_, _, hv⟩

/-- The row of runs, each with segments of its own. -/
def RunRow (base : Nat) (w : World) (rs : List Rn) (q : Nat) (xs : List Value) : Prop :=
  xs.length = q * 3 ∧ ∀ i, i < q → ∃ sv, xs[i * 3]? = some sv ∧ xs[i * 3 + 1]? = some (.int .i64 (rn rs i).seen.lo) ∧ xs[i * 3 + 2]? = some (.int .i64 (rn rs i).seen.hi) ∧ w.ownsRow base 76 3 sv (rn rs i).ss.length (flatS (rn rs i).ss)
theorem RunRow.same {base : Nat} {w w' : World} {rs : List Rn} {q : Nat} {xs : List Value} (h : RunRow base w rs q xs) (hb : ∀ (k : Nat) (cur : Array Value), w.heap[k]? = some (.cells cur 76 (0, 0)) → w'.heap[k]? = w.heap[k]?) : RunRow base w' rs q xs :=
  ⟨h.1, fun i hi => by
    obtain ⟨sv, h1, h2, h3, h4⟩ := h.2 i hi
    exact ⟨sv, h1, h2, h3, row_same h4 hb⟩⟩
theorem RunRow.snoc {base : Nat} {w : World} {rs : List Rn} {q : Nat} {xs : List Value} {sv : Value} (h : RunRow base w rs q xs) (ho : w.ownsRow base 76 3 sv (rn rs q).ss.length (flatS (rn rs q).ss)) :
    RunRow base w rs (q + 1) (xs ++ [sv, .int .i64 (rn rs q).seen.lo, .int .i64 (rn rs q).seen.hi]) := by
  have hl := h.1
  refine ⟨by simp [hl]; omega, fun i hi => ?_⟩
  by_cases e : i = q
  · subst e
    refine ⟨sv, ?_, ?_, ?_, ho⟩
    · rw [List.getElem?_append_right (by omega)]; simp [hl]
    · rw [List.getElem?_append_right (by omega)]; simp [hl]
    · rw [List.getElem?_append_right (by omega)]; simp [hl]
  · obtain ⟨sv', h1, h2, h3, h4⟩ := h.2 i (by omega)
    exact ⟨sv', (List.getElem?_append_left (by omega)).trans h1, (List.getElem?_append_left (by omega)).trans h2, (List.getElem?_append_left (by omega)).trans h3, h4⟩
theorem RunRow.runs {base : Nat} {w : World} {rs : List Rn} {v : Value} {xs : List Value} (h : RunRow base w rs rs.length xs) (ho : w.ownsRow base 78 3 v rs.length xs) : RunsV w.heap.size w v rs := by
  cases Nat.eq_zero_or_pos rs.length with
  | inl h0 =>
    rw [h0] at ho
    obtain ⟨a, cap, rfl⟩ := own_nil ho
    exact ⟨a, cap, by rw [h0], fun hp => by omega⟩
  | inr h0 =>
    obtain ⟨g, cap, rfl, hb, hg, hc⟩ := own_get ho h0
    refine ⟨_, cap, rfl, fun _ => ⟨g, 0, rfl, hg, fun i hi => ?_⟩⟩
    obtain ⟨sv, f1, f2, f3, f4⟩ := h.2 i hi
    rw [Nat.zero_add]
    exact ⟨sv, (hc _ (by omega)).trans f1, (hc _ (by omega)).trans f2, (hc _ (by omega)).trans f3, own_segs f4⟩
/-- Blocks of segments stay when the row of runs grows. -/
theorem tags_differ {w : World} {k : Nat} {cur cur' : Array Value} {e e' : TypeId} (h : w.heap[k]? = some (.cells cur e (0, 0))) (h' : w.heap[k]? = some (.cells cur' e' (0, 0))) : e = e' := by
  rw [h] at h'
  simp at h'
  exact h'.2

set_option maxRecDepth 100000 in
set_option maxHeartbeats 4000000 in
theorem Runs_any (n : Nat) (v : Value) (rs : List Rn) (w : World) (hl : rs.length ≤ 1000) (hs : ∀ r, r ∈ rs → r.ss.length ≤ 1000) (hV : RunsV n w v rs) (hn : n ≤ w.heap.size) :
    Calls Try.prog 21 #[v] w fun e w' => (∃ v', e = .returned v' ∧ RunsV w'.heap.size w' v' rs) ∧ Below w.heap.size w w' := by
  obtain ⟨a, cap, rfl, hp⟩ := hV
  have HP := Lib.hid hp
  have HSS := Lib.hid hs
  clear hp hs
  go_enter Try.func21, Try.ntmps21
  go_wp2
  go_loopw [3, 4] (fun s i wr => ∃ q : Nat, q ≤ rs.length ∧ i = .int .i64 q ∧ Hid (Below w.heap.size w wr) ∧ ∃ xs, Hid (wr.ownsRow w.heap.size 78 3 s q xs ∧ RunRow w.heap.size wr rs q xs)) (fun _ i _ => rs.length - (intOf i).toNat)
  case atStart => exact ⟨0, Nat.zero_le _, rfl, Lib.hid (Below.refl _ _), [], Lib.hid ⟨World.ownsRow_nil _ _ _ _, rfl, fun i hi => by omega⟩⟩
  case round =>
    obtain ⟨q, hq, rfl, hb, xs, hown⟩ := hrel
    by_cases hlt : q < rs.length
    · obtain ⟨b, off, rfl, hbn, hc⟩ := HP.out (by omega)
      obtain ⟨sv, h1, h2, h3, h4⟩ := hc q hlt
      have hltb : b < w.heap.size := by omega
      have p1 := (hb.out.cell (p := ⟨b, off + q * 3, none⟩) hltb).trans h1
      have p2 := (hb.out.cell (p := ⟨b, off + q * 3 + 1, none⟩) hltb).trans h2
      have p3 := (hb.out.cell (p := ⟨b, off + q * 3 + 2, none⟩) hltb).trans h3
      have hqn : (q : Int) < rs.length := by omega
      have hw9 : IntKind.i64.wrap ((q : Int) + 1) = (q : Int) + 1 := IntWalk.i64_in _ (by omega)
      have PL := Lib.hid fun w' (h : Below w.heap.size w w') => Plan_any n sv (rn rs q).ss w' (HSS.out _ (rn_mem hlt)) (h4.same (.below hn h)) (Nat.le_trans hn h.size)
      obtain ⟨sa, cs, rfl, -⟩ := h4
      have PP := Lib.hid (And.intro p1 (And.intro p2 p3))
      have SN := Lib.hid fun w' xs sv => @RunRow.snoc w.heap.size w' rs q xs sv
      clear hc h1 h2 h3 p1 p2 p3
      have TO := Lib.hid (to_any (rn rs q).seen.lo (rn rs q).seen.hi)
      generalize (rn rs q).seen.lo = lo at *
      generalize (rn rs q).seen.hi = hi at *
      generalize (rn rs q).ss = ss at *
      go_wp2
      have HC : Hid (∀ w1, Below w.heap.size wr w1 → w1.cell? ⟨b, off + q * 3, none⟩ = some (.slice sa ss.length cs) ∧ w1.cell? ⟨b, off + q * 3 + 1, none⟩ = some (.int .i64 lo) ∧ w1.cell? ⟨b, off + q * 3 + 2, none⟩ = some (.int .i64 hi)) := Lib.hid fun w1 hS =>
        ⟨(hS.cell (p := ⟨b, off + q * 3, none⟩) hltb).trans PP.out.1, (hS.cell (p := ⟨b, off + q * 3 + 1, none⟩) hltb).trans PP.out.2.1, (hS.cell (p := ⟨b, off + q * 3 + 2, none⟩) hltb).trans PP.out.2.2⟩
      have hszr := hb.out.size
      refine wp_region_noPanic ?_
      refine wp_region_chain (fun w1 => Below w.heap.size wr w1) (fun w1 w2 h hb => h.trans (hb.mono (by have := h.size; omega))) ((below_drawn _).mono (by omega)) (by kernel_rfl) (fun _ _ _ _ _ h => h)
        [(false, 0), (false, 1), (false, 2), (false, 3), (false, 4), (false, 5), (false, 7), (false, 8), (false, 9), (false, 10), (false, 11), (true, 6), (true, 12), (false, 13)] [14, 15, 16] (by kernel_rfl) ?_
      iterate 11
        (refine Walk.takes rfl rfl ?_; apply Exists.intro; refine ⟨fun w1 hS => ?_, ?_⟩; (obtain ⟨d0, d1, d2⟩ := HC.out w1 hS; go_simp; with_reducible rfl); simp only [List.getElem_toArray, List.getElem_cons_succ, List.getElem_cons_zero, Act.put, List.setIfInBounds_toArray, List.set_cons_zero, List.set_cons_succ])
      refine Walk.calls rfl rfl ?_; apply Exists.intro; apply Exists.intro; refine ⟨fun w2 hS => ?_, fun w2 hb2 => ?_⟩; (clear hS; go_simp; exact ⟨rfl, rfl⟩)
      have hs2 : Below wr.heap.size wr w2 := (below_drawn wr).trans hb2
      refine (PL.out w2 (hb.out.trans (hs2.mono hszr))).mono ?_
      rintro e w3 ⟨⟨pv, rfl, hown3⟩, hb3⟩
      refine ⟨_, rfl, hb3, ?_⟩
      obtain ⟨pa, pc, rfl⟩ := own_shape hown3
      simp only [List.getElem_toArray, List.getElem_cons_succ, List.getElem_cons_zero, Act.put, List.setIfInBounds_toArray, List.set_cons_zero, List.set_cons_succ]
      refine Walk.calls rfl rfl ?_; apply Exists.intro; apply Exists.intro; refine ⟨fun w2 hS => ?_, fun w4 hb4 => ?_⟩; (clear hS; go_simp; exact ⟨rfl, rfl⟩)
      refine (TO.out _).mono ?_
      rintro e w5 ⟨rfl, hb5⟩
      refine ⟨_, rfl, hb5, ?_⟩
      simp only [List.getElem_toArray, List.getElem_cons_succ, List.getElem_cons_zero, Act.put, List.setIfInBounds_toArray, List.set_cons_zero, List.set_cons_succ]
      iterate 1
        (refine Walk.takes rfl rfl ?_; apply Exists.intro; refine ⟨fun w1 hS => ?_, ?_⟩; (clear hS; go_simp; with_reducible rfl); simp only [List.getElem_toArray, List.getElem_cons_succ, List.getElem_cons_zero, Act.put, List.setIfInBounds_toArray, List.set_cons_zero, List.set_cons_succ])
      refine Walk.fin ?_
      rintro w6 hb6 hS6
      have hb36 : Below w3.heap.size w3 w6 := below_to (below_to hb4 hb5) hb6
      have hb7 : Below wr.heap.size wr w6 := below_to (below_to hs2 hb3) hb36
      have own6 := hown.out.1.kept (w' := w6) (row := none) ⟨hb7.os, hb7.tape, hb7.output, hb7.size, fun k hk _ => hb7.block k hk⟩ (Classical.em _)
      have row6 : RunRow w.heap.size w6 rs q xs := hown.out.2.same fun k cur hk => hb7.block k (lt_of_block hk)
      have sg6 : w6.ownsRow w.heap.size 76 3 (.slice pa ss.length pc) ss.length (flatS ss) := row_same (ownsRow_mono (by have := hs2.size; omega) hown3) fun k cur hk => hb36.block k (lt_of_block hk)
      have hN6 := hb7.size
      have hS8 : Below w.heap.size wr (w6.alloc (.cells #[.slice pa ss.length pc, .int .i64 lo, .int .i64 hi] 78 (0, 0))) := hS6.alloc (by omega) _
      refine Tail.grows rfl rfl (exec_buildSlice 37 78 1 _ rfl el37.u #[.slice pa ss.length pc, .int .i64 lo, .int .i64 hi] (by kernel_rfl)) hS8 ?_
      simp only [List.getElem_toArray, List.getElem_cons_succ, List.getElem_cons_zero, Act.put, List.setIfInBounds_toArray, List.set_cons_zero, List.set_cons_succ]
      refine Tail.app el37 rfl rfl (.tmp 11) (.tmp 25) rfl w.heap.size q _ xs #[.slice pa ss.length pc, .int .i64 lo, .int .i64 hi] rfl (by intro u hu; simp at hu; rcases hu with rfl | rfl | rfl <;> rfl) rfl rfl own6 (by omega) (by omega) ?_
      rintro g8 c8 w8 own8 hg8 -
      refine ⟨hS6.trans hg8.below, ?_⟩
      simp only [List.getElem_toArray, List.getElem_cons_succ, List.getElem_cons_zero, Act.put, List.setIfInBounds_toArray, List.set_cons_zero, List.set_cons_succ]
      refine Tail.value rfl rfl rfl (Tail.done (NoPanic.normal ?_))
      simp only [List.getElem_toArray, List.getElem_cons_succ, List.getElem_cons_zero, Act.put, List.setIfInBounds_toArray, List.set_cons_zero, List.set_cons_succ]
      have hW8 := Lib.hid (hS6.trans hg8.below)
      have O8 := Lib.hid own8
      have hst : ∀ (k : Nat) (cur : Array Value), w6.heap[k]? = some (.cells cur 76 (0, 0)) → w8.heap[k]? = w6.heap[k]? := fun k cur hk => hg8.block k (lt_of_block hk) fun e => by
        obtain ⟨cur', hk'⟩ := own_tag own6 e
        exact absurd (tags_differ hk hk') (by decide)
      have R8 := Lib.hid (SN.out w8 xs (.slice pa ss.length pc) (row6.same hst) (row_same sg6 hst))
      clear hg8 own8 own6 hS8 hS6 hb4 hb5 hN6 hb2 hb3 hst row6 sg6 hown3 hb36 hb7 hb6 hs2
      go_wp2
      go_roundw
      case rel => exact ⟨q + 1, by omega, by simp, Lib.hid (hb.out.trans hW8.out), _, Lib.hid ⟨O8.out, R8.out⟩⟩
      case measure => simp [intOf] <;> omega
    · obtain rfl : q = rs.length := by omega
      go_wp2
      go_ret
      exact ⟨⟨_, rfl, hown.out.2.runs hown.out.1⟩, hb.out⟩
end Go.Proofs.Ytfijaafkagcmmaa
