/- Runs that are copied: for CreepMore and CreepCut. Condition: a thousand runs at most. One range in another: the law's test. No condition. Plain facts for CreepMore. A segment that is cut into two, or a stay of no hours: plain facts for CreepCut. No condition. A slice is appended to a row of one's own, which may be empty: within a chain of a drawn region. Condition: a thousand elements at most. A row of runs of one's own, of which one gets other segments. No condition. Parts of a slice of segments, and a cell that is stored. No condition. -/
import Derived.Test.YtfijaafkagcmmaaE7J
import Derived.Test.YtfijaafkagcmmaaR6
import Derived.Test.YtfijaafkagcmmaaR11
namespace Go.Proofs.Ytfijaafkagcmmaa
open Go.RowKit Go.Shelf
attribute [local irreducible] arrV wpQuiet

theorem el25 : ElemOk 25 90 3 40 := ⟨by kernel_rfl, elem_info 90 3 40 (by kernel_rfl) (by kernel_rfl) (by kernel_rfl), by decide, by decide⟩

set_option maxRecDepth 100000 in
/-- All elements of a slice, behind a row of one's own. -/
theorem app_all {t e : TypeId} {sz bytes : Nat} (hE : ElemOk t e sz bytes) (base n ty : Nat) (v : Value) (ys : List Value) (b off m cap : Nat) (xs : List Value) (W : World) (hm : 0 < m) (hn : n + m ≤ 1000) (hown : W.ownsRow base e sz v n ys) (hb : base ≤ W.heap.size)
    (hl : xs.length = m * sz) (hc : ∀ j u, xs[j]? = some u → W.cell? ⟨b, off + j, none⟩ = some u) (h1 : ∀ u ∈ xs, u.oneCell' = true) :
    ∃ g c w', (Builtin.append_ #[t, t] ty #[v, .slice (some ⟨b, off, none⟩) m cap]).run Try.prog W = .ok (.slice (some ⟨g, 0, none⟩) (n + m) c) w' ∧ w'.ownsRow base e sz (.slice (some ⟨g, 0, none⟩) (n + m) c) (n + m) (ys ++ xs) ∧
      Below base W w' ∧ (∀ k, k < W.heap.size → v.ownBlock ≠ some k → w'.heap[k]? = W.heap[k]?) ∧ (v.ownBlock = some g ∨ g = W.heap.size) := by
  obtain ⟨i, z, hi, hz, hs, hby, hzs⟩ := hE.i
  have hsm := hE.small
  obtain ⟨g, c, w', hrun, h2, h3, h4, h5⟩ := run_append_lies (P := Try.prog) W t ty base e i z sz bytes hE.u hi hz hs hby hzs hE.pos v n ys hown ⟨b, off, none⟩ m cap xs hl
    (fun j u hj => by rw [Addr.add_lit]; exact hc j u hj) h1 hm (by simp [maxLen]; omega) (by
      have : (n + m) * bytes ≤ 1000 * 100 := Nat.mul_le_mul hn hsm
      omega) hb W.heap.size rfl
  refine ⟨g, c, w', hrun, h2, ⟨h3.os, h3.tape, h3.output, h3.size, fun k hk => h3.block k (by omega) (fun e => ?_)⟩, fun k hk hne => h3.block k hk (fun e => hne e.symm), h4⟩
  have := (own_lt hown e.symm).1
  omega

/-- The cells of runs, whose segments lie where they lie. -/
def RunX (m : Nat) (w : World) (rs : List Rn) (xs : List Value) : Prop :=
  xs.length = rs.length * 3 ∧ ∀ i, i < rs.length → ∃ sv, xs[i * 3]? = some sv ∧ xs[i * 3 + 1]? = some (.int .i64 (rn rs i).seen.lo) ∧ xs[i * 3 + 2]? = some (.int .i64 (rn rs i).seen.hi) ∧ SegsV m w sv (rn rs i).ss
theorem RunX.same {m : Nat} {w w' : World} {rs : List Rn} {xs : List Value} (h : RunX m w rs xs) (hs : Same m w w') : RunX m w' rs xs :=
  ⟨h.1, fun i hi => by
    obtain ⟨sv, h1, h2, h3, h4⟩ := h.2 i hi
    exact ⟨sv, h1, h2, h3, h4.same hs⟩⟩
theorem RunX.runs {m base : Nat} {w : World} {rs : List Rn} {xs : List Value} {v : Value} (h : RunX m w rs xs) (hm : m ≤ w.heap.size) (ho : w.ownsRow base 90 3 v rs.length xs) : RunsV w.heap.size w v rs := by
  cases Nat.eq_zero_or_pos rs.length with
  | inl h0 =>
    rw [h0] at ho
    obtain ⟨a, cap, rfl⟩ := own_nil ho
    exact ⟨a, cap, by rw [h0], fun hp => by omega⟩
  | inr h0 =>
    obtain ⟨g, cap, rfl, hb, hg, hc⟩ := own_get ho h0
    refine ⟨_, cap, rfl, fun _ => ⟨g, 0, rfl, hg, fun i hi => ?_⟩⟩
    obtain ⟨sv, f1, f2, f3, f4⟩ := h.2 i hi
    rw [Nat.zero_add]
    exact ⟨sv, (hc _ (by omega)).trans f1, (hc _ (by omega)).trans f2, (hc _ (by omega)).trans f3, f4.up hm⟩
/-- The cells of a slice of runs. -/
theorem runs_cells {n : Nat} {w : World} {b off cap : Nat} {rs : List Rn} (h0 : 0 < rs.length) (h : RunsV n w (.slice (some ⟨b, off, none⟩) rs.length cap) rs) :
    ∃ xs, RunX n w rs xs ∧ (∀ j u, xs[j]? = some u → w.cell? ⟨b, off + j, none⟩ = some u) ∧ (∀ u ∈ xs, u.oneCell' = true) ∧ b < n := by
  obtain ⟨a', cap', e, hp⟩ := h
  cases e
  obtain ⟨b', off', e, hbn, hc⟩ := hp h0
  cases e
  have hsv : ∀ i, i < rs.length → ∃ u0 u1 u2, w.cell? ⟨b, off + i * 3, none⟩ = some u0 ∧ w.cell? ⟨b, off + i * 3 + 1, none⟩ = some u1 ∧ w.cell? ⟨b, off + i * 3 + 2, none⟩ = some u2 ∧ u0.oneCell' = true ∧ u1.oneCell' = true ∧ u2.oneCell' = true := fun i hi => by
    obtain ⟨sv, h1, h2, h3, h4⟩ := hc i hi
    obtain ⟨sa, cs, rfl, -⟩ := h4
    exact ⟨_, _, _, h1, h2, h3, rfl, rfl, rfl⟩
  have key : ∀ j, j < rs.length * 3 → ∃ u, w.cell? ⟨b, off + j, none⟩ = some u ∧ u.oneCell' = true := fun j hj => by
    obtain ⟨i, r, hr, rfl⟩ : ∃ i r, r < 3 ∧ j = i * 3 + r := ⟨j / 3, j % 3, Nat.mod_lt _ (by decide), by omega⟩
    obtain ⟨u0, u1, u2, a0, a1, a2, o0, o1, o2⟩ := hsv i (by omega)
    rcases (by omega : r = 0 ∨ r = 1 ∨ r = 2) with rfl | rfl | rfl
    · exact ⟨u0, a0, o0⟩
    · exact ⟨u1, by rw [← Nat.add_assoc]; exact a1, o1⟩
    · exact ⟨u2, by rw [← Nat.add_assoc]; exact a2, o2⟩
  refine ⟨(List.range (rs.length * 3)).map fun j => (w.cell? ⟨b, off + j, none⟩).getD (.int .i64 0), ?_, fun j u hj => ?_, fun u hu => ?_, hbn⟩
  · have hget : ∀ j u, j < rs.length * 3 → w.cell? ⟨b, off + j, none⟩ = some u → ((List.range (rs.length * 3)).map fun j => (w.cell? ⟨b, off + j, none⟩).getD (.int .i64 0))[j]? = some u := fun j u hj hu => by
      simp [hj, hu]
    refine ⟨by simp, fun i hi => ?_⟩
    obtain ⟨sv, h1, h2, h3, h4⟩ := hc i hi
    exact ⟨sv, hget _ _ (by omega) h1, hget _ _ (by omega) (by rw [← Nat.add_assoc]; exact h2), hget _ _ (by omega) (by rw [← Nat.add_assoc]; exact h3), h4⟩
  · have hjl : j < rs.length * 3 := by
      have := (List.getElem?_eq_some_iff.1 hj).1
      simpa using this
    obtain ⟨u', hu', -⟩ := key j hjl
    simp [hjl, hu'] at hj
    rw [← hj]
    exact hu'
  · obtain ⟨j, hj, rfl⟩ := List.mem_map.1 hu
    obtain ⟨u', hu', ho⟩ := key j (by simpa using hj)
    rw [hu']
    exact ho
end Go.Proofs.Ytfijaafkagcmmaa
namespace Go.Proofs.Ytfijaafkagcmmaa
open Go.RowKit Go.Shelf
attribute [local irreducible] arrV wpQuiet

def insideB (a b : Rg) : Bool := decide (b.lo ≤ a.lo) && decide (a.hi ≤ b.hi)
set_option maxHeartbeats 400000 in
theorem inside_any (a b : Rg) (w : World) :
    Calls Try.prog 51 #[.agg #[.int .i64 a.lo, .int .i64 a.hi], .agg #[.int .i64 b.lo, .int .i64 b.hi]] w fun e w' => e = .returned (.bool (insideB a b)) ∧ Below w.heap.size w w' := by
  have eI : insideB a b = (decide (b.lo ≤ a.lo) && decide (a.hi ≤ b.hi)) := rfl
  rw [eI]
  generalize a.lo = al at *
  generalize a.hi = ah at *
  generalize b.lo = bl at *
  generalize b.hi = bh at *
  clear eI
  go_enter Try.func51, Try.ntmps51
  go_wp2
  all_goals
    go_ret
    refine ⟨ret_bool ?_, below2 _ _ _⟩
    simp [*]
    try (intros; omega)
end Go.Proofs.Ytfijaafkagcmmaa
namespace Go.Proofs.Ytfijaafkagcmmaa
open Go.RowKit

/-- The parts of a range of hours. -/
def cutLo (h : Rg) (y : Int) : Int := y % (h.lo + 1)
def cutHi (h : Rg) (y : Int) : Int := cutLo h y + y % (h.hi - h.lo + 1)
/-- The segments behind the cut. -/
def cutL (ss : List Sg) (i : Nat) (y : Int) : List Sg :=
  ss.take i ++ [⟨(sg ss i).b, ⟨cutLo (sg ss i).h y, cutHi (sg ss i).h y⟩⟩] ++ ([⟨(sg ss i).b, ⟨(sg ss i).h.lo - cutLo (sg ss i).h y, (sg ss i).h.hi - cutHi (sg ss i).h y⟩⟩] ++ ss.drop (i + 1))
theorem cutL_len {ss : List Sg} {i : Nat} (y : Int) (h : i < ss.length) : (cutL ss i y).length = ss.length + 1 := by
  simp only [cutL, List.length_append, List.length_take, List.length_drop, List.length_cons, List.length_nil]
  omega
theorem split_sg {ss : List Sg} {i : Nat} (h : i < ss.length) : ss = ss.take i ++ sg ss i :: ss.drop (i + 1) := by
  have e : sg ss i = ss[i] := by simp [sg, h]
  rw [e, ← List.drop_eq_getElem_cons h, List.take_append_drop]
theorem cutL_lo {ss : List Sg} {i : Nat} (y : Int) (h : i < ss.length) (x : List Int) : loS (cutL ss i y) x = loS ss x := by
  have h1 := cut_lo (ss.take i) (ss.drop (i + 1)) (sg ss i).b ⟨cutLo (sg ss i).h y, cutHi (sg ss i).h y⟩ ⟨(sg ss i).h.lo - cutLo (sg ss i).h y, (sg ss i).h.hi - cutHi (sg ss i).h y⟩ (sg ss i).h (by simp only; omega) x
  have h2 : loS ss x = loS (ss.take i ++ sg ss i :: ss.drop (i + 1)) x := by rw [← split_sg h]
  rw [h2]
  refine Eq.trans ?_ h1
  simp [cutL]
theorem cutL_hi {ss : List Sg} {i : Nat} (y : Int) (h : i < ss.length) (x : List Int) : hiS (cutL ss i y) x = hiS ss x := by
  have h1 := cut_hi (ss.take i) (ss.drop (i + 1)) (sg ss i).b ⟨cutLo (sg ss i).h y, cutHi (sg ss i).h y⟩ ⟨(sg ss i).h.lo - cutLo (sg ss i).h y, (sg ss i).h.hi - cutHi (sg ss i).h y⟩ (sg ss i).h (by simp only; omega) x
  have h2 : hiS ss x = hiS (ss.take i ++ sg ss i :: ss.drop (i + 1)) x := by rw [← split_sg h]
  rw [h2]
  refine Eq.trans ?_ h1
  simp [cutL]
theorem rn_get {rs : List Rn} {k : Nat} (h : k < rs.length) : rn rs k = rs[k] := by simp [rn, h]
theorem cut_ok (ms : List Rg) {rs : List Rn} {k i : Nat} (y : Int) (hk : k < rs.length) (hi : i < (rn rs k).ss.length) :
    okL ms (rs.set k ⟨cutL (rn rs k).ss i y, (rn rs k).seen⟩) = okL ms rs :=
  ok_set ms rs k _ hk fun x => by
    unfold fitsB
    simp only
    rw [cutL_lo y hi, cutL_hi y hi, rn_get hk]
theorem stay_ok (ms : List Rg) {rs : List Rn} {k : Nat} (b : Int) (hk : k < rs.length) (hi : (rn rs k).ss = []) :
    okL ms (rs.set k ⟨[⟨b, ⟨0, 0⟩⟩], (rn rs k).seen⟩) = okL ms rs :=
  ok_set ms rs k _ hk fun x => by
    unfold fitsB
    rw [← rn_get hk, hi]
    simp only [loS, hiS]; simp; rfl
theorem cut_small {h : Rg} {y : Int} (h0 : 0 ≤ h.lo) (h1 : h.lo ≤ h.hi) (h2 : h.hi ≤ 1000000) (hy : 0 ≤ y) : 0 ≤ cutLo h y ∧ cutLo h y ≤ h.lo ∧ cutLo h y ≤ cutHi h y ∧ cutHi h y ≤ h.lo + (h.hi - h.lo) := by
  have a1 := Int.emod_nonneg y (show h.lo + 1 ≠ 0 by omega)
  have a2 := Int.emod_lt_of_pos y (show 0 < h.lo + 1 by omega)
  have b1 := Int.emod_nonneg y (show h.hi - h.lo + 1 ≠ 0 by omega)
  have b2 := Int.emod_lt_of_pos y (show 0 < h.hi - h.lo + 1 by omega)
  simp only [cutLo, cutHi]
  omega
end Go.Proofs.Ytfijaafkagcmmaa
namespace Go.Proofs.Ytfijaafkagcmmaa
open Go.RowKit Go.Shelf
attribute [local irreducible] arrV wpQuiet

theorem exec_append {P : Program} {a : Act} {o : Oper} {w w' : World} {t u : TypeId} {v x y : Value} (s z : Operand) (ho : o.op = .call { callee := .builtin .append, args := #[s, z], argTypes := #[t, u] }) (hs : a.eval s = v) (hz : a.eval z = x)
    (hr : (Builtin.append_ #[t, u] o.type #[v, x]).run P w = .ok y w') : (execOp a.eval o).run P w = .ok (.value y) w' := by
  simp [execOp, ho, resolve, invoke, builtin, hs, hz, hr, Result.andThen]

/-- What is one's own behind a step. -/
def Mine (Own : Nat → Prop) (w1 w2 : World) : Nat → Prop := fun k => Own k ∨ (w1.heap.size ≤ k ∧ k < w2.heap.size)

set_option maxRecDepth 100000 in
theorem act_app {t e : TypeId} {sz bytes : Nat} (hE : ElemOk t e sz bytes) (base n : Nat) (v : Value) (ys : List Value) (ad : Option Addr) (m cap : Nat) (xs : List Value) (W : World) (Own : Nat → Prop) (ty : TypeId)
    (hn : n + m ≤ 1000) (hown : W.ownsRow base e sz v n ys) (hb : base ≤ W.heap.size) (hl : xs.length = m * sz) (h0 : ad = none → m = 0)
    (hc : 0 < m → ∃ b off, ad = some ⟨b, off, none⟩ ∧ ∀ j u, xs[j]? = some u → W.cell? ⟨b, off + j, none⟩ = some u) (h1 : ∀ u ∈ xs, u.oneCell' = true)
    (hv : ∀ k, v.ownBlock = some k → Own k) (hO : ∀ k, Own k → k < W.heap.size) :
    ∃ v' w', (Builtin.append_ #[t, t] ty #[v, .slice ad m cap]).run Try.prog W = .ok v' w' ∧ w'.ownsRow base e sz v' (n + m) (ys ++ xs) ∧ Below base W w' ∧ Kept Own (Mine Own W w') W w' ∧ (∀ k, v'.ownBlock = some k → Mine Own W w' k) ∧ W.grownBy w' v.ownBlock := by
  obtain ⟨i, z, hi, hz, hsz, hby, hzs⟩ := hE.i
  have hsm := hE.small
  have key : ∃ v' w', (Builtin.append_ #[t, t] ty #[v, .slice ad m cap]).run Try.prog W = .ok v' w' ∧ w'.ownsRow base e sz v' (n + m) (ys ++ xs) ∧ W.grownBy w' v.ownBlock ∧ (v'.ownBlock = v.ownBlock ∨ v'.ownBlock = some W.heap.size) := by
    cases ad with
    | none =>
      obtain rfl := h0 rfl
      obtain rfl := List.eq_nil_of_length_eq_zero (by simpa using hl)
      refine ⟨v, W, ?_, by simpa using hown, ⟨rfl, rfl, rfl, Nat.le_refl _, fun _ _ _ => rfl⟩, .inl rfl⟩
      rcases hown.2 with ⟨rfl, rfl⟩ | ⟨g, c, cur, rfl, _, _, hnc, _⟩
      · simp [Builtin.append_, run_underlying hE.u, sizeOf, typeInfo, hi, Builtin.lenOf, run_firstCells_none, storeCells, Result.andThen]
      · simp [Builtin.append_, run_underlying hE.u, sizeOf, typeInfo, hi, Builtin.lenOf, hnc, run_firstCells_none, storeCells, Result.andThen]
    | some p =>
      obtain ⟨v', w', hr, h2, h3, _, h5⟩ := run_append_own_at (P := Try.prog) W base t ty e i z sz bytes hE.u hi hz hsz hby hzs hE.pos v n ys hown p m cap xs hl
        (fun j u hj => by
          have hm : 0 < m := by
            rcases Nat.eq_zero_or_pos m with h | h
            · subst h
              obtain rfl := List.eq_nil_of_length_eq_zero (by simpa using hl)
              simp at hj
            · exact h
          obtain ⟨b, off, e, hcc⟩ := hc hm
          cases e
          rw [Addr.add_lit]
          exact hcc j u hj) h1 (by simp [maxLen]; omega) (by
          have : (n + m) * bytes ≤ 1000 * 100 := Nat.mul_le_mul hn hsm
          omega) hb
      exact ⟨v', w', hr, h2, h3, h5⟩
  obtain ⟨v', w', hr, h2, h3, h5⟩ := key
  have hbase : ∀ k, v.ownBlock = some k → base ≤ k := fun k hk => (own_lt hown hk).1
  refine ⟨v', w', hr, h2, ⟨h3.os, h3.tape, h3.output, h3.size, fun k hk => h3.block k (by omega) (fun e => by have := hbase k e.symm; omega)⟩, ⟨h3.size, fun k hk hne => h3.block k hk (fun e => hne (.inl (hv k e.symm))), fun k hk => ?_⟩, fun k hk => ?_, h3⟩
  · rcases hk with h | ⟨h, h'⟩
    · exact ⟨.inl h, Nat.lt_of_lt_of_le (hO k h) h3.size⟩
    · exact ⟨.inr h, h'⟩
  · rcases h5 with h5 | h5
    · exact .inl (hv k (by rw [← h5]; exact hk))
    · rw [h5] at hk
      cases hk
      exact .inr ⟨Nat.le_refl _, (own_lt h2 h5).2⟩

/-- An empty slice of one's own. -/
theorem act_empty (e : TypeId) (sz base : Nat) (W : World) (hb : base ≤ W.heap.size) : (W.alloc (.cells #[] e (0, 0))).ownsRow base e sz (.slice (some ⟨W.heap.size, 0, none⟩) 0 0) 0 [] :=
  ⟨by simp, .inr ⟨W.heap.size, 0, #[], rfl, hb, heap_alloc_new W _, Nat.le_refl _, Nat.zero_le _, by simp, by simp⟩⟩
theorem kept_alloc (Own : Nat → Prop) (W : World) (o : Obj) (hO : ∀ k, Own k → k < W.heap.size) : Kept Own (Mine Own W (W.alloc o)) W (W.alloc o) :=
  ⟨by simp, fun k hk _ => (box_below W o).block k hk, fun k hk => by
    rcases hk with h | ⟨h, h'⟩
    · exact ⟨.inl h, Nat.lt_of_lt_of_le (hO k h) (by simp)⟩
    · exact ⟨.inr h, h'⟩⟩
/-- A row of one's own, where only what is not its own was turned. -/
theorem row_kept {w w' : World} {base e sz n : Nat} {v : Value} {xs : List Value} (h : w.ownsRow base e sz v n xs) (hb : Below w.heap.size w w') : w'.ownsRow base e sz v n xs :=
  row_same h fun k cur hk => hb.block k (lt_of_block hk)

/-- The cells of a part of a slice of segments. -/
theorem segs_part {n : Nat} {W : World} {b off cap : Nat} {ss : List Sg} {q m : Nat} (hP : SegsV n W (.slice (some ⟨b, off, none⟩) ss.length cap) ss) (h0 : 0 < ss.length) (hq : q + m ≤ ss.length) (j : Nat) (u : Value) (hu : (flatS ((ss.drop q).take m))[j]? = some u) :
    W.cell? ⟨b, off + q * 3 + j, none⟩ = some u := by
  obtain ⟨a', cap', e, hp⟩ := hP
  cases e
  obtain ⟨b', off', e, hbm, hc⟩ := hp h0
  cases e
  refine segs_all (w := W) (b := b) (off := off + q * 3) (ss := (ss.drop q).take m) (fun i hi => ?_) j u hu
  have hi' : i < m := by simp only [List.length_take, List.length_drop] at hi; omega
  have e : sg ((ss.drop q).take m) i = sg ss (q + i) := by
    unfold sg
    rw [List.getElem?_take_of_lt hi', List.getElem?_drop]
  rw [e]
  have := hc (q + i) (by omega)
  rw [Nat.add_mul, ← Nat.add_assoc] at this
  exact this
end Go.Proofs.Ytfijaafkagcmmaa
namespace Go.Proofs.Ytfijaafkagcmmaa
open Go.RowKit Go.Shelf
attribute [local irreducible] arrV wpQuiet

theorem put3 (w : World) (b : Nat) (x y z x' y' z' : Value) (t : TypeId) (h : w.heap[b]? = some (.cells #[x, y, z] t (0, 0))) : (((w.setCell ⟨b, 0, none⟩ x').setCell ⟨b, 1, none⟩ y').setCell ⟨b, 2, none⟩ z').heap[b]? = some (.cells #[x', y', z'] t (0, 0)) := by
  have h1 := heap_setCell_same w b 0 _ t x' h
  have h2 := heap_setCell_same _ b 1 _ t y' h1
  have h3 := heap_setCell_same _ b 2 _ t z' h2
  simpa using h3
theorem put3_other (w : World) (b k : Nat) (x' y' z' : Value) (hk : k ≠ b) : (((w.setCell ⟨b, 0, none⟩ x').setCell ⟨b, 1, none⟩ y').setCell ⟨b, 2, none⟩ z').heap[k]? = w.heap[k]? :=
  (heap_setCell_other _ ⟨b, 2, none⟩ k z' hk).trans ((heap_setCell_other _ ⟨b, 1, none⟩ k y' hk).trans (heap_setCell_other w ⟨b, 0, none⟩ k x' hk))
theorem put3_below {B : Nat} {A w : World} {b : Nat} (x' y' z' : Value) (h : Below B A w) (hb : B ≤ b) : Below B A (((w.setCell ⟨b, 0, none⟩ x').setCell ⟨b, 1, none⟩ y').setCell ⟨b, 2, none⟩ z') :=
  ((h.setCell (p := ⟨b, 0, none⟩) hb x').setCell (p := ⟨b, 1, none⟩) hb y').setCell (p := ⟨b, 2, none⟩) hb z'
theorem own_segs_any {w : World} {base e : Nat} {v : Value} {l : List Sg} (h : w.ownsRow base e 3 v l.length (flatS l)) : SegsV w.heap.size w v l := by
  cases Nat.eq_zero_or_pos l.length with
  | inl h0 =>
    rw [h0] at h
    obtain ⟨a, cap, rfl⟩ := own_nil h
    exact ⟨a, cap, by rw [h0], fun hp => by omega⟩
  | inr h0 =>
    obtain ⟨g, cap, rfl, hb, hg, hc⟩ := own_get h h0
    refine ⟨_, cap, rfl, fun _ => ⟨g, 0, rfl, hg, fun i hi => ?_⟩⟩
    obtain ⟨f1, f2, f3⟩ := flatS_get l i hi
    rw [Nat.zero_add]
    exact ⟨(hc _ (by omega)).trans f1, (hc _ (by omega)).trans f2, (hc _ (by omega)).trans f3⟩
theorem rn_set_same {rs : List Rn} {j : Nat} (r : Rn) (h : j < rs.length) : rn (rs.set j r) j = r := by simp [rn, h]
theorem rn_set_other {rs : List Rn} {i j : Nat} (r : Rn) (h : i ≠ j) : rn (rs.set j r) i = rn rs i := by simp [rn, List.getElem?_set_ne (Ne.symm h)]

structure RowR (m g n : Nat) (rs : List Rn) (A : World) : Prop where
  row : ∃ cur, A.heap[g]? = some (.cells cur 90 (0, 0)) ∧ n * 3 ≤ cur.size
  len : rs.length = n
  lt : m ≤ A.heap.size
  runs : ∀ i, i < n → ∃ sv, A.cell? ⟨g, i * 3, none⟩ = some sv ∧ A.cell? ⟨g, i * 3 + 1, none⟩ = some (.int .i64 (rn rs i).seen.lo) ∧ A.cell? ⟨g, i * 3 + 2, none⟩ = some (.int .i64 (rn rs i).seen.hi) ∧ SegsV m A sv (rn rs i).ss
theorem RowR.here {m g n : Nat} {rs : List Rn} {A : World} (h : RowR m g n rs A) : g < A.heap.size := by
  obtain ⟨cur, h1, _⟩ := h.row
  exact lt_of_block h1
theorem RowR.below {m g n : Nat} {rs : List Rn} {A B : World} (h : RowR m g n rs A) (hb : Below A.heap.size A B) : RowR m g n rs B := by
  obtain ⟨cur, h1, h2⟩ := h.row
  have hg := hb.block _ h.here
  have hc : ∀ o, B.cell? ⟨g, o, none⟩ = A.cell? ⟨g, o, none⟩ := fun o => World.cell?_of_block hg
  refine ⟨⟨cur, hg.trans h1, h2⟩, h.len, Nat.le_trans h.lt hb.size, fun i hi => ?_⟩
  obtain ⟨sv, c0, c1, c2, c3⟩ := h.runs i hi
  exact ⟨sv, by rw [hc]; exact c0, by rw [hc]; exact c1, by rw [hc]; exact c2, c3.same (.below h.lt hb)⟩
theorem RowR.other {m g n b : Nat} {rs : List Rn} {A B : World} (h : RowR m g n rs A) (hmb : m ≤ b) (hgb : g ≠ b) (hs : A.heap.size ≤ B.heap.size) (hb : ∀ k, k ≠ b → B.heap[k]? = A.heap[k]?) : RowR m g n rs B := by
  obtain ⟨cur, h1, h2⟩ := h.row
  have hg := hb g hgb
  have hc : ∀ o, B.cell? ⟨g, o, none⟩ = A.cell? ⟨g, o, none⟩ := fun o => World.cell?_of_block hg
  refine ⟨⟨cur, hg.trans h1, h2⟩, h.len, Nat.le_trans h.lt hs, fun i hi => ?_⟩
  obtain ⟨sv, c0, c1, c2, c3⟩ := h.runs i hi
  exact ⟨sv, by rw [hc]; exact c0, by rw [hc]; exact c1, by rw [hc]; exact c2, c3.same fun k hk => hb k (by omega)⟩
theorem RowR.of {m base g n cap : Nat} {rs : List Rn} {A : World} {xs : List Value} (hn : rs.length = n) (h0 : 0 < n) (h : RunX m A rs xs) (hm : m ≤ A.heap.size) (ho : A.ownsRow base 90 3 (.slice (some ⟨g, 0, none⟩) n cap) n xs) : RowR m g n rs A := by
  subst hn
  have hx := h.1
  rcases ho.2 with ⟨hv, _⟩ | ⟨g', c', cur, hv, hb, hg, hn', _, hs, ht⟩
  · cases hv
  cases hv
  have hcell : ∀ j, j < rs.length * 3 → A.cell? ⟨g, j, none⟩ = xs[j]? := fun j hj => by
    have h1 : (cur.toList.take (rs.length * 3))[j]? = xs[j]? := by rw [ht]
    rw [List.getElem?_take_of_lt hj] at h1
    rw [cell_of_row A g j _ _ _ hg, ← Array.getElem?_toList, h1]
  refine ⟨⟨cur, hg, by omega⟩, rfl, hm, fun i hi => ?_⟩
  obtain ⟨sv, f1, f2, f3, f4⟩ := h.2 i hi
  exact ⟨sv, (hcell _ (by omega)).trans f1, (hcell _ (by omega)).trans f2, (hcell _ (by omega)).trans f3, f4⟩
theorem RowR.fresh {m g n : Nat} {rs : List Rn} {A : World} (h : RowR m g n rs A) (o : Nat) : A.frozen? ⟨g, o, none⟩ = false := by
  obtain ⟨cur, h1, h2⟩ := h.row
  exact frozen_of_row A g _ _ _ h1
theorem RowR.set_runs {m g n base : Nat} {rs : List Rn} {A : World} (h : RowR m g n rs A) (hmg : m ≤ g) {j : Nat} (hj : j < n) (v : Value) (ss : List Sg) (cx : Nat) (hv : A.ownsRow base 84 3 v ss.length (flatS ss)) (hg : g < base) :
    RunsV A.heap.size (A.setCell ⟨g, j * 3, none⟩ v) (.slice (some ⟨g, 0, none⟩) n cx) (rs.set j ⟨ss, (rn rs j).seen⟩) := by
  obtain ⟨cur, h1, h2⟩ := h.row
  have hlt := h.here
  have hlen := h.len
  have hnew := heap_setCell_same A g (j * 3) cur 90 v h1
  have hsz : (A.setCell ⟨g, j * 3, none⟩ v).heap.size = A.heap.size := by simp
  have hsame : ∀ k, k ≠ g → (A.setCell ⟨g, j * 3, none⟩ v).heap[k]? = A.heap[k]? := fun k hk => heap_setCell_other A ⟨g, j * 3, none⟩ k v hk
  have hv' : SegsV A.heap.size (A.setCell ⟨g, j * 3, none⟩ v) v ss := by
    have := own_segs_any (row_same (w' := A.setCell ⟨g, j * 3, none⟩ v) hv (fun k cur' hk => hsame k (fun e => by
      subst e
      have := tags_differ h1 hk
      exact absurd this (by decide))))
    rwa [hsz] at this
  refine ⟨_, cx, by simp [hlen], fun _ => ⟨g, 0, rfl, hlt, fun i hi => ?_⟩⟩
  rw [Nat.zero_add]
  have hi' : i < n := by simpa [hlen] using hi
  have key : ∀ o, o < n * 3 → (A.setCell ⟨g, j * 3, none⟩ v).cell? ⟨g, o, none⟩ = if j * 3 = o then some v else A.cell? ⟨g, o, none⟩ := fun o ho => by
    rw [cell_of_row _ g o _ _ _ hnew, cell_of_row A g o _ _ _ h1, Array.getElem?_setIfInBounds]
    by_cases e : j * 3 = o
    · rw [if_pos e, if_pos e, if_pos (by omega)]
    · rw [if_neg e, if_neg e]
  have k0 := key (i * 3) (by omega)
  have k1 := key (i * 3 + 1) (by omega)
  have k2 := key (i * 3 + 2) (by omega)
  obtain ⟨sv, c0, c1, c2, c3⟩ := h.runs i hi'
  rw [if_neg (by omega)] at k1 k2
  by_cases e : i = j
  · subst e
    rw [if_pos rfl] at k0
    rw [rn_set_same _ (by omega)]
    exact ⟨v, k0, k1.trans c1, k2.trans c2, hv'⟩
  · rw [if_neg (by omega)] at k0
    rw [rn_set_other _ e]
    exact ⟨sv, k0.trans c0, k1.trans c1, k2.trans c2, (c3.same fun k hk => hsame k (by omega)).up h.lt⟩
section
open Go.ChangeShapes Go.WideShapes Go.ChangeAt Go.Deep
set_option maxRecDepth 100000
variable {H : Type} {enc : TypeId × Value → H} {w : World} {base fuel : Nat} {spare : Nat → Bool} {held : Bool}
theorem seg_cap {cs : List Value} {x : DataW H × List MemPlace} (h : DataW.trod enc Try.prog w base spare held fuel 52 cs = some x) {a : Option Addr} {n c : Nat} (e : cs = [.slice a n c]) : n ≤ c := by
  rcases open_slice Try.underlying52 h with ⟨hcs, _⟩ | ⟨a', len', cap', m, n', D, Pl, hcs, hb, hl, _⟩
  · rw [e] at hcs
    simp only [List.cons.injEq, Value.slice.injEq, and_true] at hcs
    omega
  · rw [e] at hcs
    simp only [List.cons.injEq, Value.slice.injEq, and_true] at hcs
    obtain ⟨-, e1, e2⟩ := hcs
    omega
theorem run_cap {cs : List Value} {x : DataW H × List MemPlace} (h : DataW.trod enc Try.prog w base spare held fuel 90 cs = some x) {a : Option Addr} {n c : Nat} (e : cs[0]? = some (.slice a n c)) : n ≤ c := by
  obtain ⟨xs, m, _, _, hl, hxl, hf⟩ := DataW.trod_struct Try.underlying90 h
  rw [cells90] at hl
  obtain ⟨c0, c1, c2, rfl⟩ := len3 hl
  obtain ⟨y0, y1, rfl⟩ := len2 hxl
  have f0 : DataW.trod enc Try.prog w base spare held m 52 (([c0, c1, c2].drop 0).take (Try.prog.cellsOf 52)) = [y0, y1][0]? := hf 0 _ rfl
  rw [cells52] at f0
  simp only [List.getElem?_cons_zero, Option.some.injEq] at e
  subst e
  exact seg_cap (show DataW.trod enc Try.prog w base spare held m 52 [_] = some y0 from f0) rfl
theorem run_caps {r : Reach} {b0 : Nat} {v : Value} {d : DataW H} {p : List MemPlace} (hv : Value.okWide Try.prog w r b0 25 v) (h : DataW.Trod enc Try.prog w base spare held 25 v d p) :
    ∀ b off len cap, v = .slice (some ⟨b, off, none⟩) len cap → ∀ i, i < len → ∀ a n c, w.cell? ⟨b, off + i * 3, none⟩ = some (.slice a n c) → n ≤ c := by
  obtain ⟨a0, len, cap, rfl⟩ := okWide_slice Try.underlying25 hv
  obtain ⟨fuel, hf⟩ := h
  intro b off len' cap' e i hi a n c hc
  simp only [Value.slice.injEq] at e
  obtain ⟨rfl, rfl, rfl⟩ := e
  rcases open_slice Try.underlying25 hf with ⟨hcs, _⟩ | ⟨a', len', cap', m, n', D, Pl, hcs, hb, hl, hm, hmm, hx, hix⟩
  · simp [Value.cells] at hcs
  · simp only [Value.cells, List.cons.injEq, Value.slice.injEq, Option.some.injEq, and_true] at hcs
    obtain ⟨e0, e1, e2⟩ := hcs
    subst e0 e1 e2
    have hlm : len ≤ m := by rw [hmm]; split <;> omega
    obtain ⟨cs', hc', ht⟩ := hix i (by omega)
    rw [cells90] at hc'
    obtain ⟨_, hsz, hat⟩ := World.cells?_some hc'
    have a0 := hat 0 (by decide)
    rw [add_add, Nat.add_zero] at a0
    simp only [Go.WideShapes.add_plain] at a0
    refine run_cap ht (a := a) (c := c) ?_
    rw [hc] at a0
    exact a0.symm
end
end Go.Proofs.Ytfijaafkagcmmaa
namespace Go.Proofs.Ytfijaafkagcmmaa
open Go.RowKit Go.Shelf
attribute [local irreducible] arrV wpQuiet

theorem size84 : ∃ i, Try.prog.info? 84 = some i ∧ i.size = 3 := by
  obtain ⟨i, z, h1, _, h2, _⟩ := el52.i
  exact ⟨i, h1, h2⟩
/-- The address of a part that begins at an element. -/
def lowA (ad : Option Addr) (q c : Nat) : Option Addr := if c = q then ad else ad.map (·.add (q * 3))
theorem exec_slice_hi {a : Act} {o : Oper} {W : World} (x y : Operand) (ho : o.op = .slice 52 x none (some y) none) {ad : Option Addr} {n c q : Nat} {k : Int} (hx : a.eval x = .slice ad n c) (hy : a.eval y = .int .i64 k) (hk : k = (q : Int)) (h : q ≤ c) :
    (execOp a.eval o).run Try.prog W = .ok (.value (.slice ad q c)) W := by
  subst hk
  obtain ⟨i, h1, h2⟩ := size84
  have e0 : ad.map (·.add 0) = ad := by cases ad <;> simp [Addr.add]
  have h3 : (q : Int) ≤ (c : Int) := by omega
  unfold execOp
  simp [ho, hx, hy, Instr.sliceAt, Instr.slice, run_underlying el52.u, Instr.sliceBounds, Instr.sliceBound, asIntOf, sizeOf, typeInfo, h1, h2, h3, h, Result.andThen, e0]
theorem exec_slice_lo {a : Act} {o : Oper} {W : World} (x y : Operand) (ho : o.op = .slice 52 x (some y) none none) {ad : Option Addr} {n c q : Nat} {k : Int} (hx : a.eval x = .slice ad n c) (hy : a.eval y = .int .i64 k) (hk : k = (q : Int)) (h : q ≤ n) :
    (execOp a.eval o).run Try.prog W = .ok (.value (.slice (lowA ad q c) (n - q) (c - q))) W := by
  subst hk
  obtain ⟨i, h1, h2⟩ := size84
  have h3 : (q : Int) ≤ (n : Int) := by omega
  unfold execOp lowA
  simp [ho, hx, hy, Instr.sliceAt, Instr.slice, run_underlying el52.u, Instr.sliceBounds, Instr.sliceBound, asIntOf, sizeOf, typeInfo, h1, h2, h3, h, Result.andThen]
theorem exec_store_one {a : Act} {o : Oper} {W : World} (ty : TypeId) (x y : Operand) (ho : o.op = .store ty x y) {b off : Nat} {ad : Option Addr} {n c : Nat} {u : Value} (hx : a.eval x = .pointer (some ⟨b, off, none⟩)) (hy : a.eval y = .slice ad n c)
    (hc : W.cell? ⟨b, off, none⟩ = some u) (hf : W.frozen? ⟨b, off, none⟩ = false) (hi : (Try.prog.info? ty).map (·.size) = some 1) :
    (execOp a.eval o).run Try.prog W = .ok .skip (W.setCell ⟨b, off, none⟩ (.slice ad n c)) := by
  have hs := run_storeCells_cells (P := Try.prog) b off [.slice ad n c] 0 W (fun j hj => by
    obtain rfl : j = 0 := by simp at hj; exact hj
    simpa using by rw [hc]; rfl) (fun j hj => by
    obtain rfl : j = 0 := by simp at hj; exact hj
    simpa using hf) (fun v hv => by
    simp at hv
    subst hv
    rfl)
  simp only [Nat.add_zero] at hs
  cases hq : Try.prog.info? ty with
  | none => simp [hq] at hi
  | some i =>
    have h1 : i.size = 1 := by simpa [hq] using hi
    unfold execOp
    simp [ho, hx, hy, Instr.storeAt, Instr.sureAddr, storeVar, sizeOf, typeInfo, hq, Value.cells, h1, hs, Result.andThen, World.setCells]
theorem flat_join (L M : List Sg) (s : Sg) : [] ++ flatS L ++ [.int .i64 s.b, .int .i64 s.h.lo, .int .i64 s.h.hi] ++ flatS M = flatS (L ++ [s] ++ M) := by
  simp [flatS]
theorem ins_eq {α : Type} (P D : List α) (r s : α) {i : Nat} (h : P.length = i) : (P ++ [r] ++ D).take i ++ [s] ++ (P ++ [r] ++ D).drop i = P ++ [s] ++ ([r] ++ D) := by
  subst h
  rw [List.append_assoc P [r] D, List.take_left, List.drop_left]
theorem neqr50 (a b : Int) (w : World) : (binOp .neq 50 (.agg #[.int .i64 a, .int .i64 b]) (.agg #[.int .i64 a, .int .i64 b])).run Try.prog w = .ok (.bool false) w := by
  have h : (Op.equal 50 (.agg #[.int .i64 a, .int .i64 b]) (.agg #[.int .i64 a, .int .i64 b])).run Try.prog w = .ok true w := by
    show (Op.equalIn (9999 + 1) 50 _ _).run Try.prog w = _
    rw [run_equalIn_struct w 9999 50 _ _ s50f st50, f50]
    have e : ∀ a b : Int, (Op.equalIn 9999 3 (.int .i64 a) (.int .i64 b)).run Try.prog w = .ok (a == b) w := fun a b => run_equalIn_int w 9998 3 .i64 .i64 a b Try.underlying3
    simp only [fl50, Op.eqFields, Sem.run_bind, Sem.run_ite, part0, part1, Result.andThen_ok, e, Sem.run_pure, show ("Lo" ≠ "_") = True from by simp, show ("Hi" ≠ "_") = True from by simp, if_true]
    simp
  simp [binOp, Sem.run_bind, h, Result.andThen_ok, Sem.run_pure]
theorem mine_empty (W : World) (o : Obj) (k : Nat) (h : (Value.slice (some ⟨W.heap.size, 0, none⟩) 0 0).ownBlock = some k) : Mine (fun _ => False) W (W.alloc o) k := by
  simp [Value.ownBlock] at h
  subst h
  exact .inr ⟨Nat.le_refl _, by simp⟩
theorem own_capd {w : World} {base e sz n : Nat} {v : Value} {xs : List Value} (h : w.ownsRow base e sz v n xs) : ∃ ad c, v = .slice ad n c ∧ n ≤ c := by
  rcases h.2 with ⟨hv, h0⟩ | ⟨g, cap, cur, hv, hb, hg, hn', hc, hs, ht⟩
  · exact ⟨none, 0, by rw [hv, h0], by omega⟩
  · exact ⟨_, cap, hv, hn'⟩
theorem part_hi {N : Nat} {W : World} {ad : Option Addr} {c : Nat} {ss : List Sg} (hP : SegsV N W (.slice ad ss.length c) ss) (m : Nat) (hm : m ≤ ss.length) :
    (ad = none → m = 0) ∧ (0 < m → ∃ b off, ad = some ⟨b, off, none⟩ ∧ ∀ j u, (flatS (ss.take m))[j]? = some u → W.cell? ⟨b, off + j, none⟩ = some u) := by
  have hP' := hP
  obtain ⟨a', c', e, hp⟩ := hP
  cases e
  refine ⟨fun h => ?_, fun h => ?_⟩
  · rcases Nat.eq_zero_or_pos m with h0 | h0
    · exact h0
    · obtain ⟨b, off, e, _⟩ := hp (by omega)
      rw [h] at e
      cases e
  · obtain ⟨b, off, rfl, _⟩ := hp (by omega)
    refine ⟨b, off, rfl, fun j u hj => ?_⟩
    have := segs_part (q := 0) (m := m) hP' (by omega) (by omega) j u (by simpa using hj)
    simpa using this
theorem part_lo {N : Nat} {W : World} {ad : Option Addr} {c : Nat} {ss : List Sg} (hP : SegsV N W (.slice ad ss.length c) ss) (q : Nat) (hq : q ≤ ss.length) (hc : ss.length ≤ c) :
    (lowA ad q c = none → ss.length - q = 0) ∧ (0 < ss.length - q → ∃ b off, lowA ad q c = some ⟨b, off, none⟩ ∧ ∀ j u, (flatS (ss.drop q))[j]? = some u → W.cell? ⟨b, off + j, none⟩ = some u) := by
  have hP' := hP
  obtain ⟨a', c', e, hp⟩ := hP
  cases e
  have key : 0 < ss.length - q → ∃ b off, lowA ad q c = some ⟨b, off, none⟩ ∧ ∀ j u, (flatS (ss.drop q))[j]? = some u → W.cell? ⟨b, off + j, none⟩ = some u := fun h => by
    obtain ⟨b, off, rfl, _⟩ := hp (by omega)
    refine ⟨b, off + q * 3, ?_, fun j u hj => ?_⟩
    · unfold lowA
      rw [if_neg (by omega)]
      simp [Addr.add]
    · exact segs_part (q := q) (m := ss.length - q) hP' (by omega) (by omega) j u (by rw [List.take_of_length_le (by simp)]; exact hj)
  refine ⟨fun h => ?_, key⟩
  rcases Nat.eq_zero_or_pos (ss.length - q) with h0 | h0
  · exact h0
  · obtain ⟨b, off, e, _⟩ := key h0
    rw [h] at e
    cases e
end Go.Proofs.Ytfijaafkagcmmaa
