/- Runs that are copied: for CreepMore and CreepCut. Condition: a thousand runs at most. -/
import Derived.Test.YtfijaafkagcmmaaE7J
namespace Go.Proofs.Ytfijaafkagcmmaa
open Go.RowKit Go.Shelf
attribute [local irreducible] arrV wpQuiet

theorem el25 : ElemOk 25 90 3 40 := ⟨by kernel_rfl, elem_info 90 3 40 (by kernel_rfl) (by kernel_rfl) (by kernel_rfl), by decide, by decide⟩

set_option maxRecDepth 100000 in
/-- All elements of a slice, behind a row of one's own. -/
theorem app_all {t e : TypeId} {sz bytes : Nat} (hE : ElemOk t e sz bytes) (base n ty : Nat) (v : Value) (ys : List Value) (b off m cap : Nat) (xs : List Value) (W : World) (hm : 0 < m) (hn : n + m ≤ 1000) (hown : W.ownsRow base e sz v n ys) (hb : base ≤ W.heap.size)
    (hl : xs.length = m * sz) (hc : ∀ j u, xs[j]? = some u → W.cell? ⟨b, off + j, none⟩ = some u) (h1 : ∀ u ∈ xs, u.oneCell' = true) :
    ∃ g c w', (Builtin.append_ #[t, t] ty #[v, .slice (some ⟨b, off, none⟩) m cap]).run Try.prog W = .ok (.slice (some ⟨g, 0, none⟩) (n + m) c) w' ∧ w'.ownsRow base e sz (.slice (some ⟨g, 0, none⟩) (n + m) c) (n + m) (ys ++ xs) ∧
      Below base W w' ∧ (∀ k, k < W.heap.size → v.ownBlock ≠ some k → w'.heap[k]? = W.heap[k]?) ∧ (v.ownBlock = some g ∨ g = W.heap.size) := by
  obtain ⟨i, z, hi, hz, hs, hby, hzs⟩ := hE.i
  have hsm := hE.small
  obtain ⟨g, c, w', hrun, h2, h3, h4, h5⟩ := run_append_lies (P := Try.prog) W t ty base e i z sz bytes hE.u hi hz hs hby hzs hE.pos v n ys hown ⟨b, off, none⟩ m cap xs hl
    (fun j u hj => by rw [Addr.add_lit]; exact hc j u hj) h1 hm (by simp [maxLen]; omega) (by
      have : (n + m) * bytes ≤ 1000 * 100 := Nat.mul_le_mul hn hsm
      omega) hb W.heap.size rfl
  refine ⟨g, c, w', hrun, h2, ⟨h3.os, h3.tape, h3.output, h3.size, fun k hk => h3.block k (by omega) (fun e => ?_)⟩, fun k hk hne => h3.block k hk (fun e => hne e.symm), h4⟩
  have := (own_lt hown e.symm).1
  omega

/-- The cells of runs, whose segments lie where they lie. -/
def RunX (m : Nat) (w : World) (rs : List Rn) (xs : List Value) : Prop :=
  xs.length = rs.length * 3 ∧ ∀ i, i < rs.length → ∃ sv, xs[i * 3]? = some sv ∧ xs[i * 3 + 1]? = some (.int .i64 (rn rs i).seen.lo) ∧ xs[i * 3 + 2]? = some (.int .i64 (rn rs i).seen.hi) ∧ SegsV m w sv (rn rs i).ss
theorem RunX.same {m : Nat} {w w' : World} {rs : List Rn} {xs : List Value} (h : RunX m w rs xs) (hs : Same m w w') : RunX m w' rs xs :=
  ⟨h.1, fun i hi => by
    obtain ⟨sv, h1, h2, h3, h4⟩ := h.2 i hi
    exact ⟨sv, h1, h2, h3, h4.same hs⟩⟩
theorem RunX.runs {m base : Nat} {w : World} {rs : List Rn} {xs : List Value} {v : Value} (h : RunX m w rs xs) (hm : m ≤ w.heap.size) (ho : w.ownsRow base 90 3 v rs.length xs) : RunsV w.heap.size w v rs := by
  cases Nat.eq_zero_or_pos rs.length with
  | inl h0 =>
    rw [h0] at ho
    obtain ⟨a, cap, rfl⟩ := own_nil ho
    exact ⟨a, cap, by rw [h0], fun hp => by omega⟩
  | inr h0 =>
    obtain ⟨g, cap, rfl, hb, hg, hc⟩ := own_get ho h0
    refine ⟨_, cap, rfl, fun _ => ⟨g, 0, rfl, hg, fun i hi => ?_⟩⟩
    obtain ⟨sv, f1, f2, f3, f4⟩ := h.2 i hi
    rw [Nat.zero_add]
    exact ⟨sv, (hc _ (by omega)).trans f1, (hc _ (by omega)).trans f2, (hc _ (by omega)).trans f3, f4.up hm⟩
/-- The cells of a slice of runs. -/
theorem runs_cells {n : Nat} {w : World} {b off cap : Nat} {rs : List Rn} (h0 : 0 < rs.length) (h : RunsV n w (.slice (some ⟨b, off, none⟩) rs.length cap) rs) :
    ∃ xs, RunX n w rs xs ∧ (∀ j u, xs[j]? = some u → w.cell? ⟨b, off + j, none⟩ = some u) ∧ (∀ u ∈ xs, u.oneCell' = true) ∧ b < n := by
  obtain ⟨a', cap', e, hp⟩ := h
  cases e
  obtain ⟨b', off', e, hbn, hc⟩ := hp h0
  cases e
  have hsv : ∀ i, i < rs.length → ∃ u0 u1 u2, w.cell? ⟨b, off + i * 3, none⟩ = some u0 ∧ w.cell? ⟨b, off + i * 3 + 1, none⟩ = some u1 ∧ w.cell? ⟨b, off + i * 3 + 2, none⟩ = some u2 ∧ u0.oneCell' = true ∧ u1.oneCell' = true ∧ u2.oneCell' = true := fun i hi => by
    obtain ⟨sv, h1, h2, h3, h4⟩ := hc i hi
    obtain ⟨sa, cs, rfl, -⟩ := h4
    exact ⟨_, _, _, h1, h2, h3, rfl, rfl, rfl⟩
  have key : ∀ j, j < rs.length * 3 → ∃ u, w.cell? ⟨b, off + j, none⟩ = some u ∧ u.oneCell' = true := fun j hj => by
    obtain ⟨i, r, hr, rfl⟩ : ∃ i r, r < 3 ∧ j = i * 3 + r := ⟨j / 3, j % 3, Nat.mod_lt _ (by decide), by omega⟩
    obtain ⟨u0, u1, u2, a0, a1, a2, o0, o1, o2⟩ := hsv i (by omega)
    rcases (by omega : r = 0 ∨ r = 1 ∨ r = 2) with rfl | rfl | rfl
    · exact ⟨u0, a0, o0⟩
    · exact ⟨u1, by rw [← Nat.add_assoc]; exact a1, o1⟩
    · exact ⟨u2, by rw [← Nat.add_assoc]; exact a2, o2⟩
  refine ⟨(List.range (rs.length * 3)).map fun j => (w.cell? ⟨b, off + j, none⟩).getD (.int .i64 0), ?_, fun j u hj => ?_, fun u hu => ?_, hbn⟩
  · have hget : ∀ j u, j < rs.length * 3 → w.cell? ⟨b, off + j, none⟩ = some u → ((List.range (rs.length * 3)).map fun j => (w.cell? ⟨b, off + j, none⟩).getD (.int .i64 0))[j]? = some u := fun j u hj hu => by
      simp [hj, hu]
    refine ⟨by simp, fun i hi => ?_⟩
    obtain ⟨sv, h1, h2, h3, h4⟩ := hc i hi
    exact ⟨sv, hget _ _ (by omega) h1, hget _ _ (by omega) (by rw [← Nat.add_assoc]; exact h2), hget _ _ (by omega) (by rw [← Nat.add_assoc]; exact h3), h4⟩
  · have hjl : j < rs.length * 3 := by
      have := (List.getElem?_eq_some_iff.1 hj).1
      simpa using this
    obtain ⟨u', hu', -⟩ := key j hjl
    simp [hjl, hu'] at hj
    rw [← hj]
    exact hu'
  · obtain ⟨j, hj, rfl⟩ := List.mem_map.1 hu
    obtain ⟨u', hu', ho⟩ := key j (by simpa using hj)
    rw [hu']
    exact ho
end Go.Proofs.Ytfijaafkagcmmaa
