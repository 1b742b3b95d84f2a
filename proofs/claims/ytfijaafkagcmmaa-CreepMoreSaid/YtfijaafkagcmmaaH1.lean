/- Runs that are copied, one more behind them, and another range seen: plain facts for CreepMore. No condition but the room of a machine. -/
import Derived.Test.YtfijaafkagcmmaaF6
namespace Go.Proofs.Ytfijaafkagcmmaa
open Go.RowKit Go.Shelf
attribute [local irreducible] arrV wpQuiet

set_option maxRecDepth 100000 in
theorem act_app2 {t e : TypeId} {sz bytes : Nat} (hE : ElemOk t e sz bytes) (base n : Nat) (v : Value) (ys : List Value) (ad : Option Addr) (m cap : Nat) (xs : List Value) (W : World) (Own : Nat → Prop) (ty : TypeId)
    (hn : n + m ≤ maxLen) (hB : (n + m) * bytes ≤ 140737488355328) (hown : W.ownsRow base e sz v n ys) (hb : base ≤ W.heap.size) (hl : xs.length = m * sz) (h0 : ad = none → m = 0)
    (hc : 0 < m → ∃ b off, ad = some ⟨b, off, none⟩ ∧ ∀ j u, xs[j]? = some u → W.cell? ⟨b, off + j, none⟩ = some u) (h1 : ∀ u ∈ xs, u.oneCell' = true)
    (hv : ∀ k, v.ownBlock = some k → Own k) (hO : ∀ k, Own k → k < W.heap.size) :
    ∃ v' w', (Builtin.append_ #[t, t] ty #[v, .slice ad m cap]).run Try.prog W = .ok v' w' ∧ w'.ownsRow base e sz v' (n + m) (ys ++ xs) ∧ Below base W w' ∧ Kept Own (Mine Own W w') W w' ∧ (∀ k, v'.ownBlock = some k → Mine Own W w' k) ∧ W.grownBy w' v.ownBlock := by
  obtain ⟨i, z, hi, hz, hsz, hby, hzs⟩ := hE.i
  have key : ∃ v' w', (Builtin.append_ #[t, t] ty #[v, .slice ad m cap]).run Try.prog W = .ok v' w' ∧ w'.ownsRow base e sz v' (n + m) (ys ++ xs) ∧ W.grownBy w' v.ownBlock ∧ (v'.ownBlock = v.ownBlock ∨ v'.ownBlock = some W.heap.size) := by
    cases ad with
    | none =>
      obtain rfl := h0 rfl
      obtain rfl := List.eq_nil_of_length_eq_zero (by simpa using hl)
      refine ⟨v, W, ?_, by simpa using hown, ⟨rfl, rfl, rfl, Nat.le_refl _, fun _ _ _ => rfl⟩, .inl rfl⟩
      rcases hown.2 with ⟨rfl, rfl⟩ | ⟨g, c, cur, rfl, _, _, hnc, _⟩
      · simp [Builtin.append_, run_underlying hE.u, sizeOf, typeInfo, hi, Builtin.lenOf, run_firstCells_none, storeCells, Result.andThen]
      · simp [Builtin.append_, run_underlying hE.u, sizeOf, typeInfo, hi, Builtin.lenOf, hnc, run_firstCells_none, storeCells, Result.andThen]
    | some p =>
      obtain ⟨v', w', hr, h2, h3, _, h5⟩ := run_append_own_at (P := Try.prog) W base t ty e i z sz bytes hE.u hi hz hsz hby hzs hE.pos v n ys hown p m cap xs hl
        (fun j u hj => by
          have hm : 0 < m := by
            rcases Nat.eq_zero_or_pos m with h | h
            · subst h
              obtain rfl := List.eq_nil_of_length_eq_zero (by simpa using hl)
              simp at hj
            · exact h
          obtain ⟨b, off, e, hcc⟩ := hc hm
          cases e
          rw [Addr.add_lit]
          exact hcc j u hj) h1 hn hB hb
      exact ⟨v', w', hr, h2, h3, h5⟩
  obtain ⟨v', w', hr, h2, h3, h5⟩ := key
  have hbase : ∀ k, v.ownBlock = some k → base ≤ k := fun k hk => (own_lt hown hk).1
  refine ⟨v', w', hr, h2, ⟨h3.os, h3.tape, h3.output, h3.size, fun k hk => h3.block k (by omega) (fun e => by have := hbase k e.symm; omega)⟩, ⟨h3.size, fun k hk hne => h3.block k hk (fun e => hne (.inl (hv k e.symm))), fun k hk => ?_⟩, fun k hk => ?_, h3⟩
  · rcases hk with h | ⟨h, h'⟩
    · exact ⟨.inl h, Nat.lt_of_lt_of_le (hO k h) h3.size⟩
    · exact ⟨.inr h, h'⟩
  · rcases h5 with h5 | h5
    · exact .inl (hv k (by rw [← h5]; exact hk))
    · rw [h5] at hk
      cases hk
      exact .inr ⟨Nat.le_refl _, (own_lt h2 h5).2⟩

theorem RunX.snoc {m : Nat} {w : World} {rs : List Rn} {xs : List Value} {r : Rn} {sv : Value} (h : RunX m w rs xs) (hs : SegsV m w sv r.ss) : RunX m w (rs ++ [r]) (xs ++ [sv, .int .i64 r.seen.lo, .int .i64 r.seen.hi]) := by
  obtain ⟨h1, h2⟩ := h
  refine ⟨by simp [h1]; omega, fun i hi => ?_⟩
  simp only [List.length_append, List.length_cons, List.length_nil] at hi
  by_cases e : i < rs.length
  · obtain ⟨sv', a0, a1, a2, a3⟩ := h2 i e
    have er : rn (rs ++ [r]) i = rn rs i := by simp [rn, List.getElem?_append_left e]
    rw [er]
    refine ⟨sv', ?_, ?_, ?_, a3⟩
    · rw [List.getElem?_append_left (by omega)]; exact a0
    · rw [List.getElem?_append_left (by omega)]; exact a1
    · rw [List.getElem?_append_left (by omega)]; exact a2
  · obtain rfl : i = rs.length := by omega
    have er : rn (rs ++ [r]) rs.length = r := by simp [rn]
    rw [er]
    refine ⟨sv, ?_, ?_, ?_, hs⟩
    · rw [List.getElem?_append_right (by omega), h1]; simp
    · rw [List.getElem?_append_right (by omega), h1, show rs.length * 3 + 1 - rs.length * 3 = 1 by omega]; rfl
    · rw [List.getElem?_append_right (by omega), h1, show rs.length * 3 + 2 - rs.length * 3 = 2 by omega]; rfl
/-- The cells of a slice of runs, which may be empty. -/
theorem runs_cells0 {n : Nat} {w : World} {ad : Option Addr} {cap : Nat} {rs : List Rn} (h : RunsV n w (.slice ad rs.length cap) rs) :
    ∃ xs, RunX n w rs xs ∧ (ad = none → rs.length = 0) ∧ (0 < rs.length → ∃ b off, ad = some ⟨b, off, none⟩ ∧ ∀ j u, xs[j]? = some u → w.cell? ⟨b, off + j, none⟩ = some u) ∧ (∀ u ∈ xs, u.oneCell' = true) := by
  rcases Nat.eq_zero_or_pos rs.length with h0 | h0
  · exact ⟨[], ⟨by simp [h0], fun i hi => by omega⟩, fun _ => h0, fun hp => by omega, fun u hu => by simp at hu⟩
  · have h' := h
    obtain ⟨a', c', e, hp⟩ := h
    cases e
    obtain ⟨b, off, rfl, hb, hc⟩ := hp h0
    obtain ⟨xs, h1, h2, h3, h4⟩ := runs_cells h0 h'
    exact ⟨xs, h1, (fun e => by cases e), fun _ => ⟨b, off, rfl, h2⟩, h3⟩
/-- Another range seen. -/
theorem RowR.set_seen {m g n : Nat} {rs : List Rn} {A : World} (h : RowR m g n rs A) (hmg : m ≤ g) {j : Nat} (hj : j < n) (lo hi : Int) (cx : Nat) :
    RunsV A.heap.size ((A.setCell ⟨g, j * 3 + 1, none⟩ (.int .i64 lo)).setCell ⟨g, j * 3 + 2, none⟩ (.int .i64 hi)) (.slice (some ⟨g, 0, none⟩) n cx) (rs.set j ⟨(rn rs j).ss, ⟨lo, hi⟩⟩) := by
  obtain ⟨cur, h1, h2⟩ := h.row
  have hlt := h.here
  have hlen := h.len
  have hn1 := heap_setCell_same A g (j * 3 + 1) cur 90 (.int .i64 lo) h1
  have hn2 := heap_setCell_same _ g (j * 3 + 2) _ 90 (.int .i64 hi) hn1
  have hsame : ∀ k, k ≠ g → ((A.setCell ⟨g, j * 3 + 1, none⟩ (.int .i64 lo)).setCell ⟨g, j * 3 + 2, none⟩ (.int .i64 hi)).heap[k]? = A.heap[k]? := fun k hk =>
    (heap_setCell_other _ ⟨g, j * 3 + 2, none⟩ k _ hk).trans (heap_setCell_other A ⟨g, j * 3 + 1, none⟩ k _ hk)
  refine ⟨_, cx, by simp [hlen], fun _ => ⟨g, 0, rfl, hlt, fun i hil => ?_⟩⟩
  rw [Nat.zero_add]
  have hi' : i < n := by simpa [hlen] using hil
  have key : ∀ o, o < n * 3 → ((A.setCell ⟨g, j * 3 + 1, none⟩ (.int .i64 lo)).setCell ⟨g, j * 3 + 2, none⟩ (.int .i64 hi)).cell? ⟨g, o, none⟩ = if j * 3 + 2 = o then some (.int .i64 hi) else if j * 3 + 1 = o then some (.int .i64 lo) else A.cell? ⟨g, o, none⟩ := fun o ho => by
    rw [cell_of_row _ g o _ _ _ hn2, cell_of_row A g o _ _ _ h1, Array.getElem?_setIfInBounds, Array.getElem?_setIfInBounds]
    by_cases e2 : j * 3 + 2 = o
    · rw [if_pos e2, if_pos e2, if_pos (by simp; omega)]
    · rw [if_neg e2, if_neg e2]
      by_cases e1 : j * 3 + 1 = o
      · rw [if_pos e1, if_pos e1, if_pos (by omega)]
      · rw [if_neg e1, if_neg e1]
  have k0 := key (i * 3) (by omega)
  have k1 := key (i * 3 + 1) (by omega)
  have k2 := key (i * 3 + 2) (by omega)
  obtain ⟨sv, c0, c1, c2, c3⟩ := h.runs i hi'
  rw [if_neg (by omega), if_neg (by omega)] at k0
  rw [if_neg (by omega)] at k1
  by_cases e : i = j
  · subst e
    rw [if_pos rfl] at k1 k2
    rw [rn_set_same _ (by omega)]
    exact ⟨sv, k0.trans c0, k1, k2, (c3.same fun k hk => hsame k (by omega)).up h.lt⟩
  · rw [if_neg (by omega)] at k1
    rw [if_neg (by omega), if_neg (by omega)] at k2
    rw [rn_set_other _ e]
    exact ⟨sv, k0.trans c0, k1.trans c1, k2.trans c2, (c3.same fun k hk => hsame k (by omega)).up h.lt⟩
theorem set_last (rs : List Rn) (r r' : Rn) : (rs ++ [r]).set rs.length r' = rs ++ [r'] := by
  induction rs with
  | nil => rfl
  | cons a rs ih => simp [ih]
theorem rn_last (rs : List Rn) (r : Rn) : rn (rs ++ [r]) rs.length = r := by simp [rn]

section
open Go.ChangeShapes Go.WideShapes Go.ChangeAt Go.Deep
set_option maxRecDepth 100000
variable {H : Type} {enc : TypeId × Value → H} {w : World} {base fuel : Nat} {spare : Nat → Bool} {held : Bool}
theorem open_run {r : Reach} {b0 : Nat} {v : Value} {d : DataW H} {p : List MemPlace} (hv : Value.okWide Try.prog w r b0 90 v) (h : DataW.Trod enc Try.prog w base spare held 90 v d p) :
    ∃ (sv : Value) (x : Rn), v = .agg #[sv, .int .i64 x.seen.lo, .int .i64 x.seen.hi] ∧ SegsV w.heap.size w sv x.ss := by
  obtain ⟨cs, rfl, hsz⟩ := okWide_struct Try.underlying90 hv
  obtain ⟨l⟩ := cs
  obtain ⟨fuel, hf⟩ := h
  obtain ⟨sv, lo, hi, ss, e, hs⟩ := run_cells hf
  have e' : l = [sv, .int .i64 lo, .int .i64 hi] := e
  subst e'
  exact ⟨sv, ⟨ss, ⟨lo, hi⟩⟩, rfl, hs⟩
end
end Go.Proofs.Ytfijaafkagcmmaa
