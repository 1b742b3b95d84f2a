/- A slice is appended to a row of one's own, which may be empty: within a chain of a drawn region. Condition: a thousand elements at most. -/
import Derived.Test.YtfijaafkagcmmaaF3
namespace Go.Proofs.Ytfijaafkagcmmaa
open Go.RowKit Go.Shelf
attribute [local irreducible] arrV wpQuiet

theorem exec_append {P : Program} {a : Act} {o : Oper} {w w' : World} {t u : TypeId} {v x y : Value} (s z : Operand) (ho : o.op = .call { callee := .builtin .append, args := #[s, z], argTypes := #[t, u] }) (hs : a.eval s = v) (hz : a.eval z = x)
    (hr : (Builtin.append_ #[t, u] o.type #[v, x]).run P w = .ok y w') : (execOp a.eval o).run P w = .ok (.value y) w' := by
  simp [execOp, ho, resolve, invoke, builtin, hs, hz, hr, Result.andThen]

/-- What is one's own behind a step. -/
def Mine (Own : Nat → Prop) (w1 w2 : World) : Nat → Prop := fun k => Own k ∨ (w1.heap.size ≤ k ∧ k < w2.heap.size)

set_option maxRecDepth 100000 in
theorem act_app {t e : TypeId} {sz bytes : Nat} (hE : ElemOk t e sz bytes) (base n : Nat) (v : Value) (ys : List Value) (ad : Option Addr) (m cap : Nat) (xs : List Value) (W : World) (Own : Nat → Prop) (ty : TypeId)
    (hn : n + m ≤ 1000) (hown : W.ownsRow base e sz v n ys) (hb : base ≤ W.heap.size) (hl : xs.length = m * sz) (h0 : ad = none → m = 0)
    (hc : 0 < m → ∃ b off, ad = some ⟨b, off, none⟩ ∧ ∀ j u, xs[j]? = some u → W.cell? ⟨b, off + j, none⟩ = some u) (h1 : ∀ u ∈ xs, u.oneCell' = true)
    (hv : ∀ k, v.ownBlock = some k → Own k) (hO : ∀ k, Own k → k < W.heap.size) :
    ∃ v' w', (Builtin.append_ #[t, t] ty #[v, .slice ad m cap]).run Try.prog W = .ok v' w' ∧ w'.ownsRow base e sz v' (n + m) (ys ++ xs) ∧ Below base W w' ∧ Kept Own (Mine Own W w') W w' ∧ (∀ k, v'.ownBlock = some k → Mine Own W w' k) ∧ W.grownBy w' v.ownBlock := by
  obtain ⟨i, z, hi, hz, hsz, hby, hzs⟩ := hE.i
  have hsm := hE.small
  have key : ∃ v' w', (Builtin.append_ #[t, t] ty #[v, .slice ad m cap]).run Try.prog W = .ok v' w' ∧ w'.ownsRow base e sz v' (n + m) (ys ++ xs) ∧ W.grownBy w' v.ownBlock ∧ (v'.ownBlock = v.ownBlock ∨ v'.ownBlock = some W.heap.size) := by
    cases ad with
    | none =>
      obtain rfl := h0 rfl
      obtain rfl := List.eq_nil_of_length_eq_zero (by simpa using hl)
      refine ⟨v, W, ?_, by simpa using hown, ⟨rfl, rfl, rfl, Nat.le_refl _, fun _ _ _ => rfl⟩, .inl rfl⟩
      rcases hown.2 with ⟨rfl, rfl⟩ | ⟨g, c, cur, rfl, _, _, hnc, _⟩
      · simp [Builtin.append_, run_underlying hE.u, sizeOf, typeInfo, hi, Builtin.lenOf, run_firstCells_none, storeCells, Result.andThen]
      · simp [Builtin.append_, run_underlying hE.u, sizeOf, typeInfo, hi, Builtin.lenOf, hnc, run_firstCells_none, storeCells, Result.andThen]
    | some p =>
      obtain ⟨v', w', hr, h2, h3, _, h5⟩ := run_append_own_at (P := Try.prog) W base t ty e i z sz bytes hE.u hi hz hsz hby hzs hE.pos v n ys hown p m cap xs hl
        (fun j u hj => by
          have hm : 0 < m := by
            rcases Nat.eq_zero_or_pos m with h | h
            · subst h
              obtain rfl := List.eq_nil_of_length_eq_zero (by simpa using hl)
              simp at hj
            · exact h
          obtain ⟨b, off, e, hcc⟩ := hc hm
          cases e
          rw [Addr.add_lit]
          exact hcc j u hj) h1 (by simp [maxLen]; omega) (by
          have : (n + m) * bytes ≤ 1000 * 100 := Nat.mul_le_mul hn hsm
          omega) hb
      exact ⟨v', w', hr, h2, h3, h5⟩
  obtain ⟨v', w', hr, h2, h3, h5⟩ := key
  have hbase : ∀ k, v.ownBlock = some k → base ≤ k := fun k hk => (own_lt hown hk).1
  refine ⟨v', w', hr, h2, ⟨h3.os, h3.tape, h3.output, h3.size, fun k hk => h3.block k (by omega) (fun e => by have := hbase k e.symm; omega)⟩, ⟨h3.size, fun k hk hne => h3.block k hk (fun e => hne (.inl (hv k e.symm))), fun k hk => ?_⟩, fun k hk => ?_, h3⟩
  · rcases hk with h | ⟨h, h'⟩
    · exact ⟨.inl h, Nat.lt_of_lt_of_le (hO k h) h3.size⟩
    · exact ⟨.inr h, h'⟩
  · rcases h5 with h5 | h5
    · exact .inl (hv k (by rw [← h5]; exact hk))
    · rw [h5] at hk
      cases hk
      exact .inr ⟨Nat.le_refl _, (own_lt h2 h5).2⟩

/-- An empty slice of one's own. -/
theorem act_empty (e : TypeId) (sz base : Nat) (W : World) (hb : base ≤ W.heap.size) : (W.alloc (.cells #[] e (0, 0))).ownsRow base e sz (.slice (some ⟨W.heap.size, 0, none⟩) 0 0) 0 [] :=
  ⟨by simp, .inr ⟨W.heap.size, 0, #[], rfl, hb, heap_alloc_new W _, Nat.le_refl _, Nat.zero_le _, by simp, by simp⟩⟩
theorem kept_alloc (Own : Nat → Prop) (W : World) (o : Obj) (hO : ∀ k, Own k → k < W.heap.size) : Kept Own (Mine Own W (W.alloc o)) W (W.alloc o) :=
  ⟨by simp, fun k hk _ => (box_below W o).block k hk, fun k hk => by
    rcases hk with h | ⟨h, h'⟩
    · exact ⟨.inl h, Nat.lt_of_lt_of_le (hO k h) (by simp)⟩
    · exact ⟨.inr h, h'⟩⟩
/-- A row of one's own, where only what is not its own was turned. -/
theorem row_kept {w w' : World} {base e sz n : Nat} {v : Value} {xs : List Value} (h : w.ownsRow base e sz v n xs) (hb : Below w.heap.size w w') : w'.ownsRow base e sz v n xs :=
  row_same h fun k cur hk => hb.block k (lt_of_block hk)

/-- The cells of a part of a slice of segments. -/
theorem segs_part {n : Nat} {W : World} {b off cap : Nat} {ss : List Sg} {q m : Nat} (hP : SegsV n W (.slice (some ⟨b, off, none⟩) ss.length cap) ss) (h0 : 0 < ss.length) (hq : q + m ≤ ss.length) (j : Nat) (u : Value) (hu : (flatS ((ss.drop q).take m))[j]? = some u) :
    W.cell? ⟨b, off + q * 3 + j, none⟩ = some u := by
  obtain ⟨a', cap', e, hp⟩ := hP
  cases e
  obtain ⟨b', off', e, hbm, hc⟩ := hp h0
  cases e
  refine segs_all (w := W) (b := b) (off := off + q * 3) (ss := (ss.drop q).take m) (fun i hi => ?_) j u hu
  have hi' : i < m := by simp only [List.length_take, List.length_drop] at hi; omega
  have e : sg ((ss.drop q).take m) i = sg ss (q + i) := by
    unfold sg
    rw [List.getElem?_take_of_lt hi', List.getElem?_drop]
  rw [e]
  have := hc (q + i) (by omega)
  rw [Nat.add_mul, ← Nat.add_assoc] at this
  exact this
end Go.Proofs.Ytfijaafkagcmmaa
