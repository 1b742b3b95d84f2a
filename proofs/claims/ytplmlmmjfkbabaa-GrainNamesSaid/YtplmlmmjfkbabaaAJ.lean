/- Slices are appended, each to a row of one's own: within a chain of a drawn region. Condition: what is appended has room. -/
import Derived.Test.YtplmlmmjfkbabaaADJ
namespace Go.Proofs.Ytplmlmmjfkbabaa
open Go.RowKit Go.Shelf
attribute [local irreducible] arrV wpQuiet mat shl

theorem exec_append {P : Program} {a : Act} {o : Oper} {w w' : World} {t u : TypeId} {v x y : Value} (s z : Operand) (ho : o.op = .call { callee := .builtin .append, args := #[s, z], argTypes := #[t, u] }) (hs : a.eval s = v) (hz : a.eval z = x)
    (hr : (Builtin.append_ #[t, u] o.type #[v, x]).run P w = .ok y w') : (execOp a.eval o).run P w = .ok (.value y) w' := by
  simp [execOp, ho, resolve, invoke, builtin, hs, hz, hr, Result.andThen]

/-- What is one's own behind a step. -/
def Mine (Own : Nat → Prop) (w1 w2 : World) : Nat → Prop := fun k => Own k ∨ (w1.heap.size ≤ k ∧ k < w2.heap.size)

set_option maxRecDepth 100000 in
theorem act_app2 {t e : TypeId} {sz bytes : Nat} (hE : ElemOk t e sz bytes) (base n : Nat) (v : Value) (ys : List Value) (ad : Option Addr) (m cap : Nat) (xs : List Value) (W : World) (Own : Nat → Prop) (ty : TypeId)
    (hn : n + m ≤ maxLen) (hB : (n + m) * bytes ≤ 140737488355328) (hown : W.ownsRow base e sz v n ys) (hb : base ≤ W.heap.size) (hl : xs.length = m * sz) (h0 : ad = none → m = 0)
    (hc : 0 < m → ∃ b off, ad = some ⟨b, off, none⟩ ∧ ∀ j u, xs[j]? = some u → W.cell? ⟨b, off + j, none⟩ = some u) (h1 : ∀ u ∈ xs, u.oneCell' = true)
    (hv : ∀ k, v.ownBlock = some k → Own k) (hO : ∀ k, Own k → k < W.heap.size) :
    ∃ v' w', (Builtin.append_ #[t, t] ty #[v, .slice ad m cap]).run Try.prog W = .ok v' w' ∧ w'.ownsRow base e sz v' (n + m) (ys ++ xs) ∧ Below base W w' ∧ Kept Own (Mine Own W w') W w' ∧ (∀ k, v'.ownBlock = some k → Mine Own W w' k) ∧ W.grownBy w' v.ownBlock := by
  obtain ⟨i, z, hi, hz, hsz, hby, hzs⟩ := hE.i
  have key : ∃ v' w', (Builtin.append_ #[t, t] ty #[v, .slice ad m cap]).run Try.prog W = .ok v' w' ∧ w'.ownsRow base e sz v' (n + m) (ys ++ xs) ∧ W.grownBy w' v.ownBlock ∧ (v'.ownBlock = v.ownBlock ∨ v'.ownBlock = some W.heap.size) := by
    cases ad with
    | none =>
      obtain rfl := h0 rfl
      obtain rfl := List.eq_nil_of_length_eq_zero (by simpa using hl)
      refine ⟨v, W, ?_, by simpa using hown, ⟨rfl, rfl, rfl, Nat.le_refl _, fun _ _ _ => rfl⟩, .inl rfl⟩
      rcases hown.2 with ⟨rfl, rfl⟩ | ⟨g, c, cur, rfl, _, _, hnc, _⟩
      · simp [Builtin.append_, run_underlying hE.u, sizeOf, typeInfo, hi, Builtin.lenOf, run_firstCells_none, storeCells, Result.andThen]
      · simp [Builtin.append_, run_underlying hE.u, sizeOf, typeInfo, hi, Builtin.lenOf, hnc, run_firstCells_none, storeCells, Result.andThen]
    | some p =>
      obtain ⟨v', w', hr, h2, h3, _, h5⟩ := run_append_own_at (P := Try.prog) W base t ty e i z sz bytes hE.u hi hz hsz hby hzs hE.pos v n ys hown p m cap xs hl
        (fun j u hj => by
          have hm : 0 < m := by
            rcases Nat.eq_zero_or_pos m with h | h
            · subst h
              obtain rfl := List.eq_nil_of_length_eq_zero (by simpa using hl)
              simp at hj
            · exact h
          obtain ⟨b, off, e, hcc⟩ := hc hm
          cases e
          rw [Addr.add_lit]
          exact hcc j u hj) h1 hn hB hb
      exact ⟨v', w', hr, h2, h3, h5⟩
  obtain ⟨v', w', hr, h2, h3, h5⟩ := key
  have hbase : ∀ k, v.ownBlock = some k → base ≤ k := fun k hk => (own_lt hown hk).1
  refine ⟨v', w', hr, h2, ⟨h3.os, h3.tape, h3.output, h3.size, fun k hk => h3.block k (by omega) (fun e => by have := hbase k e.symm; omega)⟩, ⟨h3.size, fun k hk hne => h3.block k hk (fun e => hne (.inl (hv k e.symm))), fun k hk => ?_⟩, fun k hk => ?_, h3⟩
  · rcases hk with h | ⟨h, h'⟩
    · exact ⟨.inl h, Nat.lt_of_lt_of_le (hO k h) h3.size⟩
    · exact ⟨.inr h, h'⟩
  · rcases h5 with h5 | h5
    · exact .inl (hv k (by rw [← h5]; exact hk))
    · rw [h5] at hk
      cases hk
      exact .inr ⟨Nat.le_refl _, (own_lt h2 h5).2⟩

/-- An empty slice of one's own. -/
theorem act_empty (e : TypeId) (sz base : Nat) (W : World) (hb : base ≤ W.heap.size) : (W.alloc (.cells #[] e (0, 0))).ownsRow base e sz (.slice (some ⟨W.heap.size, 0, none⟩) 0 0) 0 [] :=
  ⟨by simp, .inr ⟨W.heap.size, 0, #[], rfl, hb, heap_alloc_new W _, Nat.le_refl _, Nat.zero_le _, by simp, by simp⟩⟩
theorem kept_alloc (Own : Nat → Prop) (W : World) (o : Obj) (hO : ∀ k, Own k → k < W.heap.size) : Kept Own (Mine Own W (W.alloc o)) W (W.alloc o) :=
  ⟨by simp, fun k hk _ => (box_below W o).block k hk, fun k hk => by
    rcases hk with h | ⟨h, h'⟩
    · exact ⟨.inl h, Nat.lt_of_lt_of_le (hO k h) (by simp)⟩
    · exact ⟨.inr h, h'⟩⟩
theorem row_kept {w w' : World} {base e sz n : Nat} {v : Value} {xs : List Value} (h : w.ownsRow base e sz v n xs) (hb : Below w.heap.size w w') : w'.ownsRow base e sz v n xs := own_same h fun k _ hk => hb.block k hk
theorem mine_empty (W : World) (o : Obj) (k : Nat) (h : (Value.slice (some ⟨W.heap.size, 0, none⟩) 0 0).ownBlock = some k) : Mine (fun _ => False) W (W.alloc o) k := by
  simp [Value.ownBlock] at h
  subst h
  exact .inr ⟨Nat.le_refl _, by simp⟩
theorem exec_store_one {a : Act} {o : Oper} {W : World} (ty : TypeId) (x y : Operand) (ho : o.op = .store ty x y) {b off : Nat} {ad : Option Addr} {n c : Nat} {u : Value} (hx : a.eval x = .pointer (some ⟨b, off, none⟩)) (hy : a.eval y = .slice ad n c)
    (hc : W.cell? ⟨b, off, none⟩ = some u) (hf : W.frozen? ⟨b, off, none⟩ = false) (hi : (Try.prog.info? ty).map (·.size) = some 1) :
    (execOp a.eval o).run Try.prog W = .ok .skip (W.setCell ⟨b, off, none⟩ (.slice ad n c)) := by
  have hs := run_storeCells_cells (P := Try.prog) b off [.slice ad n c] 0 W (fun j hj => by
    obtain rfl : j = 0 := by simp at hj; exact hj
    simpa using by rw [hc]; rfl) (fun j hj => by
    obtain rfl : j = 0 := by simp at hj; exact hj
    simpa using hf) (fun v hv => by
    simp at hv
    subst hv
    rfl)
  simp only [Nat.add_zero] at hs
  cases hq : Try.prog.info? ty with
  | none => simp [hq] at hi
  | some i =>
    have h1 : i.size = 1 := by simpa [hq] using hi
    unfold execOp
    simp [ho, hx, hy, Instr.storeAt, Instr.sureAddr, storeVar, sizeOf, typeInfo, hq, Value.cells, h1, hs, Result.andThen, World.setCells]
theorem cms_cells {n : Nat} {w : World} {ad : Option Addr} {cap : Nat} {cs : List Cm} (h : CmsV n w (.slice ad cs.length cap) cs) :
    (ad = none → cs.length = 0) ∧ (0 < cs.length → ∃ b off, ad = some ⟨b, off, none⟩ ∧ ∀ j u, (flatC cs)[j]? = some u → w.cell? ⟨b, off + j, none⟩ = some u) := by
  obtain ⟨a', c', e, hp⟩ := h
  cases e
  refine ⟨fun hn => ?_, fun h0 => ?_⟩
  · rcases Nat.eq_zero_or_pos cs.length with h0 | h0
    · exact h0
    · obtain ⟨b, off, e, -⟩ := hp h0
      rw [hn] at e
      cases e
  · obtain ⟨b, off, e, hb, hc⟩ := hp h0
    refine ⟨b, off, e, fun j u hj => ?_⟩
    have hlen : (flatC cs).length = cs.length * 4 := by
      clear hp h0 hc hj
      induction cs with
      | nil => rfl
      | cons a l ih => simp only [flatC, List.flatMap_cons, List.length_append, List.length_cons, List.length_nil] at ih ⊢; omega
    have hj2 : j < cs.length * 4 := by
      rw [← hlen]
      exact (List.getElem?_eq_some_iff.1 hj).1
    obtain ⟨h1, h2, h3, h4⟩ := hc (j / 4) (by omega)
    obtain ⟨k1, k2, k3, k4⟩ := flatC_get cs (j / 4) (by omega)
    have h5 : j % 4 = 0 ∨ j % 4 = 1 ∨ j % 4 = 2 ∨ j % 4 = 3 := by omega
    rcases h5 with h5 | h5 | h5 | h5
    · have ej : j / 4 * 4 = j := by omega
      rw [ej] at h1 k1
      rw [hj] at k1
      cases k1
      exact h1
    · have ej : j / 4 * 4 + 1 = j := by omega
      rw [Nat.add_assoc, ej] at h2
      rw [ej, hj] at k2
      cases k2
      exact h2
    · have ej : j / 4 * 4 + 2 = j := by omega
      rw [Nat.add_assoc, ej] at h3
      rw [ej, hj] at k3
      cases k3
      exact h3
    · have ej : j / 4 * 4 + 3 = j := by omega
      rw [Nat.add_assoc, ej] at h4
      rw [ej, hj] at k4
      cases k4
      exact h4
theorem flatC_len (l : List Cm) : (flatC l).length = l.length * 4 := by
  induction l with
  | nil => rfl
  | cons a l ih => simp only [flatC, List.flatMap_cons, List.length_append, List.length_cons, List.length_nil] at ih ⊢; omega
theorem flatC_one {l : List Cm} : ∀ u ∈ flatC l, u.oneCell' = true := by
  intro u hu
  simp only [flatC, List.mem_flatMap] at hu
  obtain ⟨c, -, hc⟩ := hu
  simp at hc
  rcases hc with rfl | rfl | rfl | rfl <;> rfl
end Go.Proofs.Ytplmlmmjfkbabaa
