/- An element is appended to a slice of one's own: for any type of elements. Condition: less than a thousand elements. -/
import Derived.Test.YtpdkgnfblnblbaaK
import Derived.Test.YtpdkgnfblnblbaaU
import Derived.Laws.AppendOwn
import Derived.Deep.AppendLies
import Derived.Shelf.Abstract
namespace Go.Proofs.Ytpdkgnfblnblbaa
open Go.RowKit Go.Shelf

/-- A slice type, its elements, their cells and bytes. -/
structure ElemOk (t e : TypeId) (sz bytes : Nat) : Prop where
  u : Try.prog.underlying t = some (.slice e)
  i : ∃ i z, Try.prog.info? e = some i ∧ i.zero = some z ∧ i.size = sz ∧ i.bytes = bytes ∧ z.cells.size = sz
  pos : 0 < sz
  small : bytes ≤ 100

theorem elem_info (e : TypeId) (sz bytes : Nat) (h1 : (Try.prog.info? e).map (·.size) = some sz) (h2 : (Try.prog.info? e).map (·.bytes) = some bytes) (h3 : ((Try.prog.info? e).bind (·.zero)).map (·.cells.size) = some sz) :
    ∃ i z, Try.prog.info? e = some i ∧ i.zero = some z ∧ i.size = sz ∧ i.bytes = bytes ∧ z.cells.size = sz := by
  cases h : Try.prog.info? e with
  | none => simp [h] at h1
  | some i =>
    cases hz : i.zero with
    | none => simp [h, hz] at h3
    | some z =>
      simp [h, hz] at h1 h2 h3
      exact ⟨i, z, rfl, hz, h1, h2, h3⟩
theorem el31 : ElemOk 31 46 2 16 := ⟨by kernel_rfl, elem_info 46 2 16 (by kernel_rfl) (by kernel_rfl) (by kernel_rfl), by decide, by decide⟩
theorem el23 : ElemOk 23 3 1 8 := ⟨by kernel_rfl, elem_info 3 1 8 (by kernel_rfl) (by kernel_rfl) (by kernel_rfl), by decide, by decide⟩
theorem el32 : ElemOk 32 60 2 32 := ⟨by kernel_rfl, elem_info 60 2 32 (by kernel_rfl) (by kernel_rfl) (by kernel_rfl), by decide, by decide⟩
theorem el22 : ElemOk 22 44 2 16 := ⟨by kernel_rfl, elem_info 44 2 16 (by kernel_rfl) (by kernel_rfl) (by kernel_rfl), by decide, by decide⟩
theorem el24 : ElemOk 24 70 2 32 := ⟨by kernel_rfl, elem_info 70 2 32 (by kernel_rfl) (by kernel_rfl) (by kernel_rfl), by decide, by decide⟩

/-- Blocks below the base, and all but that of v, are as they were. -/
structure Grew (base : Nat) (W w' : World) (v : Value) : Prop where
  below : Below base W w'
  block : ∀ k, k < W.heap.size → v.ownBlock ≠ some k → w'.heap[k]? = W.heap[k]?
theorem own_lt {W : World} {base : Nat} {e : TypeId} {sz : Nat} {v : Value} {n : Nat} {xs : List Value} (h : W.ownsRow base e sz v n xs) {g : Nat} (hg : v.ownBlock = some g) : base ≤ g ∧ g < W.heap.size := by
  rcases h.2 with ⟨hv, _⟩ | ⟨g', _, _, hv, hbg, hgg, _⟩
  · rw [hv] at hg; simp [Value.ownBlock] at hg
  · rw [hv] at hg
    simp [Value.ownBlock] at hg
    subst hg
    exact ⟨hbg, lt_of_block hgg⟩
theorem app_new {t e : TypeId} {sz bytes : Nat} (hE : ElemOk t e sz bytes) (W : World) (base n ty : Nat) (v : Value) (xs : List Value) (cells : Array Value) (hc : cells.size = sz) (h1 : ∀ u ∈ cells.toList, u.oneCell' = true)
    (hown : W.ownsRow base e sz v n xs) (hb : base ≤ W.heap.size) (hn : n ≤ 1000) :
    ∃ g c w', (Builtin.append_ #[t, t] ty #[v, .slice (some ⟨W.heap.size, 0, none⟩) 1 1]).run Try.prog (W.alloc (.cells cells e (0, 0))) = .ok (.slice (some ⟨g, 0, none⟩) (n + 1) c) w' ∧ w'.ownsRow base e sz (.slice (some ⟨g, 0, none⟩) (n + 1) c) (n + 1) (xs ++ cells.toList) ∧ Grew base W w' v ∧ (v.ownBlock = some g ∨ W.heap.size ≤ g) := by
  obtain ⟨i, z, hi, hz, hs, hby, hzs⟩ := hE.i
  have hg : World.grownBy W (W.alloc (.cells cells e (0, 0))) none := ⟨rfl, rfl, rfl, by simp, fun k hk _ => heap_alloc_low _ _ _ hk⟩
  have hgev : ∀ g, v.ownBlock = some g → base ≤ g := fun g hgv => by
    rcases hown.2 with ⟨hv, _⟩ | ⟨g', _, _, hv, hbg, _, _⟩
    · rw [hv] at hgv; simp [Value.ownBlock] at hgv
    · rw [hv] at hgv
      simp [Value.ownBlock] at hgv
      subst hgv
      exact hbg
  have hown' := hown.kept hg (by cases h : v.ownBlock <;> simp)
  have hsm := hE.small
  obtain ⟨g, c, w', hrun, h2, h3, h4, h5⟩ := run_append_lies (P := Try.prog) (W.alloc (.cells cells e (0, 0))) t ty base e i z sz bytes hE.u hi hz hs hby hzs hE.pos v n xs hown' ⟨W.heap.size, 0, none⟩ 1 1 cells.toList (by simpa using hc)
    (fun j u hj => by
      have := cell_of_row _ W.heap.size j _ _ _ (heap_alloc_new W (.cells cells e (0, 0)))
      rw [Addr.add_lit, Nat.zero_add, this]
      simpa using hj)
    h1 (by decide) (by simp [maxLen]; omega) (by
      have : (n + 1) * bytes ≤ 1001 * 100 := Nat.mul_le_mul (by omega) hsm
      omega) (by simp; omega) (W.heap.size + 1) (by simp)
  refine ⟨g, c, w', hrun, h2, ⟨⟨h3.os, h3.tape, h3.output, Nat.le_trans (by simp) h3.size, fun k hk => (h3.block k (by simp; omega) (fun e => by have := hgev k e.symm; omega)).trans (heap_alloc_low _ _ _ (by omega))⟩, fun k hk hne => ?_⟩, ?_⟩
  · exact (h3.block k (by simp; omega) (fun e => hne e.symm)).trans (heap_alloc_low _ _ _ hk)
  · rcases h4 with h4 | h4
    · exact .inl h4
    · exact .inr (by omega)

theorem exec_app {t e : TypeId} {sz bytes : Nat} (hE : ElemOk t e sz bytes) {a : Act} {o : Oper} {W : World} (s x : Operand) (ho : o.op = .call { callee := .builtin .append, args := #[s, x], argTypes := #[t, t] }) (base n : Nat) (v : Value) (xs : List Value) (cells : Array Value)
    (hc : cells.size = sz) (h1 : ∀ u ∈ cells.toList, u.oneCell' = true)
    (hs : a.eval s = v) (hx : a.eval x = .slice (some ⟨W.heap.size, 0, none⟩) 1 1) (hown : W.ownsRow base e sz v n xs) (hb : base ≤ W.heap.size) (hn : n ≤ 1000) :
    ∃ g c w', (execOp a.eval o).run Try.prog (W.alloc (.cells cells e (0, 0))) = .ok (.value (.slice (some ⟨g, 0, none⟩) (n + 1) c)) w' ∧ w'.ownsRow base e sz (.slice (some ⟨g, 0, none⟩) (n + 1) c) (n + 1) (xs ++ cells.toList) ∧ Grew base W w' v ∧ (v.ownBlock = some g ∨ W.heap.size ≤ g) := by
  obtain ⟨g, c, w', hrun, h2, h3⟩ := app_new hE W base n o.type v xs cells hc h1 hown hb hn
  refine ⟨g, c, w', ?_, h2, h3⟩
  simp [execOp, ho, resolve, invoke, builtin, hs, hx, hrun, Result.andThen]

theorem wpList_app {t e : TypeId} {sz bytes : Nat} (hE : ElemOk t e sz bytes) {ops : Array Oper} {rest : List Oper} {o : Oper} {a : Act} {Q : Exit → Act → World → Prop} {W : World} (hgd : o.guard = none) (s x : Operand)
    (ho : o.op = .call { callee := .builtin .append, args := #[s, x], argTypes := #[t, t] }) (base n : Nat) (v : Value) (xs : List Value) (cells : Array Value) (hc : cells.size = sz) (h1 : ∀ u ∈ cells.toList, u.oneCell' = true)
    (hs : a.eval s = v) (hx : a.eval x = .slice (some ⟨W.heap.size, 0, none⟩) 1 1) (hown : W.ownsRow base e sz v n xs) (hb : base ≤ W.heap.size) (hn : n ≤ 1000)
    (h : ∀ g c w', w'.ownsRow base e sz (.slice (some ⟨g, 0, none⟩) (n + 1) c) (n + 1) (xs ++ cells.toList) → Grew base W w' v → (v.ownBlock = some g ∨ W.heap.size ≤ g) → wpList Try.prog ops Q rest (a.put o.dst (.slice (some ⟨g, 0, none⟩) (n + 1) c)) w') : wpList Try.prog ops Q (o :: rest) a (W.alloc (.cells cells e (0, 0))) := by
  obtain ⟨g, c, w', hr, h2, h3, h4⟩ := exec_app hE s x ho base n v xs cells hc h1 hs hx hown hb hn
  refine wpList_plain hgd fun K hK => ?_
  unfold Oper.wp
  rw [hr]
  exact hK _ _ (h g c w' h2 h3 h4)

theorem Tail.app {t e : TypeId} {sz bytes : Nat} (hE : ElemOk t e sz bytes) {ops : Array Oper} {S : World → Prop} {Q : Exit → Act → World → Prop} {τ : List Nat} {i : Nat} {o : Oper} {a : Act} {W : World} (hoi : ops[i]? = some o) (hw : Region.wanted o (yielded ops a.tmps) = true) (s x : Operand)
    (ho : o.op = .call { callee := .builtin .append, args := #[s, x], argTypes := #[t, t] }) (base n : Nat) (v : Value) (xs : List Value) (cells : Array Value) (hc : cells.size = sz) (h1 : ∀ u ∈ cells.toList, u.oneCell' = true)
    (hs : a.eval s = v) (hx : a.eval x = .slice (some ⟨W.heap.size, 0, none⟩) 1 1) (hown : W.ownsRow base e sz v n xs) (hb : base ≤ W.heap.size) (hn : n ≤ 1000)
    (h : ∀ g c w', w'.ownsRow base e sz (.slice (some ⟨g, 0, none⟩) (n + 1) c) (n + 1) (xs ++ cells.toList) → Grew base W w' v → (v.ownBlock = some g ∨ W.heap.size ≤ g) → S w' ∧ Tail Try.prog ops S Q τ (a.put o.dst (.slice (some ⟨g, 0, none⟩) (n + 1) c)) w') : Tail Try.prog ops S Q (i :: τ) a (W.alloc (.cells cells e (0, 0))) := by
  obtain ⟨g, c, w', hr, h2, h3, h4⟩ := exec_app hE s x ho base n v xs cells hc h1 hs hx hown hb hn
  exact Tail.grows hoi hw hr (h g c w' h2 h3 h4).1 (h g c w' h2 h3 h4).2

/-- Ranges, behind each other. -/
def flatR (l : List Rg) : List Value := l.flatMap fun r => [.int .i64 r.lo, .int .i64 r.hi]
theorem flatR_len (l : List Rg) : (flatR l).length = l.length * 2 := by
  induction l with
  | nil => rfl
  | cons a l ih =>
    simp only [flatR, List.flatMap_cons, List.length_append, List.length_cons, List.length_nil] at ih ⊢
    omega
theorem flatR_get : ∀ (l : List Rg) (i : Nat), i < l.length → (flatR l)[i * 2]? = some (.int .i64 (rg l i).lo) ∧ (flatR l)[i * 2 + 1]? = some (.int .i64 (rg l i).hi)
  | [], i, h => by simp at h
  | a :: l, 0, _ => by simp [flatR, rg]
  | a :: l, i + 1, h => by
    have ih := flatR_get l i (by simpa using h)
    have e1 : (i + 1) * 2 = i * 2 + 2 := by omega
    have e2 : (i + 1) * 2 + 1 = i * 2 + 1 + 2 := by omega
    have hc : flatR (a :: l) = .int .i64 a.lo :: .int .i64 a.hi :: flatR l := rfl
    have hr : rg (a :: l) (i + 1) = rg l i := by simp [rg]
    rw [e2, e1, hc, hr]
    simpa using ih
theorem flatR_snoc (l : List Rg) (r : Rg) : flatR (l ++ [r]) = flatR l ++ [.int .i64 r.lo, .int .i64 r.hi] := by simp [flatR]
theorem own_rgs {w : World} {base e : Nat} {v : Value} {l : List Rg} (h : w.ownsRow base e 2 v l.length (flatR l)) : RgsV w.heap.size w v l := by
  rcases h.2 with ⟨hv, h0⟩ | ⟨g, cap, cur, hv, _, hg, hn, _, hs, ht⟩
  · exact ⟨none, 0, by rw [hv, h0], fun hp => by omega⟩
  · refine ⟨some ⟨g, 0, none⟩, cap, hv, fun _ => ⟨g, 0, rfl, lt_of_block hg, fun i hi => ?_⟩⟩
    have hget : ∀ j, j < l.length * 2 → w.cell? ⟨g, 0 + j, none⟩ = (flatR l)[j]? := fun j hj => by
      have h1 : (cur.toList.take (l.length * 2))[j]? = (flatR l)[j]? := by rw [ht]
      rw [List.getElem?_take_of_lt hj] at h1
      rw [cell_of_row w g (0 + j) _ _ _ hg, Nat.zero_add, ← Array.getElem?_toList, h1]
    have h2 := flatR_get l i hi
    refine ⟨(hget (i * 2) (by omega)).trans h2.1, ?_⟩
    have := (hget (i * 2 + 1) (by omega)).trans h2.2
    rw [← Nat.add_assoc] at this
    exact this

theorem take_snoc {α : Type} {l : List α} {q : Nat} (h : q < l.length) : l.take (q + 1) = l.take q ++ [l[q]] := by
  rw [List.take_add_one, List.getElem?_eq_getElem h]; rfl
theorem own_ints {w : World} {base e : Nat} {v : Value} {l : List Int} (h : w.ownsRow base e 1 v l.length (l.map iV)) : IntsV w.heap.size w v l := by
  rcases h.2 with ⟨hv, h0⟩ | ⟨g, cap, cur, hv, _, hg, hn, _, hs, ht⟩
  · exact ⟨none, 0, by rw [hv, h0], fun hp => by omega⟩
  · refine ⟨some ⟨g, 0, none⟩, cap, hv, fun _ => ⟨g, 0, rfl, lt_of_block hg, fun i hi => ?_⟩⟩
    have h1 : (cur.toList.take (l.length * 1))[i]? = (l.map iV)[i]? := by rw [ht]
    rw [List.getElem?_take_of_lt (by omega)] at h1
    rw [cell_of_row w g (0 + i) _ _ _ hg, Nat.zero_add, ← Array.getElem?_toList, h1]
    simp [ld, hi, iV]
end Go.Proofs.Ytpdkgnfblnblbaa
