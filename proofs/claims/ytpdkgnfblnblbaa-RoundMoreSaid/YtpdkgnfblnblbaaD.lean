/- Rows of one's own, and what is appended to them: general laws. No condition. -/
import Derived.Test.YtpdkgnfblnblbaaC
import Derived.Test.YtpdkgnfblnblbaaYY
import Derived.OpenShut
namespace Go.Proofs.Ytpdkgnfblnblbaa
open Go.RowKit Go.Shelf
attribute [local irreducible] arrV wpQuiet
theorem own_same {W W' : World} {base e sz n : Nat} {v : Value} {l : List Value} (h : W.ownsRow base e sz v n l) (hs : ∀ g, base ≤ g → g < W.heap.size → W'.heap[g]? = W.heap[g]?) : W'.ownsRow base e sz v n l := by
  refine ⟨h.1, ?_⟩
  rcases h.2 with h0 | ⟨g, cap, cur, hv, hbg, hgg, hr⟩
  · exact .inl h0
  · exact .inr ⟨g, cap, cur, hv, hbg, (hs g hbg (lt_of_block hgg)).trans hgg, hr⟩
theorem ownsRow_mono {w : World} {b b' e sz n : Nat} {v : Value} {xs : List Value} (hb : b' ≤ b) (h : w.ownsRow b e sz v n xs) : w.ownsRow b' e sz v n xs := by
  refine ⟨h.1, ?_⟩
  rcases h.2 with ⟨hv, h0⟩ | ⟨g, cap, cur, hv, hbg, hg, hr⟩
  · exact .inl ⟨hv, h0⟩
  · exact .inr ⟨g, cap, cur, hv, by omega, hg, hr⟩
theorem own_shape {w : World} {base e sz n : Nat} {v : Value} {xs : List Value} (h : w.ownsRow base e sz v n xs) : ∃ a cap, v = .slice a n cap := by
  rcases h.2 with ⟨hv, h0⟩ | ⟨g, cap, cur, hv, hr⟩
  · exact ⟨none, 0, by rw [hv, h0]⟩
  · exact ⟨_, _, hv⟩
theorem exec_append {P : Program} {a : Act} {o : Oper} {w w' : World} {t u : TypeId} {v x y : Value} (s z : Operand) (ho : o.op = .call { callee := .builtin .append, args := #[s, z], argTypes := #[t, u] }) (hs : a.eval s = v) (hz : a.eval z = x)
    (hr : (Builtin.append_ #[t, u] o.type #[v, x]).run P w = .ok y w') : (execOp a.eval o).run P w = .ok (.value y) w' := by
  simp [execOp, ho, resolve, invoke, builtin, hs, hz, hr, Result.andThen]
/-- What is one's own behind a step. -/
def Mine (Own : Nat → Prop) (w1 w2 : World) : Nat → Prop := fun k => Own k ∨ (w1.heap.size ≤ k ∧ k < w2.heap.size)
set_option maxRecDepth 100000 in
theorem act_app2 {t e : TypeId} {sz bytes : Nat} (hE : ElemOk t e sz bytes) (base n : Nat) (v : Value) (ys : List Value) (ad : Option Addr) (m cap : Nat) (xs : List Value) (W : World) (Own : Nat → Prop) (ty : TypeId)
    (hn : n + m ≤ maxLen) (hB : (n + m) * bytes ≤ 140737488355328) (hown : W.ownsRow base e sz v n ys) (hb : base ≤ W.heap.size) (hl : xs.length = m * sz) (h0 : ad = none → m = 0)
    (hc : 0 < m → ∃ b off, ad = some ⟨b, off, none⟩ ∧ ∀ j u, xs[j]? = some u → W.cell? ⟨b, off + j, none⟩ = some u) (h1 : ∀ u ∈ xs, u.oneCell' = true)
    (hv : ∀ k, v.ownBlock = some k → Own k) (hO : ∀ k, Own k → k < W.heap.size) :
    ∃ v' w', (Builtin.append_ #[t, t] ty #[v, .slice ad m cap]).run Try.prog W = .ok v' w' ∧ w'.ownsRow base e sz v' (n + m) (ys ++ xs) ∧ Below base W w' ∧ Kept Own (Mine Own W w') W w' ∧ (∀ k, v'.ownBlock = some k → Mine Own W w' k) ∧ W.grownBy w' v.ownBlock := by
  obtain ⟨i, z, hi, hz, hsz, hby, hzs⟩ := hE.i
  have key : ∃ v' w', (Builtin.append_ #[t, t] ty #[v, .slice ad m cap]).run Try.prog W = .ok v' w' ∧ w'.ownsRow base e sz v' (n + m) (ys ++ xs) ∧ W.grownBy w' v.ownBlock ∧ (v'.ownBlock = v.ownBlock ∨ v'.ownBlock = some W.heap.size) := by
    cases ad with
    | none =>
      obtain rfl := h0 rfl
      obtain rfl := List.eq_nil_of_length_eq_zero (by simpa using hl)
      refine ⟨v, W, ?_, by simpa using hown, ⟨rfl, rfl, rfl, Nat.le_refl _, fun _ _ _ => rfl⟩, .inl rfl⟩
      rcases hown.2 with ⟨rfl, rfl⟩ | ⟨g, c, cur, rfl, _, _, hnc, _⟩
      · simp [Builtin.append_, run_underlying hE.u, sizeOf, typeInfo, hi, Builtin.lenOf, run_firstCells_none, storeCells, Result.andThen]
      · simp [Builtin.append_, run_underlying hE.u, sizeOf, typeInfo, hi, Builtin.lenOf, hnc, run_firstCells_none, storeCells, Result.andThen]
    | some p =>
      obtain ⟨v', w', hr, h2, h3, _, h5⟩ := run_append_own_at (P := Try.prog) W base t ty e i z sz bytes hE.u hi hz hsz hby hzs hE.pos v n ys hown p m cap xs hl
        (fun j u hj => by
          have hm : 0 < m := by
            rcases Nat.eq_zero_or_pos m with h | h
            · subst h
              obtain rfl := List.eq_nil_of_length_eq_zero (by simpa using hl)
              simp at hj
            · exact h
          obtain ⟨b, off, e, hcc⟩ := hc hm
          cases e
          rw [Addr.add_lit]
          exact hcc j u hj) h1 hn hB hb
      exact ⟨v', w', hr, h2, h3, h5⟩
  obtain ⟨v', w', hr, h2, h3, h5⟩ := key
  have hbase : ∀ k, v.ownBlock = some k → base ≤ k := fun k hk => (own_lt hown hk).1
  refine ⟨v', w', hr, h2, ⟨h3.os, h3.tape, h3.output, h3.size, fun k hk => h3.block k (by omega) (fun e => by have := hbase k e.symm; omega)⟩, ⟨h3.size, fun k hk hne => h3.block k hk (fun e => hne (.inl (hv k e.symm))), fun k hk => ?_⟩, fun k hk => ?_, h3⟩
  · rcases hk with h | ⟨h, h'⟩
    · exact ⟨.inl h, Nat.lt_of_lt_of_le (hO k h) h3.size⟩
    · exact ⟨.inr h, h'⟩
  · rcases h5 with h5 | h5
    · exact .inl (hv k (by rw [← h5]; exact hk))
    · rw [h5] at hk
      cases hk
      exact .inr ⟨Nat.le_refl _, (own_lt h2 h5).2⟩
/-- An empty slice of one's own. -/
theorem act_empty (e : TypeId) (sz base : Nat) (W : World) (hb : base ≤ W.heap.size) : (W.alloc (.cells #[] e (0, 0))).ownsRow base e sz (.slice (some ⟨W.heap.size, 0, none⟩) 0 0) 0 [] :=
  ⟨by simp, .inr ⟨W.heap.size, 0, #[], rfl, hb, heap_alloc_new W _, Nat.le_refl _, Nat.zero_le _, by simp, by simp⟩⟩
theorem kept_alloc (Own : Nat → Prop) (W : World) (o : Obj) (hO : ∀ k, Own k → k < W.heap.size) : Kept Own (Mine Own W (W.alloc o)) W (W.alloc o) :=
  ⟨by simp, fun k hk _ => (box_below W o).block k hk, fun k hk => by
    rcases hk with h | ⟨h, h'⟩
    · exact ⟨.inl h, Nat.lt_of_lt_of_le (hO k h) (by simp)⟩
    · exact ⟨.inr h, h'⟩⟩
theorem row_kept {w w' : World} {base e sz n : Nat} {v : Value} {xs : List Value} (h : w.ownsRow base e sz v n xs) (hb : Below w.heap.size w w') : w'.ownsRow base e sz v n xs := own_same h fun k _ hk => hb.block k hk
theorem mine_empty (W : World) (o : Obj) (k : Nat) (h : (Value.slice (some ⟨W.heap.size, 0, none⟩) 0 0).ownBlock = some k) : Mine (fun _ => False) W (W.alloc o) k := by
  simp [Value.ownBlock] at h
  subst h
  exact .inr ⟨Nat.le_refl _, by simp⟩
theorem exec_store_one {a : Act} {o : Oper} {W : World} (ty : TypeId) (x y : Operand) (ho : o.op = .store ty x y) {b off : Nat} {ad : Option Addr} {n c : Nat} {u : Value} (hx : a.eval x = .pointer (some ⟨b, off, none⟩)) (hy : a.eval y = .slice ad n c)
    (hc : W.cell? ⟨b, off, none⟩ = some u) (hf : W.frozen? ⟨b, off, none⟩ = false) (hi : (Try.prog.info? ty).map (·.size) = some 1) :
    (execOp a.eval o).run Try.prog W = .ok .skip (W.setCell ⟨b, off, none⟩ (.slice ad n c)) := by
  have hs := run_storeCells_cells (P := Try.prog) b off [.slice ad n c] 0 W (fun j hj => by
    obtain rfl : j = 0 := by simp at hj; exact hj
    simpa using by rw [hc]; rfl) (fun j hj => by
    obtain rfl : j = 0 := by simp at hj; exact hj
    simpa using hf) (fun v hv => by
    simp at hv
    subst hv
    rfl)
  simp only [Nat.add_zero] at hs
  cases hq : Try.prog.info? ty with
  | none => simp [hq] at hi
  | some i =>
    have h1 : i.size = 1 := by simpa [hq] using hi
    unfold execOp
    simp [ho, hx, hy, Instr.storeAt, Instr.sureAddr, storeVar, sizeOf, typeInfo, hq, Value.cells, h1, hs, Result.andThen, World.setCells]
theorem own_get {w : World} {base e sz n : Nat} {v : Value} {xs : List Value} (h : w.ownsRow base e sz v n xs) (hn : 0 < n) :
    ∃ g cap, v = .slice (some ⟨g, 0, none⟩) n cap ∧ base ≤ g ∧ g < w.heap.size ∧ ∀ j, j < n * sz → w.cell? ⟨g, j, none⟩ = xs[j]? := by
  rcases h.2 with ⟨hv, h0⟩ | ⟨g, cap, cur, hv, hb, hg, hn', _, hs, ht⟩
  · omega
  · refine ⟨g, cap, hv, hb, lt_of_block hg, fun j hj => ?_⟩
    have h1 : (cur.toList.take (n * sz))[j]? = xs[j]? := by rw [ht]
    rw [List.getElem?_take_of_lt hj] at h1
    rw [cell_of_row w g j _ _ _ hg, ← Array.getElem?_toList, h1]
theorem own_put {w : World} {base e sz n b j : Nat} {v u : Value} {xs : List Value} (h : w.ownsRow base e sz v n xs) (hb : b < base) : (w.setCell ⟨b, j, none⟩ u).ownsRow base e sz v n xs :=
  own_same h fun g hg _ => heap_setCell_other w ⟨b, j, none⟩ g u (by show g ≠ b; omega)
theorem own_nil {w : World} {base e sz : Nat} {v : Value} {xs : List Value} (h : w.ownsRow base e sz v 0 xs) : ∃ a cap, v = .slice a 0 cap := by
  rcases h.2 with ⟨hv, h0⟩ | ⟨g, cap, cur, hv, hb, hg, hn', _, hs, ht⟩
  · exact ⟨_, _, hv⟩
  · exact ⟨_, _, hv⟩
theorem row_same {w w' : World} {base e sz n : Nat} {v : Value} {xs : List Value} (h : w.ownsRow base e sz v n xs) (hb : ∀ (k : Nat) (cur : Array Value), w.heap[k]? = some (.cells cur e (0, 0)) → w'.heap[k]? = w.heap[k]?) : w'.ownsRow base e sz v n xs := by
  refine ⟨h.1, ?_⟩
  rcases h.2 with ⟨hv, h0⟩ | ⟨g, cap, cur, hv, hbg, hg, hr⟩
  · exact .inl ⟨hv, h0⟩
  · exact .inr ⟨g, cap, cur, hv, hbg, (hb g cur hg).trans hg, hr⟩
theorem own_tag {w : World} {base e sz n g : Nat} {v : Value} {xs : List Value} (h : w.ownsRow base e sz v n xs) (hv : v.ownBlock = some g) : ∃ cur, w.heap[g]? = some (.cells cur e (0, 0)) := by
  rcases h.2 with ⟨hv', h0⟩ | ⟨g', cap, cur, hv', hbg, hg, hr⟩
  · rw [hv'] at hv; simp [Value.ownBlock] at hv
  · rw [hv'] at hv
    simp [Value.ownBlock] at hv
    subst hv
    exact ⟨cur, hg⟩
/-- Blocks of segments stay when the row of runs grows. -/
theorem tags_differ {w : World} {k : Nat} {cur cur' : Array Value} {e e' : TypeId} (h : w.heap[k]? = some (.cells cur e (0, 0))) (h' : w.heap[k]? = some (.cells cur' e' (0, 0))) : e = e' := by
  rw [h] at h'
  simp at h'
  exact h'.2
theorem exec_store_int {a : Act} {o : Oper} {W : World} (ty : TypeId) (x y : Operand) (ho : o.op = .store ty x y) {b off : Nat} {k : IntKind} {n : Int} {u : Value} (hx : a.eval x = .pointer (some ⟨b, off, none⟩)) (hy : a.eval y = .int k n)
    (hc : W.cell? ⟨b, off, none⟩ = some u) (hf : W.frozen? ⟨b, off, none⟩ = false) (hi : (Try.prog.info? ty).map (·.size) = some 1) :
    (execOp a.eval o).run Try.prog W = .ok .skip (W.setCell ⟨b, off, none⟩ (.int k n)) := by
  have hs := run_storeCells_cells (P := Try.prog) b off [.int k n] 0 W (fun j hj => by
    obtain rfl : j = 0 := by simp at hj; exact hj
    simpa using by rw [hc]; rfl) (fun j hj => by
    obtain rfl : j = 0 := by simp at hj; exact hj
    simpa using hf) (fun v hv => by
    simp at hv
    subst hv
    rfl)
  simp only [Nat.add_zero] at hs
  cases hq : Try.prog.info? ty with
  | none => simp [hq] at hi
  | some i =>
    have h1 : i.size = 1 := by simpa [hq] using hi
    unfold execOp
    simp [ho, hx, hy, Instr.storeAt, Instr.sureAddr, storeVar, sizeOf, typeInfo, hq, Value.cells, h1, hs, Result.andThen, World.setCells]
/-- All but one block is as it was. -/
structure Put (g : Nat) (w w2 : World) : Prop where
  os : w2.os = w.os
  tape : w2.tape = w.tape
  output : w2.output = w.output
  size : w2.heap.size = w.heap.size
  other : ∀ k, k ≠ g → w2.heap[k]? = w.heap[k]?
theorem Put.below {g B : Nat} {A w w2 : World} (h : Put g w w2) (hb : Below B A w) (hg : B ≤ g) : Below B A w2 :=
  ⟨h.os.trans hb.os, h.tape.trans hb.tape, h.output.trans hb.output, by rw [h.size]; exact hb.size, fun k hk => (h.other k (by omega)).trans (hb.block k hk)⟩
theorem Put.but {g : Nat} {T : Nat → Prop} {A w w2 : World} (h : Put g w w2) (hb : But T A w) (hg : T g ∨ A.heap.size ≤ g) : But T A w2 :=
  ⟨h.os.trans hb.os, h.tape.trans hb.tape, h.output.trans hb.output, by rw [h.size]; exact hb.size, fun k hk hn => (h.other k (by rintro rfl; rcases hg with hg | hg; exact hn hg; omega)).trans (hb.block k hk hn)⟩
theorem put_cells (b off : Nat) (vs : List Value) (w : World) : Put b w (w.setCells b off vs) := by
  induction vs generalizing off w with
  | nil => exact ⟨rfl, rfl, rfl, rfl, fun _ _ => rfl⟩
  | cons v r ih =>
    have h := ih (off + 1) (w.setCell ⟨b, off, none⟩ v)
    exact ⟨h.os, h.tape, h.output, h.size.trans (by simp [World.setCell]), fun k hk => (h.other k hk).trans (heap_setCell_other w ⟨b, off, none⟩ k v hk)⟩
theorem put_cell (b off : Nat) (v : Value) (w : World) : Put b w (w.setCell ⟨b, off, none⟩ v) := put_cells b off [v] w
theorem flatR_append (l m : List Rg) : flatR (l ++ m) = flatR l ++ flatR m := by simp [flatR]
theorem flatR_length (l : List Rg) : (flatR l).length = l.length * 2 := by
  induction l with
  | nil => rfl
  | cons a l ih => simp only [flatR, List.flatMap_cons, List.length_append, List.length_cons, List.length_nil] at ih ⊢; omega
theorem flatR_set (l : List Rg) (q : Nat) (c : Rg) (h : q < l.length) : flatR (l.set q c) = flatR (l.take q) ++ [.int .i64 c.lo, .int .i64 c.hi] ++ flatR (l.drop (q + 1)) := by
  rw [List.set_eq_take_append_cons_drop, if_pos h, flatR_append]
  simp [flatR]
/-- One range of a row of one's own is set. -/
theorem own_setR {w : World} {base g cap n q : Nat} {l : List Rg} (c : Rg) (hn : n = l.length) (h : w.ownsRow base 46 2 (.slice (some ⟨g, 0, none⟩) n cap) n (flatR l)) (hq : q < n) :
    (w.setCells g (q * 2) [.int .i64 c.lo, .int .i64 c.hi]).ownsRow base 46 2 (.slice (some ⟨g, 0, none⟩) n cap) n (flatR (l.set q c)) := by
  subst hn
  refine ⟨by rw [flatR_length, List.length_set], ?_⟩
  rcases h.2 with ⟨hv, _⟩ | ⟨g', c', cur, hv, hb, hg, hn', hc, hs, ht⟩
  · cases hv
  cases hv
  have hlen : (flatR l).length = l.length * 2 := flatR_length l
  obtain ⟨post, hpost⟩ : ∃ post, post = cur.toList.drop (l.length * 2) := ⟨_, rfl⟩
  have hcur : cur.toList = flatR l ++ post := by rw [hpost, ← ht, List.take_append_drop]
  have hself : flatR l = flatR (l.take q) ++ [.int .i64 l[q].lo, .int .i64 l[q].hi] ++ flatR (l.drop (q + 1)) := by
    have := flatR_set l q l[q] hq
    rwa [List.set_getElem_self] at this
  have hpl : (flatR (l.take q)).length = q * 2 := by rw [flatR_length, List.length_take]; omega
  have hset := set_list g 46 [.int .i64 c.lo, .int .i64 c.hi] (flatR (l.take q)) [.int .i64 l[q].lo, .int .i64 l[q].hi] (flatR (l.drop (q + 1)) ++ post) w rfl (by
    rw [← List.append_assoc, ← hself, ← hcur]
    exact hg)
  rw [hpl, ← List.append_assoc, ← flatR_set l q c hq] at hset
  have hl2 : (flatR (l.set q c)).length = l.length * 2 := by rw [flatR_length, List.length_set]
  have hsz : cur.size = (flatR l ++ post).length := by rw [← hcur]; simp
  refine .inr ⟨g, cap, _, rfl, hb, hset, hn', hc, ?_, ?_⟩
  · rw [List.length_append, hlen] at hsz
    simp only [List.size_toArray, List.length_append, hl2]
    omega
  · simp only [Array.toList]
    rw [List.take_append_of_le_length (by omega), List.take_of_length_le (by omega)]
theorem ints_cells {m : Nat} {w : World} {ad : Option Addr} {cap : Nat} {gs : List Int} (h : IntsV m w (.slice ad gs.length cap) gs) :
    (ad = none → gs.length = 0) ∧ (0 < gs.length → ∃ b off, ad = some ⟨b, off, none⟩ ∧ ∀ j u, (gs.map iV)[j]? = some u → w.cell? ⟨b, off + j, none⟩ = some u) := by
  obtain ⟨a', c', e, hp⟩ := h
  cases e
  refine ⟨fun h => ?_, fun h => ?_⟩
  · rcases Nat.eq_zero_or_pos gs.length with h0 | h0
    · exact h0
    · obtain ⟨b, off, e, -⟩ := hp h0
      rw [h] at e
      cases e
  · obtain ⟨b, off, e, -, hc⟩ := hp h
    refine ⟨b, off, e, fun j u hj => ?_⟩
    rw [List.getElem?_map] at hj
    cases hg : gs[j]? with
    | none => simp [hg] at hj
    | some x =>
      have hj2 : j < gs.length := (List.getElem?_eq_some_iff.1 hg).1
      have : ld gs j = x := by simp [ld, hg]
      rw [hc j hj2, this]
      simpa [hg, iV] using hj
theorem set_pair46 {w : World} {b : Nat} {u v u' v' : Value} {t : TypeId} (h : w.heap[b]? = some (.cells #[u, v] t (0, 0))) : (w.setCells b 0 [u', v']).heap[b]? = some (.cells #[u', v'] t (0, 0)) := by
  have := set_list b t [u', v'] [] [u, v] [] w rfl (by simpa using h)
  simpa using this
theorem wpList_store46 {ops : Array Oper} {rest : List Oper} {o : Oper} {a : Act} {Q : Exit → Act → World → Prop} {w : World} (hgd : o.guard = none) (x y : Operand) (ho : o.op = .store 46 x y) (g : Nat) (hx : a.eval x = .pointer (some ⟨g, 0, none⟩))
    (u1 u2 : Value) (x1 x2 : Int) (hy : a.eval y = .agg #[.int .i64 x1, .int .i64 x2]) (hg : w.heap[g]? = some (.cells #[u1, u2] 46 (0, 0)))
    (h : ∀ w2, Put g w w2 → w2.heap[g]? = some (.cells #[.int .i64 x1, .int .i64 x2] 46 (0, 0)) → wpList Try.prog ops Q rest (a.put o.dst undef) w2) : wpList Try.prog ops Q (o :: rest) a w :=
  wpList_store_mid hgd 46 x y ho g 0 #[.int .i64 x1, .int .i64 x2] hx hy (there_block hg (by simp)) (by kernel_rfl) (by simp [Value.oneCell']) (h _ (put_cells _ _ _ _) (set_pair46 hg))
theorem Tail.put46 {ops : Array Oper} {S : World → Prop} {Q : Exit → Act → World → Prop} {τ : List Nat} {i : Nat} {o : Oper} {a : Act} {w : World} (hoi : ops[i]? = some o) (hw : Region.wanted o (yielded ops a.tmps) = true) (x y : Operand) (ho : o.op = .store 46 x y) (g : Nat) (hx : a.eval x = .pointer (some ⟨g, 0, none⟩))
    (u1 u2 : Value) (x1 x2 : Int) (hy : a.eval y = .agg #[.int .i64 x1, .int .i64 x2]) (hg : w.heap[g]? = some (.cells #[u1, u2] 46 (0, 0)))
    (h : ∀ w2, Put g w w2 → w2.heap[g]? = some (.cells #[.int .i64 x1, .int .i64 x2] 46 (0, 0)) → S w2 ∧ Tail Try.prog ops S Q τ (a.put o.dst undef) w2) : Tail Try.prog ops S Q (i :: τ) a w :=
  have h2 := h _ (put_cells g 0 [.int .i64 x1, .int .i64 x2] w) (set_pair46 hg)
  Tail.skip hoi hw (exec_store_row 46 x y ho g 0 #[.int .i64 x1, .int .i64 x2] hx hy (there_block hg (by simp)) (by kernel_rfl) (by simp [Value.oneCell'])) h2.1 h2.2
theorem wpList_is {P : Program} {ops : Array Oper} {rest : List Oper} {o : Oper} {a : Act} {Q : Exit → Act → World → Prop} {w : World} (hgd : o.guard = none) (v : Value) (hr : (execOp a.eval o).run P w = .ok (.value v) w) (h : wpList P ops Q rest (a.put o.dst v) w) : wpList P ops Q (o :: rest) a w := by
  refine wpList_plain hgd fun K hK => ?_
  unfold Oper.wp
  rw [hr]
  exact hK _ _ h
theorem own_cells {w : World} {base : Nat} {v : Value} {xs : List Int} (h : w.ownsRow base 3 1 v xs.length (xs.map iV)) :
    ∃ a cap, v = .slice a xs.length cap ∧ (a = none → xs.length = 0) ∧ (0 < xs.length → ∃ b off, a = some ⟨b, off, none⟩ ∧ ∀ j u, (xs.map iV)[j]? = some u → w.cell? ⟨b, off + j, none⟩ = some u) := by
  obtain ⟨a, cap, rfl⟩ := own_shape h
  exact ⟨a, cap, rfl, ints_cells (own_ints (l := xs) (by simpa using h))⟩

section
variable {P : Program} {ops : Array Oper} {Q : Exit → Act → World → Prop}
/-- The last operation: a call that may write what S leaves free. -/
def LastC (P : Program) (ops : Array Oper) (S : World → Prop) (Q : Exit → Act → World → Prop) (i : Nat) (a : Act) (w : World) : Prop :=
  ∃ o f args, ops[i]? = some o ∧ Region.wanted o (yielded ops a.tmps) = true ∧ (execOp a.eval o).run P w = .ok (.enter f args) w ∧
    Calls P f args w fun e w2 => ∃ v, e = .returned v ∧ S w2 ∧ Q .normal (a.put o.dst v) w2
theorem walk_last {S : World → Prop} (hSg : ∀ w w', S w → Below w.heap.size w w' → S w') (hs : Region.noSelect ops = true) (hQ : ∀ c a d v w, Q (.panic c) (a.put d v) w → Q (.panic c) a w) (z : Nat) :
    ∀ (σ : List (Bool × Nat)) (L : Array Bool) (a : Act) (w : World), chainB ops [z] σ L = true → S w →
      Walk P ops S (fun a' w' => S w' → LastC P ops S Q z a' w') σ a w →
      wpAnyH P .any ops Q S (σ.length + 1) L a w
  | [], L, a, w, hB, hS, hW => by
    simp only [chainB, tailB, Bool.and_eq_true] at hB
    obtain ⟨o, f, args, ho, hw, hrun, hc⟩ := hW w (Below.refl _ _) hS
    rw [show ([] : List (Bool × Nat)).length + 1 = 0 + 1 from rfl]
    refine wpAnyH_all (eq_of_beq hB.1) (by simp) fun j hj => ?_
    obtain rfl : j = z := by simpa using hj
    unfold wpOp
    simp only [ho]
    rw [if_pos hw]
    refine .inl ?_
    unfold Oper.wp
    rw [hrun]
    refine hc.mono ?_
    rintro e w2 ⟨v, rfl, hS2, hq⟩
    exact ⟨hS2, wpAnyH_done (by have h9 := hB.2; unfold setL at h9; simpa using h9) hq _⟩
  | (false, i) :: σ, L, a, w, hB, hS, hW => by
    simp only [chainB, Bool.and_eq_true] at hB
    obtain ⟨⟨hf, hr⟩, hB'⟩ := hB
    obtain ⟨o, v, ho, hy, hw⟩ := hW
    have ih := walk_last hSg hs hQ z σ (setL L i) (a.put o.dst v) w hB' hS hw
    have := wpAnyH_take (md := .any) (Q := Q) (S := S) (fuel := σ.length + 1) (listed := L) (w := w) ho hs hf hr (fun c a w h => hQ c a _ _ w h) hy hS ih
    rw [show ((false, i) :: σ).length + 1 = σ.length + 1 + 1 by simp]
    exact this
  | (true, i) :: σ, L, a, w, hB, hS, hW => by
    simp only [chainB, Bool.and_eq_true] at hB
    obtain ⟨hr, hB'⟩ := hB
    obtain ⟨o, f, args, ho, hw, hrun, hc⟩ := hW
    rw [show ((true, i) :: σ).length + 1 = σ.length + 1 + 1 by simp]
    refine wpAnyH_all (eq_of_beq hr) (by simp) fun j hj => ?_
    obtain rfl : j = i := by simpa using hj
    unfold wpOp
    simp only [ho]
    rw [if_pos hw]
    refine .inl ?_
    unfold Oper.wp
    rw [hrun w hS]
    refine (hc w (Below.refl _ _)).mono ?_
    rintro e w2 ⟨v, rfl, hb2, hw2⟩
    exact ⟨hSg _ _ hS hb2, walk_last hSg hs hQ z σ (setL L j) (a.put o.dst v) w2 hB' (hSg _ _ hS hb2) hw2⟩
theorem wp_region_last (S : World → Prop) {id : Nat} {a : Act} {w : World} (hSg : ∀ w w', S w → Below w.heap.size w w' → S w') (hS0 : S { w with drawn := w.drawn + 1 }) (hm : P.follows .mixedOrders = true) (hQ : ∀ c a d v w, Q (.panic c) (a.put d v) w → Q (.panic c) a w)
    (σ : List (Bool × Nat)) (z : Nat)
    (hB : (Region.noSelect ops && chainB ops [z] σ (Array.replicate ops.size false) && (ops.size == σ.length + 1)) = true)
    (h : Walk P ops S (fun a' w' => S w' → LastC P ops S Q z a' w') σ a { w with drawn := w.drawn + 1 }) :
    (Code.region id ops true).wp P Q a w := by
  simp only [Bool.and_eq_true] at hB
  obtain ⟨⟨hs, hf⟩, hz⟩ := hB
  have hz' : ops.size = σ.length + 1 := by simpa using hz
  refine wp_region_held (S := S) hm ?_
  have := walk_last (Q := Q) (P := P) (ops := ops) hSg hs hQ z σ (Array.replicate ops.size false) a { w with drawn := w.drawn + 1 } hf hS0 h
  rw [← hz'] at this
  exact this
end
theorem rgs_cells {n : Nat} {w : World} {ad : Option Addr} {cap : Nat} {l : List Rg} (h : RgsV n w (.slice ad l.length cap) l) :
    (ad = none → l.length = 0) ∧ (0 < l.length → ∃ b off, ad = some ⟨b, off, none⟩ ∧ ∀ j u, (flatR l)[j]? = some u → w.cell? ⟨b, off + j, none⟩ = some u) := by
  obtain ⟨a', c', e, hp⟩ := h
  cases e
  refine ⟨fun hn => ?_, fun h0 => ?_⟩
  · rcases Nat.eq_zero_or_pos l.length with h0 | h0
    · exact h0
    · obtain ⟨b, off, e, -⟩ := hp h0
      rw [hn] at e
      cases e
  · obtain ⟨b, off, e, hb, hc⟩ := hp h0
    refine ⟨b, off, e, fun j u hj => ?_⟩
    have hlen : (flatR l).length = l.length * 2 := flatR_length l
    have hj2 : j < l.length * 2 := by
      rw [← hlen]
      exact (List.getElem?_eq_some_iff.1 hj).1
    obtain ⟨h1, h2⟩ := hc (j / 2) (by omega)
    obtain ⟨k1, k2⟩ := flatR_get l (j / 2) (by omega)
    have h5 : j % 2 = 0 ∨ j % 2 = 1 := by omega
    rcases h5 with h5 | h5
    · have ej : j / 2 * 2 = j := by omega
      rw [ej] at h1 k1
      rw [hj] at k1
      cases k1
      exact h1
    · have ej : j / 2 * 2 + 1 = j := by omega
      rw [Nat.add_assoc, ej] at h2
      rw [ej, hj] at k2
      cases k2
      exact h2
theorem flatR_one {l : List Rg} : ∀ u ∈ flatR l, u.oneCell' = true := by
  intro u hu
  simp only [flatR, List.mem_flatMap] at hu
  obtain ⟨c, -, hc⟩ := hu
  simp at hc
  rcases hc with rfl | rfl <;> rfl
end Go.Proofs.Ytpdkgnfblnblbaa
