/- The lists, the fault and the readiness in the law: contracts. -/
import Derived.Test.YtfjlnejeffkdoaaFF
namespace Go.Proofs.Ytfjlnejeffkdoaa
open Go.RowKit Go.Shelf
attribute [local irreducible] arrV

/-- One number more, behind a slice of one's own (m numbers more: a list of them). -/
theorem append_ints (W : World) (base n m c ty : Nat) (v : Value) (xs : List Value) (bt offt : Nat) (ys : List Int) (hown : W.ownsRow base 3 1 v n xs) (hb : base ≤ W.heap.size) (hi : IntsIn W bt offt ys) (hm : m = ys.length) (hn : n + m ≤ 1000) :
    ∃ v' w', (Builtin.append_ #[27, 27] ty #[v, .slice (some ⟨bt, offt, none⟩) m c]).run Try.prog W = .ok v' w' ∧ w'.ownsRow base 3 1 v' (n + m) (xs ++ ys.map (Value.int .i64)) ∧ Below base W w' := by
  obtain ⟨i, z, hi', hz, hs, hby, hzs⟩ := int_info
  have hgev : ∀ g, v.ownBlock = some g → base ≤ g := fun g hgv => by
    rcases hown.2 with ⟨hv, _⟩ | ⟨g', _, _, hv, hbg, _, _⟩
    · rw [hv] at hgv; simp [Value.ownBlock] at hgv
    · rw [hv] at hgv
      simp [Value.ownBlock] at hgv
      subst hgv
      exact hbg
  obtain ⟨v', w', hrun, h1, h2, -⟩ := run_append_own (P := Try.prog) W base 27 ty 3 i z 1 8 Try.underlying27 hi' hz hs hby hzs (by omega) v n xs hown ⟨bt, offt, none⟩ m c (ys.map (Value.int .i64)) (by simp [hm])
    (fun j u hj => by
      have hjl : j < ys.length := by
        have := (List.getElem?_eq_some_iff.1 hj).1
        simpa using this
      rw [Addr.add_lit]
      have := hi j hjl
      simp [List.getElem?_map, hjl] at hj
      rw [this, ← hj]
      simp [ld, hjl])
    (by intro u hu; obtain ⟨x, _, rfl⟩ := List.mem_map.1 hu; rfl) (by simp [maxLen]; omega) (by omega) hb
  exact ⟨v', w', hrun, h1, ⟨h2.os, h2.tape, h2.output, h2.size, fun k hk => h2.block k (by omega) (fun e => by have := hgev k e.symm; omega)⟩⟩

theorem wpList_append_ints {ops : Array Oper} {rest : List Oper} {o : Oper} {a : Act} {Q : Exit → Act → World → Prop} {W : World} (hgd : o.guard = none) (s x : Operand) (ho : o.op = .call { callee := .builtin .append, args := #[s, x], argTypes := #[27, 27] }) (base n m c : Nat) (v : Value) (xs : List Value) (bt offt : Nat) (ys : List Int)
    (hs : a.eval s = v) (hx : a.eval x = .slice (some ⟨bt, offt, none⟩) m c) (hown : W.ownsRow base 3 1 v n xs) (hb : base ≤ W.heap.size) (hi : IntsIn W bt offt ys) (hm : m = ys.length) (hn : n + m ≤ 1000)
    (h : ∀ v' w', w'.ownsRow base 3 1 v' (n + m) (xs ++ ys.map (Value.int .i64)) → Below base W w' → wpList Try.prog ops Q rest (a.put o.dst v') w') : wpList Try.prog ops Q (o :: rest) a W := by
  obtain ⟨v', w', hrun, h1, h2⟩ := append_ints W base n m c o.type v xs bt offt ys hown hb hi hm hn
  refine wpList_plain hgd fun K hK => ?_
  unfold Oper.wp
  have hr : (execOp a.eval o).run Try.prog W = .ok (.value v') w' := by simp [execOp, ho, resolve, invoke, builtin, hs, hx, hrun, Result.andThen]
  rw [hr]
  exact hK _ _ (h v' w' h1 h2)

/-- list: a copy of the numbers. -/
theorem list_any (bt offt cap : Nat) (t : List Int) (w : World) (h0 : 0 < t.length) (hn : t.length ≤ 100) (hi : IntsIn w bt offt t) :
    Calls Try.prog 21 #[.slice (some ⟨bt, offt, none⟩) t.length cap] w fun e w' => ∃ B c, e = .returned (.slice (some ⟨B, 0, none⟩) t.length c) ∧ IntsIn w' B 0 t ∧ w.heap.size ≤ B ∧ Below w.heap.size w w' := by
  go_enter Try.func21, Try.ntmps21
  go_wp2_with (first
    | (refine wpList_append_ints rfl (.const (.slice none 0 0)) (.tmp 3) rfl w.heap.size 0 t.length cap _ [] bt offt t rfl rfl (World.ownsRow_nil _ _ _ _) (Nat.le_refl _) hi rfl (by omega) ?_
       intro v' w' h1 h2)
    | fail)
  rw [Nat.zero_add] at h1
  obtain ⟨B, c, rfl, q1, q2, q3⟩ := intsIn_own h1 h0
  go_ret
  exact ⟨B, c, rfl, q1, q2, h2⟩

set_option maxHeartbeats 400000 in
theorem fault_any (sa : Option Addr) (n cap : Nat) (E d k o : Int) (w : World) (hE : E = 0 ∨ E = 1 ∨ E = 3) (HR : ∀ w, Calls Try.prog 51 #[.agg #[.int .i64 d, .int .i64 k, .int .i64 o]] w fun e w' => e = .returned (.bool (ruleB ⟨d, k, o⟩)) ∧ Below w.heap.size w w')
    (HF : ∀ W, Below w.heap.size w W → Calls Try.prog 23 #[.agg #[.slice sa n cap]] W fun e w' => e = .returned (.int .i64 E) ∧ Below W.heap.size W w') :
    Calls Try.prog 22 #[.agg #[.slice sa n cap], .agg #[.int .i64 d, .int .i64 k, .int .i64 o]] w fun e w' => e = .returned (.int .i64 (if E = 0 then ruleE ⟨d, k, o⟩ else E)) ∧ Below w.heap.size w w' := by
  have hb2 := below2 w (.cells #[.slice sa n cap] 24) (.cells #[.int .i64 d, .int .i64 k, .int .i64 o] 26)
  have hx2 := (box2 w (.cells #[.slice sa n cap] 24) (.cells #[.int .i64 d, .int .i64 k, .int .i64 o] 26)).2
  have HFF := Lib.hid HF
  clear HF
  go_enter Try.func22, Try.ntmps22
  go_wp2_with fail
  refine (HFF.out _ hb2).mono ?_
  rintro e w1 ⟨rfl, hb1⟩
  replace hx2 := (hb1.block _ (lt_of_block hx2)).trans hx2
  have c0 := cell_of_row w1 (w.heap.size + 1) 0 _ _ _ hx2
  have c1 := cell_of_row w1 (w.heap.size + 1) 1 _ _ _ hx2
  have c2 := cell_of_row w1 (w.heap.size + 1) 2 _ _ _ hx2
  simp at c0 c1 c2
  have hbw := below_to hb2 hb1
  clear hb1 hb2 hx2
  rcases hE with rfl | rfl | rfl
  · go_wp2_with fail
    refine (HR _).mono ?_
    rintro e w2 ⟨rfl, hb3⟩
    have HBW := below_to hbw hb3
    clear hbw hb3 c0 c1 c2
    cases hr : ruleB ⟨d, k, o⟩ with
    | true =>
      have HRR := Lib.hid hr
      clear hr
      go_wp2
      go_ret
      exact ⟨by rw [ruleE_yes HRR.out]; rfl, HBW⟩
    | false =>
      have HRR := Lib.hid hr
      clear hr
      go_wp2
      go_ret
      exact ⟨by rw [ruleE_no HRR.out]; rfl, HBW⟩
  · go_wp2
    go_ret
    exact ⟨rfl, hbw⟩
  · go_wp2
    go_ret
    exact ⟨rfl, hbw⟩

set_option maxHeartbeats 400000 in
theorem ready_any (sa : Option Addr) (n cap : Nat) (E d k o : Int) (w : World) (hE : E = 0 ∨ E = 1 ∨ E = 3) (HR : ∀ w, Calls Try.prog 51 #[.agg #[.int .i64 d, .int .i64 k, .int .i64 o]] w fun e w' => e = .returned (.bool (ruleB ⟨d, k, o⟩)) ∧ Below w.heap.size w w')
    (HT : ∀ w, Calls Try.prog 15 #[.agg #[.slice sa n cap]] w fun e w' => e = .returned (.bool (decide (n ≤ 25))) ∧ Below w.heap.size w w')
    (HF : ∀ W, Below w.heap.size w W → Calls Try.prog 23 #[.agg #[.slice sa n cap]] W fun e w' => e = .returned (.int .i64 E) ∧ Below W.heap.size W w') :
    Calls Try.prog 41 #[.agg #[.slice sa n cap], .agg #[.int .i64 d, .int .i64 k, .int .i64 o]] w fun e w' => e = .returned (.bool (decide (n ≤ 25) && decide ((if E = 0 then ruleE ⟨d, k, o⟩ else E) = 0))) ∧ Below w.heap.size w w' := by
  have hb2 := below2 w (.cells #[.slice sa n cap] 24) (.cells #[.int .i64 d, .int .i64 k, .int .i64 o] 26)
  obtain ⟨hx1, hx2⟩ := box2 w (.cells #[.slice sa n cap] 24) (.cells #[.int .i64 d, .int .i64 k, .int .i64 o] 26)
  have HFF := Lib.hid fun W (h : Below w.heap.size w W) => fault_any sa n cap E d k o W hE HR (fun W' h' => HF W' (below_to h h'))
  clear HF
  generalize (if E = 0 then ruleE ⟨d, k, o⟩ else E) = X at *
  go_enter Try.func41, Try.ntmps41
  go_wp2_with fail
  refine (HT _).mono ?_
  rintro e w1 ⟨rfl, hb1⟩
  replace hx1 := (hb1.block _ (by simp; omega)).trans hx1
  replace hx2 := (hb1.block _ (lt_of_block hx2)).trans hx2
  have b0 := cell_of_row w1 w.heap.size 0 _ _ _ hx1
  have c0 := cell_of_row w1 (w.heap.size + 1) 0 _ _ _ hx2
  have c1 := cell_of_row w1 (w.heap.size + 1) 1 _ _ _ hx2
  have c2 := cell_of_row w1 (w.heap.size + 1) 2 _ _ _ hx2
  simp at b0 c0 c1 c2
  have hbw := below_to hb2 hb1
  clear hb1 hb2 hx1 hx2
  by_cases hn : n ≤ 25
  · have hd : decide (n ≤ 25) = true := by simpa using hn
    rw [hd]
    have HD := Lib.hid hd
    clear hd
    go_wp2_with fail
    refine (HFF.out _ hbw).mono ?_
    rintro e w2 ⟨rfl, hb3⟩
    have HBW := below_to hbw hb3
    go_wp2
    go_ret
    refine ⟨ret_bool ?_, HBW⟩
    rw [HD.out]
    first | rfl | simp | (cases hx : decide (X = 0) <;> simp_all)
  · have hd : decide (n ≤ 25) = false := by simpa using hn
    rw [hd]
    have HD := Lib.hid hd
    clear hd
    go_wp2
    go_ret
    exact ⟨by rw [HD.out]; rfl, hbw⟩

def flatT (l : List Pt) : List Value := l.flatMap fun p => [.int .i64 p.s, .int .i64 p.lo, .int .i64 p.hi]
theorem flatT_len (l : List Pt) : (flatT l).length = l.length * 3 := by
  induction l with
  | nil => rfl
  | cons p l ih => simp [flatT] at ih ⊢; omega
theorem flatT_get : ∀ (l : List Pt) (i : Nat), i < l.length → (flatT l)[i * 3]? = some (.int .i64 (pt l i).s) ∧ (flatT l)[i * 3 + 1]? = some (.int .i64 (pt l i).lo) ∧ (flatT l)[i * 3 + 2]? = some (.int .i64 (pt l i).hi)
  | p :: l, 0, _ => ⟨rfl, rfl, rfl⟩
  | p :: l, i + 1, h => by
    have ih := flatT_get l i (by simpa using h)
    have e : flatT (p :: l) = .int .i64 p.s :: .int .i64 p.lo :: .int .i64 p.hi :: flatT l := rfl
    have e2 : (i + 1) * 3 = i * 3 + 1 + 1 + 1 := by omega
    rw [e, e2]
    exact ih
theorem pts_own {w : World} {base : Nat} {v : Value} {l : List Pt} (h : w.ownsRow base 74 3 v l.length (flatT l)) (hl : 0 < l.length) : ∃ B c, v = .slice (some ⟨B, 0, none⟩) l.length c ∧ PtsIn w B 0 l ∧ base ≤ B := by
  obtain ⟨h1, h2⟩ := h
  rcases h2 with ⟨-, h0⟩ | ⟨g, cap, cur, rfl, hb, hg, hn, hc, hs, ht⟩
  · omega
  · refine ⟨g, cap, rfl, fun i hi => ?_, hb⟩
    have hcell : ∀ j, j < l.length * 3 → w.cell? ⟨g, 0 + j, none⟩ = (flatT l)[j]? := fun j hj => by
      rw [Nat.zero_add, cell_of_row w g j _ _ _ hg, ← ht, List.getElem?_take, if_pos hj]
      simp
    obtain ⟨a, b, c⟩ := flatT_get l i hi
    exact ⟨(hcell _ (by omega)).trans a, (hcell _ (by omega)).trans b, (hcell _ (by omega)).trans c⟩

theorem pt_info : ∃ i z, Try.prog.info? 74 = some i ∧ i.zero = some z ∧ i.size = 3 ∧ i.bytes = 24 ∧ z.cells.size = 3 := by
  have h1 : (Try.prog.info? 74).map (·.size) = some 3 := by kernel_rfl
  have h2 : (Try.prog.info? 74).map (·.bytes) = some 24 := by kernel_rfl
  have h3 : ((Try.prog.info? 74).bind (·.zero)).map (·.cells.size) = some 3 := by kernel_rfl
  cases h : Try.prog.info? 74 with
  | none => simp [h] at h1
  | some i =>
    cases hz : i.zero with
    | none => simp [h, hz] at h3
    | some z =>
      simp [h, hz] at h1 h2 h3
      exact ⟨i, z, rfl, hz, h1, h2, h3⟩

theorem wpList_append_pt {ops : Array Oper} {rest : List Oper} {o : Oper} {a : Act} {Q : Exit → Act → World → Prop} {W : World} (hgd : o.guard = none) (s x : Operand) (ho : o.op = .call { callee := .builtin .append, args := #[s, x], argTypes := #[32, 32] }) (base n : Nat) (v : Value) (xs : List Value) (p : Pt) (ab : Nat)
    (hs : a.eval s = v) (hx : a.eval x = .slice (some ⟨ab, 0, none⟩) 1 1) (hown : W.ownsRow base 74 3 v n xs) (hb : base ≤ W.heap.size) (ha : W.heap[ab]? = some (.cells #[.int .i64 p.s, .int .i64 p.lo, .int .i64 p.hi] 74 (0, 0))) (hn : n ≤ 100)
    (h : ∀ v' w', w'.ownsRow base 74 3 v' (n + 1) (xs ++ [.int .i64 p.s, .int .i64 p.lo, .int .i64 p.hi]) → Below base W w' → wpList Try.prog ops Q rest (a.put o.dst v') w') : wpList Try.prog ops Q (o :: rest) a W := by
  obtain ⟨i, z, hi', hz, hsz, hby, hzs⟩ := pt_info
  have hgev : ∀ g, v.ownBlock = some g → base ≤ g := fun g hgv => by
    rcases hown.2 with ⟨hv, _⟩ | ⟨g', _, _, hv, hbg, _, _⟩
    · rw [hv] at hgv; simp [Value.ownBlock] at hgv
    · rw [hv] at hgv
      simp [Value.ownBlock] at hgv
      subst hgv
      exact hbg
  obtain ⟨v', w', hrun, h1, h2, -⟩ := run_append_own (P := Try.prog) W base 32 o.type 74 i z 3 24 u32' hi' hz hsz hby hzs (by omega) v n xs hown ⟨ab, 0, none⟩ 1 1 [.int .i64 p.s, .int .i64 p.lo, .int .i64 p.hi] rfl
    (fun j u hj => by
      rw [Addr.add_lit, Nat.zero_add, cell_of_row W ab j _ _ _ ha]
      simpa using hj)
    (by simp [Value.oneCell']) (by simp [maxLen]; omega) (by omega) hb
  refine wpList_plain hgd fun K hK => ?_
  unfold Oper.wp
  have hr : (execOp a.eval o).run Try.prog W = .ok (.value v') w' := by simp [execOp, ho, resolve, invoke, builtin, hs, hx, hrun, Result.andThen]
  rw [hr]
  exact hK _ _ (h v' w' h1 ⟨h2.os, h2.tape, h2.output, h2.size, fun k hk => h2.block k (by omega) (fun e => by have := hgev k e.symm; omega)⟩)
end Go.Proofs.Ytfjlnejeffkdoaa
