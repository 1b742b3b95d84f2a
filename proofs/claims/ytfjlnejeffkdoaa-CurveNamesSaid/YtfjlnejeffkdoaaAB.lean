/- CurveUnits where it is not ready, walked; one point of the reference more behind a slice of one's own. For CurvePulled: a slice of one's own grows by the points of a curve, by one point, by one number, and where it lies then; a copy of the numbers with its row; whether a curve with one more point is ready. No condition but the lengths. -/
import Derived.Test.YtfjlnejeffkdoaaOO
import Derived.Test.YtfjlnejeffkdoaaRR
import Derived.Test.YtfjlnejeffkdoaaBA
import Derived.Deep.AppendLies
import Derived.Test.YtfjlnejeffkdoaaVV
import Derived.Test.YtfjlnejeffkdoaaXX
namespace Go.Proofs.Ytfjlnejeffkdoaa
open Go.RowKit Go.Shelf
attribute [local irreducible] arrV wpQuiet

set_option maxRecDepth 100000 in
set_option maxHeartbeats 1000000 in
theorem units_no (sl rl wl ta na : Value) (d k o : Value) (w : World) (HR : ∀ W, Below w.heap.size w W → Calls Try.prog 41 #[.agg #[sl], .agg #[d, k, o]] W fun e w' => e = .returned (.bool false) ∧ Below W.heap.size W w') :
    Calls Try.prog 12 #[.agg #[sl], .agg #[d, k, o], wl, ta, na] w fun e w' => e = .returned (.bool true) ∧ Below w.heap.size w w' := by
  have HRR := Lib.hid HR
  have hb2 := below2 w (.cells #[sl] 24) (.cells #[d, k, o] 26)
  have HA := Lib.hid awake_any
  clear HR
  go_enter Try.func12, Try.ntmps12
  go_wp2_with fail
  refine (HRR.out _ hb2).mono ?_
  rintro e w1 ⟨rfl, hb1⟩
  have hbw := below_to hb2 hb1
  clear hb1 hb2
  go_wp2_with fail
  refine (HA.out _).mono ?_
  rintro e w2 ⟨rfl, hb3⟩
  have hbw2 := below_to hbw hb3
  clear hb3 hbw
  go_wp2
  go_ret
  exact ⟨rfl, hbw2⟩

theorem pts_own84 {w : World} {base : Nat} {v : Value} {l : List Pt} (h : w.ownsRow base 84 3 v l.length (flatT l)) (hl : 0 < l.length) : ∃ B c, v = .slice (some ⟨B, 0, none⟩) l.length c ∧ PtsIn w B 0 l ∧ base ≤ B := by
  obtain ⟨h1, h2⟩ := h
  rcases h2 with ⟨-, h0⟩ | ⟨g, cap, cur, rfl, hb, hg, hn, hc, hs, ht⟩
  · omega
  · refine ⟨g, cap, rfl, fun i hi => ?_, hb⟩
    have hcell : ∀ j, j < l.length * 3 → w.cell? ⟨g, 0 + j, none⟩ = (flatT l)[j]? := fun j hj => by
      rw [Nat.zero_add, cell_of_row w g j _ _ _ hg, ← ht, List.getElem?_take, if_pos hj]
      simp
    obtain ⟨a, b, c⟩ := flatT_get l i hi
    exact ⟨(hcell _ (by omega)).trans a, (hcell _ (by omega)).trans b, (hcell _ (by omega)).trans c⟩

theorem pt_info84 : ∃ i z, Try.prog.info? 84 = some i ∧ i.zero = some z ∧ i.size = 3 ∧ i.bytes = 24 ∧ z.cells.size = 3 := by
  have h1 : (Try.prog.info? 84).map (·.size) = some 3 := by kernel_rfl
  have h2 : (Try.prog.info? 84).map (·.bytes) = some 24 := by kernel_rfl
  have h3 : ((Try.prog.info? 84).bind (·.zero)).map (·.cells.size) = some 3 := by kernel_rfl
  cases h : Try.prog.info? 84 with
  | none => simp [h] at h1
  | some i =>
    cases hz : i.zero with
    | none => simp [h, hz] at h3
    | some z =>
      simp [h, hz] at h1 h2 h3
      exact ⟨i, z, rfl, hz, h1, h2, h3⟩
theorem pt_built84 (x y z : Int) : Try.prog.builtSlice 84 1 [(0, .agg #[.int .i64 x, .int .i64 y, .int .i64 z])] = some #[.int .i64 x, .int .i64 y, .int .i64 z] := by kernel_rfl


/-- One point more, behind a slice of one's own: where the new slice lies. -/
theorem wpList_append_pt84 {ops : Array Oper} {rest : List Oper} {o : Oper} {a : Act} {Q : Exit → Act → World → Prop} {W : World} (hgd : o.guard = none) (s x : Operand) (ho : o.op = .call { callee := .builtin .append, args := #[s, x], argTypes := #[22, 22] }) (base n : Nat) (v : Value) (xs : List Value) (p : Pt) (ab : Nat)
    (hs : a.eval s = v) (hx : a.eval x = .slice (some ⟨ab, 0, none⟩) 1 1) (hown : W.ownsRow base 84 3 v n xs) (hb : base ≤ W.heap.size) (ha : W.heap[ab]? = some (.cells #[.int .i64 p.s, .int .i64 p.lo, .int .i64 p.hi] 84 (0, 0))) (hn : n ≤ 100)
    (h : ∀ g cap w', w'.ownsRow base 84 3 (.slice (some ⟨g, 0, none⟩) (n + 1) cap) (n + 1) (xs ++ [.int .i64 p.s, .int .i64 p.lo, .int .i64 p.hi]) → W.heap.size ≤ w'.heap.size → (∀ k, k < W.heap.size → v.ownBlock ≠ some k → w'.heap[k]? = W.heap[k]?) → Below base W w' → (v.ownBlock = some g ∨ g = W.heap.size) →
      wpList Try.prog ops Q rest (a.put o.dst (.slice (some ⟨g, 0, none⟩) (n + 1) cap)) w') : wpList Try.prog ops Q (o :: rest) a W := by
  obtain ⟨i, z, hi', hz, hsz, hby, hzs⟩ := pt_info84
  have hgev : ∀ g, v.ownBlock = some g → base ≤ g := fun g hgv => by
    rcases hown.2 with ⟨hv, _⟩ | ⟨g', _, _, hv, hbg, _, _⟩
    · rw [hv] at hgv; simp [Value.ownBlock] at hgv
    · rw [hv] at hgv
      simp [Value.ownBlock] at hgv
      subst hgv
      exact hbg
  obtain ⟨g, cap, w', hrun, h1, h2, h3, h4⟩ := run_append_lies (P := Try.prog) W 22 o.type base 84 i z 3 24 Try.underlying22 hi' hz hsz hby hzs (by omega) v n xs hown ⟨ab, 0, none⟩ 1 1 [.int .i64 p.s, .int .i64 p.lo, .int .i64 p.hi] rfl
    (fun j u hj => by
      rw [Addr.add_lit, Nat.zero_add, cell_of_row W ab j _ _ _ ha]
      simpa using hj)
    (by simp [Value.oneCell']) (by omega) (by simp [maxLen]; omega) (by omega) hb _ rfl
  refine wpList_plain hgd fun K hK => ?_
  unfold Oper.wp
  have hr : (execOp a.eval o).run Try.prog W = .ok (.value (.slice (some ⟨g, 0, none⟩) (n + 1) cap)) w' := by simp [execOp, ho, resolve, invoke, builtin, hs, hx, hrun, Result.andThen]
  rw [hr]
  exact hK _ _ (h g cap w' h1 h2.size (fun k hk hne => h2.block k hk (fun e => hne e.symm)) ⟨h2.os, h2.tape, h2.output, h2.size, fun k hk => h2.block k (by omega) (fun e => by have := hgev k e.symm; omega)⟩ h3)
end Go.Proofs.Ytfjlnejeffkdoaa

namespace Go.Proofs.Ytfjlnejeffkdoaa
open Go.RowKit Go.Shelf
attribute [local irreducible] arrV wpQuiet

theorem flatT_all {w : World} {b off : Nat} {ps : List Pt} (h : PtsIn w b off ps) : ∀ j u, (flatT ps)[j]? = some u → w.cell? ((⟨b, off, none⟩ : Addr).add j) = some u := fun j u hu => by
  have hj : j < ps.length * 3 := by
    have := (List.getElem?_eq_some_iff.1 hu).1
    rwa [flatT_len] at this
  rw [Addr.add_lit]
  have hi : j / 3 < ps.length := by omega
  obtain ⟨a, c, d⟩ := h (j / 3) hi
  obtain ⟨e, f, g⟩ := flatT_get ps (j / 3) hi
  rcases (show j = j / 3 * 3 ∨ j = j / 3 * 3 + 1 ∨ j = j / 3 * 3 + 2 by omega) with q | q | q
  · rw [q] at hu ⊢
    rw [q] at e a
    rw [show j / 3 * 3 / 3 = j / 3 by omega] at e a
    exact a.trans (e.symm.trans hu)
  · rw [q] at hu ⊢
    rw [f] at hu
    exact c.trans hu
  · rw [q] at hu ⊢
    rw [g] at hu
    exact d.trans hu

theorem append84_none (W : World) (ty g n cap c : Nat) (h : n ≤ cap) : (Builtin.append_ #[22, 22] ty #[.slice (some ⟨g, 0, none⟩) n cap, .slice none 0 c]).run Try.prog W = .ok (.slice (some ⟨g, 0, none⟩) n cap) W := by
  obtain ⟨i, z, hi, hz, hsz, hby, hzs⟩ := pt_info84
  simp [Builtin.append_, run_underlying Try.underlying22, sizeOf, typeInfo, hi, Builtin.lenOf, h, run_firstCells_none, storeCells, Result.andThen]

/-- The points of a curve, behind an empty slice of one's own. -/
theorem append_curve (sa : Option Addr) (n c ty : Nat) (ps : List Pt) (W : World) (base g : Nat) (hn : n ≤ 1048576) (hps : ps.length = n) (h0 : sa = none → n = 0) (hp : 0 < n → ∃ b off, sa = some ⟨b, off, none⟩ ∧ PtsIn W b off ps)
    (hb : base ≤ W.heap.size) (hg : base ≤ g) (hrow : W.heap[g]? = some (.cells #[] 84 (0, 0))) :
    ∃ v' w', (Builtin.append_ #[22, 22] ty #[.slice (some ⟨g, 0, none⟩) 0 0, .slice sa n c]).run Try.prog W = .ok v' w' ∧ w'.ownsRow base 84 3 v' n (flatT ps) ∧ W.grownBy w' (some g) ∧ (v'.ownBlock = some g ∨ v'.ownBlock = some W.heap.size) := by
  obtain ⟨i, z, hi, hz, hsz, hby, hzs⟩ := pt_info84
  have hown : W.ownsRow base 84 3 (.slice (some ⟨g, 0, none⟩) 0 0) 0 [] := ⟨rfl, .inr ⟨g, 0, #[], rfl, hg, hrow, Nat.le_refl _, Nat.zero_le _, rfl, rfl⟩⟩
  cases sa with
  | none =>
    obtain rfl := h0 rfl
    obtain rfl := List.eq_nil_of_length_eq_zero hps
    exact ⟨_, W, append84_none W ty g 0 0 c (Nat.le_refl _), hown, ⟨rfl, rfl, rfl, Nat.le_refl _, fun _ _ _ => rfl⟩, .inl rfl⟩
  | some ad =>
    have hcells : ∀ j u, (flatT ps)[j]? = some u → W.cell? (ad.add j) = some u := fun j u hu => by
      rcases Nat.eq_zero_or_pos n with h | h
      · obtain rfl := List.eq_nil_of_length_eq_zero (hps.trans h)
        simp [flatT] at hu
      · obtain ⟨b, off, e, hP⟩ := hp h
        cases e
        exact flatT_all hP j u hu
    obtain ⟨v', w', hr, h1, h2, _, h3⟩ := run_append_own_at (P := Try.prog) W base 22 ty 84 i z 3 24 Try.underlying22 hi hz hsz hby hzs (by omega) _ 0 [] hown ad n c (flatT ps) (by rw [flatT_len, hps]) hcells
      (by
        intro u hu
        obtain ⟨p, _, hu⟩ := List.mem_flatMap.1 hu
        simp at hu
        rcases hu with rfl | rfl | rfl <;> rfl) (by simp [maxLen]; omega) (by omega) hb
    refine ⟨v', w', hr, by simpa using h1, h2, ?_⟩
    rcases h3 with h | h
    · exact .inl h
    · exact .inr h

/-- One point more; where the slice lies then. -/
theorem append_one84 (W : World) (base n ty : Nat) (v : Value) (xs : List Value) (p : Pt) (ab : Nat) (hown : W.ownsRow base 84 3 v n xs) (hb : base ≤ W.heap.size) (ha : W.heap[ab]? = some (.cells #[.int .i64 p.s, .int .i64 p.lo, .int .i64 p.hi] 84 (0, 0))) (hn : n ≤ 1048576) :
    ∃ g cap w', (Builtin.append_ #[22, 22] ty #[v, .slice (some ⟨ab, 0, none⟩) 1 1]).run Try.prog W = .ok (.slice (some ⟨g, 0, none⟩) (n + 1) cap) w' ∧ w'.ownsRow base 84 3 (.slice (some ⟨g, 0, none⟩) (n + 1) cap) (n + 1) (xs ++ [.int .i64 p.s, .int .i64 p.lo, .int .i64 p.hi]) ∧
      W.grownBy w' v.ownBlock ∧ (v.ownBlock = some g ∨ g = W.heap.size) ∧ g < w'.heap.size := by
  obtain ⟨i, z, hi, hz, hsz, hby, hzs⟩ := pt_info84
  exact run_append_lies (P := Try.prog) W 22 ty base 84 i z 3 24 Try.underlying22 hi hz hsz hby hzs (by omega) v n xs hown ⟨ab, 0, none⟩ 1 1 [.int .i64 p.s, .int .i64 p.lo, .int .i64 p.hi] rfl
    (fun j u hj => by
      rw [Addr.add_lit, Nat.zero_add, cell_of_row W ab j _ _ _ ha]
      simpa using hj)
    (by simp [Value.oneCell']) (by omega) (by simp [maxLen]; omega) (by omega) hb _ rfl

/-- One number more; where the slice lies then. -/
theorem append_one3 (W : World) (base n ty : Nat) (v : Value) (xs : List Value) (x : Int) (ab : Nat) (hown : W.ownsRow base 3 1 v n xs) (hb : base ≤ W.heap.size) (ha : W.heap[ab]? = some (.cells #[.int .i64 x] 3 (0, 0))) (hn : n ≤ 1048576) :
    ∃ g cap w', (Builtin.append_ #[27, 27] ty #[v, .slice (some ⟨ab, 0, none⟩) 1 1]).run Try.prog W = .ok (.slice (some ⟨g, 0, none⟩) (n + 1) cap) w' ∧ w'.ownsRow base 3 1 (.slice (some ⟨g, 0, none⟩) (n + 1) cap) (n + 1) (xs ++ [.int .i64 x]) ∧
      W.grownBy w' v.ownBlock ∧ (v.ownBlock = some g ∨ g = W.heap.size) ∧ g < w'.heap.size := by
  obtain ⟨i, z, hi, hz, hsz, hby, hzs⟩ := int_info
  exact run_append_lies (P := Try.prog) W 27 ty base 3 i z 1 8 Try.underlying27 hi hz hsz hby hzs (by omega) v n xs hown ⟨ab, 0, none⟩ 1 1 [.int .i64 x] rfl
    (fun j u hj => by
      rw [Addr.add_lit, Nat.zero_add, cell_of_row W ab j _ _ _ ha]
      simpa using hj)
    (by simp [Value.oneCell']) (by omega) (by simp [maxLen]; omega) (by omega) hb _ rfl

/-- list: a copy of the numbers, with its row. -/
theorem list_row (bt offt cap : Nat) (t : List Int) (w : World) (h0 : 0 < t.length) (hn : t.length ≤ 100) (hi : IntsIn w bt offt t) :
    Calls Try.prog 21 #[.slice (some ⟨bt, offt, none⟩) t.length cap] w fun e w' => ∃ B c, e = .returned (.slice (some ⟨B, 0, none⟩) t.length c) ∧ w'.ownsRow w.heap.size 3 1 (.slice (some ⟨B, 0, none⟩) t.length c) t.length (t.map (Value.int .i64)) ∧ w.heap.size ≤ B ∧ B < w'.heap.size ∧ Below w.heap.size w w' := by
  go_enter Try.func21, Try.ntmps21
  go_wp2_with (first
    | (refine wpList_append_ints rfl (.const (.slice none 0 0)) (.tmp 3) rfl w.heap.size 0 t.length cap _ [] bt offt t rfl rfl (World.ownsRow_nil _ _ _ _) (Nat.le_refl _) hi rfl (by omega) ?_
       intro v' w' h1 h2)
    | fail)
  rw [Nat.zero_add] at h1
  obtain ⟨B, c, rfl, q1, q2, q3⟩ := intsIn_own h1 h0
  go_ret
  exact ⟨B, c, rfl, h1, q2, q3, h2⟩

/-- Whether a curve of at most 21 points is ready. -/
theorem ready_more (B cap : Nat) (l : List Pt) (d k o : Int) (hl : 0 < l.length) (hl21 : l.length ≤ 21) :
    ∃ q : Bool, (q = true → l.length ≤ 20 ∧ goodsB l 0 = true ∧ ruleB ⟨d, k, o⟩ = true) ∧
      ∀ W, PtsIn W B 0 l → Calls Try.prog 41 #[.agg #[.slice (some ⟨B, 0, none⟩) l.length cap], .agg #[.int .i64 d, .int .i64 k, .int .i64 o]] W fun e w' => e = .returned (.bool q) ∧ Below W.heap.size W w' := by
  by_cases h : l.length ≤ 20
  · refine ⟨goodsB l 0 && ruleB ⟨d, k, o⟩, fun hq => ?_, fun W hP => ready_pts B 0 cap l d k o W h hl hP⟩
    rw [Bool.and_eq_true] at hq
    exact ⟨h, hq.1, hq.2⟩
  · refine ⟨false, fun hq => (by cases hq), fun W _ => ?_⟩
    have := ready_any (some ⟨B, 0, none⟩) l.length cap 3 d k o W (by omega) (IsRule_any d k o) (Thin_any _ _ _) (fun W _ => Fault_long (some ⟨B, 0, none⟩) l.length cap W (by omega) (by simp [maxLen]; omega))
    simpa using this

section
variable {P : Program} {ops : Array Oper} {S : World → Prop}
theorem exec_append {a : Act} {o : Oper} {w w' : World} {t u : TypeId} {v x y : Value} (s z : Operand) (ho : o.op = .call { callee := .builtin .append, args := #[s, z], argTypes := #[t, u] }) (hs : a.eval s = v) (hz : a.eval z = x)
    (hr : (Builtin.append_ #[t, u] o.type #[v, x]).run P w = .ok y w') : (execOp a.eval o).run P w = .ok (.value y) w' := by
  simp [execOp, ho, resolve, invoke, builtin, hs, hz, hr, Result.andThen]
theorem GWalk.owns {B : Nat} {Fin : (Nat → Prop) → Act → World → Prop} {σ : List Stp} {E : List Ent} {Own : Nat → Prop} {a : Act} {w : World} {i : Nat} {o : Oper} (ho : ops[i]? = some o) (hw : Region.wanted o (yielded ops a.tmps) = true)
    (h : ∃ f args, (∀ w1, S w1 → (execOp a.eval o).run P w1 = .ok (.enter f args) w1) ∧ ∀ w1, Below w.heap.size w w1 → S w1 → (∀ k, Own k → k < w1.heap.size) → Calls P f args w1 fun e w2 => ∃ v b, e = .returned v ∧ Below w1.heap.size w1 w2 ∧ S w2 ∧ w1.heap.size ≤ b ∧ b < w2.heap.size ∧ GWalk P ops S B Fin σ E (fun k => Own k ∨ k = b) (a.put o.dst v) w2) : GWalk P ops S B Fin (.call i :: σ) E Own a w :=
  let ⟨f, args, hr, hn⟩ := h
  ⟨o, ho, hw, fun w1 hb hS hO => ⟨f, args, hr w1 hS, (hn w1 hb hS hO).mono fun _ _ ⟨v, b, he, hb2, hS2, h1, h2, hw2⟩ => ⟨v, (fun k => Own k ∨ k = b), he, hS2, ⟨hb2.size, fun k hk _ => hb2.block k hk, fun k hk => by
    rcases hk with hk | rfl
    · exact ⟨Or.inl hk, Nat.lt_of_lt_of_le (hO k hk) hb2.size⟩
    · exact ⟨Or.inr h1, h2⟩⟩, hw2⟩⟩⟩
end
end Go.Proofs.Ytfjlnejeffkdoaa
