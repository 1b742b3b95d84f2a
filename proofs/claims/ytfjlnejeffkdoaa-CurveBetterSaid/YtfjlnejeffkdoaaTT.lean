/- CurveUnits where it is not ready, walked; one point of the reference more behind a slice of one's own. -/
import Derived.Test.YtfjlnejeffkdoaaOO
import Derived.Test.YtfjlnejeffkdoaaRR
import Derived.Test.YtfjlnejeffkdoaaSS
import Derived.Deep.AppendLies
namespace Go.Proofs.Ytfjlnejeffkdoaa
open Go.RowKit Go.Shelf
attribute [local irreducible] arrV wpQuiet

set_option maxRecDepth 100000 in
set_option maxHeartbeats 1000000 in
theorem units_no (sl rl wl ta na : Value) (d k o : Value) (w : World) (HR : ∀ W, Below w.heap.size w W → Calls Try.prog 41 #[.agg #[sl], .agg #[d, k, o]] W fun e w' => e = .returned (.bool false) ∧ Below W.heap.size W w') :
    Calls Try.prog 12 #[.agg #[sl], .agg #[d, k, o], wl, ta, na] w fun e w' => e = .returned (.bool true) ∧ Below w.heap.size w w' := by
  have HRR := Lib.hid HR
  have hb2 := below2 w (.cells #[sl] 24) (.cells #[d, k, o] 26)
  have HA := Lib.hid awake_any
  clear HR
  go_enter Try.func12, Try.ntmps12
  go_wp2_with fail
  refine (HRR.out _ hb2).mono ?_
  rintro e w1 ⟨rfl, hb1⟩
  have hbw := below_to hb2 hb1
  clear hb1 hb2
  go_wp2_with fail
  refine (HA.out _).mono ?_
  rintro e w2 ⟨rfl, hb3⟩
  have hbw2 := below_to hbw hb3
  clear hb3 hbw
  go_wp2
  go_ret
  exact ⟨rfl, hbw2⟩

theorem pts_own84 {w : World} {base : Nat} {v : Value} {l : List Pt} (h : w.ownsRow base 84 3 v l.length (flatT l)) (hl : 0 < l.length) : ∃ B c, v = .slice (some ⟨B, 0, none⟩) l.length c ∧ PtsIn w B 0 l ∧ base ≤ B := by
  obtain ⟨h1, h2⟩ := h
  rcases h2 with ⟨-, h0⟩ | ⟨g, cap, cur, rfl, hb, hg, hn, hc, hs, ht⟩
  · omega
  · refine ⟨g, cap, rfl, fun i hi => ?_, hb⟩
    have hcell : ∀ j, j < l.length * 3 → w.cell? ⟨g, 0 + j, none⟩ = (flatT l)[j]? := fun j hj => by
      rw [Nat.zero_add, cell_of_row w g j _ _ _ hg, ← ht, List.getElem?_take, if_pos hj]
      simp
    obtain ⟨a, b, c⟩ := flatT_get l i hi
    exact ⟨(hcell _ (by omega)).trans a, (hcell _ (by omega)).trans b, (hcell _ (by omega)).trans c⟩

theorem pt_info84 : ∃ i z, Try.prog.info? 84 = some i ∧ i.zero = some z ∧ i.size = 3 ∧ i.bytes = 24 ∧ z.cells.size = 3 := by
  have h1 : (Try.prog.info? 84).map (·.size) = some 3 := by kernel_rfl
  have h2 : (Try.prog.info? 84).map (·.bytes) = some 24 := by kernel_rfl
  have h3 : ((Try.prog.info? 84).bind (·.zero)).map (·.cells.size) = some 3 := by kernel_rfl
  cases h : Try.prog.info? 84 with
  | none => simp [h] at h1
  | some i =>
    cases hz : i.zero with
    | none => simp [h, hz] at h3
    | some z =>
      simp [h, hz] at h1 h2 h3
      exact ⟨i, z, rfl, hz, h1, h2, h3⟩
theorem pt_built84 (x y z : Int) : Try.prog.builtSlice 84 1 [(0, .agg #[.int .i64 x, .int .i64 y, .int .i64 z])] = some #[.int .i64 x, .int .i64 y, .int .i64 z] := by kernel_rfl


/-- One point more, behind a slice of one's own: where the new slice lies. -/
theorem wpList_append_pt84 {ops : Array Oper} {rest : List Oper} {o : Oper} {a : Act} {Q : Exit → Act → World → Prop} {W : World} (hgd : o.guard = none) (s x : Operand) (ho : o.op = .call { callee := .builtin .append, args := #[s, x], argTypes := #[22, 22] }) (base n : Nat) (v : Value) (xs : List Value) (p : Pt) (ab : Nat)
    (hs : a.eval s = v) (hx : a.eval x = .slice (some ⟨ab, 0, none⟩) 1 1) (hown : W.ownsRow base 84 3 v n xs) (hb : base ≤ W.heap.size) (ha : W.heap[ab]? = some (.cells #[.int .i64 p.s, .int .i64 p.lo, .int .i64 p.hi] 84 (0, 0))) (hn : n ≤ 100)
    (h : ∀ g cap w', w'.ownsRow base 84 3 (.slice (some ⟨g, 0, none⟩) (n + 1) cap) (n + 1) (xs ++ [.int .i64 p.s, .int .i64 p.lo, .int .i64 p.hi]) → W.heap.size ≤ w'.heap.size → (∀ k, k < W.heap.size → v.ownBlock ≠ some k → w'.heap[k]? = W.heap[k]?) → Below base W w' → (v.ownBlock = some g ∨ g = W.heap.size) →
      wpList Try.prog ops Q rest (a.put o.dst (.slice (some ⟨g, 0, none⟩) (n + 1) cap)) w') : wpList Try.prog ops Q (o :: rest) a W := by
  obtain ⟨i, z, hi', hz, hsz, hby, hzs⟩ := pt_info84
  have hgev : ∀ g, v.ownBlock = some g → base ≤ g := fun g hgv => by
    rcases hown.2 with ⟨hv, _⟩ | ⟨g', _, _, hv, hbg, _, _⟩
    · rw [hv] at hgv; simp [Value.ownBlock] at hgv
    · rw [hv] at hgv
      simp [Value.ownBlock] at hgv
      subst hgv
      exact hbg
  obtain ⟨g, cap, w', hrun, h1, h2, h3, h4⟩ := run_append_lies (P := Try.prog) W 22 o.type base 84 i z 3 24 Try.underlying22 hi' hz hsz hby hzs (by omega) v n xs hown ⟨ab, 0, none⟩ 1 1 [.int .i64 p.s, .int .i64 p.lo, .int .i64 p.hi] rfl
    (fun j u hj => by
      rw [Addr.add_lit, Nat.zero_add, cell_of_row W ab j _ _ _ ha]
      simpa using hj)
    (by simp [Value.oneCell']) (by omega) (by simp [maxLen]; omega) (by omega) hb _ rfl
  refine wpList_plain hgd fun K hK => ?_
  unfold Oper.wp
  have hr : (execOp a.eval o).run Try.prog W = .ok (.value (.slice (some ⟨g, 0, none⟩) (n + 1) cap)) w' := by simp [execOp, ho, resolve, invoke, builtin, hs, hx, hrun, Result.andThen]
  rw [hr]
  exact hK _ _ (h g cap w' h1 h2.size (fun k hk hne => h2.block k hk (fun e => hne e.symm)) ⟨h2.os, h2.tape, h2.output, h2.size, fun k hk => h2.block k (by omega) (fun e => by have := hgev k e.symm; omega)⟩ h3)
end Go.Proofs.Ytfjlnejeffkdoaa
