/- Whether a curve and a rule are ready, for points that lie in memory; and two equal results compared. No condition but the number of points. -/
import Derived.Test.YtfjlnejeffkdoaaKK
namespace Go.Proofs.Ytfjlnejeffkdoaa
open Go.RowKit Go.Shelf
attribute [local irreducible] arrV wpQuiet

theorem ready_pts (b off cap : Nat) (ps : List Pt) (d k o : Int) (w : World) (hl20 : ps.length ≤ 20) (hl : 0 < ps.length) (hP : PtsIn w b off ps) :
    Calls Try.prog 41 #[.agg #[.slice (some ⟨b, off, none⟩) ps.length cap], .agg #[.int .i64 d, .int .i64 k, .int .i64 o]] w fun e w' => e = .returned (.bool (goodsB ps 0 && ruleB ⟨d, k, o⟩)) ∧ Below w.heap.size w w' := by
  have hltb := block_lt_of_cell (hP 0 hl).1
  have hE : ptsE ps = 0 ∨ ptsE ps = 1 ∨ ptsE ps = 3 := by
    unfold ptsE; split <;> simp
  have h25 : ps.length ≤ 25 := by omega
  have h := ready_any (some ⟨b, off, none⟩) ps.length cap (ptsE ps) d k o w hE (IsRule_any d k o) (Thin_any _ _ _) (fun W hb => Fault_pts b off cap ps W hl20 hl (hP.below hb hltb))
  have e : (decide (ps.length ≤ 25) && decide ((if ptsE ps = 0 then ruleE ⟨d, k, o⟩ else ptsE ps) = 0)) = (goodsB ps 0 && ruleB ⟨d, k, o⟩) := by
    cases hg : goodsB ps 0 <;> cases hr : ruleB ⟨d, k, o⟩
    · simp [ptsE_no hg]
    · simp [ptsE_no hg]
    · simp [ptsE_yes hg, ruleE_no hr]
    · simp [ptsE_yes hg, ruleE_yes hr, h25]
  rw [e] at h
  exact h

theorem st37 : Try.prog.stoodInHeld 37 = false := by kernel_rfl
theorem fields37 : (Try.prog.fieldsOf 37).toList.all (fun f => f.name != "_" && f.type == 3 && decide (f.offset < 7)) = true := by kernel_rfl
theorem rsV_int (x : Rs) (j : Nat) (h : j < 7) : ∃ z : Int, (rsV x)[j]? = some (.int .i64 z) := by
  match j, h with
  | 0, _ => exact ⟨_, rfl⟩
  | 1, _ => exact ⟨_, rfl⟩
  | 2, _ => exact ⟨_, rfl⟩
  | 3, _ => exact ⟨_, rfl⟩
  | 4, _ => exact ⟨_, rfl⟩
  | 5, _ => exact ⟨_, rfl⟩
  | 6, _ => exact ⟨_, rfl⟩
theorem eq_fields (x : Rs) (w : World) : ∀ fs : List Field, fs.all (fun f => f.name != "_" && f.type == 3 && decide (f.offset < 7)) = true → (Op.eqFields 9999 (rsV x) (rsV x) fs).run Try.prog w = .ok true w
  | [], _ => by simp [Op.eqFields, Sem.run_pure]
  | f :: fs, h => by
    simp only [List.all_cons, Bool.and_eq_true, bne_iff_ne, beq_iff_eq, decide_eq_true_eq] at h
    obtain ⟨⟨⟨h1, h2⟩, h3⟩, h4⟩ := h
    obtain ⟨z, hz⟩ := rsV_int x f.offset h3
    have hp : (part 3 (rsV x) f.offset).run Try.prog w = .ok (.int .i64 z) w := run_part_plain w pk3 hz
    have e : (Op.equalIn 9999 3 (.int .i64 z) (.int .i64 z)).run Try.prog w = .ok (z == z) w := run_equalIn_int w 9998 3 .i64 .i64 z z Try.underlying3
    have ih := eq_fields x w fs (by simpa using h4)
    simp [Op.eqFields, Sem.run_bind, Sem.run_ite, h1, h2, hp, e, ih, Result.andThen_ok, Sem.run_pure]
theorem ne37 (x : Rs) (w : World) : (binOp .neq 37 (.agg (rsV x)) (.agg (rsV x))).run Try.prog w = .ok (.bool false) w := by
  have h : (Op.equal 37 (.agg (rsV x)) (.agg (rsV x))).run Try.prog w = .ok true w := by
    show (Op.equalIn (9999 + 1) 37 _ _).run Try.prog w = _
    rw [run_equalIn_struct w 9999 37 _ _ s37e st37]
    exact eq_fields x w _ fields37
  simp [binOp, Sem.run_bind, h, Result.andThen_ok, Sem.run_pure]
end Go.Proofs.Ytfjlnejeffkdoaa
