/- The statement CurveBetter holds: for every curve, rule and three bytes the law returns true and leaves what it was given as it was. No condition. -/
import Derived.Test.YtfjlnejeffkdoaaNN
import Derived.Test.YtfjlnejeffkdoaaBM
namespace Go.Proofs.Ytfjlnejeffkdoaa
open Go.ChangeShapes Go.WideShapes Go.ChangeAt Go.RowKit

/-- The law returns true: a curve, a rule and three bytes, as they lie in memory. -/
theorem better_any (sa : Option Addr) (n cap : Nat) (d k o wi l8 h8 : Int) (w : World) (hn : n ≤ maxLen)
    (hp : 0 < n → ∃ b off ps, sa = some ⟨b, off, none⟩ ∧ ps.length = n ∧ PtsIn w b off ps) (hwi : 0 ≤ wi ∧ wi < 256) (hl8 : 0 ≤ l8 ∧ l8 < 256) (hh8 : 0 ≤ h8 ∧ h8 < 256) :
    Calls Try.prog 10 #[.agg #[.slice sa n cap], .agg #[.int .i64 d, .int .i64 k, .int .i64 o], .int .u8 wi, .int .u8 l8, .int .u8 h8] w fun e w' => e = .returned (.bool true) ∧ Below w.heap.size w w' := by
  by_cases h20 : 20 < n
  · refine better_no _ _ _ _ _ _ _ w (ready_of (E := 3) (by omega) (fun W _ => Fault_long sa n cap W h20 hn) ?_)
    simp
  by_cases h0 : n = 0
  · subst h0
    refine better_no _ _ _ _ _ _ _ w (ready_of (E := 1) (by omega) (fun W _ => Fault_empty sa cap W) ?_)
    simp
  obtain ⟨b, off, ps, rfl, rfl, hP⟩ := hp (by omega)
  have hl : 0 < ps.length := by omega
  have hl20 : ps.length ≤ 20 := by omega
  have hltb := block_lt_of_cell (hP 0 hl).1
  have hE : ptsE ps = 0 ∨ ptsE ps = 1 ∨ ptsE ps = 3 := by
    unfold ptsE; split <;> simp
  have hF : ∀ W, Below w.heap.size w W → Calls Try.prog 23 #[.agg #[.slice (some ⟨b, off, none⟩) ps.length cap]] W fun e w' => e = .returned (.int .i64 (ptsE ps)) ∧ Below W.heap.size W w' :=
    fun W hb => Fault_pts b off cap ps W hl20 hl (hP.below hb hltb)
  have h25 : ps.length ≤ 25 := by omega
  cases hg : goodsB ps 0 with
  | false =>
    refine better_no _ _ _ _ _ _ _ w (ready_of hE hF ?_)
    simp [ptsE_no hg]
  | true =>
    cases hr : ruleB ⟨d, k, o⟩ with
    | false =>
      refine better_no _ _ _ _ _ _ _ w (ready_of hE hF ?_)
      simp [ptsE_yes hg, ruleE_no hr]
    | true =>
      refine better_yes b off cap ps ⟨d, k, o⟩ wi l8 h8 w hl20 hl hg hr hP hwi hl8 hh8 (ready_of hE hF ?_)
      simp [ptsE_yes hg, ruleE_yes hr, h25]

set_option maxRecDepth 100000 in
theorem better_lifted (os : Os) (started : os.Started) (H : Type) (enc : TypeId × Value → H) :
    ReturnsInHanded {} Try.checked os 10 .any (Rows.curveBetterSpec.pre6 enc Try.prog Try.f10 Rows.curveBetterRow.domain false) (Rows.curveBetterSpec.post enc Try.prog Try.f10 false true false false) := by
  refine returnsInHanded_of_change (C := Try.checked) Try.own started (by kernel_rfl) Try.func10
    (ChangeSpec.witness6 (enc := enc) (C := Try.checked) false ⟨#[], #[.agg #[.slice none 0 0], .agg #[.int .i64 0, .int .i64 0, .int .i64 0], .int .u8 0, .int .u8 0, .int .u8 0], []⟩ 8 (by kernel_rfl) (by kernel_rfl) (by kernel_rfl) (by kernel_rfl)) ?_
  intro W base args ds gs before hval0 hW _ _
  have hval : ∀ (j : Nat) t v, Try.f10.params[j]? = some t → args[j]? = some v → Value.okWide Try.prog W .any base t v := hval0
  have hW' := hW
  obtain ⟨p, q, hA0, hV, rfl, hfz, hnd⟩ := hW
  have hA : DataW.TrodAll enc Try.prog W 0 (fun _ => true) true Try.f10.params.toList args.toList ds p := hA0
  rw [Try.params10] at hA hval
  obtain ⟨v0, vs0, d0, ds0, p0, q0, hargs, rfl, rfl, h0, r0⟩ := trodAll_cons hA
  obtain ⟨v1, vs1, d1, ds1, p1, q1, rfl, rfl, rfl, h1, r1⟩ := trodAll_cons r0
  obtain ⟨v2, vs2, d2, ds2, p2, q2, rfl, rfl, rfl, h2, r2⟩ := trodAll_cons r1
  obtain ⟨v3, vs3, d3, ds3, p3, q3, rfl, rfl, rfl, h3, r3⟩ := trodAll_cons r2
  obtain ⟨v4, vs4, d4, ds4, p4, q4, rfl, rfl, rfl, h4, r4⟩ := trodAll_cons r3
  obtain ⟨rfl, rfl, rfl⟩ := trodAll_nil r4
  obtain ⟨args⟩ := args
  simp only at hargs
  subst hargs
  obtain ⟨rfl, rfl⟩ := trodVars_none hV
  obtain ⟨sa, n, cap, rfl, hn, hp⟩ := open_curve (hval 0 24 v0 rfl rfl) h0
  obtain ⟨d, k, o, rfl⟩ := open_rule (hval 1 26 v1 rfl rfl) h1
  obtain ⟨wi, rfl, rfl, rfl, wc⟩ := open_int Try.underlying5 (hval 2 5 v2 rfl rfl) h2
  obtain ⟨da, rfl, rfl, rfl, wa⟩ := open_int Try.underlying5 (hval 3 5 v3 rfl rfl) h3
  obtain ⟨oa, rfl, rfl, rfl, wb⟩ := open_int Try.underlying5 (hval 4 5 v4 rfl rfl) h4
  have hwi : 0 ≤ wi ∧ wi < 256 := by
    simp [Lit.wf, IntKind.min, IntKind.max, IntKind.signed, IntKind.bits] at wc
    omega
  have hda : 0 ≤ da ∧ da < 256 := by
    simp [Lit.wf, IntKind.min, IntKind.max, IntKind.signed, IntKind.bits] at wa
    omega
  have hoa : 0 ≤ oa ∧ oa < 256 := by
    simp [Lit.wf, IntKind.min, IntKind.max, IntKind.signed, IntKind.bits] at wb
    omega
  clear hA0 hval0
  refine (better_any sa n cap d k o wi da oa W hn hp hwi hda hoa).mono fun e W' ⟨he, hb⟩ => ?_
  subst he
  have hlt : ∀ x ∈ p0 ++ p1, x.block < W.heap.size := fun x hx => by simpa using hW'.lt x (by simpa using hx)
  have e1 : Rows.curveBetterSpec.fn H ([d0, d1, .lit (.int .u8 wi), .lit (.int .u8 da), .lit (.int .u8 oa)] ++ []) = { results := [.lit (.bool true)], args := [d0, d1, .lit (.int .u8 wi), .lit (.int .u8 da), .lit (.int .u8 oa)] } := rfl
  refine ⟨_, rfl, _, _, _, [], p0 ++ (p1 ++ ([] ++ ([] ++ ([] ++ [])))), [], hW', ?_, ?_, ?_, hb.frame _, fun h => by cases h⟩
  · rw [e1]
    exact trodAll_mk1 (shut_bool Try.underlying4 true)
  · rw [e1]
    exact trodAll_cons_mk (Below.trod Try.laidOut (by kernel_rfl) (of_decide_eq_true (by kernel_rfl)) h0 hb (fun x hx => hlt x (by simp [hx])))
      (trodAll_cons_mk (Below.trod Try.laidOut (by kernel_rfl) (of_decide_eq_true (by kernel_rfl)) h1 hb (fun x hx => hlt x (by simp [hx])))
      (trodAll_cons_mk (shut_int Try.underlying5 wc) (trodAll_cons_mk (shut_int Try.underlying5 wa) (trodAll_cons_mk (shut_int Try.underlying5 wb) trodAll_mk0))))
  · rfl

theorem better_holds : Rows.CurveBetterSaid :=
  OpenClaim.holds_of_wide 10 Try.f10 rfl rfl rfl rfl rfl rfl rfl ⟨rfl, rfl, rfl, rfl, rfl⟩ rfl rfl rfl rfl rfl (by kernel_rfl) Try.func10 (by kernel_rfl)
    (of_decide_eq_true (by kernel_rfl)) (by unfold Func.isWrapper; rw [if_neg (of_decide_eq_false (by kernel_rfl))]; exact ⟨rfl, rfl⟩)
    (fun os started H enc _ => better_lifted os started H enc)
#print axioms better_holds
end Go.Proofs.Ytfjlnejeffkdoaa
