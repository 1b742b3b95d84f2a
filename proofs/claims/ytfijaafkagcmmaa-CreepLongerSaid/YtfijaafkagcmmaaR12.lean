/- The statement CreepLonger holds: for every material, runs, plan, segment and hours the law returns true and leaves what it was given as it was. No condition. -/
import Derived.Test.YtfijaafkagcmmaaR11
namespace Go.Proofs.Ytfijaafkagcmmaa
open Go.ChangeShapes Go.WideShapes Go.ChangeAt Go.RowKit Go.Deep

theorem knob_own : ownKnob Try.prog.godebug = none := by kernel_rfl
theorem laid_out : laidOutB Try.prog = true := by kernel_rfl

set_option maxRecDepth 100000
section
variable {H : Type} {enc : TypeId × Value → H} {w : World} {base fuel : Nat} {spare : Nat → Bool} {held : Bool}
theorem open_plan_cap {r : Reach} {b0 : Nat} {v : Value} {d : DataW H} {p : List MemPlace} (hv : Value.okWide Try.prog w r b0 52 v) (h : DataW.Trod enc Try.prog w base spare held 52 v d p) :
    ∃ a cap ss, v = .slice a ss.length cap ∧ ss.length ≤ cap ∧ SegsV w.heap.size w (.slice a ss.length cap) ss := by
  obtain ⟨a0, len, cap, rfl⟩ := okWide_slice Try.underlying52 hv
  obtain ⟨ss, hs⟩ := open_plan hv h
  obtain ⟨a', cap', e, hp⟩ := hs
  simp only [Value.slice.injEq] at e
  obtain ⟨rfl, rfl, rfl⟩ := e
  refine ⟨a0, cap, ss, rfl, ?_, a0, cap, rfl, hp⟩
  obtain ⟨fuel, hf⟩ := h
  rcases open_slice Try.underlying52 hf with ⟨hcs, _⟩ | ⟨a, len', cap', m, n, D, Pl, hcs, hb, hl, _⟩
  · simp only [Value.cells, List.cons.injEq, Value.slice.injEq, and_true] at hcs
    omega
  · simp only [Value.cells, List.cons.injEq, Value.slice.injEq, and_true] at hcs
    obtain ⟨-, e1, e2⟩ := hcs
    omega
end

theorem law_longer (mv rv : Value) (ap : Option Addr) (capp : Nat) (ms : List Rg) (rs : List Rn) (ss : List Sg) (a y : Int) (w : World) (ha : 0 ≤ a ∧ a < 256) (hy : 0 ≤ y ∧ y < 65536) (hV : RgsV w.heap.size w mv ms) (hR : RunsV w.heap.size w rv rs) (hP : SegsV w.heap.size w (.slice ap ss.length capp) ss) (hcap : ss.length ≤ capp) :
    Calls Try.prog 13 #[.agg #[mv], rv, .slice ap ss.length capp, .int .u8 a, .int .u16 y] w fun e w' => e = .returned (.bool true) ∧ Below w.heap.size w w' := by
  cases hz : (readyB ms rs ss && decide (ss.length ≠ 0)) with
  | false => exact longer_no _ _ mv rv _ ms rs ss w hV hR hP hz
  | true =>
    simp only [Bool.and_eq_true, decide_eq_true_eq] at hz
    exact longer_yes mv rv ap capp ms rs ss a y w ha hy hV hR hP hcap hz.1 (by omega)

set_option maxRecDepth 100000 in
theorem longer_lifted (os : Os) (started : os.Started) (H : Type) (enc : TypeId × Value → H) :
    ReturnsInHanded {} Try.checked os 13 .any (Rows.creepLongerSpec.pre6 enc Try.prog Try.f13 Rows.creepLongerRow.domain false) (Rows.creepLongerSpec.post enc Try.prog Try.f13 false true false false) := by
  refine returnsInHanded_of_change (C := Try.checked) knob_own started (by kernel_rfl) Try.func13
    (ChangeSpec.witness6 (enc := enc) (C := Try.checked) false ⟨#[], #[.agg #[.slice none 0 0], .slice none 0 0, .slice none 0 0, .int .u8 0, .int .u16 0], []⟩ 8 (by kernel_rfl) (by kernel_rfl) (by kernel_rfl) (by kernel_rfl)) ?_
  intro W base args ds gs before hval0 hW _ _
  have hval : ∀ (j : Nat) t v, Try.f13.params[j]? = some t → args[j]? = some v → Value.okWide Try.prog W .any base t v := hval0
  have hW' := hW
  obtain ⟨p, q, hA0, hV, rfl, hfz, hnd⟩ := hW
  have hA : DataW.TrodAll enc Try.prog W 0 (fun _ => true) true Try.f13.params.toList args.toList ds p := hA0
  rw [Try.params13] at hA hval
  obtain ⟨v0, vs0, d0, ds0, p0, q0, hargs, rfl, rfl, h0, r0⟩ := trodAll_cons hA
  obtain ⟨v1, vs1, d1, ds1, p1, q1, rfl, rfl, rfl, h1, r1⟩ := trodAll_cons r0
  obtain ⟨v2, vs2, d2, ds2, p2, q2, rfl, rfl, rfl, h2, r2⟩ := trodAll_cons r1
  obtain ⟨v3, vs3, d3, ds3, p3, q3, rfl, rfl, rfl, h3, r3⟩ := trodAll_cons r2
  obtain ⟨v4, vs4, d4, ds4, p4, q4, rfl, rfl, rfl, h4, r4⟩ := trodAll_cons r3
  obtain ⟨rfl, rfl, rfl⟩ := trodAll_nil r4
  obtain ⟨args⟩ := args
  simp only at hargs
  subst hargs
  obtain ⟨rfl, rfl⟩ := trodVars_none hV
  obtain ⟨mv, ms, rfl, hm⟩ := open_material (hval 0 24 v0 rfl rfl) h0
  obtain ⟨rs, hr⟩ := open_run_list (hval 1 25 v1 rfl rfl) h1
  obtain ⟨ap, capp, ss, rfl, hcap, hss⟩ := open_plan_cap (hval 2 52 v2 rfl rfl) h2
  obtain ⟨da, rfl, rfl, rfl, wa⟩ := open_int Try.underlying5 (hval 3 5 v3 rfl rfl) h3
  obtain ⟨oa, rfl, rfl, rfl, wb⟩ := open_int Try.underlying88 (hval 4 88 v4 rfl rfl) h4
  have hda : 0 ≤ da ∧ da < 256 := by
    simp [Lit.wf, IntKind.min, IntKind.max, IntKind.signed, IntKind.bits] at wa
    omega
  have hoa : 0 ≤ oa ∧ oa < 65536 := by
    simp [Lit.wf, IntKind.min, IntKind.max, IntKind.signed, IntKind.bits] at wb
    omega
  clear hA0 hval0
  refine (law_longer mv v1 ap capp ms rs ss da oa W hda hoa hm hr hss hcap).mono fun e W' ⟨he, hb⟩ => ?_
  subst he
  have hlt : ∀ x ∈ p0 ++ (p1 ++ p2), x.block < W.heap.size := fun x hx => by simpa using hW'.lt x (by simpa using hx)
  have e1 : Rows.creepLongerSpec.fn H ([d0, d1, d2, .lit (.int .u8 da), .lit (.int .u16 oa)] ++ []) = { results := [.lit (.bool true)], args := [d0, d1, d2, .lit (.int .u8 da), .lit (.int .u16 oa)] } := rfl
  refine ⟨_, rfl, _, _, _, [], p0 ++ (p1 ++ (p2 ++ ([] ++ ([] ++ [])))), [], hW', ?_, ?_, ?_, hb.frame _, fun h => by cases h⟩
  · rw [e1]
    exact trodAll_mk1 (shut_bool Try.underlying4 true)
  · rw [e1]
    exact trodAll_cons_mk (Below.trod laid_out (by kernel_rfl) (of_decide_eq_true (by kernel_rfl)) h0 hb (fun x hx => hlt x (by simp [hx])))
      (trodAll_cons_mk (Below.trod laid_out (by kernel_rfl) (of_decide_eq_true (by kernel_rfl)) h1 hb (fun x hx => hlt x (by simp [hx])))
      (trodAll_cons_mk (Below.trod laid_out (by kernel_rfl) (of_decide_eq_true (by kernel_rfl)) h2 hb (fun x hx => hlt x (by simp [hx])))
      (trodAll_cons_mk (shut_int Try.underlying5 wa) (trodAll_cons_mk (shut_int Try.underlying88 wb) trodAll_mk0))))
  · rfl

theorem longer_holds : Rows.CreepLongerSaid :=
  OpenClaim.holds_of_wide 13 Try.f13 rfl rfl rfl rfl rfl rfl rfl ⟨rfl, rfl, rfl, rfl, rfl⟩ rfl rfl rfl rfl rfl (by kernel_rfl) Try.func13 (by kernel_rfl)
    (of_decide_eq_true (by kernel_rfl)) (by unfold Func.isWrapper; rw [if_neg (of_decide_eq_false (by kernel_rfl))]; exact ⟨rfl, rfl⟩)
    (fun os started H enc _ => longer_lifted os started H enc)
#print axioms longer_holds
end Go.Proofs.Ytfijaafkagcmmaa
