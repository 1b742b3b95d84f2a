/- The statement CurveOrder holds: for every curve, rule and list of words the law returns true and leaves what it was given as it was. No condition. -/
import Derived.Test.YtfjlnejeffkdoaaRows
import Derived.Test.YtfjlnejeffkdoaaKK
import Derived.Test.YtfjlnejeffkdoaaMM
import Derived.ProofKit
namespace Go.Proofs.Ytfjlnejeffkdoaa
open Go.ChangeShapes Go.WideShapes Go.ChangeAt Go.RowKit

theorem Try.own : ownKnob Try.prog.godebug = none := by kernel_rfl
theorem Try.laidOut : laidOutB Try.prog = true := by kernel_rfl

theorem ready_of {sa : Option Addr} {n cap : Nat} {E d k o : Int} {w : World} {x : Bool} (hE : E = 0 ∨ E = 1 ∨ E = 3)
    (hF : ∀ W, Below w.heap.size w W → Calls Try.prog 23 #[.agg #[.slice sa n cap]] W fun e w' => e = .returned (.int .i64 E) ∧ Below W.heap.size W w')
    (hx : (decide (n ≤ 25) && decide ((if E = 0 then ruleE ⟨d, k, o⟩ else E) = 0)) = x) :
    ∀ W, Below w.heap.size w W → Calls Try.prog 41 #[.agg #[.slice sa n cap], .agg #[.int .i64 d, .int .i64 k, .int .i64 o]] W fun e w' => e = .returned (.bool x) ∧ Below W.heap.size W w' := by
  intro W hb
  subst hx
  exact ready_any sa n cap E d k o W hE (IsRule_any d k o) (Thin_any sa n cap) (fun W' hb' => hF W' (below_to hb hb'))

/-- The law returns true: a curve, a rule and words, as they lie in memory. -/
theorem order_any (sa : Option Addr) (n cap : Nat) (d k o : Int) (aw : Option Addr) (m capw : Nat) (wd : Nat → Int) (w : World) (hn : n ≤ maxLen)
    (hp : 0 < n → ∃ b off ps, sa = some ⟨b, off, none⟩ ∧ ps.length = n ∧ PtsIn w b off ps) (hm : m ≤ maxLen)
    (hw : ∀ j, j < m → ∃ bw ow, aw = some ⟨bw, ow, none⟩ ∧ w.cell? ⟨bw, ow + j, none⟩ = some (.int .u16 (wd j)) ∧ 0 ≤ wd j ∧ wd j < 65536) :
    Calls Try.prog 14 #[.agg #[.slice sa n cap], .agg #[.int .i64 d, .int .i64 k, .int .i64 o], .slice aw m capw] w fun e w' => e = .returned (.bool true) ∧ Below w.heap.size w w' := by
  by_cases h20 : 20 < n
  · refine order_no _ (.bool true) _ _ _ _ w (ready_of (E := 3) (by omega) (fun W _ => Fault_long sa n cap W h20 hn) ?_)
    simp
  by_cases h0 : n = 0
  · subst h0
    refine order_no _ (.bool true) _ _ _ _ w (ready_of (E := 1) (by omega) (fun W _ => Fault_empty sa cap W) ?_)
    simp
  obtain ⟨b, off, ps, rfl, rfl, hP⟩ := hp (by omega)
  have hl : 0 < ps.length := by omega
  have hl20 : ps.length ≤ 20 := by omega
  have hltb := block_lt_of_cell (hP 0 hl).1
  have hE : ptsE ps = 0 ∨ ptsE ps = 1 ∨ ptsE ps = 3 := by
    unfold ptsE; split <;> simp
  have hF : ∀ W, Below w.heap.size w W → Calls Try.prog 23 #[.agg #[.slice (some ⟨b, off, none⟩) ps.length cap]] W fun e w' => e = .returned (.int .i64 (ptsE ps)) ∧ Below W.heap.size W w' :=
    fun W hb => Fault_pts b off cap ps W hl20 hl (hP.below hb hltb)
  have h25 : ps.length ≤ 25 := by omega
  cases hg : goodsB ps 0 with
  | false =>
    refine order_no _ (.bool true) _ _ _ _ w (ready_of hE hF ?_)
    simp [ptsE_no hg]
  | true =>
    cases hr : ruleB ⟨d, k, o⟩ with
    | false =>
      refine order_no _ (.bool true) _ _ _ _ w (ready_of hE hF ?_)
      simp [ptsE_yes hg, ruleE_no hr]
    | true =>
      refine order_yes b off cap m capw aw ps ⟨d, k, o⟩ wd w hl20 hl hg hr hP hm hw (ready_of hE hF ?_)
      simp [ptsE_yes hg, ruleE_yes hr, h25]

set_option maxRecDepth 100000 in
theorem order_lifted (os : Os) (started : os.Started) (H : Type) (enc : TypeId × Value → H) :
    ReturnsInHanded {} Try.checked os 14 .any (Rows.curveOrderSpec.pre6 enc Try.prog Try.f14 Rows.curveOrderRow.domain false) (Rows.curveOrderSpec.post enc Try.prog Try.f14 false true false false) := by
  refine returnsInHanded_of_change (C := Try.checked) Try.own started (by kernel_rfl) Try.func14
    (ChangeSpec.witness6 (enc := enc) (C := Try.checked) false ⟨#[], #[.agg #[.slice none 0 0], .agg #[.int .i64 0, .int .i64 0, .int .i64 0], .slice none 0 0], []⟩ 8 (by kernel_rfl) (by kernel_rfl) (by kernel_rfl) (by kernel_rfl)) ?_
  intro W base args ds gs before hval0 hW _ _
  have hval : ∀ (j : Nat) t v, Try.f14.params[j]? = some t → args[j]? = some v → Value.okWide Try.prog W .any base t v := hval0
  have hW' := hW
  obtain ⟨p, q, hA0, hV, rfl, hfz, hnd⟩ := hW
  have hA : DataW.TrodAll enc Try.prog W 0 (fun _ => true) true Try.f14.params.toList args.toList ds p := hA0
  rw [Try.params14] at hA hval
  obtain ⟨v0, v1, v2, d0, d1, d2, p0, p1, p2, rfl, rfl, rfl, h0, h1, h2⟩ := trodAll_three hA
  obtain ⟨rfl, rfl⟩ := trodVars_none hV
  obtain ⟨sa, n, cap, rfl, hn, hp⟩ := open_curve (hval 0 24 v0 rfl rfl) h0
  obtain ⟨d, k, o, rfl⟩ := open_rule (hval 1 26 v1 rfl rfl) h1
  obtain ⟨aw, m, capw, wd, rfl, hm, hw⟩ := open_words (hval 2 76 v2 rfl rfl) h2
  clear hA0 hval0
  refine (order_any sa n cap d k o aw m capw wd W hn hp hm hw).mono fun e W' ⟨he, hb⟩ => ?_
  subst he
  have hlt : ∀ x ∈ p0 ++ (p1 ++ p2), x.block < W.heap.size := fun x hx => by simpa using hW'.lt x (by simpa using hx)
  have e1 : Rows.curveOrderSpec.fn H ([d0, d1, d2] ++ []) = { results := [.lit (.bool true)], args := [d0, d1, d2] } := rfl
  refine ⟨_, rfl, _, _, _, [], p0 ++ (p1 ++ p2), [], hW', ?_, ?_, ?_, hb.frame _, fun h => by cases h⟩
  · rw [e1]
    exact trodAll_mk1 (shut_bool Try.underlying4 true)
  · rw [e1]
    exact trodAll_mk3 (Below.trod Try.laidOut (by kernel_rfl) (of_decide_eq_true (by kernel_rfl)) h0 hb (fun x hx => hlt x (by simp [hx])))
      (Below.trod Try.laidOut (by kernel_rfl) (of_decide_eq_true (by kernel_rfl)) h1 hb (fun x hx => hlt x (by simp [hx])))
      (Below.trod Try.laidOut (by kernel_rfl) (of_decide_eq_true (by kernel_rfl)) h2 hb (fun x hx => hlt x (by simp [hx])))
  · rfl

theorem order_holds : Rows.CurveOrderSaid :=
  OpenClaim.holds_of_wide 14 Try.f14 rfl rfl rfl rfl rfl rfl rfl ⟨rfl, rfl, rfl, rfl, rfl⟩ rfl rfl rfl rfl rfl (by kernel_rfl) Try.func14 (by kernel_rfl)
    (of_decide_eq_true (by kernel_rfl)) (by unfold Func.isWrapper; rw [if_neg (of_decide_eq_false (by kernel_rfl))]; exact ⟨rfl, rfl⟩)
    (fun os started H enc _ => order_lifted os started H enc)
#print axioms order_holds
end Go.Proofs.Ytfjlnejeffkdoaa
