/- The statement CurveReads holds: for every curve, rule and list of numbers the law returns true and leaves what it was given as it was. No condition. -/
import Derived.Test.YtfjlnejeffkdoaaAI
import Derived.Test.YtfjlnejeffkdoaaAG
namespace Go.Proofs.Ytfjlnejeffkdoaa
open Go.ChangeShapes Go.WideShapes Go.ChangeAt Go.RowKit
attribute [local irreducible] arrV

/-- The copied curve. -/
def CVp (n : Nat) (ps : List Pt) (v : Value) (W : World) : Prop := ∃ s c, v = .slice s n c ∧ (0 < n → ∃ B, s = some ⟨B, 0, none⟩ ∧ PtsIn W B 0 ps)
def TLp (m : Nat) (t : List Int) (v : Value) (W : World) : Prop := ∃ s c, v = .slice s m c ∧ (0 < m → ∃ B, s = some ⟨B, 0, none⟩ ∧ IntsIn W B 0 t)
theorem CVp.grown {n : Nat} {ps : List Pt} (hps : ps.length = n) : ∀ v w1 w2, CVp n ps v w1 → Below w1.heap.size w1 w2 → CVp n ps v w2 := fun v w1 w2 ⟨s, c, e, h⟩ hb => ⟨s, c, e, fun h0 => by
  obtain ⟨B, e2, hP⟩ := h h0
  exact ⟨B, e2, hP.below hb (block_lt_of_cell (hP 0 (by omega)).1)⟩⟩
theorem TLp.grown {m : Nat} {t : List Int} (ht : t.length = m) : ∀ v w1 w2, TLp m t v w1 → Below w1.heap.size w1 w2 → TLp m t v w2 := fun v w1 w2 ⟨s, c, e, h⟩ hb => ⟨s, c, e, fun h0 => by
  obtain ⟨B, e2, hP⟩ := h h0
  exact ⟨B, e2, hP.below hb (block_lt_of_cell (hP 0 (by omega)))⟩⟩

theorem curve_cv (sa : Option Addr) (n cap : Nat) (ps : List Pt) (w : World) (hn : n ≤ 25) (hps : ps.length = n) (hp : 0 < n → ∃ b off, sa = some ⟨b, off, none⟩ ∧ PtsIn w b off ps) :
    ∀ W, Below w.heap.size w W → Calls Try.prog 18 #[.agg #[.slice sa n cap]] W fun e w' => ∃ v, e = .returned (.agg #[v]) ∧ CVp n ps v w' ∧ Below W.heap.size W w' := fun W hb => by
  rcases Nat.eq_zero_or_pos n with h | h
  · subst h
    exact (Curve_0 sa cap W).mono fun e w' ⟨he, hb'⟩ => ⟨_, he, ⟨none, 0, rfl, fun h0 => absurd h0 (by omega)⟩, hb'⟩
  · obtain ⟨b, off, rfl, hP⟩ := hp h
    subst hps
    exact (Curve_25 b off cap ps W hn h (hP.below hb (block_lt_of_cell (hP 0 h).1))).mono fun e w' ⟨B, c, he, h1, _, hb'⟩ => ⟨_, he, ⟨some ⟨B, 0, none⟩, c, rfl, fun _ => ⟨B, rfl, h1⟩⟩, hb'⟩
theorem list_tl (st : Option Addr) (m capt : Nat) (t : List Int) (w : World) (hm : m ≤ 30) (ht : t.length = m) (hp : 0 < m → ∃ b off, st = some ⟨b, off, none⟩ ∧ IntsIn w b off t) :
    ∀ W, Below w.heap.size w W → Calls Try.prog 21 #[.slice st m capt] W fun e w' => ∃ v, e = .returned v ∧ TLp m t v w' ∧ Below W.heap.size W w' := fun W hb => by
  rcases Nat.eq_zero_or_pos m with h | h
  · subst h
    exact (list_0 st capt W).mono fun e w' ⟨he, hb'⟩ => ⟨_, he, ⟨none, 0, rfl, fun h0 => absurd h0 (by omega)⟩, hb'⟩
  · obtain ⟨b, off, rfl, hP⟩ := hp h
    subst ht
    exact (list_any b off capt t W h (by omega) (hP.below hb (block_lt_of_cell (hP 0 h)))).mono fun e w' ⟨B, c, he, h1, _, hb'⟩ => ⟨_, he, ⟨some ⟨B, 0, none⟩, c, rfl, fun _ => ⟨B, rfl, h1⟩⟩, hb'⟩

/-- Where the curve or the rule is not valid. -/
theorem reads_bad (sa st : Option Addr) (n cap m capt : Nat) (d k o E1 : Int) (ps : List Pt) (t : List Int) (w : World) (hn : n ≤ 25) (hm : m ≤ 30) (hps : ps.length = n) (hp : 0 < n → ∃ b off, sa = some ⟨b, off, none⟩ ∧ PtsIn w b off ps)
    (ht : t.length = m) (hi : 0 < m → ∃ b off, st = some ⟨b, off, none⟩ ∧ IntsIn w b off t) (hE1 : E1 = 0 ∨ E1 = 1 ∨ E1 = 3) (hE : (if E1 = 0 then ruleE ⟨d, k, o⟩ else E1) ≠ 0)
    (HK : ∀ s c W, (0 < n → ∃ B, s = some ⟨B, 0, none⟩ ∧ PtsIn W B 0 ps) → Calls Try.prog 47 #[.agg #[.slice s n c]] W fun e w' => e = .returned (.int .i64 E1) ∧ Below W.heap.size W w')
    (HR : ∀ s c W, (0 < n → ∃ B, s = some ⟨B, 0, none⟩ ∧ PtsIn W B 0 ps) → Calls Try.prog 48 #[.agg #[.slice s n c, .int .i64 d, .int .i64 k, .int .i64 o]] W fun e w' => e = .returned (.int .i64 (if E1 = 0 then ruleE ⟨d, k, o⟩ else E1)) ∧ Below W.heap.size W w')
    (HF : ∀ W, Below w.heap.size w W → Calls Try.prog 23 #[.agg #[.slice sa n cap]] W fun e w' => e = .returned (.int .i64 E1) ∧ Below W.heap.size W w') :
    Calls Try.prog 3 #[.agg #[.slice sa n cap], .agg #[.int .i64 d, .int .i64 k, .int .i64 o], .slice st m capt] w fun e w' => e = .returned (.bool true) ∧ Below w.heap.size w w' := by
  refine reads_walk sa st n cap m capt d k o E1 (if E1 = 0 then ruleE ⟨d, k, o⟩ else E1) (if E1 = 0 then ruleE ⟨d, k, o⟩ else E1) ⟨0, 0, 0, 0, 0, 0, 0⟩ false (CVp n ps) (TLp m t) w hn hm (CVp.grown hps) (TLp.grown ht) (curve_cv sa n cap ps w hn hps hp) ?_ (list_tl st m capt t w hm ht hi) ?_
    (fun W hb => fault_any sa n cap E1 d k o W hE1 (IsRule_any d k o) (fun W' hb' => HF W' (below_to hb hb'))) HF (fun h => absurd h hE) (.inl ⟨hE, rfl, rfl⟩)
  · rintro v W ⟨s, c, rfl, h⟩
    exact CheckCurve_of _ E1 W fun W' hb => HK s c W' fun h0 => by
      obtain ⟨B, e, hP⟩ := h h0
      exact ⟨B, e, hP.below hb (block_lt_of_cell (hP 0 (by omega)).1)⟩
  · rintro v tl W ⟨s, c, rfl, h⟩ _
    exact Read_err s n c tl d k o _ W hE fun W' hb => HR s c W' fun h0 => by
      obtain ⟨B, e, hP⟩ := h h0
      exact ⟨B, e, hP.below hb (block_lt_of_cell (hP 0 (by omega)).1)⟩

/-- The law returns true: a curve, a rule and numbers, as they lie in memory. -/
theorem reads_law (sa st : Option Addr) (n cap m capt : Nat) (d k o : Int) (w : World) (hnl : n ≤ maxLen) (hml : m ≤ maxLen) (hp0 : 0 < n → ∃ b off ps, sa = some ⟨b, off, none⟩ ∧ ps.length = n ∧ PtsIn w b off ps)
    (ht0 : 0 < m → ∃ b off t, st = some ⟨b, off, none⟩ ∧ t.length = m ∧ IntsIn w b off t) :
    Calls Try.prog 3 #[.agg #[.slice sa n cap], .agg #[.int .i64 d, .int .i64 k, .int .i64 o], .slice st m capt] w fun e w' => e = .returned (.bool true) ∧ Below w.heap.size w w' := by
  by_cases hbig : 25 < n ∨ 30 < m
  · exact reads_no sa st n cap m capt d k o w hbig hml
  have hn : n ≤ 25 := by omega
  have hm : m ≤ 30 := by omega
  obtain ⟨ps, hps, hp⟩ : ∃ ps : List Pt, ps.length = n ∧ (0 < n → ∃ b off, sa = some ⟨b, off, none⟩ ∧ PtsIn w b off ps) := by
    rcases Nat.eq_zero_or_pos n with h | h
    · exact ⟨[], h.symm, fun h' => absurd h' (by omega)⟩
    · obtain ⟨b, off, ps, e, h1, h2⟩ := hp0 h
      exact ⟨ps, h1, fun _ => ⟨b, off, e, h2⟩⟩
  obtain ⟨t, ht, hi⟩ : ∃ t : List Int, t.length = m ∧ (0 < m → ∃ b off, st = some ⟨b, off, none⟩ ∧ IntsIn w b off t) := by
    rcases Nat.eq_zero_or_pos m with h | h
    · exact ⟨[], h.symm, fun h' => absurd h' (by omega)⟩
    · obtain ⟨b, off, t, e, h1, h2⟩ := ht0 h
      exact ⟨t, h1, fun _ => ⟨b, off, e, h2⟩⟩
  by_cases h20 : 20 < n
  · exact reads_bad sa st n cap m capt d k o 3 ps t w hn hm hps hp ht hi (by omega) (by simp) (fun s c W _ => check_long s n c W h20 hnl) (fun s c W _ => by simpa using rcheck_long s n c d k o W h20 hnl) (fun W _ => Fault_long sa n cap W h20 hnl)
  by_cases hz : n = 0
  · subst hz
    exact reads_bad sa st 0 cap m capt d k o 1 ps t w hn hm hps hp ht hi (by omega) (by simp) (fun s c W _ => check_empty W s c) (fun s c W _ => by simpa using rcheck_empty s c d k o W) (fun W _ => Fault_empty sa cap W)
  have hl : 0 < n := by omega
  obtain ⟨b, off, rfl, hP⟩ := hp hl
  have hltb := block_lt_of_cell (hP 0 (by omega)).1
  subst hps
  have hl20 : ps.length ≤ 20 := by omega
  have hE : ptsE ps = 0 ∨ ptsE ps = 1 ∨ ptsE ps = 3 := by
    unfold ptsE; split <;> simp
  have hF : ∀ W, Below w.heap.size w W → Calls Try.prog 23 #[.agg #[.slice (some ⟨b, off, none⟩) ps.length cap]] W fun e w' => e = .returned (.int .i64 (ptsE ps)) ∧ Below W.heap.size W w' :=
    fun W hb => Fault_pts b off cap ps W hl20 hl (hP.below hb hltb)
  have hboth : bothE ps ⟨d, k, o⟩ = if ptsE ps = 0 then ruleE ⟨d, k, o⟩ else ptsE ps := by
    unfold bothE
    cases hg : goodsB ps 0
    · simp [ptsE_no hg]
    · simp [ptsE_yes hg]
  by_cases hbad : (if ptsE ps = 0 then ruleE ⟨d, k, o⟩ else ptsE ps) ≠ 0
  · refine reads_bad _ st _ cap m capt d k o (ptsE ps) ps t w hn hm rfl hp ht hi hE hbad (fun s c W h => ?_) (fun s c W h => ?_) hF
    · obtain ⟨B, rfl, hB⟩ := h hl
      exact check_pts B 0 c ps W hl20 hl hB
    · obtain ⟨B, rfl, hB⟩ := h hl
      rw [← hboth]
      exact rcheck_pts B 0 c ps d k o W hl20 hl hB
  have hg : goodsB ps 0 = true := by
    cases hg : goodsB ps 0
    · simp [ptsE_no hg] at hbad
    · rfl
  have hr : ruleB ⟨d, k, o⟩ = true := by
    cases hr : ruleB ⟨d, k, o⟩
    · simp [ptsE_yes hg, ruleE_no hr] at hbad
    · rfl
  have hE0 : (if ptsE ps = 0 then ruleE ⟨d, k, o⟩ else ptsE ps) = 0 := by simp [ptsE_yes hg, ruleE_yes hr]
  have hfl : ∀ W, Below w.heap.size w W → Calls Try.prog 22 #[.agg #[.slice (some ⟨b, off, none⟩) ps.length cap], .agg #[.int .i64 d, .int .i64 k, .int .i64 o]] W fun e w' => e = .returned (.int .i64 0) ∧ Below W.heap.size W w' := fun W hb => by
    have := fault_any (some ⟨b, off, none⟩) ps.length cap (ptsE ps) d k o W hE (IsRule_any d k o) (fun W' hb' => hF W' (below_to hb hb'))
    rw [hE0] at this
    exact this
  have hcc : ∀ v W, CVp ps.length ps v W → Calls Try.prog 17 #[.agg #[v]] W fun e w' => e = .returned (.int .i64 (ptsE ps)) ∧ Below W.heap.size W w' := by
    rintro v W ⟨s, c, rfl, h⟩
    obtain ⟨B, rfl, hB⟩ := h hl
    exact CheckCurve_of _ _ W fun W' hb => check_pts B 0 c ps W' hl20 hl (hB.below hb (block_lt_of_cell (hB 0 hl).1))
  have hrc : ∀ (B c : Nat) W, PtsIn W B 0 ps → Calls Try.prog 48 #[.agg #[.slice (some ⟨B, 0, none⟩) ps.length c, .int .i64 d, .int .i64 k, .int .i64 o]] W fun e w' => e = .returned (.int .i64 0) ∧ Below W.heap.size W w' := fun B c W hB => by
    have := rcheck_pts B 0 c ps d k o W hl20 hl hB
    rw [hboth, hE0] at this
    exact this
  by_cases hmn : m = ps.length
  · subst hmn
    have htn := ht
    obtain ⟨bt, offt, rfl, hI⟩ := hi hl
    have hltt := block_lt_of_cell (hI 0 (by omega))
    have hit : ∀ W, Below w.heap.size w W → Calls Try.prog 24 #[.agg #[.slice (some ⟨b, off, none⟩) ps.length cap], .slice (some ⟨bt, offt, none⟩) ps.length capt] W fun e w' => e = .returned (.bool (fitsB ps t 0)) ∧ Below W.heap.size W w' :=
      fun W hb => IsTruth_eq b off cap bt offt capt ps t W hl20 hl (hP.below hb hltb) htn (hI.below hb hltt)
    cases hf : fitsB ps t 0 with
    | false =>
      rw [hf] at hit
      refine reads_walk _ _ _ cap _ capt d k o (ptsE ps) 0 2 ⟨0, 0, 0, 0, 0, 0, 0⟩ false (CVp ps.length ps) (TLp ps.length t) w hn hm (CVp.grown rfl) (TLp.grown ht) (curve_cv _ _ cap ps w hn rfl hp) hcc (list_tl _ _ capt t w hm ht hi) ?_ hfl hF (fun _ => hit) (.inr (.inl ⟨rfl, rfl, rfl, rfl⟩))
      rintro v tl W ⟨s, c, rfl, h⟩ ⟨s', c', rfl, h'⟩
      obtain ⟨B, rfl, hB⟩ := h hl
      obtain ⟨B', rfl, hB'⟩ := h' hl
      refine Read_out _ _ _ c _ c' d k o W (fun W' hb => hrc B c W' (hB.below hb (block_lt_of_cell (hB 0 hl).1))) fun W' hb => ?_
      have := allows_any B 0 c B' 0 c' ps t W' hl20 hl (hB.below hb (block_lt_of_cell (hB 0 hl).1)) htn (hB'.below hb (block_lt_of_cell (hB' 0 (by omega))))
      rw [hf] at this
      exact this
    | true =>
      rw [hf] at hit
      have G : Good ps ⟨d, k, o⟩ t := ⟨hl20, hl, hg, hr, htn, hf⟩
      refine reads_walk _ _ _ cap _ capt d k o (ptsE ps) 0 0 (readR ps ⟨d, k, o⟩ (pad t)) true (CVp ps.length ps) (TLp ps.length t) w hn hm (CVp.grown rfl) (TLp.grown ht) (curve_cv _ _ cap ps w hn rfl hp) hcc (list_tl _ _ capt t w hm ht hi) ?_ hfl hF (fun _ => hit) (.inr (.inr ⟨rfl, rfl, rfl, fun W hb => RefRead_any b off cap bt offt capt ps ⟨d, k, o⟩ t W G (hP.below hb hltb) (hI.below hb hltt)⟩))
      rintro v tl W ⟨s, c, rfl, h⟩ ⟨s', c', rfl, h'⟩
      obtain ⟨B, rfl, hB⟩ := h hl
      obtain ⟨B', rfl, hB'⟩ := h' hl
      exact Read_ok B 0 c B' 0 c' ps ⟨d, k, o⟩ t W G hB hB'
  · refine reads_walk _ st _ cap m capt d k o (ptsE ps) 0 2 ⟨0, 0, 0, 0, 0, 0, 0⟩ false (CVp ps.length ps) (TLp m t) w hn hm (CVp.grown rfl) (TLp.grown ht) (curve_cv _ _ cap ps w hn rfl hp) hcc (list_tl _ _ capt t w hm ht hi) ?_ hfl hF (fun _ W _ => IsTruth_ne _ _ _ _ _ _ W hmn) (.inr (.inl ⟨rfl, rfl, rfl, rfl⟩))
    rintro v tl W ⟨s, c, rfl, h⟩ ⟨s', c', rfl, h'⟩
    obtain ⟨B, rfl, hB⟩ := h hl
    exact Read_out _ _ _ c _ c' d k o W (fun W' hb => hrc B c W' (hB.below hb (block_lt_of_cell (hB 0 hl).1))) fun W' hb => allows_ne _ _ _ _ _ _ W' hmn

set_option maxRecDepth 100000 in
theorem reads_lifted (os : Os) (started : os.Started) (H : Type) (enc : TypeId × Value → H) :
    ReturnsInHanded {} Try.checked os 3 .any (Rows.curveReadsSpec.pre6 enc Try.prog Try.f3 Rows.curveReadsRow.domain false) (Rows.curveReadsSpec.post enc Try.prog Try.f3 false true false false) := by
  refine returnsInHanded_of_change (C := Try.checked) Try.own started (by kernel_rfl) Try.func3
    (ChangeSpec.witness6 (enc := enc) (C := Try.checked) false ⟨#[], #[.agg #[.slice none 0 0], .agg #[.int .i64 0, .int .i64 0, .int .i64 0], .slice none 0 0], []⟩ 8 (by kernel_rfl) (by kernel_rfl) (by kernel_rfl) (by kernel_rfl)) ?_
  intro W base args ds gs before hval0 hW _ _
  have hval : ∀ (j : Nat) t v, Try.f3.params[j]? = some t → args[j]? = some v → Value.okWide Try.prog W .any base t v := hval0
  have hW' := hW
  obtain ⟨p, q, hA0, hV, rfl, hfz, hnd⟩ := hW
  have hA : DataW.TrodAll enc Try.prog W 0 (fun _ => true) true Try.f3.params.toList args.toList ds p := hA0
  rw [Try.params3] at hA hval
  obtain ⟨v0, vs0, d0, ds0, p0, q0, hargs, rfl, rfl, h0, r0⟩ := trodAll_cons hA
  obtain ⟨v1, vs1, d1, ds1, p1, q1, rfl, rfl, rfl, h1, r1⟩ := trodAll_cons r0
  obtain ⟨v2, vs2, d2, ds2, p2, q2, rfl, rfl, rfl, h2, r2⟩ := trodAll_cons r1
  obtain ⟨rfl, rfl, rfl⟩ := trodAll_nil r2
  obtain ⟨args⟩ := args
  simp only at hargs
  subst hargs
  obtain ⟨rfl, rfl⟩ := trodVars_none hV
  obtain ⟨sa, n, cap, rfl, hn, hp⟩ := open_curve (hval 0 24 v0 rfl rfl) h0
  obtain ⟨d, k, o, rfl⟩ := open_rule (hval 1 26 v1 rfl rfl) h1
  obtain ⟨st, m, capt, rfl, hm, ht⟩ := open_truth (hval 2 27 v2 rfl rfl) h2
  clear hA0 hval0
  refine (reads_law sa st n cap m capt d k o W hn hm hp ht).mono fun e W' ⟨he, hb⟩ => ?_
  subst he
  have hlt : ∀ x ∈ p0 ++ (p1 ++ p2), x.block < W.heap.size := fun x hx => by simpa using hW'.lt x (by simpa using hx)
  have e1 : Rows.curveReadsSpec.fn H ([d0, d1, d2] ++ []) = { results := [.lit (.bool true)], args := [d0, d1, d2] } := rfl
  refine ⟨_, rfl, _, _, _, [], p0 ++ (p1 ++ (p2 ++ [])), [], hW', ?_, ?_, ?_, hb.frame _, fun h => by cases h⟩
  · rw [e1]
    exact trodAll_mk1 (shut_bool Try.underlying4 true)
  · rw [e1]
    exact trodAll_cons_mk (Below.trod Try.laidOut (by kernel_rfl) (of_decide_eq_true (by kernel_rfl)) h0 hb (fun x hx => hlt x (by simp [hx])))
      (trodAll_cons_mk (Below.trod Try.laidOut (by kernel_rfl) (of_decide_eq_true (by kernel_rfl)) h1 hb (fun x hx => hlt x (by simp [hx])))
      (trodAll_cons_mk (Below.trod Try.laidOut (by kernel_rfl) (of_decide_eq_true (by kernel_rfl)) h2 hb (fun x hx => hlt x (by simp [hx])))
      trodAll_mk0))
  · rfl

theorem reads_holds : Rows.CurveReadsSaid :=
  OpenClaim.holds_of_wide 3 Try.f3 rfl rfl rfl rfl rfl rfl rfl ⟨rfl, rfl, rfl, rfl, rfl⟩ rfl rfl rfl rfl rfl (by kernel_rfl) Try.func3 (by kernel_rfl)
    (of_decide_eq_true (by kernel_rfl)) (by unfold Func.isWrapper; rw [if_neg (of_decide_eq_false (by kernel_rfl))]; exact ⟨rfl, rfl⟩)
    (fun os started H enc _ => reads_lifted os started H enc)
#print axioms reads_holds
end Go.Proofs.Ytfjlnejeffkdoaa
