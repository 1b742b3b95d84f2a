/- The statement CurvePulled holds in its second form (what comes in holds at most 1048576 values): for every curve, rule, list of words, point and load the law returns true and leaves what it was given as it was. -/
import Derived.Test.YtfjlnejeffkdoaaNN
import Derived.Test.YtfjlnejeffkdoaaAC
import Derived.JoinedCond
namespace Go.Proofs.Ytfjlnejeffkdoaa
open Go.ChangeShapes Go.WideShapes Go.ChangeAt Go.RowKit Go.Deep

set_option maxRecDepth 100000
section
variable {H : Type} {enc : TypeId × Value → H} {w : World} {base fuel : Nat} {spare : Nat → Bool} {held : Bool}

theorem bulk_one {d : DataW H} : 1 ≤ Rows.uptoBulk d := by
  cases d with
  | lit l => cases l <;> simp [Rows.uptoBulk]
  | nil => simp [Rows.uptoBulk]
  | ptr d => simp [Rows.uptoBulk]
  | slice elems spare => simp [Rows.uptoBulk]
  | agg parts => simp [Rows.uptoBulk]
  | iface t d => simp [Rows.uptoBulk]
  | map entries => simp [Rows.uptoBulk]
  | held h => simp [Rows.uptoBulk]
theorem bulk_len : ∀ l : List (DataW H), l.length ≤ Rows.uptoBulkAll l
  | [] => by simp [Rows.uptoBulkAll]
  | x :: l => by
    have h1 := bulk_one (d := x)
    have h2 := bulk_len l
    simp only [Rows.uptoBulkAll, List.length_cons]
    omega

/-- A curve, opened to cells, with its number of points against what is read. -/
theorem open_curve_bulk {r : Reach} {b0 : Nat} {v : Value} {d : DataW H} {p : List MemPlace} (hv : Value.okWide Try.prog w r b0 24 v) (h : DataW.Trod enc Try.prog w base spare held 24 v d p) :
    ∃ (sa : Option Addr) (len cap : Nat), v = .agg #[.slice sa len cap] ∧ len ≤ maxLen ∧ len ≤ Rows.uptoBulk d ∧ (sa = none → len = 0) ∧ (0 < len → ∃ b off ps, sa = some ⟨b, off, none⟩ ∧ ps.length = len ∧ PtsIn w b off ps) := by
  obtain ⟨cs, rfl, hsz⟩ := okWide_struct Try.underlying24 hv
  rw [cells24] at hsz
  obtain ⟨l⟩ := cs
  obtain ⟨c0, rfl⟩ := len1 (show l.length = 1 from hsz)
  obtain ⟨fuel, hf⟩ := h
  obtain ⟨xs, n, _, hx, _, hxl, hg⟩ := DataW.trod_struct Try.underlying24 hf
  obtain ⟨y0, rfl⟩ := len1 (show xs.length = 1 from hxl)
  have f0 : DataW.trod enc Try.prog w base spare held n 22 (([c0].drop 0).take (Try.prog.cellsOf 22)) = [y0][0]? := hg 0 _ rfl
  rw [cells22] at f0
  have f1 : DataW.trod enc Try.prog w base spare held n 22 [c0] = some y0 := f0
  rcases open_pts f1 with e | ⟨a, len, cap, e, hl, hp⟩
  · simp only [List.cons.injEq, and_true] at e
    subst e
    exact ⟨none, 0, 0, rfl, Nat.zero_le _, Nat.zero_le _, fun _ => rfl, fun h => absurd h (by decide)⟩
  · simp only [List.cons.injEq, and_true] at e
    subst e
    refine ⟨some a, len, cap, rfl, hl, ?_, fun h => (by cases h), fun h0 => ?_⟩
    · have hd : d = .agg [y0.1] := by
        have := congrArg Prod.fst hx
        simpa using this
      rcases open_slice Try.underlying22 f1 with ⟨hcs, _⟩ | ⟨a', len', cap', m, n', D, Pl, hcs, _, _, _, _, hy, _⟩
      · cases hcs
      · cases hcs
        have h1 : Rows.uptoBulk y0.1 ≥ len := by
          rw [hy]
          simp only [Rows.uptoBulk]
          have := bulk_len ((List.range len).map D)
          simp at this
          omega
        rw [hd]
        simp only [Rows.uptoBulk, Rows.uptoBulkAll]
        omega
    · obtain ⟨b, off, ps, rfl, h1, h2⟩ := hp h0
      exact ⟨b, off, ps, rfl, h1, h2⟩

theorem open_point {r : Reach} {b0 : Nat} {v : Value} {d : DataW H} {p : List MemPlace} (hv : Value.okWide Try.prog w r b0 84 v) (h : DataW.Trod enc Try.prog w base spare held 84 v d p) :
    ∃ a b c : Int, v = .agg #[.int .i64 a, .int .i64 b, .int .i64 c] := by
  obtain ⟨cs, rfl, hsz⟩ := okWide_struct Try.underlying84 hv
  obtain ⟨l⟩ := cs
  obtain ⟨fuel, hf⟩ := h
  obtain ⟨a, b, c, e⟩ := point_cells hf
  have e' : l = [.int .i64 a, .int .i64 b, .int .i64 c] := e
  subst e'
  exact ⟨a, b, c, rfl⟩
end

/-- The law returns true: a curve, a rule, words, a point and a load, as they lie in memory. -/
theorem pulled_law (sa : Option Addr) (n cap : Nat) (d k o : Int) (aw : Option Addr) (m capw : Nat) (wd : Nat → Int) (p : Pt) (lv : Int) (w : World) (hn : n ≤ 1048576) (h0 : sa = none → n = 0)
    (hp : 0 < n → ∃ b off ps, sa = some ⟨b, off, none⟩ ∧ ps.length = n ∧ PtsIn w b off ps) (hm : m ≤ maxLen)
    (hw : ∀ j, j < m → ∃ bw ow, aw = some ⟨bw, ow, none⟩ ∧ w.cell? ⟨bw, ow + j, none⟩ = some (.int .u16 (wd j)) ∧ 0 ≤ wd j ∧ wd j < 65536) (hlv : 0 ≤ lv ∧ lv < 65536) :
    Calls Try.prog 13 #[.agg #[.slice sa n cap], .agg #[.int .i64 d, .int .i64 k, .int .i64 o], .slice aw m capw, .agg #[.int .i64 p.s, .int .i64 p.lo, .int .i64 p.hi], .int .u16 lv] w fun e w' => e = .returned (.bool true) ∧ Below w.heap.size w w' := by
  obtain ⟨ps, hps, hp'⟩ : ∃ ps : List Pt, ps.length = n ∧ (0 < n → ∃ b off, sa = some ⟨b, off, none⟩ ∧ PtsIn w b off ps) := by
    rcases Nat.eq_zero_or_pos n with h | h
    · exact ⟨[], h.symm, fun h' => absurd h' (by omega)⟩
    · obtain ⟨b, off, ps, e, h1, h2⟩ := hp h
      exact ⟨ps, h1, fun _ => ⟨b, off, e, h2⟩⟩
  by_cases h20 : 20 < n
  · refine pulled_walk sa n cap m capw aw ps ⟨d, k, o⟩ p wd lv w hn hps h0 hp' hm hw hlv false (fun h => by cases h) (ready_of (E := 3) (by omega) (fun W _ => Fault_long sa n cap W h20 (by simp [maxLen]; omega)) ?_)
    simp
  by_cases hz : n = 0
  · subst hz
    refine pulled_walk sa 0 cap m capw aw ps ⟨d, k, o⟩ p wd lv w hn hps h0 hp' hm hw hlv false (fun h => by cases h) (ready_of (E := 1) (by omega) (fun W _ => Fault_empty sa cap W) ?_)
    simp
  subst hps
  have hl : 0 < ps.length := by omega
  have hl20 : ps.length ≤ 20 := by omega
  have h25 : ps.length ≤ 25 := by omega
  obtain ⟨b, off, rfl, hP⟩ := hp' hl
  have hltb := block_lt_of_cell (hP 0 hl).1
  have hE : ptsE ps = 0 ∨ ptsE ps = 1 ∨ ptsE ps = 3 := by
    unfold ptsE; split <;> simp
  have hF : ∀ W, Below w.heap.size w W → Calls Try.prog 23 #[.agg #[.slice (some ⟨b, off, none⟩) ps.length cap]] W fun e w' => e = .returned (.int .i64 (ptsE ps)) ∧ Below W.heap.size W w' :=
    fun W hb => Fault_pts b off cap ps W hl20 hl (hP.below hb hltb)
  cases hg : goodsB ps 0 with
  | false =>
    refine pulled_walk _ _ cap m capw aw ps ⟨d, k, o⟩ p wd lv w hn rfl h0 hp' hm hw hlv false (fun h => by cases h) (ready_of hE hF ?_)
    simp [ptsE_no hg]
  | true =>
    cases hr : ruleB ⟨d, k, o⟩ with
    | false =>
      refine pulled_walk _ _ cap m capw aw ps ⟨d, k, o⟩ p wd lv w hn rfl h0 hp' hm hw hlv false (fun h => by cases h) (ready_of hE hF ?_)
      simp [ptsE_yes hg, ruleE_no hr]
    | true =>
      refine pulled_walk _ _ cap m capw aw ps ⟨d, k, o⟩ p wd lv w hn rfl h0 hp' hm hw hlv true (fun _ => ⟨hl, hl20, hg, hr⟩) (ready_of hE hF ?_)
      simp [ptsE_yes hg, ruleE_yes hr, h25]

theorem pulled_small {H : Type} {d0 d1 d2 d3 d4 : DataW H} {n : Nat} (h : n ≤ Rows.uptoBulk d0) (hk : Rows.uptoSmall H ([d0, d1, d2, d3, d4] ++ []) = true) : n ≤ 1048576 := by
  have hb : Rows.uptoBulkAll ([d0, d1, d2, d3, d4] ++ []) ≤ 1048576 := of_decide_eq_true hk
  simp only [List.append_nil, Rows.uptoBulkAll] at hb
  omega

set_option maxRecDepth 100000 in
theorem pulled_lifted (os : Os) (started : os.Started) (H : Type) (enc : TypeId × Value → H) (F : Stop.Interp) :
    ReturnsInHanded {} Try.checked os 13 .any ((Rows.OpenSpec.upto Rows.curvePulledSpec).pre6 enc Try.prog Try.f13 Rows.curvePulledUptoRow.domain false) (((Rows.OpenSpec.upto Rows.curvePulledSpec).at F).post enc Try.prog Try.f13 false true false false) := by
  refine returnsInHanded_of_cond (C := Try.checked) (s := Rows.OpenSpec.upto Rows.curvePulledSpec) (k := Rows.uptoSmall) rfl Try.own started (by kernel_rfl) Try.func13
    (OpenSpec.witness (enc := enc) (C := Try.checked) (s := Rows.OpenSpec.upto Rows.curvePulledSpec) (k := Rows.uptoSmall) rfl false ⟨#[], #[.agg #[.slice none 0 0], .agg #[.int .i64 0, .int .i64 0, .int .i64 0], .slice none 0 0, .agg #[.int .i64 0, .int .i64 0, .int .i64 0], .int .u16 0], []⟩ 8 (by kernel_rfl) (by kernel_rfl) (by kernel_rfl)
      (x := ([.agg [.nil], .agg [.lit (.int .i64 0), .lit (.int .i64 0), .lit (.int .i64 0)], .nil, .agg [.lit (.int .i64 0), .agg [.lit (.int .i64 0), .lit (.int .i64 0)]], .lit (.int .u16 0)], [], [])) (by kernel_rfl) rfl (by kernel_rfl)) ?_
  intro W base args ds gs before hval0 hW _ hk _
  have hval : ∀ (j : Nat) t v, Try.f13.params[j]? = some t → args[j]? = some v → Value.okWide Try.prog W .any base t v := hval0
  have hW' := hW
  obtain ⟨p, q, hA0, hV, rfl, hfz, hnd⟩ := hW
  have hA : DataW.TrodAll enc Try.prog W 0 (fun _ => true) true Try.f13.params.toList args.toList ds p := hA0
  rw [Try.params13] at hA hval
  obtain ⟨v0, vs0, d0, ds0, p0, q0, hargs, rfl, rfl, h0, r0⟩ := trodAll_cons hA
  obtain ⟨v1, vs1, d1, ds1, p1, q1, rfl, rfl, rfl, h1, r1⟩ := trodAll_cons r0
  obtain ⟨v2, vs2, d2, ds2, p2, q2, rfl, rfl, rfl, h2, r2⟩ := trodAll_cons r1
  obtain ⟨v3, vs3, d3, ds3, p3, q3, rfl, rfl, rfl, h3, r3⟩ := trodAll_cons r2
  obtain ⟨v4, vs4, d4, ds4, p4, q4, rfl, rfl, rfl, h4, r4⟩ := trodAll_cons r3
  obtain ⟨rfl, rfl, rfl⟩ := trodAll_nil r4
  obtain ⟨args⟩ := args
  simp only at hargs
  subst hargs
  obtain ⟨rfl, rfl⟩ := trodVars_none hV
  obtain ⟨sa, n, cap, rfl, hn, hnb, hs0, hp⟩ := open_curve_bulk (hval 0 24 v0 rfl rfl) h0
  obtain ⟨d, k, o, rfl⟩ := open_rule (hval 1 26 v1 rfl rfl) h1
  obtain ⟨aw, m, capw, wd, rfl, hm, hw⟩ := open_words (hval 2 76 v2 rfl rfl) h2
  obtain ⟨x, y, z, rfl⟩ := open_point (hval 3 84 v3 rfl rfl) h3
  obtain ⟨lv, rfl, rfl, rfl, wa⟩ := open_int Try.underlying89 (hval 4 89 v4 rfl rfl) h4
  have hlv : 0 ≤ lv ∧ lv < 65536 := by
    simp [Lit.wf, IntKind.min, IntKind.max, IntKind.signed, IntKind.bits] at wa
    omega
  clear hA0 hval0
  refine (pulled_law sa n cap d k o aw m capw wd ⟨x, y, z⟩ lv W (pulled_small hnb hk) hs0 hp hm hw hlv).mono fun e W' ⟨he, hb⟩ => ?_
  subst he
  have hlt : ∀ x ∈ p0 ++ (p1 ++ (p2 ++ p3)), x.block < W.heap.size := fun x hx => by simpa using hW'.lt x (by simpa using hx)
  have e1 : ((Rows.OpenSpec.upto Rows.curvePulledSpec).at F).fn H ([d0, d1, d2, d3, .lit (.int .u16 lv)] ++ []) = { results := [.lit (.bool true)], args := [d0, d1, d2, d3, .lit (.int .u16 lv)] } := rfl
  refine ⟨_, rfl, _, _, _, [], p0 ++ (p1 ++ (p2 ++ (p3 ++ ([] ++ [])))), [], hW', ?_, ?_, ?_, hb.frame _, fun h => by cases h⟩
  · rw [e1]
    exact trodAll_mk1 (shut_bool Try.underlying4 true)
  · rw [e1]
    exact trodAll_cons_mk (Below.trod Try.laidOut (by kernel_rfl) (of_decide_eq_true (by kernel_rfl)) h0 hb (fun x hx => hlt x (by simp [hx])))
      (trodAll_cons_mk (Below.trod Try.laidOut (by kernel_rfl) (of_decide_eq_true (by kernel_rfl)) h1 hb (fun x hx => hlt x (by simp [hx])))
      (trodAll_cons_mk (Below.trod Try.laidOut (by kernel_rfl) (of_decide_eq_true (by kernel_rfl)) h2 hb (fun x hx => hlt x (by simp [hx])))
      (trodAll_cons_mk (Below.trod Try.laidOut (by kernel_rfl) (of_decide_eq_true (by kernel_rfl)) h3 hb (fun x hx => hlt x (by simp [hx])))
      (trodAll_cons_mk (shut_int Try.underlying89 wa) trodAll_mk0))))
  · rfl

theorem pulled_holds : Rows.CurvePulledUptoSaid :=
  OpenClaim.holds_of_cond 13 Try.f13 rfl rfl rfl rfl rfl rfl rfl ⟨rfl, rfl, rfl, rfl, rfl⟩ rfl rfl rfl rfl rfl (by kernel_rfl) Try.func13 (by kernel_rfl)
    (of_decide_eq_true (by kernel_rfl)) (by unfold Func.isWrapper; rw [if_neg (of_decide_eq_false (by kernel_rfl))]; exact ⟨rfl, rfl⟩)
    (fun os started H enc _ F => pulled_lifted os started H enc F)
#print axioms pulled_holds
end Go.Proofs.Ytfjlnejeffkdoaa
