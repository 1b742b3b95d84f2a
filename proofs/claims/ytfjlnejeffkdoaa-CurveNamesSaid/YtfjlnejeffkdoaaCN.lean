/- The statement CurveShows holds: for every curve, rule, kind, end, list of numbers and number the law returns true and leaves what it was given as it was. No condition. -/
import Derived.Test.YtfjlnejeffkdoaaCM
namespace Go.Proofs.Ytfjlnejeffkdoaa
open Go.ChangeShapes Go.WideShapes Go.ChangeAt Go.RowKit
attribute [local irreducible] arrV

theorem qty_any (kind : Int) (hk : 0 ≤ kind) : ∃ (qv : Value) (known : Bool), (∃ f g, qv = .agg #[f, g] ∧ ((f = .nilFunc ∧ g = .nilFunc) ∨ ∃ ft fg, f = .func (.func ft) #[] #[] ∧ g = .func (.func fg) #[] #[])) ∧
    (∀ w, Calls Try.prog 57 #[.int .u8 kind] w fun e w' => e = .returned (.tuple #[qv, .bool known]) ∧ Below w.heap.size w w') ∧ (3 < kind → known = false) := by
  by_cases h : 3 < kind
  · exact ⟨_, false, ⟨_, _, rfl, .inl ⟨rfl, rfl⟩⟩, fun w => qty_no kind (by omega) w, fun _ => rfl⟩
  · rcases (show kind = 0 ∨ kind = 1 ∨ kind = 2 ∨ kind = 3 by omega) with rfl | rfl | rfl | rfl
    · exact ⟨_, true, ⟨_, _, rfl, .inr ⟨_, _, rfl, rfl⟩⟩, qty0, fun h => absurd h (by omega)⟩
    · exact ⟨_, true, ⟨_, _, rfl, .inr ⟨_, _, rfl, rfl⟩⟩, qty1, fun h => absurd h (by omega)⟩
    · exact ⟨_, true, ⟨_, _, rfl, .inr ⟨_, _, rfl, rfl⟩⟩, qty2, fun h => absurd h (by omega)⟩
    · exact ⟨_, true, ⟨_, _, rfl, .inr ⟨_, _, rfl, rfl⟩⟩, qty3, fun h => absurd h (by omega)⟩

/-- What is read in the given numbers, and whether they are a truth. -/
theorem GoodC.read {b off cap : Nat} {d k o : Int} {ps : List Pt} {w : World} (h : GoodC b off cap d k o ps w) (st : Option Addr) (m capt : Nat) (t : List Int) (ht : t.length = m) (hi : 0 < m → ∃ b off, st = some ⟨b, off, none⟩ ∧ IntsIn w b off t) :
    ∃ (x : Rs) (E : Int) (tb : Bool), (∀ v tl W, CVp ps.length ps v W → TLp m t tl W → Calls Try.prog 19 #[.agg #[v], .agg #[.int .i64 d, .int .i64 k, .int .i64 o], tl] W fun e w' => e = .returned (.tuple #[.agg (rsV x), .int .i64 E]) ∧ Below W.heap.size W w') ∧
      (∀ W, Below w.heap.size w W → Calls Try.prog 24 #[.agg #[.slice (some ⟨b, off, none⟩) ps.length cap], .slice st m capt] W fun e w' => e = .returned (.bool tb) ∧ Below W.heap.size W w') ∧
      ((E = 2 ∧ tb = false) ∨ (E = 0 ∧ tb = true ∧ m = ps.length ∧ Good ps ⟨d, k, o⟩ t ∧ x = readR ps ⟨d, k, o⟩ (pad t))) := by
  have hltb := block_lt_of_cell (h.p 0 h.pos).1
  by_cases hmn : m = ps.length
  · subst hmn
    have hl := h.pos
    have htn := ht
    obtain ⟨bt, offt, rfl, hI⟩ := hi hl
    have hltt := block_lt_of_cell (hI 0 (by omega))
    have hit : ∀ W, Below w.heap.size w W → Calls Try.prog 24 #[.agg #[.slice (some ⟨b, off, none⟩) ps.length cap], .slice (some ⟨bt, offt, none⟩) ps.length capt] W fun e w' => e = .returned (.bool (fitsB ps t 0)) ∧ Below W.heap.size W w' :=
      fun W hb => IsTruth_eq b off cap bt offt capt ps t W h.len hl (h.p.below hb hltb) htn (hI.below hb hltt)
    cases hf : fitsB ps t 0 with
    | false =>
      rw [hf] at hit
      refine ⟨⟨0, 0, 0, 0, 0, 0, 0⟩, 2, false, ?_, hit, .inl ⟨rfl, rfl⟩⟩
      rintro v tl W ⟨s, c, rfl, h1⟩ ⟨s', c', rfl, h2⟩
      obtain ⟨B, rfl, hB⟩ := h1 hl
      obtain ⟨B', rfl, hB'⟩ := h2 hl
      refine Read_out _ _ _ c _ c' d k o W (fun W' hb => h.rc _ W' (CVp.grown rfl _ _ _ ⟨_, c, rfl, fun _ => ⟨B, rfl, hB⟩⟩ hb)) fun W' hb => ?_
      have := allows_any B 0 c B' 0 c' ps t W' h.len hl (hB.below hb (block_lt_of_cell (hB 0 hl).1)) htn (hB'.below hb (block_lt_of_cell (hB' 0 (by omega))))
      rw [hf] at this
      exact this
    | true =>
      rw [hf] at hit
      have G : Good ps ⟨d, k, o⟩ t := ⟨h.len, hl, h.g, h.r, htn, hf⟩
      refine ⟨readR ps ⟨d, k, o⟩ (pad t), 0, true, ?_, hit, .inr ⟨rfl, rfl, rfl, G, rfl⟩⟩
      rintro v tl W ⟨s, c, rfl, h1⟩ ⟨s', c', rfl, h2⟩
      obtain ⟨B, rfl, hB⟩ := h1 hl
      obtain ⟨B', rfl, hB'⟩ := h2 hl
      exact Read_ok B 0 c B' 0 c' ps ⟨d, k, o⟩ t W G hB hB'
  · refine ⟨⟨0, 0, 0, 0, 0, 0, 0⟩, 2, false, ?_, fun W _ => IsTruth_ne _ _ _ _ _ _ W hmn, .inl ⟨rfl, rfl⟩⟩
    rintro v tl W ⟨s, c, rfl, h1⟩ ⟨s', c', rfl, h2⟩
    obtain ⟨B, rfl, hB⟩ := h1 h.pos
    exact Read_out _ _ _ c _ c' d k o W (fun W' hb => h.rc _ W' (CVp.grown rfl _ _ _ ⟨_, c, rfl, fun _ => ⟨B, rfl, hB⟩⟩ hb)) fun W' hb => allows_ne _ _ _ _ _ _ W' hmn

/-- The truth that was shown. -/
def ShownV (ps : List Pt) (r : Rl) (kd due : Int) (v : Value) (W : World) : Prop := ∃ t B c, IsTr ps t ∧ (fndOf kd (readR ps r t)).1 ≠ -1 ∧ (fndOf kd (readR ps r t)).2 = due ∧ v = .slice (some ⟨B, 0, none⟩) ps.length c ∧ IntsIn W B 0 (t.take ps.length)
theorem ShownV.grown {ps : List Pt} {r : Rl} {kd due : Int} (h0 : 0 < ps.length) (hn : ps.length ≤ 20) : ∀ v w1 w2, ShownV ps r kd due v w1 → Below w1.heap.size w1 w2 → ShownV ps r kd due v w2 := fun v w1 w2 ⟨t, B, c, h1, h2, h3, h4, h5⟩ hb => by
  have hl : (t.take ps.length).length = ps.length := by simp [h1.1]; omega
  exact ⟨t, B, c, h1, h2, h3, h4, h5.below hb (block_lt_of_cell (h5 0 (by omega)))⟩

theorem GoodC.shown {b off cap : Nat} {d k o : Int} {ps : List Pt} {w : World} (h : GoodC b off cap d k o ps w) (kind due : Int) (hk : kind = 0 ∨ kind = 1 ∨ kind = 2 ∨ kind = 3) : ∀ v W, ShownV ps ⟨d, k, o⟩ kind due v W → Below w.heap.size w W → ShoS (some ⟨b, off, none⟩) ps.length cap d k o kind due w v W := by
  rintro v W ⟨t, B, c, h1, h2, h3, rfl, h5⟩ hb
  have hltb := block_lt_of_cell (h.p 0 h.pos).1
  have hl : (t.take ps.length).length = ps.length := by have := h.len; simp [h1.1]; omega
  have hltt := block_lt_of_cell (h5 0 (by have := h.pos; omega))
  have hf := fits_take h1
  have G : Good ps ⟨d, k, o⟩ (t.take ps.length) := ⟨h.len, h.pos, h.g, h.r, hl, hf⟩
  have hpad := pad_take h1 h.len
  refine ⟨readR ps ⟨d, k, o⟩ t, fun W' hb' => ?_, fun W' hb' => ?_, fun W => ?_, fun W => ?_⟩
  · have := IsTruth_eq b off cap B 0 c ps (t.take ps.length) W' h.len h.pos (h.p.below (grow_to hb hb') hltb) hl (h5.below hb' hltt)
    rw [hf] at this
    exact this
  · have := RefRead_any b off cap B 0 c ps ⟨d, k, o⟩ (t.take ps.length) W' G (h.p.below (grow_to hb hb') hltb) (h5.below hb' hltt)
    rw [hpad] at this
    exact this
  · have := RefHas_any kind (readR ps ⟨d, k, o⟩ t) W hk
    rw [(is_fndK kind hk h.sane h1).2 h2] at this
    exact this
  · have := RefNumber_any kind (readR ps ⟨d, k, o⟩ t) W hk
    rw [← num_fndK kind hk, h3] at this
    exact this

/-- The law returns true: a curve, a rule, a kind, an end, numbers and a number, as they lie in memory. -/
theorem shows_law (sa st : Option Addr) (n cap m capt : Nat) (d k o kind nb : Int) (high : Bool) (w : World) (hnl : n ≤ maxLen) (hml : m ≤ maxLen) (hp0 : 0 < n → ∃ b off ps, sa = some ⟨b, off, none⟩ ∧ ps.length = n ∧ PtsIn w b off ps)
    (ht0 : 0 < m → ∃ b off t, st = some ⟨b, off, none⟩ ∧ t.length = m ∧ IntsIn w b off t) (hkind : 0 ≤ kind ∧ kind < 256) :
    Calls Try.prog 6 #[.agg #[.slice sa n cap], .agg #[.int .i64 d, .int .i64 k, .int .i64 o], .int .u8 kind, .bool high, .slice st m capt, .int .i64 nb] w fun e w' => e = .returned (.bool true) ∧ Below w.heap.size w w' := by
  obtain ⟨q, hfew, hq⟩ := curve_cases sa n cap d k o w hnl hp0
  by_cases hm : 30 < m
  · exact shows_no sa st n cap m capt d k o kind nb high q w hml (.inr hm) hfew
  replace hm : m ≤ 30 := by omega
  cases q with
  | false => exact shows_no sa st n cap m capt d k o kind nb high false w hml (.inl rfl) hfew
  | true =>
    obtain ⟨t, ht, hi⟩ : ∃ t : List Int, t.length = m ∧ (0 < m → ∃ b off, st = some ⟨b, off, none⟩ ∧ IntsIn w b off t) := by
      rcases Nat.eq_zero_or_pos m with h | h
      · exact ⟨[], h.symm, fun h' => absurd h' (by omega)⟩
      · obtain ⟨b, off, t, e, h1, h2⟩ := ht0 h
        exact ⟨t, h1, fun _ => ⟨b, off, e, h2⟩⟩
    have hls := list_tl st m capt t w hm ht hi
    obtain ⟨qv, known, hqv, hqc, hqk⟩ := qty_any kind hkind.1
    rcases hq rfl with ⟨ps, E, hB⟩ | ⟨b, off, ps, rfl, rfl, hG⟩
    · refine shows_walk sa st n cap m capt d k o kind nb E E 0 0 high false (CVp n ps) (fun _ _ => False) (fun v _ => v = .slice none 0 0) (TLp m t) w hm (CVp.grown hB.len) (fun _ _ _ h _ => h) (TLp.grown ht) hfew hB.cv ?_ hls ?_ hB.fl (.inl ⟨hB.ne, rfl, rfl, fun v W h => h⟩)
      · rintro v W ⟨s, c, rfl, h⟩ _
        exact (Shows_bad s n c kind d k o E (.bool high) W hB.ne fun W' hb => spanOf_err s n c kind d k o E W' hB.ne fun W2 hb2 => hB.rc _ W2 (CVp.grown hB.len _ _ _ ⟨s, c, rfl, h⟩ (below_to hb hb2))).mono fun e w' ⟨he, hb⟩ => ⟨_, he, rfl, hb⟩
      · rintro v tl W ⟨s, c, rfl, h⟩ _
        exact ProveRead_err tl kind nb E qv known d k o s n c W (.inl hB.ne) hqv hqc ⟨0, 0, 0, 0, 0, 0, 0⟩ fun W' hb => Read_err s n c tl d k o E W' hB.ne fun W2 hb2 => hB.rc _ W2 (CVp.grown hB.len _ _ _ ⟨s, c, rfl, h⟩ (below_to hb hb2))
    · obtain ⟨x, E, tb, hrd, hit, hcase⟩ := hG.read st m capt t ht hi
      have hrdv : ∀ v tl W, CVp ps.length ps v W → TLp m t tl W → ∀ W', Below W.heap.size W W' → Calls Try.prog 19 #[.agg #[v], .agg #[.int .i64 d, .int .i64 k, .int .i64 o], tl] W' fun e w' => e = .returned (.tuple #[.agg (rsV x), .int .i64 E]) ∧ Below W'.heap.size W' w' :=
        fun v tl W h1 h2 W' hb => hrd v tl W' (CVp.grown rfl _ _ _ h1 hb) (TLp.grown ht _ _ _ h2 hb)
      by_cases hk : 3 < kind
      · refine shows_walk _ st _ cap m capt d k o kind nb 0 2 0 0 high false (CVp ps.length ps) (fun _ _ => False) (fun v _ => v = .slice none 0 0) (TLp m t) w hm (CVp.grown rfl) (fun _ _ _ h _ => h) (TLp.grown ht) hfew hG.cv ?_ hls ?_ hG.fl (.inr (.inl ⟨rfl, hk, rfl, rfl, fun v W h => h⟩))
        · rintro v W ⟨s, c, rfl, h⟩ _
          exact (Shows_bad s _ c kind d k o 2 (.bool high) W (by omega) fun W' hb => spanOf_kind s _ c kind d k o W' (by omega) fun W2 hb2 => hG.rc _ W2 (CVp.grown rfl _ _ _ ⟨s, c, rfl, h⟩ (below_to hb hb2))).mono fun e w' ⟨he, hb⟩ => ⟨_, he, rfl, hb⟩
        · rintro v tl W ⟨s, c, rfl, h⟩ htl
          exact ProveRead_err tl kind nb E qv known d k o s _ c W (.inr (hqk hk)) hqv hqc x (hrdv _ tl W ⟨s, c, rfl, h⟩ htl)
      · have hk4 : kind = 0 ∨ kind = 1 ∨ kind = 2 ∨ kind = 3 := by omega
        obtain ⟨ft, fg, hK, hT⟩ := kindP hG.sane kind hk4
        obtain ⟨is, hpr, htru⟩ : ∃ is : Bool, (∀ v tl W, CVp ps.length ps v W → TLp m t tl W → Calls Try.prog 35 #[.agg #[v], .agg #[.int .i64 d, .int .i64 k, .int .i64 o], tl, .int .u8 kind, .int .i64 nb] W fun e w' => e = .returned (.bool is) ∧ Below W.heap.size W w') ∧ TruS (some ⟨b, off, none⟩) st ps.length cap m capt d k o kind nb is w := by
          rcases hcase with ⟨rfl, rfl⟩ | ⟨rfl, rfl, rfl, hGd, rfl⟩
          · refine ⟨false, ?_, ⟨false, hit, fun _ => rfl, (fun h => by cases h)⟩⟩
            rintro v tl W ⟨s, c, rfl, h⟩ htl
            exact ProveRead_err tl kind nb 2 qv known d k o s _ c W (.inl (by omega)) hqv hqc x (hrdv _ tl W ⟨s, c, rfl, h⟩ htl)
          · have htr := good_pad hGd
            refine ⟨isOf kind (readR ps ⟨d, k, o⟩ (pad t)) && (numOf kind (readR ps ⟨d, k, o⟩ (pad t)) == nb), ?_, ⟨true, hit, (fun h => by cases h), fun _ => ⟨_, _, _, fun W hb => ?_, fun W => RefHas_any kind _ W hk4, fun W => RefNumber_any kind _ W hk4, rfl⟩⟩⟩
            · rintro v tl W ⟨s, c, rfl, h⟩ htl
              refine ProveRead_ok tl kind nb ft fg (fndOf kind) (readR ps ⟨d, k, o⟩ (pad t)) d k o s _ c _ _ W hK ?_ ?_ (hrdv _ tl W ⟨s, c, rfl, h⟩ htl)
              · have := is_fndK kind hk4 hG.sane htr
                rw [Bool.eq_iff_iff, bne_iff_ne]
                exact this.symm
              · rw [num_fndK kind hk4]
            · obtain ⟨bt, offt, rfl, hI⟩ := hi hG.pos
              exact RefRead_any b off cap bt offt capt ps ⟨d, k, o⟩ t W hGd (hG.p.below hb (block_lt_of_cell (hG.p 0 hG.pos).1)) (hI.below hb (block_lt_of_cell (hI 0 (by have := hG.pos; omega))))
        have hsh : ∀ v W, CVp ps.length ps v W → Below w.heap.size w W → Calls Try.prog 34 #[.agg #[v], .agg #[.int .i64 d, .int .i64 k, .int .i64 o], .int .u8 kind, .bool high] W fun e w' => ∃ v, e = .returned v ∧ ShowP ps ⟨d, k, o⟩ (fndOf kind) high W.heap.size w' (spanP ps ⟨d, k, o⟩ kind) v ∧ Below W.heap.size W w' := by
          rintro v W ⟨s, c, rfl, h⟩ _
          obtain ⟨B, rfl, hB⟩ := h hG.pos
          exact Shows_ok ft fg B 0 c kind high ps ⟨d, k, o⟩ _ (fndOf kind) W hG.sane hG.both (hT B 0 c) hK hB Clone_any
        cases hs : spanP ps ⟨d, k, o⟩ kind with
        | none =>
          rw [hs] at hsh
          refine shows_walk _ st _ cap m capt d k o kind nb 0 7 0 0 high is (CVp ps.length ps) (fun v W => ListsV 0 W v (allT ps)) (fun v _ => v = .slice none 0 0) (TLp m t) w hm (CVp.grown rfl) (fun _ _ _ h _ => h) (TLp.grown ht) hfew hG.cv (fun v W h hb => (hsh v W h hb).mono ?_) hls hpr hG.fl (.inr (.inr ⟨rfl, by omega, htru, .inl ⟨rfl, rfl, rfl, hG.ref hk4 0 0 false (by rw [hs]; rfl), fun v W h => h⟩⟩))
          rintro e w' ⟨v, he, hv, hb⟩
          exact ⟨_, by rw [he, show v = _ from hv], rfl, hb⟩
        | some y =>
          obtain ⟨lo, hi'⟩ := y
          rw [hs] at hsh
          refine shows_walk _ st _ cap m capt d k o kind nb 0 0 lo hi' high is (CVp ps.length ps) (fun v W => ListsV 0 W v (allT ps)) (ShownV ps ⟨d, k, o⟩ kind (if high then hi' else lo)) (TLp m t) w hm (CVp.grown rfl) (ShownV.grown hG.pos hG.len) (TLp.grown ht) hfew hG.cv (fun v W h hb => (hsh v W h hb).mono ?_) hls hpr hG.fl (.inr (.inr ⟨rfl, by omega, htru, .inr ⟨rfl, hG.ref hk4 lo hi' true (by rw [hs]; rfl), hG.shown kind _ hk4⟩⟩))
          rintro e w' ⟨v, he, ⟨t', B, c, h1, h2, h3, h4, h5, _⟩, hb⟩
          exact ⟨_, by rw [he, h4], ⟨t', B, c, h1, h2, h3, rfl, h5⟩, hb⟩

set_option maxRecDepth 100000 in
theorem shows_lifted (os : Os) (started : os.Started) (H : Type) (enc : TypeId × Value → H) :
    ReturnsInHanded {} Try.checked os 6 .any (Rows.curveShowsSpec.pre6 enc Try.prog Try.f6 Rows.curveShowsRow.domain false) (Rows.curveShowsSpec.post enc Try.prog Try.f6 false true false false) := by
  refine returnsInHanded_of_change (C := Try.checked) Try.own started (by kernel_rfl) Try.func6
    (ChangeSpec.witness6 (enc := enc) (C := Try.checked) false ⟨#[], #[.agg #[.slice none 0 0], .agg #[.int .i64 0, .int .i64 0, .int .i64 0], .int .u8 0, .bool false, .slice none 0 0, .int .i64 0], []⟩ 8 (by kernel_rfl) (by kernel_rfl) (by kernel_rfl) (by kernel_rfl)) ?_
  intro W base args ds gs before hval0 hW _ _
  have hval : ∀ (j : Nat) t v, Try.f6.params[j]? = some t → args[j]? = some v → Value.okWide Try.prog W .any base t v := hval0
  have hW' := hW
  obtain ⟨p, q, hA0, hV, rfl, hfz, hnd⟩ := hW
  have hA : DataW.TrodAll enc Try.prog W 0 (fun _ => true) true Try.f6.params.toList args.toList ds p := hA0
  rw [Try.params6] at hA hval
  obtain ⟨v0, vs0, d0, ds0, p0, q0, hargs, rfl, rfl, h0, r0⟩ := trodAll_cons hA
  obtain ⟨v1, vs1, d1, ds1, p1, q1, rfl, rfl, rfl, h1, r1⟩ := trodAll_cons r0
  obtain ⟨v2, vs2, d2, ds2, p2, q2, rfl, rfl, rfl, h2, r2⟩ := trodAll_cons r1
  obtain ⟨v3, vs3, d3, ds3, p3, q3, rfl, rfl, rfl, h3, r3⟩ := trodAll_cons r2
  obtain ⟨v4, vs4, d4, ds4, p4, q4, rfl, rfl, rfl, h4, r4⟩ := trodAll_cons r3
  obtain ⟨v5, vs5, d5, ds5, p5, q5, rfl, rfl, rfl, h5, r5⟩ := trodAll_cons r4
  obtain ⟨rfl, rfl, rfl⟩ := trodAll_nil r5
  obtain ⟨args⟩ := args
  simp only at hargs
  subst hargs
  obtain ⟨rfl, rfl⟩ := trodVars_none hV
  obtain ⟨sa, n, cap, rfl, hn, hp⟩ := open_curve (hval 0 24 v0 rfl rfl) h0
  obtain ⟨d, k, o, rfl⟩ := open_rule (hval 1 26 v1 rfl rfl) h1
  obtain ⟨kind, rfl, rfl, rfl, wa⟩ := open_int Try.underlying5 (hval 2 5 v2 rfl rfl) h2
  obtain ⟨high, rfl, rfl, rfl⟩ := open_bool Try.underlying4 (hval 3 4 v3 rfl rfl) h3
  obtain ⟨st, m, capt, rfl, hm, hi⟩ := open_truth (hval 4 27 v4 rfl rfl) h4
  obtain ⟨nb, rfl, rfl, rfl, wb⟩ := open_int Try.underlying3 (hval 5 3 v5 rfl rfl) h5
  have hk : 0 ≤ kind ∧ kind < 256 := by
    simp [Lit.wf, IntKind.min, IntKind.max, IntKind.signed, IntKind.bits] at wa
    omega
  clear hA0 hval0
  refine (shows_law sa st n cap m capt d k o kind nb high W hn hm hp hi hk).mono fun e W' ⟨he, hb⟩ => ?_
  subst he
  have hlt : ∀ x ∈ p0 ++ (p1 ++ p4), x.block < W.heap.size := fun x hx => by simpa using hW'.lt x (by simpa using hx)
  have e1 : Rows.curveShowsSpec.fn H ([d0, d1, .lit (.int .u8 kind), .lit (.bool high), d4, .lit (.int .i64 nb)] ++ []) = { results := [.lit (.bool true)], args := [d0, d1, .lit (.int .u8 kind), .lit (.bool high), d4, .lit (.int .i64 nb)] } := rfl
  refine ⟨_, rfl, _, _, _, [], p0 ++ (p1 ++ ([] ++ ([] ++ (p4 ++ ([] ++ []))))), [], hW', ?_, ?_, ?_, hb.frame _, fun h => by cases h⟩
  · rw [e1]
    exact trodAll_mk1 (shut_bool Try.underlying4 true)
  · rw [e1]
    exact trodAll_cons_mk (Below.trod Try.laidOut (by kernel_rfl) (of_decide_eq_true (by kernel_rfl)) h0 hb (fun x hx => hlt x (by simp [hx])))
      (trodAll_cons_mk (Below.trod Try.laidOut (by kernel_rfl) (of_decide_eq_true (by kernel_rfl)) h1 hb (fun x hx => hlt x (by simp [hx])))
      (trodAll_cons_mk (shut_int Try.underlying5 wa) (trodAll_cons_mk (shut_bool Try.underlying4 high)
      (trodAll_cons_mk (Below.trod Try.laidOut (by kernel_rfl) (of_decide_eq_true (by kernel_rfl)) h4 hb (fun x hx => hlt x (by simp [hx])))
      (trodAll_cons_mk (shut_int Try.underlying3 wb) trodAll_mk0)))))
  · rfl

theorem shows_holds : Rows.CurveShowsSaid :=
  OpenClaim.holds_of_wide 6 Try.f6 rfl rfl rfl rfl rfl rfl rfl ⟨rfl, rfl, rfl, rfl, rfl⟩ rfl rfl rfl rfl rfl (by kernel_rfl) Try.func6 (by kernel_rfl)
    (of_decide_eq_true (by kernel_rfl)) (by unfold Func.isWrapper; rw [if_neg (of_decide_eq_false (by kernel_rfl))]; exact ⟨rfl, rfl⟩)
    (fun os started H enc _ => shows_lifted os started H enc)
#print axioms shows_holds
end Go.Proofs.Ytfjlnejeffkdoaa
