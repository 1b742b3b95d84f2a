/- The statement CurveEnds holds: for every curve, rule and kind the law returns true and leaves what it was given as it was. No condition. -/
import Derived.Test.YtfjlnejeffkdoaaAO
import Derived.Test.YtfjlnejeffkdoaaNN
namespace Go.Proofs.Ytfjlnejeffkdoaa
open Go.ChangeShapes Go.WideShapes Go.ChangeAt Go.RowKit

theorem nums_some {ps : List Pt} {r : Rl} {fnd : Rs → Int × Int} {ts : List (List Int)} {t : List Int} (ht : t ∈ ts) (h : (fnd (readR ps r t)).1 ≠ -1) : bnd (numsL ps r fnd ts) ≠ none := fun hb => by
  have he := (bnd_mem _ (numsL ps r fnd ts) rfl).1 hb
  have hm : fnd (readR ps r t) ∈ numsL ps r fnd ts := by
    simp only [numsL, List.mem_filter, List.mem_map, bne_iff_ne]
    exact ⟨⟨t, ht, rfl⟩, h⟩
  rw [he] at hm
  cases hm
theorem fst_at (B : Nat → Bool) (n : Nat) (h : fst B n ≠ -1) : 0 ≤ fst B n := by
  rcases fst_cases B n with ⟨e, _⟩ | ⟨k, _, e, _⟩
  · exact absurd e h
  · omega

/-- The law returns true: a curve, a rule and a kind, as they lie in memory. -/
theorem ends_law (sa : Option Addr) (n cap : Nat) (d k o kind : Int) (w : World) (hn : n ≤ maxLen)
    (hp : 0 < n → ∃ b off ps, sa = some ⟨b, off, none⟩ ∧ ps.length = n ∧ PtsIn w b off ps) (hk : 0 ≤ kind ∧ kind < 256) :
    Calls Try.prog 9 #[.agg #[.slice sa n cap], .agg #[.int .i64 d, .int .i64 k, .int .i64 o], .int .u8 kind] w fun e w' => e = .returned (.bool true) ∧ Below w.heap.size w w' := by
  by_cases h20 : 20 < n
  · refine ends_no _ _ _ _ _ w (ready_of (E := 3) (by omega) (fun W _ => Fault_long sa n cap W h20 hn) ?_)
    simp
  by_cases h0 : n = 0
  · subst h0
    refine ends_no _ _ _ _ _ w (ready_of (E := 1) (by omega) (fun W _ => Fault_empty sa cap W) ?_)
    simp
  obtain ⟨b, off, ps, rfl, rfl, hP⟩ := hp (by omega)
  have hl : 0 < ps.length := by omega
  have hl20 : ps.length ≤ 20 := by omega
  have hltb := block_lt_of_cell (hP 0 hl).1
  have hE : ptsE ps = 0 ∨ ptsE ps = 1 ∨ ptsE ps = 3 := by
    unfold ptsE; split <;> simp
  have hF : ∀ W, Below w.heap.size w W → Calls Try.prog 23 #[.agg #[.slice (some ⟨b, off, none⟩) ps.length cap]] W fun e w' => e = .returned (.int .i64 (ptsE ps)) ∧ Below W.heap.size W w' :=
    fun W hb => Fault_pts b off cap ps W hl20 hl (hP.below hb hltb)
  have h25 : ps.length ≤ 25 := by omega
  cases hg : goodsB ps 0 with
  | false =>
    refine ends_no _ _ _ _ _ w (ready_of hE hF ?_)
    simp [ptsE_no hg]
  | true =>
    cases hr : ruleB ⟨d, k, o⟩ with
    | false =>
      refine ends_no _ _ _ _ _ w (ready_of hE hF ?_)
      simp [ptsE_yes hg, ruleE_no hr]
    | true =>
      have F := sane_of hl20 hl hg hr
      have HR : ∀ W, Below w.heap.size w W → Calls Try.prog 41 #[.agg #[.slice (some ⟨b, off, none⟩) ps.length cap], .agg #[.int .i64 d, .int .i64 k, .int .i64 o]] W fun e w' => e = .returned (.bool true) ∧ Below W.heap.size W w' :=
        ready_of hE hF (by simp [ptsE_yes hg, ruleE_yes hr, h25])
      have hm0 := Int.tmod_nonneg 4 hk.1
      have hm1 := Int.tmod_lt_of_pos kind (show (0 : Int) < 4 by omega)
      have hlow := lowT_tr F
      have G : Good ps ⟨d, k, o⟩ ((lowT ps).take ps.length) := ⟨hl20, hl, hg, hr, by simp [hlow.1]; omega, fits_take hlow⟩
      have hord := ord_read G
      rw [pad_take hlow hl20] at hord
      obtain ⟨kp, _, hpk, _⟩ := hord.pk
      rcases (show kind.tmod 4 = 0 ∨ kind.tmod 4 = 1 ∨ kind.tmod 4 = 2 ∨ kind.tmod 4 = 3 by omega) with h | h | h | h
      · exact ends_yes b off cap ps ⟨d, k, o⟩ kind 0 77 78 _ (raised ps ps.length) w hl20 hl hg hr hP h (by omega) kind0 (fun B c => truths_raised F B 0 c) (fun _ _ _ => rfl)
          (fun hn => absurd hn (nums_some (t := lowT ps) (by simp [raised]) (by rw [hpk]; omega))) HR
      · exact ends_yes b off cap ps ⟨d, k, o⟩ kind 1 79 80 _ _ w hl20 hl hg hr hP h (by omega) kind1 (fun B c => truths_yield F B 0 c) (fun t _ ht => by
          have : 0 ≤ (readR ps ⟨d, k, o⟩ t).ya := fst_at _ _ ht
          simp [isOf, this]) (fun _ => .inl rfl) HR
      · exact ends_yes b off cap ps ⟨d, k, o⟩ kind 2 81 82 _ _ w hl20 hl hg hr hP h (by omega) kind2 (fun B c => truths_meet F B 0 c) (fun t _ ht => by
          have : 0 ≤ (readR ps ⟨d, k, o⟩ t).ma := fst_at _ _ ht
          simp [isOf, this]) (fun _ => .inr rfl) HR
      · exact ends_yes b off cap ps ⟨d, k, o⟩ kind 3 83 84 _ [lowT ps, highT ps] w hl20 hl hg hr hP h (by omega) kind3 (fun B c => truths_ends F B 0 c) (fun _ _ _ => rfl)
          (fun hn => absurd hn (nums_some (t := lowT ps) (by simp) (by simp))) HR

set_option maxRecDepth 100000 in
theorem ends_lifted (os : Os) (started : os.Started) (H : Type) (enc : TypeId × Value → H) :
    ReturnsInHanded {} Try.checked os 9 .any (Rows.curveEndsSpec.pre6 enc Try.prog Try.f9 Rows.curveEndsRow.domain false) (Rows.curveEndsSpec.post enc Try.prog Try.f9 false true false false) := by
  refine returnsInHanded_of_change (C := Try.checked) Try.own started (by kernel_rfl) Try.func9
    (ChangeSpec.witness6 (enc := enc) (C := Try.checked) false ⟨#[], #[.agg #[.slice none 0 0], .agg #[.int .i64 0, .int .i64 0, .int .i64 0], .int .u8 0], []⟩ 8 (by kernel_rfl) (by kernel_rfl) (by kernel_rfl) (by kernel_rfl)) ?_
  intro W base args ds gs before hval0 hW _ _
  have hval : ∀ (j : Nat) t v, Try.f9.params[j]? = some t → args[j]? = some v → Value.okWide Try.prog W .any base t v := hval0
  have hW' := hW
  obtain ⟨p, q, hA0, hV, rfl, hfz, hnd⟩ := hW
  have hA : DataW.TrodAll enc Try.prog W 0 (fun _ => true) true Try.f9.params.toList args.toList ds p := hA0
  rw [Try.params9] at hA hval
  obtain ⟨v0, vs0, d0, ds0, p0, q0, hargs, rfl, rfl, h0, r0⟩ := trodAll_cons hA
  obtain ⟨v1, vs1, d1, ds1, p1, q1, rfl, rfl, rfl, h1, r1⟩ := trodAll_cons r0
  obtain ⟨v2, vs2, d2, ds2, p2, q2, rfl, rfl, rfl, h2, r2⟩ := trodAll_cons r1
  obtain ⟨rfl, rfl, rfl⟩ := trodAll_nil r2
  obtain ⟨args⟩ := args
  simp only at hargs
  subst hargs
  obtain ⟨rfl, rfl⟩ := trodVars_none hV
  obtain ⟨sa, n, cap, rfl, hn, hp⟩ := open_curve (hval 0 24 v0 rfl rfl) h0
  obtain ⟨d, k, o, rfl⟩ := open_rule (hval 1 26 v1 rfl rfl) h1
  obtain ⟨kind, rfl, rfl, rfl, wa⟩ := open_int Try.underlying5 (hval 2 5 v2 rfl rfl) h2
  have hk : 0 ≤ kind ∧ kind < 256 := by
    simp [Lit.wf, IntKind.min, IntKind.max, IntKind.signed, IntKind.bits] at wa
    omega
  clear hA0 hval0
  refine (ends_law sa n cap d k o kind W hn hp hk).mono fun e W' ⟨he, hb⟩ => ?_
  subst he
  have hlt : ∀ x ∈ p0 ++ p1, x.block < W.heap.size := fun x hx => by simpa using hW'.lt x (by simpa using hx)
  have e1 : Rows.curveEndsSpec.fn H ([d0, d1, .lit (.int .u8 kind)] ++ []) = { results := [.lit (.bool true)], args := [d0, d1, .lit (.int .u8 kind)] } := rfl
  refine ⟨_, rfl, _, _, _, [], p0 ++ (p1 ++ ([] ++ [])), [], hW', ?_, ?_, ?_, hb.frame _, fun h => by cases h⟩
  · rw [e1]
    exact trodAll_mk1 (shut_bool Try.underlying4 true)
  · rw [e1]
    exact trodAll_cons_mk (Below.trod Try.laidOut (by kernel_rfl) (of_decide_eq_true (by kernel_rfl)) h0 hb (fun x hx => hlt x (by simp [hx])))
      (trodAll_cons_mk (Below.trod Try.laidOut (by kernel_rfl) (of_decide_eq_true (by kernel_rfl)) h1 hb (fun x hx => hlt x (by simp [hx])))
      (trodAll_cons_mk (shut_int Try.underlying5 wa) trodAll_mk0))
  · rfl

theorem ends_holds : Rows.CurveEndsSaid :=
  OpenClaim.holds_of_wide 9 Try.f9 rfl rfl rfl rfl rfl rfl rfl ⟨rfl, rfl, rfl, rfl, rfl⟩ rfl rfl rfl rfl rfl (by kernel_rfl) Try.func9 (by kernel_rfl)
    (of_decide_eq_true (by kernel_rfl)) (by unfold Func.isWrapper; rw [if_neg (of_decide_eq_false (by kernel_rfl))]; exact ⟨rfl, rfl⟩)
    (fun os started H enc _ => ends_lifted os started H enc)
#print axioms ends_holds
end Go.Proofs.Ytfjlnejeffkdoaa
