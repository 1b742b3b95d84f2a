/- The law CurveShows, walked; what is called given as contracts. No condition but these. -/
import Derived.Test.YtfjlnejeffkdoaaCI
import Derived.Test.YtfjlnejeffkdoaaCL
import Derived.Deep.CutRange
import Derived.Deep.DeepCutAuto
namespace Go.Proofs.Ytfjlnejeffkdoaa
open Go.RowKit Go.Shelf
attribute [local irreducible] arrV wpQuiet

/-- What the reference says of the given numbers: whether they are a truth that has this number. -/
structure TruS (sa st : Option Addr) (n cap m capt : Nat) (d k o kind nb : Int) (is : Bool) (w : World) : Prop where
  t : ∃ tb : Bool, (∀ W, Below w.heap.size w W → Calls Try.prog 24 #[.agg #[.slice sa n cap], .slice st m capt] W fun e w' => e = .returned (.bool tb) ∧ Below W.heap.size W w') ∧ (tb = false → is = false) ∧
    (tb = true → ∃ (x : Rs) (hv : Bool) (nn : Int), (∀ W, Below w.heap.size w W → Calls Try.prog 26 #[.agg #[.slice sa n cap], .agg #[.int .i64 d, .int .i64 k, .int .i64 o], .slice st m capt] W fun e w' => e = .returned (.agg (rsV x)) ∧ Below W.heap.size W w') ∧
      (∀ W, Calls Try.prog 36 #[.agg (rsV x), .int .u8 kind] W fun e w' => e = .returned (.bool hv) ∧ Below W.heap.size W w') ∧ (∀ W, Calls Try.prog 37 #[.agg (rsV x), .int .u8 kind] W fun e w' => e = .returned (.int .i64 nn) ∧ Below W.heap.size W w') ∧ is = (hv && (nn == nb)))

/-- What the reference says of the truth that was shown. -/
def ShoS (sa : Option Addr) (n cap : Nat) (d k o kind due : Int) (w : World) (lv : Value) (W : World) : Prop := ∃ x : Rs,
    (∀ W', Below W.heap.size W W' → Calls Try.prog 24 #[.agg #[.slice sa n cap], lv] W' fun e w' => e = .returned (.bool true) ∧ Below W'.heap.size W' w') ∧
    (∀ W', Below W.heap.size W W' → Calls Try.prog 26 #[.agg #[.slice sa n cap], .agg #[.int .i64 d, .int .i64 k, .int .i64 o], lv] W' fun e w' => e = .returned (.agg (rsV x)) ∧ Below W'.heap.size W' w') ∧
    (∀ W, Calls Try.prog 36 #[.agg (rsV x), .int .u8 kind] W fun e w' => e = .returned (.bool true) ∧ Below W.heap.size W w') ∧ (∀ W, Calls Try.prog 37 #[.agg (rsV x), .int .u8 kind] W fun e w' => e = .returned (.int .i64 due) ∧ Below W.heap.size W w')

set_option maxRecDepth 100000 in
set_option maxHeartbeats 400000 in
theorem shows_no (sa st : Option Addr) (n cap m capt : Nat) (d k o kind nb : Int) (high q : Bool) (w : World) (hm : m ≤ maxLen) (hq : q = false ∨ 30 < m)
    (HF : ∀ W, Below w.heap.size w W → Calls Try.prog 27 #[.agg #[.slice sa n cap]] W fun e w' => e = .returned (.bool q) ∧ Below W.heap.size W w') :
    Calls Try.prog 6 #[.agg #[.slice sa n cap], .agg #[.int .i64 d, .int .i64 k, .int .i64 o], .int .u8 kind, .bool high, .slice st m capt, .int .i64 nb] w fun e w' => e = .returned (.bool true) ∧ Below w.heap.size w w' := by
  have HRR := Lib.hid HF
  have hb2 := below2 w (.cells #[.slice sa n cap] 24) (.cells #[.int .i64 d, .int .i64 k, .int .i64 o] 26)
  have HA := Lib.hid awake_any
  have HQ := Lib.hid hq
  clear HF hq
  unfold maxLen at hm
  go_enter Try.func6, Try.ntmps6
  go_wp2_with fail
  refine (HRR.out _ hb2).mono ?_
  rintro e w1 ⟨rfl, hb1⟩
  have hbw := below_to hb2 hb1
  clear hb1 hb2
  have tail : ∀ q', q' = q → (q' = false ∨ (q' = true ∧ 30 < m)) := fun q' e => by
    subst e
    cases q'
    · exact .inl rfl
    · rcases HQ.out with h | h
      · cases h
      · exact .inr ⟨rfl, h⟩
  rcases tail q rfl with h | ⟨h, h30⟩
  · subst h
    clear tail
    go_wp2_with fail
    refine (HA.out _).mono ?_
    rintro e w2 ⟨rfl, hb3⟩
    have hbw2 := below_to hbw hb3
    clear hb3 hbw
    go_wp2
    go_ret
    exact ⟨rfl, hbw2⟩
  · subst h
    clear tail
    have hmi : (30 : Int) < (m : Int) := by omega
    go_wp2_with fail
    refine (HA.out _).mono ?_
    rintro e w2 ⟨rfl, hb3⟩
    have hbw2 := below_to hbw hb3
    clear hb3 hbw
    go_wp2
    go_ret
    exact ⟨rfl, hbw2⟩

set_option maxRecDepth 100000 in
set_option maxHeartbeats 8000000 in
theorem shows_walk (sa st : Option Addr) (n cap m capt : Nat) (d k o kind nb E EE lo hi : Int) (high is : Bool) (CV LV SL TL : Value → World → Prop) (w : World) (hm : m ≤ 30)
    (HCVg : ∀ v w1 w2, CV v w1 → Below w1.heap.size w1 w2 → CV v w2) (HSLg : ∀ v w1 w2, SL v w1 → Below w1.heap.size w1 w2 → SL v w2) (HTLg : ∀ v w1 w2, TL v w1 → Below w1.heap.size w1 w2 → TL v w2)
    (HFEW : ∀ W, Below w.heap.size w W → Calls Try.prog 27 #[.agg #[.slice sa n cap]] W fun e w' => e = .returned (.bool true) ∧ Below W.heap.size W w')
    (HCV : ∀ W, Below w.heap.size w W → Calls Try.prog 18 #[.agg #[.slice sa n cap]] W fun e w' => ∃ v, e = .returned (.agg #[v]) ∧ CV v w' ∧ Below W.heap.size W w')
    (HSH : ∀ v W, CV v W → Below w.heap.size w W → Calls Try.prog 34 #[.agg #[v], .agg #[.int .i64 d, .int .i64 k, .int .i64 o], .int .u8 kind, .bool high] W fun e w' => ∃ lv, e = .returned (.tuple #[lv, .int .i64 EE]) ∧ SL lv w' ∧ Below W.heap.size W w')
    (HLS : ∀ W, Below w.heap.size w W → Calls Try.prog 21 #[.slice st m capt] W fun e w' => ∃ tl, e = .returned tl ∧ TL tl w' ∧ Below W.heap.size W w')
    (HPR : ∀ v tl W, CV v W → TL tl W → Calls Try.prog 35 #[.agg #[v], .agg #[.int .i64 d, .int .i64 k, .int .i64 o], tl, .int .u8 kind, .int .i64 nb] W fun e w' => e = .returned (.bool is) ∧ Below W.heap.size W w')
    (HFL : ∀ W, Below w.heap.size w W → Calls Try.prog 22 #[.agg #[.slice sa n cap], .agg #[.int .i64 d, .int .i64 k, .int .i64 o]] W fun e w' => e = .returned (.int .i64 E) ∧ Below W.heap.size W w')
    (HX : (E ≠ 0 ∧ EE = E ∧ is = false ∧ ∀ v W, SL v W → v = .slice none 0 0) ∨ (E = 0 ∧ 3 < kind ∧ EE = 2 ∧ is = false ∧ ∀ v W, SL v W → v = .slice none 0 0) ∨
      (E = 0 ∧ kind ≤ 3 ∧ TruS sa st n cap m capt d k o kind nb is w ∧ ((EE = 7 ∧ lo = 0 ∧ hi = 0 ∧ RefS sa n cap d k o kind 0 0 false LV w ∧ ∀ v W, SL v W → v = .slice none 0 0) ∨
        (EE = 0 ∧ RefS sa n cap d k o kind lo hi true LV w ∧ ∀ v W, SL v W → Below w.heap.size w W → ShoS sa n cap d k o kind (if high then hi else lo) w v W)))) :
    Calls Try.prog 6 #[.agg #[.slice sa n cap], .agg #[.int .i64 d, .int .i64 k, .int .i64 o], .int .u8 kind, .bool high, .slice st m capt, .int .i64 nb] w fun e w' => e = .returned (.bool true) ∧ Below w.heap.size w w' := by
  have hb2 := below2 w (.cells #[.slice sa n cap] 24) (.cells #[.int .i64 d, .int .i64 k, .int .i64 o] 26)
  obtain ⟨hx1, hx2⟩ := box2 w (.cells #[.slice sa n cap] 24) (.cells #[.int .i64 d, .int .i64 k, .int .i64 o] 26)
  have HA := Lib.hid awake_any
  have H1 := Lib.hid HCVg
  have H1s := Lib.hid HSLg
  have H1t := Lib.hid HTLg
  have H2 := Lib.hid HFEW
  have H3 := Lib.hid HCV
  have H4 := Lib.hid HSH
  have H5 := Lib.hid HFL
  have H6 := Lib.hid HLS
  have H7 := Lib.hid HPR
  have H10 := Lib.hid HX
  have hmm : ¬ (30 : Int) < (m : Int) := by omega
  have hmd : decide ((30 : Int) < (m : Int)) = false := by simp; omega
  clear HCVg HSLg HTLg HFEW HCV HSH HFL HLS HPR HX hm
  go_enter Try.func6, Try.ntmps6
  go_wp2_with fail
  generalize World.alloc (World.alloc w _) _ = W1 at *
  refine (H2.out _ hb2).mono ?_
  rintro e w1 ⟨rfl, hb1⟩
  have HBW := Lib.hid (below_to hb2 hb1)
  have HC : Hid (∀ w', Below w1.heap.size w1 w' → w'.cell? ⟨w.heap.size, 0, none⟩ = some (.slice sa n cap) ∧ w'.cell? ⟨w.heap.size + 1, 0, none⟩ = some (.int .i64 d) ∧ w'.cell? ⟨w.heap.size + 1, 1, none⟩ = some (.int .i64 k) ∧ w'.cell? ⟨w.heap.size + 1, 2, none⟩ = some (.int .i64 o)) := Lib.hid fun w' h => by
    have z1 := (hb1.block _ (lt_of_block hx1)).trans hx1
    have z2 := (hb1.block _ (lt_of_block hx2)).trans hx2
    have y1 := (h.block _ (lt_of_block z1)).trans z1
    have y2 := (h.block _ (lt_of_block z2)).trans z2
    exact ⟨cell_of_row w' w.heap.size 0 _ _ _ y1, cell_of_row w' (w.heap.size + 1) 0 _ _ _ y2, cell_of_row w' (w.heap.size + 1) 1 _ _ _ y2, cell_of_row w' (w.heap.size + 1) 2 _ _ _ y2⟩
  clear hb1 hb2 hx1 hx2
  clear W1
  go_wp2
  clear hmm hmd
  refine wp_region_noPanic ?_
  refine wp_region_chain (fun w' => Below w1.heap.size w1 w') (fun _ _ h hb => grow_to h hb) (below_drawn _) (by kernel_rfl) (fun _ _ _ _ _ h => h)
    [(false, 0), (false, 2), (false, 4), (false, 5), (true, 1), (true, 3), (true, 6), (false, 7), (false, 8), (false, 9)] [10, 11] (by kernel_rfl) ?_
  iterate 4
    (refine Walk.takes rfl rfl ?_; apply Exists.intro; refine ⟨fun w' hS => ?_, ?_⟩; (obtain ⟨d0, d1, d2, d3⟩ := HC.out w' hS; clear hS; go_simp; with_reducible rfl); simp only [List.getElem_toArray, List.getElem_cons_succ, List.getElem_cons_zero, Act.put, List.setIfInBounds_toArray, List.set_cons_zero, List.set_cons_succ])
  refine Walk.calls rfl rfl ?_; apply Exists.intro; apply Exists.intro; refine ⟨fun w' hS => ?_, fun w' hba => ?_⟩; (clear hS; go_simp; exact ⟨rfl, rfl⟩)
  have hu0 := grow_to HBW.out (grow_to (below_drawn _) hba)
  refine (H3.out w' hu0).mono ?_
  rintro e u1 ⟨v2, rfl, hv2, hbb⟩
  refine ⟨_, rfl, hbb, ?_⟩
  simp only [List.getElem_toArray, List.getElem_cons_succ, List.getElem_cons_zero, Act.put, List.setIfInBounds_toArray, List.set_cons_zero, List.set_cons_succ]
  have hu1 := grow_to hu0 hbb
  clear hba hbb hu0
  refine Walk.calls rfl rfl ?_; apply Exists.intro; apply Exists.intro; refine ⟨fun w' hS => ?_, fun w' hba => ?_⟩; (clear hS; go_simp; exact ⟨rfl, rfl⟩)
  refine (Rule_any d k o w').mono ?_
  rintro e u2 ⟨rfl, hbb⟩
  refine ⟨_, rfl, hbb, ?_⟩
  simp only [List.getElem_toArray, List.getElem_cons_succ, List.getElem_cons_zero, Act.put, List.setIfInBounds_toArray, List.set_cons_zero, List.set_cons_succ]
  replace hv2 := H1.out _ _ _ (H1.out _ _ _ hv2 hba) hbb
  have hu2 := grow_to (grow_to hu1 hba) hbb
  clear hba hbb hu1
  refine Walk.calls rfl rfl ?_; apply Exists.intro; apply Exists.intro; refine ⟨fun w' hS => ?_, fun w' hba => ?_⟩; (clear hS; go_simp; exact ⟨rfl, rfl⟩)
  refine (H4.out v2 w' (H1.out _ _ _ hv2 hba) (grow_to hu2 hba)).mono ?_
  rintro e u3 ⟨lv, rfl, hlv, hbb⟩
  refine ⟨_, rfl, hbb, ?_⟩
  simp only [List.getElem_toArray, List.getElem_cons_succ, List.getElem_cons_zero, Act.put, List.setIfInBounds_toArray, List.set_cons_zero, List.set_cons_succ]
  clear hba hbb hv2 hu2
  iterate 3
    (refine Walk.takes rfl rfl ?_; apply Exists.intro; refine ⟨fun w' hS => ?_, ?_⟩; (clear hS; go_simp; with_reducible rfl); simp only [List.getElem_toArray, List.getElem_cons_succ, List.getElem_cons_zero, Act.put, List.setIfInBounds_toArray, List.set_cons_zero, List.set_cons_succ])
  refine Walk.fin ?_
  intro w2 hb7 hw7
  have HSL := Lib.hid (H1s.out _ _ _ hlv hb7)
  have HB := Lib.hid hw7
  clear hlv hb7 hw7
  iterate 2
    (refine Tail.value rfl rfl (by go_simp; with_reducible rfl) ?_; simp only [List.getElem_toArray, List.getElem_cons_succ, List.getElem_cons_zero, Act.put, List.setIfInBounds_toArray, List.set_cons_zero, List.set_cons_succ])
  refine Tail.done (NoPanic.normal ?_)
  clear u3
  go_wp2
  refine wp_region_noPanic ?_
  refine wp_region_chain (fun w' => Below w2.heap.size w2 w') (fun _ _ h hb => grow_to h hb) (below_drawn _) (by kernel_rfl) (fun _ _ _ _ _ h => h)
    [(false, 0), (false, 2), (false, 4), (false, 6), (false, 7), (true, 1), (true, 3), (true, 5), (true, 8)] [9] (by kernel_rfl) ?_
  iterate 5
    (refine Walk.takes rfl rfl ?_; apply Exists.intro; refine ⟨fun w' hS => ?_, ?_⟩; (obtain ⟨d0, d1, d2, d3⟩ := HC.out w' (grow_to HB.out hS); clear hS; go_simp; with_reducible rfl); simp only [List.getElem_toArray, List.getElem_cons_succ, List.getElem_cons_zero, Act.put, List.setIfInBounds_toArray, List.set_cons_zero, List.set_cons_succ])
  refine Walk.calls rfl rfl ?_; apply Exists.intro; apply Exists.intro; refine ⟨fun w' hS => ?_, fun w' hba => ?_⟩; (clear hS; go_simp; exact ⟨rfl, rfl⟩)
  have hu0 := grow_to HBW.out (grow_to HB.out (grow_to (below_drawn _) hba))
  refine (H3.out w' hu0).mono ?_
  rintro e u1 ⟨v2, rfl, hv2, hbb⟩
  refine ⟨_, rfl, hbb, ?_⟩
  simp only [List.getElem_toArray, List.getElem_cons_succ, List.getElem_cons_zero, Act.put, List.setIfInBounds_toArray, List.set_cons_zero, List.set_cons_succ]
  have hu1 := grow_to hu0 hbb
  clear hba hbb hu0
  refine Walk.calls rfl rfl ?_; apply Exists.intro; apply Exists.intro; refine ⟨fun w' hS => ?_, fun w' hba => ?_⟩; (clear hS; go_simp; exact ⟨rfl, rfl⟩)
  refine (Rule_any d k o w').mono ?_
  rintro e u2 ⟨rfl, hbb⟩
  refine ⟨_, rfl, hbb, ?_⟩
  simp only [List.getElem_toArray, List.getElem_cons_succ, List.getElem_cons_zero, Act.put, List.setIfInBounds_toArray, List.set_cons_zero, List.set_cons_succ]
  replace hv2 := H1.out _ _ _ (H1.out _ _ _ hv2 hba) hbb
  have hu2 := grow_to (grow_to hu1 hba) hbb
  clear hba hbb hu1
  refine Walk.calls rfl rfl ?_; apply Exists.intro; apply Exists.intro; refine ⟨fun w' hS => ?_, fun w' hba => ?_⟩; (clear hS; go_simp; exact ⟨rfl, rfl⟩)
  refine (H6.out w' (grow_to hu2 hba)).mono ?_
  rintro e u3 ⟨tl, rfl, htl, hbb⟩
  refine ⟨_, rfl, hbb, ?_⟩
  simp only [List.getElem_toArray, List.getElem_cons_succ, List.getElem_cons_zero, Act.put, List.setIfInBounds_toArray, List.set_cons_zero, List.set_cons_succ]
  replace hv2 := H1.out _ _ _ (H1.out _ _ _ hv2 hba) hbb
  clear hba hbb hu2
  refine Walk.calls rfl rfl ?_; apply Exists.intro; apply Exists.intro; refine ⟨fun w' hS => ?_, fun w' hba => ?_⟩; (clear hS; go_simp; exact ⟨rfl, rfl⟩)
  refine (H7.out v2 tl w' (H1.out _ _ _ hv2 hba) (H1t.out _ _ _ htl hba)).mono ?_
  rintro e u4 ⟨rfl, hbb⟩
  refine ⟨_, rfl, hbb, ?_⟩
  simp only [List.getElem_toArray, List.getElem_cons_succ, List.getElem_cons_zero, Act.put, List.setIfInBounds_toArray, List.set_cons_zero, List.set_cons_succ]
  clear hba hbb hv2 htl
  refine Walk.fin ?_
  intro w3 hb7 hw7
  replace HSL := Lib.hid (H1s.out _ _ _ HSL.out hw7)
  replace HB := Lib.hid (grow_to HB.out hw7)
  clear hb7 hw7
  iterate 1
    (refine Tail.value rfl rfl (by go_simp; with_reducible rfl) ?_; simp only [List.getElem_toArray, List.getElem_cons_succ, List.getElem_cons_zero, Act.put, List.setIfInBounds_toArray, List.set_cons_zero, List.set_cons_succ])
  refine Tail.done (NoPanic.normal ?_)
  clear u4 w2
  clear H1 H1t H2 H3 H4 H6 H7
  obtain ⟨d0, d1, d2, d3⟩ := HC.out w3 HB.out
  go_wp2_with fail
  refine (H5.out w3 (grow_to HBW.out HB.out)).mono ?_
  rintro e w4 ⟨rfl, hb3⟩
  replace HB := Lib.hid (grow_to HB.out hb3)
  replace HSL := Lib.hid (H1s.out _ _ _ HSL.out hb3)
  clear hb3 d0 d1 d2 d3 H5
  clear w3
  rcases H10.out with ⟨hE, rfl, rfl, hnil⟩ | ⟨rfl, hk, rfl, rfl, hnil⟩ | ⟨rfl, hk, HT, HR⟩
  · obtain rfl := hnil lv w4 HSL.out
    clear hnil
    have hne : (EE == 0) = false := by rw [beq_eq_false_iff_ne]; exact hE
    have hne' : (EE != 0) = true := by rw [bne_iff_ne]; exact hE
    have HBG := Lib.hid (grow_to (grow_to HBW.out HB.out) (grow_alloc w4 (.cells #[.int .i64 0, .int .i64 0] 54)))
    go_wp2_with fail
    refine (HA.out _).mono ?_
    rintro e w5 ⟨rfl, hb4⟩
    have hbf := grow_to HBG.out hb4
    clear hb4
    go_wp2
    go_ret
    exact ⟨rfl, hbf⟩
  · obtain rfl := hnil lv w4 HSL.out
    clear hnil
    have hk1 : decide (kind > 3) = true := decide_eq_true hk
    have hk2 : decide (kind ≤ 3) = false := decide_eq_false (by omega)
    have HBG := Lib.hid (grow_to (grow_to HBW.out HB.out) (grow_alloc w4 (.cells #[.int .i64 0, .int .i64 0] 54)))
    go_wp2_with fail
    refine (HA.out _).mono ?_
    rintro e w5 ⟨rfl, hb4⟩
    have hbf := grow_to HBG.out hb4
    clear hb4
    go_wp2
    go_ret
    exact ⟨rfl, hbf⟩
  · have hk1 : decide (kind > 3) = false := decide_eq_false (by omega)
    have hk2 : decide (kind ≤ 3) = true := decide_eq_true hk
    obtain ⟨tb, ht1, ht2, ht3⟩ := HT.t
    have HT1 := Lib.hid ht1
    have HT2 := Lib.hid ht2
    have HT3 := Lib.hid ht3
    have HRR := Lib.hid HR
    clear ht1 ht2 ht3 HT HR H10 hk
    go_upto_region 6 with fail
    go_cut [82] from 52 to 82 (fun s82 wx => s82 = .bool false ∧ Hid (Below w4.heap.size w4 wx))
    case first => as_aux_lemma =>
      obtain ⟨d0, d1, d2, d3⟩ := HC.out w4 HB.out
      go_wp2_with fail
      refine (HT1.out w4 (grow_to HBW.out HB.out)).mono ?_
      rintro e w5 ⟨rfl, hb5⟩
      have HB5 := Lib.hid hb5
      clear hb5 d0 d1 d2 d3
      cases tb
      · have his := HT2.out rfl
        subst his
        go_wp2
        go_meet
        case rel => exact ⟨rfl, HB5⟩
      · obtain ⟨x, hv, nn, h26, h36, h37, his⟩ := HT3.out rfl
        have G26 := Lib.hid h26
        have G36 := Lib.hid h36
        have G37 := Lib.hid h37
        have HIS := Lib.hid his
        clear h26 h36 h37 his HT2 HT3
        obtain ⟨d0, d1, d2, d3⟩ := HC.out w5 (grow_to HB.out HB5.out)
        go_wp2_with fail
        refine (G26.out w5 (grow_to HBW.out (grow_to HB.out HB5.out))).mono ?_
        rintro e w6 ⟨rfl, hb6⟩
        have HB6 := Lib.hid (grow_to HB5.out hb6)
        clear hb6 d0 d1 d2 d3
        go_wp2_with fail
        refine (G36.out w6).mono ?_
        rintro e w7 ⟨rfl, hb7⟩
        have HB7 := Lib.hid (grow_to HB6.out hb7)
        clear hb7
        cases hv
        · have his : is = false := by rw [HIS.out]; rfl
          clear HIS HRR
          subst his
          go_wp2
          go_meet
          case rel => exact ⟨rfl, HB7⟩
        · obtain ⟨d0, d1, d2, d3⟩ := HC.out w7 (grow_to HB.out HB7.out)
          go_wp2_with fail
          refine (G26.out w7 (grow_to HBW.out (grow_to HB.out HB7.out))).mono ?_
          rintro e w8 ⟨rfl, hb8⟩
          have HB8 := Lib.hid (grow_to HB7.out hb8)
          clear hb8 d0 d1 d2 d3
          go_wp2_with fail
          refine (G37.out w8).mono ?_
          rintro e w9 ⟨rfl, hb9⟩
          have HB9 := Lib.hid (grow_to HB8.out hb9)
          clear hb9
          have hs : ∀ b, (nn == nb) = b → is = b := fun b hb => by rw [HIS.out, hb]; rfl
          have HSS := Lib.hid hs
          clear hs HIS HRR
          cases hb : (nn == nb)
          · have his := HSS.out _ hb
            clear HSS
            subst his
            go_wp2
            go_meet
            case rel => exact ⟨rfl, HB9⟩
          · have his := HSS.out _ hb
            clear HSS
            subst his
            go_wp2
            go_meet
            case rel => exact ⟨rfl, HB9⟩
    case rest =>
      obtain ⟨rfl, HX6⟩ := hcut
      obtain ⟨w3, rfl⟩ : ∃ w3, w3 = wc := ⟨_, rfl⟩
      replace HSL := Lib.hid (H1s.out _ _ _ HSL.out HX6.out)
      replace HB := Lib.hid (grow_to HB.out HX6.out)
      clear HX6 HT1 HT2 HT3
      rcases HRR.out with ⟨rfl, rfl, rfl, HR, hnil⟩ | ⟨rfl, HR, hS2⟩
      · obtain rfl := hnil lv w3 HSL.out
        have HRS := Lib.hid HR
        clear HR hnil HRR
        have HT3 := Lib.hid (heap_alloc_new w3 (.cells #[.int .i64 0, .int .i64 0] 54))
        have HB3 := Lib.hid (grow_alloc w3 (.cells #[.int .i64 0, .int .i64 0] 54))
        go_wp2
        generalize w3.alloc (.cells #[.int .i64 0, .int .i64 0] 54) = w4 at *
        refine wp_region_noPanic ?_
        refine wp_region_chain (fun w' => Below w3.heap.size w3 w') (fun _ _ h hb => grow_to h hb) (grow_to HB3.out (below_drawn _)) (by kernel_rfl) (fun _ _ _ _ _ h => h)
          [(false, 0), (false, 1), (false, 2), (false, 3), (true, 4), (true, 5), (false, 6), (false, 7), (false, 8)] [9, 10] (by kernel_rfl) ?_
        iterate 4
          (refine Walk.takes rfl rfl ?_; apply Exists.intro; refine ⟨fun w' hS => ?_, ?_⟩; (obtain ⟨d0, d1, d2, d3⟩ := HC.out w' (grow_to HB.out hS); clear hS; go_simp; with_reducible rfl); simp only [List.getElem_toArray, List.getElem_cons_succ, List.getElem_cons_zero, Act.put, List.setIfInBounds_toArray, List.set_cons_zero, List.set_cons_succ])
        refine Walk.calls rfl rfl ?_; apply Exists.intro; apply Exists.intro; refine ⟨fun w' hS => ?_, fun w' hba => ?_⟩; (clear hS; go_simp; exact ⟨rfl, rfl⟩)
        have hu0 := grow_to HB3.out (grow_to (below_drawn _) hba)
        have ht0 := ((grow_to (below_drawn _) hba).block _ (lt_of_block HT3.out)).trans HT3.out
        refine (HRS.out.t w' (grow_to HBW.out (grow_to HB.out hu0))).mono ?_
        rintro e u1 ⟨lvv, rfl, hlv, hbb⟩
        refine ⟨_, rfl, hbb, ?_⟩
        simp only [List.getElem_toArray, List.getElem_cons_succ, List.getElem_cons_zero, Act.put, List.setIfInBounds_toArray, List.set_cons_zero, List.set_cons_succ]
        have hu1 := grow_to hu0 hbb
        have ht1 := (hbb.block _ (lt_of_block ht0)).trans ht0
        clear hba hbb hu0 ht0
        refine Walk.calls rfl rfl ?_; apply Exists.intro; apply Exists.intro; refine ⟨fun w' hS => ?_, fun w' hba => ?_⟩; (clear hS; go_simp; exact ⟨rfl, rfl⟩)
        have hu2 := grow_to hu1 hba
        have ht2 := (hba.block _ (lt_of_block ht1)).trans ht1
        refine (HRS.out.s lvv w' (HRS.out.g _ _ _ hlv hba) (grow_to HBW.out (grow_to HB.out hu2))).mono ?_
        rintro e u2 ⟨rfl, hbb⟩
        refine ⟨_, rfl, hbb, ?_⟩
        simp only [List.getElem_toArray, List.getElem_cons_succ, List.getElem_cons_zero, Act.put, List.setIfInBounds_toArray, List.set_cons_zero, List.set_cons_succ]
        have hu3 := grow_to hu2 hbb
        have ht3 := (hbb.block _ (lt_of_block ht2)).trans ht2
        clear hba hbb hlv hu1 hu2 ht1 ht2
        iterate 3
          (refine Walk.takes rfl rfl ?_; apply Exists.intro; refine ⟨fun w' hS => ?_, ?_⟩; (clear hS; go_simp; with_reducible rfl); simp only [List.getElem_toArray, List.getElem_cons_succ, List.getElem_cons_zero, Act.put, List.setIfInBounds_toArray, List.set_cons_zero, List.set_cons_succ])
        refine Walk.fin ?_
        intro v7 hb7 hw7
        have hz8 := (hb7.block _ (lt_of_block ht3)).trans ht3
        have s54 : (Try.prog.info? 54).map (·.size) = some 2 := by kernel_rfl
        have n1 := set_whole w3.heap.size 54 v7 #[.int .i64 0, .int .i64 0] #[.int .i64 0, .int .i64 0] rfl hz8
        have n3 := below_cells (b := w3.heap.size) (Nat.le_refl _) [.int .i64 0, .int .i64 0] 0 v7 hw7
        refine Tail.skip rfl rfl (exec_store_row 54 (.tmp 17) (.tmp 98) rfl w3.heap.size 0 #[.int .i64 0, .int .i64 0] rfl rfl (there_block hz8 (Nat.le_refl _)) s54 (by simp [Value.oneCell'])) n3 ?_
        simp only [List.getElem_toArray, List.getElem_cons_succ, List.getElem_cons_zero, Act.put, List.setIfInBounds_toArray, List.set_cons_zero, List.set_cons_succ]
        generalize v7.setCells w3.heap.size 0 _ = w5 at *
        iterate 1
          (refine Tail.value rfl rfl (by go_simp; with_reducible rfl) ?_; simp only [List.getElem_toArray, List.getElem_cons_succ, List.getElem_cons_zero, Act.put, List.setIfInBounds_toArray, List.set_cons_zero, List.set_cons_succ])
        refine Tail.done (NoPanic.normal ?_)
        have HBF := Lib.hid (grow_to (grow_to HBW.out HB.out) n3)
        have HB5 := Lib.hid n3
        have t0 := cell_of_row w5 w3.heap.size 0 _ _ _ n1
        have t1 := cell_of_row w5 w3.heap.size 1 _ _ _ n1
        (try simp at t0); (try simp at t1)
        clear hz8 hw7 hb7 s54 n1 n3 ht3 hu3
        clear v7 u2
        go_wp2_with fail
        refine (HA.out _).mono ?_
        rintro e w6 ⟨rfl, hb6⟩
        have hbf := grow_to HBF.out hb6
        clear hb6
        go_wp2
        go_ret
        exact ⟨rfl, hbf⟩
      · have HRS := Lib.hid HR
        have HS2 := Lib.hid hS2
        clear HR hS2 HRR
        have HT3 := Lib.hid (heap_alloc_new w3 (.cells #[.int .i64 0, .int .i64 0] 54))
        have HB3 := Lib.hid (grow_alloc w3 (.cells #[.int .i64 0, .int .i64 0] 54))
        go_wp2
        generalize w3.alloc (.cells #[.int .i64 0, .int .i64 0] 54) = w4 at *
        refine wp_region_noPanic ?_
        refine wp_region_chain (fun w' => Below w3.heap.size w3 w') (fun _ _ h hb => grow_to h hb) (grow_to HB3.out (below_drawn _)) (by kernel_rfl) (fun _ _ _ _ _ h => h)
          [(false, 0), (false, 1), (false, 2), (false, 3), (true, 4), (true, 5), (false, 6), (false, 7), (false, 8)] [9, 10] (by kernel_rfl) ?_
        iterate 4
          (refine Walk.takes rfl rfl ?_; apply Exists.intro; refine ⟨fun w' hS => ?_, ?_⟩; (obtain ⟨d0, d1, d2, d3⟩ := HC.out w' (grow_to HB.out hS); clear hS; go_simp; with_reducible rfl); simp only [List.getElem_toArray, List.getElem_cons_succ, List.getElem_cons_zero, Act.put, List.setIfInBounds_toArray, List.set_cons_zero, List.set_cons_succ])
        refine Walk.calls rfl rfl ?_; apply Exists.intro; apply Exists.intro; refine ⟨fun w' hS => ?_, fun w' hba => ?_⟩; (clear hS; go_simp; exact ⟨rfl, rfl⟩)
        have hu0 := grow_to HB3.out (grow_to (below_drawn _) hba)
        have ht0 := ((grow_to (below_drawn _) hba).block _ (lt_of_block HT3.out)).trans HT3.out
        refine (HRS.out.t w' (grow_to HBW.out (grow_to HB.out hu0))).mono ?_
        rintro e u1 ⟨lvv, rfl, hlv, hbb⟩
        refine ⟨_, rfl, hbb, ?_⟩
        simp only [List.getElem_toArray, List.getElem_cons_succ, List.getElem_cons_zero, Act.put, List.setIfInBounds_toArray, List.set_cons_zero, List.set_cons_succ]
        have hu1 := grow_to hu0 hbb
        have ht1 := (hbb.block _ (lt_of_block ht0)).trans ht0
        clear hba hbb hu0 ht0
        refine Walk.calls rfl rfl ?_; apply Exists.intro; apply Exists.intro; refine ⟨fun w' hS => ?_, fun w' hba => ?_⟩; (clear hS; go_simp; exact ⟨rfl, rfl⟩)
        have hu2 := grow_to hu1 hba
        have ht2 := (hba.block _ (lt_of_block ht1)).trans ht1
        refine (HRS.out.s lvv w' (HRS.out.g _ _ _ hlv hba) (grow_to HBW.out (grow_to HB.out hu2))).mono ?_
        rintro e u2 ⟨rfl, hbb⟩
        refine ⟨_, rfl, hbb, ?_⟩
        simp only [List.getElem_toArray, List.getElem_cons_succ, List.getElem_cons_zero, Act.put, List.setIfInBounds_toArray, List.set_cons_zero, List.set_cons_succ]
        have hu3 := grow_to hu2 hbb
        have ht3 := (hbb.block _ (lt_of_block ht2)).trans ht2
        clear hba hbb hlv hu1 hu2 ht1 ht2
        iterate 3
          (refine Walk.takes rfl rfl ?_; apply Exists.intro; refine ⟨fun w' hS => ?_, ?_⟩; (clear hS; go_simp; with_reducible rfl); simp only [List.getElem_toArray, List.getElem_cons_succ, List.getElem_cons_zero, Act.put, List.setIfInBounds_toArray, List.set_cons_zero, List.set_cons_succ])
        refine Walk.fin ?_
        intro v7 hb7 hw7
        have hz8 := (hb7.block _ (lt_of_block ht3)).trans ht3
        have s54 : (Try.prog.info? 54).map (·.size) = some 2 := by kernel_rfl
        have n1 := set_whole w3.heap.size 54 v7 #[.int .i64 0, .int .i64 0] #[.int .i64 lo, .int .i64 hi] rfl hz8
        have n3 := below_cells (b := w3.heap.size) (Nat.le_refl _) [.int .i64 lo, .int .i64 hi] 0 v7 hw7
        refine Tail.skip rfl rfl (exec_store_row 54 (.tmp 17) (.tmp 98) rfl w3.heap.size 0 #[.int .i64 lo, .int .i64 hi] rfl rfl (there_block hz8 (Nat.le_refl _)) s54 (by simp [Value.oneCell'])) n3 ?_
        simp only [List.getElem_toArray, List.getElem_cons_succ, List.getElem_cons_zero, Act.put, List.setIfInBounds_toArray, List.set_cons_zero, List.set_cons_succ]
        generalize v7.setCells w3.heap.size 0 _ = w5 at *
        iterate 1
          (refine Tail.value rfl rfl (by go_simp; with_reducible rfl) ?_; simp only [List.getElem_toArray, List.getElem_cons_succ, List.getElem_cons_zero, Act.put, List.setIfInBounds_toArray, List.set_cons_zero, List.set_cons_succ])
        refine Tail.done (NoPanic.normal ?_)
        have HBF := Lib.hid (grow_to (grow_to HBW.out HB.out) n3)
        have HB5 := Lib.hid n3
        have t0 := cell_of_row w5 w3.heap.size 0 _ _ _ n1
        have t1 := cell_of_row w5 w3.heap.size 1 _ _ _ n1
        (try simp at t0); (try simp at t1)
        clear hz8 hw7 hb7 s54 n1 n3 ht3 hu3
        clear v7 u2
        cases high
        · have HSW := Lib.hid (HS2.out lv w5 (H1s.out _ _ _ HSL.out HB5.out) HBF.out)
          clear HS2
          obtain ⟨x, h24, h26, h36, h37⟩ := HSW.out
          have G24 := Lib.hid h24
          have G26 := Lib.hid h26
          have G36 := Lib.hid h36
          have G37 := Lib.hid h37
          clear h24 h26 h36 h37 HSW
          obtain ⟨d0, d1, d2, d3⟩ := HC.out w5 (grow_to HB.out HB5.out)
          go_wp2_with fail
          refine (G24.out w5 (Below.refl _ _)).mono ?_
          rintro e w6 ⟨rfl, hb6⟩
          have HB6 := Lib.hid hb6
          clear hb6 d0 d1 d2 d3 t0 t1
          obtain ⟨d0, d1, d2, d3⟩ := HC.out w6 (grow_to (grow_to HB.out HB5.out) HB6.out)
          go_wp2_with fail
          refine (G26.out w6 HB6.out).mono ?_
          rintro e w7 ⟨rfl, hb7⟩
          have HB7 := Lib.hid (grow_to HB6.out hb7)
          clear hb7 d0 d1 d2 d3
          rw [show rsV x = #[.int .i64 x.st, .int .i64 x.pk, .int .i64 x.ya, .int .i64 x.y, .int .i64 x.ma, .int .i64 x.pl, .int .i64 x.wk] from rfl] at *
          have hal := grow_alloc w7 (.cells #[.int .i64 x.st, .int .i64 x.pk, .int .i64 x.ya, .int .i64 x.y, .int .i64 x.ma, .int .i64 x.pl, .int .i64 x.wk] 47)
          have hx9 := heap_alloc_new w7 (.cells #[.int .i64 x.st, .int .i64 x.pk, .int .i64 x.ya, .int .i64 x.y, .int .i64 x.ma, .int .i64 x.pl, .int .i64 x.wk] 47)
          have HB8 := Lib.hid (grow_to HB7.out hal)
          have HX9 := Lib.hid hx9
          clear hal hx9
          go_wp2_with fail
          generalize World.alloc w7 _ = w8 at *
          refine (G36.out w8).mono ?_
          rintro e w9 ⟨rfl, hb9⟩
          have N9 := (hb9.block _ (lt_of_block HX9.out)).trans HX9.out
          have f0 := cell_of_row w9 w7.heap.size 0 _ _ _ N9
          have f1 := cell_of_row w9 w7.heap.size 1 _ _ _ N9
          have f2 := cell_of_row w9 w7.heap.size 2 _ _ _ N9
          have f3 := cell_of_row w9 w7.heap.size 3 _ _ _ N9
          have f4 := cell_of_row w9 w7.heap.size 4 _ _ _ N9
          have f5 := cell_of_row w9 w7.heap.size 5 _ _ _ N9
          have f6 := cell_of_row w9 w7.heap.size 6 _ _ _ N9
          simp at f0 f1 f2 f3 f4 f5 f6
          have HB9 := Lib.hid (grow_to HB8.out hb9)
          clear hb9 N9
          go_wp2_with fail
          refine (G37.out w9).mono ?_
          rintro e w10 ⟨rfl, hb10⟩
          have HB10 := Lib.hid (grow_to HB9.out hb10)
          clear hb10 f0 f1 f2 f3 f4 f5 f6
          go_wp2_with fail
          refine (HA.out _).mono ?_
          rintro e w11 ⟨rfl, hb11⟩
          have hbf := grow_to HBF.out (grow_to HB10.out hb11)
          clear hb11
          go_wp2
          go_ret
          exact ⟨rfl, hbf⟩
        · have HSW := Lib.hid (HS2.out lv w5 (H1s.out _ _ _ HSL.out HB5.out) HBF.out)
          clear HS2
          obtain ⟨x, h24, h26, h36, h37⟩ := HSW.out
          have G24 := Lib.hid h24
          have G26 := Lib.hid h26
          have G36 := Lib.hid h36
          have G37 := Lib.hid h37
          clear h24 h26 h36 h37 HSW
          obtain ⟨d0, d1, d2, d3⟩ := HC.out w5 (grow_to HB.out HB5.out)
          go_wp2_with fail
          refine (G24.out w5 (Below.refl _ _)).mono ?_
          rintro e w6 ⟨rfl, hb6⟩
          have HB6 := Lib.hid hb6
          clear hb6 d0 d1 d2 d3 t0 t1
          obtain ⟨d0, d1, d2, d3⟩ := HC.out w6 (grow_to (grow_to HB.out HB5.out) HB6.out)
          go_wp2_with fail
          refine (G26.out w6 HB6.out).mono ?_
          rintro e w7 ⟨rfl, hb7⟩
          have HB7 := Lib.hid (grow_to HB6.out hb7)
          clear hb7 d0 d1 d2 d3
          rw [show rsV x = #[.int .i64 x.st, .int .i64 x.pk, .int .i64 x.ya, .int .i64 x.y, .int .i64 x.ma, .int .i64 x.pl, .int .i64 x.wk] from rfl] at *
          have hal := grow_alloc w7 (.cells #[.int .i64 x.st, .int .i64 x.pk, .int .i64 x.ya, .int .i64 x.y, .int .i64 x.ma, .int .i64 x.pl, .int .i64 x.wk] 47)
          have hx9 := heap_alloc_new w7 (.cells #[.int .i64 x.st, .int .i64 x.pk, .int .i64 x.ya, .int .i64 x.y, .int .i64 x.ma, .int .i64 x.pl, .int .i64 x.wk] 47)
          have HB8 := Lib.hid (grow_to HB7.out hal)
          have HX9 := Lib.hid hx9
          clear hal hx9
          go_wp2_with fail
          generalize World.alloc w7 _ = w8 at *
          refine (G36.out w8).mono ?_
          rintro e w9 ⟨rfl, hb9⟩
          have N9 := (hb9.block _ (lt_of_block HX9.out)).trans HX9.out
          have f0 := cell_of_row w9 w7.heap.size 0 _ _ _ N9
          have f1 := cell_of_row w9 w7.heap.size 1 _ _ _ N9
          have f2 := cell_of_row w9 w7.heap.size 2 _ _ _ N9
          have f3 := cell_of_row w9 w7.heap.size 3 _ _ _ N9
          have f4 := cell_of_row w9 w7.heap.size 4 _ _ _ N9
          have f5 := cell_of_row w9 w7.heap.size 5 _ _ _ N9
          have f6 := cell_of_row w9 w7.heap.size 6 _ _ _ N9
          simp at f0 f1 f2 f3 f4 f5 f6
          have HB9 := Lib.hid (grow_to HB8.out hb9)
          clear hb9 N9
          go_wp2_with fail
          refine (G37.out w9).mono ?_
          rintro e w10 ⟨rfl, hb10⟩
          have HB10 := Lib.hid (grow_to HB9.out hb10)
          clear hb10 f0 f1 f2 f3 f4 f5 f6
          go_wp2_with fail
          refine (HA.out _).mono ?_
          rintro e w11 ⟨rfl, hb11⟩
          have hbf := grow_to HBF.out (grow_to HB10.out hb11)
          clear hb11
          go_wp2
          go_ret
          exact ⟨rfl, hbf⟩
end Go.Proofs.Ytfjlnejeffkdoaa
