/- The law CurveSpans, walked; what is called given as contracts. No condition but these. The statement CurveSpans holds: for every curve, rule and kind the law returns true and leaves what it was given as it was. No condition. ProveRead, whatever is read: its contract. Conditions: what is called answers so. The law CurveShows, walked; what is called given as contracts. No condition but these. The statement CurveShows holds: for every curve, rule, kind, end, list of numbers and number the law returns true and leaves what it was given as it was. No condition. -/
import Derived.Test.YtfjlnejeffkdoaaAJ
import Derived.Test.YtfjlnejeffkdoaaAK
import Derived.Test.YtfjlnejeffkdoaaCH
import Derived.Test.YtfjlnejeffkdoaaBG
import Derived.Deep.CutRange
import Derived.Deep.DeepCutAuto
namespace Go.Proofs.Ytfjlnejeffkdoaa
open Go.RowKit Go.Shelf
attribute [local irreducible] arrV wpQuiet

theorem s51f : Try.prog.underlying 51 = some (.struct (Try.prog.fieldsOf 51)) := by kernel_rfl
theorem st51 : Try.prog.stoodInHeld 51 = false := by kernel_rfl
theorem fields51 : (Try.prog.fieldsOf 51).toList.all (fun f => f.name != "_" && f.type == 3 && decide (f.offset < 2)) = true := by kernel_rfl
theorem eq_fieldsN (cs : Array Value) (n : Nat) (hc : ∀ j, j < n → ∃ z : Int, cs[j]? = some (.int .i64 z)) (w : World) : ∀ fs : List Field, fs.all (fun f => f.name != "_" && f.type == 3 && decide (f.offset < n)) = true → (Op.eqFields 9999 cs cs fs).run Try.prog w = .ok true w
  | [], _ => by simp [Op.eqFields, Sem.run_pure]
  | f :: fs, h => by
    simp only [List.all_cons, Bool.and_eq_true, bne_iff_ne, beq_iff_eq, decide_eq_true_eq] at h
    obtain ⟨⟨⟨h1, h2⟩, h3⟩, h4⟩ := h
    obtain ⟨z, hz⟩ := hc f.offset h3
    have hp : (part 3 cs f.offset).run Try.prog w = .ok (.int .i64 z) w := run_part_plain w pk3 hz
    have e : (Op.equalIn 9999 3 (.int .i64 z) (.int .i64 z)).run Try.prog w = .ok (z == z) w := run_equalIn_int w 9998 3 .i64 .i64 z z Try.underlying3
    have ih := eq_fieldsN cs n hc w fs (by simpa using h4)
    simp [Op.eqFields, Sem.run_bind, Sem.run_ite, h1, h2, hp, e, ih, Result.andThen_ok, Sem.run_pure]
theorem eqr51 (lo hi : Int) (w : World) : (binOp .eql 51 (.agg #[.int .i64 lo, .int .i64 hi]) (.agg #[.int .i64 lo, .int .i64 hi])).run Try.prog w = .ok (.bool true) w := by
  have h : (Op.equal 51 (.agg #[.int .i64 lo, .int .i64 hi]) (.agg #[.int .i64 lo, .int .i64 hi])).run Try.prog w = .ok true w := by
    show (Op.equalIn (9999 + 1) 51 _ _).run Try.prog w = _
    rw [run_equalIn_struct w 9999 51 _ _ s51f st51]
    exact eq_fieldsN _ 2 (fun j hj => by
      match j, hj with
      | 0, _ => exact ⟨_, rfl⟩
      | 1, _ => exact ⟨_, rfl⟩) w _ fields51
  simp [binOp, Sem.run_bind, h, Result.andThen_ok, Sem.run_pure]

set_option maxRecDepth 100000 in
set_option maxHeartbeats 400000 in
theorem spans_no (sa : Option Addr) (n cap : Nat) (d k o kind : Int) (w : World)
    (HF : ∀ W, Below w.heap.size w W → Calls Try.prog 27 #[.agg #[.slice sa n cap]] W fun e w' => e = .returned (.bool false) ∧ Below W.heap.size W w') :
    Calls Try.prog 4 #[.agg #[.slice sa n cap], .agg #[.int .i64 d, .int .i64 k, .int .i64 o], .int .u8 kind] w fun e w' => e = .returned (.bool true) ∧ Below w.heap.size w w' := by
  have HRR := Lib.hid HF
  have hb2 := below2 w (.cells #[.slice sa n cap] 24) (.cells #[.int .i64 d, .int .i64 k, .int .i64 o] 26)
  have HA := Lib.hid awake_any
  clear HF
  go_enter Try.func4, Try.ntmps4
  go_wp2_with fail
  refine (HRR.out _ hb2).mono ?_
  rintro e w1 ⟨rfl, hb1⟩
  have hbw := below_to hb2 hb1
  clear hb1 hb2
  go_wp2_with fail
  refine (HA.out _).mono ?_
  rintro e w2 ⟨rfl, hb3⟩
  have hbw2 := below_to hbw hb3
  clear hb3 hbw
  go_wp2
  go_ret
  exact ⟨rfl, hbw2⟩

/-- What the reference's two calls answer. -/
structure RefS (sa : Option Addr) (n cap : Nat) (d k o kind lo hi : Int) (is : Bool) (LV : Value → World → Prop) (w : World) : Prop where
  g : ∀ v w1 w2, LV v w1 → Below w1.heap.size w1 w2 → LV v w2
  t : ∀ W, Below w.heap.size w W → Calls Try.prog 30 #[.agg #[.slice sa n cap], .slice none 0 0] W fun e w' => ∃ v, e = .returned v ∧ LV v w' ∧ Below W.heap.size W w'
  s : ∀ v W, LV v W → Below w.heap.size w W → Calls Try.prog 29 #[.agg #[.slice sa n cap], .agg #[.int .i64 d, .int .i64 k, .int .i64 o], .int .u8 kind, v] W fun e w' => e = .returned (.tuple #[.agg #[.int .i64 lo, .int .i64 hi], .bool is]) ∧ Below W.heap.size W w'

set_option maxRecDepth 100000 in
set_option maxHeartbeats 4000000 in
theorem spans_walk (sa : Option Addr) (n cap : Nat) (d k o kind E EE lo hi : Int) (CV LV : Value → World → Prop) (w : World)
    (HCVg : ∀ v w1 w2, CV v w1 → Below w1.heap.size w1 w2 → CV v w2)
    (HFEW : ∀ W, Below w.heap.size w W → Calls Try.prog 27 #[.agg #[.slice sa n cap]] W fun e w' => e = .returned (.bool true) ∧ Below W.heap.size W w')
    (HCV : ∀ W, Below w.heap.size w W → Calls Try.prog 18 #[.agg #[.slice sa n cap]] W fun e w' => ∃ v, e = .returned (.agg #[v]) ∧ CV v w' ∧ Below W.heap.size W w')
    (HSP : ∀ v W, CV v W → Calls Try.prog 28 #[.agg #[v], .agg #[.int .i64 d, .int .i64 k, .int .i64 o], .int .u8 kind] W fun e w' => e = .returned (.tuple #[.agg #[.int .i64 lo, .int .i64 hi], .int .i64 EE]) ∧ Below W.heap.size W w')
    (HFL : ∀ W, Below w.heap.size w W → Calls Try.prog 22 #[.agg #[.slice sa n cap], .agg #[.int .i64 d, .int .i64 k, .int .i64 o]] W fun e w' => e = .returned (.int .i64 E) ∧ Below W.heap.size W w')
    (HX : (E ≠ 0 ∧ EE = E ∧ lo = 0 ∧ hi = 0) ∨ (E = 0 ∧ 3 < kind ∧ EE = 2 ∧ lo = 0 ∧ hi = 0) ∨ (E = 0 ∧ kind ≤ 3 ∧ EE = 7 ∧ lo = 0 ∧ hi = 0 ∧ RefS sa n cap d k o kind 0 0 false LV w) ∨ (E = 0 ∧ kind ≤ 3 ∧ EE = 0 ∧ RefS sa n cap d k o kind lo hi true LV w)) :
    Calls Try.prog 4 #[.agg #[.slice sa n cap], .agg #[.int .i64 d, .int .i64 k, .int .i64 o], .int .u8 kind] w fun e w' => e = .returned (.bool true) ∧ Below w.heap.size w w' := by
  have hb2 := below2 w (.cells #[.slice sa n cap] 24) (.cells #[.int .i64 d, .int .i64 k, .int .i64 o] 26)
  obtain ⟨hx1, hx2⟩ := box2 w (.cells #[.slice sa n cap] 24) (.cells #[.int .i64 d, .int .i64 k, .int .i64 o] 26)
  have HA := Lib.hid awake_any
  have H1 := Lib.hid HCVg
  have H2 := Lib.hid HFEW
  have H3 := Lib.hid HCV
  have H4 := Lib.hid HSP
  have H5 := Lib.hid HFL
  have H10 := Lib.hid HX
  clear HCVg HFEW HCV HSP HFL HX
  go_enter Try.func4, Try.ntmps4
  go_wp2_with fail
  generalize World.alloc (World.alloc w _) _ = W1 at *
  refine (H2.out _ hb2).mono ?_
  rintro e w1 ⟨rfl, hb1⟩
  have HBW := Lib.hid (below_to hb2 hb1)
  have HC : Hid (∀ w', Below w1.heap.size w1 w' → w'.cell? ⟨w.heap.size, 0, none⟩ = some (.slice sa n cap) ∧ w'.cell? ⟨w.heap.size + 1, 0, none⟩ = some (.int .i64 d) ∧ w'.cell? ⟨w.heap.size + 1, 1, none⟩ = some (.int .i64 k) ∧ w'.cell? ⟨w.heap.size + 1, 2, none⟩ = some (.int .i64 o)) := Lib.hid fun w' h => by
    have z1 := (hb1.block _ (lt_of_block hx1)).trans hx1
    have z2 := (hb1.block _ (lt_of_block hx2)).trans hx2
    have y1 := (h.block _ (lt_of_block z1)).trans z1
    have y2 := (h.block _ (lt_of_block z2)).trans z2
    exact ⟨cell_of_row w' w.heap.size 0 _ _ _ y1, cell_of_row w' (w.heap.size + 1) 0 _ _ _ y2, cell_of_row w' (w.heap.size + 1) 1 _ _ _ y2, cell_of_row w' (w.heap.size + 1) 2 _ _ _ y2⟩
  clear hb1 hb2 hx1 hx2
  clear W1
  go_wp2
  refine wp_region_noPanic ?_
  refine wp_region_float (by kernel_rfl) (fun _ _ _ _ _ h => h) 9 _ rfl 7 rfl rfl (.cells #[.int .i64 0, .int .i64 0] 51) (fun a w => by kernel_rfl)
    [(false, 0), (false, 2), (false, 4), (true, 1), (true, 3), (true, 5), (false, 6), (false, 7), (false, 8)] [10, 11] (by kernel_rfl) ?_
  iterate 3
    (refine Walk.takes rfl rfl ?_; apply Exists.intro; refine ⟨fun w' hS => ?_, ?_⟩; (obtain ⟨d0, d1, d2, d3⟩ := HC.out w' hS; clear hS; go_simp; with_reducible rfl); simp only [List.getElem_toArray, List.getElem_cons_succ, List.getElem_cons_zero, Act.put, List.setIfInBounds_toArray, List.set_cons_zero, List.set_cons_succ])
  refine Walk.calls rfl rfl ?_; apply Exists.intro; apply Exists.intro; refine ⟨fun w' hS => ?_, fun w' hba => ?_⟩; (clear hS; go_simp; exact ⟨rfl, rfl⟩)
  have hu0 := grow_to HBW.out (grow_to (below_drawn _) hba)
  refine (H3.out w' hu0).mono ?_
  rintro e u1 ⟨v2, rfl, hv2, hbb⟩
  refine ⟨_, rfl, hbb, ?_⟩
  simp only [List.getElem_toArray, List.getElem_cons_succ, List.getElem_cons_zero, Act.put, List.setIfInBounds_toArray, List.set_cons_zero, List.set_cons_succ]
  clear hba hbb hu0
  refine Walk.calls rfl rfl ?_; apply Exists.intro; apply Exists.intro; refine ⟨fun w' hS => ?_, fun w' hba => ?_⟩; (clear hS; go_simp; exact ⟨rfl, rfl⟩)
  refine (Rule_any d k o w').mono ?_
  rintro e u2 ⟨rfl, hbb⟩
  refine ⟨_, rfl, hbb, ?_⟩
  simp only [List.getElem_toArray, List.getElem_cons_succ, List.getElem_cons_zero, Act.put, List.setIfInBounds_toArray, List.set_cons_zero, List.set_cons_succ]
  replace hv2 := H1.out _ _ _ (H1.out _ _ _ hv2 hba) hbb
  clear hba hbb
  refine Walk.calls rfl rfl ?_; apply Exists.intro; apply Exists.intro; refine ⟨fun w' hS => ?_, fun w' hba => ?_⟩; (clear hS; go_simp; exact ⟨rfl, rfl⟩)
  refine (H4.out v2 w' (H1.out _ _ _ hv2 hba)).mono ?_
  rintro e u3 ⟨rfl, hbb⟩
  refine ⟨_, rfl, hbb, ?_⟩
  simp only [List.getElem_toArray, List.getElem_cons_succ, List.getElem_cons_zero, Act.put, List.setIfInBounds_toArray, List.set_cons_zero, List.set_cons_succ]
  clear hba hbb hv2
  iterate 3
    (refine Walk.takes rfl rfl ?_; apply Exists.intro; refine ⟨fun w' hS => ?_, ?_⟩; (clear hS; go_simp; with_reducible rfl); simp only [List.getElem_toArray, List.getElem_cons_succ, List.getElem_cons_zero, Act.put, List.setIfInBounds_toArray, List.set_cons_zero, List.set_cons_succ])
  refine Walk.fin ?_
  intro v7 hb7 b8 hbb8 hz8 hw7
  simp only [List.getElem_toArray, List.getElem_cons_succ, List.getElem_cons_zero, Act.put, List.setIfInBounds_toArray, List.set_cons_zero, List.set_cons_succ]
  have s51 : (Try.prog.info? 51).map (·.size) = some 2 := by kernel_rfl
  have n1 := set_whole b8 51 v7 #[.int .i64 0, .int .i64 0] #[.int .i64 lo, .int .i64 hi] rfl hz8
  have n3 := below_cells (b := b8) hbb8 [.int .i64 lo, .int .i64 hi] 0 v7 hw7
  refine Tail.skip rfl rfl (exec_store_row 51 (.tmp 7) (.tmp 23) rfl b8 0 #[.int .i64 lo, .int .i64 hi] rfl rfl (there_block hz8 (Nat.le_refl _)) s51 (by simp [Value.oneCell'])) n3 ?_
  simp only [List.getElem_toArray, List.getElem_cons_succ, List.getElem_cons_zero, Act.put, List.setIfInBounds_toArray, List.set_cons_zero, List.set_cons_succ]
  generalize v7.setCells b8 0 _ = w2 at *
  iterate 1
    (refine Tail.value rfl rfl (by go_simp; with_reducible rfl) ?_; simp only [List.getElem_toArray, List.getElem_cons_succ, List.getElem_cons_zero, Act.put, List.setIfInBounds_toArray, List.set_cons_zero, List.set_cons_succ])
  refine Tail.done (NoPanic.normal ?_)
  clear hz8 hw7 hb7 s51 hbb8
  clear v7 u3
  have HB := Lib.hid n3
  have N8 := Lib.hid n1
  clear n1 n3 H3 H4 H1 H2
  obtain ⟨d0, d1, d2, d3⟩ := HC.out w2 HB.out
  go_wp2_with fail
  refine (H5.out w2 (grow_to HBW.out HB.out)).mono ?_
  rintro e w3 ⟨rfl, hb3⟩
  replace HB := Lib.hid (grow_to HB.out hb3)
  replace N8 := Lib.hid ((hb3.block _ (lt_of_block N8.out)).trans N8.out)
  clear hb3 d0 d1 d2 d3 H5
  clear w2
  have s0 := cell_of_row w3 b8 0 _ _ _ N8.out
  have s1 := cell_of_row w3 b8 1 _ _ _ N8.out
  simp at s0 s1
  have hl8 := lt_of_block N8.out
  have HBG := Lib.hid (grow_to (grow_to HBW.out HB.out) (grow_alloc w3 (.cells #[.int .i64 0, .int .i64 0] 54)))
  rcases H10.out with ⟨hE, rfl, rfl, rfl⟩ | ⟨rfl, hk, rfl, rfl, rfl⟩ | ⟨rfl, hk, rfl, rfl, rfl, HR⟩ | ⟨rfl, hk, rfl, HR⟩
  · have h51 : ∀ w, (binOp .eql 51 (.agg #[.int .i64 0, .int .i64 0]) (.agg #[.int .i64 0, .int .i64 0])).run Try.prog w = .ok (.bool true) w := eqr51 0 0
    have hne : (EE == 0) = false := by rw [beq_eq_false_iff_ne]; exact hE
    have hne' : (EE != 0) = true := by rw [bne_iff_ne]; exact hE
    go_wp2_with fail
    refine (HA.out _).mono ?_
    rintro e w4 ⟨rfl, hb4⟩
    have hbf := grow_to HBG.out hb4
    clear hb4
    go_wp2
    go_ret
    exact ⟨rfl, hbf⟩
  · have h51 : ∀ w, (binOp .eql 51 (.agg #[.int .i64 0, .int .i64 0]) (.agg #[.int .i64 0, .int .i64 0])).run Try.prog w = .ok (.bool true) w := eqr51 0 0
    have hk1 : decide (kind > 3) = true := decide_eq_true hk
    go_wp2_with fail
    refine (HA.out _).mono ?_
    rintro e w4 ⟨rfl, hb4⟩
    have hbf := grow_to HBG.out hb4
    clear hb4
    go_wp2
    go_ret
    exact ⟨rfl, hbf⟩
  · have hx := hk
    have hk1 : decide (kind > 3) = false := decide_eq_false (by omega)
    have HRS := Lib.hid HR
    clear HR s0 s1
    have HT3 := Lib.hid (heap_alloc_new w3 (.cells #[.int .i64 0, .int .i64 0] 54))
    have HB3 := Lib.hid (grow_alloc w3 (.cells #[.int .i64 0, .int .i64 0] 54))
    go_wp2
    generalize w3.alloc (.cells #[.int .i64 0, .int .i64 0] 54) = w4 at *
    refine wp_region_noPanic ?_
    refine wp_region_chain (fun w' => Below w3.heap.size w3 w') (fun _ _ h hb => grow_to h hb) (grow_to HB3.out (below_drawn _)) (by kernel_rfl) (fun _ _ _ _ _ h => h)
      [(false, 0), (false, 1), (false, 2), (false, 3), (true, 4), (true, 5), (false, 6), (false, 7), (false, 8)] [9, 10] (by kernel_rfl) ?_
    iterate 4
      (refine Walk.takes rfl rfl ?_; apply Exists.intro; refine ⟨fun w' hS => ?_, ?_⟩; (obtain ⟨d0, d1, d2, d3⟩ := HC.out w' (grow_to HB.out hS); clear hS; go_simp; with_reducible rfl); simp only [List.getElem_toArray, List.getElem_cons_succ, List.getElem_cons_zero, Act.put, List.setIfInBounds_toArray, List.set_cons_zero, List.set_cons_succ])
    refine Walk.calls rfl rfl ?_; apply Exists.intro; apply Exists.intro; refine ⟨fun w' hS => ?_, fun w' hba => ?_⟩; (clear hS; go_simp; exact ⟨rfl, rfl⟩)
    have hu0 := grow_to HB3.out (grow_to (below_drawn _) hba)
    have ht0 := ((grow_to (below_drawn _) hba).block _ (lt_of_block HT3.out)).trans HT3.out
    refine (HRS.out.t w' (grow_to HBW.out (grow_to HB.out hu0))).mono ?_
    rintro e u1 ⟨lv, rfl, hlv, hbb⟩
    refine ⟨_, rfl, hbb, ?_⟩
    simp only [List.getElem_toArray, List.getElem_cons_succ, List.getElem_cons_zero, Act.put, List.setIfInBounds_toArray, List.set_cons_zero, List.set_cons_succ]
    have hu1 := grow_to hu0 hbb
    have ht1 := (hbb.block _ (lt_of_block ht0)).trans ht0
    clear hba hbb hu0 ht0
    refine Walk.calls rfl rfl ?_; apply Exists.intro; apply Exists.intro; refine ⟨fun w' hS => ?_, fun w' hba => ?_⟩; (clear hS; go_simp; exact ⟨rfl, rfl⟩)
    have hu2 := grow_to hu1 hba
    have ht2 := (hba.block _ (lt_of_block ht1)).trans ht1
    refine (HRS.out.s lv w' (HRS.out.g _ _ _ hlv hba) (grow_to HBW.out (grow_to HB.out hu2))).mono ?_
    rintro e u2 ⟨rfl, hbb⟩
    refine ⟨_, rfl, hbb, ?_⟩
    simp only [List.getElem_toArray, List.getElem_cons_succ, List.getElem_cons_zero, Act.put, List.setIfInBounds_toArray, List.set_cons_zero, List.set_cons_succ]
    have hu3 := grow_to hu2 hbb
    have ht3 := (hbb.block _ (lt_of_block ht2)).trans ht2
    clear hba hbb hlv hu1 hu2 ht1 ht2
    iterate 3
      (refine Walk.takes rfl rfl ?_; apply Exists.intro; refine ⟨fun w' hS => ?_, ?_⟩; (clear hS; go_simp; with_reducible rfl); simp only [List.getElem_toArray, List.getElem_cons_succ, List.getElem_cons_zero, Act.put, List.setIfInBounds_toArray, List.set_cons_zero, List.set_cons_succ])
    refine Walk.fin ?_
    intro v7 hb7 hw7
    have hz8 := (hb7.block _ (lt_of_block ht3)).trans ht3
    have s54 : (Try.prog.info? 54).map (·.size) = some 2 := by kernel_rfl
    have n1 := set_whole w3.heap.size 54 v7 #[.int .i64 0, .int .i64 0] #[.int .i64 0, .int .i64 0] rfl hz8
    have n3 := below_cells (b := w3.heap.size) (Nat.le_refl _) [.int .i64 0, .int .i64 0] 0 v7 hw7
    refine Tail.skip rfl rfl (exec_store_row 54 (.tmp 10) (.tmp 43) rfl w3.heap.size 0 #[.int .i64 0, .int .i64 0] rfl rfl (there_block hz8 (Nat.le_refl _)) s54 (by simp [Value.oneCell'])) n3 ?_
    simp only [List.getElem_toArray, List.getElem_cons_succ, List.getElem_cons_zero, Act.put, List.setIfInBounds_toArray, List.set_cons_zero, List.set_cons_succ]
    generalize v7.setCells w3.heap.size 0 _ = w5 at *
    iterate 1
      (refine Tail.value rfl rfl (by go_simp; with_reducible rfl) ?_; simp only [List.getElem_toArray, List.getElem_cons_succ, List.getElem_cons_zero, Act.put, List.setIfInBounds_toArray, List.set_cons_zero, List.set_cons_succ])
    refine Tail.done (NoPanic.normal ?_)
    have N8b := (n3.block _ hl8).trans N8.out
    have HBF := Lib.hid (grow_to (grow_to HBW.out HB.out) n3)
    have s0 := cell_of_row w5 b8 0 _ _ _ N8b
    have s1 := cell_of_row w5 b8 1 _ _ _ N8b
    have t0 := cell_of_row w5 w3.heap.size 0 _ _ _ n1
    have t1 := cell_of_row w5 w3.heap.size 1 _ _ _ n1
    (try simp at s0); (try simp at s1); (try simp at t0); (try simp at t1)
    have h51 : ∀ w, (binOp .eql 51 (.agg #[.int .i64 0, .int .i64 0]) (.agg #[.int .i64 0, .int .i64 0])).run Try.prog w = .ok (.bool true) w := eqr51 0 0
    clear hz8 hw7 hb7 s54 n1 n3 N8b ht3 hu3 HRS
    clear v7 u2
    go_wp2_with fail
    refine (HA.out _).mono ?_
    rintro e w6 ⟨rfl, hb6⟩
    have hbf := grow_to HBF.out hb6
    clear hb6
    go_wp2
    go_ret
    exact ⟨rfl, hbf⟩
  · have hx := hk
    have hk1 : decide (kind > 3) = false := decide_eq_false (by omega)
    have HRS := Lib.hid HR
    clear HR s0 s1
    have HT3 := Lib.hid (heap_alloc_new w3 (.cells #[.int .i64 0, .int .i64 0] 54))
    have HB3 := Lib.hid (grow_alloc w3 (.cells #[.int .i64 0, .int .i64 0] 54))
    go_wp2
    generalize w3.alloc (.cells #[.int .i64 0, .int .i64 0] 54) = w4 at *
    refine wp_region_noPanic ?_
    refine wp_region_chain (fun w' => Below w3.heap.size w3 w') (fun _ _ h hb => grow_to h hb) (grow_to HB3.out (below_drawn _)) (by kernel_rfl) (fun _ _ _ _ _ h => h)
      [(false, 0), (false, 1), (false, 2), (false, 3), (true, 4), (true, 5), (false, 6), (false, 7), (false, 8)] [9, 10] (by kernel_rfl) ?_
    iterate 4
      (refine Walk.takes rfl rfl ?_; apply Exists.intro; refine ⟨fun w' hS => ?_, ?_⟩; (obtain ⟨d0, d1, d2, d3⟩ := HC.out w' (grow_to HB.out hS); clear hS; go_simp; with_reducible rfl); simp only [List.getElem_toArray, List.getElem_cons_succ, List.getElem_cons_zero, Act.put, List.setIfInBounds_toArray, List.set_cons_zero, List.set_cons_succ])
    refine Walk.calls rfl rfl ?_; apply Exists.intro; apply Exists.intro; refine ⟨fun w' hS => ?_, fun w' hba => ?_⟩; (clear hS; go_simp; exact ⟨rfl, rfl⟩)
    have hu0 := grow_to HB3.out (grow_to (below_drawn _) hba)
    have ht0 := ((grow_to (below_drawn _) hba).block _ (lt_of_block HT3.out)).trans HT3.out
    refine (HRS.out.t w' (grow_to HBW.out (grow_to HB.out hu0))).mono ?_
    rintro e u1 ⟨lv, rfl, hlv, hbb⟩
    refine ⟨_, rfl, hbb, ?_⟩
    simp only [List.getElem_toArray, List.getElem_cons_succ, List.getElem_cons_zero, Act.put, List.setIfInBounds_toArray, List.set_cons_zero, List.set_cons_succ]
    have hu1 := grow_to hu0 hbb
    have ht1 := (hbb.block _ (lt_of_block ht0)).trans ht0
    clear hba hbb hu0 ht0
    refine Walk.calls rfl rfl ?_; apply Exists.intro; apply Exists.intro; refine ⟨fun w' hS => ?_, fun w' hba => ?_⟩; (clear hS; go_simp; exact ⟨rfl, rfl⟩)
    have hu2 := grow_to hu1 hba
    have ht2 := (hba.block _ (lt_of_block ht1)).trans ht1
    refine (HRS.out.s lv w' (HRS.out.g _ _ _ hlv hba) (grow_to HBW.out (grow_to HB.out hu2))).mono ?_
    rintro e u2 ⟨rfl, hbb⟩
    refine ⟨_, rfl, hbb, ?_⟩
    simp only [List.getElem_toArray, List.getElem_cons_succ, List.getElem_cons_zero, Act.put, List.setIfInBounds_toArray, List.set_cons_zero, List.set_cons_succ]
    have hu3 := grow_to hu2 hbb
    have ht3 := (hbb.block _ (lt_of_block ht2)).trans ht2
    clear hba hbb hlv hu1 hu2 ht1 ht2
    iterate 3
      (refine Walk.takes rfl rfl ?_; apply Exists.intro; refine ⟨fun w' hS => ?_, ?_⟩; (clear hS; go_simp; with_reducible rfl); simp only [List.getElem_toArray, List.getElem_cons_succ, List.getElem_cons_zero, Act.put, List.setIfInBounds_toArray, List.set_cons_zero, List.set_cons_succ])
    refine Walk.fin ?_
    intro v7 hb7 hw7
    have hz8 := (hb7.block _ (lt_of_block ht3)).trans ht3
    have s54 : (Try.prog.info? 54).map (·.size) = some 2 := by kernel_rfl
    have n1 := set_whole w3.heap.size 54 v7 #[.int .i64 0, .int .i64 0] #[.int .i64 lo, .int .i64 hi] rfl hz8
    have n3 := below_cells (b := w3.heap.size) (Nat.le_refl _) [.int .i64 lo, .int .i64 hi] 0 v7 hw7
    refine Tail.skip rfl rfl (exec_store_row 54 (.tmp 10) (.tmp 43) rfl w3.heap.size 0 #[.int .i64 lo, .int .i64 hi] rfl rfl (there_block hz8 (Nat.le_refl _)) s54 (by simp [Value.oneCell'])) n3 ?_
    simp only [List.getElem_toArray, List.getElem_cons_succ, List.getElem_cons_zero, Act.put, List.setIfInBounds_toArray, List.set_cons_zero, List.set_cons_succ]
    generalize v7.setCells w3.heap.size 0 _ = w5 at *
    iterate 1
      (refine Tail.value rfl rfl (by go_simp; with_reducible rfl) ?_; simp only [List.getElem_toArray, List.getElem_cons_succ, List.getElem_cons_zero, Act.put, List.setIfInBounds_toArray, List.set_cons_zero, List.set_cons_succ])
    refine Tail.done (NoPanic.normal ?_)
    have N8b := (n3.block _ hl8).trans N8.out
    have HBF := Lib.hid (grow_to (grow_to HBW.out HB.out) n3)
    have s0 := cell_of_row w5 b8 0 _ _ _ N8b
    have s1 := cell_of_row w5 b8 1 _ _ _ N8b
    have t0 := cell_of_row w5 w3.heap.size 0 _ _ _ n1
    have t1 := cell_of_row w5 w3.heap.size 1 _ _ _ n1
    (try simp at s0); (try simp at s1); (try simp at t0); (try simp at t1)
    have h51 : ∀ w, (binOp .eql 51 (.agg #[.int .i64 lo, .int .i64 hi]) (.agg #[.int .i64 lo, .int .i64 hi])).run Try.prog w = .ok (.bool true) w := eqr51 lo hi
    clear hz8 hw7 hb7 s54 n1 n3 N8b ht3 hu3 HRS
    clear v7 u2
    go_wp2_with fail
    refine (HA.out _).mono ?_
    rintro e w6 ⟨rfl, hb6⟩
    have hbf := grow_to HBF.out hb6
    clear hb6
    go_wp2
    go_ret
    exact ⟨rfl, hbf⟩
end Go.Proofs.Ytfjlnejeffkdoaa

namespace Go.Proofs.Ytfjlnejeffkdoaa
open Go.ChangeShapes Go.WideShapes Go.ChangeAt Go.RowKit
attribute [local irreducible] arrV

/-- What the reference answers for a valid curve. -/
theorem GoodC.ref {b off cap : Nat} {d k o kind : Int} {ps : List Pt} {w : World} (h : GoodC b off cap d k o ps w) (hk : kind = 0 ∨ kind = 1 ∨ kind = 2 ∨ kind = 3) (lo hi : Int) (is : Bool) (e : refSpanR (spanP ps ⟨d, k, o⟩ kind) = .tuple #[.agg #[.int .i64 lo, .int .i64 hi], .bool is]) :
    RefS (some ⟨b, off, none⟩) ps.length cap d k o kind lo hi is (fun v W => ListsV 0 W v (allT ps)) w where
  g := fun v w1 w2 h hb => h.below hb
  t := fun W hb => (Truths_all b off cap ps W h.len h.lo (by have := h.few; omega) (h.p.below hb (block_lt_of_cell (h.p 0 h.pos).1))).mono fun e w' ⟨v, he, hv, hb'⟩ => ⟨v, he, hv.mono (Nat.zero_le _), hb'⟩
  s := fun v W hv hb => by
    have := RefSpan_ok b off cap kind ps ⟨d, k, o⟩ 0 v (allT ps) W hk h.sane (h.p.below hb (block_lt_of_cell (h.p 0 h.pos).1)) hv (by have := h.few; omega) h.truth
    rw [span_ref h.sane h.g kind hk, e] at this
    exact this

/-- The law returns true: a curve, a rule and a kind, as they lie in memory. -/
theorem spans_law (sa : Option Addr) (n cap : Nat) (d k o kind : Int) (w : World) (hnl : n ≤ maxLen) (hp0 : 0 < n → ∃ b off ps, sa = some ⟨b, off, none⟩ ∧ ps.length = n ∧ PtsIn w b off ps) (hkind : 0 ≤ kind ∧ kind < 256) :
    Calls Try.prog 4 #[.agg #[.slice sa n cap], .agg #[.int .i64 d, .int .i64 k, .int .i64 o], .int .u8 kind] w fun e w' => e = .returned (.bool true) ∧ Below w.heap.size w w' := by
  obtain ⟨q, hfew, hq⟩ := curve_cases sa n cap d k o w hnl hp0
  cases q with
  | false => exact spans_no sa n cap d k o kind w hfew
  | true =>
    rcases hq rfl with ⟨ps, E, hB⟩ | ⟨b, off, ps, rfl, rfl, hG⟩
    · refine spans_walk sa n cap d k o kind E E 0 0 (CVp n ps) (fun _ _ => False) w (CVp.grown hB.len) hfew hB.cv ?_ hB.fl (.inl ⟨hB.ne, rfl, rfl, rfl⟩)
      rintro v W ⟨s, c, rfl, h⟩
      refine Span_bad s n c kind d k o E W fun W' hb => spanOf_err s n c kind d k o E W' hB.ne fun W2 hb2 => hB.rc _ W2 ?_
      exact CVp.grown hB.len _ _ _ ⟨s, c, rfl, h⟩ (below_to hb hb2)
    · by_cases hk : 3 < kind
      · refine spans_walk _ _ cap d k o kind 0 2 0 0 (CVp ps.length ps) (fun _ _ => False) w (CVp.grown rfl) hfew hG.cv ?_ hG.fl (.inr (.inl ⟨rfl, hk, rfl, rfl, rfl⟩))
        rintro v W ⟨s, c, rfl, h⟩
        refine Span_bad s _ c kind d k o 2 W fun W' hb => spanOf_kind s _ c kind d k o W' (by omega) fun W2 hb2 => hG.rc _ W2 ?_
        exact CVp.grown rfl _ _ _ ⟨s, c, rfl, h⟩ (below_to hb hb2)
      · have hk4 : kind = 0 ∨ kind = 1 ∨ kind = 2 ∨ kind = 3 := by omega
        have hsp : ∀ v W, CVp ps.length ps v W → Calls Try.prog 28 #[.agg #[v], .agg #[.int .i64 d, .int .i64 k, .int .i64 o], .int .u8 kind] W fun e w' => e = .returned (spanR (spanP ps ⟨d, k, o⟩ kind)) ∧ Below W.heap.size W w' := by
          rintro v W ⟨s, c, rfl, h⟩
          obtain ⟨B, rfl, hB⟩ := h hG.pos
          exact Span_kd B 0 c kind ps ⟨d, k, o⟩ W hG.sane hG.both hk4 hB
        cases hs : spanP ps ⟨d, k, o⟩ kind with
        | none =>
          rw [hs] at hsp
          exact spans_walk _ _ cap d k o kind 0 7 0 0 (CVp ps.length ps) (fun v W => ListsV 0 W v (allT ps)) w (CVp.grown rfl) hfew hG.cv hsp hG.fl (.inr (.inr (.inl ⟨rfl, by omega, rfl, rfl, rfl, hG.ref hk4 0 0 false (by rw [hs]; rfl)⟩)))
        | some x =>
          obtain ⟨lo, hi⟩ := x
          rw [hs] at hsp
          exact spans_walk _ _ cap d k o kind 0 0 lo hi (CVp ps.length ps) (fun v W => ListsV 0 W v (allT ps)) w (CVp.grown rfl) hfew hG.cv hsp hG.fl (.inr (.inr (.inr ⟨rfl, by omega, rfl, hG.ref hk4 lo hi true (by rw [hs]; rfl)⟩)))

set_option maxRecDepth 100000 in
theorem spans_lifted (os : Os) (started : os.Started) (H : Type) (enc : TypeId × Value → H) :
    ReturnsInHanded {} Try.checked os 4 .any (Rows.curveSpansSpec.pre6 enc Try.prog Try.f4 Rows.curveSpansRow.domain false) (Rows.curveSpansSpec.post enc Try.prog Try.f4 false true false false) := by
  refine returnsInHanded_of_change (C := Try.checked) Try.own started (by kernel_rfl) Try.func4
    (ChangeSpec.witness6 (enc := enc) (C := Try.checked) false ⟨#[], #[.agg #[.slice none 0 0], .agg #[.int .i64 0, .int .i64 0, .int .i64 0], .int .u8 0], []⟩ 8 (by kernel_rfl) (by kernel_rfl) (by kernel_rfl) (by kernel_rfl)) ?_
  intro W base args ds gs before hval0 hW _ _
  have hval : ∀ (j : Nat) t v, Try.f4.params[j]? = some t → args[j]? = some v → Value.okWide Try.prog W .any base t v := hval0
  have hW' := hW
  obtain ⟨p, q, hA0, hV, rfl, hfz, hnd⟩ := hW
  have hA : DataW.TrodAll enc Try.prog W 0 (fun _ => true) true Try.f4.params.toList args.toList ds p := hA0
  rw [Try.params4] at hA hval
  obtain ⟨v0, vs0, d0, ds0, p0, q0, hargs, rfl, rfl, h0, r0⟩ := trodAll_cons hA
  obtain ⟨v1, vs1, d1, ds1, p1, q1, rfl, rfl, rfl, h1, r1⟩ := trodAll_cons r0
  obtain ⟨v2, vs2, d2, ds2, p2, q2, rfl, rfl, rfl, h2, r2⟩ := trodAll_cons r1
  obtain ⟨rfl, rfl, rfl⟩ := trodAll_nil r2
  obtain ⟨args⟩ := args
  simp only at hargs
  subst hargs
  obtain ⟨rfl, rfl⟩ := trodVars_none hV
  obtain ⟨sa, n, cap, rfl, hn, hp⟩ := open_curve (hval 0 24 v0 rfl rfl) h0
  obtain ⟨d, k, o, rfl⟩ := open_rule (hval 1 26 v1 rfl rfl) h1
  obtain ⟨kind, rfl, rfl, rfl, wa⟩ := open_int Try.underlying5 (hval 2 5 v2 rfl rfl) h2
  have hk : 0 ≤ kind ∧ kind < 256 := by
    simp [Lit.wf, IntKind.min, IntKind.max, IntKind.signed, IntKind.bits] at wa
    omega
  clear hA0 hval0
  refine (spans_law sa n cap d k o kind W hn hp hk).mono fun e W' ⟨he, hb⟩ => ?_
  subst he
  have hlt : ∀ x ∈ p0 ++ p1, x.block < W.heap.size := fun x hx => by simpa using hW'.lt x (by simpa using hx)
  have e1 : Rows.curveSpansSpec.fn H ([d0, d1, .lit (.int .u8 kind)] ++ []) = { results := [.lit (.bool true)], args := [d0, d1, .lit (.int .u8 kind)] } := rfl
  refine ⟨_, rfl, _, _, _, [], p0 ++ (p1 ++ ([] ++ [])), [], hW', ?_, ?_, ?_, hb.frame _, fun h => by cases h⟩
  · rw [e1]
    exact trodAll_mk1 (shut_bool Try.underlying4 true)
  · rw [e1]
    exact trodAll_cons_mk (Below.trod Try.laidOut (by kernel_rfl) (of_decide_eq_true (by kernel_rfl)) h0 hb (fun x hx => hlt x (by simp [hx])))
      (trodAll_cons_mk (Below.trod Try.laidOut (by kernel_rfl) (of_decide_eq_true (by kernel_rfl)) h1 hb (fun x hx => hlt x (by simp [hx])))
      (trodAll_cons_mk (shut_int Try.underlying5 wa) trodAll_mk0))
  · rfl

theorem spans_holds : Rows.CurveSpansSaid :=
  OpenClaim.holds_of_wide 4 Try.f4 rfl rfl rfl rfl rfl rfl rfl ⟨rfl, rfl, rfl, rfl, rfl⟩ rfl rfl rfl rfl rfl (by kernel_rfl) Try.func4 (by kernel_rfl)
    (of_decide_eq_true (by kernel_rfl)) (by unfold Func.isWrapper; rw [if_neg (of_decide_eq_false (by kernel_rfl))]; exact ⟨rfl, rfl⟩)
    (fun os started H enc _ => spans_lifted os started H enc)
#print axioms spans_holds
end Go.Proofs.Ytfjlnejeffkdoaa

namespace Go.Proofs.Ytfjlnejeffkdoaa
open Go.RowKit Go.Shelf
attribute [local irreducible] arrV

set_option maxRecDepth 100000 in
set_option maxHeartbeats 1000000 in
theorem ProveRead_ok (tl : Value) (kd nn : Int) (ft fg : Nat) (fnd : Rs → Int × Int) (x : Rs) (d k o : Int) (sa : Option Addr) (n cap : Nat) (b1 b2 : Bool) (w : World) (hK : KindOf kd ft fg fnd) (h1 : ((fnd x).1 != -1) = b1) (h2 : ((fnd x).2 == nn) = b2)
    (HR : ∀ W, Below w.heap.size w W → Calls Try.prog 19 #[.agg #[.slice sa n cap], .agg #[.int .i64 d, .int .i64 k, .int .i64 o], tl] W fun e w' => e = .returned (.tuple #[.agg (rsV x), .int .i64 0]) ∧ Below W.heap.size W w') :
    Calls Try.prog 35 #[.agg #[.slice sa n cap], .agg #[.int .i64 d, .int .i64 k, .int .i64 o], tl, .int .u8 kd, .int .i64 nn] w fun e w' => e = .returned (.bool (b1 && b2)) ∧ Below w.heap.size w w' := by
  have hb2 := below2 w (.cells #[.slice sa n cap] 34) (.cells #[.int .i64 d, .int .i64 k, .int .i64 o] 40)
  have HRR := Lib.hid HR
  have HQ := Lib.hid hK.q
  have HF := Lib.hid hK.f.2
  have hcf := hK.f.1
  have H1 := Lib.hid h1
  have H2 := Lib.hid h2
  clear HR hK h1 h2
  generalize hfx : fnd x = fx at *
  have HFX := Lib.hid hfx
  clear hfx
  obtain ⟨f1, f2⟩ := fx
  go_enter Try.func35, Try.ntmps35
  go_wp2_with fail
  refine (HRR.out _ hb2).mono ?_
  rintro e w1 ⟨rfl, hb1⟩
  have HB1 := Lib.hid (below_to hb2 hb1)
  clear hb1 hb2
  rw [show rsV x = #[.int .i64 x.st, .int .i64 x.pk, .int .i64 x.ya, .int .i64 x.y, .int .i64 x.ma, .int .i64 x.pl, .int .i64 x.wk] from rfl]
  go_wp2_with fail
  have X1 := heap_alloc_new w1 (.cells #[.int .i64 x.st, .int .i64 x.pk, .int .i64 x.ya, .int .i64 x.y, .int .i64 x.ma, .int .i64 x.pl, .int .i64 x.wk] 37)
  have hb2 := box_below w1 (.cells #[.int .i64 x.st, .int .i64 x.pk, .int .i64 x.ya, .int .i64 x.y, .int .i64 x.ma, .int .i64 x.pl, .int .i64 x.wk] 37)
  generalize World.alloc w1 _ = W2 at *
  refine (HQ.out W2).mono ?_
  rintro e w3 ⟨rfl, hb3⟩
  have HB3 := Lib.hid (grow_to (below_to HB1.out hb2) hb3)
  have X3 := (hb3.block _ (lt_of_block X1)).trans X1
  have hf := cell_of_row w3 w1.heap.size 0 _ _ _ X3
  have m1 := cell_of_row w3 w1.heap.size 1 _ _ _ X3
  have m2 := cell_of_row w3 w1.heap.size 2 _ _ _ X3
  have m3 := cell_of_row w3 w1.heap.size 3 _ _ _ X3
  have m4 := cell_of_row w3 w1.heap.size 4 _ _ _ X3
  have m5 := cell_of_row w3 w1.heap.size 5 _ _ _ X3
  have m6 := cell_of_row w3 w1.heap.size 6 _ _ _ X3
  simp at hf m1 m2 m3 m4 m5 m6
  have hl3 := lt_of_block X3
  clear hb2 hb3 X1 X3
  go_wp2_with fail
  refine (HF.out x _).mono ?_
  rintro e w4 ⟨rfl, hb4⟩
  rw [HFX.out]
  have HB4 := Lib.hid (grow_to (grow_to HB3.out (grow_alloc w3 _)) hb4)
  clear hb4 hf m1 m2 m3 m4 m5 m6 hl3 hcf
  have hd1 : (f1 != -1) = b1 := H1.out
  have hd2 : (f2 == nn) = b2 := H2.out
  cases b1
  · go_wp2
    go_ret
    exact ⟨rfl, HB4.out⟩
  · cases b2
    · go_wp2
      go_ret
      exact ⟨rfl, HB4.out⟩
    · go_wp2
      go_ret
      exact ⟨rfl, HB4.out⟩

set_option maxRecDepth 100000 in
set_option maxHeartbeats 1000000 in
theorem ProveRead_err (tl : Value) (kd nn E : Int) (qv : Value) (known : Bool) (d k o : Int) (sa : Option Addr) (n cap : Nat) (w : World) (hE : E ≠ 0 ∨ known = false) (hqv : ∃ f g, qv = .agg #[f, g] ∧ ((f = .nilFunc ∧ g = .nilFunc) ∨ ∃ ft fg, f = .func (.func ft) #[] #[] ∧ g = .func (.func fg) #[] #[]))
    (HQ : ∀ w, Calls Try.prog 57 #[.int .u8 kd] w fun e w' => e = .returned (.tuple #[qv, .bool known]) ∧ Below w.heap.size w w')
    (x : Rs) (HR : ∀ W, Below w.heap.size w W → Calls Try.prog 19 #[.agg #[.slice sa n cap], .agg #[.int .i64 d, .int .i64 k, .int .i64 o], tl] W fun e w' => e = .returned (.tuple #[.agg (rsV x), .int .i64 E]) ∧ Below W.heap.size W w') :
    Calls Try.prog 35 #[.agg #[.slice sa n cap], .agg #[.int .i64 d, .int .i64 k, .int .i64 o], tl, .int .u8 kd, .int .i64 nn] w fun e w' => e = .returned (.bool false) ∧ Below w.heap.size w w' := by
  have hb2 := below2 w (.cells #[.slice sa n cap] 34) (.cells #[.int .i64 d, .int .i64 k, .int .i64 o] 40)
  have HRR := Lib.hid HR
  have HQQ := Lib.hid HQ
  have HEE := Lib.hid hE
  clear HR HQ hE
  obtain ⟨f, g, rfl, hfg⟩ := hqv
  have HFG := Lib.hid hfg
  clear hfg
  go_enter Try.func35, Try.ntmps35
  go_wp2_with fail
  refine (HRR.out _ hb2).mono ?_
  rintro e w1 ⟨rfl, hb1⟩
  have HB1 := Lib.hid (below_to hb2 hb1)
  clear hb1 hb2
  rw [show rsV x = #[.int .i64 x.st, .int .i64 x.pk, .int .i64 x.ya, .int .i64 x.y, .int .i64 x.ma, .int .i64 x.pl, .int .i64 x.wk] from rfl]
  go_wp2_with fail
  have hb2 := box_below w1 (.cells #[.int .i64 x.st, .int .i64 x.pk, .int .i64 x.ya, .int .i64 x.y, .int .i64 x.ma, .int .i64 x.pl, .int .i64 x.wk] 37)
  generalize World.alloc w1 _ = W2 at *
  refine (HQQ.out W2).mono ?_
  rintro e w3 ⟨rfl, hb3⟩
  have HB3 := Lib.hid (grow_to (below_to HB1.out hb2) hb3)
  clear hb2 hb3
  rcases HFG.out with ⟨rfl, rfl⟩ | ⟨ft, fg, rfl, rfl⟩
  · have hal := Lib.hid (grow_to HB3.out (grow_alloc w3 (.cells #[.nilFunc, .nilFunc] 105)))
    rcases HEE.out with hE | hE
    · have hne : (E == 0) = false := by rw [beq_eq_false_iff_ne]; exact hE
      have hne' : (E != 0) = true := by rw [bne_iff_ne]; exact hE
      go_wp2
      go_ret
      exact ⟨rfl, hal.out⟩
    · subst hE
      by_cases h : E = 0
      · subst h
        go_wp2
        go_ret
        exact ⟨rfl, hal.out⟩
      · have hne : (E == 0) = false := by rw [beq_eq_false_iff_ne]; exact h
        have hne' : (E != 0) = true := by rw [bne_iff_ne]; exact h
        go_wp2
        go_ret
        exact ⟨rfl, hal.out⟩
  · have hal := Lib.hid (grow_to HB3.out (grow_alloc w3 (.cells #[.func (.func ft) #[] #[], .func (.func fg) #[] #[]] 105)))
    rcases HEE.out with hE | hE
    · have hne : (E == 0) = false := by rw [beq_eq_false_iff_ne]; exact hE
      have hne' : (E != 0) = true := by rw [bne_iff_ne]; exact hE
      go_wp2
      go_ret
      exact ⟨rfl, hal.out⟩
    · subst hE
      by_cases h : E = 0
      · subst h
        go_wp2
        go_ret
        exact ⟨rfl, hal.out⟩
      · have hne : (E == 0) = false := by rw [beq_eq_false_iff_ne]; exact h
        have hne' : (E != 0) = true := by rw [bne_iff_ne]; exact h
        go_wp2
        go_ret
        exact ⟨rfl, hal.out⟩
end Go.Proofs.Ytfjlnejeffkdoaa

namespace Go.Proofs.Ytfjlnejeffkdoaa
open Go.RowKit Go.Shelf
attribute [local irreducible] arrV wpQuiet

/-- What the reference says of the given numbers: whether they are a truth that has this number. -/
structure TruS (sa st : Option Addr) (n cap m capt : Nat) (d k o kind nb : Int) (is : Bool) (w : World) : Prop where
  t : ∃ tb : Bool, (∀ W, Below w.heap.size w W → Calls Try.prog 24 #[.agg #[.slice sa n cap], .slice st m capt] W fun e w' => e = .returned (.bool tb) ∧ Below W.heap.size W w') ∧ (tb = false → is = false) ∧
    (tb = true → ∃ (x : Rs) (hv : Bool) (nn : Int), (∀ W, Below w.heap.size w W → Calls Try.prog 26 #[.agg #[.slice sa n cap], .agg #[.int .i64 d, .int .i64 k, .int .i64 o], .slice st m capt] W fun e w' => e = .returned (.agg (rsV x)) ∧ Below W.heap.size W w') ∧
      (∀ W, Calls Try.prog 36 #[.agg (rsV x), .int .u8 kind] W fun e w' => e = .returned (.bool hv) ∧ Below W.heap.size W w') ∧ (∀ W, Calls Try.prog 37 #[.agg (rsV x), .int .u8 kind] W fun e w' => e = .returned (.int .i64 nn) ∧ Below W.heap.size W w') ∧ is = (hv && (nn == nb)))

/-- What the reference says of the truth that was shown. -/
def ShoS (sa : Option Addr) (n cap : Nat) (d k o kind due : Int) (w : World) (lv : Value) (W : World) : Prop := ∃ x : Rs,
    (∀ W', Below W.heap.size W W' → Calls Try.prog 24 #[.agg #[.slice sa n cap], lv] W' fun e w' => e = .returned (.bool true) ∧ Below W'.heap.size W' w') ∧
    (∀ W', Below W.heap.size W W' → Calls Try.prog 26 #[.agg #[.slice sa n cap], .agg #[.int .i64 d, .int .i64 k, .int .i64 o], lv] W' fun e w' => e = .returned (.agg (rsV x)) ∧ Below W'.heap.size W' w') ∧
    (∀ W, Calls Try.prog 36 #[.agg (rsV x), .int .u8 kind] W fun e w' => e = .returned (.bool true) ∧ Below W.heap.size W w') ∧ (∀ W, Calls Try.prog 37 #[.agg (rsV x), .int .u8 kind] W fun e w' => e = .returned (.int .i64 due) ∧ Below W.heap.size W w')

set_option maxRecDepth 100000 in
set_option maxHeartbeats 400000 in
theorem shows_no (sa st : Option Addr) (n cap m capt : Nat) (d k o kind nb : Int) (high q : Bool) (w : World) (hm : m ≤ maxLen) (hq : q = false ∨ 30 < m)
    (HF : ∀ W, Below w.heap.size w W → Calls Try.prog 27 #[.agg #[.slice sa n cap]] W fun e w' => e = .returned (.bool q) ∧ Below W.heap.size W w') :
    Calls Try.prog 6 #[.agg #[.slice sa n cap], .agg #[.int .i64 d, .int .i64 k, .int .i64 o], .int .u8 kind, .bool high, .slice st m capt, .int .i64 nb] w fun e w' => e = .returned (.bool true) ∧ Below w.heap.size w w' := by
  have HRR := Lib.hid HF
  have hb2 := below2 w (.cells #[.slice sa n cap] 24) (.cells #[.int .i64 d, .int .i64 k, .int .i64 o] 26)
  have HA := Lib.hid awake_any
  have HQ := Lib.hid hq
  clear HF hq
  unfold maxLen at hm
  go_enter Try.func6, Try.ntmps6
  go_wp2_with fail
  refine (HRR.out _ hb2).mono ?_
  rintro e w1 ⟨rfl, hb1⟩
  have hbw := below_to hb2 hb1
  clear hb1 hb2
  have tail : ∀ q', q' = q → (q' = false ∨ (q' = true ∧ 30 < m)) := fun q' e => by
    subst e
    cases q'
    · exact .inl rfl
    · rcases HQ.out with h | h
      · cases h
      · exact .inr ⟨rfl, h⟩
  rcases tail q rfl with h | ⟨h, h30⟩
  · subst h
    clear tail
    go_wp2_with fail
    refine (HA.out _).mono ?_
    rintro e w2 ⟨rfl, hb3⟩
    have hbw2 := below_to hbw hb3
    clear hb3 hbw
    go_wp2
    go_ret
    exact ⟨rfl, hbw2⟩
  · subst h
    clear tail
    have hmi : (30 : Int) < (m : Int) := by omega
    go_wp2_with fail
    refine (HA.out _).mono ?_
    rintro e w2 ⟨rfl, hb3⟩
    have hbw2 := below_to hbw hb3
    clear hb3 hbw
    go_wp2
    go_ret
    exact ⟨rfl, hbw2⟩

set_option maxRecDepth 100000 in
set_option maxHeartbeats 8000000 in
theorem shows_walk (sa st : Option Addr) (n cap m capt : Nat) (d k o kind nb E EE lo hi : Int) (high is : Bool) (CV LV SL TL : Value → World → Prop) (w : World) (hm : m ≤ 30)
    (HCVg : ∀ v w1 w2, CV v w1 → Below w1.heap.size w1 w2 → CV v w2) (HSLg : ∀ v w1 w2, SL v w1 → Below w1.heap.size w1 w2 → SL v w2) (HTLg : ∀ v w1 w2, TL v w1 → Below w1.heap.size w1 w2 → TL v w2)
    (HFEW : ∀ W, Below w.heap.size w W → Calls Try.prog 27 #[.agg #[.slice sa n cap]] W fun e w' => e = .returned (.bool true) ∧ Below W.heap.size W w')
    (HCV : ∀ W, Below w.heap.size w W → Calls Try.prog 18 #[.agg #[.slice sa n cap]] W fun e w' => ∃ v, e = .returned (.agg #[v]) ∧ CV v w' ∧ Below W.heap.size W w')
    (HSH : ∀ v W, CV v W → Below w.heap.size w W → Calls Try.prog 34 #[.agg #[v], .agg #[.int .i64 d, .int .i64 k, .int .i64 o], .int .u8 kind, .bool high] W fun e w' => ∃ lv, e = .returned (.tuple #[lv, .int .i64 EE]) ∧ SL lv w' ∧ Below W.heap.size W w')
    (HLS : ∀ W, Below w.heap.size w W → Calls Try.prog 21 #[.slice st m capt] W fun e w' => ∃ tl, e = .returned tl ∧ TL tl w' ∧ Below W.heap.size W w')
    (HPR : ∀ v tl W, CV v W → TL tl W → Calls Try.prog 35 #[.agg #[v], .agg #[.int .i64 d, .int .i64 k, .int .i64 o], tl, .int .u8 kind, .int .i64 nb] W fun e w' => e = .returned (.bool is) ∧ Below W.heap.size W w')
    (HFL : ∀ W, Below w.heap.size w W → Calls Try.prog 22 #[.agg #[.slice sa n cap], .agg #[.int .i64 d, .int .i64 k, .int .i64 o]] W fun e w' => e = .returned (.int .i64 E) ∧ Below W.heap.size W w')
    (HX : (E ≠ 0 ∧ EE = E ∧ is = false ∧ ∀ v W, SL v W → v = .slice none 0 0) ∨ (E = 0 ∧ 3 < kind ∧ EE = 2 ∧ is = false ∧ ∀ v W, SL v W → v = .slice none 0 0) ∨
      (E = 0 ∧ kind ≤ 3 ∧ TruS sa st n cap m capt d k o kind nb is w ∧ ((EE = 7 ∧ lo = 0 ∧ hi = 0 ∧ RefS sa n cap d k o kind 0 0 false LV w ∧ ∀ v W, SL v W → v = .slice none 0 0) ∨
        (EE = 0 ∧ RefS sa n cap d k o kind lo hi true LV w ∧ ∀ v W, SL v W → Below w.heap.size w W → ShoS sa n cap d k o kind (if high then hi else lo) w v W)))) :
    Calls Try.prog 6 #[.agg #[.slice sa n cap], .agg #[.int .i64 d, .int .i64 k, .int .i64 o], .int .u8 kind, .bool high, .slice st m capt, .int .i64 nb] w fun e w' => e = .returned (.bool true) ∧ Below w.heap.size w w' := by
  have hb2 := below2 w (.cells #[.slice sa n cap] 24) (.cells #[.int .i64 d, .int .i64 k, .int .i64 o] 26)
  obtain ⟨hx1, hx2⟩ := box2 w (.cells #[.slice sa n cap] 24) (.cells #[.int .i64 d, .int .i64 k, .int .i64 o] 26)
  have HA := Lib.hid awake_any
  have H1 := Lib.hid HCVg
  have H1s := Lib.hid HSLg
  have H1t := Lib.hid HTLg
  have H2 := Lib.hid HFEW
  have H3 := Lib.hid HCV
  have H4 := Lib.hid HSH
  have H5 := Lib.hid HFL
  have H6 := Lib.hid HLS
  have H7 := Lib.hid HPR
  have H10 := Lib.hid HX
  have hmm : ¬ (30 : Int) < (m : Int) := by omega
  have hmd : decide ((30 : Int) < (m : Int)) = false := by simp; omega
  clear HCVg HSLg HTLg HFEW HCV HSH HFL HLS HPR HX hm
  go_enter Try.func6, Try.ntmps6
  go_wp2_with fail
  generalize World.alloc (World.alloc w _) _ = W1 at *
  refine (H2.out _ hb2).mono ?_
  rintro e w1 ⟨rfl, hb1⟩
  have HBW := Lib.hid (below_to hb2 hb1)
  have HC : Hid (∀ w', Below w1.heap.size w1 w' → w'.cell? ⟨w.heap.size, 0, none⟩ = some (.slice sa n cap) ∧ w'.cell? ⟨w.heap.size + 1, 0, none⟩ = some (.int .i64 d) ∧ w'.cell? ⟨w.heap.size + 1, 1, none⟩ = some (.int .i64 k) ∧ w'.cell? ⟨w.heap.size + 1, 2, none⟩ = some (.int .i64 o)) := Lib.hid fun w' h => by
    have z1 := (hb1.block _ (lt_of_block hx1)).trans hx1
    have z2 := (hb1.block _ (lt_of_block hx2)).trans hx2
    have y1 := (h.block _ (lt_of_block z1)).trans z1
    have y2 := (h.block _ (lt_of_block z2)).trans z2
    exact ⟨cell_of_row w' w.heap.size 0 _ _ _ y1, cell_of_row w' (w.heap.size + 1) 0 _ _ _ y2, cell_of_row w' (w.heap.size + 1) 1 _ _ _ y2, cell_of_row w' (w.heap.size + 1) 2 _ _ _ y2⟩
  clear hb1 hb2 hx1 hx2
  clear W1
  go_wp2
  clear hmm hmd
  refine wp_region_noPanic ?_
  refine wp_region_chain (fun w' => Below w1.heap.size w1 w') (fun _ _ h hb => grow_to h hb) (below_drawn _) (by kernel_rfl) (fun _ _ _ _ _ h => h)
    [(false, 0), (false, 2), (false, 4), (false, 5), (true, 1), (true, 3), (true, 6), (false, 7), (false, 8), (false, 9)] [10, 11] (by kernel_rfl) ?_
  iterate 4
    (refine Walk.takes rfl rfl ?_; apply Exists.intro; refine ⟨fun w' hS => ?_, ?_⟩; (obtain ⟨d0, d1, d2, d3⟩ := HC.out w' hS; clear hS; go_simp; with_reducible rfl); simp only [List.getElem_toArray, List.getElem_cons_succ, List.getElem_cons_zero, Act.put, List.setIfInBounds_toArray, List.set_cons_zero, List.set_cons_succ])
  refine Walk.calls rfl rfl ?_; apply Exists.intro; apply Exists.intro; refine ⟨fun w' hS => ?_, fun w' hba => ?_⟩; (clear hS; go_simp; exact ⟨rfl, rfl⟩)
  have hu0 := grow_to HBW.out (grow_to (below_drawn _) hba)
  refine (H3.out w' hu0).mono ?_
  rintro e u1 ⟨v2, rfl, hv2, hbb⟩
  refine ⟨_, rfl, hbb, ?_⟩
  simp only [List.getElem_toArray, List.getElem_cons_succ, List.getElem_cons_zero, Act.put, List.setIfInBounds_toArray, List.set_cons_zero, List.set_cons_succ]
  have hu1 := grow_to hu0 hbb
  clear hba hbb hu0
  refine Walk.calls rfl rfl ?_; apply Exists.intro; apply Exists.intro; refine ⟨fun w' hS => ?_, fun w' hba => ?_⟩; (clear hS; go_simp; exact ⟨rfl, rfl⟩)
  refine (Rule_any d k o w').mono ?_
  rintro e u2 ⟨rfl, hbb⟩
  refine ⟨_, rfl, hbb, ?_⟩
  simp only [List.getElem_toArray, List.getElem_cons_succ, List.getElem_cons_zero, Act.put, List.setIfInBounds_toArray, List.set_cons_zero, List.set_cons_succ]
  replace hv2 := H1.out _ _ _ (H1.out _ _ _ hv2 hba) hbb
  have hu2 := grow_to (grow_to hu1 hba) hbb
  clear hba hbb hu1
  refine Walk.calls rfl rfl ?_; apply Exists.intro; apply Exists.intro; refine ⟨fun w' hS => ?_, fun w' hba => ?_⟩; (clear hS; go_simp; exact ⟨rfl, rfl⟩)
  refine (H4.out v2 w' (H1.out _ _ _ hv2 hba) (grow_to hu2 hba)).mono ?_
  rintro e u3 ⟨lv, rfl, hlv, hbb⟩
  refine ⟨_, rfl, hbb, ?_⟩
  simp only [List.getElem_toArray, List.getElem_cons_succ, List.getElem_cons_zero, Act.put, List.setIfInBounds_toArray, List.set_cons_zero, List.set_cons_succ]
  clear hba hbb hv2 hu2
  iterate 3
    (refine Walk.takes rfl rfl ?_; apply Exists.intro; refine ⟨fun w' hS => ?_, ?_⟩; (clear hS; go_simp; with_reducible rfl); simp only [List.getElem_toArray, List.getElem_cons_succ, List.getElem_cons_zero, Act.put, List.setIfInBounds_toArray, List.set_cons_zero, List.set_cons_succ])
  refine Walk.fin ?_
  intro w2 hb7 hw7
  have HSL := Lib.hid (H1s.out _ _ _ hlv hb7)
  have HB := Lib.hid hw7
  clear hlv hb7 hw7
  iterate 2
    (refine Tail.value rfl rfl (by go_simp; with_reducible rfl) ?_; simp only [List.getElem_toArray, List.getElem_cons_succ, List.getElem_cons_zero, Act.put, List.setIfInBounds_toArray, List.set_cons_zero, List.set_cons_succ])
  refine Tail.done (NoPanic.normal ?_)
  clear u3
  go_wp2
  refine wp_region_noPanic ?_
  refine wp_region_chain (fun w' => Below w2.heap.size w2 w') (fun _ _ h hb => grow_to h hb) (below_drawn _) (by kernel_rfl) (fun _ _ _ _ _ h => h)
    [(false, 0), (false, 2), (false, 4), (false, 6), (false, 7), (true, 1), (true, 3), (true, 5), (true, 8)] [9] (by kernel_rfl) ?_
  iterate 5
    (refine Walk.takes rfl rfl ?_; apply Exists.intro; refine ⟨fun w' hS => ?_, ?_⟩; (obtain ⟨d0, d1, d2, d3⟩ := HC.out w' (grow_to HB.out hS); clear hS; go_simp; with_reducible rfl); simp only [List.getElem_toArray, List.getElem_cons_succ, List.getElem_cons_zero, Act.put, List.setIfInBounds_toArray, List.set_cons_zero, List.set_cons_succ])
  refine Walk.calls rfl rfl ?_; apply Exists.intro; apply Exists.intro; refine ⟨fun w' hS => ?_, fun w' hba => ?_⟩; (clear hS; go_simp; exact ⟨rfl, rfl⟩)
  have hu0 := grow_to HBW.out (grow_to HB.out (grow_to (below_drawn _) hba))
  refine (H3.out w' hu0).mono ?_
  rintro e u1 ⟨v2, rfl, hv2, hbb⟩
  refine ⟨_, rfl, hbb, ?_⟩
  simp only [List.getElem_toArray, List.getElem_cons_succ, List.getElem_cons_zero, Act.put, List.setIfInBounds_toArray, List.set_cons_zero, List.set_cons_succ]
  have hu1 := grow_to hu0 hbb
  clear hba hbb hu0
  refine Walk.calls rfl rfl ?_; apply Exists.intro; apply Exists.intro; refine ⟨fun w' hS => ?_, fun w' hba => ?_⟩; (clear hS; go_simp; exact ⟨rfl, rfl⟩)
  refine (Rule_any d k o w').mono ?_
  rintro e u2 ⟨rfl, hbb⟩
  refine ⟨_, rfl, hbb, ?_⟩
  simp only [List.getElem_toArray, List.getElem_cons_succ, List.getElem_cons_zero, Act.put, List.setIfInBounds_toArray, List.set_cons_zero, List.set_cons_succ]
  replace hv2 := H1.out _ _ _ (H1.out _ _ _ hv2 hba) hbb
  have hu2 := grow_to (grow_to hu1 hba) hbb
  clear hba hbb hu1
  refine Walk.calls rfl rfl ?_; apply Exists.intro; apply Exists.intro; refine ⟨fun w' hS => ?_, fun w' hba => ?_⟩; (clear hS; go_simp; exact ⟨rfl, rfl⟩)
  refine (H6.out w' (grow_to hu2 hba)).mono ?_
  rintro e u3 ⟨tl, rfl, htl, hbb⟩
  refine ⟨_, rfl, hbb, ?_⟩
  simp only [List.getElem_toArray, List.getElem_cons_succ, List.getElem_cons_zero, Act.put, List.setIfInBounds_toArray, List.set_cons_zero, List.set_cons_succ]
  replace hv2 := H1.out _ _ _ (H1.out _ _ _ hv2 hba) hbb
  clear hba hbb hu2
  refine Walk.calls rfl rfl ?_; apply Exists.intro; apply Exists.intro; refine ⟨fun w' hS => ?_, fun w' hba => ?_⟩; (clear hS; go_simp; exact ⟨rfl, rfl⟩)
  refine (H7.out v2 tl w' (H1.out _ _ _ hv2 hba) (H1t.out _ _ _ htl hba)).mono ?_
  rintro e u4 ⟨rfl, hbb⟩
  refine ⟨_, rfl, hbb, ?_⟩
  simp only [List.getElem_toArray, List.getElem_cons_succ, List.getElem_cons_zero, Act.put, List.setIfInBounds_toArray, List.set_cons_zero, List.set_cons_succ]
  clear hba hbb hv2 htl
  refine Walk.fin ?_
  intro w3 hb7 hw7
  replace HSL := Lib.hid (H1s.out _ _ _ HSL.out hw7)
  replace HB := Lib.hid (grow_to HB.out hw7)
  clear hb7 hw7
  iterate 1
    (refine Tail.value rfl rfl (by go_simp; with_reducible rfl) ?_; simp only [List.getElem_toArray, List.getElem_cons_succ, List.getElem_cons_zero, Act.put, List.setIfInBounds_toArray, List.set_cons_zero, List.set_cons_succ])
  refine Tail.done (NoPanic.normal ?_)
  clear u4 w2
  clear H1 H1t H2 H3 H4 H6 H7
  obtain ⟨d0, d1, d2, d3⟩ := HC.out w3 HB.out
  go_wp2_with fail
  refine (H5.out w3 (grow_to HBW.out HB.out)).mono ?_
  rintro e w4 ⟨rfl, hb3⟩
  replace HB := Lib.hid (grow_to HB.out hb3)
  replace HSL := Lib.hid (H1s.out _ _ _ HSL.out hb3)
  clear hb3 d0 d1 d2 d3 H5
  clear w3
  rcases H10.out with ⟨hE, rfl, rfl, hnil⟩ | ⟨rfl, hk, rfl, rfl, hnil⟩ | ⟨rfl, hk, HT, HR⟩
  · obtain rfl := hnil lv w4 HSL.out
    clear hnil
    have hne : (EE == 0) = false := by rw [beq_eq_false_iff_ne]; exact hE
    have hne' : (EE != 0) = true := by rw [bne_iff_ne]; exact hE
    have HBG := Lib.hid (grow_to (grow_to HBW.out HB.out) (grow_alloc w4 (.cells #[.int .i64 0, .int .i64 0] 54)))
    go_wp2_with fail
    refine (HA.out _).mono ?_
    rintro e w5 ⟨rfl, hb4⟩
    have hbf := grow_to HBG.out hb4
    clear hb4
    go_wp2
    go_ret
    exact ⟨rfl, hbf⟩
  · obtain rfl := hnil lv w4 HSL.out
    clear hnil
    have hk1 : decide (kind > 3) = true := decide_eq_true hk
    have hk2 : decide (kind ≤ 3) = false := decide_eq_false (by omega)
    have HBG := Lib.hid (grow_to (grow_to HBW.out HB.out) (grow_alloc w4 (.cells #[.int .i64 0, .int .i64 0] 54)))
    go_wp2_with fail
    refine (HA.out _).mono ?_
    rintro e w5 ⟨rfl, hb4⟩
    have hbf := grow_to HBG.out hb4
    clear hb4
    go_wp2
    go_ret
    exact ⟨rfl, hbf⟩
  · have hk1 : decide (kind > 3) = false := decide_eq_false (by omega)
    have hk2 : decide (kind ≤ 3) = true := decide_eq_true hk
    obtain ⟨tb, ht1, ht2, ht3⟩ := HT.t
    have HT1 := Lib.hid ht1
    have HT2 := Lib.hid ht2
    have HT3 := Lib.hid ht3
    have HRR := Lib.hid HR
    clear ht1 ht2 ht3 HT HR H10 hk
    go_upto_region 6 with fail
    go_cut [82] from 52 to 82 (fun s82 wx => s82 = .bool false ∧ Hid (Below w4.heap.size w4 wx))
    case first => as_aux_lemma =>
      obtain ⟨d0, d1, d2, d3⟩ := HC.out w4 HB.out
      go_wp2_with fail
      refine (HT1.out w4 (grow_to HBW.out HB.out)).mono ?_
      rintro e w5 ⟨rfl, hb5⟩
      have HB5 := Lib.hid hb5
      clear hb5 d0 d1 d2 d3
      cases tb
      · have his := HT2.out rfl
        subst his
        go_wp2
        go_meet
        case rel => exact ⟨rfl, HB5⟩
      · obtain ⟨x, hv, nn, h26, h36, h37, his⟩ := HT3.out rfl
        have G26 := Lib.hid h26
        have G36 := Lib.hid h36
        have G37 := Lib.hid h37
        have HIS := Lib.hid his
        clear h26 h36 h37 his HT2 HT3
        obtain ⟨d0, d1, d2, d3⟩ := HC.out w5 (grow_to HB.out HB5.out)
        go_wp2_with fail
        refine (G26.out w5 (grow_to HBW.out (grow_to HB.out HB5.out))).mono ?_
        rintro e w6 ⟨rfl, hb6⟩
        have HB6 := Lib.hid (grow_to HB5.out hb6)
        clear hb6 d0 d1 d2 d3
        go_wp2_with fail
        refine (G36.out w6).mono ?_
        rintro e w7 ⟨rfl, hb7⟩
        have HB7 := Lib.hid (grow_to HB6.out hb7)
        clear hb7
        cases hv
        · have his : is = false := by rw [HIS.out]; rfl
          clear HIS HRR
          subst his
          go_wp2
          go_meet
          case rel => exact ⟨rfl, HB7⟩
        · obtain ⟨d0, d1, d2, d3⟩ := HC.out w7 (grow_to HB.out HB7.out)
          go_wp2_with fail
          refine (G26.out w7 (grow_to HBW.out (grow_to HB.out HB7.out))).mono ?_
          rintro e w8 ⟨rfl, hb8⟩
          have HB8 := Lib.hid (grow_to HB7.out hb8)
          clear hb8 d0 d1 d2 d3
          go_wp2_with fail
          refine (G37.out w8).mono ?_
          rintro e w9 ⟨rfl, hb9⟩
          have HB9 := Lib.hid (grow_to HB8.out hb9)
          clear hb9
          have hs : ∀ b, (nn == nb) = b → is = b := fun b hb => by rw [HIS.out, hb]; rfl
          have HSS := Lib.hid hs
          clear hs HIS HRR
          cases hb : (nn == nb)
          · have his := HSS.out _ hb
            clear HSS
            subst his
            go_wp2
            go_meet
            case rel => exact ⟨rfl, HB9⟩
          · have his := HSS.out _ hb
            clear HSS
            subst his
            go_wp2
            go_meet
            case rel => exact ⟨rfl, HB9⟩
    case rest =>
      obtain ⟨rfl, HX6⟩ := hcut
      obtain ⟨w3, rfl⟩ : ∃ w3, w3 = wc := ⟨_, rfl⟩
      replace HSL := Lib.hid (H1s.out _ _ _ HSL.out HX6.out)
      replace HB := Lib.hid (grow_to HB.out HX6.out)
      clear HX6 HT1 HT2 HT3
      rcases HRR.out with ⟨rfl, rfl, rfl, HR, hnil⟩ | ⟨rfl, HR, hS2⟩
      · obtain rfl := hnil lv w3 HSL.out
        have HRS := Lib.hid HR
        clear HR hnil HRR
        have HT3 := Lib.hid (heap_alloc_new w3 (.cells #[.int .i64 0, .int .i64 0] 54))
        have HB3 := Lib.hid (grow_alloc w3 (.cells #[.int .i64 0, .int .i64 0] 54))
        go_wp2
        generalize w3.alloc (.cells #[.int .i64 0, .int .i64 0] 54) = w4 at *
        refine wp_region_noPanic ?_
        refine wp_region_chain (fun w' => Below w3.heap.size w3 w') (fun _ _ h hb => grow_to h hb) (grow_to HB3.out (below_drawn _)) (by kernel_rfl) (fun _ _ _ _ _ h => h)
          [(false, 0), (false, 1), (false, 2), (false, 3), (true, 4), (true, 5), (false, 6), (false, 7), (false, 8)] [9, 10] (by kernel_rfl) ?_
        iterate 4
          (refine Walk.takes rfl rfl ?_; apply Exists.intro; refine ⟨fun w' hS => ?_, ?_⟩; (obtain ⟨d0, d1, d2, d3⟩ := HC.out w' (grow_to HB.out hS); clear hS; go_simp; with_reducible rfl); simp only [List.getElem_toArray, List.getElem_cons_succ, List.getElem_cons_zero, Act.put, List.setIfInBounds_toArray, List.set_cons_zero, List.set_cons_succ])
        refine Walk.calls rfl rfl ?_; apply Exists.intro; apply Exists.intro; refine ⟨fun w' hS => ?_, fun w' hba => ?_⟩; (clear hS; go_simp; exact ⟨rfl, rfl⟩)
        have hu0 := grow_to HB3.out (grow_to (below_drawn _) hba)
        have ht0 := ((grow_to (below_drawn _) hba).block _ (lt_of_block HT3.out)).trans HT3.out
        refine (HRS.out.t w' (grow_to HBW.out (grow_to HB.out hu0))).mono ?_
        rintro e u1 ⟨lvv, rfl, hlv, hbb⟩
        refine ⟨_, rfl, hbb, ?_⟩
        simp only [List.getElem_toArray, List.getElem_cons_succ, List.getElem_cons_zero, Act.put, List.setIfInBounds_toArray, List.set_cons_zero, List.set_cons_succ]
        have hu1 := grow_to hu0 hbb
        have ht1 := (hbb.block _ (lt_of_block ht0)).trans ht0
        clear hba hbb hu0 ht0
        refine Walk.calls rfl rfl ?_; apply Exists.intro; apply Exists.intro; refine ⟨fun w' hS => ?_, fun w' hba => ?_⟩; (clear hS; go_simp; exact ⟨rfl, rfl⟩)
        have hu2 := grow_to hu1 hba
        have ht2 := (hba.block _ (lt_of_block ht1)).trans ht1
        refine (HRS.out.s lvv w' (HRS.out.g _ _ _ hlv hba) (grow_to HBW.out (grow_to HB.out hu2))).mono ?_
        rintro e u2 ⟨rfl, hbb⟩
        refine ⟨_, rfl, hbb, ?_⟩
        simp only [List.getElem_toArray, List.getElem_cons_succ, List.getElem_cons_zero, Act.put, List.setIfInBounds_toArray, List.set_cons_zero, List.set_cons_succ]
        have hu3 := grow_to hu2 hbb
        have ht3 := (hbb.block _ (lt_of_block ht2)).trans ht2
        clear hba hbb hlv hu1 hu2 ht1 ht2
        iterate 3
          (refine Walk.takes rfl rfl ?_; apply Exists.intro; refine ⟨fun w' hS => ?_, ?_⟩; (clear hS; go_simp; with_reducible rfl); simp only [List.getElem_toArray, List.getElem_cons_succ, List.getElem_cons_zero, Act.put, List.setIfInBounds_toArray, List.set_cons_zero, List.set_cons_succ])
        refine Walk.fin ?_
        intro v7 hb7 hw7
        have hz8 := (hb7.block _ (lt_of_block ht3)).trans ht3
        have s54 : (Try.prog.info? 54).map (·.size) = some 2 := by kernel_rfl
        have n1 := set_whole w3.heap.size 54 v7 #[.int .i64 0, .int .i64 0] #[.int .i64 0, .int .i64 0] rfl hz8
        have n3 := below_cells (b := w3.heap.size) (Nat.le_refl _) [.int .i64 0, .int .i64 0] 0 v7 hw7
        refine Tail.skip rfl rfl (exec_store_row 54 (.tmp 17) (.tmp 98) rfl w3.heap.size 0 #[.int .i64 0, .int .i64 0] rfl rfl (there_block hz8 (Nat.le_refl _)) s54 (by simp [Value.oneCell'])) n3 ?_
        simp only [List.getElem_toArray, List.getElem_cons_succ, List.getElem_cons_zero, Act.put, List.setIfInBounds_toArray, List.set_cons_zero, List.set_cons_succ]
        generalize v7.setCells w3.heap.size 0 _ = w5 at *
        iterate 1
          (refine Tail.value rfl rfl (by go_simp; with_reducible rfl) ?_; simp only [List.getElem_toArray, List.getElem_cons_succ, List.getElem_cons_zero, Act.put, List.setIfInBounds_toArray, List.set_cons_zero, List.set_cons_succ])
        refine Tail.done (NoPanic.normal ?_)
        have HBF := Lib.hid (grow_to (grow_to HBW.out HB.out) n3)
        have HB5 := Lib.hid n3
        have t0 := cell_of_row w5 w3.heap.size 0 _ _ _ n1
        have t1 := cell_of_row w5 w3.heap.size 1 _ _ _ n1
        (try simp at t0); (try simp at t1)
        clear hz8 hw7 hb7 s54 n1 n3 ht3 hu3
        clear v7 u2
        go_wp2_with fail
        refine (HA.out _).mono ?_
        rintro e w6 ⟨rfl, hb6⟩
        have hbf := grow_to HBF.out hb6
        clear hb6
        go_wp2
        go_ret
        exact ⟨rfl, hbf⟩
      · have HRS := Lib.hid HR
        have HS2 := Lib.hid hS2
        clear HR hS2 HRR
        have HT3 := Lib.hid (heap_alloc_new w3 (.cells #[.int .i64 0, .int .i64 0] 54))
        have HB3 := Lib.hid (grow_alloc w3 (.cells #[.int .i64 0, .int .i64 0] 54))
        go_wp2
        generalize w3.alloc (.cells #[.int .i64 0, .int .i64 0] 54) = w4 at *
        refine wp_region_noPanic ?_
        refine wp_region_chain (fun w' => Below w3.heap.size w3 w') (fun _ _ h hb => grow_to h hb) (grow_to HB3.out (below_drawn _)) (by kernel_rfl) (fun _ _ _ _ _ h => h)
          [(false, 0), (false, 1), (false, 2), (false, 3), (true, 4), (true, 5), (false, 6), (false, 7), (false, 8)] [9, 10] (by kernel_rfl) ?_
        iterate 4
          (refine Walk.takes rfl rfl ?_; apply Exists.intro; refine ⟨fun w' hS => ?_, ?_⟩; (obtain ⟨d0, d1, d2, d3⟩ := HC.out w' (grow_to HB.out hS); clear hS; go_simp; with_reducible rfl); simp only [List.getElem_toArray, List.getElem_cons_succ, List.getElem_cons_zero, Act.put, List.setIfInBounds_toArray, List.set_cons_zero, List.set_cons_succ])
        refine Walk.calls rfl rfl ?_; apply Exists.intro; apply Exists.intro; refine ⟨fun w' hS => ?_, fun w' hba => ?_⟩; (clear hS; go_simp; exact ⟨rfl, rfl⟩)
        have hu0 := grow_to HB3.out (grow_to (below_drawn _) hba)
        have ht0 := ((grow_to (below_drawn _) hba).block _ (lt_of_block HT3.out)).trans HT3.out
        refine (HRS.out.t w' (grow_to HBW.out (grow_to HB.out hu0))).mono ?_
        rintro e u1 ⟨lvv, rfl, hlv, hbb⟩
        refine ⟨_, rfl, hbb, ?_⟩
        simp only [List.getElem_toArray, List.getElem_cons_succ, List.getElem_cons_zero, Act.put, List.setIfInBounds_toArray, List.set_cons_zero, List.set_cons_succ]
        have hu1 := grow_to hu0 hbb
        have ht1 := (hbb.block _ (lt_of_block ht0)).trans ht0
        clear hba hbb hu0 ht0
        refine Walk.calls rfl rfl ?_; apply Exists.intro; apply Exists.intro; refine ⟨fun w' hS => ?_, fun w' hba => ?_⟩; (clear hS; go_simp; exact ⟨rfl, rfl⟩)
        have hu2 := grow_to hu1 hba
        have ht2 := (hba.block _ (lt_of_block ht1)).trans ht1
        refine (HRS.out.s lvv w' (HRS.out.g _ _ _ hlv hba) (grow_to HBW.out (grow_to HB.out hu2))).mono ?_
        rintro e u2 ⟨rfl, hbb⟩
        refine ⟨_, rfl, hbb, ?_⟩
        simp only [List.getElem_toArray, List.getElem_cons_succ, List.getElem_cons_zero, Act.put, List.setIfInBounds_toArray, List.set_cons_zero, List.set_cons_succ]
        have hu3 := grow_to hu2 hbb
        have ht3 := (hbb.block _ (lt_of_block ht2)).trans ht2
        clear hba hbb hlv hu1 hu2 ht1 ht2
        iterate 3
          (refine Walk.takes rfl rfl ?_; apply Exists.intro; refine ⟨fun w' hS => ?_, ?_⟩; (clear hS; go_simp; with_reducible rfl); simp only [List.getElem_toArray, List.getElem_cons_succ, List.getElem_cons_zero, Act.put, List.setIfInBounds_toArray, List.set_cons_zero, List.set_cons_succ])
        refine Walk.fin ?_
        intro v7 hb7 hw7
        have hz8 := (hb7.block _ (lt_of_block ht3)).trans ht3
        have s54 : (Try.prog.info? 54).map (·.size) = some 2 := by kernel_rfl
        have n1 := set_whole w3.heap.size 54 v7 #[.int .i64 0, .int .i64 0] #[.int .i64 lo, .int .i64 hi] rfl hz8
        have n3 := below_cells (b := w3.heap.size) (Nat.le_refl _) [.int .i64 lo, .int .i64 hi] 0 v7 hw7
        refine Tail.skip rfl rfl (exec_store_row 54 (.tmp 17) (.tmp 98) rfl w3.heap.size 0 #[.int .i64 lo, .int .i64 hi] rfl rfl (there_block hz8 (Nat.le_refl _)) s54 (by simp [Value.oneCell'])) n3 ?_
        simp only [List.getElem_toArray, List.getElem_cons_succ, List.getElem_cons_zero, Act.put, List.setIfInBounds_toArray, List.set_cons_zero, List.set_cons_succ]
        generalize v7.setCells w3.heap.size 0 _ = w5 at *
        iterate 1
          (refine Tail.value rfl rfl (by go_simp; with_reducible rfl) ?_; simp only [List.getElem_toArray, List.getElem_cons_succ, List.getElem_cons_zero, Act.put, List.setIfInBounds_toArray, List.set_cons_zero, List.set_cons_succ])
        refine Tail.done (NoPanic.normal ?_)
        have HBF := Lib.hid (grow_to (grow_to HBW.out HB.out) n3)
        have HB5 := Lib.hid n3
        have t0 := cell_of_row w5 w3.heap.size 0 _ _ _ n1
        have t1 := cell_of_row w5 w3.heap.size 1 _ _ _ n1
        (try simp at t0); (try simp at t1)
        clear hz8 hw7 hb7 s54 n1 n3 ht3 hu3
        clear v7 u2
        cases high
        · have HSW := Lib.hid (HS2.out lv w5 (H1s.out _ _ _ HSL.out HB5.out) HBF.out)
          clear HS2
          obtain ⟨x, h24, h26, h36, h37⟩ := HSW.out
          have G24 := Lib.hid h24
          have G26 := Lib.hid h26
          have G36 := Lib.hid h36
          have G37 := Lib.hid h37
          clear h24 h26 h36 h37 HSW
          obtain ⟨d0, d1, d2, d3⟩ := HC.out w5 (grow_to HB.out HB5.out)
          go_wp2_with fail
          refine (G24.out w5 (Below.refl _ _)).mono ?_
          rintro e w6 ⟨rfl, hb6⟩
          have HB6 := Lib.hid hb6
          clear hb6 d0 d1 d2 d3 t0 t1
          obtain ⟨d0, d1, d2, d3⟩ := HC.out w6 (grow_to (grow_to HB.out HB5.out) HB6.out)
          go_wp2_with fail
          refine (G26.out w6 HB6.out).mono ?_
          rintro e w7 ⟨rfl, hb7⟩
          have HB7 := Lib.hid (grow_to HB6.out hb7)
          clear hb7 d0 d1 d2 d3
          rw [show rsV x = #[.int .i64 x.st, .int .i64 x.pk, .int .i64 x.ya, .int .i64 x.y, .int .i64 x.ma, .int .i64 x.pl, .int .i64 x.wk] from rfl] at *
          have hal := grow_alloc w7 (.cells #[.int .i64 x.st, .int .i64 x.pk, .int .i64 x.ya, .int .i64 x.y, .int .i64 x.ma, .int .i64 x.pl, .int .i64 x.wk] 47)
          have hx9 := heap_alloc_new w7 (.cells #[.int .i64 x.st, .int .i64 x.pk, .int .i64 x.ya, .int .i64 x.y, .int .i64 x.ma, .int .i64 x.pl, .int .i64 x.wk] 47)
          have HB8 := Lib.hid (grow_to HB7.out hal)
          have HX9 := Lib.hid hx9
          clear hal hx9
          go_wp2_with fail
          generalize World.alloc w7 _ = w8 at *
          refine (G36.out w8).mono ?_
          rintro e w9 ⟨rfl, hb9⟩
          have N9 := (hb9.block _ (lt_of_block HX9.out)).trans HX9.out
          have f0 := cell_of_row w9 w7.heap.size 0 _ _ _ N9
          have f1 := cell_of_row w9 w7.heap.size 1 _ _ _ N9
          have f2 := cell_of_row w9 w7.heap.size 2 _ _ _ N9
          have f3 := cell_of_row w9 w7.heap.size 3 _ _ _ N9
          have f4 := cell_of_row w9 w7.heap.size 4 _ _ _ N9
          have f5 := cell_of_row w9 w7.heap.size 5 _ _ _ N9
          have f6 := cell_of_row w9 w7.heap.size 6 _ _ _ N9
          simp at f0 f1 f2 f3 f4 f5 f6
          have HB9 := Lib.hid (grow_to HB8.out hb9)
          clear hb9 N9
          go_wp2_with fail
          refine (G37.out w9).mono ?_
          rintro e w10 ⟨rfl, hb10⟩
          have HB10 := Lib.hid (grow_to HB9.out hb10)
          clear hb10 f0 f1 f2 f3 f4 f5 f6
          go_wp2_with fail
          refine (HA.out _).mono ?_
          rintro e w11 ⟨rfl, hb11⟩
          have hbf := grow_to HBF.out (grow_to HB10.out hb11)
          clear hb11
          go_wp2
          go_ret
          exact ⟨rfl, hbf⟩
        · have HSW := Lib.hid (HS2.out lv w5 (H1s.out _ _ _ HSL.out HB5.out) HBF.out)
          clear HS2
          obtain ⟨x, h24, h26, h36, h37⟩ := HSW.out
          have G24 := Lib.hid h24
          have G26 := Lib.hid h26
          have G36 := Lib.hid h36
          have G37 := Lib.hid h37
          clear h24 h26 h36 h37 HSW
          obtain ⟨d0, d1, d2, d3⟩ := HC.out w5 (grow_to HB.out HB5.out)
          go_wp2_with fail
          refine (G24.out w5 (Below.refl _ _)).mono ?_
          rintro e w6 ⟨rfl, hb6⟩
          have HB6 := Lib.hid hb6
          clear hb6 d0 d1 d2 d3 t0 t1
          obtain ⟨d0, d1, d2, d3⟩ := HC.out w6 (grow_to (grow_to HB.out HB5.out) HB6.out)
          go_wp2_with fail
          refine (G26.out w6 HB6.out).mono ?_
          rintro e w7 ⟨rfl, hb7⟩
          have HB7 := Lib.hid (grow_to HB6.out hb7)
          clear hb7 d0 d1 d2 d3
          rw [show rsV x = #[.int .i64 x.st, .int .i64 x.pk, .int .i64 x.ya, .int .i64 x.y, .int .i64 x.ma, .int .i64 x.pl, .int .i64 x.wk] from rfl] at *
          have hal := grow_alloc w7 (.cells #[.int .i64 x.st, .int .i64 x.pk, .int .i64 x.ya, .int .i64 x.y, .int .i64 x.ma, .int .i64 x.pl, .int .i64 x.wk] 47)
          have hx9 := heap_alloc_new w7 (.cells #[.int .i64 x.st, .int .i64 x.pk, .int .i64 x.ya, .int .i64 x.y, .int .i64 x.ma, .int .i64 x.pl, .int .i64 x.wk] 47)
          have HB8 := Lib.hid (grow_to HB7.out hal)
          have HX9 := Lib.hid hx9
          clear hal hx9
          go_wp2_with fail
          generalize World.alloc w7 _ = w8 at *
          refine (G36.out w8).mono ?_
          rintro e w9 ⟨rfl, hb9⟩
          have N9 := (hb9.block _ (lt_of_block HX9.out)).trans HX9.out
          have f0 := cell_of_row w9 w7.heap.size 0 _ _ _ N9
          have f1 := cell_of_row w9 w7.heap.size 1 _ _ _ N9
          have f2 := cell_of_row w9 w7.heap.size 2 _ _ _ N9
          have f3 := cell_of_row w9 w7.heap.size 3 _ _ _ N9
          have f4 := cell_of_row w9 w7.heap.size 4 _ _ _ N9
          have f5 := cell_of_row w9 w7.heap.size 5 _ _ _ N9
          have f6 := cell_of_row w9 w7.heap.size 6 _ _ _ N9
          simp at f0 f1 f2 f3 f4 f5 f6
          have HB9 := Lib.hid (grow_to HB8.out hb9)
          clear hb9 N9
          go_wp2_with fail
          refine (G37.out w9).mono ?_
          rintro e w10 ⟨rfl, hb10⟩
          have HB10 := Lib.hid (grow_to HB9.out hb10)
          clear hb10 f0 f1 f2 f3 f4 f5 f6
          go_wp2_with fail
          refine (HA.out _).mono ?_
          rintro e w11 ⟨rfl, hb11⟩
          have hbf := grow_to HBF.out (grow_to HB10.out hb11)
          clear hb11
          go_wp2
          go_ret
          exact ⟨rfl, hbf⟩
end Go.Proofs.Ytfjlnejeffkdoaa

namespace Go.Proofs.Ytfjlnejeffkdoaa
open Go.ChangeShapes Go.WideShapes Go.ChangeAt Go.RowKit
attribute [local irreducible] arrV

theorem qty_any (kind : Int) (hk : 0 ≤ kind) : ∃ (qv : Value) (known : Bool), (∃ f g, qv = .agg #[f, g] ∧ ((f = .nilFunc ∧ g = .nilFunc) ∨ ∃ ft fg, f = .func (.func ft) #[] #[] ∧ g = .func (.func fg) #[] #[])) ∧
    (∀ w, Calls Try.prog 57 #[.int .u8 kind] w fun e w' => e = .returned (.tuple #[qv, .bool known]) ∧ Below w.heap.size w w') ∧ (3 < kind → known = false) := by
  by_cases h : 3 < kind
  · exact ⟨_, false, ⟨_, _, rfl, .inl ⟨rfl, rfl⟩⟩, fun w => qty_no kind (by omega) w, fun _ => rfl⟩
  · rcases (show kind = 0 ∨ kind = 1 ∨ kind = 2 ∨ kind = 3 by omega) with rfl | rfl | rfl | rfl
    · exact ⟨_, true, ⟨_, _, rfl, .inr ⟨_, _, rfl, rfl⟩⟩, qty0, fun h => absurd h (by omega)⟩
    · exact ⟨_, true, ⟨_, _, rfl, .inr ⟨_, _, rfl, rfl⟩⟩, qty1, fun h => absurd h (by omega)⟩
    · exact ⟨_, true, ⟨_, _, rfl, .inr ⟨_, _, rfl, rfl⟩⟩, qty2, fun h => absurd h (by omega)⟩
    · exact ⟨_, true, ⟨_, _, rfl, .inr ⟨_, _, rfl, rfl⟩⟩, qty3, fun h => absurd h (by omega)⟩

/-- What is read in the given numbers, and whether they are a truth. -/
theorem GoodC.read {b off cap : Nat} {d k o : Int} {ps : List Pt} {w : World} (h : GoodC b off cap d k o ps w) (st : Option Addr) (m capt : Nat) (t : List Int) (ht : t.length = m) (hi : 0 < m → ∃ b off, st = some ⟨b, off, none⟩ ∧ IntsIn w b off t) :
    ∃ (x : Rs) (E : Int) (tb : Bool), (∀ v tl W, CVp ps.length ps v W → TLp m t tl W → Calls Try.prog 19 #[.agg #[v], .agg #[.int .i64 d, .int .i64 k, .int .i64 o], tl] W fun e w' => e = .returned (.tuple #[.agg (rsV x), .int .i64 E]) ∧ Below W.heap.size W w') ∧
      (∀ W, Below w.heap.size w W → Calls Try.prog 24 #[.agg #[.slice (some ⟨b, off, none⟩) ps.length cap], .slice st m capt] W fun e w' => e = .returned (.bool tb) ∧ Below W.heap.size W w') ∧
      ((E = 2 ∧ tb = false) ∨ (E = 0 ∧ tb = true ∧ m = ps.length ∧ Good ps ⟨d, k, o⟩ t ∧ x = readR ps ⟨d, k, o⟩ (pad t))) := by
  have hltb := block_lt_of_cell (h.p 0 h.pos).1
  by_cases hmn : m = ps.length
  · subst hmn
    have hl := h.pos
    have htn := ht
    obtain ⟨bt, offt, rfl, hI⟩ := hi hl
    have hltt := block_lt_of_cell (hI 0 (by omega))
    have hit : ∀ W, Below w.heap.size w W → Calls Try.prog 24 #[.agg #[.slice (some ⟨b, off, none⟩) ps.length cap], .slice (some ⟨bt, offt, none⟩) ps.length capt] W fun e w' => e = .returned (.bool (fitsB ps t 0)) ∧ Below W.heap.size W w' :=
      fun W hb => IsTruth_eq b off cap bt offt capt ps t W h.len hl (h.p.below hb hltb) htn (hI.below hb hltt)
    cases hf : fitsB ps t 0 with
    | false =>
      rw [hf] at hit
      refine ⟨⟨0, 0, 0, 0, 0, 0, 0⟩, 2, false, ?_, hit, .inl ⟨rfl, rfl⟩⟩
      rintro v tl W ⟨s, c, rfl, h1⟩ ⟨s', c', rfl, h2⟩
      obtain ⟨B, rfl, hB⟩ := h1 hl
      obtain ⟨B', rfl, hB'⟩ := h2 hl
      refine Read_out _ _ _ c _ c' d k o W (fun W' hb => h.rc _ W' (CVp.grown rfl _ _ _ ⟨_, c, rfl, fun _ => ⟨B, rfl, hB⟩⟩ hb)) fun W' hb => ?_
      have := allows_any B 0 c B' 0 c' ps t W' h.len hl (hB.below hb (block_lt_of_cell (hB 0 hl).1)) htn (hB'.below hb (block_lt_of_cell (hB' 0 (by omega))))
      rw [hf] at this
      exact this
    | true =>
      rw [hf] at hit
      have G : Good ps ⟨d, k, o⟩ t := ⟨h.len, hl, h.g, h.r, htn, hf⟩
      refine ⟨readR ps ⟨d, k, o⟩ (pad t), 0, true, ?_, hit, .inr ⟨rfl, rfl, rfl, G, rfl⟩⟩
      rintro v tl W ⟨s, c, rfl, h1⟩ ⟨s', c', rfl, h2⟩
      obtain ⟨B, rfl, hB⟩ := h1 hl
      obtain ⟨B', rfl, hB'⟩ := h2 hl
      exact Read_ok B 0 c B' 0 c' ps ⟨d, k, o⟩ t W G hB hB'
  · refine ⟨⟨0, 0, 0, 0, 0, 0, 0⟩, 2, false, ?_, fun W _ => IsTruth_ne _ _ _ _ _ _ W hmn, .inl ⟨rfl, rfl⟩⟩
    rintro v tl W ⟨s, c, rfl, h1⟩ ⟨s', c', rfl, h2⟩
    obtain ⟨B, rfl, hB⟩ := h1 h.pos
    exact Read_out _ _ _ c _ c' d k o W (fun W' hb => h.rc _ W' (CVp.grown rfl _ _ _ ⟨_, c, rfl, fun _ => ⟨B, rfl, hB⟩⟩ hb)) fun W' hb => allows_ne _ _ _ _ _ _ W' hmn

/-- The truth that was shown. -/
def ShownV (ps : List Pt) (r : Rl) (kd due : Int) (v : Value) (W : World) : Prop := ∃ t B c, IsTr ps t ∧ (fndOf kd (readR ps r t)).1 ≠ -1 ∧ (fndOf kd (readR ps r t)).2 = due ∧ v = .slice (some ⟨B, 0, none⟩) ps.length c ∧ IntsIn W B 0 (t.take ps.length)
theorem ShownV.grown {ps : List Pt} {r : Rl} {kd due : Int} (h0 : 0 < ps.length) (hn : ps.length ≤ 20) : ∀ v w1 w2, ShownV ps r kd due v w1 → Below w1.heap.size w1 w2 → ShownV ps r kd due v w2 := fun v w1 w2 ⟨t, B, c, h1, h2, h3, h4, h5⟩ hb => by
  have hl : (t.take ps.length).length = ps.length := by simp [h1.1]; omega
  exact ⟨t, B, c, h1, h2, h3, h4, h5.below hb (block_lt_of_cell (h5 0 (by omega)))⟩

theorem GoodC.shown {b off cap : Nat} {d k o : Int} {ps : List Pt} {w : World} (h : GoodC b off cap d k o ps w) (kind due : Int) (hk : kind = 0 ∨ kind = 1 ∨ kind = 2 ∨ kind = 3) : ∀ v W, ShownV ps ⟨d, k, o⟩ kind due v W → Below w.heap.size w W → ShoS (some ⟨b, off, none⟩) ps.length cap d k o kind due w v W := by
  rintro v W ⟨t, B, c, h1, h2, h3, rfl, h5⟩ hb
  have hltb := block_lt_of_cell (h.p 0 h.pos).1
  have hl : (t.take ps.length).length = ps.length := by have := h.len; simp [h1.1]; omega
  have hltt := block_lt_of_cell (h5 0 (by have := h.pos; omega))
  have hf := fits_take h1
  have G : Good ps ⟨d, k, o⟩ (t.take ps.length) := ⟨h.len, h.pos, h.g, h.r, hl, hf⟩
  have hpad := pad_take h1 h.len
  refine ⟨readR ps ⟨d, k, o⟩ t, fun W' hb' => ?_, fun W' hb' => ?_, fun W => ?_, fun W => ?_⟩
  · have := IsTruth_eq b off cap B 0 c ps (t.take ps.length) W' h.len h.pos (h.p.below (grow_to hb hb') hltb) hl (h5.below hb' hltt)
    rw [hf] at this
    exact this
  · have := RefRead_any b off cap B 0 c ps ⟨d, k, o⟩ (t.take ps.length) W' G (h.p.below (grow_to hb hb') hltb) (h5.below hb' hltt)
    rw [hpad] at this
    exact this
  · have := RefHas_any kind (readR ps ⟨d, k, o⟩ t) W hk
    rw [(is_fndK kind hk h.sane h1).2 h2] at this
    exact this
  · have := RefNumber_any kind (readR ps ⟨d, k, o⟩ t) W hk
    rw [← num_fndK kind hk, h3] at this
    exact this

/-- The law returns true: a curve, a rule, a kind, an end, numbers and a number, as they lie in memory. -/
theorem shows_law (sa st : Option Addr) (n cap m capt : Nat) (d k o kind nb : Int) (high : Bool) (w : World) (hnl : n ≤ maxLen) (hml : m ≤ maxLen) (hp0 : 0 < n → ∃ b off ps, sa = some ⟨b, off, none⟩ ∧ ps.length = n ∧ PtsIn w b off ps)
    (ht0 : 0 < m → ∃ b off t, st = some ⟨b, off, none⟩ ∧ t.length = m ∧ IntsIn w b off t) (hkind : 0 ≤ kind ∧ kind < 256) :
    Calls Try.prog 6 #[.agg #[.slice sa n cap], .agg #[.int .i64 d, .int .i64 k, .int .i64 o], .int .u8 kind, .bool high, .slice st m capt, .int .i64 nb] w fun e w' => e = .returned (.bool true) ∧ Below w.heap.size w w' := by
  obtain ⟨q, hfew, hq⟩ := curve_cases sa n cap d k o w hnl hp0
  by_cases hm : 30 < m
  · exact shows_no sa st n cap m capt d k o kind nb high q w hml (.inr hm) hfew
  replace hm : m ≤ 30 := by omega
  cases q with
  | false => exact shows_no sa st n cap m capt d k o kind nb high false w hml (.inl rfl) hfew
  | true =>
    obtain ⟨t, ht, hi⟩ : ∃ t : List Int, t.length = m ∧ (0 < m → ∃ b off, st = some ⟨b, off, none⟩ ∧ IntsIn w b off t) := by
      rcases Nat.eq_zero_or_pos m with h | h
      · exact ⟨[], h.symm, fun h' => absurd h' (by omega)⟩
      · obtain ⟨b, off, t, e, h1, h2⟩ := ht0 h
        exact ⟨t, h1, fun _ => ⟨b, off, e, h2⟩⟩
    have hls := list_tl st m capt t w hm ht hi
    obtain ⟨qv, known, hqv, hqc, hqk⟩ := qty_any kind hkind.1
    rcases hq rfl with ⟨ps, E, hB⟩ | ⟨b, off, ps, rfl, rfl, hG⟩
    · refine shows_walk sa st n cap m capt d k o kind nb E E 0 0 high false (CVp n ps) (fun _ _ => False) (fun v _ => v = .slice none 0 0) (TLp m t) w hm (CVp.grown hB.len) (fun _ _ _ h _ => h) (TLp.grown ht) hfew hB.cv ?_ hls ?_ hB.fl (.inl ⟨hB.ne, rfl, rfl, fun v W h => h⟩)
      · rintro v W ⟨s, c, rfl, h⟩ _
        exact (Shows_bad s n c kind d k o E (.bool high) W hB.ne fun W' hb => spanOf_err s n c kind d k o E W' hB.ne fun W2 hb2 => hB.rc _ W2 (CVp.grown hB.len _ _ _ ⟨s, c, rfl, h⟩ (below_to hb hb2))).mono fun e w' ⟨he, hb⟩ => ⟨_, he, rfl, hb⟩
      · rintro v tl W ⟨s, c, rfl, h⟩ _
        exact ProveRead_err tl kind nb E qv known d k o s n c W (.inl hB.ne) hqv hqc ⟨0, 0, 0, 0, 0, 0, 0⟩ fun W' hb => Read_err s n c tl d k o E W' hB.ne fun W2 hb2 => hB.rc _ W2 (CVp.grown hB.len _ _ _ ⟨s, c, rfl, h⟩ (below_to hb hb2))
    · obtain ⟨x, E, tb, hrd, hit, hcase⟩ := hG.read st m capt t ht hi
      have hrdv : ∀ v tl W, CVp ps.length ps v W → TLp m t tl W → ∀ W', Below W.heap.size W W' → Calls Try.prog 19 #[.agg #[v], .agg #[.int .i64 d, .int .i64 k, .int .i64 o], tl] W' fun e w' => e = .returned (.tuple #[.agg (rsV x), .int .i64 E]) ∧ Below W'.heap.size W' w' :=
        fun v tl W h1 h2 W' hb => hrd v tl W' (CVp.grown rfl _ _ _ h1 hb) (TLp.grown ht _ _ _ h2 hb)
      by_cases hk : 3 < kind
      · refine shows_walk _ st _ cap m capt d k o kind nb 0 2 0 0 high false (CVp ps.length ps) (fun _ _ => False) (fun v _ => v = .slice none 0 0) (TLp m t) w hm (CVp.grown rfl) (fun _ _ _ h _ => h) (TLp.grown ht) hfew hG.cv ?_ hls ?_ hG.fl (.inr (.inl ⟨rfl, hk, rfl, rfl, fun v W h => h⟩))
        · rintro v W ⟨s, c, rfl, h⟩ _
          exact (Shows_bad s _ c kind d k o 2 (.bool high) W (by omega) fun W' hb => spanOf_kind s _ c kind d k o W' (by omega) fun W2 hb2 => hG.rc _ W2 (CVp.grown rfl _ _ _ ⟨s, c, rfl, h⟩ (below_to hb hb2))).mono fun e w' ⟨he, hb⟩ => ⟨_, he, rfl, hb⟩
        · rintro v tl W ⟨s, c, rfl, h⟩ htl
          exact ProveRead_err tl kind nb E qv known d k o s _ c W (.inr (hqk hk)) hqv hqc x (hrdv _ tl W ⟨s, c, rfl, h⟩ htl)
      · have hk4 : kind = 0 ∨ kind = 1 ∨ kind = 2 ∨ kind = 3 := by omega
        obtain ⟨ft, fg, hK, hT⟩ := kindP hG.sane kind hk4
        obtain ⟨is, hpr, htru⟩ : ∃ is : Bool, (∀ v tl W, CVp ps.length ps v W → TLp m t tl W → Calls Try.prog 35 #[.agg #[v], .agg #[.int .i64 d, .int .i64 k, .int .i64 o], tl, .int .u8 kind, .int .i64 nb] W fun e w' => e = .returned (.bool is) ∧ Below W.heap.size W w') ∧ TruS (some ⟨b, off, none⟩) st ps.length cap m capt d k o kind nb is w := by
          rcases hcase with ⟨rfl, rfl⟩ | ⟨rfl, rfl, rfl, hGd, rfl⟩
          · refine ⟨false, ?_, ⟨false, hit, fun _ => rfl, (fun h => by cases h)⟩⟩
            rintro v tl W ⟨s, c, rfl, h⟩ htl
            exact ProveRead_err tl kind nb 2 qv known d k o s _ c W (.inl (by omega)) hqv hqc x (hrdv _ tl W ⟨s, c, rfl, h⟩ htl)
          · have htr := good_pad hGd
            refine ⟨isOf kind (readR ps ⟨d, k, o⟩ (pad t)) && (numOf kind (readR ps ⟨d, k, o⟩ (pad t)) == nb), ?_, ⟨true, hit, (fun h => by cases h), fun _ => ⟨_, _, _, fun W hb => ?_, fun W => RefHas_any kind _ W hk4, fun W => RefNumber_any kind _ W hk4, rfl⟩⟩⟩
            · rintro v tl W ⟨s, c, rfl, h⟩ htl
              refine ProveRead_ok tl kind nb ft fg (fndOf kind) (readR ps ⟨d, k, o⟩ (pad t)) d k o s _ c _ _ W hK ?_ ?_ (hrdv _ tl W ⟨s, c, rfl, h⟩ htl)
              · have := is_fndK kind hk4 hG.sane htr
                rw [Bool.eq_iff_iff, bne_iff_ne]
                exact this.symm
              · rw [num_fndK kind hk4]
            · obtain ⟨bt, offt, rfl, hI⟩ := hi hG.pos
              exact RefRead_any b off cap bt offt capt ps ⟨d, k, o⟩ t W hGd (hG.p.below hb (block_lt_of_cell (hG.p 0 hG.pos).1)) (hI.below hb (block_lt_of_cell (hI 0 (by have := hG.pos; omega))))
        have hsh : ∀ v W, CVp ps.length ps v W → Below w.heap.size w W → Calls Try.prog 34 #[.agg #[v], .agg #[.int .i64 d, .int .i64 k, .int .i64 o], .int .u8 kind, .bool high] W fun e w' => ∃ v, e = .returned v ∧ ShowP ps ⟨d, k, o⟩ (fndOf kind) high W.heap.size w' (spanP ps ⟨d, k, o⟩ kind) v ∧ Below W.heap.size W w' := by
          rintro v W ⟨s, c, rfl, h⟩ _
          obtain ⟨B, rfl, hB⟩ := h hG.pos
          exact Shows_ok ft fg B 0 c kind high ps ⟨d, k, o⟩ _ (fndOf kind) W hG.sane hG.both (hT B 0 c) hK hB Clone_any
        cases hs : spanP ps ⟨d, k, o⟩ kind with
        | none =>
          rw [hs] at hsh
          refine shows_walk _ st _ cap m capt d k o kind nb 0 7 0 0 high is (CVp ps.length ps) (fun v W => ListsV 0 W v (allT ps)) (fun v _ => v = .slice none 0 0) (TLp m t) w hm (CVp.grown rfl) (fun _ _ _ h _ => h) (TLp.grown ht) hfew hG.cv (fun v W h hb => (hsh v W h hb).mono ?_) hls hpr hG.fl (.inr (.inr ⟨rfl, by omega, htru, .inl ⟨rfl, rfl, rfl, hG.ref hk4 0 0 false (by rw [hs]; rfl), fun v W h => h⟩⟩))
          rintro e w' ⟨v, he, hv, hb⟩
          exact ⟨_, by rw [he, show v = _ from hv], rfl, hb⟩
        | some y =>
          obtain ⟨lo, hi'⟩ := y
          rw [hs] at hsh
          refine shows_walk _ st _ cap m capt d k o kind nb 0 0 lo hi' high is (CVp ps.length ps) (fun v W => ListsV 0 W v (allT ps)) (ShownV ps ⟨d, k, o⟩ kind (if high then hi' else lo)) (TLp m t) w hm (CVp.grown rfl) (ShownV.grown hG.pos hG.len) (TLp.grown ht) hfew hG.cv (fun v W h hb => (hsh v W h hb).mono ?_) hls hpr hG.fl (.inr (.inr ⟨rfl, by omega, htru, .inr ⟨rfl, hG.ref hk4 lo hi' true (by rw [hs]; rfl), hG.shown kind _ hk4⟩⟩))
          rintro e w' ⟨v, he, ⟨t', B, c, h1, h2, h3, h4, h5, _⟩, hb⟩
          exact ⟨_, by rw [he, h4], ⟨t', B, c, h1, h2, h3, rfl, h5⟩, hb⟩

set_option maxRecDepth 100000 in
theorem shows_lifted (os : Os) (started : os.Started) (H : Type) (enc : TypeId × Value → H) :
    ReturnsInHanded {} Try.checked os 6 .any (Rows.curveShowsSpec.pre6 enc Try.prog Try.f6 Rows.curveShowsRow.domain false) (Rows.curveShowsSpec.post enc Try.prog Try.f6 false true false false) := by
  refine returnsInHanded_of_change (C := Try.checked) Try.own started (by kernel_rfl) Try.func6
    (ChangeSpec.witness6 (enc := enc) (C := Try.checked) false ⟨#[], #[.agg #[.slice none 0 0], .agg #[.int .i64 0, .int .i64 0, .int .i64 0], .int .u8 0, .bool false, .slice none 0 0, .int .i64 0], []⟩ 8 (by kernel_rfl) (by kernel_rfl) (by kernel_rfl) (by kernel_rfl)) ?_
  intro W base args ds gs before hval0 hW _ _
  have hval : ∀ (j : Nat) t v, Try.f6.params[j]? = some t → args[j]? = some v → Value.okWide Try.prog W .any base t v := hval0
  have hW' := hW
  obtain ⟨p, q, hA0, hV, rfl, hfz, hnd⟩ := hW
  have hA : DataW.TrodAll enc Try.prog W 0 (fun _ => true) true Try.f6.params.toList args.toList ds p := hA0
  rw [Try.params6] at hA hval
  obtain ⟨v0, vs0, d0, ds0, p0, q0, hargs, rfl, rfl, h0, r0⟩ := trodAll_cons hA
  obtain ⟨v1, vs1, d1, ds1, p1, q1, rfl, rfl, rfl, h1, r1⟩ := trodAll_cons r0
  obtain ⟨v2, vs2, d2, ds2, p2, q2, rfl, rfl, rfl, h2, r2⟩ := trodAll_cons r1
  obtain ⟨v3, vs3, d3, ds3, p3, q3, rfl, rfl, rfl, h3, r3⟩ := trodAll_cons r2
  obtain ⟨v4, vs4, d4, ds4, p4, q4, rfl, rfl, rfl, h4, r4⟩ := trodAll_cons r3
  obtain ⟨v5, vs5, d5, ds5, p5, q5, rfl, rfl, rfl, h5, r5⟩ := trodAll_cons r4
  obtain ⟨rfl, rfl, rfl⟩ := trodAll_nil r5
  obtain ⟨args⟩ := args
  simp only at hargs
  subst hargs
  obtain ⟨rfl, rfl⟩ := trodVars_none hV
  obtain ⟨sa, n, cap, rfl, hn, hp⟩ := open_curve (hval 0 24 v0 rfl rfl) h0
  obtain ⟨d, k, o, rfl⟩ := open_rule (hval 1 26 v1 rfl rfl) h1
  obtain ⟨kind, rfl, rfl, rfl, wa⟩ := open_int Try.underlying5 (hval 2 5 v2 rfl rfl) h2
  obtain ⟨high, rfl, rfl, rfl⟩ := open_bool Try.underlying4 (hval 3 4 v3 rfl rfl) h3
  obtain ⟨st, m, capt, rfl, hm, hi⟩ := open_truth (hval 4 27 v4 rfl rfl) h4
  obtain ⟨nb, rfl, rfl, rfl, wb⟩ := open_int Try.underlying3 (hval 5 3 v5 rfl rfl) h5
  have hk : 0 ≤ kind ∧ kind < 256 := by
    simp [Lit.wf, IntKind.min, IntKind.max, IntKind.signed, IntKind.bits] at wa
    omega
  clear hA0 hval0
  refine (shows_law sa st n cap m capt d k o kind nb high W hn hm hp hi hk).mono fun e W' ⟨he, hb⟩ => ?_
  subst he
  have hlt : ∀ x ∈ p0 ++ (p1 ++ p4), x.block < W.heap.size := fun x hx => by simpa using hW'.lt x (by simpa using hx)
  have e1 : Rows.curveShowsSpec.fn H ([d0, d1, .lit (.int .u8 kind), .lit (.bool high), d4, .lit (.int .i64 nb)] ++ []) = { results := [.lit (.bool true)], args := [d0, d1, .lit (.int .u8 kind), .lit (.bool high), d4, .lit (.int .i64 nb)] } := rfl
  refine ⟨_, rfl, _, _, _, [], p0 ++ (p1 ++ ([] ++ ([] ++ (p4 ++ ([] ++ []))))), [], hW', ?_, ?_, ?_, hb.frame _, fun h => by cases h⟩
  · rw [e1]
    exact trodAll_mk1 (shut_bool Try.underlying4 true)
  · rw [e1]
    exact trodAll_cons_mk (Below.trod Try.laidOut (by kernel_rfl) (of_decide_eq_true (by kernel_rfl)) h0 hb (fun x hx => hlt x (by simp [hx])))
      (trodAll_cons_mk (Below.trod Try.laidOut (by kernel_rfl) (of_decide_eq_true (by kernel_rfl)) h1 hb (fun x hx => hlt x (by simp [hx])))
      (trodAll_cons_mk (shut_int Try.underlying5 wa) (trodAll_cons_mk (shut_bool Try.underlying4 high)
      (trodAll_cons_mk (Below.trod Try.laidOut (by kernel_rfl) (of_decide_eq_true (by kernel_rfl)) h4 hb (fun x hx => hlt x (by simp [hx])))
      (trodAll_cons_mk (shut_int Try.underlying3 wb) trodAll_mk0)))))
  · rfl

theorem shows_holds : Rows.CurveShowsSaid :=
  OpenClaim.holds_of_wide 6 Try.f6 rfl rfl rfl rfl rfl rfl rfl ⟨rfl, rfl, rfl, rfl, rfl⟩ rfl rfl rfl rfl rfl (by kernel_rfl) Try.func6 (by kernel_rfl)
    (of_decide_eq_true (by kernel_rfl)) (by unfold Func.isWrapper; rw [if_neg (of_decide_eq_false (by kernel_rfl))]; exact ⟨rfl, rfl⟩)
    (fun os started H enc _ => shows_lifted os started H enc)
#print axioms shows_holds
end Go.Proofs.Ytfjlnejeffkdoaa
