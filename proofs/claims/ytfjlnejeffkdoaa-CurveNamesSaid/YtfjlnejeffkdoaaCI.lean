/- The law CurveSpans, walked; what is called given as contracts. No condition but these. The statement CurveSpans holds: for every curve, rule and kind the law returns true and leaves what it was given as it was. No condition. -/
import Derived.Test.YtfjlnejeffkdoaaAJ
import Derived.Test.YtfjlnejeffkdoaaAK
import Derived.Test.YtfjlnejeffkdoaaCH
import Derived.Test.YtfjlnejeffkdoaaBG
namespace Go.Proofs.Ytfjlnejeffkdoaa
open Go.RowKit Go.Shelf
attribute [local irreducible] arrV wpQuiet

theorem s51f : Try.prog.underlying 51 = some (.struct (Try.prog.fieldsOf 51)) := by kernel_rfl
theorem st51 : Try.prog.stoodInHeld 51 = false := by kernel_rfl
theorem fields51 : (Try.prog.fieldsOf 51).toList.all (fun f => f.name != "_" && f.type == 3 && decide (f.offset < 2)) = true := by kernel_rfl
theorem eq_fieldsN (cs : Array Value) (n : Nat) (hc : ∀ j, j < n → ∃ z : Int, cs[j]? = some (.int .i64 z)) (w : World) : ∀ fs : List Field, fs.all (fun f => f.name != "_" && f.type == 3 && decide (f.offset < n)) = true → (Op.eqFields 9999 cs cs fs).run Try.prog w = .ok true w
  | [], _ => by simp [Op.eqFields, Sem.run_pure]
  | f :: fs, h => by
    simp only [List.all_cons, Bool.and_eq_true, bne_iff_ne, beq_iff_eq, decide_eq_true_eq] at h
    obtain ⟨⟨⟨h1, h2⟩, h3⟩, h4⟩ := h
    obtain ⟨z, hz⟩ := hc f.offset h3
    have hp : (part 3 cs f.offset).run Try.prog w = .ok (.int .i64 z) w := run_part_plain w pk3 hz
    have e : (Op.equalIn 9999 3 (.int .i64 z) (.int .i64 z)).run Try.prog w = .ok (z == z) w := run_equalIn_int w 9998 3 .i64 .i64 z z Try.underlying3
    have ih := eq_fieldsN cs n hc w fs (by simpa using h4)
    simp [Op.eqFields, Sem.run_bind, Sem.run_ite, h1, h2, hp, e, ih, Result.andThen_ok, Sem.run_pure]
theorem eqr51 (lo hi : Int) (w : World) : (binOp .eql 51 (.agg #[.int .i64 lo, .int .i64 hi]) (.agg #[.int .i64 lo, .int .i64 hi])).run Try.prog w = .ok (.bool true) w := by
  have h : (Op.equal 51 (.agg #[.int .i64 lo, .int .i64 hi]) (.agg #[.int .i64 lo, .int .i64 hi])).run Try.prog w = .ok true w := by
    show (Op.equalIn (9999 + 1) 51 _ _).run Try.prog w = _
    rw [run_equalIn_struct w 9999 51 _ _ s51f st51]
    exact eq_fieldsN _ 2 (fun j hj => by
      match j, hj with
      | 0, _ => exact ⟨_, rfl⟩
      | 1, _ => exact ⟨_, rfl⟩) w _ fields51
  simp [binOp, Sem.run_bind, h, Result.andThen_ok, Sem.run_pure]

set_option maxRecDepth 100000 in
set_option maxHeartbeats 400000 in
theorem spans_no (sa : Option Addr) (n cap : Nat) (d k o kind : Int) (w : World)
    (HF : ∀ W, Below w.heap.size w W → Calls Try.prog 27 #[.agg #[.slice sa n cap]] W fun e w' => e = .returned (.bool false) ∧ Below W.heap.size W w') :
    Calls Try.prog 4 #[.agg #[.slice sa n cap], .agg #[.int .i64 d, .int .i64 k, .int .i64 o], .int .u8 kind] w fun e w' => e = .returned (.bool true) ∧ Below w.heap.size w w' := by
  have HRR := Lib.hid HF
  have hb2 := below2 w (.cells #[.slice sa n cap] 24) (.cells #[.int .i64 d, .int .i64 k, .int .i64 o] 26)
  have HA := Lib.hid awake_any
  clear HF
  go_enter Try.func4, Try.ntmps4
  go_wp2_with fail
  refine (HRR.out _ hb2).mono ?_
  rintro e w1 ⟨rfl, hb1⟩
  have hbw := below_to hb2 hb1
  clear hb1 hb2
  go_wp2_with fail
  refine (HA.out _).mono ?_
  rintro e w2 ⟨rfl, hb3⟩
  have hbw2 := below_to hbw hb3
  clear hb3 hbw
  go_wp2
  go_ret
  exact ⟨rfl, hbw2⟩

/-- What the reference's two calls answer. -/
structure RefS (sa : Option Addr) (n cap : Nat) (d k o kind lo hi : Int) (is : Bool) (LV : Value → World → Prop) (w : World) : Prop where
  g : ∀ v w1 w2, LV v w1 → Below w1.heap.size w1 w2 → LV v w2
  t : ∀ W, Below w.heap.size w W → Calls Try.prog 30 #[.agg #[.slice sa n cap], .slice none 0 0] W fun e w' => ∃ v, e = .returned v ∧ LV v w' ∧ Below W.heap.size W w'
  s : ∀ v W, LV v W → Below w.heap.size w W → Calls Try.prog 29 #[.agg #[.slice sa n cap], .agg #[.int .i64 d, .int .i64 k, .int .i64 o], .int .u8 kind, v] W fun e w' => e = .returned (.tuple #[.agg #[.int .i64 lo, .int .i64 hi], .bool is]) ∧ Below W.heap.size W w'

set_option maxRecDepth 100000 in
set_option maxHeartbeats 4000000 in
theorem spans_walk (sa : Option Addr) (n cap : Nat) (d k o kind E EE lo hi : Int) (CV LV : Value → World → Prop) (w : World)
    (HCVg : ∀ v w1 w2, CV v w1 → Below w1.heap.size w1 w2 → CV v w2)
    (HFEW : ∀ W, Below w.heap.size w W → Calls Try.prog 27 #[.agg #[.slice sa n cap]] W fun e w' => e = .returned (.bool true) ∧ Below W.heap.size W w')
    (HCV : ∀ W, Below w.heap.size w W → Calls Try.prog 18 #[.agg #[.slice sa n cap]] W fun e w' => ∃ v, e = .returned (.agg #[v]) ∧ CV v w' ∧ Below W.heap.size W w')
    (HSP : ∀ v W, CV v W → Calls Try.prog 28 #[.agg #[v], .agg #[.int .i64 d, .int .i64 k, .int .i64 o], .int .u8 kind] W fun e w' => e = .returned (.tuple #[.agg #[.int .i64 lo, .int .i64 hi], .int .i64 EE]) ∧ Below W.heap.size W w')
    (HFL : ∀ W, Below w.heap.size w W → Calls Try.prog 22 #[.agg #[.slice sa n cap], .agg #[.int .i64 d, .int .i64 k, .int .i64 o]] W fun e w' => e = .returned (.int .i64 E) ∧ Below W.heap.size W w')
    (HX : (E ≠ 0 ∧ EE = E ∧ lo = 0 ∧ hi = 0) ∨ (E = 0 ∧ 3 < kind ∧ EE = 2 ∧ lo = 0 ∧ hi = 0) ∨ (E = 0 ∧ kind ≤ 3 ∧ EE = 7 ∧ lo = 0 ∧ hi = 0 ∧ RefS sa n cap d k o kind 0 0 false LV w) ∨ (E = 0 ∧ kind ≤ 3 ∧ EE = 0 ∧ RefS sa n cap d k o kind lo hi true LV w)) :
    Calls Try.prog 4 #[.agg #[.slice sa n cap], .agg #[.int .i64 d, .int .i64 k, .int .i64 o], .int .u8 kind] w fun e w' => e = .returned (.bool true) ∧ Below w.heap.size w w' := by
  have hb2 := below2 w (.cells #[.slice sa n cap] 24) (.cells #[.int .i64 d, .int .i64 k, .int .i64 o] 26)
  obtain ⟨hx1, hx2⟩ := box2 w (.cells #[.slice sa n cap] 24) (.cells #[.int .i64 d, .int .i64 k, .int .i64 o] 26)
  have HA := Lib.hid awake_any
  have H1 := Lib.hid HCVg
  have H2 := Lib.hid HFEW
  have H3 := Lib.hid HCV
  have H4 := Lib.hid HSP
  have H5 := Lib.hid HFL
  have H10 := Lib.hid HX
  clear HCVg HFEW HCV HSP HFL HX
  go_enter Try.func4, Try.ntmps4
  go_wp2_with fail
  generalize World.alloc (World.alloc w _) _ = W1 at *
  refine (H2.out _ hb2).mono ?_
  rintro e w1 ⟨rfl, hb1⟩
  have HBW := Lib.hid (below_to hb2 hb1)
  have HC : Hid (∀ w', Below w1.heap.size w1 w' → w'.cell? ⟨w.heap.size, 0, none⟩ = some (.slice sa n cap) ∧ w'.cell? ⟨w.heap.size + 1, 0, none⟩ = some (.int .i64 d) ∧ w'.cell? ⟨w.heap.size + 1, 1, none⟩ = some (.int .i64 k) ∧ w'.cell? ⟨w.heap.size + 1, 2, none⟩ = some (.int .i64 o)) := Lib.hid fun w' h => by
    have z1 := (hb1.block _ (lt_of_block hx1)).trans hx1
    have z2 := (hb1.block _ (lt_of_block hx2)).trans hx2
    have y1 := (h.block _ (lt_of_block z1)).trans z1
    have y2 := (h.block _ (lt_of_block z2)).trans z2
    exact ⟨cell_of_row w' w.heap.size 0 _ _ _ y1, cell_of_row w' (w.heap.size + 1) 0 _ _ _ y2, cell_of_row w' (w.heap.size + 1) 1 _ _ _ y2, cell_of_row w' (w.heap.size + 1) 2 _ _ _ y2⟩
  clear hb1 hb2 hx1 hx2
  clear W1
  go_wp2
  refine wp_region_noPanic ?_
  refine wp_region_float (by kernel_rfl) (fun _ _ _ _ _ h => h) 9 _ rfl 7 rfl rfl (.cells #[.int .i64 0, .int .i64 0] 51) (fun a w => by kernel_rfl)
    [(false, 0), (false, 2), (false, 4), (true, 1), (true, 3), (true, 5), (false, 6), (false, 7), (false, 8)] [10, 11] (by kernel_rfl) ?_
  iterate 3
    (refine Walk.takes rfl rfl ?_; apply Exists.intro; refine ⟨fun w' hS => ?_, ?_⟩; (obtain ⟨d0, d1, d2, d3⟩ := HC.out w' hS; clear hS; go_simp; with_reducible rfl); simp only [List.getElem_toArray, List.getElem_cons_succ, List.getElem_cons_zero, Act.put, List.setIfInBounds_toArray, List.set_cons_zero, List.set_cons_succ])
  refine Walk.calls rfl rfl ?_; apply Exists.intro; apply Exists.intro; refine ⟨fun w' hS => ?_, fun w' hba => ?_⟩; (clear hS; go_simp; exact ⟨rfl, rfl⟩)
  have hu0 := grow_to HBW.out (grow_to (below_drawn _) hba)
  refine (H3.out w' hu0).mono ?_
  rintro e u1 ⟨v2, rfl, hv2, hbb⟩
  refine ⟨_, rfl, hbb, ?_⟩
  simp only [List.getElem_toArray, List.getElem_cons_succ, List.getElem_cons_zero, Act.put, List.setIfInBounds_toArray, List.set_cons_zero, List.set_cons_succ]
  clear hba hbb hu0
  refine Walk.calls rfl rfl ?_; apply Exists.intro; apply Exists.intro; refine ⟨fun w' hS => ?_, fun w' hba => ?_⟩; (clear hS; go_simp; exact ⟨rfl, rfl⟩)
  refine (Rule_any d k o w').mono ?_
  rintro e u2 ⟨rfl, hbb⟩
  refine ⟨_, rfl, hbb, ?_⟩
  simp only [List.getElem_toArray, List.getElem_cons_succ, List.getElem_cons_zero, Act.put, List.setIfInBounds_toArray, List.set_cons_zero, List.set_cons_succ]
  replace hv2 := H1.out _ _ _ (H1.out _ _ _ hv2 hba) hbb
  clear hba hbb
  refine Walk.calls rfl rfl ?_; apply Exists.intro; apply Exists.intro; refine ⟨fun w' hS => ?_, fun w' hba => ?_⟩; (clear hS; go_simp; exact ⟨rfl, rfl⟩)
  refine (H4.out v2 w' (H1.out _ _ _ hv2 hba)).mono ?_
  rintro e u3 ⟨rfl, hbb⟩
  refine ⟨_, rfl, hbb, ?_⟩
  simp only [List.getElem_toArray, List.getElem_cons_succ, List.getElem_cons_zero, Act.put, List.setIfInBounds_toArray, List.set_cons_zero, List.set_cons_succ]
  clear hba hbb hv2
  iterate 3
    (refine Walk.takes rfl rfl ?_; apply Exists.intro; refine ⟨fun w' hS => ?_, ?_⟩; (clear hS; go_simp; with_reducible rfl); simp only [List.getElem_toArray, List.getElem_cons_succ, List.getElem_cons_zero, Act.put, List.setIfInBounds_toArray, List.set_cons_zero, List.set_cons_succ])
  refine Walk.fin ?_
  intro v7 hb7 b8 hbb8 hz8 hw7
  simp only [List.getElem_toArray, List.getElem_cons_succ, List.getElem_cons_zero, Act.put, List.setIfInBounds_toArray, List.set_cons_zero, List.set_cons_succ]
  have s51 : (Try.prog.info? 51).map (·.size) = some 2 := by kernel_rfl
  have n1 := set_whole b8 51 v7 #[.int .i64 0, .int .i64 0] #[.int .i64 lo, .int .i64 hi] rfl hz8
  have n3 := below_cells (b := b8) hbb8 [.int .i64 lo, .int .i64 hi] 0 v7 hw7
  refine Tail.skip rfl rfl (exec_store_row 51 (.tmp 7) (.tmp 23) rfl b8 0 #[.int .i64 lo, .int .i64 hi] rfl rfl (there_block hz8 (Nat.le_refl _)) s51 (by simp [Value.oneCell'])) n3 ?_
  simp only [List.getElem_toArray, List.getElem_cons_succ, List.getElem_cons_zero, Act.put, List.setIfInBounds_toArray, List.set_cons_zero, List.set_cons_succ]
  generalize v7.setCells b8 0 _ = w2 at *
  iterate 1
    (refine Tail.value rfl rfl (by go_simp; with_reducible rfl) ?_; simp only [List.getElem_toArray, List.getElem_cons_succ, List.getElem_cons_zero, Act.put, List.setIfInBounds_toArray, List.set_cons_zero, List.set_cons_succ])
  refine Tail.done (NoPanic.normal ?_)
  clear hz8 hw7 hb7 s51 hbb8
  clear v7 u3
  have HB := Lib.hid n3
  have N8 := Lib.hid n1
  clear n1 n3 H3 H4 H1 H2
  obtain ⟨d0, d1, d2, d3⟩ := HC.out w2 HB.out
  go_wp2_with fail
  refine (H5.out w2 (grow_to HBW.out HB.out)).mono ?_
  rintro e w3 ⟨rfl, hb3⟩
  replace HB := Lib.hid (grow_to HB.out hb3)
  replace N8 := Lib.hid ((hb3.block _ (lt_of_block N8.out)).trans N8.out)
  clear hb3 d0 d1 d2 d3 H5
  clear w2
  have s0 := cell_of_row w3 b8 0 _ _ _ N8.out
  have s1 := cell_of_row w3 b8 1 _ _ _ N8.out
  simp at s0 s1
  have hl8 := lt_of_block N8.out
  have HBG := Lib.hid (grow_to (grow_to HBW.out HB.out) (grow_alloc w3 (.cells #[.int .i64 0, .int .i64 0] 54)))
  rcases H10.out with ⟨hE, rfl, rfl, rfl⟩ | ⟨rfl, hk, rfl, rfl, rfl⟩ | ⟨rfl, hk, rfl, rfl, rfl, HR⟩ | ⟨rfl, hk, rfl, HR⟩
  · have h51 : ∀ w, (binOp .eql 51 (.agg #[.int .i64 0, .int .i64 0]) (.agg #[.int .i64 0, .int .i64 0])).run Try.prog w = .ok (.bool true) w := eqr51 0 0
    have hne : (EE == 0) = false := by rw [beq_eq_false_iff_ne]; exact hE
    have hne' : (EE != 0) = true := by rw [bne_iff_ne]; exact hE
    go_wp2_with fail
    refine (HA.out _).mono ?_
    rintro e w4 ⟨rfl, hb4⟩
    have hbf := grow_to HBG.out hb4
    clear hb4
    go_wp2
    go_ret
    exact ⟨rfl, hbf⟩
  · have h51 : ∀ w, (binOp .eql 51 (.agg #[.int .i64 0, .int .i64 0]) (.agg #[.int .i64 0, .int .i64 0])).run Try.prog w = .ok (.bool true) w := eqr51 0 0
    have hk1 : decide (kind > 3) = true := decide_eq_true hk
    go_wp2_with fail
    refine (HA.out _).mono ?_
    rintro e w4 ⟨rfl, hb4⟩
    have hbf := grow_to HBG.out hb4
    clear hb4
    go_wp2
    go_ret
    exact ⟨rfl, hbf⟩
  · have hx := hk
    have hk1 : decide (kind > 3) = false := decide_eq_false (by omega)
    have HRS := Lib.hid HR
    clear HR s0 s1
    have HT3 := Lib.hid (heap_alloc_new w3 (.cells #[.int .i64 0, .int .i64 0] 54))
    have HB3 := Lib.hid (grow_alloc w3 (.cells #[.int .i64 0, .int .i64 0] 54))
    go_wp2
    generalize w3.alloc (.cells #[.int .i64 0, .int .i64 0] 54) = w4 at *
    refine wp_region_noPanic ?_
    refine wp_region_chain (fun w' => Below w3.heap.size w3 w') (fun _ _ h hb => grow_to h hb) (grow_to HB3.out (below_drawn _)) (by kernel_rfl) (fun _ _ _ _ _ h => h)
      [(false, 0), (false, 1), (false, 2), (false, 3), (true, 4), (true, 5), (false, 6), (false, 7), (false, 8)] [9, 10] (by kernel_rfl) ?_
    iterate 4
      (refine Walk.takes rfl rfl ?_; apply Exists.intro; refine ⟨fun w' hS => ?_, ?_⟩; (obtain ⟨d0, d1, d2, d3⟩ := HC.out w' (grow_to HB.out hS); clear hS; go_simp; with_reducible rfl); simp only [List.getElem_toArray, List.getElem_cons_succ, List.getElem_cons_zero, Act.put, List.setIfInBounds_toArray, List.set_cons_zero, List.set_cons_succ])
    refine Walk.calls rfl rfl ?_; apply Exists.intro; apply Exists.intro; refine ⟨fun w' hS => ?_, fun w' hba => ?_⟩; (clear hS; go_simp; exact ⟨rfl, rfl⟩)
    have hu0 := grow_to HB3.out (grow_to (below_drawn _) hba)
    have ht0 := ((grow_to (below_drawn _) hba).block _ (lt_of_block HT3.out)).trans HT3.out
    refine (HRS.out.t w' (grow_to HBW.out (grow_to HB.out hu0))).mono ?_
    rintro e u1 ⟨lv, rfl, hlv, hbb⟩
    refine ⟨_, rfl, hbb, ?_⟩
    simp only [List.getElem_toArray, List.getElem_cons_succ, List.getElem_cons_zero, Act.put, List.setIfInBounds_toArray, List.set_cons_zero, List.set_cons_succ]
    have hu1 := grow_to hu0 hbb
    have ht1 := (hbb.block _ (lt_of_block ht0)).trans ht0
    clear hba hbb hu0 ht0
    refine Walk.calls rfl rfl ?_; apply Exists.intro; apply Exists.intro; refine ⟨fun w' hS => ?_, fun w' hba => ?_⟩; (clear hS; go_simp; exact ⟨rfl, rfl⟩)
    have hu2 := grow_to hu1 hba
    have ht2 := (hba.block _ (lt_of_block ht1)).trans ht1
    refine (HRS.out.s lv w' (HRS.out.g _ _ _ hlv hba) (grow_to HBW.out (grow_to HB.out hu2))).mono ?_
    rintro e u2 ⟨rfl, hbb⟩
    refine ⟨_, rfl, hbb, ?_⟩
    simp only [List.getElem_toArray, List.getElem_cons_succ, List.getElem_cons_zero, Act.put, List.setIfInBounds_toArray, List.set_cons_zero, List.set_cons_succ]
    have hu3 := grow_to hu2 hbb
    have ht3 := (hbb.block _ (lt_of_block ht2)).trans ht2
    clear hba hbb hlv hu1 hu2 ht1 ht2
    iterate 3
      (refine Walk.takes rfl rfl ?_; apply Exists.intro; refine ⟨fun w' hS => ?_, ?_⟩; (clear hS; go_simp; with_reducible rfl); simp only [List.getElem_toArray, List.getElem_cons_succ, List.getElem_cons_zero, Act.put, List.setIfInBounds_toArray, List.set_cons_zero, List.set_cons_succ])
    refine Walk.fin ?_
    intro v7 hb7 hw7
    have hz8 := (hb7.block _ (lt_of_block ht3)).trans ht3
    have s54 : (Try.prog.info? 54).map (·.size) = some 2 := by kernel_rfl
    have n1 := set_whole w3.heap.size 54 v7 #[.int .i64 0, .int .i64 0] #[.int .i64 0, .int .i64 0] rfl hz8
    have n3 := below_cells (b := w3.heap.size) (Nat.le_refl _) [.int .i64 0, .int .i64 0] 0 v7 hw7
    refine Tail.skip rfl rfl (exec_store_row 54 (.tmp 10) (.tmp 43) rfl w3.heap.size 0 #[.int .i64 0, .int .i64 0] rfl rfl (there_block hz8 (Nat.le_refl _)) s54 (by simp [Value.oneCell'])) n3 ?_
    simp only [List.getElem_toArray, List.getElem_cons_succ, List.getElem_cons_zero, Act.put, List.setIfInBounds_toArray, List.set_cons_zero, List.set_cons_succ]
    generalize v7.setCells w3.heap.size 0 _ = w5 at *
    iterate 1
      (refine Tail.value rfl rfl (by go_simp; with_reducible rfl) ?_; simp only [List.getElem_toArray, List.getElem_cons_succ, List.getElem_cons_zero, Act.put, List.setIfInBounds_toArray, List.set_cons_zero, List.set_cons_succ])
    refine Tail.done (NoPanic.normal ?_)
    have N8b := (n3.block _ hl8).trans N8.out
    have HBF := Lib.hid (grow_to (grow_to HBW.out HB.out) n3)
    have s0 := cell_of_row w5 b8 0 _ _ _ N8b
    have s1 := cell_of_row w5 b8 1 _ _ _ N8b
    have t0 := cell_of_row w5 w3.heap.size 0 _ _ _ n1
    have t1 := cell_of_row w5 w3.heap.size 1 _ _ _ n1
    (try simp at s0); (try simp at s1); (try simp at t0); (try simp at t1)
    have h51 : ∀ w, (binOp .eql 51 (.agg #[.int .i64 0, .int .i64 0]) (.agg #[.int .i64 0, .int .i64 0])).run Try.prog w = .ok (.bool true) w := eqr51 0 0
    clear hz8 hw7 hb7 s54 n1 n3 N8b ht3 hu3 HRS
    clear v7 u2
    go_wp2_with fail
    refine (HA.out _).mono ?_
    rintro e w6 ⟨rfl, hb6⟩
    have hbf := grow_to HBF.out hb6
    clear hb6
    go_wp2
    go_ret
    exact ⟨rfl, hbf⟩
  · have hx := hk
    have hk1 : decide (kind > 3) = false := decide_eq_false (by omega)
    have HRS := Lib.hid HR
    clear HR s0 s1
    have HT3 := Lib.hid (heap_alloc_new w3 (.cells #[.int .i64 0, .int .i64 0] 54))
    have HB3 := Lib.hid (grow_alloc w3 (.cells #[.int .i64 0, .int .i64 0] 54))
    go_wp2
    generalize w3.alloc (.cells #[.int .i64 0, .int .i64 0] 54) = w4 at *
    refine wp_region_noPanic ?_
    refine wp_region_chain (fun w' => Below w3.heap.size w3 w') (fun _ _ h hb => grow_to h hb) (grow_to HB3.out (below_drawn _)) (by kernel_rfl) (fun _ _ _ _ _ h => h)
      [(false, 0), (false, 1), (false, 2), (false, 3), (true, 4), (true, 5), (false, 6), (false, 7), (false, 8)] [9, 10] (by kernel_rfl) ?_
    iterate 4
      (refine Walk.takes rfl rfl ?_; apply Exists.intro; refine ⟨fun w' hS => ?_, ?_⟩; (obtain ⟨d0, d1, d2, d3⟩ := HC.out w' (grow_to HB.out hS); clear hS; go_simp; with_reducible rfl); simp only [List.getElem_toArray, List.getElem_cons_succ, List.getElem_cons_zero, Act.put, List.setIfInBounds_toArray, List.set_cons_zero, List.set_cons_succ])
    refine Walk.calls rfl rfl ?_; apply Exists.intro; apply Exists.intro; refine ⟨fun w' hS => ?_, fun w' hba => ?_⟩; (clear hS; go_simp; exact ⟨rfl, rfl⟩)
    have hu0 := grow_to HB3.out (grow_to (below_drawn _) hba)
    have ht0 := ((grow_to (below_drawn _) hba).block _ (lt_of_block HT3.out)).trans HT3.out
    refine (HRS.out.t w' (grow_to HBW.out (grow_to HB.out hu0))).mono ?_
    rintro e u1 ⟨lv, rfl, hlv, hbb⟩
    refine ⟨_, rfl, hbb, ?_⟩
    simp only [List.getElem_toArray, List.getElem_cons_succ, List.getElem_cons_zero, Act.put, List.setIfInBounds_toArray, List.set_cons_zero, List.set_cons_succ]
    have hu1 := grow_to hu0 hbb
    have ht1 := (hbb.block _ (lt_of_block ht0)).trans ht0
    clear hba hbb hu0 ht0
    refine Walk.calls rfl rfl ?_; apply Exists.intro; apply Exists.intro; refine ⟨fun w' hS => ?_, fun w' hba => ?_⟩; (clear hS; go_simp; exact ⟨rfl, rfl⟩)
    have hu2 := grow_to hu1 hba
    have ht2 := (hba.block _ (lt_of_block ht1)).trans ht1
    refine (HRS.out.s lv w' (HRS.out.g _ _ _ hlv hba) (grow_to HBW.out (grow_to HB.out hu2))).mono ?_
    rintro e u2 ⟨rfl, hbb⟩
    refine ⟨_, rfl, hbb, ?_⟩
    simp only [List.getElem_toArray, List.getElem_cons_succ, List.getElem_cons_zero, Act.put, List.setIfInBounds_toArray, List.set_cons_zero, List.set_cons_succ]
    have hu3 := grow_to hu2 hbb
    have ht3 := (hbb.block _ (lt_of_block ht2)).trans ht2
    clear hba hbb hlv hu1 hu2 ht1 ht2
    iterate 3
      (refine Walk.takes rfl rfl ?_; apply Exists.intro; refine ⟨fun w' hS => ?_, ?_⟩; (clear hS; go_simp; with_reducible rfl); simp only [List.getElem_toArray, List.getElem_cons_succ, List.getElem_cons_zero, Act.put, List.setIfInBounds_toArray, List.set_cons_zero, List.set_cons_succ])
    refine Walk.fin ?_
    intro v7 hb7 hw7
    have hz8 := (hb7.block _ (lt_of_block ht3)).trans ht3
    have s54 : (Try.prog.info? 54).map (·.size) = some 2 := by kernel_rfl
    have n1 := set_whole w3.heap.size 54 v7 #[.int .i64 0, .int .i64 0] #[.int .i64 lo, .int .i64 hi] rfl hz8
    have n3 := below_cells (b := w3.heap.size) (Nat.le_refl _) [.int .i64 lo, .int .i64 hi] 0 v7 hw7
    refine Tail.skip rfl rfl (exec_store_row 54 (.tmp 10) (.tmp 43) rfl w3.heap.size 0 #[.int .i64 lo, .int .i64 hi] rfl rfl (there_block hz8 (Nat.le_refl _)) s54 (by simp [Value.oneCell'])) n3 ?_
    simp only [List.getElem_toArray, List.getElem_cons_succ, List.getElem_cons_zero, Act.put, List.setIfInBounds_toArray, List.set_cons_zero, List.set_cons_succ]
    generalize v7.setCells w3.heap.size 0 _ = w5 at *
    iterate 1
      (refine Tail.value rfl rfl (by go_simp; with_reducible rfl) ?_; simp only [List.getElem_toArray, List.getElem_cons_succ, List.getElem_cons_zero, Act.put, List.setIfInBounds_toArray, List.set_cons_zero, List.set_cons_succ])
    refine Tail.done (NoPanic.normal ?_)
    have N8b := (n3.block _ hl8).trans N8.out
    have HBF := Lib.hid (grow_to (grow_to HBW.out HB.out) n3)
    have s0 := cell_of_row w5 b8 0 _ _ _ N8b
    have s1 := cell_of_row w5 b8 1 _ _ _ N8b
    have t0 := cell_of_row w5 w3.heap.size 0 _ _ _ n1
    have t1 := cell_of_row w5 w3.heap.size 1 _ _ _ n1
    (try simp at s0); (try simp at s1); (try simp at t0); (try simp at t1)
    have h51 : ∀ w, (binOp .eql 51 (.agg #[.int .i64 lo, .int .i64 hi]) (.agg #[.int .i64 lo, .int .i64 hi])).run Try.prog w = .ok (.bool true) w := eqr51 lo hi
    clear hz8 hw7 hb7 s54 n1 n3 N8b ht3 hu3 HRS
    clear v7 u2
    go_wp2_with fail
    refine (HA.out _).mono ?_
    rintro e w6 ⟨rfl, hb6⟩
    have hbf := grow_to HBF.out hb6
    clear hb6
    go_wp2
    go_ret
    exact ⟨rfl, hbf⟩
end Go.Proofs.Ytfjlnejeffkdoaa

namespace Go.Proofs.Ytfjlnejeffkdoaa
open Go.ChangeShapes Go.WideShapes Go.ChangeAt Go.RowKit
attribute [local irreducible] arrV

/-- What the reference answers for a valid curve. -/
theorem GoodC.ref {b off cap : Nat} {d k o kind : Int} {ps : List Pt} {w : World} (h : GoodC b off cap d k o ps w) (hk : kind = 0 ∨ kind = 1 ∨ kind = 2 ∨ kind = 3) (lo hi : Int) (is : Bool) (e : refSpanR (spanP ps ⟨d, k, o⟩ kind) = .tuple #[.agg #[.int .i64 lo, .int .i64 hi], .bool is]) :
    RefS (some ⟨b, off, none⟩) ps.length cap d k o kind lo hi is (fun v W => ListsV 0 W v (allT ps)) w where
  g := fun v w1 w2 h hb => h.below hb
  t := fun W hb => (Truths_all b off cap ps W h.len h.lo (by have := h.few; omega) (h.p.below hb (block_lt_of_cell (h.p 0 h.pos).1))).mono fun e w' ⟨v, he, hv, hb'⟩ => ⟨v, he, hv.mono (Nat.zero_le _), hb'⟩
  s := fun v W hv hb => by
    have := RefSpan_ok b off cap kind ps ⟨d, k, o⟩ 0 v (allT ps) W hk h.sane (h.p.below hb (block_lt_of_cell (h.p 0 h.pos).1)) hv (by have := h.few; omega) h.truth
    rw [span_ref h.sane h.g kind hk, e] at this
    exact this

/-- The law returns true: a curve, a rule and a kind, as they lie in memory. -/
theorem spans_law (sa : Option Addr) (n cap : Nat) (d k o kind : Int) (w : World) (hnl : n ≤ maxLen) (hp0 : 0 < n → ∃ b off ps, sa = some ⟨b, off, none⟩ ∧ ps.length = n ∧ PtsIn w b off ps) (hkind : 0 ≤ kind ∧ kind < 256) :
    Calls Try.prog 4 #[.agg #[.slice sa n cap], .agg #[.int .i64 d, .int .i64 k, .int .i64 o], .int .u8 kind] w fun e w' => e = .returned (.bool true) ∧ Below w.heap.size w w' := by
  obtain ⟨q, hfew, hq⟩ := curve_cases sa n cap d k o w hnl hp0
  cases q with
  | false => exact spans_no sa n cap d k o kind w hfew
  | true =>
    rcases hq rfl with ⟨ps, E, hB⟩ | ⟨b, off, ps, rfl, rfl, hG⟩
    · refine spans_walk sa n cap d k o kind E E 0 0 (CVp n ps) (fun _ _ => False) w (CVp.grown hB.len) hfew hB.cv ?_ hB.fl (.inl ⟨hB.ne, rfl, rfl, rfl⟩)
      rintro v W ⟨s, c, rfl, h⟩
      refine Span_bad s n c kind d k o E W fun W' hb => spanOf_err s n c kind d k o E W' hB.ne fun W2 hb2 => hB.rc _ W2 ?_
      exact CVp.grown hB.len _ _ _ ⟨s, c, rfl, h⟩ (below_to hb hb2)
    · by_cases hk : 3 < kind
      · refine spans_walk _ _ cap d k o kind 0 2 0 0 (CVp ps.length ps) (fun _ _ => False) w (CVp.grown rfl) hfew hG.cv ?_ hG.fl (.inr (.inl ⟨rfl, hk, rfl, rfl, rfl⟩))
        rintro v W ⟨s, c, rfl, h⟩
        refine Span_bad s _ c kind d k o 2 W fun W' hb => spanOf_kind s _ c kind d k o W' (by omega) fun W2 hb2 => hG.rc _ W2 ?_
        exact CVp.grown rfl _ _ _ ⟨s, c, rfl, h⟩ (below_to hb hb2)
      · have hk4 : kind = 0 ∨ kind = 1 ∨ kind = 2 ∨ kind = 3 := by omega
        have hsp : ∀ v W, CVp ps.length ps v W → Calls Try.prog 28 #[.agg #[v], .agg #[.int .i64 d, .int .i64 k, .int .i64 o], .int .u8 kind] W fun e w' => e = .returned (spanR (spanP ps ⟨d, k, o⟩ kind)) ∧ Below W.heap.size W w' := by
          rintro v W ⟨s, c, rfl, h⟩
          obtain ⟨B, rfl, hB⟩ := h hG.pos
          exact Span_kd B 0 c kind ps ⟨d, k, o⟩ W hG.sane hG.both hk4 hB
        cases hs : spanP ps ⟨d, k, o⟩ kind with
        | none =>
          rw [hs] at hsp
          exact spans_walk _ _ cap d k o kind 0 7 0 0 (CVp ps.length ps) (fun v W => ListsV 0 W v (allT ps)) w (CVp.grown rfl) hfew hG.cv hsp hG.fl (.inr (.inr (.inl ⟨rfl, by omega, rfl, rfl, rfl, hG.ref hk4 0 0 false (by rw [hs]; rfl)⟩)))
        | some x =>
          obtain ⟨lo, hi⟩ := x
          rw [hs] at hsp
          exact spans_walk _ _ cap d k o kind 0 0 lo hi (CVp ps.length ps) (fun v W => ListsV 0 W v (allT ps)) w (CVp.grown rfl) hfew hG.cv hsp hG.fl (.inr (.inr (.inr ⟨rfl, by omega, rfl, hG.ref hk4 lo hi true (by rw [hs]; rfl)⟩)))

set_option maxRecDepth 100000 in
theorem spans_lifted (os : Os) (started : os.Started) (H : Type) (enc : TypeId × Value → H) :
    ReturnsInHanded {} Try.checked os 4 .any (Rows.curveSpansSpec.pre6 enc Try.prog Try.f4 Rows.curveSpansRow.domain false) (Rows.curveSpansSpec.post enc Try.prog Try.f4 false true false false) := by
  refine returnsInHanded_of_change (C := Try.checked) Try.own started (by kernel_rfl) Try.func4
    (ChangeSpec.witness6 (enc := enc) (C := Try.checked) false ⟨#[], #[.agg #[.slice none 0 0], .agg #[.int .i64 0, .int .i64 0, .int .i64 0], .int .u8 0], []⟩ 8 (by kernel_rfl) (by kernel_rfl) (by kernel_rfl) (by kernel_rfl)) ?_
  intro W base args ds gs before hval0 hW _ _
  have hval : ∀ (j : Nat) t v, Try.f4.params[j]? = some t → args[j]? = some v → Value.okWide Try.prog W .any base t v := hval0
  have hW' := hW
  obtain ⟨p, q, hA0, hV, rfl, hfz, hnd⟩ := hW
  have hA : DataW.TrodAll enc Try.prog W 0 (fun _ => true) true Try.f4.params.toList args.toList ds p := hA0
  rw [Try.params4] at hA hval
  obtain ⟨v0, vs0, d0, ds0, p0, q0, hargs, rfl, rfl, h0, r0⟩ := trodAll_cons hA
  obtain ⟨v1, vs1, d1, ds1, p1, q1, rfl, rfl, rfl, h1, r1⟩ := trodAll_cons r0
  obtain ⟨v2, vs2, d2, ds2, p2, q2, rfl, rfl, rfl, h2, r2⟩ := trodAll_cons r1
  obtain ⟨rfl, rfl, rfl⟩ := trodAll_nil r2
  obtain ⟨args⟩ := args
  simp only at hargs
  subst hargs
  obtain ⟨rfl, rfl⟩ := trodVars_none hV
  obtain ⟨sa, n, cap, rfl, hn, hp⟩ := open_curve (hval 0 24 v0 rfl rfl) h0
  obtain ⟨d, k, o, rfl⟩ := open_rule (hval 1 26 v1 rfl rfl) h1
  obtain ⟨kind, rfl, rfl, rfl, wa⟩ := open_int Try.underlying5 (hval 2 5 v2 rfl rfl) h2
  have hk : 0 ≤ kind ∧ kind < 256 := by
    simp [Lit.wf, IntKind.min, IntKind.max, IntKind.signed, IntKind.bits] at wa
    omega
  clear hA0 hval0
  refine (spans_law sa n cap d k o kind W hn hp hk).mono fun e W' ⟨he, hb⟩ => ?_
  subst he
  have hlt : ∀ x ∈ p0 ++ p1, x.block < W.heap.size := fun x hx => by simpa using hW'.lt x (by simpa using hx)
  have e1 : Rows.curveSpansSpec.fn H ([d0, d1, .lit (.int .u8 kind)] ++ []) = { results := [.lit (.bool true)], args := [d0, d1, .lit (.int .u8 kind)] } := rfl
  refine ⟨_, rfl, _, _, _, [], p0 ++ (p1 ++ ([] ++ [])), [], hW', ?_, ?_, ?_, hb.frame _, fun h => by cases h⟩
  · rw [e1]
    exact trodAll_mk1 (shut_bool Try.underlying4 true)
  · rw [e1]
    exact trodAll_cons_mk (Below.trod Try.laidOut (by kernel_rfl) (of_decide_eq_true (by kernel_rfl)) h0 hb (fun x hx => hlt x (by simp [hx])))
      (trodAll_cons_mk (Below.trod Try.laidOut (by kernel_rfl) (of_decide_eq_true (by kernel_rfl)) h1 hb (fun x hx => hlt x (by simp [hx])))
      (trodAll_cons_mk (shut_int Try.underlying5 wa) trodAll_mk0))
  · rfl

theorem spans_holds : Rows.CurveSpansSaid :=
  OpenClaim.holds_of_wide 4 Try.f4 rfl rfl rfl rfl rfl rfl rfl ⟨rfl, rfl, rfl, rfl, rfl⟩ rfl rfl rfl rfl rfl (by kernel_rfl) Try.func4 (by kernel_rfl)
    (of_decide_eq_true (by kernel_rfl)) (by unfold Func.isWrapper; rw [if_neg (of_decide_eq_false (by kernel_rfl))]; exact ⟨rfl, rfl⟩)
    (fun os started H enc _ => spans_lifted os started H enc)
#print axioms spans_holds
end Go.Proofs.Ytfjlnejeffkdoaa
