/- The law CurveOrder, walked. -/
import Derived.Test.YtfjlnejeffkdoaaII
import Derived.Test.YtfjlnejeffkdoaaGG
import Derived.Test.YtfjlnejeffkdoaaJJ
import Derived.Test.YtfjlnejeffkdoaaLL
namespace Go.Proofs.Ytfjlnejeffkdoaa
open Go.RowKit Go.Shelf
attribute [local irreducible] arrV wpQuiet

set_option maxHeartbeats 400000 in
theorem order_no (sl rl wl : Value) (d k o : Value) (w : World) (HR : ∀ W, Below w.heap.size w W → Calls Try.prog 41 #[.agg #[sl], .agg #[d, k, o]] W fun e w' => e = .returned (.bool false) ∧ Below W.heap.size W w') :
    Calls Try.prog 14 #[.agg #[sl], .agg #[d, k, o], wl] w fun e w' => e = .returned (.bool true) ∧ Below w.heap.size w w' := by
  have HRR := Lib.hid HR
  have hb2 := below2 w (.cells #[sl] 24) (.cells #[d, k, o] 26)
  have HA := Lib.hid awake_any
  clear HR
  go_enter Try.func14, Try.ntmps14
  go_wp2_with fail
  refine (HRR.out _ hb2).mono ?_
  rintro e w1 ⟨rfl, hb1⟩
  have hbw := below_to hb2 hb1
  clear hb1 hb2
  go_wp2_with fail
  refine (HA.out _).mono ?_
  rintro e w2 ⟨rfl, hb3⟩
  have hbw2 := below_to hbw hb3
  clear hb3 hbw
  go_wp2
  go_ret
  exact ⟨rfl, hbw2⟩

set_option maxRecDepth 100000 in
set_option maxHeartbeats 4000000 in
theorem order_yes (b off cap m capw : Nat) (aw : Option Addr) (ps : List Pt) (r : Rl) (wd : Nat → Int) (w : World) (hn : ps.length ≤ 20) (h0 : 0 < ps.length) (hg : goodsB ps 0 = true) (hr : ruleB r = true) (hp : PtsIn w b off ps)
    (hm : m ≤ maxLen) (hw : ∀ j, j < m → ∃ bw ow, aw = some ⟨bw, ow, none⟩ ∧ w.cell? ⟨bw, ow + j, none⟩ = some (.int .u16 (wd j)) ∧ 0 ≤ wd j ∧ wd j < 65536)
    (HR : ∀ W, Below w.heap.size w W → Calls Try.prog 41 #[.agg #[.slice (some ⟨b, off, none⟩) ps.length cap], .agg #[.int .i64 r.d, .int .i64 r.k, .int .i64 r.o]] W fun e w' => e = .returned (.bool true) ∧ Below W.heap.size W w') :
    Calls Try.prog 14 #[.agg #[.slice (some ⟨b, off, none⟩) ps.length cap], .agg #[.int .i64 r.d, .int .i64 r.k, .int .i64 r.o], .slice aw m capw] w fun e w' => e = .returned (.bool true) ∧ Below w.heap.size w w' := by
  have hltb := block_lt_of_cell (hp 0 h0).1
  have hlo : ∀ i, i < ps.length → 0 ≤ (pt ps i).lo ∧ (pt ps i).lo ≤ (pt ps i).hi ∧ (pt ps i).hi ≤ 100000 := fun i hi => (goodB_spec hg hi).2.2
  have hfit := pickL_fits (m := m) (wd := wd) (fun i hi => (hlo i hi).2.1) (fun j hj => by obtain ⟨_, _, _, _, h, _⟩ := hw j hj; exact h)
  have hlen := pickL_len ps m wd ps.length
  have HPK := Lib.hid fun W (hb : Below w.heap.size w W) => Picked_any b off cap m capw aw ps wd W hn h0 (hp.below hb hltb) hlo hm (fun j hj => by
    obtain ⟨bw, ow, h1, h2, h3⟩ := hw j hj
    exact ⟨bw, ow, h1, (hb.cell (p := ⟨bw, ow + j, none⟩) (block_lt_of_cell h2)).trans h2, h3⟩)
  generalize ht : pickL ps m wd ps.length = t at *
  clear ht
  have G : Good ps r t := ⟨hn, h0, hg, hr, hlen, hfit⟩
  have HO := ord_read G
  have HCV := Lib.hid fun W (hb : Below w.heap.size w W) => Curve_any b off cap ps W hn h0 (hp.below hb hltb)
  have HP := Lib.hid fun W (hb : Below w.heap.size w W) => hp.below hb hltb
  have HRR := Lib.hid HR
  have hb2 := below2 w (.cells #[.slice (some ⟨b, off, none⟩) ps.length cap] 24) (.cells #[.int .i64 r.d, .int .i64 r.k, .int .i64 r.o] 26)
  obtain ⟨hx1, hx2⟩ := box2 w (.cells #[.slice (some ⟨b, off, none⟩) ps.length cap] 24) (.cells #[.int .i64 r.d, .int .i64 r.k, .int .i64 r.o] 26)
  have HA := Lib.hid awake_any
  have GG := Lib.hid G
  have HT := Lib.hid hlen
  generalize hx : readR ps r (pad t) = x at *
  have HX := Lib.hid hx
  clear HR hp hw hm hfit G hx hlen hg hr
  go_enter Try.func14, Try.ntmps14
  go_wp2_with fail
  refine (HRR.out _ hb2).mono ?_
  rintro e w1 ⟨rfl, hb1⟩
  replace hx1 := (hb1.block _ (by simp; omega)).trans hx1
  replace hx2 := (hb1.block _ (lt_of_block hx2)).trans hx2
  have hbw := below_to hb2 hb1
  clear hb1 hb2
  have c0 := cell_of_row w1 w.heap.size 0 _ _ _ hx1
  simp at c0
  go_wp2_with fail
  refine (HPK.out _ hbw).mono ?_
  rintro e w2 ⟨B1, c1, rfl, hi1, hB1, hb3⟩
  replace hx1 := (hb3.block _ (lt_of_block hx1)).trans hx1
  replace hx2 := (hb3.block _ (lt_of_block hx2)).trans hx2
  replace hbw := below_to hbw hb3
  have hsz2 : w.heap.size + 2 ≤ w2.heap.size := by have := lt_of_block hx2; omega
  clear hb3 c0 hB1 w1
  have hB1l := block_lt_of_cell (hi1 0 (by rw [HT.out]; exact h0))
  have HI1 := Lib.hid hi1
  have HX1 := Lib.hid hx1
  have HX2 := Lib.hid hx2
  have HBW := Lib.hid hbw
  have HC : Hid (∀ w', Below w2.heap.size w2 w' → w'.cell? ⟨w.heap.size, 0, none⟩ = some (.slice (some ⟨b, off, none⟩) ps.length cap) ∧ w'.cell? ⟨w.heap.size + 1, 0, none⟩ = some (.int .i64 r.d) ∧ w'.cell? ⟨w.heap.size + 1, 1, none⟩ = some (.int .i64 r.k) ∧ w'.cell? ⟨w.heap.size + 1, 2, none⟩ = some (.int .i64 r.o)) := Lib.hid fun w' h => by
    have y1 := (h.block _ (lt_of_block hx1)).trans hx1
    have y2 := (h.block _ (lt_of_block hx2)).trans hx2
    exact ⟨cell_of_row w' w.heap.size 0 _ _ _ y1, cell_of_row w' (w.heap.size + 1) 0 _ _ _ y2, cell_of_row w' (w.heap.size + 1) 1 _ _ _ y2, cell_of_row w' (w.heap.size + 1) 2 _ _ _ y2⟩
  clear hi1 hx1 hx2 hbw
  go_wp2
  refine wp_region_noPanic ?_
  refine wp_region_float (by kernel_rfl) (fun _ _ _ _ _ h => h) 10 _ rfl 8 rfl rfl (.cells zero37 37) (fun a w => by kernel_rfl)
    [(false, 0), (false, 2), (false, 4), (true, 1), (true, 3), (true, 5), (true, 6), (false, 7), (false, 8), (false, 9)] [11, 12] (by kernel_rfl) ?_
  iterate 3
    (refine Walk.takes rfl rfl ?_; apply Exists.intro; refine ⟨fun w' hS => ?_, ?_⟩; (obtain ⟨d0, d1, d2, d3⟩ := HC.out w' hS; go_simp; with_reducible rfl); simp only [List.getElem_toArray, List.getElem_cons_succ, List.getElem_cons_zero, Act.put, List.setIfInBounds_toArray, List.set_cons_zero, List.set_cons_succ])
  refine Walk.calls rfl rfl ?_; apply Exists.intro; apply Exists.intro; refine ⟨fun w' hS => ?_, fun w' hb3 => ?_⟩; (clear hS; go_simp; exact ⟨rfl, rfl⟩)
  refine (HCV.out w' (below_to HBW.out (grow_to (below_drawn _) hb3))).mono ?_
  rintro e w3 ⟨B2, c2, rfl, hp2, hB2, hb4⟩
  refine ⟨_, rfl, hb4, ?_⟩
  simp only [List.getElem_toArray, List.getElem_cons_succ, List.getElem_cons_zero, Act.put, List.setIfInBounds_toArray, List.set_cons_zero, List.set_cons_succ]
  refine Walk.calls rfl rfl ?_; apply Exists.intro; apply Exists.intro; refine ⟨fun w' hS => ?_, fun w' hb5 => ?_⟩; (clear hS; go_simp; exact ⟨rfl, rfl⟩)
  refine (Rule_any r.d r.k r.o w').mono ?_
  rintro e w4 ⟨rfl, hb6⟩
  refine ⟨_, rfl, hb6, ?_⟩
  simp only [List.getElem_toArray, List.getElem_cons_succ, List.getElem_cons_zero, Act.put, List.setIfInBounds_toArray, List.set_cons_zero, List.set_cons_succ]
  have hw4 : Below w2.heap.size w2 w4 := grow_to (grow_to (grow_to (grow_to (below_drawn _) hb3) hb4) hb5) hb6
  have hp4 : PtsIn w4 B2 0 ps := (hp2.below hb5 (block_lt_of_cell (hp2 0 h0).1)).below hb6 (Nat.lt_of_lt_of_le (block_lt_of_cell (hp2 0 h0).1) hb5.size)
  clear hb3 hb4 hb5 hb6 hp2
  refine Walk.calls rfl rfl ?_; apply Exists.intro; apply Exists.intro; refine ⟨fun w' hS => ?_, fun w' hb5 => ?_⟩; (clear hS; go_simp; exact ⟨rfl, rfl⟩)
  have hw5 := grow_to hw4 hb5
  have hlist := list_any B1 0 c1 t w' (by rw [HT.out]; exact h0) (by rw [HT.out]; omega) (HI1.out.below hw5 hB1l)
  rw [HT.out] at hlist
  refine hlist.mono ?_
  rintro e w5 ⟨B3, c3, rfl, hi3, hB3, hb6⟩
  refine ⟨_, rfl, hb6, ?_⟩
  simp only [List.getElem_toArray, List.getElem_cons_succ, List.getElem_cons_zero, Act.put, List.setIfInBounds_toArray, List.set_cons_zero, List.set_cons_succ]
  have hw6 := grow_to hw5 hb6
  have hl4 := block_lt_of_cell (hp4 0 h0).1
  have hp5 : PtsIn w5 B2 0 ps := (hp4.below hb5 hl4).below hb6 (Nat.lt_of_lt_of_le hl4 hb5.size)
  clear hb5 hb6 hp4 hw4 hw5 hlist
  refine Walk.calls rfl rfl ?_; apply Exists.intro; apply Exists.intro; refine ⟨fun w' hS => ?_, fun w' hb5 => ?_⟩; (clear hS; go_simp; exact ⟨rfl, rfl⟩)
  refine (Read_ok B2 0 c2 B3 0 c3 ps r t w' GG.out (hp5.below hb5 (block_lt_of_cell (hp5 0 h0).1)) (hi3.below hb5 (block_lt_of_cell (hi3 0 (by rw [HT.out]; exact h0))))).mono ?_
  rw [HX.out]
  rintro e w6 ⟨rfl, hb6⟩
  refine ⟨_, rfl, hb6, ?_⟩
  simp only [List.getElem_toArray, List.getElem_cons_succ, List.getElem_cons_zero, Act.put, List.setIfInBounds_toArray, List.set_cons_zero, List.set_cons_succ]
  clear hb5 hb6 hp5 hi3 hw6
  iterate 3
    (refine Walk.takes rfl rfl ?_; apply Exists.intro; refine ⟨fun w' hS => ?_, ?_⟩; (clear hS; go_simp; with_reducible rfl); simp only [List.getElem_toArray, List.getElem_cons_succ, List.getElem_cons_zero, Act.put, List.setIfInBounds_toArray, List.set_cons_zero, List.set_cons_succ])
  refine Walk.fin ?_
  intro w7 hb7 b8 hb8 hz8 hw7
  simp only [List.getElem_toArray, List.getElem_cons_succ, List.getElem_cons_zero, Act.put, List.setIfInBounds_toArray, List.set_cons_zero, List.set_cons_succ]
  have hs37 : (Try.prog.info? 37).map (·.size) = some (rsV x).size := s37
  have n1 := set_whole b8 37 w7 zero37 (rsV x) rfl hz8
  have n3 := below_cells (b := b8) hb8 (rsV x).toList 0 w7 hw7
  refine Tail.skip rfl rfl (exec_store_row 37 (.tmp 8) (.tmp 30) rfl b8 0 (rsV x) rfl rfl (there_block hz8 (Nat.le_refl _)) hs37 (by simp [rsV, iV, Value.oneCell'])) n3 ?_
  simp only [List.getElem_toArray, List.getElem_cons_succ, List.getElem_cons_zero, Act.put, List.setIfInBounds_toArray, List.set_cons_zero, List.set_cons_succ]
  generalize w7.setCells b8 0 (rsV x).toList = w8 at *
  (refine Tail.value rfl rfl (by go_simp; with_reducible rfl) ?_; simp only [List.getElem_toArray, List.getElem_cons_succ, List.getElem_cons_zero, Act.put, List.setIfInBounds_toArray, List.set_cons_zero, List.set_cons_succ])
  refine Tail.done (NoPanic.normal ?_)
  clear hz8 hw7 hb7 w7 hs37 hB2 hB3 hl4 w4 w5 w6
  obtain ⟨st, pk, ya, y, ma, pl, wk⟩ := x
  obtain ⟨⟨k, hk, hpk, hkt⟩, hya, hma⟩ := HO
  simp only at hpk hkt hya hma
  subst hpk
  have hyn : ya < ps.length := by rcases hya with h | ⟨j, h1, h2, _⟩ <;> omega
  have hmn : ma < ps.length := by rcases hma with h | h | ⟨j, h1, h2, _⟩ <;> omega
  have hl8 := lt_of_block n1
  have hB1w : B1 < w8.heap.size := Nat.lt_of_lt_of_le hB1l n3.size
  have e0 := cell_of_row w8 b8 0 _ _ _ n1
  have e1 := cell_of_row w8 b8 1 _ _ _ n1
  have e2 := cell_of_row w8 b8 2 _ _ _ n1
  have e4 := cell_of_row w8 b8 4 _ _ _ n1
  have ek := (HI1.out.below n3 hB1l) k (by rw [HT.out]; exact hk)
  rw [hkt, Nat.zero_add] at ek
  simp [rsV, iV] at e0 e1 e2 e4
  have g0 := cell_regrown e0
  have g1 := cell_regrown e1
  have g2 := cell_regrown e2
  have g4 := cell_regrown e4
  have gk := cell_regrown ek
  have hkI : (k : Int) < ps.length := by omega
  have hwn : IntKind.i64.wrap ((ps.length : Int) - 1) = (ps.length : Int) - 1 := IntWalk.i64_in _ (by omega)
  have hd1 : decide ((ps.length : Int) ≤ ya) = false := by rw [decide_eq_false_iff_not]; omega
  have hd2 : decide ((ps.length : Int) ≤ ma) = false := by rw [decide_eq_false_iff_not]; omega
  have HIN : Hid (∀ w, Calls Try.prog 46 #[.int .i64 k, .int .i64 0, .int .i64 ((ps.length : Int) - 1)] w fun e w' => e = .returned (.bool true) ∧ Below w.heap.size w w') := Lib.hid fun w => by
    have := In_any k 0 ((ps.length : Int) - 1) w
    rw [show hasB 0 ((ps.length : Int) - 1) k = true from by simp [hasB]; omega] at this
    exact this
  have N1 := Lib.hid n1
  have N3 := Lib.hid n3
  have HYA := Lib.hid hya
  have HMA := Lib.hid hma
  clear e0 e1 e2 e4 ek n1 n3 hya hma
  go_wp2
  refine wp_region_quiet_below (by kernel_rfl) (by kernel_rfl) ?_
  repeat (quiet_step (with_reducible exact Calls.regrown_of (HIN.out _)))
  refine wpQuiet_nil ?_
  intro _ hw'
  obtain ⟨⟨dq, osq⟩, hw''⟩ := hw'
  have hbr0 := below_regrown w8 dq osq
  rw [← hw''] at hbr0
  clear hw'' g0 g1 g2 g4 gk
  rename_i w9
  replace N1 := Lib.hid ((hbr0.block _ (lt_of_block N1.out)).trans N1.out)
  replace N3 := Lib.hid (N3.out.trans (hbr0.mono N3.out.size))
  clear hbr0 hl8 hB1w
  have hl8 := lt_of_block N1.out
  have hB1w : B1 < w9.heap.size := Nat.lt_of_lt_of_le hB1l N3.out.size
  rcases HYA.out with hy0 | ⟨j, hj, hy0, hjt, hyst⟩
  · skip
    subst hy0
    have e2 := cell_of_row w9 b8 2 _ _ _ N1.out
    simp [rsV, iV] at e2
    have g2 := cell_regrown e2
    clear e2 
    go_wp2
    refine wp_region_quiet_below (by kernel_rfl) (by kernel_rfl) ?_
    repeat (quiet_step (fail))
    refine wpQuiet_nil ?_
    intro _ hw'
    obtain ⟨⟨dq, osq⟩, hw''⟩ := hw'
    have hbr0 := below_regrown w9 dq osq
    rw [← hw''] at hbr0
    clear hw'' g2 
    rename_i w10
    replace N1 := Lib.hid ((hbr0.block _ (lt_of_block N1.out)).trans N1.out)
    replace N3 := Lib.hid (N3.out.trans (hbr0.mono N3.out.size))
    clear hbr0 hl8 hB1w
    have hl8 := lt_of_block N1.out
    have hB1w : B1 < w10.heap.size := Nat.lt_of_lt_of_le hB1l N3.out.size
    rcases HMA.out with hm0 | ⟨hm0, hmp⟩ | ⟨j2, hj2, hm0, hq1, hq2, hq3⟩
    · skip
      subst hm0
      have e4 := cell_of_row w10 b8 4 _ _ _ N1.out
      simp [rsV, iV] at e4
      have g4 := cell_regrown e4
      clear e4 
      go_wp2
      refine wp_region_quiet_below (by kernel_rfl) (by kernel_rfl) ?_
      repeat (quiet_step (fail))
      refine wpQuiet_nil ?_
      intro _ hw'
      obtain ⟨⟨dq, osq⟩, hw''⟩ := hw'
      have hbr0 := below_regrown w10 dq osq
      rw [← hw''] at hbr0
      clear hw'' g4 
      rename_i w11
      replace N1 := Lib.hid ((hbr0.block _ (lt_of_block N1.out)).trans N1.out)
      replace N3 := Lib.hid (N3.out.trans (hbr0.mono N3.out.size))
      clear hbr0 hl8 hB1w
      have hl8 := lt_of_block N1.out
      have hB1w : B1 < w11.heap.size := Nat.lt_of_lt_of_le hB1l N3.out.size
      have e4 := cell_of_row w11 b8 4 _ _ _ N1.out
      simp [rsV, iV] at e4
      go_wp2_with fail
      refine (HA.out _).mono ?_
      rintro e w20 ⟨rfl, hb20⟩
      have hbf := below_to (HBW.out.trans (N3.out.mono HBW.out.size)) hb20
      clear hb20
      go_wp2
      go_ret
      exact ⟨rfl, hbf⟩
    · skip
      subst hm0
      have e4 := cell_of_row w10 b8 4 _ _ _ N1.out
      have e5 := cell_of_row w10 b8 5 _ _ _ N1.out
      simp [rsV, iV] at e4 e5
      have ez := (HI1.out.below N3.out hB1l) (0) (by rw [HT.out]; omega)
      rw [← hmp, Nat.zero_add] at ez
      have g4 := cell_regrown e4
      have g5 := cell_regrown e5
      have gez := cell_regrown ez
      clear e4 e5 ez
      go_wp2
      refine wp_region_quiet_below (by kernel_rfl) (by kernel_rfl) ?_
      repeat (quiet_step (fail))
      refine wpQuiet_nil ?_
      intro _ hw'
      obtain ⟨⟨dq, osq⟩, hw''⟩ := hw'
      have hbr0 := below_regrown w10 dq osq
      rw [← hw''] at hbr0
      clear hw'' g4 g5 gez
      rename_i w11
      replace N1 := Lib.hid ((hbr0.block _ (lt_of_block N1.out)).trans N1.out)
      replace N3 := Lib.hid (N3.out.trans (hbr0.mono N3.out.size))
      clear hbr0 hl8 hB1w
      have hl8 := lt_of_block N1.out
      have hB1w : B1 < w11.heap.size := Nat.lt_of_lt_of_le hB1l N3.out.size
      have e4 := cell_of_row w11 b8 4 _ _ _ N1.out
      simp [rsV, iV] at e4
      go_wp2_with fail
      refine (HA.out _).mono ?_
      rintro e w20 ⟨rfl, hb20⟩
      have hbf := below_to (HBW.out.trans (N3.out.mono HBW.out.size)) hb20
      clear hb20
      go_wp2
      go_ret
      exact ⟨rfl, hbf⟩
    · skip
      subst hm0
      have hz0 : (((j2 : Int) + 1) == 0) = false := by rw [beq_eq_false_iff_ne]; omega
      have e4 := cell_of_row w10 b8 4 _ _ _ N1.out
      simp [rsV, iV] at e4
      have g4 := cell_regrown e4
      clear e4 
      go_wp2
      refine wp_region_quiet_below (by kernel_rfl) (by kernel_rfl) ?_
      repeat (quiet_step (fail))
      refine wpQuiet_nil ?_
      intro _ hw'
      obtain ⟨⟨dq, osq⟩, hw''⟩ := hw'
      have hbr0 := below_regrown w10 dq osq
      rw [← hw''] at hbr0
      clear hw'' g4 
      rename_i w11
      replace N1 := Lib.hid ((hbr0.block _ (lt_of_block N1.out)).trans N1.out)
      replace N3 := Lib.hid (N3.out.trans (hbr0.mono N3.out.size))
      clear hbr0 hl8 hB1w
      have hl8 := lt_of_block N1.out
      have hB1w : B1 < w11.heap.size := Nat.lt_of_lt_of_le hB1l N3.out.size
      have e4 := cell_of_row w11 b8 4 _ _ _ N1.out
      simp [rsV, iV] at e4
      have hz1 : decide ((0 : Int) < (j2 : Int) + 1) = true := by rw [decide_eq_true_eq]; omega
      have hj2I : (j2 : Int) < ps.length := by omega
      have hj2J : (j2 : Int) + 1 < ps.length := by omega
      have hw2 : IntKind.i64.wrap (j2 : Int) = (j2 : Int) := IntWalk.i64_in _ (by omega)
      have ht2 : ((j2 : Int) + 1).toNat = j2 + 1 := by omega
      have hp2 : (0 : Int) ≤ (j2 : Int) + 1 := by omega
      go_wp2
      have ea := (HI1.out.below N3.out hB1l) j2 (by rw [HT.out]; omega)
      have eb := (HI1.out.below N3.out hB1l) (j2 + 1) (by rw [HT.out]; omega)
      rw [Nat.zero_add] at ea eb
      have gea := cell_regrown ea
      have geb := cell_regrown eb
      clear ea eb e4
      refine wp_region_quiet_below (by kernel_rfl) (by kernel_rfl) ?_
      repeat (quiet_step (fail))
      refine wpQuiet_nil ?_
      intro _ hw'
      obtain ⟨⟨dq, osq⟩, hw''⟩ := hw'
      have hbr0 := below_regrown w11 dq osq
      rw [← hw''] at hbr0
      clear hw'' gea geb
      rename_i w12
      replace N1 := Lib.hid ((hbr0.block _ (lt_of_block N1.out)).trans N1.out)
      replace N3 := Lib.hid (N3.out.trans (hbr0.mono N3.out.size))
      clear hbr0 hl8 hB1w
      have hl8 := lt_of_block N1.out
      obtain ⟨f0, f1, f2, f3⟩ := HC.out _ N3.out
      have fp := ((HP.out _ (HBW.out.trans (N3.out.mono HBW.out.size))) j2 (by omega)).1
      have gf0 := cell_regrown f0
      have gf2 := cell_regrown f2
      have gf3 := cell_regrown f3
      have gfp := cell_regrown fp
      clear f0 f1 f2 f3 fp
      have hFi := GG.out.fine
      have hst := hFi.st j2 (by omega)
      have hk2 := hFi.k
      have ho2 := hFi.o
      have hmul := mul_le_of r.k ((pt ps j2).s - r.o) 1000 1000 (by omega) (by omega) (by omega) (by omega) (by omega)
      have hws : IntKind.i64.wrap ((pt ps j2).s - r.o) = (pt ps j2).s - r.o := IntWalk.i64_in _ (by omega)
      have hwm : IntKind.i64.wrap (r.k * ((pt ps j2).s - r.o)) = r.k * ((pt ps j2).s - r.o) := IntWalk.i64_in _ (by omega)
      generalize hli : r.k * ((pt ps j2).s - r.o) = li at *
      generalize ld t j2 = av at *
      generalize ld t (j2 + 1) = bv at *
      have hq1' : decide (pl < min av bv) = false := by rw [decide_eq_false_iff_not]; omega
      have hq2' : decide (max av bv < pl) = false := by rw [decide_eq_false_iff_not]; omega
      have hq3' : decide (pl < li) = false := by rw [decide_eq_false_iff_not]; omega
      go_wp2
      refine wp_region_quiet_below (by kernel_rfl) (by kernel_rfl) ?_
      repeat (quiet_step (fail))
      refine wpQuiet_nil ?_
      intro _ hw'
      obtain ⟨⟨dq, osq⟩, hw''⟩ := hw'
      have hbr0 := below_regrown w12 dq osq
      rw [← hw''] at hbr0
      clear hw'' gf0 gf2 gf3 gfp
      rename_i w13
      replace N1 := Lib.hid ((hbr0.block _ (lt_of_block N1.out)).trans N1.out)
      replace N3 := Lib.hid (N3.out.trans (hbr0.mono N3.out.size))
      clear hbr0 hl8
      have hl8 := lt_of_block N1.out
      have e5 := cell_of_row w13 b8 5 _ _ _ N1.out
      simp [rsV, iV] at e5
      go_wp2_with fail
      refine (HA.out _).mono ?_
      rintro e w20 ⟨rfl, hb20⟩
      have hbf := below_to (HBW.out.trans (N3.out.mono HBW.out.size)) hb20
      clear hb20
      go_wp2
      go_ret
      exact ⟨rfl, hbf⟩
  · skip
    subst hy0
    have hjI : (j : Int) < ps.length := by omega
    have hys : decide (st < y) = false := by rw [decide_eq_false_iff_not]; omega
    have e0 := cell_of_row w9 b8 0 _ _ _ N1.out
    have e2 := cell_of_row w9 b8 2 _ _ _ N1.out
    have e3 := cell_of_row w9 b8 3 _ _ _ N1.out
    simp [rsV, iV] at e0 e2 e3
    have ej := (HI1.out.below N3.out hB1l) (j) (by rw [HT.out]; omega)
    rw [hjt, Nat.zero_add] at ej
    have g0 := cell_regrown e0
    have g2 := cell_regrown e2
    have g3 := cell_regrown e3
    have gej := cell_regrown ej
    clear e0 e2 e3 ej
    go_wp2
    refine wp_region_quiet_below (by kernel_rfl) (by kernel_rfl) ?_
    repeat (quiet_step (fail))
    refine wpQuiet_nil ?_
    intro _ hw'
    obtain ⟨⟨dq, osq⟩, hw''⟩ := hw'
    have hbr0 := below_regrown w9 dq osq
    rw [← hw''] at hbr0
    clear hw'' g0 g2 g3 gej
    rename_i w10
    replace N1 := Lib.hid ((hbr0.block _ (lt_of_block N1.out)).trans N1.out)
    replace N3 := Lib.hid (N3.out.trans (hbr0.mono N3.out.size))
    clear hbr0 hl8 hB1w
    have hl8 := lt_of_block N1.out
    have hB1w : B1 < w10.heap.size := Nat.lt_of_lt_of_le hB1l N3.out.size
    rcases HMA.out with hm0 | ⟨hm0, hmp⟩ | ⟨j2, hj2, hm0, hq1, hq2, hq3⟩
    · skip
      subst hm0
      have e4 := cell_of_row w10 b8 4 _ _ _ N1.out
      simp [rsV, iV] at e4
      have g4 := cell_regrown e4
      clear e4 
      go_wp2
      refine wp_region_quiet_below (by kernel_rfl) (by kernel_rfl) ?_
      repeat (quiet_step (fail))
      refine wpQuiet_nil ?_
      intro _ hw'
      obtain ⟨⟨dq, osq⟩, hw''⟩ := hw'
      have hbr0 := below_regrown w10 dq osq
      rw [← hw''] at hbr0
      clear hw'' g4 
      rename_i w11
      replace N1 := Lib.hid ((hbr0.block _ (lt_of_block N1.out)).trans N1.out)
      replace N3 := Lib.hid (N3.out.trans (hbr0.mono N3.out.size))
      clear hbr0 hl8 hB1w
      have hl8 := lt_of_block N1.out
      have hB1w : B1 < w11.heap.size := Nat.lt_of_lt_of_le hB1l N3.out.size
      have e4 := cell_of_row w11 b8 4 _ _ _ N1.out
      simp [rsV, iV] at e4
      go_wp2_with fail
      refine (HA.out _).mono ?_
      rintro e w20 ⟨rfl, hb20⟩
      have hbf := below_to (HBW.out.trans (N3.out.mono HBW.out.size)) hb20
      clear hb20
      go_wp2
      go_ret
      exact ⟨rfl, hbf⟩
    · skip
      subst hm0
      have e4 := cell_of_row w10 b8 4 _ _ _ N1.out
      have e5 := cell_of_row w10 b8 5 _ _ _ N1.out
      simp [rsV, iV] at e4 e5
      have ez := (HI1.out.below N3.out hB1l) (0) (by rw [HT.out]; omega)
      rw [← hmp, Nat.zero_add] at ez
      have g4 := cell_regrown e4
      have g5 := cell_regrown e5
      have gez := cell_regrown ez
      clear e4 e5 ez
      go_wp2
      refine wp_region_quiet_below (by kernel_rfl) (by kernel_rfl) ?_
      repeat (quiet_step (fail))
      refine wpQuiet_nil ?_
      intro _ hw'
      obtain ⟨⟨dq, osq⟩, hw''⟩ := hw'
      have hbr0 := below_regrown w10 dq osq
      rw [← hw''] at hbr0
      clear hw'' g4 g5 gez
      rename_i w11
      replace N1 := Lib.hid ((hbr0.block _ (lt_of_block N1.out)).trans N1.out)
      replace N3 := Lib.hid (N3.out.trans (hbr0.mono N3.out.size))
      clear hbr0 hl8 hB1w
      have hl8 := lt_of_block N1.out
      have hB1w : B1 < w11.heap.size := Nat.lt_of_lt_of_le hB1l N3.out.size
      have e4 := cell_of_row w11 b8 4 _ _ _ N1.out
      simp [rsV, iV] at e4
      go_wp2_with fail
      refine (HA.out _).mono ?_
      rintro e w20 ⟨rfl, hb20⟩
      have hbf := below_to (HBW.out.trans (N3.out.mono HBW.out.size)) hb20
      clear hb20
      go_wp2
      go_ret
      exact ⟨rfl, hbf⟩
    · skip
      subst hm0
      have hz0 : (((j2 : Int) + 1) == 0) = false := by rw [beq_eq_false_iff_ne]; omega
      have e4 := cell_of_row w10 b8 4 _ _ _ N1.out
      simp [rsV, iV] at e4
      have g4 := cell_regrown e4
      clear e4 
      go_wp2
      refine wp_region_quiet_below (by kernel_rfl) (by kernel_rfl) ?_
      repeat (quiet_step (fail))
      refine wpQuiet_nil ?_
      intro _ hw'
      obtain ⟨⟨dq, osq⟩, hw''⟩ := hw'
      have hbr0 := below_regrown w10 dq osq
      rw [← hw''] at hbr0
      clear hw'' g4 
      rename_i w11
      replace N1 := Lib.hid ((hbr0.block _ (lt_of_block N1.out)).trans N1.out)
      replace N3 := Lib.hid (N3.out.trans (hbr0.mono N3.out.size))
      clear hbr0 hl8 hB1w
      have hl8 := lt_of_block N1.out
      have hB1w : B1 < w11.heap.size := Nat.lt_of_lt_of_le hB1l N3.out.size
      have e4 := cell_of_row w11 b8 4 _ _ _ N1.out
      simp [rsV, iV] at e4
      have hz1 : decide ((0 : Int) < (j2 : Int) + 1) = true := by rw [decide_eq_true_eq]; omega
      have hj2I : (j2 : Int) < ps.length := by omega
      have hj2J : (j2 : Int) + 1 < ps.length := by omega
      have hw2 : IntKind.i64.wrap (j2 : Int) = (j2 : Int) := IntWalk.i64_in _ (by omega)
      have ht2 : ((j2 : Int) + 1).toNat = j2 + 1 := by omega
      have hp2 : (0 : Int) ≤ (j2 : Int) + 1 := by omega
      go_wp2
      have ea := (HI1.out.below N3.out hB1l) j2 (by rw [HT.out]; omega)
      have eb := (HI1.out.below N3.out hB1l) (j2 + 1) (by rw [HT.out]; omega)
      rw [Nat.zero_add] at ea eb
      have gea := cell_regrown ea
      have geb := cell_regrown eb
      clear ea eb e4
      refine wp_region_quiet_below (by kernel_rfl) (by kernel_rfl) ?_
      repeat (quiet_step (fail))
      refine wpQuiet_nil ?_
      intro _ hw'
      obtain ⟨⟨dq, osq⟩, hw''⟩ := hw'
      have hbr0 := below_regrown w11 dq osq
      rw [← hw''] at hbr0
      clear hw'' gea geb
      rename_i w12
      replace N1 := Lib.hid ((hbr0.block _ (lt_of_block N1.out)).trans N1.out)
      replace N3 := Lib.hid (N3.out.trans (hbr0.mono N3.out.size))
      clear hbr0 hl8 hB1w
      have hl8 := lt_of_block N1.out
      obtain ⟨f0, f1, f2, f3⟩ := HC.out _ N3.out
      have fp := ((HP.out _ (HBW.out.trans (N3.out.mono HBW.out.size))) j2 (by omega)).1
      have gf0 := cell_regrown f0
      have gf2 := cell_regrown f2
      have gf3 := cell_regrown f3
      have gfp := cell_regrown fp
      clear f0 f1 f2 f3 fp
      have hFi := GG.out.fine
      have hst := hFi.st j2 (by omega)
      have hk2 := hFi.k
      have ho2 := hFi.o
      have hmul := mul_le_of r.k ((pt ps j2).s - r.o) 1000 1000 (by omega) (by omega) (by omega) (by omega) (by omega)
      have hws : IntKind.i64.wrap ((pt ps j2).s - r.o) = (pt ps j2).s - r.o := IntWalk.i64_in _ (by omega)
      have hwm : IntKind.i64.wrap (r.k * ((pt ps j2).s - r.o)) = r.k * ((pt ps j2).s - r.o) := IntWalk.i64_in _ (by omega)
      generalize hli : r.k * ((pt ps j2).s - r.o) = li at *
      generalize ld t j2 = av at *
      generalize ld t (j2 + 1) = bv at *
      have hq1' : decide (pl < min av bv) = false := by rw [decide_eq_false_iff_not]; omega
      have hq2' : decide (max av bv < pl) = false := by rw [decide_eq_false_iff_not]; omega
      have hq3' : decide (pl < li) = false := by rw [decide_eq_false_iff_not]; omega
      go_wp2
      refine wp_region_quiet_below (by kernel_rfl) (by kernel_rfl) ?_
      repeat (quiet_step (fail))
      refine wpQuiet_nil ?_
      intro _ hw'
      obtain ⟨⟨dq, osq⟩, hw''⟩ := hw'
      have hbr0 := below_regrown w12 dq osq
      rw [← hw''] at hbr0
      clear hw'' gf0 gf2 gf3 gfp
      rename_i w13
      replace N1 := Lib.hid ((hbr0.block _ (lt_of_block N1.out)).trans N1.out)
      replace N3 := Lib.hid (N3.out.trans (hbr0.mono N3.out.size))
      clear hbr0 hl8
      have hl8 := lt_of_block N1.out
      have e5 := cell_of_row w13 b8 5 _ _ _ N1.out
      simp [rsV, iV] at e5
      go_wp2_with fail
      refine (HA.out _).mono ?_
      rintro e w20 ⟨rfl, hb20⟩
      have hbf := below_to (HBW.out.trans (N3.out.mono HBW.out.size)) hb20
      clear hb20
      go_wp2
      go_ret
      exact ⟨rfl, hbf⟩
end Go.Proofs.Ytfjlnejeffkdoaa
