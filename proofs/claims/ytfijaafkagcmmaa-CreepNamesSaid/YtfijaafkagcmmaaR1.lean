/- The reference's small checks: contracts. No condition. -/
import Derived.Test.YtfijaafkagcmmaaZ2J
namespace Go.Proofs.Ytfijaafkagcmmaa
open Go.RowKit Go.Shelf
attribute [local irreducible] arrV wpQuiet

set_option maxHeartbeats 400000 in
theorem In_any (n lo hi : Int) (w : World) : Calls Try.prog 37 #[.int .i64 n, .int .i64 lo, .int .i64 hi] w fun e w' => e = .returned (.bool (hasB lo hi n)) ∧ Below w.heap.size w w' := by
  cases h1 : decide (lo ≤ n) with
  | false =>
    go_enter Try.func37, Try.ntmps37
    go_wp2
    all_goals
      go_ret
      refine ⟨ret_bool ?_, Below.refl _ _⟩
      simp [hasB] at *
      try omega
  | true =>
    go_enter Try.func37, Try.ntmps37
    go_wp2
    all_goals
      go_ret
      refine ⟨ret_bool ?_, Below.refl _ _⟩
      simp [hasB] at *
      try omega

theorem segB_in (n : Nat) (b lo hi : Int) : segB n b lo hi = (hasB 0 ((n : Int) - 1) b && (hasB 0 hi lo && decide (hi ≤ 1000000))) := by
  rw [Bool.eq_iff_iff]
  simp only [segB, bandB, withinB, hasB, Bool.and_eq_true, decide_eq_true_eq]
  omega

set_option maxHeartbeats 1000000 in
theorem IsSegment_any (a : Option Addr) (n cap : Nat) (b lo hi : Int) (w : World) (hn : n ≤ maxLen) :
    Calls Try.prog 66 #[.agg #[.slice a n cap], .agg #[.int .i64 b, .int .i64 lo, .int .i64 hi]] w fun e w' => e = .returned (.bool (segB n b lo hi)) ∧ Below w.heap.size w w' := by
  have hI1 := In_any b 0 ((n : Int) - 1)
  have hI2 := In_any lo 0 hi
  rw [segB_in]
  unfold maxLen at hn
  have hw : IntKind.i64.wrap ((n : Int) - 1) = (n : Int) - 1 := IntWalk.i64_in _ (by omega)
  have HX := Lib.hid (box2 w (.cells #[.slice a n cap] 24) (.cells #[.int .i64 b, .int .i64 lo, .int .i64 hi] 84)).2
  have HB := Lib.hid (below2 w (.cells #[.slice a n cap] 24) (.cells #[.int .i64 b, .int .i64 lo, .int .i64 hi] 84))
  generalize hasB 0 ((n : Int) - 1) b = z1 at *
  generalize hasB 0 hi lo = z2 at *
  have I1 := Lib.hid hI1
  have I2 := Lib.hid hI2
  clear hI1 hI2
  go_enter Try.func66, Try.ntmps66
  go_wp2_with fail
  refine (I1.out _).mono ?_
  rintro e w1 ⟨rfl, hb1⟩
  have HX1 := Lib.hid ((hb1.block _ (lt_of_block HX.out)).trans HX.out)
  have HB1 := Lib.hid (below_to HB.out hb1)
  have c1 := cell_of_row w1 (w.heap.size + 1) 1 _ _ _ HX1.out
  have c2 := cell_of_row w1 (w.heap.size + 1) 2 _ _ _ HX1.out
  simp at c1 c2
  clear hb1
  cases z1 with
  | false =>
    go_wp2
    go_ret
    exact ⟨rfl, HB1.out⟩
  | true =>
    go_wp2_with fail
    refine (I2.out _).mono ?_
    rintro e w2 ⟨rfl, hb2⟩
    have HX2 := Lib.hid ((hb2.block _ (lt_of_block HX1.out)).trans HX1.out)
    have HB2 := Lib.hid (below_to HB1.out hb2)
    clear hb2 c1 c2
    have c2 := cell_of_row w2 (w.heap.size + 1) 2 _ _ _ HX2.out
    simp at c2
    cases z2 with
    | false =>
      go_wp2
      go_ret
      exact ⟨rfl, HB2.out⟩
    | true =>
      go_wp2
      go_ret
      exact ⟨by simp, HB2.out⟩

/-- Which materials are valid, by the reference's loop. -/
def rangeB (r : Rg) : Bool := hasB 0 r.hi r.lo && (decide (r.hi ≤ 1000) && decide (r.hi - r.lo ≤ 20))
def matGo : List Rg → Int → Bool
  | [], _ => true
  | r :: ms, m => rangeB r && (decide (max m r.lo ≤ r.hi) && matGo ms (max m r.lo))
def matB (ms : List Rg) : Bool := hasB 1 3 ms.length && matGo ms 0
def matE (ms : List Rg) : Int := if matB ms = true then 0 else 1
theorem matGo_rg : ∀ {ms : List Rg} {m : Int}, matGo ms m = true → ∀ r, r ∈ ms → 0 ≤ r.lo ∧ r.lo ≤ r.hi ∧ r.hi ≤ 1000 ∧ r.hi - r.lo ≤ 20
  | [], _, _, _, hr => by simp at hr
  | q :: ms, m, h, r, hr => by
    simp only [matGo, rangeB, hasB, Bool.and_eq_true, decide_eq_true_eq] at h
    rcases List.mem_cons.1 hr with rfl | hr
    · omega
    · exact matGo_rg h.2.2 r hr
theorem matGo_ne : ∀ {ms : List Rg} {m : Int}, matGo ms m = true → listsL ms m ≠ []
  | [], _, _ => by simp [listsL]
  | r :: ms, m, h => by
    simp only [matGo, Bool.and_eq_true, decide_eq_true_eq] at h
    have ih := matGo_ne h.2.2
    intro hn
    simp only [listsL, List.flatMap_eq_nil_iff, List.map_eq_nil_iff] at hn
    exact ih (hn _ (mem_upFrom.2 ⟨Int.le_refl _, h.2.1⟩))
theorem matB_ok {ms : List Rg} (h : matB ms = true) : MatOk ms := by
  simp only [matB, hasB, Bool.and_eq_true, decide_eq_true_eq] at h
  exact ⟨⟨by omega, by omega, matGo_rg h.2⟩, matGo_ne h.2⟩
theorem matGo_drop {ms : List Rg} {q : Nat} (h : q < ms.length) (m : Int) : matGo (ms.drop q) m = (rangeB (rg ms q) && (decide (max m (rg ms q).lo ≤ (rg ms q).hi) && matGo (ms.drop (q + 1)) (max m (rg ms q).lo))) := by
  rw [List.drop_eq_getElem_cons h]
  simp [matGo, rg, h]

theorem cell_move {w w1 : World} {b o : Nat} {v : Value} (h : w.cell? ⟨b, o, none⟩ = some v) (hb : Below w.heap.size w w1) : w1.cell? ⟨b, o, none⟩ = some v := (hb.cell (p := ⟨b, o, none⟩) (block_lt_of_cell h)).trans h

set_option maxRecDepth 100000 in
set_option maxHeartbeats 2000000 in
theorem MatFault_any (n : Nat) (mv : Value) (ms : List Rg) (w : World) (hl : ms.length ≤ maxLen) (hV : RgsV n w mv ms) (hn : n ≤ w.heap.size) :
    Calls Try.prog 23 #[.agg #[mv]] w fun e w' => e = .returned (.int .i64 (matE ms)) ∧ Below w.heap.size w w' := by
  obtain ⟨a, cap, rfl, hp⟩ := hV
  have HP := Lib.hid hp
  have hE1 : matB ms = true → matE ms = 0 := fun h => if_pos h
  have hE0 : matB ms = false → matE ms = 1 := fun h => if_neg (by rw [h]; simp)
  have eB : matB ms = (hasB 1 3 ms.length && matGo ms 0) := rfl
  unfold maxLen at hl
  have I1 := Lib.hid (In_any ms.length 1 3)
  have I2 := Lib.hid (fun lo hi w => In_any lo 0 hi w)
  have HX := Lib.hid (heap_alloc_new w (.cells #[.slice a ms.length cap] 24))
  have HB := Lib.hid (box_below w (.cells #[.slice a ms.length cap] 24))
  generalize matE ms = E at *
  generalize matB ms = B at *
  clear hp
  go_enter Try.func23, Try.ntmps23
  go_wp2_with fail
  refine (I1.out _).mono ?_
  rintro e w1 ⟨rfl, hb1⟩
  have HX1 := Lib.hid ((hb1.block _ (lt_of_block HX.out)).trans HX.out)
  have HB1 := Lib.hid (below_to HB.out hb1)
  clear hb1
  cases hz : hasB 1 3 ms.length with
  | false =>
    rw [hz] at eB
    obtain rfl := hE0 (by rw [eB]; rfl)
    clear hz hE0 hE1 eB
    go_wp2
    go_ret
    exact ⟨rfl, HB1.out⟩
  | true =>
    rw [hz, Bool.true_and] at eB
    clear hz
    have HE1 := Lib.hid hE1
    have HE0 := Lib.hid hE0
    have EB := Lib.hid eB
    clear hE1 hE0 eB
    go_wp2
    go_loopw [3, 4] (fun m i wr => ∃ (q : Nat) (k : Int), q ≤ ms.length ∧ m = .int .i64 k ∧ i = .int .i64 q ∧ Hid (matGo ms 0 = matGo (ms.drop q) k) ∧ Hid (wr.heap[w.heap.size]? = some (.cells #[.slice a ms.length cap] 24 (0, 0))) ∧ Hid (Below w.heap.size w wr)) (fun _ i _ => ms.length - (intOf i).toNat)
    case atStart => exact ⟨0, 0, Nat.zero_le _, rfl, rfl, Lib.hid rfl, HX1, HB1⟩
    case round =>
      obtain ⟨q, k, hq, rfl, rfl, hg, hx, hb⟩ := hrel
      have c0 := cell_of_row wr w.heap.size 0 _ _ _ hx.out
      simp at c0
      have hlx := lt_of_block hx.out
      by_cases hlt : q < ms.length
      · obtain ⟨b, off, rfl, hbn, hc⟩ := HP.out (by omega)
        obtain ⟨h1, h2⟩ := hc q hlt
        have hltb : b < w.heap.size := by omega
        have p1 := (hb.out.cell (p := ⟨b, off + q * 2, none⟩) hltb).trans h1
        have p2 := (hb.out.cell (p := ⟨b, off + q * 2 + 1, none⟩) hltb).trans h2
        have hqn : (q : Int) < ms.length := by omega
        have hw9 : IntKind.i64.wrap ((q : Int) + 1) = (q : Int) + 1 := IntWalk.i64_in _ (by omega)
        have hgo := matGo_drop hlt k
        have er : rangeB (rg ms q) = (hasB 0 (rg ms q).hi (rg ms q).lo && (decide ((rg ms q).hi ≤ 1000) && decide ((rg ms q).hi - (rg ms q).lo ≤ 20))) := rfl
        rw [er] at hgo
        have eh : hasB 0 (rg ms q).hi (rg ms q).lo = true → 0 ≤ (rg ms q).lo ∧ (rg ms q).lo ≤ (rg ms q).hi := by simp [hasB]
        have I2' := Lib.hid (I2.out (rg ms q).lo (rg ms q).hi)
        generalize (rg ms q).lo = lo at *
        generalize (rg ms q).hi = hi at *
        have hfin : matGo (ms.drop q) k = false → B = false := fun h => by rw [EB.out, hg.out, h]
        have hstep : ∀ z, matGo (ms.drop q) k = z → B = z := fun z h => by rw [EB.out, hg.out, h]
        go_wp2_with fail
        have hbx := box_below wr (.cells #[.int .i64 lo, .int .i64 hi] 60)
        have hnx := heap_alloc_new wr (.cells #[.int .i64 lo, .int .i64 hi] 60)
        have hx2 := Lib.hid ((hbx.block _ hlx).trans hx.out)
        have hb2 := Lib.hid (below_to hb.out hbx)
        generalize World.alloc wr _ = W at *
        have HN2 := Lib.hid hnx
        clear hbx hnx hx hb c0 hlx p1 p2 h1 h2 hc
        refine (I2'.out _).mono ?_
        rintro e w2 ⟨rfl, hb3⟩
        have hx3 := Lib.hid ((hb3.block _ (lt_of_block hx2.out)).trans hx2.out)
        have hn3 := (hb3.block _ (lt_of_block HN2.out)).trans HN2.out
        have hb4 := Lib.hid (below_to hb2.out hb3)
        have t0 := cell_of_row w2 wr.heap.size 0 _ _ _ hn3
        have t1 := cell_of_row w2 wr.heap.size 1 _ _ _ hn3
        simp at t0 t1
        have hl3 := lt_of_block hn3
        clear hb3 hn3
        generalize wr.heap.size = s at *
        cases h1 : hasB 0 hi lo with
        | false =>
          have HT := HE0.out (hstep _ (by rw [hgo, h1]; rfl))
          subst HT
          clear HE0 HE1 hstep hfin hgo h1 I2'
          go_wp2
          go_ret
          exact ⟨rfl, hb4.out⟩
        | true =>
          obtain ⟨l0, l1⟩ := eh h1
          by_cases h2 : hi ≤ 1000
          · have hw1 : IntKind.i64.wrap (hi - lo) = hi - lo := IntWalk.i64_in _ (by omega)
            have d2 : decide (1000 < hi) = false := by simp; omega
            by_cases h3 : hi - lo ≤ 20
            · have d3 : decide (20 < hi - lo) = false := by simp; omega
              by_cases h4 : max k lo ≤ hi
              · have d4 : decide (hi < max k lo) = false := by simp; omega
                have hgs : matGo (ms.drop q) k = matGo (ms.drop (q + 1)) (max k lo) := by rw [hgo, h1]; simp [h2, h3, h4]
                have HG := Lib.hid (hg.out.trans hgs)
                clear HE0 HE1 hstep hfin hgo h1 I2' hg hgs eh
                go_wp2
                go_roundw
                case rel => exact ⟨q + 1, max k lo, by omega, by simp, by simp, HG, hx3, hb4⟩
                case measure => simp [intOf]; omega
              · have d4 : decide (hi < max k lo) = true := by simp; omega
                have HT := HE0.out (hstep _ (by rw [hgo]; simp [h4]))
                subst HT
                clear HE0 HE1 hstep hfin hgo h1 I2' eh
                go_wp2
                go_ret
                exact ⟨rfl, hb4.out⟩
            · have d3 : decide (20 < hi - lo) = true := by simp; omega
              have HT := HE0.out (hstep _ (by rw [hgo]; simp [h3]))
              subst HT
              clear HE0 HE1 hstep hfin hgo h1 I2' eh
              go_wp2
              go_ret
              exact ⟨rfl, hb4.out⟩
          · have d2 : decide (1000 < hi) = true := by simp; omega
            have HT := HE0.out (hstep _ (by rw [hgo]; simp [h2]))
            subst HT
            clear HE0 HE1 hstep hfin hgo h1 I2' eh
            go_wp2
            go_ret
            exact ⟨rfl, hb4.out⟩
      · obtain rfl : q = ms.length := by omega
        have HT := HE1.out (by rw [EB.out, hg.out]; simp [matGo])
        subst HT
        go_wp2
        go_ret
        exact ⟨rfl, hb.out⟩
end Go.Proofs.Ytfijaafkagcmmaa
