/- May the law play: contracts. Condition: the lists are no longer than any machine's. -/
import Derived.Test.YtfijaafkagcmmaaR2
namespace Go.Proofs.Ytfijaafkagcmmaa
open Go.RowKit Go.Shelf
attribute [local irreducible] arrV wpQuiet

set_option maxHeartbeats 1000000 in
theorem fault_any (n : Nat) (mv rv : Value) (ms : List Rg) (rs : List Rn) (w : World) (hl : ms.length ≤ maxLen) (hr : rs.length ≤ maxLen) (hs : ∀ r, r ∈ rs → r.ss.length ≤ maxLen) (hV : RgsV n w mv ms) (hR : RunsV n w rv rs) (hn : n ≤ w.heap.size) :
    Calls Try.prog 24 #[.agg #[mv], rv] w fun e w' => e = .returned (.int .i64 (faultE ms rs)) ∧ Below w.heap.size w w' := by
  have HF := Lib.hid fun w' (h : Below w.heap.size w w') => Fault_any n mv rv ms rs w' hl hr hs (hV.same (.below hn h)) (hR.same (.below hn h)) (Nat.le_trans hn h.size)
  obtain ⟨am, capm, rfl, -⟩ := hV
  obtain ⟨a, cap, rfl, -⟩ := hR
  have HB := Lib.hid (box_below w (.cells #[.slice am ms.length capm] 24))
  clear hs
  go_enter Try.func24, Try.ntmps24
  go_wp2_with fail
  refine (HF.out _ HB.out).mono ?_
  rintro e w1 ⟨rfl, hb1⟩
  have HB1 := Lib.hid (below_to HB.out hb1)
  clear hb1
  go_wp2
  go_ret
  exact ⟨rfl, HB1.out⟩

set_option maxRecDepth 100000 in
set_option maxHeartbeats 2000000 in
theorem IsPlan_any (n : Nat) (am : Option Addr) (nm capm : Nat) (pv : Value) (ss : List Sg) (w : World) (hl : nm ≤ maxLen) (hs : ss.length ≤ maxLen) (hV : SegsV n w pv ss) (hn : n ≤ w.heap.size) :
    Calls Try.prog 33 #[.agg #[.slice am nm capm], pv] w fun e w' => e = .returned (.bool (segsB nm ss && decide ((ss.length : Int) ≤ 8))) ∧ Below w.heap.size w w' := by
  obtain ⟨a, cap, rfl, hp⟩ := hV
  have HP := Lib.hid hp
  have HS := Lib.hid fun b lo hi w => IsSegment_any am nm capm b lo hi w hl
  have hA4 := @allN_yes (fun k => segB nm (sg ss k).b (sg ss k).h.lo (sg ss k).h.hi) ss.length
  have hN4 := fun j => @allN_no (fun k => segB nm (sg ss k).b (sg ss k).h.lo (sg ss k).h.hi) ss.length j
  have e4 : allN (fun k => segB nm (sg ss k).b (sg ss k).h.lo (sg ss k).h.hi) ss.length = segsB nm ss := rfl
  rw [e4] at hA4 hN4
  have HA4 := Lib.hid hA4
  have HN4 := Lib.hid hN4
  unfold maxLen at hs
  have HX := Lib.hid (heap_alloc_new w (.cells #[.slice am nm capm] 24))
  have HB := Lib.hid (box_below w (.cells #[.slice am nm capm] 24))
  generalize segsB nm ss = z4 at *
  clear hp hA4 hN4 e4
  go_enter Try.func33, Try.ntmps33
  go_wp2
  go_loopw [5] (fun i wr => ∃ (k : Nat), k ≤ ss.length ∧ i = .int .i64 k ∧ Hid (∀ j, j < k → segB nm (sg ss j).b (sg ss j).h.lo (sg ss j).h.hi = true) ∧ Hid (wr.heap[w.heap.size]? = some (.cells #[.slice am nm capm] 24 (0, 0))) ∧ Hid (Below w.heap.size w wr)) (fun i _ => ss.length - (intOf i).toNat)
  case atStart => exact ⟨0, Nat.zero_le _, rfl, Lib.hid (fun j hj => by omega), HX, HB⟩
  case round =>
    obtain ⟨k, hk, rfl, hg, hx, hb⟩ := hrel
    by_cases hkl : k < ss.length
    · have c0 := cell_of_row wr w.heap.size 0 _ _ _ hx.out
      simp at c0
      obtain ⟨b2, off2, rfl, hbn2, hc2⟩ := HP.out (by omega)
      obtain ⟨s1, s2, s3⟩ := hc2 k hkl
      have hltb2 : b2 < w.heap.size := by omega
      have u1 := (hb.out.cell (p := ⟨b2, off2 + k * 3, none⟩) hltb2).trans s1
      have u2 := (hb.out.cell (p := ⟨b2, off2 + k * 3 + 1, none⟩) hltb2).trans s2
      have u3 := (hb.out.cell (p := ⟨b2, off2 + k * 3 + 2, none⟩) hltb2).trans s3
      have hkn : (k : Int) < ss.length := by omega
      have hwk : IntKind.i64.wrap ((k : Int) + 1) = (k : Int) + 1 := IntWalk.i64_in _ (by omega)
      have HS' := Lib.hid (HS.out (sg ss k).b (sg ss k).h.lo (sg ss k).h.hi)
      have HN4k := Lib.hid (HN4.out k hkl)
      have HGK : Hid (segB nm (sg ss k).b (sg ss k).h.lo (sg ss k).h.hi = true → ∀ j, j < k + 1 → segB nm (sg ss j).b (sg ss j).h.lo (sg ss j).h.hi = true) := Lib.hid fun h j hj => by
        by_cases e : j = k
        · rw [e]; exact h
        · exact hg.out j (by omega)
      clear hg hc2 s1 s2 s3
      generalize segB nm (sg ss k).b (sg ss k).h.lo (sg ss k).h.hi = sb at *
      generalize (sg ss k).b = sgb at *
      generalize (sg ss k).h.lo = slo at *
      generalize (sg ss k).h.hi = shi at *
      go_wp2_with fail
      have g0 := cell_regrown c0
      have v1 := cell_regrown u1
      have v2 := cell_regrown u2
      have v3 := cell_regrown u3
      clear c0 u1 u2 u3
      refine wp_region_quiet_below (by kernel_rfl) (by kernel_rfl) ?_
      repeat (quiet_step (with_reducible exact Calls.regrown_of (HS'.out _)))
      refine wpQuiet_nil ?_
      intro _ hw'
      obtain ⟨⟨dq, osq⟩, hw''⟩ := hw'
      subst hw''
      have hxr := Lib.hid ((below_regrown wr dq osq).block _ (lt_of_block hx.out) |>.trans hx.out)
      have hbr := Lib.hid (below_to hb.out (below_regrown wr dq osq))
      clear g0 v1 v2 v3 hx hb
      cases sb with
      | false =>
        have HF := HN4k.out rfl
        subst HF
        go_wp2
        go_ret
        exact ⟨rfl, hbr.out⟩
      | true =>
        have HG2 := Lib.hid (HGK.out rfl)
        go_wp2
        go_roundw
        case rel => exact ⟨k + 1, by omega, by simp, HG2, hxr, hbr⟩
        case measure => simp [intOf]; omega
    · obtain rfl : k = ss.length := by omega
      have HT := HA4.out hg.out
      subst HT
      go_wp2
      all_goals
        go_ret
        exact ⟨ret_bool (by simp [*]), hb.out⟩

def short12 (rs : List Rn) : Bool := allN (fun q => decide ((rn rs q).ss.length ≤ 12)) (min rs.length 10)
def thinB (nm : Nat) (rs : List Rn) (np : Nat) : Bool := short12 rs && (decide ((nm : Int) ≤ 6) && (decide ((rs.length : Int) ≤ 9) && decide ((np : Int) ≤ 12)))
set_option maxRecDepth 100000 in
set_option maxHeartbeats 2000000 in
theorem Thin_any (n : Nat) (am : Option Addr) (nm capm : Nat) (rv : Value) (ap : Option Addr) (np capp : Nat) (rs : List Rn) (w : World) (hR : RunsV n w rv rs) (hn : n ≤ w.heap.size) :
    Calls Try.prog 16 #[.agg #[.slice am nm capm], rv, .slice ap np capp] w fun e w' => e = .returned (.bool (thinB nm rs np)) ∧ Below w.heap.size w w' := by
  obtain ⟨a, cap, rfl, hp⟩ := hR
  have HP := Lib.hid hp
  have hA := @allN_yes (fun q => decide ((rn rs q).ss.length ≤ 12)) (min rs.length 10)
  have hN := fun j => @allN_no (fun q => decide ((rn rs q).ss.length ≤ 12)) (min rs.length 10) j
  have e4 : allN (fun q => decide ((rn rs q).ss.length ≤ 12)) (min rs.length 10) = short12 rs := rfl
  have eT : thinB nm rs np = (short12 rs && (decide ((nm : Int) ≤ 6) && (decide ((rs.length : Int) ≤ 9) && decide ((np : Int) ≤ 12)))) := rfl
  rw [e4] at hA hN
  have HA := Lib.hid hA
  have HN := Lib.hid hN
  rw [eT]
  have HX := Lib.hid (heap_alloc_new w (.cells #[.slice am nm capm] 24))
  have HB := Lib.hid (box_below w (.cells #[.slice am nm capm] 24))
  generalize short12 rs = z4 at *
  clear hp hA hN e4 eT
  go_enter Try.func16, Try.ntmps16
  go_wp2
  go_loopw [7] (fun i wr => ∃ (k : Nat), k ≤ min rs.length 10 ∧ i = .int .i64 k ∧ Hid (∀ j, j < k → decide ((rn rs j).ss.length ≤ 12) = true) ∧ Hid (wr.heap[w.heap.size]? = some (.cells #[.slice am nm capm] 24 (0, 0))) ∧ Hid (Below w.heap.size w wr)) (fun i _ => rs.length - (intOf i).toNat)
  case atStart => exact ⟨0, Nat.zero_le _, rfl, Lib.hid (fun j hj => by omega), HX, HB⟩
  case round =>
    obtain ⟨k, hk, rfl, hg, hx, hb⟩ := hrel
    by_cases hkl : k < min rs.length 10
    · obtain ⟨b, off, rfl, hbn, hc⟩ := HP.out (by omega)
      obtain ⟨sv, h1, -, -, h4⟩ := hc k (by omega)
      have hltb : b < w.heap.size := by omega
      have p1 := (hb.out.cell (p := ⟨b, off + k * 3, none⟩) hltb).trans h1
      obtain ⟨sa, cs, rfl, -⟩ := h4
      have d1 : decide ((k : Int) < rs.length) = true := by simp; omega
      have d2 : decide ((k : Int) < 10) = true := by simp; omega
      have hkr : (k : Int) < rs.length := by omega
      have hwk : IntKind.i64.wrap ((k : Int) + 1) = (k : Int) + 1 := IntWalk.i64_in _ (by omega)
      clear hc h1
      by_cases h8 : (rn rs k).ss.length ≤ 12
      · have d8 : decide (12 < ((rn rs k).ss.length : Int)) = false := by simp; omega
        have HG : Hid (∀ j, j < k + 1 → decide ((rn rs j).ss.length ≤ 12) = true) := Lib.hid fun j hj => by
          by_cases e : j = k
          · rw [e]; simp [h8]
          · exact hg.out j (by omega)
        clear hg h8
        go_wp2
        go_roundw
        case rel => exact ⟨k + 1, by omega, by simp, HG, hx, hb⟩
        case measure => simp [intOf]; omega
      · have d8 : decide (12 < ((rn rs k).ss.length : Int)) = true := by simp; omega
        have HF := HN.out k hkl (by simp; omega)
        subst HF
        clear h8 hg
        go_wp2
        go_ret
        exact ⟨rfl, hb.out⟩
    · obtain rfl : k = min rs.length 10 := by omega
      have HT := HA.out hg.out
      subst HT
      have c0 := cell_of_row wr w.heap.size 0 _ _ _ hx.out
      simp at c0
      have hlx := lt_of_block hx.out
      clear hg hk hkl HN HA
      by_cases hm : rs.length ≤ 10
      · rw [show min rs.length 10 = rs.length by omega]
        go_wp2
        all_goals
          go_ret
          refine ⟨ret_bool ?_, hb.out⟩
          simp [*]
          try (intros; omega)
      · rw [show min rs.length 10 = 10 by omega]
        have hm1 : (10 : Int) < rs.length := by omega
        have hm9 : ¬ (rs.length : Int) ≤ 9 := by omega
        go_wp2
        all_goals
          go_ret
          refine ⟨ret_bool ?_, hb.out⟩
          simp [*]
          try (intros; omega)

theorem short12_all {rs : List Rn} (h : short12 rs = true) (hl : rs.length ≤ 9) : ∀ r, r ∈ rs → r.ss.length ≤ 12 := by
  intro r hr
  obtain ⟨j, hj, rfl⟩ := List.mem_iff_getElem.1 hr
  have := allN_iff.1 h j (by omega)
  simpa [rn, hj] using this
theorem thin_all {nm np : Nat} {rs : List Rn} (h : thinB nm rs np = true) : nm ≤ 6 ∧ rs.length ≤ 9 ∧ np ≤ 12 ∧ ∀ r, r ∈ rs → r.ss.length ≤ 12 := by
  simp only [thinB, Bool.and_eq_true, decide_eq_true_eq] at h
  exact ⟨by omega, by omega, by omega, short12_all h.1 (by omega)⟩

def readyB (ms : List Rg) (rs : List Rn) (ss : List Sg) : Bool := thinB ms.length rs ss.length && (decide (faultE ms rs = 0) && (segsB ms.length ss && decide ((ss.length : Int) ≤ 8)))
theorem readyB_ok {ms : List Rg} {rs : List Rn} {ss : List Sg} (h : readyB ms rs ss = true) : RoomOk ms rs ∧ PlanOk ms.length ss := by
  simp only [readyB, Bool.and_eq_true, decide_eq_true_eq] at h
  exact ⟨faultE_ok h.2.1, by omega, segsB_iff h.2.2.1⟩
set_option maxRecDepth 100000 in
set_option maxHeartbeats 2000000 in
theorem ready_any (n : Nat) (mv rv pv : Value) (ms : List Rg) (rs : List Rn) (ss : List Sg) (w : World) (hV : RgsV n w mv ms) (hR : RunsV n w rv rs) (hP : SegsV n w pv ss) (hn : n ≤ w.heap.size) :
    Calls Try.prog 46 #[.agg #[mv], rv, pv] w fun e w' => e = .returned (.bool (readyB ms rs ss)) ∧ Below w.heap.size w w' := by
  have HF := Lib.hid fun w' (h : Below w.heap.size w w') hl hr hs => fault_any n mv rv ms rs w' hl hr hs (hV.same (.below hn h)) (hR.same (.below hn h)) (Nat.le_trans hn h.size)
  have hV' := hV
  obtain ⟨am, capm, rfl, -⟩ := hV'
  have hP' := hP
  obtain ⟨ap, capp, rfl, -⟩ := hP'
  have HT := Lib.hid fun w' (h : Below w.heap.size w w') => Thin_any n am ms.length capm rv ap ss.length capp rs w' (hR.same (.below hn h)) (Nat.le_trans hn h.size)
  have HI := Lib.hid fun w' (h : Below w.heap.size w w') hl hs => IsPlan_any n am ms.length capm (.slice ap ss.length capp) ss w' hl hs (hP.same (.below hn h)) (Nat.le_trans hn h.size)
  obtain ⟨a, cap, rfl, -⟩ := hR
  have HA := Lib.hid (@thin_all ms.length ss.length rs)
  have HX := Lib.hid (heap_alloc_new w (.cells #[.slice am ms.length capm] 24))
  have HB := Lib.hid (box_below w (.cells #[.slice am ms.length capm] 24))
  have HE : Hid (readyB ms rs ss = (thinB ms.length rs ss.length && (decide (faultE ms rs = 0) && (segsB ms.length ss && decide ((ss.length : Int) ≤ 8))))) := Lib.hid rfl
  generalize readyB ms rs ss = E at *
  generalize faultE ms rs = F at *
  generalize thinB ms.length rs ss.length = T at *
  clear hV hP
  go_enter Try.func46, Try.ntmps46
  go_wp2_with fail
  refine (HT.out _ HB.out).mono ?_
  rintro e w1 ⟨rfl, hb1⟩
  have HX1 := Lib.hid ((hb1.block _ (lt_of_block HX.out)).trans HX.out)
  have HB1 := Lib.hid (below_to HB.out hb1)
  clear hb1
  cases T with
  | false =>
    go_wp2
    go_ret
    exact ⟨by rw [HE.out]; rfl, HB1.out⟩
  | true =>
    obtain ⟨l1, l2, l3, l4⟩ := HA.out rfl
    have L4 := Lib.hid l4
    have c0 := cell_of_row w1 w.heap.size 0 _ _ _ HX1.out
    simp at c0
    clear l4
    go_wp2_with fail
    refine (HF.out _ HB1.out (by simp [maxLen]; omega) (by simp [maxLen]; omega) (fun r hr => by have := L4.out r hr; simp [maxLen]; omega)).mono ?_
    rintro e w2 ⟨rfl, hb2⟩
    have HX2 := Lib.hid ((hb2.block _ (lt_of_block HX1.out)).trans HX1.out)
    have HB2 := Lib.hid (below_to HB1.out hb2)
    clear hb2 c0
    have c0 := cell_of_row w2 w.heap.size 0 _ _ _ HX2.out
    simp at c0
    by_cases hF : F = 0
    · subst hF
      have HE2 : Hid (E = (segsB ms.length ss && decide ((ss.length : Int) ≤ 8))) := Lib.hid (by rw [HE.out]; simp)
      clear HE
      generalize (segsB ms.length ss && decide ((ss.length : Int) ≤ 8)) = I at *
      go_wp2_with fail
      refine (HI.out _ HB2.out (by simp [maxLen]; omega) (by simp [maxLen]; omega)).mono ?_
      rintro e w3 ⟨rfl, hb3⟩
      have HB3 := Lib.hid (below_to HB2.out hb3)
      clear hb3 c0
      go_wp2
      go_ret
      exact ⟨by rw [HE2.out]; rfl, HB3.out⟩
    · have d0 : decide (F = 0) = false := by simp [hF]
      have HE2 : Hid (E = false) := Lib.hid (by rw [HE.out, d0]; rfl)
      clear HE
      go_wp2
      go_ret
      exact ⟨by rw [HE2.out]; rfl, HB2.out⟩
end Go.Proofs.Ytfijaafkagcmmaa
