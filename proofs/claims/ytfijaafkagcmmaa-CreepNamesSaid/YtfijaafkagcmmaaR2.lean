/- The reference's check of a material with runs: its contract. Condition: the lists are no longer than any machine's. -/
import Derived.Test.YtfijaafkagcmmaaR1
namespace Go.Proofs.Ytfijaafkagcmmaa
open Go.RowKit Go.Shelf
attribute [local irreducible] arrV wpQuiet

def segsB (n : Nat) (ss : List Sg) : Bool := allN (fun q => segB n (sg ss q).b (sg ss q).h.lo (sg ss q).h.hi) ss.length
def runB (n : Nat) (r : Rn) : Bool := withinB r.seen.lo r.seen.hi 0 10000000000 && segsB n r.ss
def shortsB (rs : List Rn) : Bool := allN (fun q => decide ((rn rs q).ss.length ≤ 8)) rs.length
def runsB (n : Nat) (rs : List Rn) : Bool := allN (fun q => runB n (rn rs q)) rs.length
def faultN (z1 z2 z3 : Bool) (n : Nat) : Int := if z1 = true then (if n ≤ 6 then (if z2 = true then (if z3 = true then 0 else 1) else 3) else 3) else 1
def faultE (ms : List Rg) (rs : List Rn) : Int := faultN (matB ms) (shortsB rs) (runsB ms.length rs) rs.length
theorem segB_iff {n : Nat} {s : Sg} (h : segB n s.b s.h.lo s.h.hi = true) : SgOk n s := by
  simp only [segB, bandB, withinB, Bool.and_eq_true, decide_eq_true_eq] at h
  exact ⟨h.1.1, h.1.2, h.2.1, h.2.2.1, h.2.2.2⟩
theorem segsB_iff {n : Nat} {ss : List Sg} (h : segsB n ss = true) : ∀ s, s ∈ ss → SgOk n s := by
  intro s hs
  obtain ⟨j, hj, rfl⟩ := List.mem_iff_getElem.1 hs
  have := allN_iff.1 h j hj
  simp only [sg, hj, List.getElem?_eq_getElem, Option.getD_some] at this
  exact segB_iff this
theorem faultE_ok {ms : List Rg} {rs : List Rn} (h : faultE ms rs = 0) : RoomOk ms rs := by
  unfold faultE faultN at h
  by_cases hl : rs.length ≤ 6 <;> cases h1 : matB ms <;> cases h2 : shortsB rs <;> cases h3 : runsB ms.length rs <;> simp [h1, h2, h3, hl] at h
  · refine ⟨matB_ok h1, hl, fun r hr => ?_⟩
    obtain ⟨j, hj, rfl⟩ := List.mem_iff_getElem.1 hr
    have a2 := allN_iff.1 h2 j hj
    have a3 := allN_iff.1 h3 j hj
    simp only [rn, hj, List.getElem?_eq_getElem, Option.getD_some, decide_eq_true_eq] at a2 a3
    simp only [runB, withinB, Bool.and_eq_true, decide_eq_true_eq] at a3
    exact ⟨⟨a2, segsB_iff a3.2⟩, a3.1.1, a3.1.2.1, a3.1.2.2⟩

set_option maxRecDepth 100000 in
set_option maxHeartbeats 4000000 in
theorem Fault_any (n : Nat) (mv rv : Value) (ms : List Rg) (rs : List Rn) (w : World) (hl : ms.length ≤ maxLen) (hr : rs.length ≤ maxLen) (hs : ∀ r, r ∈ rs → r.ss.length ≤ maxLen) (hV : RgsV n w mv ms) (hR : RunsV n w rv rs) (hn : n ≤ w.heap.size) :
    Calls Try.prog 58 #[.agg #[mv], rv] w fun e w' => e = .returned (.int .i64 (faultE ms rs)) ∧ Below w.heap.size w w' := by
  have HM := Lib.hid fun w' (h : Below w.heap.size w w') => MatFault_any n mv ms w' hl (hV.same (.below hn h)) (Nat.le_trans hn h.size)
  have hE : faultE ms rs = faultN (matB ms) (shortsB rs) (runsB ms.length rs) rs.length := rfl
  have hM1 : matB ms = true → matE ms = 0 := fun h => if_pos h
  have hM0 : matB ms = false → matE ms = 1 := fun h => if_neg (by rw [h]; simp)
  have HA2 := Lib.hid (@allN_yes (fun q => decide ((rn rs q).ss.length ≤ 8)) rs.length)
  have HN2 := Lib.hid (fun j => @allN_no (fun q => decide ((rn rs q).ss.length ≤ 8)) rs.length j)
  have HA3 := Lib.hid (@allN_yes (fun q => runB ms.length (rn rs q)) rs.length)
  have HN3 := Lib.hid (fun j => @allN_no (fun q => runB ms.length (rn rs q)) rs.length j)
  have e2 : allN (fun q => decide ((rn rs q).ss.length ≤ 8)) rs.length = shortsB rs := rfl
  have e3 : allN (fun q => runB ms.length (rn rs q)) rs.length = runsB ms.length rs := rfl
  rw [e2] at HA2 HN2
  rw [e3] at HA3 HN3
  obtain ⟨am, capm, rfl, -⟩ := hV
  obtain ⟨a, cap, rfl, hp⟩ := hR
  have HP := Lib.hid hp
  have HS := Lib.hid fun b lo hi w => IsSegment_any am ms.length capm b lo hi w hl
  have HSS := Lib.hid hs
  have I2 := Lib.hid (fun lo hi w => In_any lo 0 hi w)
  unfold maxLen at hl hr
  have HX := Lib.hid (heap_alloc_new w (.cells #[.slice am ms.length capm] 24))
  have HB := Lib.hid (box_below w (.cells #[.slice am ms.length capm] 24))
  generalize faultE ms rs = E at *
  generalize shortsB rs = z2 at *
  generalize runsB ms.length rs = z3 at *
  generalize matB ms = z1 at *
  have HE := Lib.hid hE
  clear hp hs hE e2 e3
  go_enter Try.func58, Try.ntmps58
  go_wp2_with fail
  refine (HM.out _ HB.out).mono ?_
  rintro e w1 ⟨rfl, hb1⟩
  have HX1 := Lib.hid ((hb1.block _ (lt_of_block HX.out)).trans HX.out)
  have HB1 := Lib.hid (below_to HB.out hb1)
  clear hb1
  cases z1 with
  | false =>
    rw [hM0 rfl]
    clear hM0 hM1
    go_wp2
    go_ret
    exact ⟨by rw [HE.out]; rfl, HB1.out⟩
  | true =>
    rw [hM1 rfl]
    clear hM0 hM1
    by_cases h6 : rs.length ≤ 6
    · have d6 : decide (6 < (rs.length : Int)) = false := by simp; omega
      have e6 : E = (if z2 = true then (if z3 = true then 0 else 1) else 3) := by rw [HE.out]; simp [faultN, h6]
      have HE6 := Lib.hid e6
      clear e6 HE
      go_wp2
      go_loopw [6] (fun i wr => ∃ (q : Nat), q ≤ rs.length ∧ i = .int .i64 q ∧ Hid (∀ j, j < q → decide ((rn rs j).ss.length ≤ 8) = true) ∧ Hid (wr.heap[w.heap.size]? = some (.cells #[.slice am ms.length capm] 24 (0, 0))) ∧ Hid (Below w.heap.size w wr)) (fun i _ => rs.length - (intOf i).toNat)
      case atStart => exact ⟨0, Nat.zero_le _, rfl, Lib.hid (fun j hj => by omega), HX1, HB1⟩
      case round =>
        obtain ⟨q, hq, rfl, hg, hx, hb⟩ := hrel
        by_cases hlt : q < rs.length
        · obtain ⟨b, off, rfl, hbn, hc⟩ := HP.out (by omega)
          obtain ⟨sv, h1, -, -, h4⟩ := hc q hlt
          have hltb : b < w.heap.size := by omega
          have p1 := (hb.out.cell (p := ⟨b, off + q * 3, none⟩) hltb).trans h1
          have h4' := h4
          obtain ⟨sa, cs, rfl, -⟩ := h4'
          have hsl := HSS.out _ (rn_mem hlt)
          unfold maxLen at hsl
          have hqn : (q : Int) < rs.length := by omega
          have hw9 : IntKind.i64.wrap ((q : Int) + 1) = (q : Int) + 1 := IntWalk.i64_in _ (by omega)
          clear hc h1 h4
          by_cases h8 : (rn rs q).ss.length ≤ 8
          · have d8 : decide (8 < ((rn rs q).ss.length : Int)) = false := by simp; omega
            have HG : Hid (∀ j, j < q + 1 → decide ((rn rs j).ss.length ≤ 8) = true) := Lib.hid fun j hj => by
              by_cases e : j = q
              · rw [e]; simp [h8]
              · exact hg.out j (by omega)
            clear hg h8
            go_wp2
            go_roundw
            case rel => exact ⟨q + 1, by omega, by simp, HG, hx, hb⟩
            case measure => simp [intOf]; omega
          · have d8 : decide (8 < ((rn rs q).ss.length : Int)) = true := by simp; omega
            have HF := HN2.out q hlt (by simp; omega)
            subst HF
            clear h8
            go_wp2
            go_ret
            exact ⟨by rw [HE6.out]; rfl, hb.out⟩
        · obtain rfl : q = rs.length := by omega
          have HT := HA2.out hg.out
          subst HT
          go_wp2
          have HE7 : Hid (E = (if z3 = true then 0 else 1)) := Lib.hid (by rw [HE6.out]; simp)
          clear HE6 HA2 HN2
          have hx0 := hx
          have hb0 := hb
          clear hg hq hx hb
          go_loopw [7] (fun i wr => ∃ (q : Nat), q ≤ rs.length ∧ i = .int .i64 q ∧ Hid (∀ j, j < q → runB ms.length (rn rs j) = true) ∧ Hid (wr.heap[w.heap.size]? = some (.cells #[.slice am ms.length capm] 24 (0, 0))) ∧ Hid (Below w.heap.size w wr)) (fun i _ => rs.length - (intOf i).toNat)
          case atStart => exact ⟨0, Nat.zero_le _, rfl, Lib.hid (fun j hj => by omega), hx0, hb0⟩
          case round =>
            obtain ⟨q, hq, rfl, hg, hx, hb⟩ := hrel
            by_cases hlt : q < rs.length
            · obtain ⟨b, off, rfl, hbn, hc⟩ := HP.out (by omega)
              obtain ⟨sv, h1, h2, h3, h4⟩ := hc q hlt
              have hltb : b < w.heap.size := by omega
              have p1 := (hb.out.cell (p := ⟨b, off + q * 3, none⟩) hltb).trans h1
              have p2 := (hb.out.cell (p := ⟨b, off + q * 3 + 1, none⟩) hltb).trans h2
              have p3 := (hb.out.cell (p := ⟨b, off + q * 3 + 2, none⟩) hltb).trans h3
              have H4 := Lib.hid h4
              have h4' := h4
              obtain ⟨sa, cs, rfl, hsp⟩ := h4'
              have HSP := Lib.hid hsp
              have hsl := HSS.out _ (rn_mem hlt)
              unfold maxLen at hsl
              have hqn : (q : Int) < rs.length := by omega
              have hw9 : IntKind.i64.wrap ((q : Int) + 1) = (q : Int) + 1 := IntWalk.i64_in _ (by omega)
              have hP1 := Lib.hid h1
              clear hc h1 h2 h3 h4 hsp
              have er : runB ms.length (rn rs q) = (withinB (rn rs q).seen.lo (rn rs q).seen.hi 0 10000000000 && segsB ms.length (rn rs q).ss) := rfl
              have ew : withinB (rn rs q).seen.lo (rn rs q).seen.hi 0 10000000000 = (hasB 0 (rn rs q).seen.hi (rn rs q).seen.lo && decide ((rn rs q).seen.hi ≤ 10000000000)) := by
                rw [Bool.eq_iff_iff]
                simp only [withinB, hasB, Bool.and_eq_true, decide_eq_true_eq]
                omega
              rw [ew] at er
              have HN3q := Lib.hid (HN3.out q hlt)
              have I2' := Lib.hid (I2.out (rn rs q).seen.lo (rn rs q).seen.hi)
              have HGS : Hid (runB ms.length (rn rs q) = true → ∀ j, j < q + 1 → runB ms.length (rn rs j) = true) := Lib.hid fun h j hj => by
                by_cases e : j = q
                · rw [e]; exact h
                · exact hg.out j (by omega)
              have hA4 := @allN_yes (fun k => segB ms.length (sg (rn rs q).ss k).b (sg (rn rs q).ss k).h.lo (sg (rn rs q).ss k).h.hi) (rn rs q).ss.length
              have hN4 := fun j => @allN_no (fun k => segB ms.length (sg (rn rs q).ss k).b (sg (rn rs q).ss k).h.lo (sg (rn rs q).ss k).h.hi) (rn rs q).ss.length j
              have e4 : allN (fun k => segB ms.length (sg (rn rs q).ss k).b (sg (rn rs q).ss k).h.lo (sg (rn rs q).ss k).h.hi) (rn rs q).ss.length = segsB ms.length (rn rs q).ss := rfl
              rw [e4] at hA4 hN4
              have HA4 := Lib.hid hA4
              have HN4 := Lib.hid hN4
              generalize segsB ms.length (rn rs q).ss = z4 at *
              generalize runB ms.length (rn rs q) = zr at *
              generalize (rn rs q).seen.lo = lo at *
              generalize (rn rs q).seen.hi = hi at *
              generalize (rn rs q).ss = ss at *
              clear ew e4 hA4 hN4 hg
              have hbx := box_below wr (.cells #[.int .i64 lo, .int .i64 hi] 60)
              have hnx := heap_alloc_new wr (.cells #[.int .i64 lo, .int .i64 hi] 60)
              have hx2 := Lib.hid ((hbx.block _ (lt_of_block hx.out)).trans hx.out)
              have hb2 := Lib.hid (below_to hb.out hbx)
              have HN2 := Lib.hid hnx
              clear hbx hnx hx hb
              go_wp2_with fail
              generalize World.alloc wr _ = W at *
              clear p1 p2 p3
              refine (I2'.out _).mono ?_
              rintro e w2 ⟨rfl, hb3⟩
              have hx3 := Lib.hid ((hb3.block _ (lt_of_block hx2.out)).trans hx2.out)
              have hn3 := (hb3.block _ (lt_of_block HN2.out)).trans HN2.out
              have hb4 := Lib.hid (below_to hb2.out hb3)
              have t1 := cell_of_row w2 wr.heap.size 1 _ _ _ hn3
              simp at t1
              have hl3 := lt_of_block hn3
              clear hb3 hn3
              generalize wr.heap.size = s at *
              cases k1 : hasB 0 hi lo with
              | false =>
                have HF := HN3q.out (by rw [er, k1]; rfl)
                subst HF
                clear er k1 I2'
                go_wp2
                go_ret
                exact ⟨by rw [HE7.out]; rfl, hb4.out⟩
              | true =>
                by_cases k2 : hi ≤ 10000000000
                · have d2 : decide (10000000000 < hi) = false := by simp; omega
                  have erz : zr = z4 := by rw [er, k1]; simp [k2]
                  subst erz
                  clear er k1 I2'
                  go_wp2
                  have hsz : n ≤ w2.heap.size := by have := hb4.out.size; omega
                  have hx0 := hx3
                  have hb0 := hb4
                  clear hx3 hb4 t1 hl3 HN2 hsz hx2 hb2
                  go_loopw [9] (fun i wr => ∃ (k : Nat), k ≤ ss.length ∧ i = .int .i64 k ∧ Hid (∀ j, j < k → segB ms.length (sg ss j).b (sg ss j).h.lo (sg ss j).h.hi = true) ∧ Hid (wr.heap[w.heap.size]? = some (.cells #[.slice am ms.length capm] 24 (0, 0))) ∧ Hid (Below w.heap.size w wr)) (fun i _ => ss.length - (intOf i).toNat)
                  case atStart => exact ⟨0, Nat.zero_le _, rfl, Lib.hid (fun j hj => by omega), hx0, hb0⟩
                  case round =>
                    obtain ⟨k, hk, rfl, hg, hx, hb⟩ := hrel
                    have p1 := (hb.out.cell (p := ⟨b, off + q * 3, none⟩) hltb).trans hP1.out
                    have hlr : b < wr.heap.size := Nat.lt_of_lt_of_le hltb hb.out.size
                    have c0 := cell_of_row wr w.heap.size 0 _ _ _ hx.out
                    simp at c0
                    have hlx := lt_of_block hx.out
                    by_cases hkl : k < ss.length
                    · obtain ⟨b2, off2, rfl, hbn2, hc2⟩ := HSP.out (by omega)
                      obtain ⟨s1, s2, s3⟩ := hc2 k hkl
                      have hltb2 : b2 < w.heap.size := by omega
                      have u1 := (hb.out.cell (p := ⟨b2, off2 + k * 3, none⟩) hltb2).trans s1
                      have u2 := (hb.out.cell (p := ⟨b2, off2 + k * 3 + 1, none⟩) hltb2).trans s2
                      have u3 := (hb.out.cell (p := ⟨b2, off2 + k * 3 + 2, none⟩) hltb2).trans s3
                      have hkn : (k : Int) < ss.length := by omega
                      have hwk : IntKind.i64.wrap ((k : Int) + 1) = (k : Int) + 1 := IntWalk.i64_in _ (by omega)
                      have HS' := Lib.hid (HS.out (sg ss k).b (sg ss k).h.lo (sg ss k).h.hi)
                      have HN4k := Lib.hid (HN4.out k hkl)
                      have HGK : Hid (segB ms.length (sg ss k).b (sg ss k).h.lo (sg ss k).h.hi = true → ∀ j, j < k + 1 → segB ms.length (sg ss j).b (sg ss j).h.lo (sg ss j).h.hi = true) := Lib.hid fun h j hj => by
                        by_cases e : j = k
                        · rw [e]; exact h
                        · exact hg.out j (by omega)
                      clear hg hc2 s1 s2 s3
                      generalize segB ms.length (sg ss k).b (sg ss k).h.lo (sg ss k).h.hi = sb at *
                      generalize (sg ss k).b = sgb at *
                      generalize (sg ss k).h.lo = slo at *
                      generalize (sg ss k).h.hi = shi at *
                      go_wp2_with fail
                      have g0 := cell_regrown c0
                      have g1 := cell_regrown p1
                      have v1 := cell_regrown u1
                      have v2 := cell_regrown u2
                      have v3 := cell_regrown u3
                      clear c0 p1 u1 u2 u3
                      refine wp_region_quiet_below (by kernel_rfl) (by kernel_rfl) ?_
                      repeat (quiet_step (with_reducible exact Calls.regrown_of (HS'.out _)))
                      refine wpQuiet_nil ?_
                      intro _ hw'
                      obtain ⟨⟨dq, osq⟩, hw''⟩ := hw'
                      subst hw''
                      have hxr := Lib.hid ((below_regrown wr dq osq).block _ (lt_of_block hx.out) |>.trans hx.out)
                      have hbr := Lib.hid (below_to hb.out (below_regrown wr dq osq))
                      clear g0 g1 v1 v2 v3 hx hb
                      cases sb with
                      | false =>
                        have HF := HN4k.out rfl
                        subst HF
                        have HF3 := HN3q.out rfl
                        subst HF3
                        go_wp2
                        go_ret
                        exact ⟨by rw [HE7.out]; rfl, hbr.out⟩
                      | true =>
                        have HG2 := Lib.hid (HGK.out rfl)
                        go_wp2
                        go_roundw
                        case rel => exact ⟨k + 1, by omega, by simp, HG2, hxr, hbr⟩
                        case measure => simp [intOf]; omega
                    · obtain rfl : k = ss.length := by omega
                      have HT := HA4.out hg.out
                      subst HT
                      have HG2 := Lib.hid (HGS.out rfl)
                      go_wp2
                      go_roundw
                      case rel => exact ⟨q + 1, by omega, by simp, HG2, hx, hb⟩
                      case measure => simp [intOf]; omega
                · have d2 : decide (10000000000 < hi) = true := by simp; omega
                  have HF := HN3q.out (by rw [er]; simp [k2])
                  subst HF
                  clear er k1 I2'
                  go_wp2
                  go_ret
                  exact ⟨by rw [HE7.out]; rfl, hb4.out⟩
            · obtain rfl : q = rs.length := by omega
              have HT := HA3.out hg.out
              subst HT
              go_wp2
              go_ret
              exact ⟨by rw [HE7.out]; rfl, hb.out⟩
    · have d6 : decide (6 < (rs.length : Int)) = true := by simp; omega
      have e6 : E = 3 := by rw [HE.out]; simp [faultN, h6]
      subst e6
      go_wp2
      go_ret
      exact ⟨rfl, HB1.out⟩
end Go.Proofs.Ytfijaafkagcmmaa
