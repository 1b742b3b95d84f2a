/- The doubtful runs by the reference: its contract. Condition: a valid room. -/
import Derived.Test.YtfijaafkagcmmaaN6J
import Derived.Test.YtfijaafkagcmmaaL5J
namespace Go.Proofs.Ytfijaafkagcmmaa
open Go.RowKit Go.Shelf
attribute [local irreducible] arrV wpQuiet

def refAl (ms : List Rg) (rs : List Rn) : List Int → Bool := fun l => decide (okL ms (woT rs l rs.length) ≠ [])
theorem bestT_step (al : List Int → Bool) (n k : Nat) : bestT al n (k + 1) = if (lessL (listS (bitF k) n) (bestT al n k) && al (listS (bitF k) n)) = true then listS (bitF k) n else bestT al n k := rfl
theorem best_len (al : List Int → Bool) (n : Nat) : ∀ k, (bestT al n k).length ≤ n
  | 0 => listS_len _ _
  | k + 1 => by
    rw [bestT_step]
    split
    · exact listS_len _ _
    · exact best_len al n k

theorem bit_div (k q : Nat) : ((k : Int) / 2 ^ q).tmod 2 = ((k / 2 ^ q % 2 : Nat) : Int) := by
  rw [show (k : Int) / 2 ^ q = ((k / 2 ^ q : Nat) : Int) by simp]
  rfl
theorem bit_one {k q : Nat} (h : bitF k q = true) : k / 2 ^ q % 2 = 1 := by simpa [bitF] using h
theorem bit_nil {k q : Nat} (h : bitF k q = false) : k / 2 ^ q % 2 = 0 := by
  have : ¬ k / 2 ^ q % 2 = 1 := by simpa [bitF] using h
  omega

set_option maxRecDepth 100000 in
set_option maxHeartbeats 4000000 in
theorem refDoubtful_any (n : Nat) (mv rv : Value) (ms : List Rg) (rs : List Rn) (w : World) (hK : RoomOk ms rs) (hV : RoomV n w mv rv ms rs) :
    Calls Try.prog 42 #[.agg #[mv], rv] w fun e w' => (∃ v, e = .returned v ∧ IntsV w'.heap.size w' v (bestT (refAl ms rs) rs.length (2 ^ rs.length))) ∧ Below w.heap.size w w' := by
  have hn := hV.lt
  have hl6 := hK.len
  have HM := Lib.hid fun w' (h : Below w.heap.size w w') => (hV.below h).m
  have HRR := Lib.hid fun w' (h : Below w.heap.size w w') => (hV.below h).r
  have HK := Lib.hid hK
  obtain ⟨am, capm, rfl, -⟩ := hV.m
  obtain ⟨ar, capr, rfl, -⟩ := hV.r
  have HX := Lib.hid (heap_alloc_new w (.cells #[.slice am ms.length capm] 24))
  have HB := Lib.hid (box_below w (.cells #[.slice am ms.length capm] 24))
  clear hV hK
  go_enter Try.func42, Try.ntmps42
  go_wp2
  generalize World.alloc w _ = W at *
  go_loopw [5, 6] (fun v i wr => ∃ q : Nat, q ≤ rs.length ∧ i = .int .i64 q ∧ Hid (wr.heap[w.heap.size]? = some (.cells #[.slice am ms.length capm] 24 (0, 0))) ∧ Hid (Below w.heap.size w wr) ∧ Hid (wr.ownsRow (w.heap.size + 1) 3 1 v (listS (fun _ => true) q).length ((listS (fun _ => true) q).map (Value.int .i64)))) (fun _ i _ => rs.length - (intOf i).toNat)
  case atStart => exact ⟨0, Nat.zero_le _, rfl, HX, HB, Lib.hid (World.ownsRow_nil _ _ _ _)⟩
  case round =>
    clear HX HB
    obtain ⟨q, hq, rfl, HX, HB, HO⟩ := hrel
    by_cases hlt : q < rs.length
    · have hqn : (q : Int) < rs.length := by omega
      have hw9 : IntKind.i64.wrap ((q : Int) + 1) = (q : Int) + 1 := IntWalk.i64_in _ (by omega)
      have HE := Lib.hid (@listS_yes (fun _ => true) q rfl)
      have HLEN := Lib.hid (listS_len (fun _ => true) q)
      have l0 := lt_of_block HX.out
      go_wp2_with (first
        | (refine wpList_app el26 rfl (.tmp 16) (.tmp 18) rfl (w.heap.size + 1) _ _ _ #[.int .i64 q] rfl (by intro u hu; simp at hu; subst hu; rfl) rfl rfl HO.out (by omega) (by have := HLEN.out; omega) ?_
           intro g c w' hown hgr _)
        | fail)
      go_roundw
      case rel =>
        refine ⟨q + 1, by omega, by simp, Lib.hid ((hgr.below.block _ (by omega)).trans HX.out), Lib.hid (HB.out.trans (hgr.below.mono (by omega))), Lib.hid ?_⟩
        rw [HE.out, List.length_append, List.map_append]
        exact hown
      case measure => simp [intOf]; omega
    · obtain rfl : q = rs.length := by omega
      have HBEST := Lib.hid (own_ints0 HO.out)
      change Hid (IntsV _ _ _ (bestT (refAl ms rs) rs.length 0)) at HBEST
      clear HO
      generalize wr = wa at *
      have hp64 : (2 : Nat) ^ rs.length ≤ 64 := by
        have : (2 : Nat) ^ rs.length ≤ 2 ^ 6 := Nat.pow_le_pow_right (by decide) hl6
        simpa using this
      have hcu : IntKind.u64.wrap (rs.length : Int) = rs.length := by simp [IntKind.wrap, IntKind.signed, IntKind.bits]; omega
      have hs0 : (0 : Int) ≤ rs.length := by omega
      have hs64 : (rs.length : Int) ≤ 64 := by omega
      obtain ⟨P, hP⟩ : ∃ P : Nat, 2 ^ rs.length = P := ⟨_, rfl⟩
      have HP := Lib.hid hP
      have hPI : (2 : Int) ^ rs.length = (P : Int) := by rw [← hP]; simp
      rw [hP] at hp64
      have hshl : IntKind.i64.wrap ((2 : Int) ^ rs.length) = (P : Int) := by rw [hPI]; exact IntWalk.i64_in _ (by omega)
      have hshz : wrap64 ((2 : Int) ^ rs.length) = (P : Int) := by rw [hPI]; exact IntWalk.wrap64_in _ (by omega)
      clear hP hPI
      go_wp2
      go_loopw [5, 7] (fun v i wr => ∃ k : Nat, k ≤ P ∧ i = .int .i64 k ∧ Hid (wr.heap[w.heap.size]? = some (.cells #[.slice am ms.length capm] 24 (0, 0))) ∧ Hid (Below w.heap.size w wr) ∧ Hid (IntsV wr.heap.size wr v (bestT (refAl ms rs) rs.length k))) (fun _ i _ => P - (intOf i).toNat)
      case atStart => exact ⟨0, Nat.zero_le _, rfl, HX, HB, HBEST⟩
      case round =>
        clear HX HB HBEST
        obtain ⟨k, hk, rfl, HX, HB, HBEST⟩ := hrel
        by_cases hkl : k < P
        · have hkn : (k : Int) < P := by omega
          generalize wr = wb at *
          go_wp2
          go_loopw [8, 9] (fun v i wr => ∃ q : Nat, q ≤ rs.length ∧ i = .int .i64 q ∧ Hid (Below wb.heap.size wb wr) ∧ Hid (wr.ownsRow wb.heap.size 3 1 v (listS (bitF k) q).length ((listS (bitF k) q).map (Value.int .i64)))) (fun _ i _ => rs.length - (intOf i).toNat)
          case atStart => exact ⟨0, Nat.zero_le _, rfl, Lib.hid (Below.refl _ _), Lib.hid (World.ownsRow_nil _ _ _ _)⟩
          case round =>
            obtain ⟨q, hq, rfl, HB2, HO⟩ := hrel
            by_cases hql : q < rs.length
            · have hqn : (q : Int) < rs.length := by omega
              have hqu : IntKind.u64.wrap (q : Int) = q := by simp [IntKind.wrap, IntKind.signed, IntKind.bits]; omega
              have hq0 : (0 : Int) ≤ q := by omega
              have hq64 : (q : Int) ≤ 64 := by omega
              have hdv := bit_div k q
              have HLY := Lib.hid fun h => @listS_yes (bitF k) q h
              have HLN := Lib.hid fun h => @listS_no (bitF k) q h
              have HLEN := Lib.hid (listS_len (bitF k) q)
              have hsz2 := HB2.out.size
              by_cases hbq : bitF k q = true
              · have htm : ((k : Int) / 2 ^ q).tmod 2 = 1 := by rw [hdv, bit_one hbq]; rfl
                have HE := Lib.hid (HLY.out hbq)
                clear HLY HLN hdv hbq
                go_wp2_with (first
                  | (refine wpList_app el26 rfl (.tmp 40) (.tmp 42) rfl wb.heap.size _ _ _ #[.int .i64 q] rfl (by intro u hu; simp at hu; subst hu; rfl) rfl rfl HO.out hsz2 (by have := HLEN.out; omega) ?_
                     intro g c w' hown hgr _)
                  | fail)
                go_roundw
                case rel =>
                  refine ⟨q + 1, by omega, by simp, Lib.hid (HB2.out.trans hgr.below), Lib.hid ?_⟩
                  rw [HE.out, List.length_append, List.map_append]
                  exact hown
                case measure => simp [intOf]; omega
              · have htm : ((k : Int) / 2 ^ q).tmod 2 = 0 := by rw [hdv, bit_nil (by simpa using hbq)]; rfl
                have HE := Lib.hid (HLN.out (by simpa using hbq))
                clear HLY HLN hdv hbq
                go_wp2
                go_roundw
                case rel => exact ⟨q + 1, by omega, by simp, HB2, by rw [HE.out]; exact HO⟩
                case measure => simp [intOf]; omega
            · obtain rfl : q = rs.length := by omega
              have HL := Lib.hid (own_ints0 HO.out)
              have HBST := Lib.hid ((HBEST.out.same (.below (Nat.le_refl _) HB2.out)).up HB2.out.size)
              have HXR := Lib.hid ((HB2.out.block _ (lt_of_block HX.out)).trans HX.out)
              have HBR := Lib.hid (below_to HB.out HB2.out)
              have HSTEP := Lib.hid (bestT_step (refAl ms rs) rs.length k)
              have HLL := Lib.hid (listS_len (bitF k) rs.length)
              have HBL := Lib.hid (best_len (refAl ms rs) rs.length k)
              have hwk : IntKind.i64.wrap ((k : Int) + 1) = (k : Int) + 1 := IntWalk.i64_in _ (by omega)
              clear HO HX HB HB2 HBEST
              generalize listS (bitF k) rs.length = l at *
              generalize hbk : bestT (refAl ms rs) rs.length k = best at *
              clear hbk
              obtain ⟨la, lc, rfl, -⟩ := HL.out
              obtain ⟨ba, bc, rfl, -⟩ := HBST.out
              have HLE := Lib.hid fun w' (h : Below wr.heap.size wr w') => Less_any wr.heap.size (.slice la l.length lc) (.slice ba best.length bc) l best w' (by have := HLL.out; omega) (by have := HBL.out; omega) (HL.out.same (.below (Nat.le_refl _) h)) (HBST.out.same (.below (Nat.le_refl _) h)) h.size
              have HAL : Hid (refAl ms rs l = decide (okL ms (woT rs l rs.length) ≠ [])) := Lib.hid rfl
              have c0 := cell_of_row wr w.heap.size 0 _ _ _ HXR.out
              simp only [List.getElem?_toArray, List.getElem?_cons_zero] at c0
              have l0 := lt_of_block HXR.out
              generalize lessL l best = z at *
              cases z with
              | false =>
                have HE : Hid (bestT (refAl ms rs) rs.length (k + 1) = best) := Lib.hid (by rw [HSTEP.out, Bool.false_and, if_neg (by simp)])
                go_wp2_with fail
                have g0 := cell_regrown c0
                clear c0
                refine wp_region_quiet_below (by kernel_rfl) (by kernel_rfl) ?_
                repeat (quiet_step (with_reducible exact Calls.regrown_of (HLE.out _ (below_regrown _ _ _))))
                refine wpQuiet_nil ?_
                intro _ hw'
                obtain ⟨⟨dq, osq⟩, hw''⟩ := hw'
                subst hw''
                have hbr := below_regrown wr dq osq
                have R1 := Lib.hid ((hbr.block _ (lt_of_block HXR.out)).trans HXR.out)
                have R2 := Lib.hid (below_to HBR.out hbr)
                have R3 := Lib.hid ((HBST.out.same (.below (Nat.le_refl _) hbr)).up hbr.size)
                clear hbr g0 HXR HBR HBST HL HLE
                go_wp2
                go_roundw
                case rel => exact ⟨k + 1, by omega, by simp, R1, R2, by rw [HE.out]; exact R3⟩
                case measure => simp [intOf]; omega
              | true =>
                have HWO := Lib.hid fun w' (h : Below wr.heap.size wr w') => Without_any n wr.heap.size (.slice ar rs.length capr) (.slice la l.length lc) rs l w' (by omega) (by have := HLL.out; omega) (HRR.out w' (below_to HBR.out h)) (HL.out.same (.below (Nat.le_refl _) h)) (by have := HBR.out.size; have := h.size; omega) h.size
                have HC : Hid (∀ w', Below wr.heap.size wr w' → w'.cell? ⟨w.heap.size, 0, none⟩ = some (.slice am ms.length capm)) := Lib.hid fun w' h => (h.cell (p := ⟨w.heap.size, 0, none⟩) l0).trans c0
                clear c0
                go_wp2_with fail
                refine wp_region_noPanic ?_
                refine wp_region_chain (fun w1 => Below wr.heap.size wr w1) (fun w1 w2 h hb => h.trans (hb.mono h.size)) (below_drawn _) (by kernel_rfl) (fun _ _ _ _ _ h => h)
                  [(false, 0), (false, 1), (true, 2), (false, 3), (false, 4), (false, 5), (false, 6), (true, 7), (true, 8), (false, 9), (false, 10), (false, 11)] [] (by kernel_rfl) ?_
                iterate 2
                  (refine Walk.takes rfl rfl ?_; apply Exists.intro; refine ⟨fun w1 hS => ?_, ?_⟩; (clear hS; go_simp; with_reducible rfl); simp only [List.getElem_toArray, List.getElem_cons_succ, List.getElem_cons_zero, Act.put, List.setIfInBounds_toArray, List.set_cons_zero, List.set_cons_succ])
                refine Walk.calls rfl rfl ?_; apply Exists.intro; apply Exists.intro; refine ⟨fun w2 hS => ?_, fun p1 hp1 => ?_⟩; (clear hS; go_simp; exact ⟨rfl, rfl⟩)
                have hq1 := grow_to (below_drawn wr) hp1
                refine (HLE.out p1 hq1).mono ?_
                rintro e p2 ⟨rfl, hb2⟩
                refine ⟨_, rfl, hb2, ?_⟩
                simp only [List.getElem_toArray, List.getElem_cons_succ, List.getElem_cons_zero, Act.put, List.setIfInBounds_toArray, List.set_cons_zero, List.set_cons_succ]
                have hq2 := grow_to hq1 hb2
                iterate 4
                  (refine Walk.takes rfl rfl ?_; apply Exists.intro; refine ⟨fun w1 hS => ?_, ?_⟩; (have d0 := HC.out w1 hS; clear hS; go_simp; with_reducible rfl); simp only [List.getElem_toArray, List.getElem_cons_succ, List.getElem_cons_zero, Act.put, List.setIfInBounds_toArray, List.set_cons_zero, List.set_cons_succ])
                refine Walk.calls rfl rfl ?_; apply Exists.intro; apply Exists.intro; refine ⟨fun w2 hS => ?_, fun p3 hp3 => ?_⟩; (clear hS; go_simp; exact ⟨rfl, rfl⟩)
                have hq3 := grow_to hq2 hp3
                refine (HWO.out p3 hq3).mono ?_
                rintro e p4 ⟨⟨wv, rfl, hwv⟩, hb4⟩
                refine ⟨_, rfl, hb4, ?_⟩
                simp only [List.getElem_toArray, List.getElem_cons_succ, List.getElem_cons_zero, Act.put, List.setIfInBounds_toArray, List.set_cons_zero, List.set_cons_succ]
                have hq4 := grow_to hq3 hb4
                refine Walk.calls rfl rfl ?_; apply Exists.intro; apply Exists.intro; refine ⟨fun w2 hS => ?_, fun p5 hp5 => ?_⟩; (clear hS; go_simp; exact ⟨rfl, rfl⟩)
                have hq5 := grow_to hq4 hp5
                refine (Allowed_any p4.heap.size _ _ ms (woT rs l rs.length) p5 (wo_room HK.out l) ⟨hp5.size, ((HM.out p5 (below_to HBR.out hq5)).up (Nat.le_trans hn (Nat.le_trans HBR.out.size hq4.size))), hwv.same (.below (Nat.le_refl _) hp5)⟩).mono ?_
                rintro e p6 ⟨v9, rfl, hl9, hb6⟩
                refine ⟨_, rfl, hb6, ?_⟩
                simp only [List.getElem_toArray, List.getElem_cons_succ, List.getElem_cons_zero, Act.put, List.setIfInBounds_toArray, List.set_cons_zero, List.set_cons_succ]
                obtain ⟨sa, cap9, rfl, -, -⟩ := hl9.form
                have hq6 := grow_to hq5 hb6
                clear hl9 hwv
                iterate 3
                  (refine Walk.takes rfl rfl ?_; apply Exists.intro; refine ⟨fun w1 hS => ?_, ?_⟩; (clear hS; go_simp; with_reducible rfl); simp only [List.getElem_toArray, List.getElem_cons_succ, List.getElem_cons_zero, Act.put, List.setIfInBounds_toArray, List.set_cons_zero, List.set_cons_succ])
                refine Walk.fin fun p9 hb9 hS9 => ?_
                refine Tail.done (NoPanic.normal ?_)
                have R1 := Lib.hid ((hS9.block _ (lt_of_block HXR.out)).trans HXR.out)
                have R2 := Lib.hid (below_to HBR.out hS9)
                have R3 := Lib.hid ((HBST.out.same (.below (Nat.le_refl _) hS9)).up hS9.size)
                have R4 := Lib.hid ((HL.out.same (.below (Nat.le_refl _) hS9)).up hS9.size)
                clear hS9 hb9 hq6 hb6 hq5 hp5 hq4 hb4 hq3 hp3 hq2 hb2 hq1 hp1 HC HWO HLE HXR HBR HBST HL
                by_cases hok : okL ms (woT rs l rs.length) = []
                · have HE : Hid (bestT (refAl ms rs) rs.length (k + 1) = best) := Lib.hid (by rw [HSTEP.out, HAL.out, hok]; simp)
                  rw [hok]
                  clear hok
                  go_wp2
                  go_roundw
                  case rel => exact ⟨k + 1, by omega, by simp, R1, R2, by rw [HE.out]; exact R3⟩
                  case measure => simp [intOf]; omega
                · have HE : Hid (bestT (refAl ms rs) rs.length (k + 1) = l) := Lib.hid (by rw [HSTEP.out, HAL.out]; simp [hok])
                  have hpos := List.length_pos_iff.2 hok
                  have hposI : (0 : Int) < (okL ms (woT rs l rs.length)).length := by omega
                  generalize (okL ms (woT rs l rs.length)).length = nl at *
                  clear hok
                  go_wp2
                  go_roundw
                  case rel => exact ⟨k + 1, by omega, by simp, R1, R2, by rw [HE.out]; exact R4⟩
                  case measure => simp [intOf]; omega
        · obtain rfl : k = P := by omega
          have hkn : ¬ (k : Int) < k := by omega
          rw [← HP.out] at HBEST
          go_wp2
          go_ret
          exact ⟨⟨_, rfl, HBEST.out⟩, HB.out⟩
end Go.Proofs.Ytfijaafkagcmmaa
