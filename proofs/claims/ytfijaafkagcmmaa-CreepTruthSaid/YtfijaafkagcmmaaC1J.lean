/- Do runs allow rates, by the reference: its contract. Condition: valid runs, rates in their limits. All rates that runs allow, by the reference, and the error if there are none: contracts. Condition: lists no longer than any machine's. The error of a material with runs, if rates have to be allowed: the law's own contract. Condition: lists no longer than any machine's. The law CreepRates, walked. No condition. -/
import Derived.Test.YtfijaafkagcmmaaL2J
import Derived.BigRegion
import Derived.StillTailTactics
namespace Go.Proofs.Ytfijaafkagcmmaa
open Go.RowKit Go.Shelf
attribute [local irreducible] arrV wpQuiet

set_option maxRecDepth 100000 in
set_option maxHeartbeats 2000000 in
theorem refAllows_any (n : Nat) (rv xv : Value) (rs : List Rn) (x : List Int) (w : World) (hK : ∀ r, r ∈ rs → RnOk x.length r) (hl : rs.length ≤ 6) (hx : Rates x) (hxl : x.length ≤ 1000) (hR : RunsV n w rv rs) (hX : IntsV n w xv x) (hn : n ≤ w.heap.size) :
    Calls Try.prog 26 #[rv, xv] w fun e w' => e = .returned (.bool (allB rs x)) ∧ Below w.heap.size w w' := by
  obtain ⟨a, cap, rfl, hp⟩ := hR
  have HP := Lib.hid hp
  have HST := Lib.hid fun (k : Nat) (hk : k < rs.length) sv w' (hs : SegsV n w' sv (rn rs k).ss) (h : Below w.heap.size w w') => refStretch_any n sv xv (rn rs k).ss x w' hx (hK _ (rn_mem hk)).toPlanOk hs (hX.same (.below hn h)) (Nat.le_trans hn h.size) hxl
  have hA4 := @allN_yes (fun k => fitsB (rn rs k) x) rs.length
  have hN4 := fun j => @allN_no (fun k => fitsB (rn rs k) x) rs.length j
  have hSM : ∀ k, k < rs.length → 0 ≤ loS (rn rs k).ss x ∧ hiS (rn rs k).ss x ≤ 8000000000 := fun k hk => by
    have h1 := sums hx (hK _ (rn_mem hk)).sg
    have h2 := (hK _ (rn_mem hk)).len
    omega
  rw [allN_fits] at hA4 hN4
  have HA4 := Lib.hid hA4
  have HN4 := Lib.hid hN4
  obtain ⟨xa, xcap, rfl, -⟩ := hX
  generalize allB rs x = z4 at *
  clear hp hA4 hN4 hK hx hSM
  go_enter Try.func26, Try.ntmps26
  go_wp2
  go_loopw [5] (fun i wr => ∃ (k : Nat), k ≤ rs.length ∧ i = .int .i64 k ∧ Hid (∀ j, j < k → fitsB (rn rs j) x = true) ∧ Hid (Below w.heap.size w wr)) (fun i _ => rs.length - (intOf i).toNat)
  case atStart => exact ⟨0, Nat.zero_le _, rfl, Lib.hid (fun j hj => by omega), Lib.hid (Below.refl _ _)⟩
  case round =>
    obtain ⟨k, hk, rfl, hg, hb⟩ := hrel
    by_cases hkl : k < rs.length
    · obtain ⟨b2, off2, rfl, hbn2, hc2⟩ := HP.out (by omega)
      obtain ⟨sv, s1, s2, s3, s4⟩ := hc2 k hkl
      have hltb2 : b2 < w.heap.size := by omega
      have u1 := (hb.out.cell (p := ⟨b2, off2 + k * 3, none⟩) hltb2).trans s1
      have hkn : (k : Int) < rs.length := by omega
      have hwk : IntKind.i64.wrap ((k : Int) + 1) = (k : Int) + 1 := IntWalk.i64_in _ (by omega)
      have HS := Lib.hid (HST.out k hkl sv wr (s4.same (.below hn hb.out)) hb.out)
      have HC : Hid (∀ w', Below wr.heap.size wr w' → w'.cell? ⟨b2, off2 + k * 3 + 1, none⟩ = some (.int .i64 (rn rs k).seen.lo) ∧ w'.cell? ⟨b2, off2 + k * 3 + 2, none⟩ = some (.int .i64 (rn rs k).seen.hi) ∧ b2 < w'.heap.size) := Lib.hid fun w' h =>
        ⟨((below_to hb.out h).cell (p := ⟨b2, off2 + k * 3 + 1, none⟩) hltb2).trans s2, ((below_to hb.out h).cell (p := ⟨b2, off2 + k * 3 + 2, none⟩) hltb2).trans s3, by have := (below_to hb.out h).size; omega⟩
      have HN4k := Lib.hid (HN4.out k hkl)
      have HF : Hid (fitsB (rn rs k) x = (decide (loS (rn rs k).ss x ≤ (rn rs k).seen.hi) && decide ((rn rs k).seen.lo ≤ hiS (rn rs k).ss x))) := Lib.hid rfl
      have HGK : Hid (fitsB (rn rs k) x = true → ∀ j, j < k + 1 → fitsB (rn rs j) x = true) := Lib.hid fun h j hj => by
        by_cases e : j = k
        · rw [e]; exact h
        · exact hg.out j (by omega)
      clear hg hc2 s1 s2 s3 s4 hbn2
      generalize fitsB (rn rs k) x = sb at *
      generalize (rn rs k).seen.lo = slo at *
      generalize (rn rs k).seen.hi = shi at *
      generalize loS (rn rs k).ss x = l at *
      generalize hiS (rn rs k).ss x = h at *
      go_wp2_with fail
      refine HS.out.mono ?_
      rintro e w1 ⟨rfl, hb1⟩
      have hb' := Lib.hid (below_to hb.out hb1)
      have HC1 := Lib.hid fun w' (h' : Below w1.heap.size w1 w') => HC.out w' (below_to hb1 h')
      clear hb1 u1 hb HC HS
      go_wp2_with fail
      have hn2 := heap_alloc_new w1 (.cells #[.int .i64 l, .int .i64 h] 60)
      have hb2' := box_below w1 (.cells #[.int .i64 l, .int .i64 h] 60)
      have HB2 := Lib.hid (below_to hb'.out hb2')
      obtain ⟨d1, d2, d3⟩ := HC1.out _ hb2'
      have d4 := cell_of_row _ w1.heap.size 0 _ _ _ hn2
      have d5 := cell_of_row _ w1.heap.size 1 _ _ _ hn2
      simp only [List.getElem?_toArray, List.getElem?_cons_zero, List.getElem?_cons_succ] at d4 d5
      have d6 := lt_of_block hn2
      clear hb' HC1 hn2 hb2'
      generalize World.alloc w1 _ = w2 at *
      generalize w1.heap.size = b3 at *
      have v1 := cell_regrown d1
      have v2 := cell_regrown d2
      have v4 := cell_regrown d4
      have v5 := cell_regrown d5
      clear d1 d2 d4 d5
      by_cases p1 : l ≤ shi
      · have q1 : ¬ shi < l := by omega
        have q1' : decide (shi < l) = false := by simpa using p1
        by_cases p2 : slo ≤ h
        · have q2 : ¬ h < slo := by omega
          have q2' : decide (h < slo) = false := by simpa using p2
          obtain rfl : sb = true := by rw [HF.out]; simp [p1, p2]
          have HG2 := Lib.hid (HGK.out rfl)
          clear HF HGK HN4k
          refine wp_region_quiet_below (by kernel_rfl) (by kernel_rfl) ?_
          repeat (quiet_step (fail))
          refine wpQuiet_nil ?_
          intro _ hw'
          obtain ⟨⟨dq, osq⟩, hw''⟩ := hw'
          subst hw''
          have hbr := Lib.hid (below_to HB2.out (below_regrown w2 dq osq))
          clear v1 v2 v4 v5
          go_wp2
          go_roundw
          case rel => exact ⟨k + 1, by omega, by simp, HG2, hbr⟩
          case measure => simp [intOf]; omega
        · have q2 : h < slo := by omega
          have q2' : decide (h < slo) = true := by simpa using q2
          obtain rfl : sb = false := by rw [HF.out]; simp [p1, p2]
          have HZ := HN4k.out rfl
          subst HZ
          clear HF HGK HN4k
          refine wp_region_quiet_below (by kernel_rfl) (by kernel_rfl) ?_
          repeat (quiet_step (fail))
          refine wpQuiet_nil ?_
          intro _ hw'
          obtain ⟨⟨dq, osq⟩, hw''⟩ := hw'
          subst hw''
          have hbr := Lib.hid (below_to HB2.out (below_regrown w2 dq osq))
          clear v1 v2 v4 v5
          go_wp2
          go_ret
          exact ⟨rfl, hbr.out⟩
      · have q1 : shi < l := by omega
        have q1' : decide (shi < l) = true := by simpa using q1
        obtain rfl : sb = false := by rw [HF.out]; simp [p1]
        have HZ := HN4k.out rfl
        subst HZ
        clear HF HGK HN4k
        refine wp_region_quiet_below (by kernel_rfl) (by kernel_rfl) ?_
        repeat (quiet_step (fail))
        refine wpQuiet_nil ?_
        intro _ hw'
        obtain ⟨⟨dq, osq⟩, hw''⟩ := hw'
        subst hw''
        have hbr := Lib.hid (below_to HB2.out (below_regrown w2 dq osq))
        clear v1 v2 v4 v5
        go_wp2
        go_ret
        exact ⟨rfl, hbr.out⟩
    · obtain rfl : k = rs.length := by omega
      have HT := HA4.out hg.out
      subst HT
      go_wp2
      all_goals
        go_ret
        exact ⟨rfl, hb.out⟩
end Go.Proofs.Ytfijaafkagcmmaa
namespace Go.Proofs.Ytfijaafkagcmmaa
open Go.RowKit Go.Shelf
attribute [local irreducible] arrV wpQuiet

theorem ListsV.at_ {base : Nat} {w : World} {sa : Option Addr} {n cap i : Nat} {LL : List (List Int)} {L : List Int} (h : ListsV base w (.slice sa n cap) LL) (hi : LL[i]? = some L) :
    ∃ g u, sa = some ⟨g, 0, none⟩ ∧ w.cell? ⟨g, i, none⟩ = some u ∧ NumV w u L := by
  obtain ⟨sa', cap', e, _, hf⟩ := h.form
  simp only [Value.slice.injEq] at e
  obtain ⟨rfl, -, -⟩ := e
  exact hf i L hi
theorem ListsV.lit {w : World} {v : Value} {L : List Int} (h : NumV w v L) : ListsV w.heap.size (w.alloc (.cells #[v] 26 (0, 0))) (.slice (some ⟨w.heap.size, 0, none⟩) 1 1) [L] :=
  ⟨[v], ⟨rfl, .inr ⟨w.heap.size, 1, #[v], rfl, Nat.le_refl _, heap_alloc_new w _, Nat.le_refl _, by simp [maxLen], rfl, rfl⟩⟩, h.below (box_below w _), trivial⟩
theorem filter_take_yes {LL : List (List Int)} {k : Nat} {L : List Int} {f : List Int → Bool} (h : LL[k]? = some L) (hf : f L = true) : (LL.take (k + 1)).filter f = (LL.take k).filter f ++ [L] := by
  rw [List.take_add_one, h]
  simp [List.filter_append, hf]
theorem filter_take_no {LL : List (List Int)} {k : Nat} {L : List Int} {f : List Int → Bool} (h : LL[k]? = some L) (hf : f L = false) : (LL.take (k + 1)).filter f = (LL.take k).filter f := by
  rw [List.take_add_one, h]
  simp [List.filter_append, hf]

set_option maxRecDepth 100000 in
set_option maxHeartbeats 2000000 in
theorem Allowed_any (n : Nat) (mv rv : Value) (ms : List Rg) (rs : List Rn) (w : World) (hK : RoomOk ms rs) (hV : RoomV n w mv rv ms rs) :
    Calls Try.prog 29 #[.agg #[mv], rv] w (Lists1 w (okL ms rs)) := by
  have hn := hV.lt
  have HRV := Lib.hid fun w' (h : Below w.heap.size w w') => (hV.below h).r
  have HKK := Lib.hid hK
  obtain ⟨am, capm, rfl, -⟩ := hV.m
  have HLA := Lib.hid fun w' (h : Below w.heap.size w w') => Lists_all n am capm ms w' hK.mat.toRgsOk (hV.below h).m (hV.below h).lt
  have HM9 := Lib.hid (show (allL ms).length ≤ 9261 by have := rest_len hK.mat.toRgsOk []; rwa [restL_nil] at this)
  obtain ⟨ar, capr, rfl, -⟩ := hV.r
  have HB := Lib.hid (box_below w (.cells #[.slice am ms.length capm] 24))
  have HEL : Hid (∀ k L, (allL ms)[k]? = some L → L ∈ allL ms) := Lib.hid fun k L h => List.mem_of_getElem? h
  have HOK : Hid (okL ms rs = (allL ms).filter (allB rs)) := Lib.hid rfl
  rw [HOK.out]
  clear hV hK
  go_enter Try.func29, Try.ntmps29
  go_wp2_with fail
  refine (HLA.out _ HB.out).mono ?_
  rintro e w1 ⟨v, rfl, hl1, hb1⟩
  obtain ⟨va, vc, rfl, -, -⟩ := hl1.form
  have HL1 := Lib.hid (hl1.mono (Nat.zero_le _))
  have HB1 := Lib.hid (below_to HB.out hb1)
  clear hl1 hb1 HLA HB
  generalize hLL : allL ms = LL at *
  have HLL := Lib.hid hLL
  clear hLL
  go_wp2
  go_loopw [5, 7] (fun s i wr => ∃ (k : Nat), k ≤ LL.length ∧ i = .int .i64 k ∧ Hid (ListsV w1.heap.size wr s ((LL.take k).filter (allB rs))) ∧ Hid (Below w1.heap.size w1 wr)) (fun _ i _ => LL.length - (intOf i).toNat)
  case atStart => exact ⟨0, Nat.zero_le _, rfl, Lib.hid (ListsV.nil _ _), Lib.hid (Below.refl _ _)⟩
  case round =>
    obtain ⟨k, hk, rfl, HS, HBr⟩ := hrel
    by_cases hkl : k < LL.length
    · have hkn : (k : Int) < LL.length := by omega
      have hwk : IntKind.i64.wrap ((k : Int) + 1) = (k : Int) + 1 := IntWalk.i64_in _ (by have := HM9.out; omega)
      obtain ⟨L, hL⟩ : ∃ L, LL[k]? = some L := ⟨_, List.getElem?_eq_getElem hkl⟩
      have hmem := HEL.out k L hL
      rw [← HLL.out] at hmem
      have HME := Lib.hid hmem
      have HLE := Lib.hid (len_of hmem)
      obtain ⟨g, u, rfl, c0, hN⟩ := (HL1.out.below HBr.out).at_ hL
      obtain ⟨ua, uc, rfl, -⟩ := hN.form
      have HNN := Lib.hid hN
      have HLK := Lib.hid hL
      have l0 := block_lt_of_cell c0
      have hcall := refAllows_any wr.heap.size (.slice ar rs.length capr) (.slice ua L.length uc) rs L wr (by rw [HLE.out]; exact HKK.out.rn) HKK.out.len (rates_of HME.out HKK.out.mat.toRgsOk) (by have := HLE.out; have := HKK.out.mat.len; omega)
        ((HRV.out wr (below_to HB1.out HBr.out)).up (by have := HB1.out.size; have := HBr.out.size; omega)) (hN.ints (by have := HLE.out; have := HKK.out.mat.one; omega)) (Nat.le_refl _)
      clear hmem hN hL
      go_wp2_with fail
      refine hcall.mono ?_
      rintro e w2 ⟨rfl, hb2⟩
      replace HS := Lib.hid (HS.out.below hb2)
      replace HNN := Lib.hid (HNN.out.below hb2)
      replace HBr := Lib.hid (grow_to HBr.out hb2)
      have c1 := (hb2.cell (p := ⟨g, k, none⟩) l0).trans c0
      have l1 := Nat.lt_of_lt_of_le l0 hb2.size
      clear hcall hb2 c0 l0
      cases hz : allB rs L with
      | false =>
        have HE := Lib.hid (filter_take_no HLK.out hz)
        rw [← HE.out] at HS
        clear hz HE c1 l1
        go_wp2
        go_roundw
        case rel => exact ⟨k + 1, by omega, by simp, HS, HBr⟩
        case measure => simp [intOf]; omega
      | true =>
        have HE := Lib.hid (filter_take_yes HLK.out hz)
        have hbb := box_below w2 (.cells #[.slice ua L.length uc] 26 (0, 0))
        obtain ⟨v', w3, hrun, hl3, hg3, hown⟩ := append_lists w1.heap.size 47 u5 (.slice (some ⟨w2.heap.size, 0, none⟩) 1 1) _ [L] (w2.alloc (.cells #[.slice ua L.length uc] 26 (0, 0))) (HS.out.below hbb) ((ListsV.lit HNN.out).mono (Nat.zero_le _))
          (by have h1 := List.length_filter_le (allB rs) (LL.take k); have h2 := HM9.out; rw [List.length_take] at h1; simp only [List.length_cons, List.length_nil]; omega) (by have := HBr.out.size; simp; omega)
        have hb3 : Below w1.heap.size w1 w3 := ⟨hg3.os.trans (hbb.os.trans HBr.out.os), hg3.tape.trans (hbb.tape.trans HBr.out.tape), hg3.output.trans (hbb.output.trans HBr.out.output), Nat.le_trans HBr.out.size (Nat.le_trans hbb.size hg3.size), fun k' hk' =>
          (hg3.block k' (Nat.lt_of_lt_of_le hk' (Nat.le_trans HBr.out.size hbb.size)) (fun e => by have := hown k' e.symm; omega)).trans ((hbb.block k' (Nat.lt_of_lt_of_le hk' HBr.out.size)).trans (HBr.out.block k' hk'))⟩
        rw [← HE.out] at hl3
        have HRUN := Lib.hid hrun
        have HS3 := Lib.hid hl3
        have HB3 := Lib.hid hb3
        have hbu : Try.prog.builtSlice 26 1 [(0, .slice ua L.length uc)] = some #[.slice ua L.length uc] := by kernel_rfl
        clear hz HE hrun hl3 hb3 hg3 hown hbb
        go_wp2_with (first
          | (refine wpList_append_run (v := v') (W' := w3) (y := u5) (z := .slice (some ⟨w2.heap.size, 0, none⟩) 1 1) rfl (.tmp 22) (.tmp 27) 47 47 47 rfl rfl rfl rfl HRUN.out ?_)
          | fail)
        go_roundw
        case rel => exact ⟨k + 1, by omega, by simp, HS3, HB3⟩
        case measure => simp [intOf]; omega
    · obtain rfl : k = LL.length := by omega
      have HS' := HS.out
      rw [List.take_of_length_le (Nat.le_refl _)] at HS'
      have HS2 := Lib.hid HS'
      clear HS'
      go_wp2
      go_ret
      exact ⟨_, rfl, HS2.out.mono HB1.out.size, grow_to HB1.out HBr.out⟩
end Go.Proofs.Ytfijaafkagcmmaa
namespace Go.Proofs.Ytfijaafkagcmmaa
open Go.RowKit Go.Shelf
attribute [local irreducible] arrV wpQuiet

set_option maxRecDepth 100000 in
set_option maxHeartbeats 2000000 in
theorem asked_any (n : Nat) (mv rv : Value) (ms : List Rg) (rs : List Rn) (w : World) (hL : Held ms rs) (hV : RoomV n w mv rv ms rs) :
    Calls Try.prog 28 #[.agg #[mv], rv] w fun e w' => e = .returned (.int .i64 (allowE ms rs)) ∧ Below w.heap.size w w' := by
  have hn := hV.lt
  have HFA := Lib.hid fun w' (h : Below w.heap.size w w') => fault_any n mv rv ms rs w' (len_max hL.m) (len_max hL.r) (fun r hr => len_max (hL.s r hr)) (hV.below h).m (hV.below h).r (hV.below h).lt
  by_cases hf : faultE ms rs = 0
  · have hK := faultE_ok hf
    have HAL := Lib.hid fun w' (h : Below w.heap.size w w') => Allowed_any n mv rv ms rs w' hK (hV.below h)
    rw [hf] at HFA
    have hA : Hid (allowE ms rs = failE (someB (okL ms rs))) := Lib.hid (if_pos hf)
    rw [hA.out]
    obtain ⟨am, capm, rfl, -⟩ := hV.m
    obtain ⟨ar, capr, rfl, -⟩ := hV.r
    have HX := Lib.hid (heap_alloc_new w (.cells #[.slice am ms.length capm] 24))
    have HB := Lib.hid (box_below w (.cells #[.slice am ms.length capm] 24))
    clear hV hK hL hf hA
    generalize okL ms rs = LL at *
    go_enter Try.func28, Try.ntmps28
    go_wp2_with fail
    refine (HFA.out _ HB.out).mono ?_
    rintro e w1 ⟨rfl, hb1⟩
    have hx1 := (hb1.block _ (lt_of_block HX.out)).trans HX.out
    have c0 := cell_of_row w1 w.heap.size 0 _ _ _ hx1
    simp only [List.getElem?_toArray, List.getElem?_cons_zero] at c0
    have l0 := lt_of_block hx1
    have HB1 := Lib.hid (below_to HB.out hb1)
    clear hb1 hx1
    go_wp2_with fail
    refine (HAL.out _ HB1.out).mono ?_
    rintro e w2 ⟨v, rfl, hl, hb2⟩
    have HB2 := Lib.hid (below_to HB1.out hb2)
    obtain ⟨va, vc, rfl, -, -⟩ := hl.form
    clear hl hb2 c0 l0
    cases LL with
    | nil =>
      go_wp2
      go_ret
      exact ⟨rfl, HB2.out⟩
    | cons L LL =>
      have hne2 : ((LL.length : Int) + 1 == 0) = false := by rw [beq_eq_false_iff_ne]; omega
      have hne3 : ¬ ((LL.length : Int) + 1 = 0) := by omega
      go_wp2
      go_ret
      exact ⟨rfl, HB2.out⟩
  · have hA : Hid (allowE ms rs = faultE ms rs) := Lib.hid (if_neg hf)
    rw [hA.out]
    obtain ⟨am, capm, rfl, -⟩ := hV.m
    obtain ⟨ar, capr, rfl, -⟩ := hV.r
    have HB := Lib.hid (box_below w (.cells #[.slice am ms.length capm] 24))
    clear hV hL hA
    generalize faultE ms rs = E at *
    have h1 : (E == 0) = false := by rw [beq_eq_false_iff_ne]; exact hf
    have h2 : (E != 0) = true := by rw [bne_iff_ne]; exact hf
    go_enter Try.func28, Try.ntmps28
    go_wp2_with fail
    refine (HFA.out _ HB.out).mono ?_
    rintro e w1 ⟨rfl, hb1⟩
    have HB1 := Lib.hid (below_to HB.out hb1)
    clear hb1
    go_wp2
    go_ret
    exact ⟨rfl, HB1.out⟩
end Go.Proofs.Ytfijaafkagcmmaa
namespace Go.Proofs.Ytfijaafkagcmmaa
open Go.RowKit Go.Shelf
attribute [local irreducible] arrV wpQuiet

theorem lists_cell {base : Nat} {w : World} {sa : Option Addr} {n cap i : Nat} {LL : List (List Int)} {L : List Int} (h : ListsV base w (.slice sa n cap) LL) (hi : LL[i]? = some L) (h0 : 0 < L.length) :
    ∃ g h uc, sa = some ⟨g, 0, none⟩ ∧ w.cell? ⟨g, i, none⟩ = some (.slice (some ⟨h, 0, none⟩) L.length uc) ∧ ∀ j, j < L.length → w.cell? ⟨h, j, none⟩ = some (.int .i64 (ld L j)) := by
  obtain ⟨g, u, rfl, hc, hN⟩ := h.at_ hi
  obtain ⟨ua, uc, rfl, h1, h2⟩ := hN.form
  cases ua with
  | none => exact absurd (h1 rfl) (by omega)
  | some ad =>
    obtain ⟨g2, rfl, h3⟩ := h2 ad rfl
    exact ⟨g, g2, uc, rfl, hc, fun j hj => by have := h3 j hj; rwa [Nat.zero_add] at this⟩
def loT (LL : List (List Int)) (b i : Nat) : Int := ((LL.take i).map (ld · b)).foldl min (ld ((LL[0]?).getD []) b)
def hiT (LL : List (List Int)) (b i : Nat) : Int := ((LL.take i).map (ld · b)).foldl max (ld ((LL[0]?).getD []) b)
theorem loT_step {LL : List (List Int)} {b i : Nat} {L : List Int} (h : LL[i]? = some L) : loT LL b (i + 1) = min (loT LL b i) (ld L b) ∧ hiT LL b (i + 1) = max (hiT LL b i) (ld L b) := by
  unfold loT hiT
  rw [List.take_add_one, h]
  simp [List.foldl_append]
theorem loT_end {LL : List (List Int)} (h : LL ≠ []) (b : Nat) : loT LL b LL.length = lowR LL b ∧ hiT LL b LL.length = highR LL b := by
  cases LL with
  | nil => exact absurd rfl h
  | cons L LL =>
    unfold loT hiT lowR highR
    rw [List.take_of_length_le (Nat.le_refl _)]
    simp [leastL, greatL, rt_ld]
theorem allow_ok {ms : List Rg} {rs : List Rn} (h : allowE ms rs = 0) : RoomOk ms rs ∧ okL ms rs ≠ [] := by
  unfold allowE at h
  by_cases hf : faultE ms rs = 0
  · rw [if_pos hf] at h
    refine ⟨faultE_ok hf, fun e => ?_⟩
    rw [e] at h
    simp [failE, someB] at h
  · rw [if_neg hf] at h
    exact absurd h hf
theorem thin_held {nm np : Nat} {ms : List Rg} {rs : List Rn} (hm : ms.length = nm) (h : thinB nm rs np = true) : Held ms rs := by
  obtain ⟨h1, h2, _, h4⟩ := thin_all h
  exact ⟨by omega, by omega, fun r hr => by have := h4 r hr; omega⟩
theorem rg_ranges {al : List (List Int)} {n k : Nat} (h : k < n) : rg (rangesL al n) k = ⟨lowR al k, highR al k⟩ := by simp [rg, rangesL, h]

set_option maxRecDepth 100000 in
set_option maxHeartbeats 4000000 in
theorem rates_walk (mv rv : Value) (ms : List Rg) (rs : List Rn) (w : World) (hV : RgsV w.heap.size w mv ms) (hR : RunsV w.heap.size w rv rs) :
    Calls Try.prog 4 #[.agg #[mv], rv] w fun e w' => e = .returned (.bool true) ∧ Below w.heap.size w w' := by
  have HROOM : Hid (∀ w', Below w.heap.size w w' → RoomV w.heap.size w' mv rv ms rs) := Lib.hid fun w' h => ⟨h.size, hV.same (.below (Nat.le_refl _) h), hR.same (.below (Nat.le_refl _) h)⟩
  have HMA0 := Lib.hid fun (hl : ms.length ≤ 1000) w' (h : Below w.heap.size w w') => Material_any w.heap.size mv ms w' hl (hV.same (.below (Nat.le_refl _) h)) h.size
  have HRU0 := Lib.hid fun (hl : rs.length ≤ 1000) (hs : ∀ q, q ∈ rs → q.ss.length ≤ 1000) w' (h : Below w.heap.size w w') => Runs_any w.heap.size rv rs w' hl hs (hR.same (.below (Nat.le_refl _) h)) h.size
  obtain ⟨am, capm, rfl, -⟩ := hV
  have HTH := Lib.hid fun w' (h : Below w.heap.size w w') => Thin_any w.heap.size am ms.length capm rv none 0 0 rs w' (hR.same (.below (Nat.le_refl _) h)) h.size
  obtain ⟨ar, capr, rfl, -⟩ := hR
  have HX := Lib.hid (heap_alloc_new w (.cells #[.slice am ms.length capm] 24))
  have HB := Lib.hid (box_below w (.cells #[.slice am ms.length capm] 24))
  have HA := Lib.hid awake_any
  have HHE := Lib.hid fun h => @thin_held ms.length 0 ms rs rfl h
  generalize hz : thinB ms.length rs 0 = z at *
  clear hz
  go_enter Try.func4, Try.ntmps4
  go_wp2_with fail
  refine (HTH.out _ HB.out).mono ?_
  rintro e u0 ⟨rfl, hb⟩
  have HXA := Lib.hid ((hb.block _ (lt_of_block HX.out)).trans HX.out)
  have HBA := Lib.hid (below_to HB.out hb)
  clear hb HX HB HTH
  cases z with
  | false =>
    go_wp2_with fail
    refine (HA.out u0).mono ?_
    rintro e u1 ⟨rfl, hb⟩
    have HBF := Lib.hid (below_to HBA.out hb)
    clear hb
    go_wp2
    go_ret
    exact ⟨rfl, HBF.out⟩
  | true =>
    have HH := Lib.hid (HHE.out (by trivial))
    have HMA := Lib.hid (HMA0.out HH.out.m)
    have HRU := Lib.hid (HRU0.out HH.out.r HH.out.s)
    clear HHE HMA0 HRU0
    have c0 := cell_of_row u0 w.heap.size 0 _ _ _ HXA.out
    simp only [List.getElem?_toArray, List.getElem?_cons_zero] at c0
    have l0 := lt_of_block HXA.out
    by_cases hE : allowE ms rs ≠ 0
    · have HE := Lib.hid hE
      clear hE
      go_wp2_with fail
      refine (HMA.out u0 HBA.out).mono ?_
      rintro e u1 ⟨⟨m6, rfl, hm6⟩, hb⟩
      replace HXA := Lib.hid ((hb.block _ (lt_of_block HXA.out)).trans HXA.out)
      replace HBA := Lib.hid (below_to HBA.out hb)
      clear hb
      have HM6 := Lib.hid hm6
      clear hm6 c0 l0
      go_wp2_with fail
      refine (HRU.out u1 HBA.out).mono ?_
      rintro e u2 ⟨⟨r7, rfl, hr7⟩, hb⟩
      replace HXA := Lib.hid ((hb.block _ (lt_of_block HXA.out)).trans HXA.out)
      replace HBA := Lib.hid (below_to HBA.out hb)
      replace HM6 := Lib.hid ((HM6.out.same (.below (Nat.le_refl _) hb)).up hb.size)
      clear hb
      have HV7 : Hid (RoomV u2.heap.size u2 m6 r7 ms rs) := Lib.hid ⟨Nat.le_refl _, HM6.out, hr7⟩
      clear hr7 HM6
      go_wp2_with fail
      have hra := Rates_err u2.heap.size m6 r7 ms rs u2 HH.out HV7.out HE.out
      refine (hra).mono ?_
      rintro e u3 ⟨rfl, hb⟩
      replace HXA := Lib.hid ((hb.block _ (lt_of_block HXA.out)).trans HXA.out)
      replace HBA := Lib.hid (below_to HBA.out hb)
      clear hb
      clear hra HV7
      have c0 := cell_of_row u3 w.heap.size 0 _ _ _ HXA.out
      simp only [List.getElem?_toArray, List.getElem?_cons_zero] at c0
      have l0 := lt_of_block HXA.out
      go_wp2_with fail
      have has := asked_any w.heap.size _ _ ms rs u3 HH.out (HROOM.out u3 HBA.out)
      refine (has).mono ?_
      rintro e u4 ⟨rfl, hb⟩
      replace HXA := Lib.hid ((hb.block _ (lt_of_block HXA.out)).trans HXA.out)
      replace HBA := Lib.hid (below_to HBA.out hb)
      clear hb
      clear has c0 l0
      have he := HE.out
      generalize allowE ms rs = E at *
      have h1 : (E == 0) = false := by rw [beq_eq_false_iff_ne]; exact he
      have h2 : (E != 0) = true := by rw [bne_iff_ne]; exact he
      clear he HE
      go_wp2_with fail
      refine (HA.out u4).mono ?_
      rintro e u5 ⟨rfl, hb⟩
      have HBF := Lib.hid (below_to HBA.out hb)
      clear hb
      go_wp2
      go_ret
      exact ⟨rfl, HBF.out⟩
    · have hE0 : allowE ms rs = 0 := Classical.not_not.1 hE
      have HE := Lib.hid hE0
      have HK := Lib.hid (allow_ok hE0).1
      have HNE := Lib.hid (allow_ok hE0).2
      clear hE hE0
      go_wp2_with fail
      refine (HMA.out u0 HBA.out).mono ?_
      rintro e u1 ⟨⟨m6, rfl, hm6⟩, hb⟩
      replace HXA := Lib.hid ((hb.block _ (lt_of_block HXA.out)).trans HXA.out)
      replace HBA := Lib.hid (below_to HBA.out hb)
      clear hb
      have HM6 := Lib.hid hm6
      clear hm6 c0 l0
      go_wp2_with fail
      refine (HRU.out u1 HBA.out).mono ?_
      rintro e u2 ⟨⟨r7, rfl, hr7⟩, hb⟩
      replace HXA := Lib.hid ((hb.block _ (lt_of_block HXA.out)).trans HXA.out)
      replace HBA := Lib.hid (below_to HBA.out hb)
      replace HM6 := Lib.hid ((HM6.out.same (.below (Nat.le_refl _) hb)).up hb.size)
      clear hb
      have HV7 : Hid (RoomV u2.heap.size u2 m6 r7 ms rs) := Lib.hid ⟨Nat.le_refl _, HM6.out, hr7⟩
      clear hr7 HM6
      go_wp2_with fail
      have hra := Rates_ok u2.heap.size m6 r7 ms rs u2 HK.out HV7.out HNE.out
      refine (hra).mono ?_
      rintro e u3 ⟨⟨va, rfl, hown⟩, hb⟩
      replace HXA := Lib.hid ((hb.block _ (lt_of_block HXA.out)).trans HXA.out)
      replace HBA := Lib.hid (below_to HBA.out hb)
      clear hb
      have RA := Lib.hid (own_rgs hown)
      clear hown
      clear hra HV7
      have c0 := cell_of_row u3 w.heap.size 0 _ _ _ HXA.out
      simp only [List.getElem?_toArray, List.getElem?_cons_zero] at c0
      have l0 := lt_of_block HXA.out
      go_wp2_with fail
      have has := asked_any w.heap.size _ _ ms rs u3 HH.out (HROOM.out u3 HBA.out)
      rw [HE.out] at has
      refine (has).mono ?_
      rintro e u4 ⟨rfl, hb⟩
      replace HXA := Lib.hid ((hb.block _ (lt_of_block HXA.out)).trans HXA.out)
      replace HBA := Lib.hid (below_to HBA.out hb)
      replace RA := Lib.hid ((RA.out.same (.below (Nat.le_refl _) hb)).up hb.size)
      clear hb
      clear has c0 l0
      have c0 := cell_of_row u4 w.heap.size 0 _ _ _ HXA.out
      simp only [List.getElem?_toArray, List.getElem?_cons_zero] at c0
      have l0 := lt_of_block HXA.out
      go_wp2_with fail
      refine (Allowed_any w.heap.size _ _ ms rs u4 HK.out (HROOM.out u4 HBA.out)).mono ?_
      rintro e u5 ⟨v9, rfl, hl9, hb⟩
      replace HXA := Lib.hid ((hb.block _ (lt_of_block HXA.out)).trans HXA.out)
      replace HBA := Lib.hid (below_to HBA.out hb)
      replace RA := Lib.hid ((RA.out.same (.below (Nat.le_refl _) hb)).up hb.size)
      clear hb c0 l0
      have c0 := cell_of_row u5 w.heap.size 0 _ _ _ HXA.out
      simp only [List.getElem?_toArray, List.getElem?_cons_zero] at c0
      have l0 := lt_of_block HXA.out
      obtain ⟨sa, cap9, rfl, -, -⟩ := hl9.form
      have HL9 := Lib.hid (hl9.mono (Nat.zero_le _))
      clear hl9
      obtain ⟨aa, ca, ea, -⟩ := RA.out
      rw [rangesL_len] at ea
      subst ea
      have hlen := HK.out.mat.len
      have hone := HK.out.mat.one
      have HEL : Hid (∀ (k : Nat) (L : List Int), (okL ms rs)[k]? = some L → L.length = ms.length) := Lib.hid fun k L h => len_of (mem_okL.1 (List.mem_of_getElem? h)).1
      have HRL : Hid (∀ k, k < ms.length → rg (rangesL (okL ms rs) ms.length) k = ⟨loT (okL ms rs) k (okL ms rs).length, hiT (okL ms rs) k (okL ms rs).length⟩) := Lib.hid fun k hk => by rw [rg_ranges hk, (loT_end HNE.out k).1, (loT_end HNE.out k).2]
      have HPOS := Lib.hid (List.length_pos_iff.2 HNE.out)
      have HBIG : Hid ((okL ms rs).length ≤ 9261) := Lib.hid (by have h1 := rest_len HK.out.mat.toRgsOk []; rw [restL_nil] at h1; exact Nat.le_trans (List.length_filter_le _ _) h1)
      generalize hRL : rangesL (okL ms rs) ms.length = RL at *
      generalize okL ms rs = LL at *
      clear hRL HMA HRU HE HK HNE HROOM HH
      go_wp2
      have HRA : Hid (∀ w', Below u5.heap.size u5 w' → ∀ k, k < ms.length → ∃ b off, aa = some ⟨b, off, none⟩ ∧ b < u5.heap.size ∧ w'.cell? ⟨b, off + k * 2, none⟩ = some (.int .i64 (loT LL k LL.length)) ∧ w'.cell? ⟨b, off + k * 2 + 1, none⟩ = some (.int .i64 (hiT LL k LL.length))) := Lib.hid fun w' h k hk => by
        obtain ⟨a', c', e, hp⟩ := RA.out.same (.below (Nat.le_refl _) h)
        simp only [Value.slice.injEq] at e
        obtain ⟨rfl, h9, rfl⟩ := e
        obtain ⟨b, off, e, hb, hc⟩ := hp (by omega)
        have := hc k (by omega)
        rw [HRL.out k hk] at this
        exact ⟨b, off, e, hb, this⟩
      clear RA c0 l0
      go_loopw [10] (fun i wr => ∃ (k : Nat), k ≤ ms.length ∧ i = .int .i64 k ∧ Hid (Below u5.heap.size u5 wr)) (fun i _ => ms.length - (intOf i).toNat)
      case atStart => exact ⟨0, Nat.zero_le _, rfl, Lib.hid (Below.refl _ _)⟩
      case round =>
        obtain ⟨k, hk, rfl, HBK⟩ := hrel
        by_cases hkl : k < ms.length
        · have hkn : (k : Int) < ms.length := by omega
          have hwk : IntKind.i64.wrap ((k : Int) + 1) = (k : Int) + 1 := IntWalk.i64_in _ (by omega)
          obtain ⟨L0, hL0⟩ : ∃ L, LL[0]? = some L := ⟨_, List.getElem?_eq_getElem HPOS.out⟩
          have hll0 := HEL.out 0 L0 hL0
          obtain ⟨g0, h0, uc0, rfl, -, -⟩ := lists_cell HL9.out hL0 (by omega)
          have HCL : Hid (∀ w', Below u5.heap.size u5 w' → ∀ i, i < LL.length → ∃ L h uc, LL[i]? = some L ∧ w'.cell? ⟨g0, i, none⟩ = some (.slice (some ⟨h, 0, none⟩) ms.length uc) ∧ w'.cell? ⟨h, k, none⟩ = some (.int .i64 (ld L k))) := Lib.hid fun w' hw i hi => by
            have hLi := List.getElem?_eq_getElem hi
            have hli := HEL.out i _ hLi
            obtain ⟨g', h', uc', e, a1, a2⟩ := lists_cell (HL9.out.below hw) hLi (by omega)
            cases e
            rw [hli] at a1 a2
            exact ⟨_, h', uc', hLi, a1, a2 k hkl⟩
          have hT0 : ld L0 k = loT LL k 0 ∧ ld L0 k = hiT LL k 0 := by simp [loT, hiT, hL0]
          have HT0 := Lib.hid hT0
          have HL0 := Lib.hid hL0
          have HP0 := HPOS.out
          have hpi : (0 : Int) < LL.length := by omega
          have HBN := HBIG.out
          clear hT0 hL0 hll0
          go_wp2_with fail
          have HBK0 := HBK
          have HC0 : Hid (∀ w', Below wr.heap.size wr w' → ∃ h uc, w'.cell? ⟨g0, 0, none⟩ = some (.slice (some ⟨h, 0, none⟩) ms.length uc) ∧ w'.cell? ⟨h, k, none⟩ = some (.int .i64 (ld L0 k))) := Lib.hid fun w' hw => by
            obtain ⟨L, h, uc, e, a1, a2⟩ := HCL.out w' (grow_to HBK.out hw) 0 HPOS.out
            rw [HL0.out] at e
            cases e
            exact ⟨h, uc, a1, a2⟩
          obtain ⟨hh, uch, b0, b1⟩ := HC0.out wr (Below.refl _ _)
          have HC : Hid (∀ w', Below wr.heap.size wr w' → w'.cell? ⟨g0, 0, none⟩ = some (.slice (some ⟨hh, 0, none⟩) ms.length uch) ∧ w'.cell? ⟨hh, k, none⟩ = some (.int .i64 (ld L0 k)) ∧ g0 < w'.heap.size ∧ hh < w'.heap.size) := Lib.hid fun w' hw =>
            ⟨(hw.cell (p := ⟨g0, 0, none⟩) (block_lt_of_cell b0)).trans b0, (hw.cell (p := ⟨hh, k, none⟩) (block_lt_of_cell b1)).trans b1, Nat.lt_of_lt_of_le (block_lt_of_cell b0) hw.size, Nat.lt_of_lt_of_le (block_lt_of_cell b1) hw.size⟩
          clear b0 b1 HC0
          refine wp_region_noPanic ?_
          refine wp_region_acts (fun w' => Below wr.heap.size wr w') (fun _ _ h hb => grow_to h hb) (below_drawn _) (by kernel_rfl) (fun _ _ _ _ _ h => h)
            [.take 0, .take 1, .take 2, .take 3, .take 4, .take 5, .take 6, .take 7, .take 8, .take 9, .take 10, .take 11, .take 12, .float 13, .join] [14] (by kernel_rfl) ?_
          iterate 13
            (refine GWalk.takes rfl rfl ?_; apply Exists.intro; refine ⟨fun w' hS => ?_, ?_⟩; (obtain ⟨d0, d1, d2, d3⟩ := HC.out w' hS; clear hS; go_simp; with_reducible rfl); simp only [List.getElem_toArray, List.getElem_cons_succ, List.getElem_cons_zero, Act.put, List.setIfInBounds_toArray, List.set_cons_zero, List.set_cons_succ])
          refine GWalk.floats (.cells #[.int .i64 0, .int .i64 0] 50) (fun b => .pointer (some ⟨b, 0, none⟩)) rfl rfl rfl (fun w1 => ?_) ?_
          · kernel_rfl
          simp only [List.nil_append, List.cons_append]
          refine GWalk.joins fun y1 bx hv1 hr1 hr2 hr3 hr4 => ?_
          simp only [List.getElem_toArray, List.getElem_cons_succ, List.getElem_cons_zero, Act.put, List.setIfInBounds_toArray, List.set_cons_zero, List.set_cons_succ]
          refine GWalk.fin fun y2 hv2 hSv => ?_
          have hr9 := (hv2.block _ hr2).trans hr4
          have n1 := set_whole bx 50 y2 #[.int .i64 0, .int .i64 0] #[.int .i64 (ld L0 k), .int .i64 (ld L0 k)] rfl hr9
          have n2 : Below wr.heap.size wr (y2.setCells bx 0 [.int .i64 (ld L0 k), .int .i64 (ld L0 k)]) := below_cells (b := bx) hr1 _ 0 y2 hSv
          refine Tail.skip rfl rfl (exec_store_row 50 (.tmp 11) (.tmp 84) rfl bx 0 #[.int .i64 (ld L0 k), .int .i64 (ld L0 k)] rfl rfl (there_block hr9 (Nat.le_refl _)) (by kernel_rfl) (by simp [Value.oneCell'])) n2 (Tail.done (NoPanic.normal ?_))
          simp only [List.getElem_toArray, List.getElem_cons_succ, List.getElem_cons_zero, Act.put, List.setIfInBounds_toArray, List.set_cons_zero, List.set_cons_succ]
          have BX := Lib.hid n1
          change Hid ((World.setCells _ _ _ _).heap[_]? = _) at BX
          replace HBK := Lib.hid (grow_to HBK.out n2)
          have hbx5 : u5.heap.size ≤ bx := Nat.le_trans HBK0.out.size hr1
          clear hr9 n1 n2 hSv hv2 hv1 hr1 hr2 hr3 hr4 HC
          generalize World.setCells _ _ _ _ = y3 at *
          rw [HT0.out.1] at BX
          have BX2 : Hid (y3.heap[bx]? = some (.cells #[.int .i64 (loT LL k 0), .int .i64 (hiT LL k 0)] 50 (0, 0))) := Lib.hid (by rw [← HT0.out.2, HT0.out.1]; exact BX.out)
          clear BX y2 y1
          go_wp2_with fail
          go_loopw [12] (fun i wr => ∃ (j : Nat), j ≤ LL.length ∧ i = .int .i64 j ∧ Hid (wr.heap[bx]? = some (.cells #[.int .i64 (loT LL k j), .int .i64 (hiT LL k j)] 50 (0, 0))) ∧ Hid (Below u5.heap.size u5 wr)) (fun i _ => LL.length - (intOf i).toNat)
          case atStart => exact ⟨0, Nat.zero_le _, rfl, BX2, HBK⟩
          case round =>
            clear BX2 HBK HBK0
            obtain ⟨j, hj, rfl, BX, HBJ⟩ := hrel
            by_cases hjl : j < LL.length
            · have hjn : (j : Int) < LL.length := by omega
              have hwj : IntKind.i64.wrap ((j : Int) + 1) = (j : Int) + 1 := IntWalk.i64_in _ (by omega)
              obtain ⟨L, hh, uch, hL, d0, d1⟩ := HCL.out wr HBJ.out j hjl
              have hst := loT_step (b := k) hL
              have HST := Lib.hid hst
              clear hst hL
              have l0 := block_lt_of_cell d0
              have l1 := block_lt_of_cell d1
              have k0 := cell_of_row wr bx 0 _ _ _ BX.out
              have k1 := cell_of_row wr bx 1 _ _ _ BX.out
              simp only [List.getElem?_toArray, List.getElem?_cons_zero, List.getElem?_cons_succ] at k0 k1
              have lx := lt_of_block BX.out
              go_wp2_with fail
              go_still_tail 21, (by kernel_rfl)
              change wpList _ _ _ _ _ wr.drew
              have hbd := below_drawn wr
              replace BX := Lib.hid ((hbd.block _ (lt_of_block BX.out)).trans BX.out)
              replace HBJ := Lib.hid (grow_to HBJ.out hbd)
              change Hid (wr.drew.heap[_]? = _) at BX
              change Hid (Below _ _ wr.drew) at HBJ
              clear hbd d0 d1 l0 l1 k0 k1 lx
              generalize wr.drew = y4 at *
              have fr0 := frozen_of_row y4 bx 0 _ _ BX.out
              have fr1 := frozen_of_row y4 bx 1 _ _ BX.out
              have k0 := cell_of_row y4 bx 0 _ _ _ BX.out
              have k1 := cell_of_row y4 bx 1 _ _ _ BX.out
              simp only [List.getElem?_toArray, List.getElem?_cons_zero, List.getElem?_cons_succ] at k0 k1
              have lx := lt_of_block BX.out
              go_wp2
              have hz0 := put2 y4 bx _ _ (.int .i64 (min (loT LL k j) (ld L k))) (.int .i64 (max (hiT LL k j) (ld L k))) _ BX.out
              have hz1 := put2_below (b := bx) (.int .i64 (min (loT LL k j) (ld L k))) (.int .i64 (max (hiT LL k j) (ld L k))) HBJ.out hbx5
              have HZ0 := Lib.hid hz0
              have HZ1 := Lib.hid hz1
              rw [← HST.out.1, ← HST.out.2] at HZ0 HZ1
              go_roundw
              case rel => exact ⟨j + 1, by omega, by simp, by rw [HST.out.1, HST.out.2]; exact Lib.hid hz0, Lib.hid hz1⟩
              case measure => simp [intOf]; omega
            · obtain rfl : j = LL.length := by omega
              obtain ⟨ba, oa, rfl, la, a0, a1⟩ := HRA.out wr HBJ.out k hkl
              have ta : ba < wr.heap.size := by have := HBJ.out.size; omega
              have k0 := cell_of_row wr bx 0 _ _ _ BX.out
              have k1 := cell_of_row wr bx 1 _ _ _ BX.out
              simp only [List.getElem?_toArray, List.getElem?_cons_zero, List.getElem?_cons_succ] at k0 k1
              have lx := lt_of_block BX.out
              generalize loT LL k LL.length = x0 at *
              generalize hiT LL k LL.length = x1 at *
              go_wp2_with fail
              have ga0 := cell_regrown a0
              have ga1 := cell_regrown a1
              have gk0 := cell_regrown k0
              have gk1 := cell_regrown k1
              have hq := fun w => neqr50 x0 x1 w
              clear a0 a1 k0 k1
              refine wp_region_quiet_below (by kernel_rfl) (by kernel_rfl) ?_
              repeat (quiet_step (fail))
              refine wpQuiet_nil ?_
              intro _ hw'
              obtain ⟨⟨dq, osq⟩, hw''⟩ := hw'
              subst hw''
              have hbr := Lib.hid (grow_to HBJ.out (below_regrown wr dq osq))
              clear ga0 ga1 gk0 gk1 hq BX HBJ lx ta
              go_wp2
              go_roundw
              case rel => exact ⟨k + 1, by omega, by simp, hbr⟩
              case measure => simp [intOf]; omega
        · obtain rfl : k = ms.length := by omega
          replace HBA := Lib.hid (below_to HBA.out HBK.out)
          go_wp2_with fail
          refine (HA.out wr).mono ?_
          rintro e wf ⟨rfl, hb⟩
          have HBF := Lib.hid (below_to HBA.out hb)
          clear hb
          go_wp2
          go_ret
          exact ⟨rfl, HBF.out⟩
end Go.Proofs.Ytfijaafkagcmmaa
