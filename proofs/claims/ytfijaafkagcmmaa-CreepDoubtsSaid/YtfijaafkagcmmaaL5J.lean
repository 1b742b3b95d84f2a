/- Do runs allow rates, by the reference: its contract. Condition: valid runs, rates in their limits. All rates that runs allow, by the reference, and the error if there are none: contracts. Condition: lists no longer than any machine's. The error of a material with runs, if rates have to be allowed: the law's own contract. Condition: lists no longer than any machine's. -/
import Derived.Test.YtfijaafkagcmmaaL2J
namespace Go.Proofs.Ytfijaafkagcmmaa
open Go.RowKit Go.Shelf
attribute [local irreducible] arrV wpQuiet

set_option maxRecDepth 100000 in
set_option maxHeartbeats 2000000 in
theorem refAllows_any (n : Nat) (rv xv : Value) (rs : List Rn) (x : List Int) (w : World) (hK : ∀ r, r ∈ rs → RnOk x.length r) (hl : rs.length ≤ 6) (hx : Rates x) (hxl : x.length ≤ 1000) (hR : RunsV n w rv rs) (hX : IntsV n w xv x) (hn : n ≤ w.heap.size) :
    Calls Try.prog 26 #[rv, xv] w fun e w' => e = .returned (.bool (allB rs x)) ∧ Below w.heap.size w w' := by
  obtain ⟨a, cap, rfl, hp⟩ := hR
  have HP := Lib.hid hp
  have HST := Lib.hid fun (k : Nat) (hk : k < rs.length) sv w' (hs : SegsV n w' sv (rn rs k).ss) (h : Below w.heap.size w w') => refStretch_any n sv xv (rn rs k).ss x w' hx (hK _ (rn_mem hk)).toPlanOk hs (hX.same (.below hn h)) (Nat.le_trans hn h.size) hxl
  have hA4 := @allN_yes (fun k => fitsB (rn rs k) x) rs.length
  have hN4 := fun j => @allN_no (fun k => fitsB (rn rs k) x) rs.length j
  have hSM : ∀ k, k < rs.length → 0 ≤ loS (rn rs k).ss x ∧ hiS (rn rs k).ss x ≤ 8000000000 := fun k hk => by
    have h1 := sums hx (hK _ (rn_mem hk)).sg
    have h2 := (hK _ (rn_mem hk)).len
    omega
  rw [allN_fits] at hA4 hN4
  have HA4 := Lib.hid hA4
  have HN4 := Lib.hid hN4
  obtain ⟨xa, xcap, rfl, -⟩ := hX
  generalize allB rs x = z4 at *
  clear hp hA4 hN4 hK hx hSM
  go_enter Try.func26, Try.ntmps26
  go_wp2
  go_loopw [5] (fun i wr => ∃ (k : Nat), k ≤ rs.length ∧ i = .int .i64 k ∧ Hid (∀ j, j < k → fitsB (rn rs j) x = true) ∧ Hid (Below w.heap.size w wr)) (fun i _ => rs.length - (intOf i).toNat)
  case atStart => exact ⟨0, Nat.zero_le _, rfl, Lib.hid (fun j hj => by omega), Lib.hid (Below.refl _ _)⟩
  case round =>
    obtain ⟨k, hk, rfl, hg, hb⟩ := hrel
    by_cases hkl : k < rs.length
    · obtain ⟨b2, off2, rfl, hbn2, hc2⟩ := HP.out (by omega)
      obtain ⟨sv, s1, s2, s3, s4⟩ := hc2 k hkl
      have hltb2 : b2 < w.heap.size := by omega
      have u1 := (hb.out.cell (p := ⟨b2, off2 + k * 3, none⟩) hltb2).trans s1
      have hkn : (k : Int) < rs.length := by omega
      have hwk : IntKind.i64.wrap ((k : Int) + 1) = (k : Int) + 1 := IntWalk.i64_in _ (by omega)
      have HS := Lib.hid (HST.out k hkl sv wr (s4.same (.below hn hb.out)) hb.out)
      have HC : Hid (∀ w', Below wr.heap.size wr w' → w'.cell? ⟨b2, off2 + k * 3 + 1, none⟩ = some (.int .i64 (rn rs k).seen.lo) ∧ w'.cell? ⟨b2, off2 + k * 3 + 2, none⟩ = some (.int .i64 (rn rs k).seen.hi) ∧ b2 < w'.heap.size) := Lib.hid fun w' h =>
        ⟨((below_to hb.out h).cell (p := ⟨b2, off2 + k * 3 + 1, none⟩) hltb2).trans s2, ((below_to hb.out h).cell (p := ⟨b2, off2 + k * 3 + 2, none⟩) hltb2).trans s3, by have := (below_to hb.out h).size; omega⟩
      have HN4k := Lib.hid (HN4.out k hkl)
      have HF : Hid (fitsB (rn rs k) x = (decide (loS (rn rs k).ss x ≤ (rn rs k).seen.hi) && decide ((rn rs k).seen.lo ≤ hiS (rn rs k).ss x))) := Lib.hid rfl
      have HGK : Hid (fitsB (rn rs k) x = true → ∀ j, j < k + 1 → fitsB (rn rs j) x = true) := Lib.hid fun h j hj => by
        by_cases e : j = k
        · rw [e]; exact h
        · exact hg.out j (by omega)
      clear hg hc2 s1 s2 s3 s4 hbn2
      generalize fitsB (rn rs k) x = sb at *
      generalize (rn rs k).seen.lo = slo at *
      generalize (rn rs k).seen.hi = shi at *
      generalize loS (rn rs k).ss x = l at *
      generalize hiS (rn rs k).ss x = h at *
      go_wp2_with fail
      refine HS.out.mono ?_
      rintro e w1 ⟨rfl, hb1⟩
      have hb' := Lib.hid (below_to hb.out hb1)
      have HC1 := Lib.hid fun w' (h' : Below w1.heap.size w1 w') => HC.out w' (below_to hb1 h')
      clear hb1 u1 hb HC HS
      go_wp2_with fail
      have hn2 := heap_alloc_new w1 (.cells #[.int .i64 l, .int .i64 h] 60)
      have hb2' := box_below w1 (.cells #[.int .i64 l, .int .i64 h] 60)
      have HB2 := Lib.hid (below_to hb'.out hb2')
      obtain ⟨d1, d2, d3⟩ := HC1.out _ hb2'
      have d4 := cell_of_row _ w1.heap.size 0 _ _ _ hn2
      have d5 := cell_of_row _ w1.heap.size 1 _ _ _ hn2
      simp only [List.getElem?_toArray, List.getElem?_cons_zero, List.getElem?_cons_succ] at d4 d5
      have d6 := lt_of_block hn2
      clear hb' HC1 hn2 hb2'
      generalize World.alloc w1 _ = w2 at *
      generalize w1.heap.size = b3 at *
      have v1 := cell_regrown d1
      have v2 := cell_regrown d2
      have v4 := cell_regrown d4
      have v5 := cell_regrown d5
      clear d1 d2 d4 d5
      by_cases p1 : l ≤ shi
      · have q1 : ¬ shi < l := by omega
        have q1' : decide (shi < l) = false := by simpa using p1
        by_cases p2 : slo ≤ h
        · have q2 : ¬ h < slo := by omega
          have q2' : decide (h < slo) = false := by simpa using p2
          obtain rfl : sb = true := by rw [HF.out]; simp [p1, p2]
          have HG2 := Lib.hid (HGK.out rfl)
          clear HF HGK HN4k
          refine wp_region_quiet_below (by kernel_rfl) (by kernel_rfl) ?_
          repeat (quiet_step (fail))
          refine wpQuiet_nil ?_
          intro _ hw'
          obtain ⟨⟨dq, osq⟩, hw''⟩ := hw'
          subst hw''
          have hbr := Lib.hid (below_to HB2.out (below_regrown w2 dq osq))
          clear v1 v2 v4 v5
          go_wp2
          go_roundw
          case rel => exact ⟨k + 1, by omega, by simp, HG2, hbr⟩
          case measure => simp [intOf]; omega
        · have q2 : h < slo := by omega
          have q2' : decide (h < slo) = true := by simpa using q2
          obtain rfl : sb = false := by rw [HF.out]; simp [p1, p2]
          have HZ := HN4k.out rfl
          subst HZ
          clear HF HGK HN4k
          refine wp_region_quiet_below (by kernel_rfl) (by kernel_rfl) ?_
          repeat (quiet_step (fail))
          refine wpQuiet_nil ?_
          intro _ hw'
          obtain ⟨⟨dq, osq⟩, hw''⟩ := hw'
          subst hw''
          have hbr := Lib.hid (below_to HB2.out (below_regrown w2 dq osq))
          clear v1 v2 v4 v5
          go_wp2
          go_ret
          exact ⟨rfl, hbr.out⟩
      · have q1 : shi < l := by omega
        have q1' : decide (shi < l) = true := by simpa using q1
        obtain rfl : sb = false := by rw [HF.out]; simp [p1]
        have HZ := HN4k.out rfl
        subst HZ
        clear HF HGK HN4k
        refine wp_region_quiet_below (by kernel_rfl) (by kernel_rfl) ?_
        repeat (quiet_step (fail))
        refine wpQuiet_nil ?_
        intro _ hw'
        obtain ⟨⟨dq, osq⟩, hw''⟩ := hw'
        subst hw''
        have hbr := Lib.hid (below_to HB2.out (below_regrown w2 dq osq))
        clear v1 v2 v4 v5
        go_wp2
        go_ret
        exact ⟨rfl, hbr.out⟩
    · obtain rfl : k = rs.length := by omega
      have HT := HA4.out hg.out
      subst HT
      go_wp2
      all_goals
        go_ret
        exact ⟨rfl, hb.out⟩
end Go.Proofs.Ytfijaafkagcmmaa
namespace Go.Proofs.Ytfijaafkagcmmaa
open Go.RowKit Go.Shelf
attribute [local irreducible] arrV wpQuiet

theorem ListsV.at_ {base : Nat} {w : World} {sa : Option Addr} {n cap i : Nat} {LL : List (List Int)} {L : List Int} (h : ListsV base w (.slice sa n cap) LL) (hi : LL[i]? = some L) :
    ∃ g u, sa = some ⟨g, 0, none⟩ ∧ w.cell? ⟨g, i, none⟩ = some u ∧ NumV w u L := by
  obtain ⟨sa', cap', e, _, hf⟩ := h.form
  simp only [Value.slice.injEq] at e
  obtain ⟨rfl, -, -⟩ := e
  exact hf i L hi
theorem ListsV.lit {w : World} {v : Value} {L : List Int} (h : NumV w v L) : ListsV w.heap.size (w.alloc (.cells #[v] 26 (0, 0))) (.slice (some ⟨w.heap.size, 0, none⟩) 1 1) [L] :=
  ⟨[v], ⟨rfl, .inr ⟨w.heap.size, 1, #[v], rfl, Nat.le_refl _, heap_alloc_new w _, Nat.le_refl _, by simp [maxLen], rfl, rfl⟩⟩, h.below (box_below w _), trivial⟩
theorem filter_take_yes {LL : List (List Int)} {k : Nat} {L : List Int} {f : List Int → Bool} (h : LL[k]? = some L) (hf : f L = true) : (LL.take (k + 1)).filter f = (LL.take k).filter f ++ [L] := by
  rw [List.take_add_one, h]
  simp [List.filter_append, hf]
theorem filter_take_no {LL : List (List Int)} {k : Nat} {L : List Int} {f : List Int → Bool} (h : LL[k]? = some L) (hf : f L = false) : (LL.take (k + 1)).filter f = (LL.take k).filter f := by
  rw [List.take_add_one, h]
  simp [List.filter_append, hf]

set_option maxRecDepth 100000 in
set_option maxHeartbeats 2000000 in
theorem Allowed_any (n : Nat) (mv rv : Value) (ms : List Rg) (rs : List Rn) (w : World) (hK : RoomOk ms rs) (hV : RoomV n w mv rv ms rs) :
    Calls Try.prog 29 #[.agg #[mv], rv] w (Lists1 w (okL ms rs)) := by
  have hn := hV.lt
  have HRV := Lib.hid fun w' (h : Below w.heap.size w w') => (hV.below h).r
  have HKK := Lib.hid hK
  obtain ⟨am, capm, rfl, -⟩ := hV.m
  have HLA := Lib.hid fun w' (h : Below w.heap.size w w') => Lists_all n am capm ms w' hK.mat.toRgsOk (hV.below h).m (hV.below h).lt
  have HM9 := Lib.hid (show (allL ms).length ≤ 9261 by have := rest_len hK.mat.toRgsOk []; rwa [restL_nil] at this)
  obtain ⟨ar, capr, rfl, -⟩ := hV.r
  have HB := Lib.hid (box_below w (.cells #[.slice am ms.length capm] 24))
  have HEL : Hid (∀ k L, (allL ms)[k]? = some L → L ∈ allL ms) := Lib.hid fun k L h => List.mem_of_getElem? h
  have HOK : Hid (okL ms rs = (allL ms).filter (allB rs)) := Lib.hid rfl
  rw [HOK.out]
  clear hV hK
  go_enter Try.func29, Try.ntmps29
  go_wp2_with fail
  refine (HLA.out _ HB.out).mono ?_
  rintro e w1 ⟨v, rfl, hl1, hb1⟩
  obtain ⟨va, vc, rfl, -, -⟩ := hl1.form
  have HL1 := Lib.hid (hl1.mono (Nat.zero_le _))
  have HB1 := Lib.hid (below_to HB.out hb1)
  clear hl1 hb1 HLA HB
  generalize hLL : allL ms = LL at *
  have HLL := Lib.hid hLL
  clear hLL
  go_wp2
  go_loopw [5, 7] (fun s i wr => ∃ (k : Nat), k ≤ LL.length ∧ i = .int .i64 k ∧ Hid (ListsV w1.heap.size wr s ((LL.take k).filter (allB rs))) ∧ Hid (Below w1.heap.size w1 wr)) (fun _ i _ => LL.length - (intOf i).toNat)
  case atStart => exact ⟨0, Nat.zero_le _, rfl, Lib.hid (ListsV.nil _ _), Lib.hid (Below.refl _ _)⟩
  case round =>
    obtain ⟨k, hk, rfl, HS, HBr⟩ := hrel
    by_cases hkl : k < LL.length
    · have hkn : (k : Int) < LL.length := by omega
      have hwk : IntKind.i64.wrap ((k : Int) + 1) = (k : Int) + 1 := IntWalk.i64_in _ (by have := HM9.out; omega)
      obtain ⟨L, hL⟩ : ∃ L, LL[k]? = some L := ⟨_, List.getElem?_eq_getElem hkl⟩
      have hmem := HEL.out k L hL
      rw [← HLL.out] at hmem
      have HME := Lib.hid hmem
      have HLE := Lib.hid (len_of hmem)
      obtain ⟨g, u, rfl, c0, hN⟩ := (HL1.out.below HBr.out).at_ hL
      obtain ⟨ua, uc, rfl, -⟩ := hN.form
      have HNN := Lib.hid hN
      have HLK := Lib.hid hL
      have l0 := block_lt_of_cell c0
      have hcall := refAllows_any wr.heap.size (.slice ar rs.length capr) (.slice ua L.length uc) rs L wr (by rw [HLE.out]; exact HKK.out.rn) HKK.out.len (rates_of HME.out HKK.out.mat.toRgsOk) (by have := HLE.out; have := HKK.out.mat.len; omega)
        ((HRV.out wr (below_to HB1.out HBr.out)).up (by have := HB1.out.size; have := HBr.out.size; omega)) (hN.ints (by have := HLE.out; have := HKK.out.mat.one; omega)) (Nat.le_refl _)
      clear hmem hN hL
      go_wp2_with fail
      refine hcall.mono ?_
      rintro e w2 ⟨rfl, hb2⟩
      replace HS := Lib.hid (HS.out.below hb2)
      replace HNN := Lib.hid (HNN.out.below hb2)
      replace HBr := Lib.hid (grow_to HBr.out hb2)
      have c1 := (hb2.cell (p := ⟨g, k, none⟩) l0).trans c0
      have l1 := Nat.lt_of_lt_of_le l0 hb2.size
      clear hcall hb2 c0 l0
      cases hz : allB rs L with
      | false =>
        have HE := Lib.hid (filter_take_no HLK.out hz)
        rw [← HE.out] at HS
        clear hz HE c1 l1
        go_wp2
        go_roundw
        case rel => exact ⟨k + 1, by omega, by simp, HS, HBr⟩
        case measure => simp [intOf]; omega
      | true =>
        have HE := Lib.hid (filter_take_yes HLK.out hz)
        have hbb := box_below w2 (.cells #[.slice ua L.length uc] 26 (0, 0))
        obtain ⟨v', w3, hrun, hl3, hg3, hown⟩ := append_lists w1.heap.size 47 u5 (.slice (some ⟨w2.heap.size, 0, none⟩) 1 1) _ [L] (w2.alloc (.cells #[.slice ua L.length uc] 26 (0, 0))) (HS.out.below hbb) ((ListsV.lit HNN.out).mono (Nat.zero_le _))
          (by have h1 := List.length_filter_le (allB rs) (LL.take k); have h2 := HM9.out; rw [List.length_take] at h1; simp only [List.length_cons, List.length_nil]; omega) (by have := HBr.out.size; simp; omega)
        have hb3 : Below w1.heap.size w1 w3 := ⟨hg3.os.trans (hbb.os.trans HBr.out.os), hg3.tape.trans (hbb.tape.trans HBr.out.tape), hg3.output.trans (hbb.output.trans HBr.out.output), Nat.le_trans HBr.out.size (Nat.le_trans hbb.size hg3.size), fun k' hk' =>
          (hg3.block k' (Nat.lt_of_lt_of_le hk' (Nat.le_trans HBr.out.size hbb.size)) (fun e => by have := hown k' e.symm; omega)).trans ((hbb.block k' (Nat.lt_of_lt_of_le hk' HBr.out.size)).trans (HBr.out.block k' hk'))⟩
        rw [← HE.out] at hl3
        have HRUN := Lib.hid hrun
        have HS3 := Lib.hid hl3
        have HB3 := Lib.hid hb3
        have hbu : Try.prog.builtSlice 26 1 [(0, .slice ua L.length uc)] = some #[.slice ua L.length uc] := by kernel_rfl
        clear hz HE hrun hl3 hb3 hg3 hown hbb
        go_wp2_with (first
          | (refine wpList_append_run (v := v') (W' := w3) (y := u5) (z := .slice (some ⟨w2.heap.size, 0, none⟩) 1 1) rfl (.tmp 22) (.tmp 27) 47 47 47 rfl rfl rfl rfl HRUN.out ?_)
          | fail)
        go_roundw
        case rel => exact ⟨k + 1, by omega, by simp, HS3, HB3⟩
        case measure => simp [intOf]; omega
    · obtain rfl : k = LL.length := by omega
      have HS' := HS.out
      rw [List.take_of_length_le (Nat.le_refl _)] at HS'
      have HS2 := Lib.hid HS'
      clear HS'
      go_wp2
      go_ret
      exact ⟨_, rfl, HS2.out.mono HB1.out.size, grow_to HB1.out HBr.out⟩
end Go.Proofs.Ytfijaafkagcmmaa
namespace Go.Proofs.Ytfijaafkagcmmaa
open Go.RowKit Go.Shelf
attribute [local irreducible] arrV wpQuiet

set_option maxRecDepth 100000 in
set_option maxHeartbeats 2000000 in
theorem asked_any (n : Nat) (mv rv : Value) (ms : List Rg) (rs : List Rn) (w : World) (hL : Held ms rs) (hV : RoomV n w mv rv ms rs) :
    Calls Try.prog 28 #[.agg #[mv], rv] w fun e w' => e = .returned (.int .i64 (allowE ms rs)) ∧ Below w.heap.size w w' := by
  have hn := hV.lt
  have HFA := Lib.hid fun w' (h : Below w.heap.size w w') => fault_any n mv rv ms rs w' (len_max hL.m) (len_max hL.r) (fun r hr => len_max (hL.s r hr)) (hV.below h).m (hV.below h).r (hV.below h).lt
  by_cases hf : faultE ms rs = 0
  · have hK := faultE_ok hf
    have HAL := Lib.hid fun w' (h : Below w.heap.size w w') => Allowed_any n mv rv ms rs w' hK (hV.below h)
    rw [hf] at HFA
    have hA : Hid (allowE ms rs = failE (someB (okL ms rs))) := Lib.hid (if_pos hf)
    rw [hA.out]
    obtain ⟨am, capm, rfl, -⟩ := hV.m
    obtain ⟨ar, capr, rfl, -⟩ := hV.r
    have HX := Lib.hid (heap_alloc_new w (.cells #[.slice am ms.length capm] 24))
    have HB := Lib.hid (box_below w (.cells #[.slice am ms.length capm] 24))
    clear hV hK hL hf hA
    generalize okL ms rs = LL at *
    go_enter Try.func28, Try.ntmps28
    go_wp2_with fail
    refine (HFA.out _ HB.out).mono ?_
    rintro e w1 ⟨rfl, hb1⟩
    have hx1 := (hb1.block _ (lt_of_block HX.out)).trans HX.out
    have c0 := cell_of_row w1 w.heap.size 0 _ _ _ hx1
    simp only [List.getElem?_toArray, List.getElem?_cons_zero] at c0
    have l0 := lt_of_block hx1
    have HB1 := Lib.hid (below_to HB.out hb1)
    clear hb1 hx1
    go_wp2_with fail
    refine (HAL.out _ HB1.out).mono ?_
    rintro e w2 ⟨v, rfl, hl, hb2⟩
    have HB2 := Lib.hid (below_to HB1.out hb2)
    obtain ⟨va, vc, rfl, -, -⟩ := hl.form
    clear hl hb2 c0 l0
    cases LL with
    | nil =>
      go_wp2
      go_ret
      exact ⟨rfl, HB2.out⟩
    | cons L LL =>
      have hne2 : ((LL.length : Int) + 1 == 0) = false := by rw [beq_eq_false_iff_ne]; omega
      have hne3 : ¬ ((LL.length : Int) + 1 = 0) := by omega
      go_wp2
      go_ret
      exact ⟨rfl, HB2.out⟩
  · have hA : Hid (allowE ms rs = faultE ms rs) := Lib.hid (if_neg hf)
    rw [hA.out]
    obtain ⟨am, capm, rfl, -⟩ := hV.m
    obtain ⟨ar, capr, rfl, -⟩ := hV.r
    have HB := Lib.hid (box_below w (.cells #[.slice am ms.length capm] 24))
    clear hV hL hA
    generalize faultE ms rs = E at *
    have h1 : (E == 0) = false := by rw [beq_eq_false_iff_ne]; exact hf
    have h2 : (E != 0) = true := by rw [bne_iff_ne]; exact hf
    go_enter Try.func28, Try.ntmps28
    go_wp2_with fail
    refine (HFA.out _ HB.out).mono ?_
    rintro e w1 ⟨rfl, hb1⟩
    have HB1 := Lib.hid (below_to HB.out hb1)
    clear hb1
    go_wp2
    go_ret
    exact ⟨rfl, HB1.out⟩
end Go.Proofs.Ytfijaafkagcmmaa
