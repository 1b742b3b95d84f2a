/- The law GrainFinests, walked. No condition. -/
import Derived.Test.YtplmlmmjfkbabaaRQ
namespace Go.Proofs.Ytplmlmmjfkbabaa
open Go.RowKit Go.Shelf
attribute [local irreducible] arrV wpQuiet mat shl

theorem fin_fault {n : Int} {cs : List Cm} (h : faultA n cs ≠ 0) : finestE n cs = faultA n cs := by
  unfold finestE
  rw [lay_fault [] h, if_neg h]
set_option maxRecDepth 100000 in
set_option maxHeartbeats 8000000 in
theorem finests_walk (n : Int) (v : Value) (cs : List Cm) (w : World) (hV : CmsV w.heap.size w v cs) :
    Calls Try.prog 6 #[.agg #[.int .i64 n, v]] w fun e w' => e = .returned (.bool true) ∧ Below w.heap.size w w' := by
  have HAL0 := Lib.hid fun (hl : cs.length ≤ 1000) w' (h : Below w.heap.size w w') => Album_any w.heap.size n v cs w' hl (hV.same (.below (Nat.le_refl _) h)) h.size
  have HFA0 := Lib.hid fun (hl : cs.length ≤ maxLen) w' (h : Below w.heap.size w w') => fault_any w.heap.size n v cs w' hl (hV.same (.below (Nat.le_refl _) h)) h.size
  have HRG0 := Lib.hid fun (N : Nat) (hN : n = N) (hA : AlbOk n cs) w' (h : Below w.heap.size w w') => refGrades_any N v cs w' (hN ▸ hA) ((hV.same (.below (Nat.le_refl _) h)).up h.size)
  have HMB := Lib.hid fun (N : Nat) (hN : n = N) (hA : AlbOk n cs) (p : Nat) (hp : p < N) w' (h : Below w.heap.size w w') => refMBF_any N v cs p w' (hN ▸ hA) hp ((hV.same (.below (Nat.le_refl _) h)).up h.size)
  obtain ⟨a, cap, rfl, hp⟩ := hV
  have HXA := Lib.hid (heap_alloc_new w (.cells #[.int .i64 n, .slice a cs.length cap] 24))
  have HBA := Lib.hid (box_below w (.cells #[.int .i64 n, .slice a cs.length cap] 24))
  clear hp
  go_enter Try.func6, Try.ntmps6
  go_wp2_with fail
  refine (Thin_any n a cs.length cap _).mono ?_
  rintro e u0 ⟨rfl, hb⟩
  replace HXA := Lib.hid ((hb.block _ (lt_of_block HXA.out)).trans HXA.out)
  replace HBA := Lib.hid (below_to HBA.out hb)
  clear hb
  by_cases ht : cs.length ≤ 16
  · have hth : decide (cs.length ≤ 16) = true := decide_eq_true ht
    have HAL := Lib.hid (HAL0.out (by omega))
    have HFA := Lib.hid (HFA0.out (by simp [maxLen]; omega))
    have HML : Hid (cs.length ≤ maxLen) := Lib.hid (by simp [maxLen]; omega)
    clear ht HAL0 HFA0
    have c0 := cell_of_row u0 w.heap.size 0 _ _ _ HXA.out
    have c1 := cell_of_row u0 w.heap.size 1 _ _ _ HXA.out
    simp only [List.getElem?_toArray, List.getElem?_cons_zero, List.getElem?_cons_succ] at c0 c1
    have lc := lt_of_block HXA.out
    go_wp2_with fail
    clear c0 c1 lc
    refine (HAL.out u0 HBA.out).mono ?_
    rintro e u1 ⟨⟨r1, rfl, ho⟩, hb⟩
    replace HXA := Lib.hid ((hb.block _ (lt_of_block HXA.out)).trans HXA.out)
    replace HBA := Lib.hid (below_to HBA.out hb)
    clear hb
    have HV1 := Lib.hid (own_cms (l := cs) ho)
    clear ho
    go_wp2_with fail
    refine (Finest_any u1.heap.size n _ cs u1 HML.out HV1.out (Nat.le_refl _)).mono ?_
    rintro e u2 ⟨⟨rl, rfl, h1, h2⟩, hb⟩
    replace HXA := Lib.hid ((hb.block _ (lt_of_block HXA.out)).trans HXA.out)
    replace HBA := Lib.hid (below_to HBA.out hb)
    replace HV1 := Lib.hid ((HV1.out.same (.below (Nat.le_refl _) hb)).up hb.size)
    clear hb
    clear HV1
    have HE1 := Lib.hid h1
    have HE2 := Lib.hid h2
    clear h1 h2
    obtain ⟨E, hE⟩ : ∃ E, E = finestE n cs := ⟨_, rfl⟩
    rw [← hE]
    rw [← hE] at HE1 HE2
    have HEE := Lib.hid hE
    clear hE
    by_cases hf : faultA n cs = 0
    · have HFO := Lib.hid hf
      have HOK := Lib.hid (fault_ok hf)
      have hn0 := HOK.out.n0
      have hn8 := HOK.out.n8
      obtain ⟨N, rfl⟩ : ∃ N : Nat, n = (N : Int) := ⟨n.toNat, by omega⟩
      have HRG := Lib.hid (HRG0.out N rfl HOK.out)
      have HMF := Lib.hid (HMB.out N rfl HOK.out)
      clear hf HRG0 HMB
      cases hd : distO cs with
      | none =>
        have hE9 : E = 9 := by rw [HEE.out]; unfold finestE; rw [lay_none HOK.out (pics_nil _) hd]; rfl
        subst hE9
        obtain rfl := HE1.out (by decide)
        have HD := Lib.hid hd
        clear hd HE1 HE2 HEE
        have c0 := cell_of_row u2 w.heap.size 0 _ _ _ HXA.out
        have c1 := cell_of_row u2 w.heap.size 1 _ _ _ HXA.out
        simp only [List.getElem?_toArray, List.getElem?_cons_zero, List.getElem?_cons_succ] at c0 c1
        have lc := lt_of_block HXA.out
        go_wp2_with fail
        clear c0 c1 lc
        refine (HFA.out u2 HBA.out).mono ?_
        rintro e u3 ⟨rfl, hb⟩
        replace HXA := Lib.hid ((hb.block _ (lt_of_block HXA.out)).trans HXA.out)
        replace HBA := Lib.hid (below_to HBA.out hb)
        clear hb
        rw [HFO.out]
        have c0 := cell_of_row u3 w.heap.size 0 _ _ _ HXA.out
        have c1 := cell_of_row u3 w.heap.size 1 _ _ _ HXA.out
        simp only [List.getElem?_toArray, List.getElem?_cons_zero, List.getElem?_cons_succ] at c0 c1
        have lc := lt_of_block HXA.out
        go_wp2_with fail
        clear c0 c1 lc
        refine (HRG.out u3 HBA.out).mono ?_
        rintro e u4 ⟨hg, hb⟩
        replace HXA := Lib.hid ((hb.block _ (lt_of_block HXA.out)).trans HXA.out)
        replace HBA := Lib.hid (below_to HBA.out hb)
        clear hb
        rcases hg with ⟨d, r, hd, rfl, -⟩ | ⟨hd, rfl⟩
        · rw [HD.out] at hd
          cases hd
        clear hd
        have c0 := cell_of_row u4 w.heap.size 0 _ _ _ HXA.out
        have c1 := cell_of_row u4 w.heap.size 1 _ _ _ HXA.out
        simp only [List.getElem?_toArray, List.getElem?_cons_zero, List.getElem?_cons_succ] at c0 c1
        have lc := lt_of_block HXA.out
        cases hpos : decide ((0 : Int) < N) with
        | false =>
          go_wp2_with fail
          go_loopw [8, 9] (fun s i wr => s = .slice none 0 0 ∧ i = .int .i64 0 ∧ wr = u4) (fun _ _ _ => 0)
          case atStart => exact ⟨rfl, rfl, rfl⟩
          case round =>
            obtain ⟨rfl, rfl, rfl⟩ := hrel
            go_wp2_with fail
            all_goals
              clear c0 c1 lc
              refine (ints_same wr.heap.size _ _ [] wr (by simp) (no_ints _ _) (no_ints _ _) (Nat.le_refl _)).mono ?_
              rintro e u5 ⟨rfl, hb⟩
              replace HXA := Lib.hid ((hb.block _ (lt_of_block HXA.out)).trans HXA.out)
              replace HBA := Lib.hid (below_to HBA.out hb)
              clear hb
              go_wp2_with fail
              refine (awake_any u5).mono ?_
              rintro e u6 ⟨rfl, hb⟩
              have HBF := Lib.hid (below_to HBA.out hb)
              clear hb
              go_wp2
              go_ret
              exact ⟨rfl, HBF.out⟩
        | true =>
          go_wp2_with fail
          go_loopw [8, 9] (fun s i wr => s = .slice none 0 0 ∧ i = .int .i64 0 ∧ wr = u4) (fun _ _ _ => 0)
          case atStart => exact ⟨rfl, rfl, rfl⟩
          case round =>
            obtain ⟨rfl, rfl, rfl⟩ := hrel
            go_wp2_with fail
            all_goals
              clear c0 c1 lc
              refine (ints_same wr.heap.size _ _ [] wr (by simp) (no_ints _ _) (no_ints _ _) (Nat.le_refl _)).mono ?_
              rintro e u5 ⟨rfl, hb⟩
              replace HXA := Lib.hid ((hb.block _ (lt_of_block HXA.out)).trans HXA.out)
              replace HBA := Lib.hid (below_to HBA.out hb)
              clear hb
              go_wp2_with fail
              refine (awake_any u5).mono ?_
              rintro e u6 ⟨rfl, hb⟩
              have HBF := Lib.hid (below_to HBA.out hb)
              clear hb
              go_wp2
              go_ret
              exact ⟨rfl, HBF.out⟩
      | some d =>
        have HD := Lib.hid hd
        clear hd
        rcases Nat.eq_zero_or_pos N with hN | hN
        · have hN0 : ((N : Int) == 0) = true := by simp [hN]
          have hE7 : E = 7 := by rw [HEE.out]; unfold finestE; rw [lay_some HOK.out (pics_nil _) HD.out, if_pos rfl, if_pos (by omega)]
          subst hE7
          obtain rfl := HE1.out (by decide)
          clear HE1 HE2 HEE hN
          have c0 := cell_of_row u2 w.heap.size 0 _ _ _ HXA.out
          have c1 := cell_of_row u2 w.heap.size 1 _ _ _ HXA.out
          simp only [List.getElem?_toArray, List.getElem?_cons_zero, List.getElem?_cons_succ] at c0 c1
          have lc := lt_of_block HXA.out
          go_wp2_with fail
          clear c0 c1 lc
          refine (HFA.out u2 HBA.out).mono ?_
          rintro e u3 ⟨rfl, hb⟩
          replace HXA := Lib.hid ((hb.block _ (lt_of_block HXA.out)).trans HXA.out)
          replace HBA := Lib.hid (below_to HBA.out hb)
          clear hb
          rw [HFO.out]
          have c0 := cell_of_row u3 w.heap.size 0 _ _ _ HXA.out
          have c1 := cell_of_row u3 w.heap.size 1 _ _ _ HXA.out
          simp only [List.getElem?_toArray, List.getElem?_cons_zero, List.getElem?_cons_succ] at c0 c1
          have lc := lt_of_block HXA.out
          go_wp2_with fail
          clear c0 c1 lc
          refine (HRG.out u3 HBA.out).mono ?_
          rintro e u4 ⟨hg, hb⟩
          replace HXA := Lib.hid ((hb.block _ (lt_of_block HXA.out)).trans HXA.out)
          replace HBA := Lib.hid (below_to HBA.out hb)
          clear hb
          rcases hg with ⟨d', rg, hd, rfl, -⟩ | ⟨hd, rfl⟩
          rotate_left
          · rw [HD.out] at hd
            cases hd
          clear hd
          have c0 := cell_of_row u4 w.heap.size 0 _ _ _ HXA.out
          have c1 := cell_of_row u4 w.heap.size 1 _ _ _ HXA.out
          simp only [List.getElem?_toArray, List.getElem?_cons_zero, List.getElem?_cons_succ] at c0 c1
          have lc := lt_of_block HXA.out
          go_wp2_with fail
          clear c0 c1 lc
          have c0 := cell_of_row u4 w.heap.size 0 _ _ _ HXA.out
          have c1 := cell_of_row u4 w.heap.size 1 _ _ _ HXA.out
          simp only [List.getElem?_toArray, List.getElem?_cons_zero, List.getElem?_cons_succ] at c0 c1
          have lc := lt_of_block HXA.out
          cases hpos : decide ((0 : Int) < N) with
          | false =>
            go_wp2_with fail
            go_loopw [8, 9] (fun s i wr => s = .slice none 0 0 ∧ i = .int .i64 0 ∧ wr = u4) (fun _ _ _ => 0)
            case atStart => exact ⟨rfl, rfl, rfl⟩
            case round =>
              obtain ⟨rfl, rfl, rfl⟩ := hrel
              go_wp2_with fail
              all_goals
                clear c0 c1 lc
                refine (ints_same wr.heap.size _ _ [] wr (by simp) (no_ints _ _) (no_ints _ _) (Nat.le_refl _)).mono ?_
                rintro e u5 ⟨rfl, hb⟩
                replace HXA := Lib.hid ((hb.block _ (lt_of_block HXA.out)).trans HXA.out)
                replace HBA := Lib.hid (below_to HBA.out hb)
                clear hb
                go_wp2_with fail
                refine (awake_any u5).mono ?_
                rintro e u6 ⟨rfl, hb⟩
                have HBF := Lib.hid (below_to HBA.out hb)
                clear hb
                go_wp2
                go_ret
                exact ⟨rfl, HBF.out⟩
          | true =>
            go_wp2_with fail
            go_loopw [8, 9] (fun s i wr => s = .slice none 0 0 ∧ i = .int .i64 0 ∧ wr = u4) (fun _ _ _ => 0)
            case atStart => exact ⟨rfl, rfl, rfl⟩
            case round =>
              obtain ⟨rfl, rfl, rfl⟩ := hrel
              go_wp2_with fail
              all_goals
                clear c0 c1 lc
                refine (ints_same wr.heap.size _ _ [] wr (by simp) (no_ints _ _) (no_ints _ _) (Nat.le_refl _)).mono ?_
                rintro e u5 ⟨rfl, hb⟩
                replace HXA := Lib.hid ((hb.block _ (lt_of_block HXA.out)).trans HXA.out)
                replace HBA := Lib.hid (below_to HBA.out hb)
                clear hb
                go_wp2_with fail
                refine (awake_any u5).mono ?_
                rintro e u6 ⟨rfl, hb⟩
                have HBF := Lib.hid (below_to HBA.out hb)
                clear hb
                go_wp2
                go_ret
                exact ⟨rfl, HBF.out⟩
        · have hN0 : ((N : Int) == 0) = false := by simp; omega
          have hE0 : E = 0 := by rw [HEE.out]; unfold finestE; rw [lay_some HOK.out (pics_nil _) HD.out, if_pos rfl, if_neg (by omega)]
          subst hE0
          obtain ⟨d', N', hd', hN', -, ho⟩ := HE2.out rfl
          rw [HD.out] at hd'
          obtain rfl : d = d' := by injection hd'
          obtain rfl : N = N' := by omega
          have HLL := Lib.hid (own_ints (l := intsL (finestL d N)) (by simpa [intsL] using ho))
          clear hd' ho HE1 HE2 HEE hN' 
          have c0 := cell_of_row u2 w.heap.size 0 _ _ _ HXA.out
          have c1 := cell_of_row u2 w.heap.size 1 _ _ _ HXA.out
          simp only [List.getElem?_toArray, List.getElem?_cons_zero, List.getElem?_cons_succ] at c0 c1
          have lc := lt_of_block HXA.out
          go_wp2_with fail
          clear c0 c1 lc
          refine (HFA.out u2 HBA.out).mono ?_
          rintro e u3 ⟨rfl, hb⟩
          replace HXA := Lib.hid ((hb.block _ (lt_of_block HXA.out)).trans HXA.out)
          replace HBA := Lib.hid (below_to HBA.out hb)
          replace HLL := Lib.hid ((HLL.out.same (.below (Nat.le_refl _) hb)).up hb.size)
          clear hb
          rw [HFO.out]
          have c0 := cell_of_row u3 w.heap.size 0 _ _ _ HXA.out
          have c1 := cell_of_row u3 w.heap.size 1 _ _ _ HXA.out
          simp only [List.getElem?_toArray, List.getElem?_cons_zero, List.getElem?_cons_succ] at c0 c1
          have lc := lt_of_block HXA.out
          go_wp2_with fail
          clear c0 c1 lc
          refine (HRG.out u3 HBA.out).mono ?_
          rintro e u4 ⟨hg, hb⟩
          replace HXA := Lib.hid ((hb.block _ (lt_of_block HXA.out)).trans HXA.out)
          replace HBA := Lib.hid (below_to HBA.out hb)
          replace HLL := Lib.hid ((HLL.out.same (.below (Nat.le_refl _) hb)).up hb.size)
          clear hb
          rcases hg with ⟨d', rg, hd, rfl, -⟩ | ⟨hd, rfl⟩
          rotate_left
          · rw [HD.out] at hd
            cases hd
          clear hd
          have c0 := cell_of_row u4 w.heap.size 0 _ _ _ HXA.out
          have c1 := cell_of_row u4 w.heap.size 1 _ _ _ HXA.out
          simp only [List.getElem?_toArray, List.getElem?_cons_zero, List.getElem?_cons_succ] at c0 c1
          have lc := lt_of_block HXA.out
          have HMX := Lib.hid fun (p : Nat) (hp : p < N) w' (h : Below w.heap.size w w') => (show Calls Try.prog 34 #[.agg #[.int .i64 N, .slice a cs.length cap], .int .i64 p] w' fun e w2 => e = .returned (.bool (finB d N p)) ∧ Below w'.heap.size w' w2 from by rw [← fin_iff HOK.out HD.out hp]; exact HMF.out p hp w' h)
          have HF : Hid (∀ q, (List.range (q + 1)).filter (finB d N) = (List.range q).filter (finB d N) ++ if finB d N q = true then [q] else []) := Lib.hid (finest_snoc d N)
          have HE : Hid ((List.range N).filter (finB d N) = finestL d N) := Lib.hid rfl
          have HFL : Hid (∀ q, ((List.range q).filter (finB d N)).length ≤ q) := Lib.hid fun q => by have := List.length_filter_le (finB d N) (List.range q); simpa using this
          clear HMF
          go_wp2_with fail
          clear c0 c1 lc
          generalize finestL d N = FL at *
          generalize finB d N = fb at *
          obtain ⟨B0, hB0⟩ : ∃ B, B = u4.heap.size := ⟨_, rfl⟩
          have HWB : Hid (w.heap.size < B0) := Lib.hid (by rw [hB0]; exact lt_of_block HXA.out)
          have HLL2 : Hid (IntsV B0 u4 rl (intsL FL)) := Lib.hid (by rw [hB0]; exact HLL.out)
          have HZB : Hid (B0 ≤ u4.heap.size) := Lib.hid (Nat.le_of_eq hB0)
          clear hB0 HLL
          go_loopw [8, 9] (fun s i wr => ∃ q : Nat, q ≤ N ∧ i = .int .i64 q ∧ Hid (wr.heap[w.heap.size]? = some (.cells #[.int .i64 N, .slice a cs.length cap] 24 (0, 0))) ∧ Hid (IntsV B0 wr rl (intsL FL)) ∧ Hid (B0 ≤ wr.heap.size) ∧ Hid (wr.ownsRow B0 3 1 s ((List.range q).filter fb).length ((intsL ((List.range q).filter fb)).map iV)) ∧ Hid (Below w.heap.size w wr)) (fun _ i _ => N - (intOf i).toNat)
          case atStart => exact ⟨0, Nat.zero_le _, rfl, HXA, HLL2, HZB, Lib.hid (World.ownsRow_nil _ _ _ _), HBA⟩
          case round =>
            clear HXA HBA HLL2 HZB
            obtain ⟨q, hq, rfl, HX, HLL, HZB, HO, HBA⟩ := hrel
            have c0 := cell_of_row wr w.heap.size 0 _ _ _ HX.out
            have c1 := cell_of_row wr w.heap.size 1 _ _ _ HX.out
            simp only [List.getElem?_toArray, List.getElem?_cons_zero, List.getElem?_cons_succ] at c0 c1
            have lc := lt_of_block HX.out
            by_cases hlt : q < N
            · have hqn : (q : Int) < N := by omega
              have hw9 : IntKind.i64.wrap ((q : Int) + 1) = (q : Int) + 1 := IntWalk.i64_in _ (by omega)
              have HCA := Lib.hid (HMX.out q hlt wr HBA.out)
              have HSN := Lib.hid (HF.out q)
              have HLQ := Lib.hid (HFL.out q)
              go_wp2_with fail
              refine HCA.out.mono ?_
              rintro e w1 ⟨rfl, hb⟩
              have HX1 := Lib.hid ((hb.block _ (lt_of_block HX.out)).trans HX.out)
              have HB1 := Lib.hid (below_to HBA.out hb)
              have HL1 := Lib.hid (HLL.out.same (.below HZB.out hb))
              have HO1 := Lib.hid (HO.out.kept (w' := w1) (row := none) ⟨hb.os, hb.tape, hb.output, hb.size, fun k hk _ => hb.block k hk⟩ (Classical.em _))
              have hl1 : B0 ≤ w1.heap.size := Nat.le_trans HZB.out hb.size
              have HZ1 := Lib.hid hl1
              clear hb HX HBA HCA HO HLL HZB c0 c1 lc
              cases hz : fb q with
              | false =>
                rw [hz, if_neg (by simp), List.append_nil] at HSN
                clear hz
                go_wp2_with fail
                go_roundw
                case rel => exact ⟨q + 1, by omega, by simp, HX1, HL1, HZ1, Lib.hid (by rw [HSN.out]; exact HO1.out), HB1⟩
                case measure => simp [intOf] <;> omega
              | true =>
                rw [hz, if_pos rfl] at HSN
                clear hz
                generalize (List.range q).filter fb = L at *
                go_wp2_with (first
                  | (refine wpList_app el50 rfl (.tmp 47) (.tmp 49) rfl B0 L.length _ _ #[.int .i64 q] rfl (by intro u hu; simp at hu; rcases hu with rfl; rfl) rfl rfl HO1.out hl1 (by have := HLQ.out; omega) ?_
                     intro g c w2 hown hgr _
                     have HO2 := Lib.hid hown
                     have HX2 := Lib.hid ((hgr.below.block w.heap.size HWB.out).trans HX1.out)
                     have HB2 := Lib.hid (HB1.out.trans (hgr.below.mono (Nat.le_of_lt HWB.out)))
                     have HL2 := Lib.hid (HL1.out.same (fun k hk => hgr.below.block k hk))
                     have HZ2 := Lib.hid (Nat.le_trans hl1 hgr.below.size)
                     clear hown hgr)
                  | fail)
                go_roundw
                case rel => exact ⟨q + 1, by omega, by simp, HX2, HL2, HZ2, Lib.hid (by rw [HSN.out]; simpa [intsL, iV] using HO2.out), HB2⟩
                case measure => simp [intOf] <;> omega
            · obtain rfl : q = N := by omega
              rw [HE.out] at HO
              go_wp2_with fail
              refine (ints_same wr.heap.size _ _ (intsL FL) wr (by have := HFL.out q; rw [HE.out] at this; simp [intsL]; omega) (HLL.out.up HZB.out) (own_ints (l := intsL FL) (by simpa [intsL] using HO.out)) (Nat.le_refl _)).mono ?_
              rintro e x9 ⟨rfl, hb⟩
              replace HBA := Lib.hid (below_to HBA.out hb)
              clear hb c0 c1 lc
              go_wp2_with fail
              refine (awake_any x9).mono ?_
              rintro e xa ⟨rfl, hb⟩
              have HBF := Lib.hid (below_to HBA.out hb)
              clear hb
              go_wp2
              go_ret
              exact ⟨rfl, HBF.out⟩
    · have HE0 := Lib.hid (HEE.out.trans (fin_fault hf))
      have hE0 : E ≠ 0 := by rw [HE0.out]; exact hf
      obtain rfl := HE1.out hE0
      have h1 : (E == 0) = false := by simp [hE0]
      have h2 : (E == E) = true := by simp
      clear hf HE1 HE2 HEE
      have c0 := cell_of_row u2 w.heap.size 0 _ _ _ HXA.out
      have c1 := cell_of_row u2 w.heap.size 1 _ _ _ HXA.out
      simp only [List.getElem?_toArray, List.getElem?_cons_zero, List.getElem?_cons_succ] at c0 c1
      have lc := lt_of_block HXA.out
      go_wp2_with fail
      clear c0 c1 lc
      refine (HFA.out u2 HBA.out).mono ?_
      rintro e u3 ⟨rfl, hb⟩
      replace HXA := Lib.hid ((hb.block _ (lt_of_block HXA.out)).trans HXA.out)
      replace HBA := Lib.hid (below_to HBA.out hb)
      clear hb
      rw [← HE0.out]
      clear hE0 HE0
      have c0 := cell_of_row u3 w.heap.size 0 _ _ _ HXA.out
      have c1 := cell_of_row u3 w.heap.size 1 _ _ _ HXA.out
      simp only [List.getElem?_toArray, List.getElem?_cons_zero, List.getElem?_cons_succ] at c0 c1
      have lc := lt_of_block HXA.out
      cases hpos : decide ((0 : Int) < n) with
      | false =>
        go_wp2_with fail
        go_loopw [8, 9] (fun s i wr => s = .slice none 0 0 ∧ i = .int .i64 0 ∧ wr = u3) (fun _ _ _ => 0)
        case atStart => exact ⟨rfl, rfl, rfl⟩
        case round =>
          obtain ⟨rfl, rfl, rfl⟩ := hrel
          go_wp2_with fail
          all_goals
            clear c0 c1 lc
            refine (ints_same wr.heap.size _ _ [] wr (by simp) (no_ints _ _) (no_ints _ _) (Nat.le_refl _)).mono ?_
            rintro e u4 ⟨rfl, hb⟩
            replace HXA := Lib.hid ((hb.block _ (lt_of_block HXA.out)).trans HXA.out)
            replace HBA := Lib.hid (below_to HBA.out hb)
            clear hb
            go_wp2_with fail
            refine (awake_any u4).mono ?_
            rintro e u5 ⟨rfl, hb⟩
            have HBF := Lib.hid (below_to HBA.out hb)
            clear hb
            go_wp2
            go_ret
            exact ⟨rfl, HBF.out⟩
      | true =>
        go_wp2_with fail
        go_loopw [8, 9] (fun s i wr => s = .slice none 0 0 ∧ i = .int .i64 0 ∧ wr = u3) (fun _ _ _ => 0)
        case atStart => exact ⟨rfl, rfl, rfl⟩
        case round =>
          obtain ⟨rfl, rfl, rfl⟩ := hrel
          go_wp2_with fail
          all_goals
            clear c0 c1 lc
            refine (ints_same wr.heap.size _ _ [] wr (by simp) (no_ints _ _) (no_ints _ _) (Nat.le_refl _)).mono ?_
            rintro e u4 ⟨rfl, hb⟩
            replace HXA := Lib.hid ((hb.block _ (lt_of_block HXA.out)).trans HXA.out)
            replace HBA := Lib.hid (below_to HBA.out hb)
            clear hb
            go_wp2_with fail
            refine (awake_any u4).mono ?_
            rintro e u5 ⟨rfl, hb⟩
            have HBF := Lib.hid (below_to HBA.out hb)
            clear hb
            go_wp2
            go_ret
            exact ⟨rfl, HBF.out⟩
  · have hth : decide (cs.length ≤ 16) = false := decide_eq_false ht
    clear ht
    go_wp2_with fail
    refine (awake_any u0).mono ?_
    rintro e u6 ⟨rfl, hb⟩
    have HBF := Lib.hid (below_to HBA.out hb)
    clear hb
    go_wp2
    go_ret
    exact ⟨rfl, HBF.out⟩
end Go.Proofs.Ytplmlmmjfkbabaa
