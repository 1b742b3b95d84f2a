/- The law GrainShows, walked. No condition. -/
import Derived.Test.YtplmlmmjfkbabaaSD
import Derived.Test.YtplmlmmjfkbabaaRI
namespace Go.Proofs.Ytplmlmmjfkbabaa
open Go.RowKit Go.Shelf
attribute [local irreducible] arrV wpQuiet mat shl

theorem ends_at {d : Dm} {N k : Nat} {b : Bool} (h : k < N) : ld (endsL b (gradesL d N)) k = if b then d 0 (k + 1) else -d (k + 1) 0 := by
  have e := grades_at (d := d) h
  have hl : k < (gradesL d N).length := by rw [grades_len]; exact h
  have e2 : (gradesL d N)[k] = ⟨-d (k + 1) 0, d 0 (k + 1)⟩ := by simpa [rg, hl] using e
  simp only [ld, endsL, List.getElem?_map, List.getElem?_eq_getElem hl, e2, Option.map_some, Option.getD_some, endR]
theorem ends_len (d : Dm) (N : Nat) (b : Bool) : (endsL b (gradesL d N)).length = N := by simp [endsL, grades_len]
/-- The ends of all ranges fit. -/
theorem fit_ends {cs : List Cm} {d : Dm} {N : Nat} (hA : AlbOk N cs) (hC : Canon cs d) (b : Bool) : fitB N cs (endsL b (gradesL d N)) = true := by
  have h8 := hA.n8
  obtain ⟨g, hg, hgk⟩ : ∃ g, Fits cs g ∧ ∀ k, k < N → ld (endsL b (gradesL d N)) k = g (k + 1) := by
    cases b with
    | true => exact ⟨_, canon_hi hC hA.w, fun k hk => ends_at hk⟩
    | false => exact ⟨_, canon_lo hC hA.w, fun k hk => ends_at hk⟩
  have hof : ∀ p : Int, -1 ≤ p → p < N → ofL (endsL b (gradesL d N)) p = g (pl p) := fun p h1 h2 => by
    by_cases e : p = -1
    · subst e
      have : pl (-1) = 0 := by unfold pl; omega
      rw [this, hg.chart]
      rfl
    · obtain ⟨P, rfl⟩ : ∃ P : Nat, p = P := ⟨p.toNat, by omega⟩
      have : pl (P : Int) = P + 1 := by unfold pl; omega
      rw [ofL_nat, hgk P (by omega), this]
  unfold fitB
  rw [Bool.and_eq_true, Bool.and_eq_true]
  refine ⟨decide_eq_true (by rw [ends_len]), all_yes fun j hj => ?_, List.all_eq_true.2 fun c hc => ?_⟩
  · rw [ends_len] at hj
    rw [hgk j hj]
    have := hg.all (j + 1) (by omega)
    simpa [hasB] using this
  · have ok := hA.cm c hc
    have s := hg.says c hc
    have := ok.l0; have := ok.ln; have := ok.r0; have := ok.rn
    unfold agreeB
    rw [hof c.l (by omega) (by omega), hof c.r (by omega) (by omega)]
    simpa [hasB] using s
theorem ints_get {m : Nat} {w : World} {v : Value} {gs : List Int} {k : Nat} (h : IntsV m w v gs) (hk : k < gs.length) : ∃ b off cap, v = .slice (some ⟨b, off, none⟩) gs.length cap ∧ b < m ∧ w.cell? ⟨b, off + k, none⟩ = some (.int .i64 (ld gs k)) := by
  obtain ⟨a, cap, rfl, hp⟩ := h
  obtain ⟨b, off, rfl, hb, hc⟩ := hp (by omega)
  exact ⟨b, off, cap, rfl, hb, hc k hk⟩
set_option maxRecDepth 100000 in
set_option maxHeartbeats 8000000 in
theorem shows_walk (n : Int) (v : Value) (cs : List Cm) (p : Int) (hi : Bool) (gv : Value) (gs : List Int) (w : World) (hV : CmsV w.heap.size w v cs) (hG : IntsV w.heap.size w gv gs) :
    Calls Try.prog 5 #[.agg #[.int .i64 n, v], .int .i64 p, .bool hi, gv] w fun e w' => e = .returned (.bool true) ∧ Below w.heap.size w w' := by
  have HAL0 := Lib.hid fun (hl : cs.length ≤ 1000) w' (h : Below w.heap.size w w') => Album_any w.heap.size n v cs w' hl (hV.same (.below (Nat.le_refl _) h)) h.size
  have HFA0 := Lib.hid fun (hl : cs.length ≤ maxLen) w' (h : Below w.heap.size w w') => fault_any w.heap.size n v cs w' hl (hV.same (.below (Nat.le_refl _) h)) h.size
  have HAS0 := Lib.hid fun (hl : cs.length ≤ maxLen) w' (h : Below w.heap.size w w') => asked_any n v cs p w' hl ((hV.same (.below (Nat.le_refl _) h)).up h.size)
  have HLI0 := Lib.hid fun (hl : gs.length ≤ 1000) w' (h : Below w.heap.size w w') => list_any w.heap.size gv gs w' hl (hG.same (.below (Nat.le_refl _) h)) h.size
  have HRG := Lib.hid fun (N : Nat) (hN : n = N) (hA : AlbOk n cs) w' (h : Below w.heap.size w w') => refGrades_any N v cs w' (hN ▸ hA) ((hV.same (.below (Nat.le_refl _) h)).up h.size)
  have HFT := Lib.hid fun (N : Nat) (hN : n = N) (hA : AlbOk n cs) (lv : Value) (ls : List Int) (hl : ls.length ≤ maxLen) w' (h : Below w.heap.size w w') (hL : IntsV w'.heap.size w' lv ls) => refFits_any w'.heap.size N v lv cs ls w' (hN ▸ hA) hl ((hV.same (.below (Nat.le_refl _) h)).up h.size) hL (Nat.le_refl _)
  have HGV := Lib.hid hG
  obtain ⟨a, cap, rfl, hp⟩ := hV
  obtain ⟨ga, gcap, rfl, -⟩ := hG
  have HXA := Lib.hid (heap_alloc_new w (.cells #[.int .i64 n, .slice a cs.length cap] 24))
  have HBA := Lib.hid (box_below w (.cells #[.int .i64 n, .slice a cs.length cap] 24))
  clear hp
  go_enter Try.func5, Try.ntmps5
  go_wp2_with fail
  refine (Thin_any n a cs.length cap _).mono ?_
  rintro e u0 ⟨rfl, hb⟩
  replace HXA := Lib.hid ((hb.block _ (lt_of_block HXA.out)).trans HXA.out)
  replace HBA := Lib.hid (below_to HBA.out hb)
  clear hb
  by_cases ht : cs.length ≤ 16
  · have hth : decide (cs.length ≤ 16) = true := decide_eq_true ht
    by_cases hgl : gs.length ≤ 12
    · have hg1 : decide ((12 : Int) < gs.length) = false := decide_eq_false (by omega)
      have HAL := Lib.hid (HAL0.out (by omega))
      have HFA := Lib.hid (HFA0.out (by simp [maxLen]; omega))
      have HAS := Lib.hid (HAS0.out (by simp [maxLen]; omega))
      have HLI := Lib.hid (HLI0.out (by omega))
      have HML : Hid (cs.length ≤ maxLen) := Lib.hid (by simp [maxLen]; omega)
      have HGL : Hid (gs.length ≤ maxLen) := Lib.hid (by simp [maxLen]; omega)
      clear ht hgl HAL0 HFA0 HAS0 HLI0
      have c0 := cell_of_row u0 w.heap.size 0 _ _ _ HXA.out
      have c1 := cell_of_row u0 w.heap.size 1 _ _ _ HXA.out
      simp only [List.getElem?_toArray, List.getElem?_cons_zero, List.getElem?_cons_succ] at c0 c1
      have lc := lt_of_block HXA.out
      go_wp2_with fail
      clear c0 c1 lc
      refine (HAL.out u0 HBA.out).mono ?_
      rintro e u1 ⟨⟨r1, rfl, ho⟩, hb⟩
      replace HXA := Lib.hid ((hb.block _ (lt_of_block HXA.out)).trans HXA.out)
      replace HBA := Lib.hid (below_to HBA.out hb)
      clear hb
      have HV1 := Lib.hid (own_cms (l := cs) ho)
      clear ho
      go_wp2_with fail
      refine (Shows_any u1.heap.size n _ cs p hi u1 HML.out HV1.out (Nat.le_refl _)).mono ?_
      rintro e u2 ⟨⟨rl, rfl, h1, h2⟩, hb⟩
      replace HXA := Lib.hid ((hb.block _ (lt_of_block HXA.out)).trans HXA.out)
      replace HBA := Lib.hid (below_to HBA.out hb)
      replace HV1 := Lib.hid ((HV1.out.same (.below (Nat.le_refl _) hb)).up hb.size)
      clear hb
      clear HV1
      have HE1 := Lib.hid h1
      clear h1
      obtain ⟨E, hE⟩ : ∃ E, E = layE n cs [p] := ⟨_, rfl⟩
      rw [← hE]
      rw [← hE] at HE1 h2
      have HEE := Lib.hid hE
      clear hE
      have HE2 : Hid (E = 0 → ∃ d N, distO cs = some d ∧ n = ((N : Nat) : Int) ∧ IntsV u2.heap.size u2 rl (endsL hi (gradesL d N))) := Lib.hid fun h => by
        obtain ⟨d, N, q1, q2, q3⟩ := h2 h
        exact ⟨d, N, q1, q2, own_ints (l := endsL hi (gradesL d N)) (by rw [ends_len]; exact q3)⟩
      clear h2
      have HRL : Hid (∀ w', Below u2.heap.size u2 w' → E = 0 → ∃ d N, distO cs = some d ∧ n = ((N : Nat) : Int) ∧ IntsV w'.heap.size w' rl (endsL hi (gradesL d N))) := Lib.hid fun w' h he => by
        obtain ⟨d, N, q1, q2, q3⟩ := HE2.out he
        exact ⟨d, N, q1, q2, (q3.same (.below (Nat.le_refl _) h)).up h.size⟩
      have HUS : Hid (Below u2.heap.size u2 u2) := Lib.hid (Below.refl _ _)
      clear HE2
      have c0 := cell_of_row u2 w.heap.size 0 _ _ _ HXA.out
      have c1 := cell_of_row u2 w.heap.size 1 _ _ _ HXA.out
      simp only [List.getElem?_toArray, List.getElem?_cons_zero, List.getElem?_cons_succ] at c0 c1
      have lc := lt_of_block HXA.out
      go_wp2_with fail
      clear c0 c1 lc
      refine (HAL.out u2 HBA.out).mono ?_
      rintro e u3 ⟨⟨r2, rfl, ho⟩, hb⟩
      replace HXA := Lib.hid ((hb.block _ (lt_of_block HXA.out)).trans HXA.out)
      replace HBA := Lib.hid (below_to HBA.out hb)
      replace HUS := Lib.hid (below_to HUS.out hb)
      clear hb
      have HV1 := Lib.hid (own_cms (l := cs) ho)
      clear ho
      go_wp2_with fail
      refine (HLI.out u3 HBA.out).mono ?_
      rintro e u4 ⟨⟨r3, rfl, ho⟩, hb⟩
      replace HXA := Lib.hid ((hb.block _ (lt_of_block HXA.out)).trans HXA.out)
      replace HBA := Lib.hid (below_to HBA.out hb)
      replace HUS := Lib.hid (below_to HUS.out hb)
      replace HV1 := Lib.hid ((HV1.out.same (.below (Nat.le_refl _) hb)).up hb.size)
      clear hb
      have HV3 := Lib.hid (own_ints (l := gs) (by simpa using ho))
      clear ho
      go_wp2_with fail
      refine (ProveFit_any u4.heap.size n _ _ cs gs u4 HML.out HGL.out HV1.out HV3.out (Nat.le_refl _)).mono ?_
      rintro e u5 ⟨rfl, hb⟩
      replace HXA := Lib.hid ((hb.block _ (lt_of_block HXA.out)).trans HXA.out)
      replace HBA := Lib.hid (below_to HBA.out hb)
      replace HUS := Lib.hid (below_to HUS.out hb)
      replace HV1 := Lib.hid ((HV1.out.same (.below (Nat.le_refl _) hb)).up hb.size)
      replace HV3 := Lib.hid ((HV3.out.same (.below (Nat.le_refl _) hb)).up hb.size)
      clear hb
      clear HV1
      clear HV3
      obtain ⟨IS, hIS⟩ : ∃ I, I = proveB n cs gs := ⟨_, rfl⟩
      rw [← hIS]
      have HIS := Lib.hid hIS
      clear hIS
      have c0 := cell_of_row u5 w.heap.size 0 _ _ _ HXA.out
      have c1 := cell_of_row u5 w.heap.size 1 _ _ _ HXA.out
      simp only [List.getElem?_toArray, List.getElem?_cons_zero, List.getElem?_cons_succ] at c0 c1
      have lc := lt_of_block HXA.out
      go_wp2_with fail
      clear c0 c1 lc
      refine (HFA.out u5 HBA.out).mono ?_
      rintro e u6 ⟨rfl, hb⟩
      replace HXA := Lib.hid ((hb.block _ (lt_of_block HXA.out)).trans HXA.out)
      replace HBA := Lib.hid (below_to HBA.out hb)
      replace HUS := Lib.hid (below_to HUS.out hb)
      clear hb
      by_cases hf : faultA n cs = 0
      · have HOK := Lib.hid (fault_ok hf)
        have hn0 := HOK.out.n0
        have hn8 := HOK.out.n8
        obtain ⟨N, rfl⟩ : ∃ N : Nat, n = (N : Int) := ⟨n.toNat, by omega⟩
        have HFX := Lib.hid (HFT.out N rfl HOK.out)
        have HRX := Lib.hid (HRG.out N rfl HOK.out)
        obtain rfl : IS = fitB N cs gs := by rw [HIS.out]; simp only [proveB, hf, decide_true, Bool.true_and]
        rw [hf]
        clear hf HFT HRG HIS
        have c0 := cell_of_row u6 w.heap.size 0 _ _ _ HXA.out
        have c1 := cell_of_row u6 w.heap.size 1 _ _ _ HXA.out
        simp only [List.getElem?_toArray, List.getElem?_cons_zero, List.getElem?_cons_succ] at c0 c1
        have lc := lt_of_block HXA.out
        go_wp2_with fail
        clear c0 c1 lc
        have hgv : IntsV u6.heap.size u6 (.slice ga gs.length gcap) gs := (HGV.out.same (.below (Nat.le_refl _) HBA.out)).up HBA.out.size
        refine (HFX.out _ gs HGL.out u6 HBA.out hgv).mono ?_
        rintro e u7 ⟨rfl, hb⟩
        replace HXA := Lib.hid ((hb.block _ (lt_of_block HXA.out)).trans HXA.out)
        replace HBA := Lib.hid (below_to HBA.out hb)
        replace HUS := Lib.hid (below_to HUS.out hb)
        clear hb
        clear hgv
        generalize fitB N cs gs = IS at *
        have h9 : (IS != IS) = false := by simp
        have c0 := cell_of_row u7 w.heap.size 0 _ _ _ HXA.out
        have c1 := cell_of_row u7 w.heap.size 1 _ _ _ HXA.out
        simp only [List.getElem?_toArray, List.getElem?_cons_zero, List.getElem?_cons_succ] at c0 c1
        have lc := lt_of_block HXA.out
        go_wp2_with fail
        clear c0 c1 lc
        refine (HAS.out u7 HBA.out).mono ?_
        rintro e u8 ⟨rfl, hb⟩
        replace HXA := Lib.hid ((hb.block _ (lt_of_block HXA.out)).trans HXA.out)
        replace HBA := Lib.hid (below_to HBA.out hb)
        replace HUS := Lib.hid (below_to HUS.out hb)
        clear hb
        rw [← HEE.out]
        by_cases he : E = 0
        · subst he
          obtain ⟨d, N', hd, hN, -⟩ := HRL.out u2 (Below.refl _ _) rfl
          obtain rfl : N = N' := by omega
          have HD := Lib.hid hd
          have HRM : Hid (∀ w', Below u2.heap.size u2 w' → IntsV w'.heap.size w' rl (endsL hi (gradesL d N))) := Lib.hid fun w' h => by
            obtain ⟨d', N', q1, q2, q3⟩ := HRL.out w' h rfl
            rw [HD.out] at q1
            obtain rfl : d = d' := by injection q1
            obtain rfl : N = N' := by omega
            exact q3
          have hpp := (ask_ok HEE.out.symm).2
          rw [pics_one] at hpp
          simp only [hasB, decide_eq_true_eq] at hpp
          obtain ⟨P, rfl⟩ : ∃ P : Nat, p = P := ⟨p.toNat, by omega⟩
          have hPN : P < N := by omega
          clear hd hN hpp HRL HE1 HEE
          have c0 := cell_of_row u8 w.heap.size 0 _ _ _ HXA.out
          have c1 := cell_of_row u8 w.heap.size 1 _ _ _ HXA.out
          simp only [List.getElem?_toArray, List.getElem?_cons_zero, List.getElem?_cons_succ] at c0 c1
          have lc := lt_of_block HXA.out
          go_wp2_with fail
          clear c0 c1 lc
          refine (HRX.out u8 HBA.out).mono ?_
          rintro e u9 ⟨hg, hb⟩
          replace HXA := Lib.hid ((hb.block _ (lt_of_block HXA.out)).trans HXA.out)
          replace HBA := Lib.hid (below_to HBA.out hb)
          replace HUS := Lib.hid (below_to HUS.out hb)
          clear hb
          rcases hg with ⟨d', rr, hd, rfl, ho⟩ | ⟨hd, rfl⟩
          rotate_left
          · rw [HD.out] at hd
            cases hd
          rw [HD.out] at hd
          cases hd
          obtain ⟨gb, gc, rfl, -, hgl, hgc⟩ := own_getR ho (by omega)
          obtain ⟨k1, k2⟩ := flatR_get (gradesL d N) P (by rw [grades_len]; exact hPN)
          rw [grades_at hPN] at k1 k2
          have p1 := (hgc (P * 2) (by omega)).trans k1
          have p2 := (hgc (P * 2 + 1) (by omega)).trans k2
          have hPi : (P : Int) < N := by omega
          obtain ⟨lb, loff, lc, rfl, hlb, hlc⟩ := ints_get (HRM.out u9 HUS.out) (show P < (endsL hi (gradesL d N)).length by rw [ends_len]; exact hPN)
          rw [ends_at hPN] at hlc
          simp only at p1 p2
          clear k1 k2 hgc ho
          have c0 := cell_of_row u9 w.heap.size 0 _ _ _ HXA.out
          have c1 := cell_of_row u9 w.heap.size 1 _ _ _ HXA.out
          simp only [List.getElem?_toArray, List.getElem?_cons_zero, List.getElem?_cons_succ] at c0 c1
          have lc := lt_of_block HXA.out
          have HFE := Lib.hid (fit_ends HOK.out (dist_some HOK.out HD.out) hi)
          have HLV := Lib.hid (HRM.out u9 HUS.out)
          have hel := ends_len d N hi
          have hval := ends_at (d := d) (b := hi) hPN
          generalize endsL hi (gradesL d N) = LS at *
          clear hlc hlb
          have hPL : (P : Int) < LS.length := by omega
          have hll : LS.length ≤ maxLen := Nat.le_trans (show LS.length ≤ 8 by omega) (by simp [maxLen])
          have HLL := Lib.hid hll
          clear hel hll HRM
          cases hi with
          | true =>
            simp only [if_true, Bool.false_eq_true, if_false] at hval
            obtain ⟨XV, hXV⟩ : ∃ x, x = d 0 (P + 1) := ⟨_, rfl⟩
            rw [← hXV] at hval p2
            clear hXV
            have HVAL := Lib.hid hval
            clear hval
            go_wp2_with fail
            refine (HFX.out _ LS HLL.out u9 HBA.out HLV.out).mono ?_
            rintro e u10 ⟨rfl, hb⟩
            replace HXA := Lib.hid ((hb.block _ (lt_of_block HXA.out)).trans HXA.out)
            replace HBA := Lib.hid (below_to HBA.out hb)
            replace HUS := Lib.hid (below_to HUS.out hb)
            replace HLV := Lib.hid ((HLV.out.same (.below (Nat.le_refl _) hb)).up hb.size)
            clear hb
            rw [HFE.out]
            clear c0 c1 lc p1 p2
            obtain ⟨lb2, loff2, lc2, e, hlb2, hlc2⟩ := ints_get HLV.out (show P < LS.length by omega)
            cases e
            rw [HVAL.out] at hlc2
            clear hlb2
            go_wp2_with fail
            refine (awake_any u10).mono ?_
            rintro e u11 ⟨rfl, hb⟩
            have HBF := Lib.hid (below_to HBA.out hb)
            clear hb
            go_wp2
            go_ret
            exact ⟨rfl, HBF.out⟩
          | false =>
            simp only [if_true, Bool.false_eq_true, if_false] at hval
            obtain ⟨XV, hXV⟩ : ∃ x, x = -d (P + 1) 0 := ⟨_, rfl⟩
            rw [← hXV] at hval p1
            clear hXV
            have HVAL := Lib.hid hval
            clear hval
            go_wp2_with fail
            refine (HFX.out _ LS HLL.out u9 HBA.out HLV.out).mono ?_
            rintro e u10 ⟨rfl, hb⟩
            replace HXA := Lib.hid ((hb.block _ (lt_of_block HXA.out)).trans HXA.out)
            replace HBA := Lib.hid (below_to HBA.out hb)
            replace HUS := Lib.hid (below_to HUS.out hb)
            replace HLV := Lib.hid ((HLV.out.same (.below (Nat.le_refl _) hb)).up hb.size)
            clear hb
            rw [HFE.out]
            clear c0 c1 lc p1 p2
            obtain ⟨lb2, loff2, lc2, e, hlb2, hlc2⟩ := ints_get HLV.out (show P < LS.length by omega)
            cases e
            rw [HVAL.out] at hlc2
            clear hlb2
            go_wp2_with fail
            refine (awake_any u10).mono ?_
            rintro e u11 ⟨rfl, hb⟩
            have HBF := Lib.hid (below_to HBA.out hb)
            clear hb
            go_wp2
            go_ret
            exact ⟨rfl, HBF.out⟩
        · obtain rfl := HE1.out he
          have h1 : (E == 0) = false := by simp [he]
          have h2 : (E != 0) = true := by simp [he]
          have h3 : (E == E) = true := by simp
          clear he
          go_wp2_with fail
          refine (awake_any u8).mono ?_
          rintro e u9 ⟨rfl, hb⟩
          have HBF := Lib.hid (below_to HBA.out hb)
          clear hb
          go_wp2
          go_ret
          exact ⟨rfl, HBF.out⟩
      · have HE3 := Lib.hid (HEE.out.trans (lay_fault _ hf))
        obtain rfl : IS = false := by rw [HIS.out]; simp [proveB, hf]
        have hE0 : E ≠ 0 := by rw [HE3.out]; exact hf
        obtain rfl := HE1.out hE0
        rw [← HE3.out]
        have h1 : (E == 0) = false := by simp [hE0]
        have h2 : (E != 0) = true := by simp [hE0]
        have h3 : (E == E) = true := by simp
        clear hf hE0 HE1
        have c0 := cell_of_row u6 w.heap.size 0 _ _ _ HXA.out
        have c1 := cell_of_row u6 w.heap.size 1 _ _ _ HXA.out
        simp only [List.getElem?_toArray, List.getElem?_cons_zero, List.getElem?_cons_succ] at c0 c1
        have lc := lt_of_block HXA.out
        go_wp2_with fail
        clear c0 c1 lc
        refine (HAS.out u6 HBA.out).mono ?_
        rintro e u7 ⟨rfl, hb⟩
        replace HXA := Lib.hid ((hb.block _ (lt_of_block HXA.out)).trans HXA.out)
        replace HBA := Lib.hid (below_to HBA.out hb)
        replace HUS := Lib.hid (below_to HUS.out hb)
        clear hb
        rw [← HEE.out]
        go_wp2_with fail
        refine (awake_any u7).mono ?_
        rintro e u8 ⟨rfl, hb⟩
        have HBF := Lib.hid (below_to HBA.out hb)
        clear hb
        go_wp2
        go_ret
        exact ⟨rfl, HBF.out⟩
    · have hg1 : decide ((12 : Int) < gs.length) = true := decide_eq_true (by omega)
      clear ht hgl
      go_wp2_with fail
      refine (awake_any u0).mono ?_
      rintro e u1 ⟨rfl, hb⟩
      have HBF := Lib.hid (below_to HBA.out hb)
      clear hb
      go_wp2
      go_ret
      exact ⟨rfl, HBF.out⟩
  · have hth : decide (cs.length ≤ 16) = false := decide_eq_false ht
    clear ht
    go_wp2_with fail
    refine (awake_any u0).mono ?_
    rintro e u1 ⟨rfl, hb⟩
    have HBF := Lib.hid (below_to HBA.out hb)
    clear hb
    go_wp2
    go_ret
    exact ⟨rfl, HBF.out⟩
end Go.Proofs.Ytplmlmmjfkbabaa
