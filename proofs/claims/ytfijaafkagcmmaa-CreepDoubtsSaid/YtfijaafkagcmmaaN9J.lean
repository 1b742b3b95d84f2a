/- The law CreepDoubts, walked. No condition. The statement CreepDoubts holds: for every material and runs the law returns true and leaves what it was given as it was. No condition. -/
import Derived.Test.YtfijaafkagcmmaaN7
import Derived.Test.YtfijaafkagcmmaaC1
namespace Go.Proofs.Ytfijaafkagcmmaa
open Go.RowKit Go.Shelf
attribute [local irreducible] arrV wpQuiet

set_option maxRecDepth 100000 in
set_option maxHeartbeats 8000000 in
theorem doubts_walk (mv rv : Value) (ms : List Rg) (rs : List Rn) (w : World) (hV : RgsV w.heap.size w mv ms) (hR : RunsV w.heap.size w rv rs) :
    Calls Try.prog 7 #[.agg #[mv], rv] w fun e w' => e = .returned (.bool true) ∧ Below w.heap.size w w' := by
  have HROOM : Hid (∀ w', Below w.heap.size w w' → RoomV w.heap.size w' mv rv ms rs) := Lib.hid fun w' h => ⟨h.size, hV.same (.below (Nat.le_refl _) h), hR.same (.below (Nat.le_refl _) h)⟩
  have HMA0 := Lib.hid fun (hl : ms.length ≤ 1000) w' (h : Below w.heap.size w w') => Material_any w.heap.size mv ms w' hl (hV.same (.below (Nat.le_refl _) h)) h.size
  have HRU0 := Lib.hid fun (hl : rs.length ≤ 1000) (hs : ∀ q, q ∈ rs → q.ss.length ≤ 1000) w' (h : Below w.heap.size w w') => Runs_any w.heap.size rv rs w' hl hs (hR.same (.below (Nat.le_refl _) h)) h.size
  have HRG := Lib.hid fun w' (h : Below w.heap.size w w') => hV.same (.below (n := w.heap.size) (Nat.le_refl _) h)
  have HRN := Lib.hid fun w' (h : Below w.heap.size w w') => hR.same (.below (n := w.heap.size) (Nat.le_refl _) h)
  obtain ⟨am, capm, rfl, -⟩ := hV
  have HTH := Lib.hid fun w' (h : Below w.heap.size w w') => Thin_any w.heap.size am ms.length capm rv none 0 0 rs w' (hR.same (.below (Nat.le_refl _) h)) h.size
  obtain ⟨ar, capr, rfl, -⟩ := hR
  have HX := Lib.hid (heap_alloc_new w (.cells #[.slice am ms.length capm] 24))
  have HB := Lib.hid (box_below w (.cells #[.slice am ms.length capm] 24))
  have HA := Lib.hid awake_any
  have HHE := Lib.hid fun h => @thin_held ms.length 0 ms rs rfl h
  generalize hz : thinB ms.length rs 0 = z at *
  clear hz
  go_enter Try.func7, Try.ntmps7
  go_wp2_with fail
  refine (HTH.out _ HB.out).mono ?_
  rintro e u0 ⟨rfl, hb⟩
  have HXA := Lib.hid ((hb.block _ (lt_of_block HX.out)).trans HX.out)
  have HBA := Lib.hid (below_to HB.out hb)
  clear hb HX HB HTH
  cases z with
  | false =>
    go_wp2_with fail
    refine (HA.out u0).mono ?_
    rintro e u1 ⟨rfl, hb⟩
    have HBF := Lib.hid (below_to HBA.out hb)
    clear hb
    go_wp2
    go_ret
    exact ⟨rfl, HBF.out⟩
  | true =>
    have HH := Lib.hid (HHE.out (by trivial))
    have HMA := Lib.hid (HMA0.out HH.out.m)
    have HRU := Lib.hid (HRU0.out HH.out.r HH.out.s)
    clear HHE HMA0 HRU0
    have c0 := cell_of_row u0 w.heap.size 0 _ _ _ HXA.out
    simp only [List.getElem?_toArray, List.getElem?_cons_zero] at c0
    have l0 := lt_of_block HXA.out
    go_wp2_with fail
    have hmf := MatFault_any w.heap.size _ ms u0 (len_max HH.out.m) (HRG.out u0 HBA.out) HBA.out.size
    cases hmb : matB ms with
    | false =>
      have hme : matE ms = 1 := if_neg (by rw [hmb]; simp)
      rw [hme] at hmf
      have hF : faultE ms rs ≠ 0 := by rw [fault_mat (by rw [hme]; decide), hme]; decide
      clear hmb hme
      refine (hmf).mono ?_
      rintro e u1 ⟨rfl, hb⟩
      replace HXA := Lib.hid ((hb.block _ (lt_of_block HXA.out)).trans HXA.out)
      replace HBA := Lib.hid (below_to HBA.out hb)
      clear hb
      clear hmf c0 l0
      have c0 := cell_of_row u1 w.heap.size 0 _ _ _ HXA.out
      simp only [List.getElem?_toArray, List.getElem?_cons_zero] at c0
      have l0 := lt_of_block HXA.out
      go_wp2_with fail
      refine (HMA.out u1 HBA.out).mono ?_
      rintro e r1 ⟨⟨m6, rfl, hm6⟩, hb⟩
      replace HXA := Lib.hid ((hb.block _ (lt_of_block HXA.out)).trans HXA.out)
      replace HBA := Lib.hid (below_to HBA.out hb)
      clear hb
      have HM6 := Lib.hid hm6
      clear hm6 c0 l0
      go_wp2_with fail
      refine (HRU.out r1 HBA.out).mono ?_
      rintro e r2 ⟨⟨r7, rfl, hr7⟩, hb⟩
      replace HXA := Lib.hid ((hb.block _ (lt_of_block HXA.out)).trans HXA.out)
      replace HBA := Lib.hid (below_to HBA.out hb)
      replace HM6 := Lib.hid ((HM6.out.same (.below (Nat.le_refl _) hb)).up hb.size)
      clear hb
      have HV7 : Hid (RoomV r2.heap.size r2 m6 r7 ms rs) := Lib.hid ⟨Nat.le_refl _, HM6.out, hr7⟩
      clear hr7 HM6
      go_wp2_with fail
      obtain ⟨E, HE2⟩ : ∃ E, Hid (faultE ms rs = E) := ⟨_, Lib.hid rfl⟩
      have hde := Doubtful_err r2.heap.size m6 r7 ms rs r2 HH.out HV7.out hF
      rw [HE2.out] at hde hF
      have h1 : (E == 0) = false := by rw [beq_eq_false_iff_ne]; exact hF
      have h2 : (E != 0) = true := by rw [bne_iff_ne]; exact hF
      refine (hde).mono ?_
      rintro e r3 ⟨rfl, hb⟩
      replace HXA := Lib.hid ((hb.block _ (lt_of_block HXA.out)).trans HXA.out)
      replace HBA := Lib.hid (below_to HBA.out hb)
      clear hb
      clear hde HV7 hF
      have c0 := cell_of_row r3 w.heap.size 0 _ _ _ HXA.out
      simp only [List.getElem?_toArray, List.getElem?_cons_zero] at c0
      have l0 := lt_of_block HXA.out
      go_wp2_with fail
      have hfa := fault_any w.heap.size _ _ ms rs r3 (len_max HH.out.m) (len_max HH.out.r) (fun r hr => len_max (HH.out.s r hr)) (HRG.out r3 HBA.out) (HRN.out r3 HBA.out) HBA.out.size
      rw [HE2.out] at hfa
      refine (hfa).mono ?_
      rintro e r4 ⟨rfl, hb⟩
      replace HXA := Lib.hid ((hb.block _ (lt_of_block HXA.out)).trans HXA.out)
      replace HBA := Lib.hid (below_to HBA.out hb)
      clear hb
      clear hfa c0 l0
      go_wp2_with fail
      refine (HA.out r4).mono ?_
      rintro e r5 ⟨rfl, hb⟩
      have HBF := Lib.hid (below_to HBA.out hb)
      clear hb
      go_wp2
      go_ret
      exact ⟨rfl, HBF.out⟩
    | true =>
      have hme : matE ms = 0 := if_pos hmb
      rw [hme] at hmf
      have HRO := Lib.hid (matB_ok hmb).toRgsOk
      clear hmb hme
      refine (hmf).mono ?_
      rintro e u1 ⟨rfl, hb⟩
      replace HXA := Lib.hid ((hb.block _ (lt_of_block HXA.out)).trans HXA.out)
      replace HBA := Lib.hid (below_to HBA.out hb)
      clear hb
      clear hmf c0 l0
      have c0 := cell_of_row u1 w.heap.size 0 _ _ _ HXA.out
      simp only [List.getElem?_toArray, List.getElem?_cons_zero] at c0
      have l0 := lt_of_block HXA.out
      go_wp2_with fail
      refine (Lists_all w.heap.size am capm ms u1 HRO.out (HRG.out u1 HBA.out) HBA.out.size).mono ?_
      rintro e u2 ⟨v9, rfl, hl9, hb⟩
      replace HXA := Lib.hid ((hb.block _ (lt_of_block HXA.out)).trans HXA.out)
      replace HBA := Lib.hid (below_to HBA.out hb)
      clear hb c0 l0
      obtain ⟨sa, cap9, rfl, -, -⟩ := hl9.form
      clear hl9
      generalize (allL ms).length = nl at *
      by_cases hbig : (1500 : Int) < nl
      · have hbd : decide ((1500 : Int) < nl) = true := decide_eq_true hbig
        go_wp2_with fail
        refine (HA.out u2).mono ?_
        rintro e u3 ⟨rfl, hb⟩
        have HBF := Lib.hid (below_to HBA.out hb)
        clear hb
        go_wp2
        go_ret
        exact ⟨rfl, HBF.out⟩
      · have hbd : decide ((1500 : Int) < nl) = false := decide_eq_false hbig
        have hbn : nl ≤ 1500 := by omega
        have c0 := cell_of_row u2 w.heap.size 0 _ _ _ HXA.out
        simp only [List.getElem?_toArray, List.getElem?_cons_zero] at c0
        have l0 := lt_of_block HXA.out
        go_wp2_with fail
        refine (HMA.out u2 HBA.out).mono ?_
        rintro e r1 ⟨⟨m6, rfl, hm6⟩, hb⟩
        replace HXA := Lib.hid ((hb.block _ (lt_of_block HXA.out)).trans HXA.out)
        replace HBA := Lib.hid (below_to HBA.out hb)
        clear hb
        have HM6 := Lib.hid hm6
        clear hm6 c0 l0
        go_wp2_with fail
        refine (HRU.out r1 HBA.out).mono ?_
        rintro e r2 ⟨⟨r7, rfl, hr7⟩, hb⟩
        replace HXA := Lib.hid ((hb.block _ (lt_of_block HXA.out)).trans HXA.out)
        replace HBA := Lib.hid (below_to HBA.out hb)
        replace HM6 := Lib.hid ((HM6.out.same (.below (Nat.le_refl _) hb)).up hb.size)
        clear hb
        have HV7 : Hid (RoomV r2.heap.size r2 m6 r7 ms rs) := Lib.hid ⟨Nat.le_refl _, HM6.out, hr7⟩
        clear hr7 HM6
        go_wp2_with fail
        by_cases hF : faultE ms rs = 0
        · have HK := Lib.hid (faultE_ok hF)
          obtain ⟨s, hs, -⟩ := doubt_of HK.out
          have HBD := Lib.hid (best_doubt HK.out hs)
          have hdo := Doubtful_ok r2.heap.size m6 r7 ms rs s r2 HK.out HV7.out hs
          refine (hdo).mono ?_
          rintro e r3 ⟨⟨v7, rfl, hv7⟩, hb⟩
          replace HXA := Lib.hid ((hb.block _ (lt_of_block HXA.out)).trans HXA.out)
          replace HBA := Lib.hid (below_to HBA.out hb)
          clear hb
          clear hdo HV7 hs
          rw [HBD.out] at hv7
          change IntsV _ _ _ (bestT (refAl ms rs) rs.length (2 ^ rs.length)) at hv7
          have HLN := Lib.hid (best_len (refAl ms rs) rs.length (2 ^ rs.length))
          have HI := Lib.hid hv7
          clear hv7
          have c0 := cell_of_row r3 w.heap.size 0 _ _ _ HXA.out
          simp only [List.getElem?_toArray, List.getElem?_cons_zero] at c0
          have l0 := lt_of_block HXA.out
          go_wp2_with fail
          have hfa := fault_any w.heap.size _ _ ms rs r3 (len_max HH.out.m) (len_max HH.out.r) (fun r hr => len_max (HH.out.s r hr)) (HRG.out r3 HBA.out) (HRN.out r3 HBA.out) HBA.out.size
          rw [hF] at hfa
          refine (hfa).mono ?_
          rintro e r4 ⟨rfl, hb⟩
          replace HXA := Lib.hid ((hb.block _ (lt_of_block HXA.out)).trans HXA.out)
          replace HBA := Lib.hid (below_to HBA.out hb)
          replace HI := Lib.hid ((HI.out.same (.below (Nat.le_refl _) hb)).up hb.size)
          clear hb
          clear hfa c0 l0 hF
          have c0 := cell_of_row r4 w.heap.size 0 _ _ _ HXA.out
          simp only [List.getElem?_toArray, List.getElem?_cons_zero] at c0
          have l0 := lt_of_block HXA.out
          go_wp2_with fail
          have hrd := refDoubtful_any w.heap.size _ _ ms rs r4 HK.out (HROOM.out r4 HBA.out)
          refine (hrd).mono ?_
          rintro e r5 ⟨⟨v8, rfl, hv8⟩, hb⟩
          replace HXA := Lib.hid ((hb.block _ (lt_of_block HXA.out)).trans HXA.out)
          replace HBA := Lib.hid (below_to HBA.out hb)
          replace HI := Lib.hid ((HI.out.same (.below (Nat.le_refl _) hb)).up hb.size)
          clear hb
          have HI8 := Lib.hid hv8
          clear hrd hv8 c0 l0
          go_wp2_with fail
          have hin := ints_same r5.heap.size v7 v8 _ r5 (by have := HLN.out; have := HK.out.len; omega) HI.out HI8.out (Nat.le_refl _)
          refine (hin).mono ?_
          rintro e r6 ⟨rfl, hb⟩
          replace HXA := Lib.hid ((hb.block _ (lt_of_block HXA.out)).trans HXA.out)
          replace HBA := Lib.hid (below_to HBA.out hb)
          replace HI := Lib.hid ((HI.out.same (.below (Nat.le_refl _) hb)).up hb.size)
          replace HI8 := Lib.hid ((HI8.out.same (.below (Nat.le_refl _) hb)).up hb.size)
          clear hb
          clear hin
          go_wp2_with fail
          refine (HA.out r6).mono ?_
          rintro e r7 ⟨rfl, hb⟩
          have HBF := Lib.hid (below_to HBA.out hb)
          clear hb
          go_wp2
          go_ret
          exact ⟨rfl, HBF.out⟩
        · skip
          obtain ⟨E, HE2⟩ : ∃ E, Hid (faultE ms rs = E) := ⟨_, Lib.hid rfl⟩
          have hde := Doubtful_err r2.heap.size m6 r7 ms rs r2 HH.out HV7.out hF
          rw [HE2.out] at hde hF
          have h1 : (E == 0) = false := by rw [beq_eq_false_iff_ne]; exact hF
          have h2 : (E != 0) = true := by rw [bne_iff_ne]; exact hF
          refine (hde).mono ?_
          rintro e r3 ⟨rfl, hb⟩
          replace HXA := Lib.hid ((hb.block _ (lt_of_block HXA.out)).trans HXA.out)
          replace HBA := Lib.hid (below_to HBA.out hb)
          clear hb
          clear hde HV7 hF
          have c0 := cell_of_row r3 w.heap.size 0 _ _ _ HXA.out
          simp only [List.getElem?_toArray, List.getElem?_cons_zero] at c0
          have l0 := lt_of_block HXA.out
          go_wp2_with fail
          have hfa := fault_any w.heap.size _ _ ms rs r3 (len_max HH.out.m) (len_max HH.out.r) (fun r hr => len_max (HH.out.s r hr)) (HRG.out r3 HBA.out) (HRN.out r3 HBA.out) HBA.out.size
          rw [HE2.out] at hfa
          refine (hfa).mono ?_
          rintro e r4 ⟨rfl, hb⟩
          replace HXA := Lib.hid ((hb.block _ (lt_of_block HXA.out)).trans HXA.out)
          replace HBA := Lib.hid (below_to HBA.out hb)
          clear hb
          clear hfa c0 l0
          go_wp2_with fail
          refine (HA.out r4).mono ?_
          rintro e r5 ⟨rfl, hb⟩
          have HBF := Lib.hid (below_to HBA.out hb)
          clear hb
          go_wp2
          go_ret
          exact ⟨rfl, HBF.out⟩
end Go.Proofs.Ytfijaafkagcmmaa
namespace Go.Proofs.Ytfijaafkagcmmaa
open Go.ChangeShapes Go.WideShapes Go.ChangeAt Go.RowKit Go.Deep

theorem knob_own : ownKnob Try.prog.godebug = none := by kernel_rfl
theorem laid_out : laidOutB Try.prog = true := by kernel_rfl

set_option maxRecDepth 100000 in
theorem doubts_lifted (os : Os) (started : os.Started) (H : Type) (enc : TypeId × Value → H) :
    ReturnsInHanded {} Try.checked os 7 .any (Rows.creepDoubtsSpec.pre6 enc Try.prog Try.f7 Rows.creepDoubtsRow.domain false) (Rows.creepDoubtsSpec.post enc Try.prog Try.f7 false true false false) := by
  refine returnsInHanded_of_change (C := Try.checked) knob_own started (by kernel_rfl) Try.func7
    (ChangeSpec.witness6 (enc := enc) (C := Try.checked) false ⟨#[], #[.agg #[.slice none 0 0], .slice none 0 0], []⟩ 8 (by kernel_rfl) (by kernel_rfl) (by kernel_rfl) (by kernel_rfl)) ?_
  intro W base args ds gs before hval0 hW _ _
  have hval : ∀ (j : Nat) t v, Try.f7.params[j]? = some t → args[j]? = some v → Value.okWide Try.prog W .any base t v := hval0
  have hW' := hW
  obtain ⟨p, q, hA0, hV, rfl, hfz, hnd⟩ := hW
  have hA : DataW.TrodAll enc Try.prog W 0 (fun _ => true) true Try.f7.params.toList args.toList ds p := hA0
  rw [Try.params7] at hA hval
  obtain ⟨v0, vs0, d0, ds0, p0, q0, hargs, rfl, rfl, h0, r0⟩ := trodAll_cons hA
  obtain ⟨v1, vs1, d1, ds1, p1, q1, rfl, rfl, rfl, h1, r1⟩ := trodAll_cons r0
  obtain ⟨rfl, rfl, rfl⟩ := trodAll_nil r1
  obtain ⟨args⟩ := args
  simp only at hargs
  subst hargs
  obtain ⟨rfl, rfl⟩ := trodVars_none hV
  obtain ⟨mv, ms, rfl, hm⟩ := open_material (hval 0 24 v0 rfl rfl) h0
  obtain ⟨rs, hr⟩ := open_run_list (hval 1 25 v1 rfl rfl) h1
  clear hA0 hval0
  refine (doubts_walk mv v1 ms rs W hm hr).mono fun e W' ⟨he, hb⟩ => ?_
  subst he
  have hlt : ∀ x ∈ p0 ++ p1, x.block < W.heap.size := fun x hx => by simpa using hW'.lt x (by simpa using hx)
  have e1 : Rows.creepDoubtsSpec.fn H ([d0, d1] ++ []) = { results := [.lit (.bool true)], args := [d0, d1] } := rfl
  refine ⟨_, rfl, _, _, _, [], p0 ++ (p1 ++ []), [], hW', ?_, ?_, ?_, hb.frame _, fun h => by cases h⟩
  · rw [e1]
    exact trodAll_mk1 (shut_bool Try.underlying4 true)
  · rw [e1]
    exact trodAll_cons_mk (Below.trod laid_out (by kernel_rfl) (of_decide_eq_true (by kernel_rfl)) h0 hb (fun x hx => hlt x (by simp [hx])))
      (trodAll_cons_mk (Below.trod laid_out (by kernel_rfl) (of_decide_eq_true (by kernel_rfl)) h1 hb (fun x hx => hlt x (by simp [hx]))) trodAll_mk0)
  · rfl

theorem doubts_holds : Rows.CreepDoubtsSaid :=
  OpenClaim.holds_of_wide 7 Try.f7 rfl rfl rfl rfl rfl rfl rfl ⟨rfl, rfl, rfl, rfl, rfl⟩ rfl rfl rfl rfl rfl (by kernel_rfl) Try.func7 (by kernel_rfl)
    (of_decide_eq_true (by kernel_rfl)) (by unfold Func.isWrapper; rw [if_neg (of_decide_eq_false (by kernel_rfl))]; exact ⟨rfl, rfl⟩)
    (fun os started H enc _ => doubts_lifted os started H enc)
#print axioms doubts_holds
end Go.Proofs.Ytfijaafkagcmmaa
