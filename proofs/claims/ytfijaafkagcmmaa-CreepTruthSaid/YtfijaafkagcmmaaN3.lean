/- The law CreepDoubtful, walked. No condition. -/
import Derived.Test.YtfijaafkagcmmaaN2J
import Derived.BigRegion
namespace Go.Proofs.Ytfijaafkagcmmaa
open Go.RowKit Go.Shelf
attribute [local irreducible] arrV wpQuiet

/-- What the law asks of the doubtful runs. -/
structure DoubtOf (ms : List Rg) (rs : List Rn) (D : List Int) : Prop where
  len : D.length ≤ rs.length
  at_ : ∀ i, i < D.length → 0 ≤ ld D i ∧ ld D i < rs.length
  up : ∀ i, i + 1 < D.length → ld D i < ld D (i + 1)
  ok : okL ms (woT rs D rs.length) ≠ []
  zero : (okL ms rs = [] ∧ D.length ≠ 0) ∨ (okL ms rs ≠ [] ∧ D.length = 0)
  least : ∀ nums, okL ms (woT rs nums rs.length) ≠ [] → (D.length : Int) ≤ (rs.length : Int) - (woT rs nums rs.length).length
theorem ok_none {ms : List Rg} {rs : List Rn} (hl : rs.length ≤ 6) : okL ms rs ≠ [] ↔ alS ms rs (fun _ => false) = true := by
  rw [alS_iff hl]
  constructor
  · intro h
    obtain ⟨x, hx⟩ := List.exists_mem_of_ne_nil _ h
    rw [mem_okL, ← allN_fits, allN_iff] at hx
    exact ⟨x, hx.1, fun i hi _ => hx.2 i hi⟩
  · rintro ⟨x, hx, h⟩
    refine List.ne_nil_of_mem (mem_okL.2 ⟨hx, ?_⟩)
    rw [← allN_fits, allN_iff]
    exact fun i hi => h i hi rfl
theorem doubt_of {ms : List Rg} {rs : List Rn} (hK : RoomOk ms rs) : ∃ s, doubtP (alS ms rs) rs.length = some s ∧ DoubtOf ms rs (listS s 6) := by
  have hl := hK.len
  obtain ⟨s, h1, h2, h3, h4⟩ := doubt_spec (alS_dep hl) (alS_full hK.mat hl)
  have hc := listS_card hl h3
  have hmem : alS ms rs (fun i => decide ((i : Int) ∈ listS s 6)) = alS ms rs s := alS_dep hl _ _ fun i hi => by
    rw [Bool.eq_iff_iff, decide_eq_true_eq, listS_mem]
    exact ⟨fun h => h.2, fun h => ⟨by omega, h⟩⟩
  refine ⟨s, h1, ⟨?_, fun i hi => (listS_get h3 hi).1, fun i hi => by simpa using (listS_get h3 hi).2 (by omega), ?_, ?_, fun nums hn => ?_⟩⟩
  · rw [hc]
    have := List.length_filter_le s (List.range rs.length)
    simpa [cardS] using this
  · rw [ok_wo hl, hmem]
    exact h2
  · by_cases ho : okL ms rs = []
    · refine .inl ⟨ho, fun h0 => ?_⟩
      have hz : ∀ i, i < rs.length → s i = (fun _ => false) i := fun i hi => by
        cases hs : s i with
        | false => rfl
        | true =>
          have : (i : Int) ∈ listS s 6 := listS_mem.2 ⟨by omega, hs⟩
          rw [List.eq_nil_of_length_eq_zero h0] at this
          simp at this
      have := alS_dep (ms := ms) hl _ _ hz
      rw [h2] at this
      exact ok_none hl |>.2 this.symm ho
    · refine .inr ⟨ho, ?_⟩
      have := h4 _ (ok_none hl |>.1 ho)
      rw [hc]
      have h0 : cardS (fun _ => false) rs.length = 0 := by simp [cardS]
      omega
  · have h5 := h4 _ (ok_wo hl nums |>.1 hn)
    have h6 := wo_len (rs := rs) (nums := nums)
    omega
theorem Rates_all (n : Nat) (mv rv : Value) (ms : List Rg) (rs : List Rn) (w : World) (hK : RoomOk ms rs) (hV : RoomV n w mv rv ms rs) :
    Calls Try.prog 27 #[.agg #[mv], rv] w fun e w' => (∃ v k, e = .returned (.tuple #[v, .int .i64 k, .int .i64 (failE (someB (okL ms rs)))])) ∧ Below w.heap.size w w' := by
  by_cases h : okL ms rs = []
  · refine (Rates_fail n mv rv ms rs w hK hV h).mono ?_
    rintro e w' ⟨rfl, hb⟩
    rw [someB_nil h]
    exact ⟨⟨_, _, rfl⟩, hb⟩
  · refine (Rates_ok n mv rv ms rs w hK hV h).mono ?_
    rintro e w' ⟨⟨v, rfl, -⟩, hb⟩
    rw [someB_ne h]
    exact ⟨⟨_, _, rfl⟩, hb⟩

set_option maxRecDepth 100000 in
set_option maxHeartbeats 8000000 in
theorem doubtful_walk (mv rv xv : Value) (ms : List Rg) (rs : List Rn) (x : List Int) (w : World) (hV : RgsV w.heap.size w mv ms) (hR : RunsV w.heap.size w rv rs) (hXV : IntsV w.heap.size w xv x) :
    Calls Try.prog 15 #[.agg #[mv], rv, xv] w fun e w' => e = .returned (.bool true) ∧ Below w.heap.size w w' := by
  have HR := Lib.hid fun w' (h : Below w.heap.size w w') => ready_any w.heap.size mv rv (.slice none 0 0) ms rs [] w' (hV.same (.below (Nat.le_refl _) h)) (hR.same (.below (Nat.le_refl _) h)) ⟨none, 0, rfl, fun h0 => absurd h0 (by decide)⟩ h.size
  have HMA0 := Lib.hid fun (hl : ms.length ≤ 1000) w' (h : Below w.heap.size w w') => Material_any w.heap.size mv ms w' hl (hV.same (.below (Nat.le_refl _) h)) h.size
  have HRU0 := Lib.hid fun (hl : rs.length ≤ 1000) (hs : ∀ q, q ∈ rs → q.ss.length ≤ 1000) w' (h : Below w.heap.size w w') => Runs_any w.heap.size rv rs w' hl hs (hR.same (.below (Nat.le_refl _) h)) h.size
  have HXV := Lib.hid fun w' (h : Below w.heap.size w w') => hXV.same (.below (n := w.heap.size) (Nat.le_refl _) h)
  have HRN := Lib.hid fun w' (h : Below w.heap.size w w') => hR.same (.below (n := w.heap.size) (Nat.le_refl _) h)
  obtain ⟨am, capm, rfl, -⟩ := hV
  obtain ⟨ax, capx, rfl, -⟩ := hXV
  obtain ⟨ar, capr, rfl, -⟩ := hR
  have HX := Lib.hid (heap_alloc_new w (.cells #[.slice am ms.length capm] 24))
  have HB := Lib.hid (box_below w (.cells #[.slice am ms.length capm] 24))
  have HA := Lib.hid awake_any
  have HHE := Lib.hid fun h => (@readyB_ok ms rs [] h).1
  generalize hz : readyB ms rs [] = z at *
  clear hz
  go_enter Try.func15, Try.ntmps15
  go_wp2_with fail
  refine (HR.out _ HB.out).mono ?_
  rintro e u0 ⟨rfl, hb⟩
  have HXA := Lib.hid ((hb.block _ (lt_of_block HX.out)).trans HX.out)
  have HBA := Lib.hid (below_to HB.out hb)
  clear hb HX HB HR
  cases z with
  | false =>
    go_wp2_with fail
    refine (HA.out u0).mono ?_
    rintro e u1 ⟨rfl, hb⟩
    have HBF := Lib.hid (below_to HBA.out hb)
    clear hb
    go_wp2
    go_ret
    exact ⟨rfl, HBF.out⟩
  | true =>
    have HK := Lib.hid (HHE.out (by trivial))
    clear HHE
    by_cases hl9 : (9 : Int) < x.length
    · have hd9 : decide ((9 : Int) < x.length) = true := decide_eq_true hl9
      go_wp2_with fail
      refine (HA.out u0).mono ?_
      rintro e u1 ⟨rfl, hb⟩
      have HBF := Lib.hid (below_to HBA.out hb)
      clear hb
      go_wp2
      go_ret
      exact ⟨rfl, HBF.out⟩
    · have hd9 : decide ((9 : Int) < x.length) = false := decide_eq_false hl9
      have HL9 : Hid (x.length ≤ 1000) := Lib.hid (by omega)
      clear hl9
      have HMA := Lib.hid (HMA0.out (by have := HK.out.mat.len; omega))
      have HRU := Lib.hid (HRU0.out (by have := HK.out.len; omega) (fun r hr => by have := (HK.out.rn r hr).len; omega))
      clear HMA0 HRU0
      obtain ⟨s, hs, hD⟩ := doubt_of HK.out
      have HS := Lib.hid hs
      have HD := Lib.hid hD
      clear hs hD
      have c0 := cell_of_row u0 w.heap.size 0 _ _ _ HXA.out
      simp only [List.getElem?_toArray, List.getElem?_cons_zero] at c0
      have l0 := lt_of_block HXA.out
      go_wp2_with fail
      refine (HMA.out u0 HBA.out).mono ?_
      rintro e u1 ⟨⟨m6, rfl, hm6⟩, hb⟩
      replace HXA := Lib.hid ((hb.block _ (lt_of_block HXA.out)).trans HXA.out)
      replace HBA := Lib.hid (below_to HBA.out hb)
      clear hb
      have HM6 := Lib.hid hm6
      clear hm6 c0 l0
      go_wp2_with fail
      refine (HRU.out u1 HBA.out).mono ?_
      rintro e u2 ⟨⟨r7, rfl, hr7⟩, hb⟩
      replace HXA := Lib.hid ((hb.block _ (lt_of_block HXA.out)).trans HXA.out)
      replace HBA := Lib.hid (below_to HBA.out hb)
      replace HM6 := Lib.hid ((HM6.out.same (.below (Nat.le_refl _) hb)).up hb.size)
      clear hb
      have HV7 : Hid (RoomV u2.heap.size u2 m6 r7 ms rs) := Lib.hid ⟨Nat.le_refl _, HM6.out, hr7⟩
      clear hr7 HM6
      go_wp2_with fail
      have hdo := Doubtful_ok u2.heap.size m6 r7 ms rs s u2 HK.out HV7.out HS.out
      refine (hdo).mono ?_
      rintro e u3 ⟨⟨v7, rfl, hv7⟩, hb⟩
      replace HXA := Lib.hid ((hb.block _ (lt_of_block HXA.out)).trans HXA.out)
      replace HBA := Lib.hid (below_to HBA.out hb)
      clear hb
      clear hdo HV7 HS
      obtain ⟨D, hDe⟩ : ∃ D, listS s 6 = D := ⟨_, rfl⟩
      rw [hDe] at hv7 HD
      clear hDe
      have HI := Lib.hid hv7
      obtain ⟨aD, cD, rfl, -, hDp⟩ := hv7
      have HDP := Lib.hid hDp
      clear hDp
      have hDlen : (D.length : Int) ≤ rs.length := by have := HD.out.len; omega
      have hdl : decide ((rs.length : Int) < D.length) = false := decide_eq_false (by omega)
      have HDL6 : Hid (D.length ≤ 6) := Lib.hid (by have := HD.out.len; have := HK.out.len; omega)
      have HRL6 := Lib.hid HK.out.len
      have HUP := Lib.hid HD.out.up
      have HAT := Lib.hid HD.out.at_
      have hdn : D.length ≤ rs.length := HD.out.len
      go_wp2
      rw [show decide (rs.length < D.length) = false from decide_eq_false (by have := HD.out.len; omega)]
      clear hdl hdn hDlen hd9
      go_loopw [9] (fun i wr => ∃ k : Int, 0 ≤ k ∧ k ≤ D.length ∧ i = .int .i64 k ∧ Hid (Below u3.heap.size u3 wr)) (fun i _ => D.length - (intOf i).toNat)
      case atStart => exact ⟨0, by omega, by omega, rfl, Lib.hid (Below.refl _ _)⟩
      case round =>
        obtain ⟨k, hk0, hk, rfl, HBW⟩ := hrel
        by_cases hlt : k < D.length
        · obtain ⟨bD, oD, rfl, hbD, hcD⟩ := HDP.out (by omega)
          have HWK : Hid (IntKind.i64.wrap (k + 1) = k + 1) := Lib.hid (IntWalk.i64_in _ (by have := HDL6.out; omega))
          have HWR : Hid (IntKind.i64.wrap ((rs.length : Int) - 1) = (rs.length : Int) - 1) := Lib.hid (IntWalk.i64_in _ (by have := HRL6.out; omega))
          have lsD : bD < wr.heap.size := by have := HBW.out.size; omega
          have hll : decide (k < (D.length : Int)) = true := decide_eq_true hlt
          by_cases hk1 : 0 < k
          · obtain ⟨p, hq⟩ : ∃ p : Nat, k = (p : Int) + 1 := ⟨(k - 1).toNat, by omega⟩
            subst hq
            have p3 := (HBW.out.cell (p := ⟨bD, oD + (p + 1), none⟩) hbD).trans (hcD (p + 1) (by omega))
            have p4 := (HBW.out.cell (p := ⟨bD, oD + p, none⟩) hbD).trans (hcD p (by omega))
            have HPN : Hid ((p : Int) < D.length) := Lib.hid (by omega)
            have HW1 : Hid (IntKind.i64.wrap (p : Int) = (p : Int)) := Lib.hid (IntWalk.i64_in _ (by have := HDL6.out; omega))
            have HWQ : Hid (wrap64 (p : Int) = (p : Int)) := Lib.hid (IntWalk.wrap64_in _ (by have := HDL6.out; omega))
            have HKT : Hid (((p : Int) + 1).toNat = p + 1) := Lib.hid (by omega)
            have HPN2 : Hid ((p : Int) + 1 + 1 ≤ D.length) := Lib.hid (by omega)
            have HM2 : Hid (D.length - ((p : Int) + 1 + 1).toNat < D.length - ((p : Int) + 1).toNat) := Lib.hid (by omega)
            have hup := HUP.out p (by omega)
            have hat := HAT.out (p + 1) (by omega)
            have HAS := Lib.hid (In_any (ld D (p + 1)) 0 ((rs.length : Int) - 1))
            have hasT : hasB 0 ((rs.length : Int) - 1) (ld D (p + 1)) = true := by simp [hasB]; omega
            rw [hasT] at HAS
            have hd : decide (ld D (p + 1) ≤ ld D p) = false := decide_eq_false (by omega)
            clear hasT hup hat
            generalize ld D (p + 1) = x1 at *
            generalize ld D p = x0 at *
            have g3 := cell_regrown p3
            have g4 := cell_regrown p4
            clear hcD p3 p4
            have hpn := HPN.out
            have hwk := HWK.out
            have hw1 := HW1.out
            have hwq := HWQ.out
            have hkt := HKT.out
            have hwr := HWR.out
            go_wp2_with fail
            refine wp_region_quiet_below (by kernel_rfl) (by kernel_rfl) ?_
            repeat (quiet_step (with_reducible exact Calls.regrown_of (HAS.out _)))
            refine wpQuiet_nil ?_
            intro _ hw'
            obtain ⟨⟨dq, osq⟩, hw''⟩ := hw'
            subst hw''
            have hbr := Lib.hid (grow_to HBW.out (below_regrown wr dq osq))
            clear g3 g4 HBW hw1 hwq hkt hwr hpn
            go_wp2
            go_roundw
            case rel => exact ⟨(p : Int) + 1 + 1, Int.le_trans hk0 (Int.le_add_of_nonneg_right (by decide)), HPN2.out, rfl, hbr⟩
            case measure => exact HM2.out
          · obtain rfl : k = 0 := by omega
            have p3 := (HBW.out.cell (p := ⟨bD, oD + 0, none⟩) hbD).trans (hcD 0 (by omega))
            simp only [Nat.add_zero] at p3
            have hat := HAT.out 0 (by omega)
            have HAS := Lib.hid (In_any (ld D 0) 0 ((rs.length : Int) - 1))
            have hasT : hasB 0 ((rs.length : Int) - 1) (ld D 0) = true := by simp [hasB]; omega
            rw [hasT] at HAS
            have HPN1 : Hid ((1 : Int) ≤ D.length) := Lib.hid (by omega)
            have hpn0 : (0 : Int) < D.length := by omega
            have HM1 : Hid (D.length - (1 : Int).toNat < D.length - (0 : Int).toNat) := Lib.hid (by show D.length - 1 < D.length - 0; omega)
            clear hasT hat
            generalize ld D 0 = x1 at *
            have g3 := cell_regrown p3
            clear hcD p3
            have hwk := HWK.out
            have hwr := HWR.out
            go_wp2_with fail
            refine wp_region_quiet_below (by kernel_rfl) (by kernel_rfl) ?_
            repeat (quiet_step (with_reducible exact Calls.regrown_of (HAS.out _)))
            refine wpQuiet_nil ?_
            intro _ hw'
            obtain ⟨⟨dq, osq⟩, hw''⟩ := hw'
            subst hw''
            have hbr := Lib.hid (grow_to HBW.out (below_regrown wr dq osq))
            clear g3 HBW hwr
            go_wp2
            go_roundw
            case rel => exact ⟨1, by decide, HPN1.out, rfl, hbr⟩
            case measure => exact HM1.out
        · obtain rfl : k = D.length := by omega
          replace HXA := Lib.hid ((HBW.out.block _ (lt_of_block HXA.out)).trans HXA.out)
          replace HBA := Lib.hid (below_to HBA.out HBW.out)
          replace HI := Lib.hid ((HI.out.same (.below (Nat.le_refl _) HBW.out)).up HBW.out.size)
          clear HBW hlt hk hk0 HUP HAT
          have c0 := cell_of_row wr w.heap.size 0 _ _ _ HXA.out
          simp only [List.getElem?_toArray, List.getElem?_cons_zero] at c0
          have l0 := lt_of_block HXA.out
          go_wp2_with fail
          refine (HMA.out wr HBA.out).mono ?_
          rintro e a1 ⟨⟨m6, rfl, hm6⟩, hb⟩
          replace HXA := Lib.hid ((hb.block _ (lt_of_block HXA.out)).trans HXA.out)
          replace HBA := Lib.hid (below_to HBA.out hb)
          replace HI := Lib.hid ((HI.out.same (.below (Nat.le_refl _) hb)).up hb.size)
          clear hb
          have HM6 := Lib.hid hm6
          clear hm6 c0 l0
          go_wp2_with fail
          refine (HRU.out a1 HBA.out).mono ?_
          rintro e a2 ⟨⟨r7, rfl, hr7⟩, hb⟩
          replace HXA := Lib.hid ((hb.block _ (lt_of_block HXA.out)).trans HXA.out)
          replace HBA := Lib.hid (below_to HBA.out hb)
          replace HI := Lib.hid ((HI.out.same (.below (Nat.le_refl _) hb)).up hb.size)
          replace HM6 := Lib.hid ((HM6.out.same (.below (Nat.le_refl _) hb)).up hb.size)
          clear hb
          have HV7 : Hid (RoomV a2.heap.size a2 m6 r7 ms rs) := Lib.hid ⟨Nat.le_refl _, HM6.out, hr7⟩
          clear hr7 HM6
          go_wp2_with fail
          have hra := Rates_all a2.heap.size m6 r7 ms rs a2 HK.out HV7.out
          obtain ⟨F0, HF0⟩ : ∃ F, Hid (failE (someB (okL ms rs)) = F) := ⟨_, Lib.hid rfl⟩
          rw [HF0.out] at hra
          refine (hra).mono ?_
          rintro e a3 ⟨⟨y1, k1, rfl⟩, hb⟩
          replace HXA := Lib.hid ((hb.block _ (lt_of_block HXA.out)).trans HXA.out)
          replace HBA := Lib.hid (below_to HBA.out hb)
          replace HI := Lib.hid ((HI.out.same (.below (Nat.le_refl _) hb)).up hb.size)
          clear hb
          clear hra HV7
          have c0 := cell_of_row a3 w.heap.size 0 _ _ _ HXA.out
          simp only [List.getElem?_toArray, List.getElem?_cons_zero] at c0
          have l0 := lt_of_block HXA.out
          go_wp2_with fail
          refine (HMA.out a3 HBA.out).mono ?_
          rintro e b1 ⟨⟨m6, rfl, hm6⟩, hb⟩
          replace HXA := Lib.hid ((hb.block _ (lt_of_block HXA.out)).trans HXA.out)
          replace HBA := Lib.hid (below_to HBA.out hb)
          replace HI := Lib.hid ((HI.out.same (.below (Nat.le_refl _) hb)).up hb.size)
          clear hb
          have HM6 := Lib.hid hm6
          clear hm6 c0 l0
          go_wp2_with fail
          have hwo := Without_any w.heap.size b1.heap.size _ _ rs D b1 (by have := HK.out.len; omega) (by have := HDL6.out; omega) (HRN.out b1 HBA.out) HI.out HBA.out.size (Nat.le_refl _)
          refine (hwo).mono ?_
          rintro e b2 ⟨⟨wv, rfl, hwv⟩, hb⟩
          replace HXA := Lib.hid ((hb.block _ (lt_of_block HXA.out)).trans HXA.out)
          replace HBA := Lib.hid (below_to HBA.out hb)
          replace HI := Lib.hid ((HI.out.same (.below (Nat.le_refl _) hb)).up hb.size)
          replace HM6 := Lib.hid ((HM6.out.same (.below (Nat.le_refl _) hb)).up hb.size)
          clear hb
          have HWV := Lib.hid hwv
          clear hwo hwv
          go_wp2_with fail
          have HKW := Lib.hid (wo_room HK.out D)
          have hru := Runs_any b2.heap.size wv _ b2 (by have := HKW.out.len; omega) (fun r hr => by have := (HKW.out.rn r hr).len; omega) HWV.out (Nat.le_refl _)
          refine (hru).mono ?_
          rintro e b3 ⟨⟨r7, rfl, hr7⟩, hb⟩
          replace HXA := Lib.hid ((hb.block _ (lt_of_block HXA.out)).trans HXA.out)
          replace HBA := Lib.hid (below_to HBA.out hb)
          replace HI := Lib.hid ((HI.out.same (.below (Nat.le_refl _) hb)).up hb.size)
          replace HM6 := Lib.hid ((HM6.out.same (.below (Nat.le_refl _) hb)).up hb.size)
          clear hb
          have HV7 : Hid (RoomV b3.heap.size b3 m6 r7 ms (woT rs D rs.length)) := Lib.hid ⟨Nat.le_refl _, HM6.out, hr7⟩
          clear hr7 HM6 hru HWV
          go_wp2_with fail
          have hra := Rates_all b3.heap.size m6 r7 ms _ b3 HKW.out HV7.out
          obtain ⟨F1, HF1⟩ : ∃ F, Hid (failE (someB (okL ms (woT rs D rs.length))) = F) := ⟨_, Lib.hid rfl⟩
          rw [HF1.out] at hra
          refine (hra).mono ?_
          rintro e b4 ⟨⟨y2, k2, rfl⟩, hb⟩
          replace HXA := Lib.hid ((hb.block _ (lt_of_block HXA.out)).trans HXA.out)
          replace HBA := Lib.hid (below_to HBA.out hb)
          replace HI := Lib.hid ((HI.out.same (.below (Nat.le_refl _) hb)).up hb.size)
          clear hb
          clear hra HV7 HKW
          have c0 := cell_of_row b4 w.heap.size 0 _ _ _ HXA.out
          simp only [List.getElem?_toArray, List.getElem?_cons_zero] at c0
          have l0 := lt_of_block HXA.out
          go_wp2_with fail
          refine (HMA.out b4 HBA.out).mono ?_
          rintro e c1 ⟨⟨m6, rfl, hm6⟩, hb⟩
          replace HXA := Lib.hid ((hb.block _ (lt_of_block HXA.out)).trans HXA.out)
          replace HBA := Lib.hid (below_to HBA.out hb)
          replace HI := Lib.hid ((HI.out.same (.below (Nat.le_refl _) hb)).up hb.size)
          clear hb
          have HM6 := Lib.hid hm6
          clear hm6 c0 l0
          go_wp2_with fail
          have hwo := Without_any w.heap.size c1.heap.size _ _ rs x c1 (by have := HK.out.len; omega) HL9.out (HRN.out c1 HBA.out) ((HXV.out c1 HBA.out).up HBA.out.size) HBA.out.size (Nat.le_refl _)
          refine (hwo).mono ?_
          rintro e c2 ⟨⟨wv, rfl, hwv⟩, hb⟩
          replace HXA := Lib.hid ((hb.block _ (lt_of_block HXA.out)).trans HXA.out)
          replace HBA := Lib.hid (below_to HBA.out hb)
          replace HI := Lib.hid ((HI.out.same (.below (Nat.le_refl _) hb)).up hb.size)
          replace HM6 := Lib.hid ((HM6.out.same (.below (Nat.le_refl _) hb)).up hb.size)
          clear hb
          have HWV := Lib.hid hwv
          clear hwo hwv
          go_wp2_with fail
          have HKW := Lib.hid (wo_room HK.out x)
          have hru := Runs_any c2.heap.size wv _ c2 (by have := HKW.out.len; omega) (fun r hr => by have := (HKW.out.rn r hr).len; omega) HWV.out (Nat.le_refl _)
          refine (hru).mono ?_
          rintro e c3 ⟨⟨r7, rfl, hr7⟩, hb⟩
          replace HXA := Lib.hid ((hb.block _ (lt_of_block HXA.out)).trans HXA.out)
          replace HBA := Lib.hid (below_to HBA.out hb)
          replace HI := Lib.hid ((HI.out.same (.below (Nat.le_refl _) hb)).up hb.size)
          replace HM6 := Lib.hid ((HM6.out.same (.below (Nat.le_refl _) hb)).up hb.size)
          clear hb
          have HV7 : Hid (RoomV c3.heap.size c3 m6 r7 ms (woT rs x rs.length)) := Lib.hid ⟨Nat.le_refl _, HM6.out, hr7⟩
          clear hr7 HM6 hru HWV
          go_wp2_with fail
          have hra := Rates_all c3.heap.size m6 r7 ms _ c3 HKW.out HV7.out
          obtain ⟨F2, HF2⟩ : ∃ F, Hid (failE (someB (okL ms (woT rs x rs.length))) = F) := ⟨_, Lib.hid rfl⟩
          rw [HF2.out] at hra
          refine (hra).mono ?_
          rintro e c4 ⟨⟨y2, k2, rfl⟩, hb⟩
          replace HXA := Lib.hid ((hb.block _ (lt_of_block HXA.out)).trans HXA.out)
          replace HBA := Lib.hid (below_to HBA.out hb)
          replace HI := Lib.hid ((HI.out.same (.below (Nat.le_refl _) hb)).up hb.size)
          clear hb
          clear hra HV7 HKW
          go_wp2_with fail
          have hwo := Without_any w.heap.size c4.heap.size _ _ rs x c4 (by have := HK.out.len; omega) HL9.out (HRN.out c4 HBA.out) ((HXV.out c4 HBA.out).up HBA.out.size) HBA.out.size (Nat.le_refl _)
          refine (hwo).mono ?_
          rintro e d1 ⟨⟨wv, rfl, hwv⟩, hb⟩
          replace HXA := Lib.hid ((hb.block _ (lt_of_block HXA.out)).trans HXA.out)
          replace HBA := Lib.hid (below_to HBA.out hb)
          replace HI := Lib.hid ((HI.out.same (.below (Nat.le_refl _) hb)).up hb.size)
          clear hb
          clear hwo
          obtain ⟨aw, cw, rfl, -⟩ := hwv
          have hwl : ((woT rs x rs.length).length : Int) ≤ rs.length := by have := woT_len rs x rs.length; omega
          have hww : IntKind.i64.wrap ((rs.length : Int) - (woT rs x rs.length).length) = (rs.length : Int) - (woT rs x rs.length).length := IntWalk.i64_in _ (by have := HRL6.out; omega)
          have HL := Lib.hid (HD.out.least x)
          have hF1 : F1 = 0 := by rw [← HF1.out, someB_ne HD.out.ok]
          subst hF1
          have HZ : Hid ((F0 = 9 ∧ D.length ≠ 0) ∨ (F0 = 0 ∧ D.length = 0)) := Lib.hid (by
            rcases HD.out.zero with ⟨h1, h2⟩ | ⟨h1, h2⟩
            · exact .inl ⟨by rw [← HF0.out, someB_nil h1], h2⟩
            · exact .inr ⟨by rw [← HF0.out, someB_ne h1], h2⟩)
          have HY : Hid (F2 = 9 ∨ (F2 = 0 ∧ (D.length : Int) ≤ (rs.length : Int) - (woT rs x rs.length).length)) := Lib.hid (by
            by_cases h : okL ms (woT rs x rs.length) = []
            · exact .inl (by rw [← HF2.out, someB_nil h])
            · exact .inr ⟨by rw [← HF2.out, someB_ne h], HL.out h⟩)
          clear HL hwl HF0 HF1 HF2
          have hwz : wrap64 ((rs.length : Int) - (woT rs x rs.length).length) = (rs.length : Int) - (woT rs x rs.length).length := by have := woT_len rs x rs.length; exact IntWalk.wrap64_in _ (by have := HRL6.out; omega)
          generalize (woT rs x rs.length).length = wl at *
          rcases HZ.out with ⟨h1, h2⟩ | ⟨h1, h2⟩
          · subst h1
            have hz0 : ((D.length : Int) == 0) = false := by rw [beq_eq_false_iff_ne]; omega
            clear h2 HZ
            rcases HY.out with h3 | ⟨h3, h4⟩
            · subst h3
              clear HY
              go_wp2_with fail
              refine (HA.out d1).mono ?_
              rintro e d2 ⟨rfl, hb⟩
              have HBF := Lib.hid (below_to HBA.out hb)
              clear hb
              go_wp2
              go_ret
              exact ⟨rfl, HBF.out⟩
            · subst h3
              have hd4 : decide ((D.length : Int) ≤ (rs.length : Int) - wl) = true := decide_eq_true h4
              clear HY
              go_wp2_with fail
              refine (HA.out d1).mono ?_
              rintro e d2 ⟨rfl, hb⟩
              have HBF := Lib.hid (below_to HBA.out hb)
              clear hb
              go_wp2
              go_ret
              exact ⟨rfl, HBF.out⟩
          · subst h1
            have hz0 : ((D.length : Int) == 0) = true := by rw [beq_iff_eq]; omega
            clear h2 HZ
            rcases HY.out with h3 | ⟨h3, h4⟩
            · subst h3
              clear HY
              go_wp2_with fail
              refine (HA.out d1).mono ?_
              rintro e d2 ⟨rfl, hb⟩
              have HBF := Lib.hid (below_to HBA.out hb)
              clear hb
              go_wp2
              go_ret
              exact ⟨rfl, HBF.out⟩
            · subst h3
              have hd4 : decide ((D.length : Int) ≤ (rs.length : Int) - wl) = true := decide_eq_true h4
              clear HY
              go_wp2_with fail
              refine (HA.out d1).mono ?_
              rintro e d2 ⟨rfl, hb⟩
              have HBF := Lib.hid (below_to HBA.out hb)
              clear hb
              go_wp2
              go_ret
              exact ⟨rfl, HBF.out⟩
end Go.Proofs.Ytfijaafkagcmmaa
