/- The law CreepLives, walked. No condition. -/
import Derived.Test.YtfijaafkagcmmaaG2J
import Derived.BigRegion
import Derived.StillTailTactics
namespace Go.Proofs.Ytfijaafkagcmmaa
open Go.RowKit Go.Shelf
attribute [local irreducible] arrV wpQuiet

theorem life_zero {ms : List Rg} {rs : List Rn} {b st : Int} (h : lifeE ms rs b st = 0) : allowE ms rs = 0 ∧ bandB ms.length b = true ∧ hasB 0 10000000000 st = true := by
  unfold lifeE at h
  by_cases ha : allowE ms rs = 0
  · rw [if_pos ha] at h
    cases h1 : bandB ms.length b <;> cases h2 : hasB 0 10000000000 st <;> simp [h1, h2] at h ⊢
    exact ha
  · rw [if_neg ha] at h
    exact absurd h ha
theorem life_two {ms : List Rg} {rs : List Rn} {b st : Int} (ha : allowE ms rs = 0) (h : lifeE ms rs b st ≠ 0) : lifeE ms rs b st = 2 ∧ (bandB ms.length b = false ∨ (bandB ms.length b = true ∧ hasB 0 10000000000 st = false)) := by
  unfold lifeE at h ⊢
  rw [if_pos ha] at h ⊢
  cases h1 : bandB ms.length b <;> cases h2 : hasB 0 10000000000 st <;> simp [h1, h2] at h ⊢
theorem life_allow {ms : List Rg} {rs : List Rn} {b st : Int} (ha : allowE ms rs ≠ 0) : lifeE ms rs b st = allowE ms rs := if_neg ha
theorem band_has (n : Nat) (b : Int) : hasB 0 ((n : Int) - 1) b = bandB n b := by
  unfold hasB bandB
  congr 1
  apply propext
  omega

set_option maxRecDepth 100000 in
set_option maxHeartbeats 4000000 in
theorem lives_walk (mv rv : Value) (ms : List Rg) (rs : List Rn) (bd st : Int) (w : World) (hV : RgsV w.heap.size w mv ms) (hR : RunsV w.heap.size w rv rs) :
    Calls Try.prog 6 #[.agg #[mv], rv, .int .i64 bd, .int .i64 st] w fun e w' => e = .returned (.bool true) ∧ Below w.heap.size w w' := by
  have HROOM : Hid (∀ w', Below w.heap.size w w' → RoomV w.heap.size w' mv rv ms rs) := Lib.hid fun w' h => ⟨h.size, hV.same (.below (Nat.le_refl _) h), hR.same (.below (Nat.le_refl _) h)⟩
  have HMA0 := Lib.hid fun (hl : ms.length ≤ 1000) w' (h : Below w.heap.size w w') => Material_any w.heap.size mv ms w' hl (hV.same (.below (Nat.le_refl _) h)) h.size
  have HRU0 := Lib.hid fun (hl : rs.length ≤ 1000) (hs : ∀ q, q ∈ rs → q.ss.length ≤ 1000) w' (h : Below w.heap.size w w') => Runs_any w.heap.size rv rs w' hl hs (hR.same (.below (Nat.le_refl _) h)) h.size
  obtain ⟨am, capm, rfl, -⟩ := hV
  have HTH := Lib.hid fun w' (h : Below w.heap.size w w') => Thin_any w.heap.size am ms.length capm rv none 0 0 rs w' (hR.same (.below (Nat.le_refl _) h)) h.size
  obtain ⟨ar, capr, rfl, -⟩ := hR
  have HX := Lib.hid (heap_alloc_new w (.cells #[.slice am ms.length capm] 24))
  have HB := Lib.hid (box_below w (.cells #[.slice am ms.length capm] 24))
  have HA := Lib.hid awake_any
  have HI1 := Lib.hid fun w' => In_any bd 0 ((ms.length : Int) - 1) w'
  rw [band_has] at HI1
  have HI2 := Lib.hid fun w' => In_any st 0 10000000000 w'
  have HHE := Lib.hid fun h => @thin_held ms.length 0 ms rs rfl h
  generalize hz : thinB ms.length rs 0 = z at *
  clear hz
  go_enter Try.func6, Try.ntmps6
  go_wp2_with fail
  refine (HTH.out _ HB.out).mono ?_
  rintro e u0 ⟨rfl, hb⟩
  have HXA := Lib.hid ((hb.block _ (lt_of_block HX.out)).trans HX.out)
  have HBA := Lib.hid (below_to HB.out hb)
  clear hb HX HB HTH
  cases z with
  | false =>
    go_wp2_with fail
    refine (HA.out u0).mono ?_
    rintro e u1 ⟨rfl, hb⟩
    have HBF := Lib.hid (below_to HBA.out hb)
    clear hb
    go_wp2
    go_ret
    exact ⟨rfl, HBF.out⟩
  | true =>
    have HH := Lib.hid (HHE.out (by trivial))
    have HMA := Lib.hid (HMA0.out HH.out.m)
    have HRU := Lib.hid (HRU0.out HH.out.r HH.out.s)
    clear HHE HMA0 HRU0
    have hwm : IntKind.i64.wrap ((ms.length : Int) - 1) = (ms.length : Int) - 1 := IntWalk.i64_in _ (by have := HH.out.m; omega)
    have c0 := cell_of_row u0 w.heap.size 0 _ _ _ HXA.out
    simp only [List.getElem?_toArray, List.getElem?_cons_zero] at c0
    have l0 := lt_of_block HXA.out
    go_wp2_with fail
    refine (HMA.out u0 HBA.out).mono ?_
    rintro e u1 ⟨⟨m6, rfl, hm6⟩, hb⟩
    replace HXA := Lib.hid ((hb.block _ (lt_of_block HXA.out)).trans HXA.out)
    replace HBA := Lib.hid (below_to HBA.out hb)
    clear hb
    have HM6 := Lib.hid hm6
    clear hm6 c0 l0
    go_wp2_with fail
    refine (HRU.out u1 HBA.out).mono ?_
    rintro e u2 ⟨⟨r7, rfl, hr7⟩, hb⟩
    replace HXA := Lib.hid ((hb.block _ (lt_of_block HXA.out)).trans HXA.out)
    replace HBA := Lib.hid (below_to HBA.out hb)
    replace HM6 := Lib.hid ((HM6.out.same (.below (Nat.le_refl _) hb)).up hb.size)
    clear hb
    have HV7 : Hid (RoomV u2.heap.size u2 m6 r7 ms rs) := Lib.hid ⟨Nat.le_refl _, HM6.out, hr7⟩
    clear hr7 HM6
    go_wp2_with fail
    by_cases hE : lifeE ms rs bd st ≠ 0
    · have HE := Lib.hid hE
      clear hE
      have hli := Life_err u2.heap.size m6 r7 ms rs bd st u2 HH.out HV7.out HE.out
      refine (hli).mono ?_
      rintro e u3 ⟨rfl, hb⟩
      replace HXA := Lib.hid ((hb.block _ (lt_of_block HXA.out)).trans HXA.out)
      replace HBA := Lib.hid (below_to HBA.out hb)
      clear hb
      clear hli HV7
      have c0 := cell_of_row u3 w.heap.size 0 _ _ _ HXA.out
      simp only [List.getElem?_toArray, List.getElem?_cons_zero] at c0
      have l0 := lt_of_block HXA.out
      go_wp2_with fail
      have hbx := box_below u3 (.cells #[.int .i64 0, .int .i64 0] 50)
      have hnx := heap_alloc_new u3 (.cells #[.int .i64 0, .int .i64 0] 50)
      replace HXA := Lib.hid ((hbx.block _ (lt_of_block HXA.out)).trans HXA.out)
      replace HBA := Lib.hid (below_to HBA.out hbx)
      have BX := Lib.hid hnx
      clear hbx hnx
      generalize World.alloc u3 _ = u4 at *
      generalize u3.heap.size = bx at *
      clear c0 l0
      have has := asked_any w.heap.size _ _ ms rs u4 HH.out (HROOM.out u4 HBA.out)
      refine (has).mono ?_
      rintro e u5 ⟨rfl, hb⟩
      replace HXA := Lib.hid ((hb.block _ (lt_of_block HXA.out)).trans HXA.out)
      replace HBA := Lib.hid (below_to HBA.out hb)
      replace BX := Lib.hid ((hb.block _ (lt_of_block BX.out)).trans BX.out)
      clear hb
      clear has
      by_cases hA : allowE ms rs = 0
      · have hl2 := life_two hA HE.out
        have HL2 := Lib.hid hl2
        rw [hA, hl2.1]
        clear hl2 hA HE
        have c0 := cell_of_row u5 w.heap.size 0 _ _ _ HXA.out
        simp only [List.getElem?_toArray, List.getElem?_cons_zero] at c0
        have l0 := lt_of_block HXA.out
        go_wp2_with fail
        have hi1 := HI1.out u5
        refine (hi1).mono ?_
        rintro e u6 ⟨rfl, hb⟩
        replace HXA := Lib.hid ((hb.block _ (lt_of_block HXA.out)).trans HXA.out)
        replace HBA := Lib.hid (below_to HBA.out hb)
        replace BX := Lib.hid ((hb.block _ (lt_of_block BX.out)).trans BX.out)
        clear hb
        clear hi1
        rcases HL2.out.2 with h | ⟨h, h'⟩
        · rw [h]
          clear h c0 l0
          have z0 := cell_of_row u6 bx 0 _ _ _ BX.out
          have z1 := cell_of_row u6 bx 1 _ _ _ BX.out
          simp only [List.getElem?_toArray, List.getElem?_cons_zero, List.getElem?_cons_succ] at z0 z1
          have lz := lt_of_block BX.out
          have hq := fun w => eqr50 0 0 0 0 w
          go_wp2_with fail
          refine (HA.out u6).mono ?_
          rintro e u8 ⟨rfl, hb⟩
          have HBF := Lib.hid (below_to HBA.out hb)
          clear hb
          go_wp2
          go_ret
          exact ⟨rfl, HBF.out⟩
        · rw [h]
          have hi2 := HI2.out u6
          rw [h'] at hi2
          clear h h' c0 l0
          go_wp2_with fail
          refine (hi2).mono ?_
          rintro e u7 ⟨rfl, hb⟩
          replace HXA := Lib.hid ((hb.block _ (lt_of_block HXA.out)).trans HXA.out)
          replace HBA := Lib.hid (below_to HBA.out hb)
          replace BX := Lib.hid ((hb.block _ (lt_of_block BX.out)).trans BX.out)
          clear hb
          clear hi2
          have z0 := cell_of_row u7 bx 0 _ _ _ BX.out
          have z1 := cell_of_row u7 bx 1 _ _ _ BX.out
          simp only [List.getElem?_toArray, List.getElem?_cons_zero, List.getElem?_cons_succ] at z0 z1
          have lz := lt_of_block BX.out
          have hq := fun w => eqr50 0 0 0 0 w
          go_wp2_with fail
          refine (HA.out u7).mono ?_
          rintro e u8 ⟨rfl, hb⟩
          have HBF := Lib.hid (below_to HBA.out hb)
          clear hb
          go_wp2
          go_ret
          exact ⟨rfl, HBF.out⟩
      · rw [life_allow hA]
        generalize allowE ms rs = E at *
        have h1 : (E == 0) = false := by rw [beq_eq_false_iff_ne]; exact hA
        have h2 : (E != 0) = true := by rw [bne_iff_ne]; exact hA
        clear HE
        have z0 := cell_of_row u5 bx 0 _ _ _ BX.out
        have z1 := cell_of_row u5 bx 1 _ _ _ BX.out
        simp only [List.getElem?_toArray, List.getElem?_cons_zero, List.getElem?_cons_succ] at z0 z1
        have lz := lt_of_block BX.out
        have hq := fun w => eqr50 0 0 0 0 w
        go_wp2_with fail
        refine (HA.out u5).mono ?_
        rintro e u6 ⟨rfl, hb⟩
        have HBF := Lib.hid (below_to HBA.out hb)
        clear hb
        go_wp2
        go_ret
        exact ⟨rfl, HBF.out⟩
    · have hz := life_zero (Classical.not_not.1 hE)
      have HZ := Lib.hid hz
      have HK := Lib.hid (allow_ok hz.1).1
      have HNE := Lib.hid (allow_ok hz.1).2
      have hbb : 0 ≤ bd ∧ bd < ms.length := by have := hz.2.1; simpa [bandB] using this
      have hss : 0 ≤ st ∧ st ≤ 10000000000 := by have := hz.2.2; simpa [hasB] using this
      obtain ⟨b, rfl⟩ : ∃ b : Nat, bd = b := ⟨bd.toNat, by omega⟩
      have HBB := Lib.hid hbb
      have HSS := Lib.hid hss
      clear hz hbb hss hE
      have hli := Life_ok u2.heap.size m6 r7 ms rs b st u2 HK.out HV7.out HBB.out HSS.out HNE.out
      obtain ⟨x0, E0⟩ : ∃ x, Hid ((lifeL (okL ms rs) b st).lo = x) := ⟨_, Lib.hid rfl⟩
      obtain ⟨y0, E1⟩ : ∃ x, Hid ((lifeL (okL ms rs) b st).hi = x) := ⟨_, Lib.hid rfl⟩
      rw [E0.out, E1.out] at hli
      refine (hli).mono ?_
      rintro e u3 ⟨rfl, hb⟩
      replace HXA := Lib.hid ((hb.block _ (lt_of_block HXA.out)).trans HXA.out)
      replace HBA := Lib.hid (below_to HBA.out hb)
      clear hb
      clear hli HV7
      have c0 := cell_of_row u3 w.heap.size 0 _ _ _ HXA.out
      simp only [List.getElem?_toArray, List.getElem?_cons_zero] at c0
      have l0 := lt_of_block HXA.out
      go_wp2_with fail
      have hbx := box_below u3 (.cells #[.int .i64 x0, .int .i64 y0] 50)
      have hnx := heap_alloc_new u3 (.cells #[.int .i64 x0, .int .i64 y0] 50)
      replace HXA := Lib.hid ((hbx.block _ (lt_of_block HXA.out)).trans HXA.out)
      replace HBA := Lib.hid (below_to HBA.out hbx)
      have BX := Lib.hid hnx
      clear hbx hnx
      generalize World.alloc u3 _ = u4 at *
      generalize u3.heap.size = bx at *
      clear c0 l0
      have has := asked_any w.heap.size _ _ ms rs u4 HH.out (HROOM.out u4 HBA.out)
      rw [HZ.out.1] at has
      refine (has).mono ?_
      rintro e u5 ⟨rfl, hb⟩
      replace HXA := Lib.hid ((hb.block _ (lt_of_block HXA.out)).trans HXA.out)
      replace HBA := Lib.hid (below_to HBA.out hb)
      replace BX := Lib.hid ((hb.block _ (lt_of_block BX.out)).trans BX.out)
      clear hb
      clear has
      have c0 := cell_of_row u5 w.heap.size 0 _ _ _ HXA.out
      simp only [List.getElem?_toArray, List.getElem?_cons_zero] at c0
      have l0 := lt_of_block HXA.out
      go_wp2_with fail
      have hi1 := HI1.out u5
      rw [HZ.out.2.1] at hi1
      refine (hi1).mono ?_
      rintro e u6 ⟨rfl, hb⟩
      replace HXA := Lib.hid ((hb.block _ (lt_of_block HXA.out)).trans HXA.out)
      replace HBA := Lib.hid (below_to HBA.out hb)
      replace BX := Lib.hid ((hb.block _ (lt_of_block BX.out)).trans BX.out)
      clear hb
      clear hi1 c0 l0
      go_wp2_with fail
      have hi2 := HI2.out u6
      rw [HZ.out.2.2] at hi2
      refine (hi2).mono ?_
      rintro e u7 ⟨rfl, hb⟩
      replace HXA := Lib.hid ((hb.block _ (lt_of_block HXA.out)).trans HXA.out)
      replace HBA := Lib.hid (below_to HBA.out hb)
      replace BX := Lib.hid ((hb.block _ (lt_of_block BX.out)).trans BX.out)
      clear hb
      clear hi2
      go_wp2_with fail
      have HC : Hid (∀ w', Below u7.heap.size u7 w' → w'.cell? ⟨w.heap.size, 0, none⟩ = some (.slice am ms.length capm) ∧ w'.cell? ⟨bx, 0, none⟩ = some (.int .i64 x0) ∧ w'.cell? ⟨bx, 1, none⟩ = some (.int .i64 y0) ∧ w.heap.size < w'.heap.size ∧ bx < w'.heap.size) := Lib.hid fun w' h => by
        have z0 := (h.block _ (lt_of_block HXA.out)).trans HXA.out
        have z1 := (h.block _ (lt_of_block BX.out)).trans BX.out
        exact ⟨cell_of_row w' _ 0 _ _ _ z0, cell_of_row w' _ 0 _ _ _ z1, cell_of_row w' _ 1 _ _ _ z1, lt_of_block z0, lt_of_block z1⟩
      refine wp_region_noPanic ?_
      refine wp_region_chain (fun w1 => Below u7.heap.size u7 w1) (fun w1 w2 h hb => h.trans (hb.mono h.size)) (below_drawn _) (by kernel_rfl) (fun _ _ _ _ _ h => h)
        [(false, 0), (false, 1), (false, 2), (false, 3), (false, 4), (false, 5), (false, 7), (false, 8), (true, 6), (true, 9), (true, 10), (false, 11), (false, 12), (false, 13), (true, 14), (false, 15)] [16] (by kernel_rfl) ?_
      iterate 8
        (refine Walk.takes rfl rfl ?_; apply Exists.intro; refine ⟨fun w1 hS => ?_, ?_⟩; (obtain ⟨d0, d1, d2, d3, d4⟩ := HC.out w1 hS; clear hS; go_simp; with_reducible rfl); simp only [List.getElem_toArray, List.getElem_cons_succ, List.getElem_cons_zero, Act.put, List.setIfInBounds_toArray, List.set_cons_zero, List.set_cons_succ])
      refine Walk.calls rfl rfl ?_; apply Exists.intro; apply Exists.intro; refine ⟨fun w2 hS => ?_, fun p1 hp1 => ?_⟩; (clear hS; go_simp; exact ⟨rfl, rfl⟩)
      have hq1 := grow_to (below_drawn u7) hp1
      refine (Allowed_any w.heap.size _ _ ms rs p1 HK.out (HROOM.out p1 (below_to HBA.out hq1))).mono ?_
      rintro e p2 ⟨v9, rfl, hl9, hb9⟩
      refine ⟨_, rfl, hb9, ?_⟩
      simp only [List.getElem_toArray, List.getElem_cons_succ, List.getElem_cons_zero, Act.put, List.setIfInBounds_toArray, List.set_cons_zero, List.set_cons_succ]
      obtain ⟨sa, cap9, rfl, -, -⟩ := hl9.form
      have HL9 := Lib.hid (hl9.mono (Nat.zero_le _))
      clear hl9
      have HQ2 := Lib.hid (grow_to hq1 hb9)
      clear hq1 hb9 hp1
      refine Walk.calls rfl rfl ?_; apply Exists.intro; apply Exists.intro; refine ⟨fun w2 hS => ?_, fun p3 hp3 => ?_⟩; (clear hS; go_simp; exact ⟨rfl, rfl⟩)
      have hl := Life38_any ms.length b sa cap9 (okL ms rs) st p3 (HL9.out.below hp3) (fun k L h => len_of (mem_okL.1 (List.mem_of_getElem? h)).1) (by have := HBB.out; omega) HK.out.mat.len (fun x hx => ok_rates HK.out.mat hx) HNE.out (by have h1 := rest_len HK.out.mat.toRgsOk []; rw [restL_nil] at h1; exact Nat.le_trans (List.length_filter_le _ _) h1) HSS.out
      rw [E0.out, E1.out] at hl
      refine hl.mono ?_
      rintro e p4 ⟨rfl, hb4⟩
      refine ⟨_, rfl, hb4, ?_⟩
      simp only [List.getElem_toArray, List.getElem_cons_succ, List.getElem_cons_zero, Act.put, List.setIfInBounds_toArray, List.set_cons_zero, List.set_cons_succ]
      have HQ4 := Lib.hid (grow_to (grow_to HQ2.out hp3) hb4)
      clear hl hp3 hb4
      refine Walk.calls rfl rfl ?_; apply Exists.intro; apply Exists.intro; refine ⟨fun w2 hS => ?_, fun p5 hp5 => ?_⟩; (clear hS; go_simp; exact ⟨rfl, rfl⟩)
      refine (to_any x0 y0 p5).mono ?_
      rintro e p6 ⟨rfl, hb6⟩
      refine ⟨_, rfl, hb6, ?_⟩
      simp only [List.getElem_toArray, List.getElem_cons_succ, List.getElem_cons_zero, Act.put, List.setIfInBounds_toArray, List.set_cons_zero, List.set_cons_succ]
      have hqq := fun w => eqr50 x0 y0 x0 y0 w
      clear hp5 hb6
      iterate 3
        (refine Walk.takes rfl rfl ?_; apply Exists.intro; refine ⟨fun w1 hS => ?_, ?_⟩; (obtain ⟨d0, d1, d2, d3, d4⟩ := HC.out w1 hS; clear hS; go_simp; with_reducible rfl); simp only [List.getElem_toArray, List.getElem_cons_succ, List.getElem_cons_zero, Act.put, List.setIfInBounds_toArray, List.set_cons_zero, List.set_cons_succ])
      refine Walk.calls rfl rfl ?_; apply Exists.intro; apply Exists.intro; refine ⟨fun w2 hS => ?_, fun p7 hp7 => ?_⟩; (clear hS; go_simp; exact ⟨rfl, rfl⟩)
      refine (HA.out p7).mono ?_
      rintro e p8 ⟨rfl, hb8⟩
      refine ⟨_, rfl, hb8, ?_⟩
      simp only [List.getElem_toArray, List.getElem_cons_succ, List.getElem_cons_zero, Act.put, List.setIfInBounds_toArray, List.set_cons_zero, List.set_cons_succ]
      clear hp7 hb8
      iterate 1
        (refine Walk.takes rfl rfl ?_; apply Exists.intro; refine ⟨fun w1 hS => ?_, ?_⟩; (obtain ⟨d0, d1, d2, d3, d4⟩ := HC.out w1 hS; clear hS; go_simp; with_reducible rfl); simp only [List.getElem_toArray, List.getElem_cons_succ, List.getElem_cons_zero, Act.put, List.setIfInBounds_toArray, List.set_cons_zero, List.set_cons_succ])
      refine Walk.fin ?_
      rintro p9 hb9 hS9
      refine Tail.value rfl rfl (by go_simp; with_reducible rfl) (Tail.done (NoPanic.normal ?_))
      simp only [List.getElem_toArray, List.getElem_cons_succ, List.getElem_cons_zero, Act.put, List.setIfInBounds_toArray, List.set_cons_zero, List.set_cons_succ]
      have HF := Lib.hid (below_to HBA.out hS9)
      clear hb9 hS9 hqq
      go_wp2
      go_ret
      exact ⟨rfl, HF.out⟩
end Go.Proofs.Ytfijaafkagcmmaa
