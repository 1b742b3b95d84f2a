/- The law GrainGrades, walked. No condition. -/
import Derived.Test.YtplmlmmjfkbabaaRI
import Derived.BigRegion
import Derived.BigQuiet
namespace Go.Proofs.Ytplmlmmjfkbabaa
open Go.RowKit Go.Shelf
attribute [local irreducible] arrV wpQuiet mat shl

theorem neqr41b (a b c d : Int) (h1 : a = c) (h2 : b = d) (w : World) : (binOp .neq 41 (.agg #[.int .i64 a, .int .i64 b]) (.agg #[.int .i64 c, .int .i64 d])).run Try.prog w = .ok (.bool false) w := by
  rw [h1, h2]
  exact neqr41 c d w
set_option maxRecDepth 100000 in
set_option maxHeartbeats 8000000 in
theorem grades_walk (n : Int) (v : Value) (cs : List Cm) (w : World) (hV : CmsV w.heap.size w v cs) :
    Calls Try.prog 3 #[.agg #[.int .i64 n, v]] w fun e w' => e = .returned (.bool true) ∧ Below w.heap.size w w' := by
  have HAL0 := Lib.hid fun (hl : cs.length ≤ 1000) w' (h : Below w.heap.size w w') => Album_any w.heap.size n v cs w' hl (hV.same (.below (Nat.le_refl _) h)) h.size
  have HFA0 := Lib.hid fun (hl : cs.length ≤ maxLen) w' (h : Below w.heap.size w w') => fault_any w.heap.size n v cs w' hl (hV.same (.below (Nat.le_refl _) h)) h.size
  have HRG0 := Lib.hid fun (N : Nat) (hN : n = N) (hA : AlbOk n cs) w' (h : Below w.heap.size w w') => refGrades_any N v cs w' (hN ▸ hA) ((hV.same (.below (Nat.le_refl _) h)).up h.size)
  obtain ⟨a, cap, rfl, hp⟩ := hV
  have HXA := Lib.hid (heap_alloc_new w (.cells #[.int .i64 n, .slice a cs.length cap] 24))
  have HBA := Lib.hid (box_below w (.cells #[.int .i64 n, .slice a cs.length cap] 24))
  clear hp
  go_enter Try.func3, Try.ntmps3
  go_wp2_with fail
  refine (Thin_any n a cs.length cap _).mono ?_
  rintro e u0 ⟨rfl, hb⟩
  replace HXA := Lib.hid ((hb.block _ (lt_of_block HXA.out)).trans HXA.out)
  replace HBA := Lib.hid (below_to HBA.out hb)
  clear hb
  by_cases ht : cs.length ≤ 16
  · have hth : decide (cs.length ≤ 16) = true := decide_eq_true ht
    have HAL := Lib.hid (HAL0.out (by omega))
    have HFA := Lib.hid (HFA0.out (by simp [maxLen]; omega))
    have HML : Hid (cs.length ≤ maxLen) := Lib.hid (by simp [maxLen]; omega)
    clear ht HAL0 HFA0
    by_cases hf : faultA n cs = 0
    · have HF := Lib.hid hf
      have HOK := Lib.hid (fault_ok hf)
      have hn0 := HOK.out.n0
      have hn8 := HOK.out.n8
      obtain ⟨N, rfl⟩ : ∃ N : Nat, n = (N : Int) := ⟨n.toNat, by omega⟩
      have HRG := Lib.hid (HRG0.out N rfl (fault_ok hf))
      clear hf HRG0
      cases hd : distO cs with
      | none =>
        have HD := Lib.hid hd
        clear hd
        have c0 := cell_of_row u0 w.heap.size 0 _ _ _ HXA.out
        have c1 := cell_of_row u0 w.heap.size 1 _ _ _ HXA.out
        simp only [List.getElem?_toArray, List.getElem?_cons_zero, List.getElem?_cons_succ] at c0 c1
        have lc := lt_of_block HXA.out
        go_wp2_with fail
        clear c0 c1 lc
        refine (HAL.out u0 HBA.out).mono ?_
        rintro e u1 ⟨⟨r1, rfl, ho⟩, hb⟩
        replace HXA := Lib.hid ((hb.block _ (lt_of_block HXA.out)).trans HXA.out)
        replace HBA := Lib.hid (below_to HBA.out hb)
        clear hb
        have HV1 := Lib.hid (own_cms (l := cs) ho)
        clear ho
        go_wp2_with fail
        refine (CheckAlbum_any u1.heap.size _ _ cs u1 HML.out HV1.out (Nat.le_refl _)).mono ?_
        rintro e u2 ⟨rfl, hb⟩
        replace HXA := Lib.hid ((hb.block _ (lt_of_block HXA.out)).trans HXA.out)
        replace HBA := Lib.hid (below_to HBA.out hb)
        replace HV1 := Lib.hid ((HV1.out.same (.below (Nat.le_refl _) hb)).up hb.size)
        clear hb
        clear HV1
        have c0 := cell_of_row u2 w.heap.size 0 _ _ _ HXA.out
        have c1 := cell_of_row u2 w.heap.size 1 _ _ _ HXA.out
        simp only [List.getElem?_toArray, List.getElem?_cons_zero, List.getElem?_cons_succ] at c0 c1
        have lc := lt_of_block HXA.out
        rw [HF.out]
        go_wp2_with fail
        clear c0 c1 lc
        refine (HAL.out u2 HBA.out).mono ?_
        rintro e u3 ⟨⟨r2, rfl, ho⟩, hb⟩
        replace HXA := Lib.hid ((hb.block _ (lt_of_block HXA.out)).trans HXA.out)
        replace HBA := Lib.hid (below_to HBA.out hb)
        clear hb
        have HV1 := Lib.hid (own_cms (l := cs) ho)
        clear ho
        go_wp2_with fail
        refine (Grades_none HOK.out HV1.out HD.out).mono ?_
        rintro e u4 ⟨rfl, hb⟩
        replace HXA := Lib.hid ((hb.block _ (lt_of_block HXA.out)).trans HXA.out)
        replace HBA := Lib.hid (below_to HBA.out hb)
        replace HV1 := Lib.hid ((HV1.out.same (.below (Nat.le_refl _) hb)).up hb.size)
        clear hb
        clear HV1
        have c0 := cell_of_row u4 w.heap.size 0 _ _ _ HXA.out
        have c1 := cell_of_row u4 w.heap.size 1 _ _ _ HXA.out
        simp only [List.getElem?_toArray, List.getElem?_cons_zero, List.getElem?_cons_succ] at c0 c1
        have lc := lt_of_block HXA.out
        go_wp2_with fail
        clear c0 c1 lc
        refine (HFA.out u4 HBA.out).mono ?_
        rintro e u5 ⟨rfl, hb⟩
        replace HXA := Lib.hid ((hb.block _ (lt_of_block HXA.out)).trans HXA.out)
        replace HBA := Lib.hid (below_to HBA.out hb)
        clear hb
        rw [HF.out]
        have c0 := cell_of_row u5 w.heap.size 0 _ _ _ HXA.out
        have c1 := cell_of_row u5 w.heap.size 1 _ _ _ HXA.out
        simp only [List.getElem?_toArray, List.getElem?_cons_zero, List.getElem?_cons_succ] at c0 c1
        have lc := lt_of_block HXA.out
        go_wp2_with fail
        clear c0 c1 lc
        refine (HRG.out u5 HBA.out).mono ?_
        rintro e x1 ⟨hg, hb⟩
        replace HXA := Lib.hid ((hb.block _ (lt_of_block HXA.out)).trans HXA.out)
        replace HBA := Lib.hid (below_to HBA.out hb)
        clear hb
        rcases hg with ⟨d, r, hd, rfl, -⟩ | ⟨hd, rfl⟩
        · rw [HD.out] at hd
          cases hd
        clear hd
        go_wp2_with fail
        refine (awake_any x1).mono ?_
        rintro e u6 ⟨rfl, hb⟩
        have HBF := Lib.hid (below_to HBA.out hb)
        clear hb
        go_wp2
        go_ret
        exact ⟨rfl, HBF.out⟩
      | some d =>
        have HD := Lib.hid hd
        clear hd
        have c0 := cell_of_row u0 w.heap.size 0 _ _ _ HXA.out
        have c1 := cell_of_row u0 w.heap.size 1 _ _ _ HXA.out
        simp only [List.getElem?_toArray, List.getElem?_cons_zero, List.getElem?_cons_succ] at c0 c1
        have lc := lt_of_block HXA.out
        go_wp2_with fail
        clear c0 c1 lc
        refine (HAL.out u0 HBA.out).mono ?_
        rintro e u7 ⟨⟨r1, rfl, ho⟩, hb⟩
        replace HXA := Lib.hid ((hb.block _ (lt_of_block HXA.out)).trans HXA.out)
        replace HBA := Lib.hid (below_to HBA.out hb)
        clear hb
        have HV1 := Lib.hid (own_cms (l := cs) ho)
        clear ho
        go_wp2_with fail
        refine (CheckAlbum_any u7.heap.size _ _ cs u7 HML.out HV1.out (Nat.le_refl _)).mono ?_
        rintro e u8 ⟨rfl, hb⟩
        replace HXA := Lib.hid ((hb.block _ (lt_of_block HXA.out)).trans HXA.out)
        replace HBA := Lib.hid (below_to HBA.out hb)
        replace HV1 := Lib.hid ((HV1.out.same (.below (Nat.le_refl _) hb)).up hb.size)
        clear hb
        clear HV1
        have c0 := cell_of_row u8 w.heap.size 0 _ _ _ HXA.out
        have c1 := cell_of_row u8 w.heap.size 1 _ _ _ HXA.out
        simp only [List.getElem?_toArray, List.getElem?_cons_zero, List.getElem?_cons_succ] at c0 c1
        have lc := lt_of_block HXA.out
        rw [HF.out]
        go_wp2_with fail
        clear c0 c1 lc
        refine (HAL.out u8 HBA.out).mono ?_
        rintro e u9 ⟨⟨r2, rfl, ho⟩, hb⟩
        replace HXA := Lib.hid ((hb.block _ (lt_of_block HXA.out)).trans HXA.out)
        replace HBA := Lib.hid (below_to HBA.out hb)
        clear hb
        have HV1 := Lib.hid (own_cms (l := cs) ho)
        clear ho
        go_wp2_with fail
        refine (Grades_some HOK.out HV1.out HD.out).mono ?_
        rintro e u10 ⟨⟨r3, rfl, ho⟩, hb⟩
        replace HXA := Lib.hid ((hb.block _ (lt_of_block HXA.out)).trans HXA.out)
        replace HBA := Lib.hid (below_to HBA.out hb)
        replace HV1 := Lib.hid ((HV1.out.same (.below (Nat.le_refl _) hb)).up hb.size)
        clear hb
        have HO1 := Lib.hid ho
        clear ho
        clear HV1
        have c0 := cell_of_row u10 w.heap.size 0 _ _ _ HXA.out
        have c1 := cell_of_row u10 w.heap.size 1 _ _ _ HXA.out
        simp only [List.getElem?_toArray, List.getElem?_cons_zero, List.getElem?_cons_succ] at c0 c1
        have lc := lt_of_block HXA.out
        go_wp2_with fail
        clear c0 c1 lc
        refine (HFA.out u10 HBA.out).mono ?_
        rintro e u11 ⟨rfl, hb⟩
        replace HXA := Lib.hid ((hb.block _ (lt_of_block HXA.out)).trans HXA.out)
        replace HBA := Lib.hid (below_to HBA.out hb)
        replace HO1 := Lib.hid ((HO1.out.same (.below (Nat.le_refl _) hb)).up hb.size)
        clear hb
        rw [HF.out]
        have c0 := cell_of_row u11 w.heap.size 0 _ _ _ HXA.out
        have c1 := cell_of_row u11 w.heap.size 1 _ _ _ HXA.out
        simp only [List.getElem?_toArray, List.getElem?_cons_zero, List.getElem?_cons_succ] at c0 c1
        have lc := lt_of_block HXA.out
        go_wp2_with fail
        clear c0 c1 lc
        refine (HRG.out u11 HBA.out).mono ?_
        rintro e x1 ⟨hg, hb⟩
        replace HXA := Lib.hid ((hb.block _ (lt_of_block HXA.out)).trans HXA.out)
        replace HBA := Lib.hid (below_to HBA.out hb)
        replace HO1 := Lib.hid ((HO1.out.same (.below (Nat.le_refl _) hb)).up hb.size)
        clear hb
        rcases hg with ⟨d', r4, hd, rfl, ho⟩ | ⟨hd, rfl⟩
        rotate_left
        · rw [HD.out] at hd
          cases hd
        rw [HD.out] at hd
        cases hd
        have HO2 := Lib.hid ho
        clear ho
        have HGL := Lib.hid (grades_len d N)
        have HR2 := Lib.hid (own_rgs (l := gradesL d N) (by rw [HGL.out]; exact HO2.out))
        obtain ⟨a3, c3, rfl, hp3⟩ := HO1.out
        obtain ⟨a4, c4, rfl, hp4⟩ := HR2.out
        rw [HGL.out] at hp3 hp4
        have HP3 := Lib.hid hp3
        have HP4 := Lib.hid hp4
        simp only [grades_len]
        have q1 : ((N : Int) != N) = false := by simp
        clear hp3 hp4 HO1 HO2 HR2 HGL HAL HFA HML HRG
        go_wp2_with fail
        go_loopw [9] (fun i wr => ∃ q : Nat, q ≤ N ∧ i = .int .i64 q ∧ Hid (Below x1.heap.size x1 wr)) (fun i _ => N - (intOf i).toNat)
        case atStart => exact ⟨0, Nat.zero_le _, rfl, Lib.hid (Below.refl _ _)⟩
        case round =>
          obtain ⟨q, hq, rfl, HU⟩ := hrel
          by_cases hlt : q < N
          · obtain ⟨b3, o3, e3, hb3, hc3⟩ := HP3.out (by omega)
            obtain ⟨b4, o4, e4, hb4, hc4⟩ := HP4.out (by omega)
            cases e3
            cases e4
            obtain ⟨p1, p2⟩ := hc3 q hlt
            obtain ⟨p3, p4⟩ := hc4 q hlt
            obtain ⟨X, hX⟩ : ∃ X, X = (rg (gradesL d N) q).lo := ⟨_, rfl⟩
            obtain ⟨Y, hY⟩ : ∃ X, X = (rg (gradesL d N) q).hi := ⟨_, rfl⟩
            rw [← hX] at p1 p3
            rw [← hY] at p2 p4
            have hqn : (q : Int) < N := by omega
            have hwq : IntKind.i64.wrap ((q : Int) + 1) = (q : Int) + 1 := IntWalk.i64_in _ (by omega)
            have HC : Hid (∀ w', Below wr.heap.size wr w' → w'.cell? ⟨b3, o3 + q * 2, none⟩ = some (.int .i64 X) ∧ w'.cell? ⟨b3, o3 + q * 2 + 1, none⟩ = some (.int .i64 Y) ∧ w'.cell? ⟨b4, o4 + q * 2, none⟩ = some (.int .i64 X) ∧ w'.cell? ⟨b4, o4 + q * 2 + 1, none⟩ = some (.int .i64 Y)) := Lib.hid fun w' hS => by
              have h := below_to HU.out hS
              exact ⟨(h.cell (p := ⟨b3, o3 + q * 2, none⟩) hb3).trans p1, (h.cell (p := ⟨b3, o3 + q * 2 + 1, none⟩) hb3).trans p2, (h.cell (p := ⟨b4, o4 + q * 2, none⟩) hb4).trans p3, (h.cell (p := ⟨b4, o4 + q * 2 + 1, none⟩) hb4).trans p4⟩
            clear hX hY p1 p2 p3 p4 hc3 hc4 hb3 hb4
            go_wp2_with fail
            refine wp_region_noPanic ?_
            refine wp_region_acts (fun w' => Below wr.heap.size wr w') (fun _ _ h hb => below_to h hb) (below_drawn _) (by decide +kernel) (fun _ _ _ _ _ h => h)
              [.take 0, .take 1, .take 2, .take 3, .take 4, .take 5, .take 6, .take 7, .call 8] [9] (by decide +kernel) ?_
            iterate 8
              (refine GWalk.takes rfl rfl ?_; apply Exists.intro; refine ⟨fun w' hS => ?_, ?_⟩; (obtain ⟨z1, z2, z3, z4⟩ := HC.out w' hS; clear hS; go_simp; with_reducible rfl); simp only [List.getElem_toArray, List.getElem_cons_succ, List.getElem_cons_zero, Act.put, List.setIfInBounds_toArray, List.set_cons_zero, List.set_cons_succ])
            refine GWalk.calls rfl rfl ?_; apply Exists.intro; apply Exists.intro; refine ⟨fun w' hS => ?_, fun v1 hb hS hO => ?_⟩; (clear hS; go_simp; exact ⟨rfl, rfl⟩)
            refine (to_any X Y v1).mono ?_
            rintro e v2 ⟨rfl, hb2⟩
            refine ⟨_, rfl, hb2, below_to hS hb2, ?_⟩
            simp only [List.getElem_toArray, List.getElem_cons_succ, List.getElem_cons_zero, Act.put, List.setIfInBounds_toArray, List.set_cons_zero, List.set_cons_succ]
            have HS2 := Lib.hid (below_to HU.out (below_to hS hb2))
            clear hb hb2 hS hO
            refine GWalk.fin fun v5 hb5 hS5 => ?_
            have HU5 := Lib.hid (below_to HS2.out hb5)
            clear hb5 hS5 HS2 HU HC
            have q2 := fun w => neqr41 X Y w
            refine Tail.value rfl rfl (by go_simp; with_reducible rfl) ?_
            simp only [List.getElem_toArray, List.getElem_cons_succ, List.getElem_cons_zero, Act.put, List.setIfInBounds_toArray, List.set_cons_zero, List.set_cons_succ]
            refine Tail.done (NoPanic.normal ?_)
            clear q2
            go_wp2
            go_roundw
            case rel => exact ⟨q + 1, by omega, by simp, HU5⟩
            case measure => simp [intOf] <;> omega
          · obtain rfl : N = q := by omega
            replace HBA := Lib.hid (below_to HBA.out HU.out)
            clear HU hlt hq
            go_wp2_with fail
            refine (awake_any wr).mono ?_
            rintro e u12 ⟨rfl, hb⟩
            have HBF := Lib.hid (below_to HBA.out hb)
            clear hb
            go_wp2
            go_ret
            exact ⟨rfl, HBF.out⟩
    · have HF : Hid (faultA n cs = faultA n cs) := Lib.hid rfl
      have HL0 := Lib.hid (lay_fault [] hf)
      have HGE0 := Lib.hid fun m v (w : World) (hV : CmsV m w v cs) (hm : m ≤ w.heap.size) => (Grades_any m n v cs w HML.out hV hm).mono (R' := fun e w' => e = .returned (.tuple #[.slice none 0 0, .int .i64 (faultA n cs)]) ∧ Below w.heap.size w w') (by rintro e w' ⟨⟨r, rfl, h1, -⟩, hb⟩; exact ⟨by rw [h1 (by rw [HL0.out]; exact hf), HL0.out], hb⟩)
      have HCE := Lib.hid fun m v (w : World) (hV : CmsV m w v cs) (hm : m ≤ w.heap.size) => CheckAlbum_any m n v cs w HML.out hV hm
      generalize faultA n cs = F at *
      have h1 : (F == 0) = false := by simp [hf]
      have h2 : (F != 0) = true := by simp [hf]
      have h3 : (F != F) = false := by simp
      have h4 : (F == F) = true := by simp
      have c0 := cell_of_row u0 w.heap.size 0 _ _ _ HXA.out
      have c1 := cell_of_row u0 w.heap.size 1 _ _ _ HXA.out
      simp only [List.getElem?_toArray, List.getElem?_cons_zero, List.getElem?_cons_succ] at c0 c1
      have lc := lt_of_block HXA.out
      go_wp2_with fail
      clear c0 c1 lc
      refine (HAL.out u0 HBA.out).mono ?_
      rintro e u13 ⟨⟨r1, rfl, ho⟩, hb⟩
      replace HXA := Lib.hid ((hb.block _ (lt_of_block HXA.out)).trans HXA.out)
      replace HBA := Lib.hid (below_to HBA.out hb)
      clear hb
      have HV1 := Lib.hid (own_cms (l := cs) ho)
      clear ho
      go_wp2_with fail
      refine (HCE.out u13.heap.size _ u13 HV1.out (Nat.le_refl _)).mono ?_
      rintro e u14 ⟨rfl, hb⟩
      replace HXA := Lib.hid ((hb.block _ (lt_of_block HXA.out)).trans HXA.out)
      replace HBA := Lib.hid (below_to HBA.out hb)
      replace HV1 := Lib.hid ((HV1.out.same (.below (Nat.le_refl _) hb)).up hb.size)
      clear hb
      clear HV1
      have c0 := cell_of_row u14 w.heap.size 0 _ _ _ HXA.out
      have c1 := cell_of_row u14 w.heap.size 1 _ _ _ HXA.out
      simp only [List.getElem?_toArray, List.getElem?_cons_zero, List.getElem?_cons_succ] at c0 c1
      have lc := lt_of_block HXA.out
      go_wp2_with fail
      clear c0 c1 lc
      refine (HAL.out u14 HBA.out).mono ?_
      rintro e u15 ⟨⟨r2, rfl, ho⟩, hb⟩
      replace HXA := Lib.hid ((hb.block _ (lt_of_block HXA.out)).trans HXA.out)
      replace HBA := Lib.hid (below_to HBA.out hb)
      clear hb
      have HV1 := Lib.hid (own_cms (l := cs) ho)
      clear ho
      go_wp2_with fail
      refine (HGE0.out u15.heap.size _ u15 HV1.out (Nat.le_refl _)).mono ?_
      rintro e u16 ⟨rfl, hb⟩
      replace HXA := Lib.hid ((hb.block _ (lt_of_block HXA.out)).trans HXA.out)
      replace HBA := Lib.hid (below_to HBA.out hb)
      replace HV1 := Lib.hid ((HV1.out.same (.below (Nat.le_refl _) hb)).up hb.size)
      clear hb
      clear HV1
      have c0 := cell_of_row u16 w.heap.size 0 _ _ _ HXA.out
      have c1 := cell_of_row u16 w.heap.size 1 _ _ _ HXA.out
      simp only [List.getElem?_toArray, List.getElem?_cons_zero, List.getElem?_cons_succ] at c0 c1
      have lc := lt_of_block HXA.out
      go_wp2_with fail
      clear c0 c1 lc
      refine (HFA.out u16 HBA.out).mono ?_
      rintro e u17 ⟨rfl, hb⟩
      replace HXA := Lib.hid ((hb.block _ (lt_of_block HXA.out)).trans HXA.out)
      replace HBA := Lib.hid (below_to HBA.out hb)
      clear hb
      go_wp2_with fail
      refine (awake_any u17).mono ?_
      rintro e u18 ⟨rfl, hb⟩
      have HBF := Lib.hid (below_to HBA.out hb)
      clear hb
      go_wp2
      go_ret
      exact ⟨rfl, HBF.out⟩
  · have hth : decide (cs.length ≤ 16) = false := decide_eq_false ht
    clear ht
    go_wp2_with fail
    refine (awake_any u0).mono ?_
    rintro e u19 ⟨rfl, hb⟩
    have HBF := Lib.hid (below_to HBA.out hb)
    clear hb
    go_wp2
    go_ret
    exact ⟨rfl, HBF.out⟩
end Go.Proofs.Ytplmlmmjfkbabaa
