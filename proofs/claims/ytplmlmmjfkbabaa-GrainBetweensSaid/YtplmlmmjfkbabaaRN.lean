/- The law GrainBetweens, walked. No condition. -/
import Derived.Test.YtplmlmmjfkbabaaRM
namespace Go.Proofs.Ytplmlmmjfkbabaa
open Go.RowKit Go.Shelf
attribute [local irreducible] arrV wpQuiet mat shl

theorem pics_two (n p q : Int) : picsB n [p, q] = (hasB 0 (n - 1) p && hasB 0 (n - 1) q) := by
  rw [bet_pics]
  have e : ∀ x, picB n x = hasB 0 (n - 1) x := fun x => by
    unfold picB hasB
    exact decide_eq_decide.2 (by omega)
  rw [e, e]
theorem lay_two {n p q : Int} {cs : List Cm} (hf : faultA n cs = 0) (h : hasB 0 (n - 1) q = true) : layE n cs [p, q] = layE n cs [p] := by
  unfold layE askE
  rw [pics_two, pics_one, h, Bool.and_true]
theorem lay_out {n p q : Int} {cs : List Cm} (hf : faultA n cs = 0) (h : hasB 0 (n - 1) q = false) : layE n cs [p, q] = 2 := lay_pics _ hf (by rw [pics_two, h, Bool.and_false])
set_option maxRecDepth 100000 in
set_option maxHeartbeats 8000000 in
theorem betweens_walk (n : Int) (v : Value) (cs : List Cm) (p q : Int) (w : World) (hV : CmsV w.heap.size w v cs) :
    Calls Try.prog 4 #[.agg #[.int .i64 n, v], .int .i64 p, .int .i64 q] w fun e w' => e = .returned (.bool true) ∧ Below w.heap.size w w' := by
  have HAL0 := Lib.hid fun (hl : cs.length ≤ 1000) w' (h : Below w.heap.size w w') => Album_any w.heap.size n v cs w' hl (hV.same (.below (Nat.le_refl _) h)) h.size
  have HFA0 := Lib.hid fun (hl : cs.length ≤ maxLen) w' (h : Below w.heap.size w w') => fault_any w.heap.size n v cs w' hl (hV.same (.below (Nat.le_refl _) h)) h.size
  have HAS0 := Lib.hid fun (hl : cs.length ≤ maxLen) w' (h : Below w.heap.size w w') => asked_any n v cs p w' hl ((hV.same (.below (Nat.le_refl _) h)).up h.size)
  have HRB := Lib.hid fun (N : Nat) (hN : n = N) (hA : AlbOk n cs) d (hd : distO cs = some d) P Q (hP : P < N) (hQ : Q < N) w' (h : Below w.heap.size w w') => refBetween_any N v cs d P Q w' (hN ▸ hA) hd hP hQ ((hV.same (.below (Nat.le_refl _) h)).up h.size)
  obtain ⟨a, cap, rfl, hp⟩ := hV
  have HXA := Lib.hid (heap_alloc_new w (.cells #[.int .i64 n, .slice a cs.length cap] 24))
  have HBA := Lib.hid (box_below w (.cells #[.int .i64 n, .slice a cs.length cap] 24))
  clear hp
  go_enter Try.func4, Try.ntmps4
  go_wp2_with fail
  refine (Thin_any n a cs.length cap _).mono ?_
  rintro e u0 ⟨rfl, hb⟩
  replace HXA := Lib.hid ((hb.block _ (lt_of_block HXA.out)).trans HXA.out)
  replace HBA := Lib.hid (below_to HBA.out hb)
  clear hb
  by_cases ht : cs.length ≤ 16
  · have hth : decide (cs.length ≤ 16) = true := decide_eq_true ht
    have HAL := Lib.hid (HAL0.out (by omega))
    have HFA := Lib.hid (HFA0.out (by simp [maxLen]; omega))
    have HAS := Lib.hid (HAS0.out (by simp [maxLen]; omega))
    have HML : Hid (cs.length ≤ maxLen) := Lib.hid (by simp [maxLen]; omega)
    clear ht HAL0 HFA0 HAS0
    have c0 := cell_of_row u0 w.heap.size 0 _ _ _ HXA.out
    have c1 := cell_of_row u0 w.heap.size 1 _ _ _ HXA.out
    simp only [List.getElem?_toArray, List.getElem?_cons_zero, List.getElem?_cons_succ] at c0 c1
    have lc := lt_of_block HXA.out
    go_wp2_with fail
    clear c0 c1 lc
    refine (HAL.out u0 HBA.out).mono ?_
    rintro e u1 ⟨⟨r1, rfl, ho⟩, hb⟩
    replace HXA := Lib.hid ((hb.block _ (lt_of_block HXA.out)).trans HXA.out)
    replace HBA := Lib.hid (below_to HBA.out hb)
    clear hb
    have HV1 := Lib.hid (own_cms (l := cs) ho)
    clear ho
    go_wp2_with fail
    refine (Between_any u1.heap.size n _ cs p q u1 HML.out HV1.out (Nat.le_refl _)).mono ?_
    rintro e u2 ⟨⟨X, Y, rfl, h1, h2⟩, hb⟩
    replace HXA := Lib.hid ((hb.block _ (lt_of_block HXA.out)).trans HXA.out)
    replace HBA := Lib.hid (below_to HBA.out hb)
    replace HV1 := Lib.hid ((HV1.out.same (.below (Nat.le_refl _) hb)).up hb.size)
    clear hb
    clear HV1
    have HE1 := Lib.hid h1
    have HE2 := Lib.hid h2
    clear h1 h2
    obtain ⟨E, hE⟩ : ∃ E, E = layE n cs [p, q] := ⟨_, rfl⟩
    rw [← hE]
    rw [← hE] at HE1 HE2
    have HEE := Lib.hid hE
    clear hE
    have c0 := cell_of_row u2 w.heap.size 0 _ _ _ HXA.out
    have c1 := cell_of_row u2 w.heap.size 1 _ _ _ HXA.out
    simp only [List.getElem?_toArray, List.getElem?_cons_zero, List.getElem?_cons_succ] at c0 c1
    have lc := lt_of_block HXA.out
    go_wp2_with fail
    clear c0 c1 lc
    have hbx := box_below u2 (.cells #[.int .i64 X, .int .i64 Y] 41)
    have hnx := heap_alloc_new u2 (.cells #[.int .i64 X, .int .i64 Y] 41)
    replace HXA := Lib.hid ((hbx.block _ (lt_of_block HXA.out)).trans HXA.out)
    replace HBA := Lib.hid (below_to HBA.out hbx)
    have HBK := Lib.hid hnx
    clear hbx hnx
    generalize World.alloc u2 _ = u3 at *
    generalize u2.heap.size = bk at *
    refine (HAS.out u3 HBA.out).mono ?_
    rintro e u4 ⟨rfl, hb⟩
    replace HXA := Lib.hid ((hb.block _ (lt_of_block HXA.out)).trans HXA.out)
    replace HBA := Lib.hid (below_to HBA.out hb)
    replace HBK := Lib.hid ((hb.block _ (lt_of_block HBK.out)).trans HBK.out)
    clear hb
    have c0 := cell_of_row u4 w.heap.size 0 _ _ _ HXA.out
    have c1 := cell_of_row u4 w.heap.size 1 _ _ _ HXA.out
    simp only [List.getElem?_toArray, List.getElem?_cons_zero, List.getElem?_cons_succ] at c0 c1
    have lc := lt_of_block HXA.out
    go_wp2_with fail
    clear c0 c1 lc
    refine (HFA.out u4 HBA.out).mono ?_
    rintro e u5 ⟨rfl, hb⟩
    replace HXA := Lib.hid ((hb.block _ (lt_of_block HXA.out)).trans HXA.out)
    replace HBA := Lib.hid (below_to HBA.out hb)
    replace HBK := Lib.hid ((hb.block _ (lt_of_block HBK.out)).trans HBK.out)
    clear hb
    by_cases hf : faultA n cs = 0
    · have HFO := Lib.hid hf
      have HOK := Lib.hid (fault_ok hf)
      have hn0 := HOK.out.n0
      have hn8 := HOK.out.n8
      have hw1 : IntKind.i64.wrap (n - 1) = n - 1 := IntWalk.i64_in _ (by omega)
      rw [hf]
      clear hf
      have c0 := cell_of_row u5 w.heap.size 0 _ _ _ HXA.out
      have c1 := cell_of_row u5 w.heap.size 1 _ _ _ HXA.out
      simp only [List.getElem?_toArray, List.getElem?_cons_zero, List.getElem?_cons_succ] at c0 c1
      have lc := lt_of_block HXA.out
      go_wp2_with fail
      clear c0 c1 lc
      refine (In_any q 0 (n - 1) u5).mono ?_
      rintro e u6 ⟨rfl, hb⟩
      replace HXA := Lib.hid ((hb.block _ (lt_of_block HXA.out)).trans HXA.out)
      replace HBA := Lib.hid (below_to HBA.out hb)
      replace HBK := Lib.hid ((hb.block _ (lt_of_block HBK.out)).trans HBK.out)
      clear hb
      cases hq : hasB 0 (n - 1) q with
      | false =>
        obtain rfl : E = 2 := HEE.out.trans (lay_out HFO.out hq)
        obtain ⟨rfl, rfl⟩ := HE1.out (by decide)
        have q1 := fun w => eqr41 0 0 0 0 w
        clear hq
        have k0 := cell_of_row u6 bk 0 _ _ _ HBK.out
        have k1 := cell_of_row u6 bk 1 _ _ _ HBK.out
        simp only [List.getElem?_toArray, List.getElem?_cons_zero, List.getElem?_cons_succ] at k0 k1
        have lk := lt_of_block HBK.out
        go_wp2_with fail
        refine (awake_any u6).mono ?_
        rintro e u7 ⟨rfl, hb⟩
        have HBF := Lib.hid (below_to HBA.out hb)
        clear hb
        go_wp2
        go_ret
        exact ⟨rfl, HBF.out⟩
      | true =>
        have HE3 := Lib.hid (HEE.out.trans (lay_two HFO.out hq))
        rw [← HE3.out]
        have HQ := Lib.hid hq
        clear hq
        by_cases he : E = 0
        · subst he
          obtain ⟨d, hd, rfl, rfl⟩ := HE2.out rfl
          have hpp : picsB n [p, q] = true := (ask_ok HEE.out.symm).2
          rw [pics_two] at hpp
          simp only [Bool.and_eq_true, hasB, decide_eq_true_eq] at hpp
          obtain ⟨N, rfl⟩ : ∃ N : Nat, n = (N : Int) := ⟨n.toNat, by omega⟩
          obtain ⟨P, rfl⟩ : ∃ N : Nat, p = (N : Int) := ⟨p.toNat, by omega⟩
          obtain ⟨Q, rfl⟩ : ∃ N : Nat, q = (N : Int) := ⟨q.toNat, by omega⟩
          have HR := Lib.hid (HRB.out N rfl HOK.out d hd P Q (by omega) (by omega))
          have eP : pl (P : Int) = P + 1 := by unfold pl; omega
          have eQ : pl (Q : Int) = Q + 1 := by unfold pl; omega
          rw [eP, eQ] at HBK
          obtain ⟨X, hX⟩ : ∃ X, X = -d (P + 1) (Q + 1) := ⟨_, rfl⟩
          obtain ⟨Y, hY⟩ : ∃ X, X = d (Q + 1) (P + 1) := ⟨_, rfl⟩
          rw [← hX, ← hY] at HBK HR
          clear hX hY hd hpp HRB eP eQ HE1 HE2 HE3 HEE
          go_wp2_with fail
          have HC : Hid (∀ w', Below u6.heap.size u6 w' → w'.cell? ⟨bk, 0, none⟩ = some (.int .i64 X) ∧ w'.cell? ⟨bk, 1, none⟩ = some (.int .i64 Y) ∧ w'.cell? ⟨w.heap.size, 0, none⟩ = some (.int .i64 N) ∧ w'.cell? ⟨w.heap.size, 1, none⟩ = some (.slice a cs.length cap) ∧ bk < w'.heap.size ∧ w.heap.size < w'.heap.size) := Lib.hid fun w' hS => by
            have h1 := (hS.block _ (lt_of_block HBK.out)).trans HBK.out
            have h2 := (hS.block _ (lt_of_block HXA.out)).trans HXA.out
            exact ⟨cell_of_row w' bk 0 _ _ _ h1, cell_of_row w' bk 1 _ _ _ h1, cell_of_row w' w.heap.size 0 _ _ _ h2, cell_of_row w' w.heap.size 1 _ _ _ h2, lt_of_block h1, lt_of_block h2⟩
          have q1 := fun w => eqr41 X Y X Y w
          refine wp_region_noPanic ?_
          refine wp_region_acts (fun w' => Below u6.heap.size u6 w') (fun _ _ h hb => below_to h hb) (below_drawn _) (by decide +kernel) (fun _ _ _ _ _ h => h)
            [.take 0, .take 1, .take 2, .take 3, .take 4, .take 5, .take 6, .call 7, .call 8, .take 9, .take 10, .take 11, .call 12] [13, 14] (by decide +kernel) ?_
          iterate 7
            (refine GWalk.takes rfl rfl ?_; apply Exists.intro; refine ⟨fun w' hS => ?_, ?_⟩; (obtain ⟨z1, z2, z3, z4, z5, z6⟩ := HC.out w' hS; clear hS; go_simp; with_reducible rfl); simp only [List.getElem_toArray, List.getElem_cons_succ, List.getElem_cons_zero, Act.put, List.setIfInBounds_toArray, List.set_cons_zero, List.set_cons_succ])
          refine GWalk.calls rfl rfl ?_; apply Exists.intro; apply Exists.intro; refine ⟨fun w' hS => ?_, fun v1 hb hS hO => ?_⟩; (clear hS; go_simp; exact ⟨rfl, rfl⟩)
          refine (HR.out v1 (below_to HBA.out hS)).mono ?_
          rintro e v2 ⟨rfl, hb2⟩
          refine ⟨_, rfl, hb2, below_to hS hb2, ?_⟩
          simp only [List.getElem_toArray, List.getElem_cons_succ, List.getElem_cons_zero, Act.put, List.setIfInBounds_toArray, List.set_cons_zero, List.set_cons_succ]
          clear hb hb2 hS hO
          refine GWalk.calls rfl rfl ?_; apply Exists.intro; apply Exists.intro; refine ⟨fun w' hS => ?_, fun v3 hb hS hO => ?_⟩; (clear hS; go_simp; exact ⟨rfl, rfl⟩)
          refine (to_any X Y v3).mono ?_
          rintro e v4 ⟨rfl, hb2⟩
          refine ⟨_, rfl, hb2, below_to hS hb2, ?_⟩
          simp only [List.getElem_toArray, List.getElem_cons_succ, List.getElem_cons_zero, Act.put, List.setIfInBounds_toArray, List.set_cons_zero, List.set_cons_succ]
          clear hb hb2 hS hO
          iterate 3
            (refine GWalk.takes rfl rfl ?_; apply Exists.intro; refine ⟨fun w' hS => ?_, ?_⟩; (obtain ⟨z1, z2, z3, z4, z5, z6⟩ := HC.out w' hS; clear hS; go_simp; with_reducible rfl); simp only [List.getElem_toArray, List.getElem_cons_succ, List.getElem_cons_zero, Act.put, List.setIfInBounds_toArray, List.set_cons_zero, List.set_cons_succ])
          refine GWalk.calls rfl rfl ?_; apply Exists.intro; apply Exists.intro; refine ⟨fun w' hS => ?_, fun v5 hb hS hO => ?_⟩; (clear hS; go_simp; exact ⟨rfl, rfl⟩)
          refine (awake_any v5).mono ?_
          rintro e v6 ⟨rfl, hb2⟩
          refine ⟨_, rfl, hb2, below_to hS hb2, ?_⟩
          simp only [List.getElem_toArray, List.getElem_cons_succ, List.getElem_cons_zero, Act.put, List.setIfInBounds_toArray, List.set_cons_zero, List.set_cons_succ]
          have HS6 := Lib.hid (below_to HBA.out (below_to hS hb2))
          clear hb hb2 hS hO
          refine GWalk.fin fun v7 hb5 hS5 => ?_
          have HBF := Lib.hid (below_to HS6.out hb5)
          clear hb5 hS5 HS6 HC
          refine Tail.value rfl rfl (by go_simp; with_reducible rfl) ?_
          simp only [List.getElem_toArray, List.getElem_cons_succ, List.getElem_cons_zero, Act.put, List.setIfInBounds_toArray, List.set_cons_zero, List.set_cons_succ]
          refine Tail.value rfl rfl (by go_simp; with_reducible rfl) ?_
          simp only [List.getElem_toArray, List.getElem_cons_succ, List.getElem_cons_zero, Act.put, List.setIfInBounds_toArray, List.set_cons_zero, List.set_cons_succ]
          refine Tail.done (NoPanic.normal ?_)
          clear q1
          go_wp2
          go_ret
          exact ⟨rfl, HBF.out⟩
        · obtain ⟨rfl, rfl⟩ := HE1.out he
          have h1 : (E == 0) = false := by simp [he]
          have h2 : (E != 0) = true := by simp [he]
          have h3 : (E == E) = true := by simp
          have q1 := fun w => eqr41 0 0 0 0 w
          clear he HE1 HE2 HE3 HEE
          have k0 := cell_of_row u6 bk 0 _ _ _ HBK.out
          have k1 := cell_of_row u6 bk 1 _ _ _ HBK.out
          simp only [List.getElem?_toArray, List.getElem?_cons_zero, List.getElem?_cons_succ] at k0 k1
          have lk := lt_of_block HBK.out
          go_wp2_with fail
          refine (awake_any u6).mono ?_
          rintro e u7 ⟨rfl, hb⟩
          have HBF := Lib.hid (below_to HBA.out hb)
          clear hb
          go_wp2
          go_ret
          exact ⟨rfl, HBF.out⟩
    · have HE3 := Lib.hid (HEE.out.trans (lay_fault _ hf))
      rw [lay_fault [p] hf, ← HE3.out]
      have hE0 : E ≠ 0 := by rw [HE3.out]; exact hf
      obtain ⟨rfl, rfl⟩ := HE1.out hE0
      have h1 : (E == 0) = false := by simp [hE0]
      have h2 : (E != 0) = true := by simp [hE0]
      have h3 : (E == E) = true := by simp
      have q1 := fun w => eqr41 0 0 0 0 w
      clear hf hE0 HE1 HE2 HE3 HEE
      have k0 := cell_of_row u5 bk 0 _ _ _ HBK.out
      have k1 := cell_of_row u5 bk 1 _ _ _ HBK.out
      simp only [List.getElem?_toArray, List.getElem?_cons_zero, List.getElem?_cons_succ] at k0 k1
      have lk := lt_of_block HBK.out
      go_wp2_with fail
      refine (awake_any u5).mono ?_
      rintro e u8 ⟨rfl, hb⟩
      have HBF := Lib.hid (below_to HBA.out hb)
      clear hb
      go_wp2
      go_ret
      exact ⟨rfl, HBF.out⟩
  · have hth : decide (cs.length ≤ 16) = false := decide_eq_false ht
    clear ht
    go_wp2_with fail
    refine (awake_any u0).mono ?_
    rintro e u9 ⟨rfl, hb⟩
    have HBF := Lib.hid (below_to HBA.out hb)
    clear hb
    go_wp2
    go_ret
    exact ⟨rfl, HBF.out⟩
end Go.Proofs.Ytplmlmmjfkbabaa
