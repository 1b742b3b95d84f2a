/- The law GrainDoubts, walked. No condition. -/
import Derived.Test.YtplmlmmjfkbabaaSQJ
namespace Go.Proofs.Ytplmlmmjfkbabaa
open Go.RowKit Go.Shelf
attribute [local irreducible] arrV wpQuiet mat shl

set_option maxRecDepth 100000 in
set_option maxHeartbeats 8000000 in
theorem doubts_walk (n : Int) (v : Value) (cs : List Cm) (w : World) (hV : CmsV w.heap.size w v cs) :
    Calls Try.prog 8 #[.agg #[.int .i64 n, v]] w fun e w' => e = .returned (.bool true) ∧ Below w.heap.size w w' := by
  have HAL0 := Lib.hid fun (hl : cs.length ≤ 1000) w' (h : Below w.heap.size w w') => Album_any w.heap.size n v cs w' hl (hV.same (.below (Nat.le_refl _) h)) h.size
  have HFA0 := Lib.hid fun (hl : cs.length ≤ maxLen) w' (h : Below w.heap.size w w') => fault_any w.heap.size n v cs w' hl (hV.same (.below (Nat.le_refl _) h)) h.size
  have HRD0 := Lib.hid fun (N : Nat) (hN : n = N) (hA : AlbOk n cs) (hl : cs.length ≤ 9) w' (h : Below w.heap.size w w') => refDoubtful_any N v cs w' (hN ▸ hA) hl ((hV.same (.below (Nat.le_refl _) h)).up h.size)
  obtain ⟨a, cap, rfl, hp⟩ := hV
  have HXA := Lib.hid (heap_alloc_new w (.cells #[.int .i64 n, .slice a cs.length cap] 24))
  have HBA := Lib.hid (box_below w (.cells #[.int .i64 n, .slice a cs.length cap] 24))
  clear hp
  go_enter Try.func8, Try.ntmps8
  go_wp2_with fail
  refine (Thin_any n a cs.length cap _).mono ?_
  rintro e u0 ⟨rfl, hb⟩
  replace HXA := Lib.hid ((hb.block _ (lt_of_block HXA.out)).trans HXA.out)
  replace HBA := Lib.hid (below_to HBA.out hb)
  clear hb
  by_cases ht : cs.length ≤ 16
  · have hth : decide (cs.length ≤ 16) = true := decide_eq_true ht
    have HAL := Lib.hid (HAL0.out (by omega))
    have HFA := Lib.hid (HFA0.out (by simp [maxLen]; omega))
    have HML : Hid (cs.length ≤ maxLen) := Lib.hid (by simp [maxLen]; omega)
    clear ht HAL0 HFA0
    have c0 := cell_of_row u0 w.heap.size 0 _ _ _ HXA.out
    have c1 := cell_of_row u0 w.heap.size 1 _ _ _ HXA.out
    simp only [List.getElem?_toArray, List.getElem?_cons_zero, List.getElem?_cons_succ] at c0 c1
    have lc := lt_of_block HXA.out
    go_wp2_with fail
    clear c0 c1 lc
    refine (HFA.out u0 HBA.out).mono ?_
    rintro e u1 ⟨rfl, hb⟩
    replace HXA := Lib.hid ((hb.block _ (lt_of_block HXA.out)).trans HXA.out)
    replace HBA := Lib.hid (below_to HBA.out hb)
    clear hb
    by_cases hf : faultA n cs = 0
    · have HF0 := Lib.hid hf
      have HOK := Lib.hid (fault_ok hf)
      have hn0 := HOK.out.n0
      obtain ⟨N, rfl⟩ : ∃ N : Nat, n = (N : Int) := ⟨n.toNat, by omega⟩
      rw [hf]
      by_cases h9 : cs.length ≤ 9
      · have h91 : decide ((9 : Int) < cs.length) = false := decide_eq_false (by omega)
        have HRD := Lib.hid (HRD0.out N rfl HOK.out h9)
        clear h9 hf HRD0
        have c0 := cell_of_row u1 w.heap.size 0 _ _ _ HXA.out
        have c1 := cell_of_row u1 w.heap.size 1 _ _ _ HXA.out
        simp only [List.getElem?_toArray, List.getElem?_cons_zero, List.getElem?_cons_succ] at c0 c1
        have lc := lt_of_block HXA.out
        go_wp2_with fail
        clear c0 c1 lc
        refine (HAL.out u1 HBA.out).mono ?_
        rintro e u2 ⟨⟨r1, rfl, ho⟩, hb⟩
        replace HXA := Lib.hid ((hb.block _ (lt_of_block HXA.out)).trans HXA.out)
        replace HBA := Lib.hid (below_to HBA.out hb)
        clear hb
        have HV1 := Lib.hid (own_cms (l := cs) ho)
        clear ho
        go_wp2_with fail
        refine (Doubtful_any u2.heap.size _ _ cs u2 HML.out HV1.out (Nat.le_refl _)).mono ?_
        rintro e u3 ⟨⟨rd, rfl, h1, h2⟩, hb⟩
        replace HXA := Lib.hid ((hb.block _ (lt_of_block HXA.out)).trans HXA.out)
        replace HBA := Lib.hid (below_to HBA.out hb)
        replace HV1 := Lib.hid ((HV1.out.same (.below (Nat.le_refl _) hb)).up hb.size)
        clear hb
        clear HV1
        have HDV := Lib.hid (own_ints (l := doubtL cs) (by simpa using h2 HF0.out))
        rw [HF0.out]
        clear h1 h2
        have HDL := Lib.hid (doubt_le cs)
        generalize doubtL cs = DL at *
        have c0 := cell_of_row u3 w.heap.size 0 _ _ _ HXA.out
        have c1 := cell_of_row u3 w.heap.size 1 _ _ _ HXA.out
        simp only [List.getElem?_toArray, List.getElem?_cons_zero, List.getElem?_cons_succ] at c0 c1
        have lc := lt_of_block HXA.out
        go_wp2_with fail
        clear c0 c1 lc
        refine (HFA.out u3 HBA.out).mono ?_
        rintro e u4 ⟨rfl, hb⟩
        replace HXA := Lib.hid ((hb.block _ (lt_of_block HXA.out)).trans HXA.out)
        replace HBA := Lib.hid (below_to HBA.out hb)
        replace HDV := Lib.hid ((HDV.out.same (.below (Nat.le_refl _) hb)).up hb.size)
        clear hb
        rw [HF0.out]
        have c0 := cell_of_row u4 w.heap.size 0 _ _ _ HXA.out
        have c1 := cell_of_row u4 w.heap.size 1 _ _ _ HXA.out
        simp only [List.getElem?_toArray, List.getElem?_cons_zero, List.getElem?_cons_succ] at c0 c1
        have lc := lt_of_block HXA.out
        go_wp2_with fail
        clear c0 c1 lc
        refine (HRD.out u4 HBA.out).mono ?_
        rintro e u5 ⟨⟨r2, rfl, hr2⟩, hb⟩
        replace HXA := Lib.hid ((hb.block _ (lt_of_block HXA.out)).trans HXA.out)
        replace HBA := Lib.hid (below_to HBA.out hb)
        replace HDV := Lib.hid ((HDV.out.same (.below (Nat.le_refl _) hb)).up hb.size)
        clear hb
        have HRV := Lib.hid hr2
        clear hr2
        go_wp2_with fail
        refine (ints_same u5.heap.size _ _ DL u5 (by have := HDL.out; have := HOK.out.len; omega) HDV.out HRV.out (Nat.le_refl _)).mono ?_
        rintro e u6 ⟨rfl, hb⟩
        replace HXA := Lib.hid ((hb.block _ (lt_of_block HXA.out)).trans HXA.out)
        replace HBA := Lib.hid (below_to HBA.out hb)
        replace HDV := Lib.hid ((HDV.out.same (.below (Nat.le_refl _) hb)).up hb.size)
        replace HRV := Lib.hid ((HRV.out.same (.below (Nat.le_refl _) hb)).up hb.size)
        clear hb
        go_wp2_with fail
        refine (awake_any u6).mono ?_
        rintro e u7 ⟨rfl, hb⟩
        have HBF := Lib.hid (below_to HBA.out hb)
        clear hb
        go_wp2
        go_ret
        exact ⟨rfl, HBF.out⟩
      · have h91 : decide ((9 : Int) < cs.length) = true := decide_eq_true (by omega)
        clear h9 hf
        have c0 := cell_of_row u1 w.heap.size 0 _ _ _ HXA.out
        have c1 := cell_of_row u1 w.heap.size 1 _ _ _ HXA.out
        simp only [List.getElem?_toArray, List.getElem?_cons_zero, List.getElem?_cons_succ] at c0 c1
        have lc := lt_of_block HXA.out
        go_wp2_with fail
        refine (awake_any u1).mono ?_
        rintro e u2 ⟨rfl, hb⟩
        have HBF := Lib.hid (below_to HBA.out hb)
        clear hb
        go_wp2
        go_ret
        exact ⟨rfl, HBF.out⟩
    · have HF : Hid (faultA n cs = faultA n cs) := Lib.hid rfl
      have HD0 := Lib.hid fun m v (w : World) (hV : CmsV m w v cs) (hm : m ≤ w.heap.size) => (Doubtful_any m n v cs w HML.out hV hm).mono (R' := fun e w' => e = .returned (.tuple #[.slice none 0 0, .int .i64 (faultA n cs)]) ∧ Below w.heap.size w w') (by rintro e w' ⟨⟨r, rfl, h1, -⟩, hb⟩; exact ⟨by rw [h1 hf], hb⟩)
      generalize faultA n cs = F at *
      have h1 : (F == 0) = false := by simp [hf]
      have h2 : (F != 0) = true := by simp [hf]
      have h3 : (F == F) = true := by simp
      clear hf
      have c0 := cell_of_row u1 w.heap.size 0 _ _ _ HXA.out
      have c1 := cell_of_row u1 w.heap.size 1 _ _ _ HXA.out
      simp only [List.getElem?_toArray, List.getElem?_cons_zero, List.getElem?_cons_succ] at c0 c1
      have lc := lt_of_block HXA.out
      go_wp2_with fail
      clear c0 c1 lc
      refine (HAL.out u1 HBA.out).mono ?_
      rintro e u2 ⟨⟨r1, rfl, ho⟩, hb⟩
      replace HXA := Lib.hid ((hb.block _ (lt_of_block HXA.out)).trans HXA.out)
      replace HBA := Lib.hid (below_to HBA.out hb)
      clear hb
      have HV1 := Lib.hid (own_cms (l := cs) ho)
      clear ho
      go_wp2_with fail
      refine (HD0.out u2.heap.size _ u2 HV1.out (Nat.le_refl _)).mono ?_
      rintro e u3 ⟨rfl, hb⟩
      replace HXA := Lib.hid ((hb.block _ (lt_of_block HXA.out)).trans HXA.out)
      replace HBA := Lib.hid (below_to HBA.out hb)
      replace HV1 := Lib.hid ((HV1.out.same (.below (Nat.le_refl _) hb)).up hb.size)
      clear hb
      clear HV1
      have c0 := cell_of_row u3 w.heap.size 0 _ _ _ HXA.out
      have c1 := cell_of_row u3 w.heap.size 1 _ _ _ HXA.out
      simp only [List.getElem?_toArray, List.getElem?_cons_zero, List.getElem?_cons_succ] at c0 c1
      have lc := lt_of_block HXA.out
      go_wp2_with fail
      clear c0 c1 lc
      refine (HFA.out u3 HBA.out).mono ?_
      rintro e u4 ⟨rfl, hb⟩
      replace HXA := Lib.hid ((hb.block _ (lt_of_block HXA.out)).trans HXA.out)
      replace HBA := Lib.hid (below_to HBA.out hb)
      clear hb
      go_wp2_with fail
      refine (awake_any u4).mono ?_
      rintro e u5 ⟨rfl, hb⟩
      have HBF := Lib.hid (below_to HBA.out hb)
      clear hb
      go_wp2
      go_ret
      exact ⟨rfl, HBF.out⟩
  · have hth : decide (cs.length ≤ 16) = false := decide_eq_false ht
    clear ht
    go_wp2_with fail
    refine (awake_any u0).mono ?_
    rintro e u6 ⟨rfl, hb⟩
    have HBF := Lib.hid (below_to HBA.out hb)
    clear hb
    go_wp2
    go_ret
    exact ⟨rfl, HBF.out⟩
end Go.Proofs.Ytplmlmmjfkbabaa
