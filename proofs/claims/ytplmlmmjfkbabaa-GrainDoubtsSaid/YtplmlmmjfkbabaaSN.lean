/- The law GrainDoubtful, walked. No condition. -/
import Derived.Test.YtplmlmmjfkbabaaSM
import Derived.Test.YtplmlmmjfkbabaaSE
import Derived.BigRegion
import Derived.BigQuiet
namespace Go.Proofs.Ytplmlmmjfkbabaa
open Go.RowKit Go.Shelf
attribute [local irreducible] arrV wpQuiet mat shl

theorem woP_all (cs : List Cm) (nums : List Int) : woP cs nums cs.length = restS cs (bitsF nums 0 cs) := by simp [woP]
theorem wo_ok {n : Int} {cs : List Cm} (hA : AlbOk n cs) (nums : List Int) : AlbOk n (woP cs nums cs.length) :=
  ⟨hA.n0, hA.n8, by have := woP_len cs nums cs.length; have := hA.len; omega, fun c hc => hA.cm c (by rw [woP_all] at hc; exact rest_mem hc)⟩
theorem wo_doubt (cs : List Cm) : (distO (woP cs (doubtL cs) cs.length)).isSome = true := by
  obtain ⟨b, hb, hD, hp, -⟩ := doubt_spec cs
  rw [woP_all, bits_num (q := 0) (cs := cs) (bs := b) hb (fun x _ => by rw [hD])]
  exact hp
theorem doubt_le (cs : List Cm) : (doubtL cs).length ≤ cs.length := by
  obtain ⟨b, hb, hD, -⟩ := doubt_spec cs
  rw [hD, ← hb]
  exact numS_len 0 b
theorem doubt_in (cs : List Cm) {i : Nat} (h : i < (doubtL cs).length) : 0 ≤ ld (doubtL cs) i ∧ ld (doubtL cs) i < cs.length := by
  obtain ⟨b, hb, hD, -⟩ := doubt_spec cs
  have := ld_in h
  rw [hD] at this ⊢
  have := numS_ge this
  omega
theorem doubt_rise (cs : List Cm) {i : Nat} (h : i + 1 < (doubtL cs).length) : ld (doubtL cs) i < ld (doubtL cs) (i + 1) := by
  obtain ⟨b, hb, hD, -⟩ := doubt_spec cs
  rw [hD] at h ⊢
  exact num_rise h
theorem doubt_zero (cs : List Cm) : (distO cs).isSome = decide ((doubtL cs).length = 0) := by
  obtain ⟨b, hb, hD, hp, hmin⟩ := doubt_spec cs
  rw [Bool.eq_iff_iff, decide_eq_true_iff]
  constructor
  · intro h
    have := hmin (cs.map fun _ => false) (by simp) (by rw [rest_all]; exact h)
    rw [num_none] at this
    have := ((less_def _ _).1 this).1
    simpa using this
  · intro h
    have hn : numS 0 b = [] := by rw [← hD]; exact List.eq_nil_of_length_eq_zero h
    rw [num_nil hb hn, rest_all] at hp
    exact hp
theorem doubt_few (cs : List Cm) (nums : List Int) (h : (distO (woP cs nums cs.length)).isSome = true) : (doubtL cs).length + (woP cs nums cs.length).length ≤ cs.length := by
  obtain ⟨b, hb, hD, hp, hmin⟩ := doubt_spec cs
  rw [woP_all] at h ⊢
  have h1 := ((less_def _ _).1 (hmin _ (bitsF_len nums 0 cs) h)).1
  have h2 := rest_len (q := 0) (bitsF_len nums 0 cs)
  omega
theorem field24 (n : Int) (a : Option Addr) (l c : Nat) (w : World) : (Instr.field 24 (.agg #[.int .i64 n, .slice a l c]) 1).run Try.prog w = .ok (.slice a l c) w := by
  simp [Instr.field, go_sem, asAgg]
theorem Grades_e {n : Int} {v : Value} {cs : List Cm} {w : World} (hA : AlbOk n cs) (hV : CmsV w.heap.size w v cs) :
    Calls Try.prog 21 #[.agg #[.int .i64 n, v]] w fun e w' => (∃ r, e = .returned (.tuple #[r, .int .i64 (if (distO cs).isSome = true then 0 else 9)])) ∧ Below w.heap.size w w' := by
  refine (Grades_any w.heap.size n v cs w hA.maxLen hV (Nat.le_refl _)).mono ?_
  rintro e w' ⟨⟨r, rfl, -⟩, hb⟩
  exact ⟨⟨r, by rw [lay_of hA (pics_nil _)]⟩, hb⟩
set_option maxRecDepth 100000 in
set_option maxHeartbeats 8000000 in
theorem doubtful_walk (n : Int) (v : Value) (cs : List Cm) (nv : Value) (nums : List Int) (w : World) (hV : CmsV w.heap.size w v cs) (hN : IntsV w.heap.size w nv nums) :
    Calls Try.prog 16 #[.agg #[.int .i64 n, v], nv] w fun e w' => e = .returned (.bool true) ∧ Below w.heap.size w w' := by
  have HRE := Lib.hid fun w' (h : Below w.heap.size w w') => ready_any w.heap.size n v cs w' (hV.same (.below (Nat.le_refl _) h)) h.size
  have HAL0 := Lib.hid fun (hl : cs.length ≤ 1000) w' (h : Below w.heap.size w w') => Album_any w.heap.size n v cs w' hl (hV.same (.below (Nat.le_refl _) h)) h.size
  have HWO0 := Lib.hid fun (hl : cs.length ≤ 16) (xv : Value) (xs : List Int) (hx : xs.length ≤ 1000) w' (h : Below w.heap.size w w') (hX : IntsV w'.heap.size w' xv xs) => Without_any w'.heap.size n v xv cs xs w' hl hx ((hV.same (.below (Nat.le_refl _) h)).up h.size) hX (Nat.le_refl _)
  have HNV := Lib.hid fun w' (h : Below w.heap.size w w') => (hN.same (.below (Nat.le_refl _) h)).up h.size
  obtain ⟨a, cap, rfl, hp⟩ := hV
  obtain ⟨na, ncap, rfl, -⟩ := hN
  have HXA := Lib.hid (heap_alloc_new w (.cells #[.int .i64 n, .slice a cs.length cap] 24))
  have HBA := Lib.hid (box_below w (.cells #[.int .i64 n, .slice a cs.length cap] 24))
  clear hp
  go_enter Try.func16, Try.ntmps16
  go_wp2_with fail
  refine (HRE.out _ HBA.out).mono ?_
  rintro e u0 ⟨rfl, hb⟩
  replace HXA := Lib.hid ((hb.block _ (lt_of_block HXA.out)).trans HXA.out)
  replace HBA := Lib.hid (below_to HBA.out hb)
  clear hb
  cases hz : readyB n cs with
  | false =>
    go_wp2_with fail
    refine (awake_any u0).mono ?_
    rintro e u1 ⟨rfl, hb⟩
    have HBF := Lib.hid (below_to HBA.out hb)
    clear hb
    go_wp2
    go_ret
    exact ⟨rfl, HBF.out⟩
  | true =>
    by_cases hnl : nums.length ≤ 16
    · have hg1 : decide ((16 : Int) < nums.length) = false := decide_eq_false (by omega)
      have HOK := Lib.hid (readyB_ok hz)
      have hl12 := HOK.out.len
      have HAL := Lib.hid (HAL0.out (by omega))
      have HWO := Lib.hid (HWO0.out (by omega))
      have HNL : Hid (nums.length ≤ 1000) := Lib.hid (by omega)
      have HML := Lib.hid HOK.out.maxLen
      have HF0 : Hid (faultA n cs = 0) := Lib.hid (of_decide_eq_true hz)
      clear hz hnl HAL0 HWO0 HRE
      have c0 := cell_of_row u0 w.heap.size 0 _ _ _ HXA.out
      have c1 := cell_of_row u0 w.heap.size 1 _ _ _ HXA.out
      simp only [List.getElem?_toArray, List.getElem?_cons_zero, List.getElem?_cons_succ] at c0 c1
      have lc := lt_of_block HXA.out
      go_wp2_with fail
      clear c0 c1 lc
      refine (HAL.out u0 HBA.out).mono ?_
      rintro e u1 ⟨⟨r1, rfl, ho⟩, hb⟩
      replace HXA := Lib.hid ((hb.block _ (lt_of_block HXA.out)).trans HXA.out)
      replace HBA := Lib.hid (below_to HBA.out hb)
      clear hb
      have HV1 := Lib.hid (own_cms (l := cs) ho)
      clear ho
      go_wp2_with fail
      refine (Doubtful_any u1.heap.size n _ cs u1 HML.out HV1.out (Nat.le_refl _)).mono ?_
      rintro e u2 ⟨⟨rd, rfl, -, h1⟩, hb⟩
      replace HXA := Lib.hid ((hb.block _ (lt_of_block HXA.out)).trans HXA.out)
      replace HBA := Lib.hid (below_to HBA.out hb)
      replace HV1 := Lib.hid ((HV1.out.same (.below (Nat.le_refl _) hb)).up hb.size)
      clear hb
      clear HV1
      have HDV := Lib.hid (own_ints (l := doubtL cs) (by simpa using h1 HF0.out))
      rw [HF0.out]
      clear h1
      have HDL := Lib.hid (doubt_le cs)
      have HDI := Lib.hid fun i (h : i < (doubtL cs).length) => doubt_in cs h
      have HDR := Lib.hid fun i (h : i + 1 < (doubtL cs).length) => doubt_rise cs h
      have HDZ := Lib.hid (doubt_zero cs)
      have HDW := Lib.hid (wo_doubt cs)
      have HDF := Lib.hid (doubt_few cs nums)
      generalize doubtL cs = DL at *
      obtain ⟨da, dcap, rfl⟩ : ∃ a c, rd = .slice a DL.length c := by obtain ⟨a, c, e, -⟩ := HDV.out; exact ⟨a, c, e⟩
      have hdl := HDL.out
      have hd1 : decide ((cs.length : Int) < DL.length) = false := decide_eq_false (by omega)
      have c0 := cell_of_row u2 w.heap.size 0 _ _ _ HXA.out
      have c1 := cell_of_row u2 w.heap.size 1 _ _ _ HXA.out
      simp only [List.getElem?_toArray, List.getElem?_cons_zero, List.getElem?_cons_succ] at c0 c1
      have lc := lt_of_block HXA.out
      go_wp2_with fail
      clear c0 c1 lc
      have HU0 := Lib.hid (Below.refl u2.heap.size u2)
      go_loopw [8] (fun i wr => ∃ q : Nat, q ≤ DL.length ∧ i = .int .i64 q ∧ Hid (Below u2.heap.size u2 wr)) (fun i _ => DL.length - (intOf i).toNat)
      case atStart => exact ⟨0, Nat.zero_le _, rfl, HU0⟩
      case round =>
        obtain ⟨q, hq, rfl, HU⟩ := hrel
        by_cases hlt : q < DL.length
        · have hqn : (q : Int) < DL.length := by omega
          have hwq : IntKind.i64.wrap ((q : Int) + 1) = (q : Int) + 1 := IntWalk.i64_in _ (by omega)
          have hwn : IntKind.i64.wrap ((cs.length : Int) - 1) = (cs.length : Int) - 1 := IntWalk.i64_in _ (by omega)
          obtain ⟨db, doff, dc2, e, hdb, hdc⟩ := ints_get HDV.out hlt
          cases e
          have hin := HDI.out q hlt
          have hib : hasB 0 ((cs.length : Int) - 1) (ld DL q) = true := by simp only [hasB, decide_eq_true_eq]; omega
          by_cases hq0 : q = 0
          · subst hq0
            have hdc : u2.cell? ⟨db, doff, none⟩ = some (.int .i64 (ld DL 0)) := hdc
            have HC : Hid (∀ w', Below wr.heap.size wr w' → w'.cell? ⟨db, doff, none⟩ = some (.int .i64 (ld DL 0)) ∧ db < w'.heap.size) := Lib.hid fun w' hS => by
              have h := below_to HU.out hS
              exact ⟨(h.cell (p := ⟨db, doff, none⟩) hdb).trans hdc, Nat.lt_of_lt_of_le hdb h.size⟩
            clear hdc
            go_wp2_with fail
            refine wp_region_noPanic ?_
            refine wp_region_acts (fun w' => Below wr.heap.size wr w') (fun _ _ h hb => below_to h hb) (below_drawn _) (by decide +kernel) (fun _ _ _ _ _ h => h)
              [.take 0, .take 1, .take 2, .take 3, .take 4, .take 5, .call 6, .take 7, .take 8, .take 9, .take 10, .take 11, .take 12, .take 13, .take 14, .take 15, .take 16, .take 17, .take 18, .take 19, .take 20, .take 21, .take 22, .take 23] [] (by decide +kernel) ?_
            iterate 6
              (refine GWalk.takes rfl rfl ?_; apply Exists.intro; refine ⟨fun w' hS => ?_, ?_⟩; (obtain ⟨z1, z2⟩ := HC.out w' hS; clear hS; go_simp; with_reducible rfl); simp only [List.getElem_toArray, List.getElem_cons_succ, List.getElem_cons_zero, Act.put, List.setIfInBounds_toArray, List.set_cons_zero, List.set_cons_succ])
            refine GWalk.calls rfl rfl ?_; apply Exists.intro; apply Exists.intro; refine ⟨fun w' hS => ?_, fun v1 hb hS hO => ?_⟩; (clear hS; go_simp; exact ⟨rfl, rfl⟩)
            have hI := In_any (ld DL 0) 0 ((cs.length : Int) - 1) v1
            rw [hib] at hI
            refine hI.mono ?_
            rintro e v2 ⟨rfl, hb2⟩
            refine ⟨_, rfl, hb2, below_to hS hb2, ?_⟩
            simp only [List.getElem_toArray, List.getElem_cons_succ, List.getElem_cons_zero, Act.put, List.setIfInBounds_toArray, List.set_cons_zero, List.set_cons_succ]
            have HS2 := Lib.hid (below_to HU.out (below_to hS hb2))
            clear hI hb hS hO hb2
            iterate 5
              (refine GWalk.takes rfl rfl ?_; apply Exists.intro; refine ⟨fun w' hS => ?_, ?_⟩; (obtain ⟨z1, z2⟩ := HC.out w' hS; clear hS; go_simp; with_reducible rfl); simp only [List.getElem_toArray, List.getElem_cons_succ, List.getElem_cons_zero, Act.put, List.setIfInBounds_toArray, List.set_cons_zero, List.set_cons_succ])
            iterate 10
              (refine ⟨_, undef, rfl, .inr ⟨rfl, rfl⟩, ?_⟩; simp only [List.getElem_toArray, List.getElem_cons_succ, List.getElem_cons_zero, Act.put, List.setIfInBounds_toArray, List.set_cons_zero, List.set_cons_succ])
            iterate 2
              (refine GWalk.takes rfl rfl ?_; apply Exists.intro; refine ⟨fun w' hS => ?_, ?_⟩; (obtain ⟨z1, z2⟩ := HC.out w' hS; clear hS; go_simp; with_reducible rfl); simp only [List.getElem_toArray, List.getElem_cons_succ, List.getElem_cons_zero, Act.put, List.setIfInBounds_toArray, List.set_cons_zero, List.set_cons_succ])
            refine GWalk.fin fun v3 hb3 hS3 => ?_
            have HU3 := Lib.hid (below_to HS2.out hb3)
            clear hb3 hS3 HS2 HC HU
            refine Tail.done (NoPanic.normal ?_)
            go_wp2_with fail
            go_roundw
            case rel => exact ⟨0 + 1, by omega, by simp <;> omega, HU3⟩
            case measure => simp [intOf] <;> omega
          · obtain ⟨k, hk1⟩ : ∃ k, q = k + 1 := ⟨q - 1, by omega⟩
            have hk : k < DL.length := by omega
            obtain ⟨db2, doff2, dc3, e, -, hdc2⟩ := ints_get HDV.out hk
            cases e
            have hri := HDR.out k (by omega)
            rw [← hk1] at hri
            have hwk : IntKind.i64.wrap ((q : Int) - 1) = k := by rw [show (q : Int) - 1 = k by omega]; exact IntWalk.i64_in _ (by omega)
            have HC : Hid (∀ w', Below wr.heap.size wr w' → w'.cell? ⟨db, doff + q, none⟩ = some (.int .i64 (ld DL q)) ∧ w'.cell? ⟨db, doff + k, none⟩ = some (.int .i64 (ld DL k)) ∧ db < w'.heap.size) := Lib.hid fun w' hS => by
              have h := below_to HU.out hS
              exact ⟨(h.cell (p := ⟨db, doff + q, none⟩) hdb).trans hdc, (h.cell (p := ⟨db, doff + k, none⟩) hdb).trans hdc2, Nat.lt_of_lt_of_le hdb h.size⟩
            have hgt : decide ((0 : Int) < (q : Int)) = true := decide_eq_true (by omega)
            have hle : decide (ld DL q ≤ ld DL k) = false := decide_eq_false (by omega)
            have hki : (k : Int) < DL.length := by omega
            have hgt2 : 0 < q := by omega
            clear hk1
            clear hdc hdc2
            go_wp2_with fail
            refine wp_region_noPanic ?_
            refine wp_region_acts (fun w' => Below wr.heap.size wr w') (fun _ _ h hb => below_to h hb) (below_drawn _) (by decide +kernel) (fun _ _ _ _ _ h => h)
              [.take 0, .take 1, .take 2, .take 3, .take 4, .take 5, .call 6, .take 7, .take 8, .take 9, .take 10, .take 11, .take 12, .take 13, .take 14, .take 15, .take 16, .take 17, .take 18, .take 19, .take 20, .take 21, .take 22, .take 23] [] (by decide +kernel) ?_
            iterate 6
              (refine GWalk.takes rfl rfl ?_; apply Exists.intro; refine ⟨fun w' hS => ?_, ?_⟩; (obtain ⟨z1, z2, z3⟩ := HC.out w' hS; clear hS; go_simp; with_reducible rfl); simp only [List.getElem_toArray, List.getElem_cons_succ, List.getElem_cons_zero, Act.put, List.setIfInBounds_toArray, List.set_cons_zero, List.set_cons_succ])
            refine GWalk.calls rfl rfl ?_; apply Exists.intro; apply Exists.intro; refine ⟨fun w' hS => ?_, fun v1 hb hS hO => ?_⟩; (clear hS; go_simp; exact ⟨rfl, rfl⟩)
            have hI := In_any (ld DL q) 0 ((cs.length : Int) - 1) v1
            rw [hib] at hI
            refine hI.mono ?_
            rintro e v2 ⟨rfl, hb2⟩
            refine ⟨_, rfl, hb2, below_to hS hb2, ?_⟩
            simp only [List.getElem_toArray, List.getElem_cons_succ, List.getElem_cons_zero, Act.put, List.setIfInBounds_toArray, List.set_cons_zero, List.set_cons_succ]
            have HS2 := Lib.hid (below_to HU.out (below_to hS hb2))
            clear hI hb hS hO hb2
            iterate 17
              (refine GWalk.takes rfl rfl ?_; apply Exists.intro; refine ⟨fun w' hS => ?_, ?_⟩; (obtain ⟨z1, z2, z3⟩ := HC.out w' hS; clear hS; go_simp; with_reducible rfl); simp only [List.getElem_toArray, List.getElem_cons_succ, List.getElem_cons_zero, Act.put, List.setIfInBounds_toArray, List.set_cons_zero, List.set_cons_succ])
            refine GWalk.fin fun v3 hb3 hS3 => ?_
            have HU3 := Lib.hid (below_to HS2.out hb3)
            clear hb3 hS3 HS2 HC HU
            refine Tail.done (NoPanic.normal ?_)
            go_wp2_with fail
            go_roundw
            case rel => exact ⟨q + 1, by omega, by simp <;> omega, HU3⟩
            case measure => simp [intOf] <;> omega
        · obtain rfl : q = DL.length := by omega
          replace HXA := Lib.hid ((HU.out.block _ (lt_of_block HXA.out)).trans HXA.out)
          replace HBA := Lib.hid (below_to HBA.out HU.out)
          replace HDV := Lib.hid ((HDV.out.same (.below (Nat.le_refl _) HU.out)).up HU.out.size)
          have HWN := Lib.hid (woP_len cs nums cs.length)
          have HWD := Lib.hid (woP_len cs DL cs.length)
          have HDL2 : Hid (DL.length ≤ 1000) := Lib.hid (by omega)
          obtain ⟨BF, hBF⟩ : ∃ b, b = (distO cs).isSome := ⟨_, rfl⟩
          obtain ⟨F, hF⟩ : ∃ F : Int, F = if (distO cs).isSome = true then 0 else 9 := ⟨_, rfl⟩
          have hf1 : (F == 0) = BF := by rw [hF, hBF]; cases (distO cs).isSome <;> rfl
          have hf2 : ((DL.length : Int) == 0) = BF := by rw [hBF, HDZ.out, Bool.eq_iff_iff, beq_iff_eq, decide_eq_true_iff]; omega
          have HFE := Lib.hid hF
          clear HU hlt hq HDI HDR HDZ hF hBF HU0
          have c0 := cell_of_row wr w.heap.size 0 _ _ _ HXA.out
          have c1 := cell_of_row wr w.heap.size 1 _ _ _ HXA.out
          simp only [List.getElem?_toArray, List.getElem?_cons_zero, List.getElem?_cons_succ] at c0 c1
          have lc := lt_of_block HXA.out
          go_wp2_with fail
          clear c0 c1 lc
          refine (HAL.out wr HBA.out).mono ?_
          rintro e u3 ⟨⟨r1, rfl, ho⟩, hb⟩
          replace HXA := Lib.hid ((hb.block _ (lt_of_block HXA.out)).trans HXA.out)
          replace HBA := Lib.hid (below_to HBA.out hb)
          replace HDV := Lib.hid ((HDV.out.same (.below (Nat.le_refl _) hb)).up hb.size)
          clear hb
          have HV1 := Lib.hid (own_cms (l := cs) ho)
          clear ho
          go_wp2_with fail
          refine (Grades_e HOK.out HV1.out).mono ?_
          rintro e u4 ⟨⟨ra, rfl⟩, hb⟩
          replace HXA := Lib.hid ((hb.block _ (lt_of_block HXA.out)).trans HXA.out)
          replace HBA := Lib.hid (below_to HBA.out hb)
          replace HDV := Lib.hid ((HDV.out.same (.below (Nat.le_refl _) hb)).up hb.size)
          replace HV1 := Lib.hid ((HV1.out.same (.below (Nat.le_refl _) hb)).up hb.size)
          clear hb
          clear HV1
          rw [← HFE.out]
          have c0 := cell_of_row u4 w.heap.size 0 _ _ _ HXA.out
          have c1 := cell_of_row u4 w.heap.size 1 _ _ _ HXA.out
          simp only [List.getElem?_toArray, List.getElem?_cons_zero, List.getElem?_cons_succ] at c0 c1
          have lc := lt_of_block HXA.out
          go_wp2_with fail
          clear c0 c1 lc
          refine (HWO.out _ DL HDL2.out u4 HBA.out HDV.out).mono ?_
          rintro e u5 ⟨⟨rw1, rfl, ho⟩, hb⟩
          replace HXA := Lib.hid ((hb.block _ (lt_of_block HXA.out)).trans HXA.out)
          replace HBA := Lib.hid (below_to HBA.out hb)
          replace HDV := Lib.hid ((HDV.out.same (.below (Nat.le_refl _) hb)).up hb.size)
          clear hb
          have HVW := Lib.hid (own_cms (l := woP cs DL cs.length) ho)
          clear ho
          go_wp2_with fail
          refine (Album_any u5.heap.size n _ (woP cs DL cs.length) u5 (by have := HWD.out; omega) HVW.out (Nat.le_refl _)).mono ?_
          rintro e u6 ⟨⟨rb, rfl, ho⟩, hb⟩
          replace HXA := Lib.hid ((hb.block _ (lt_of_block HXA.out)).trans HXA.out)
          replace HBA := Lib.hid (below_to HBA.out hb)
          replace HDV := Lib.hid ((HDV.out.same (.below (Nat.le_refl _) hb)).up hb.size)
          replace HVW := Lib.hid ((HVW.out.same (.below (Nat.le_refl _) hb)).up hb.size)
          clear hb
          clear HVW
          have HV4 := Lib.hid (own_cms (l := woP cs DL cs.length) ho)
          clear ho
          go_wp2_with fail
          refine (Grades_e (wo_ok HOK.out DL) HV4.out).mono ?_
          rintro e u7 ⟨⟨rc, rfl⟩, hb⟩
          replace HXA := Lib.hid ((hb.block _ (lt_of_block HXA.out)).trans HXA.out)
          replace HBA := Lib.hid (below_to HBA.out hb)
          replace HDV := Lib.hid ((HDV.out.same (.below (Nat.le_refl _) hb)).up hb.size)
          replace HV4 := Lib.hid ((HV4.out.same (.below (Nat.le_refl _) hb)).up hb.size)
          clear hb
          clear HV4
          rw [if_pos HDW.out]
          have c0 := cell_of_row u7 w.heap.size 0 _ _ _ HXA.out
          have c1 := cell_of_row u7 w.heap.size 1 _ _ _ HXA.out
          simp only [List.getElem?_toArray, List.getElem?_cons_zero, List.getElem?_cons_succ] at c0 c1
          have lc := lt_of_block HXA.out
          go_wp2_with fail
          clear c0 c1 lc
          have hnv := HNV.out u7 HBA.out
          refine (HWO.out _ nums HNL.out u7 HBA.out hnv).mono ?_
          rintro e u8 ⟨⟨rw2, rfl, ho⟩, hb⟩
          replace HXA := Lib.hid ((hb.block _ (lt_of_block HXA.out)).trans HXA.out)
          replace HBA := Lib.hid (below_to HBA.out hb)
          replace HDV := Lib.hid ((HDV.out.same (.below (Nat.le_refl _) hb)).up hb.size)
          clear hb
          have HVW := Lib.hid (own_cms (l := woP cs nums cs.length) ho)
          clear ho
          clear hnv
          go_wp2_with fail
          refine (Album_any u8.heap.size n _ (woP cs nums cs.length) u8 (by have := HWN.out; omega) HVW.out (Nat.le_refl _)).mono ?_
          rintro e u9 ⟨⟨re, rfl, ho⟩, hb⟩
          replace HXA := Lib.hid ((hb.block _ (lt_of_block HXA.out)).trans HXA.out)
          replace HBA := Lib.hid (below_to HBA.out hb)
          replace HDV := Lib.hid ((HDV.out.same (.below (Nat.le_refl _) hb)).up hb.size)
          replace HVW := Lib.hid ((HVW.out.same (.below (Nat.le_refl _) hb)).up hb.size)
          clear hb
          clear HVW
          have HV4 := Lib.hid (own_cms (l := woP cs nums cs.length) ho)
          clear ho
          go_wp2_with fail
          refine (Grades_e (wo_ok HOK.out nums) HV4.out).mono ?_
          rintro e u10 ⟨⟨rf, rfl⟩, hb⟩
          replace HXA := Lib.hid ((hb.block _ (lt_of_block HXA.out)).trans HXA.out)
          replace HBA := Lib.hid (below_to HBA.out hb)
          replace HDV := Lib.hid ((HDV.out.same (.below (Nat.le_refl _) hb)).up hb.size)
          replace HV4 := Lib.hid ((HV4.out.same (.below (Nat.le_refl _) hb)).up hb.size)
          clear hb
          clear HV4
          obtain ⟨H, hH⟩ : ∃ H : Int, H = if (distO (woP cs nums cs.length)).isSome = true then 0 else 9 := ⟨_, rfl⟩
          rw [← hH]
          have HHE := Lib.hid hH
          clear hH
          have c0 := cell_of_row u10 w.heap.size 0 _ _ _ HXA.out
          have c1 := cell_of_row u10 w.heap.size 1 _ _ _ HXA.out
          simp only [List.getElem?_toArray, List.getElem?_cons_zero, List.getElem?_cons_succ] at c0 c1
          have lc := lt_of_block HXA.out
          go_wp2_with fail
          clear c0 c1 lc
          have hnv := HNV.out u10 HBA.out
          refine (HWO.out _ nums HNL.out u10 HBA.out hnv).mono ?_
          rintro e u11 ⟨⟨rw3, rfl, ho⟩, hb⟩
          replace HXA := Lib.hid ((hb.block _ (lt_of_block HXA.out)).trans HXA.out)
          replace HBA := Lib.hid (below_to HBA.out hb)
          replace HDV := Lib.hid ((HDV.out.same (.below (Nat.le_refl _) hb)).up hb.size)
          clear hb
          have HVW := Lib.hid (own_cms (l := woP cs nums cs.length) ho)
          clear ho
          clear hnv
          obtain ⟨wa, wc, rfl⟩ : ∃ a c, rw3 = .slice a (woP cs nums cs.length).length c := by obtain ⟨a, c, e, -⟩ := HVW.out; exact ⟨a, c, e⟩
          have hwl := HWN.out
          have hdf := HDF.out
          obtain ⟨WL, hWL⟩ : ∃ x, x = (woP cs nums cs.length).length := ⟨_, rfl⟩
          rw [← hWL] at hwl hdf ⊢
          clear hWL HVW
          have hww : IntKind.i64.wrap ((cs.length : Int) - WL) = (cs.length : Int) - WL := IntWalk.i64_in _ (by omega)
          have F1 : ∀ w, (Instr.field 24 (.agg #[.int .i64 n, .slice wa WL wc]) 1).run Try.prog w = .ok (.slice wa WL wc) w := field24 n wa WL wc
          have HAS : ∀ (c : Array Value) w, Sem.run Try.prog (asAgg (.agg c)) w = .ok c w := fun _ _ => rfl
          cases hb : (distO (woP cs nums cs.length)).isSome with
          | false =>
            obtain rfl : H = 9 := by rw [HHE.out, hb]; rfl
            clear hb hdf
            go_wp2_with fail
            refine (awake_any u11).mono ?_
            rintro e u12 ⟨rfl, hb⟩
            have HBF := Lib.hid (below_to HBA.out hb)
            clear hb
            go_wp2
            go_ret
            exact ⟨rfl, HBF.out⟩
          | true =>
            have hle : decide ((DL.length : Int) ≤ (cs.length : Int) - WL) = true := decide_eq_true (by have := hdf hb; omega)
            obtain rfl : H = 0 := by rw [HHE.out, hb]; rfl
            clear hb hdf
            go_wp2_with fail
            refine (awake_any u11).mono ?_
            rintro e u12 ⟨rfl, hb⟩
            have HBF := Lib.hid (below_to HBA.out hb)
            clear hb
            go_wp2
            go_ret
            exact ⟨rfl, HBF.out⟩
    · have hg1 : decide ((16 : Int) < nums.length) = true := decide_eq_true (by omega)
      clear hnl hz
      go_wp2_with fail
      refine (awake_any u0).mono ?_
      rintro e u13 ⟨rfl, hb⟩
      have HBF := Lib.hid (below_to HBA.out hb)
      clear hb
      go_wp2
      go_ret
      exact ⟨rfl, HBF.out⟩
end Go.Proofs.Ytplmlmmjfkbabaa
