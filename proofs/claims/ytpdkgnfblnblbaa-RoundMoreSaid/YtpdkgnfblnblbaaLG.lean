/- The law's last call, over the round of the examples: contract. No condition. -/
import Derived.Test.YtpdkgnfblnblbaaLF
import Derived.Test.YtpdkgnfblnblbaaFW
namespace Go.Proofs.Ytpdkgnfblnblbaa
open Go.RowKit Go.Shelf
attribute [local irreducible] arrV wpQuiet
theorem tr_0 : offE trialR [] = 0 ∧ exA trialR [] = false := by decide +kernel
theorem tr_1 : offE trialR [2] = 0 ∧ exA trialR [2] = true := by decide +kernel
theorem tr_2 : spE trialR [2] = 0 ∧ spansL trialR (offF [2]) = [⟨121, 123⟩, ⟨119, 123⟩, ⟨231, 233⟩] := by decide +kernel
theorem tr_3 : errR trialR = 0 ∧ fewP trialR (-1) = some [2] := by decide +kernel
theorem tr_4 : shE trialR 2 = 0 ∧ shA trialR 2 = ⟨8, 11⟩ := by decide +kernel
theorem ints_nil (n : Nat) (w : World) : IntsV n w (.slice none 0 0) [] := ⟨none, 0, rfl, fun h => by simp at h⟩

set_option maxRecDepth 100000 in
set_option maxHeartbeats 4000000 in
theorem wakes_any (w : World) : Calls Try.prog 18 #[] w fun e w' => e = .returned (.bool true) ∧ Below w.heap.size w w' := by
  have HT := Lib.hid trial_any
  have E0 := Lib.hid fun p w' n (hV : RdV n w' p trialR) (hn : n ≤ w'.heap.size) => Explains_any n p trialR (.slice none 0 0) [] w' (by simp) hV (ints_nil _ _) hn
  have E1 := Lib.hid fun p v w' n (hV : RdV n w' p trialR) (hL : IntsV n w' v [2]) (hn : n ≤ w'.heap.size) => Explains_any n p trialR v [2] w' (by simp) hV hL hn
  have E2 := Lib.hid fun p v w' n (hV : RdV n w' p trialR) (hL : IntsV n w' v [2]) (hn : n ≤ w'.heap.size) => Spans_any n p trialR v [2] w' (by simp) hV hL hn
  have E3 := Lib.hid fun p w' n (hV : RdV n w' p trialR) (hn : n ≤ w'.heap.size) => Least_any n p trialR w' hV hn
  have E4 := Lib.hid fun p w' n (hc : trialR.labs.length ≤ p.bc) (hV : RdV n w' p trialR) (hn : n ≤ w'.heap.size) => Shifts_any n p trialR 2 w' hc hV hn
  rw [tr_0.1, tr_0.2] at E0
  rw [tr_1.1, tr_1.2] at E1
  rw [tr_2.1] at E2
  rw [tr_2.2] at E2
  rw [tr_3.1, tr_3.2] at E3
  rw [tr_4.1, tr_4.2] at E4
  have HI := Lib.hid fun n av bv w' (hA : IntsV n w' av [2]) (hB : IntsV n w' bv [2]) (hn : n ≤ w'.heap.size) => ints_same n av bv [2] w' (by simp) hA hB hn
  have hq1 := fun w => eqr46 121 123 121 123 w
  have hq2 := fun w => eqr46 119 123 119 123 w
  have hq3 := fun w => eqr46 231 233 231 233 w
  have hq4 := fun w => eqr46 8 11 8 11 w
  simp only [decide_true, Bool.and_self] at hq1 hq2 hq3 hq4
  go_enter Try.func18, Try.ntmps18
  go_wp2_with fail
  refine (HT.out _).mono ?_
  rintro e w1 ⟨⟨p1, rfl, hv, -⟩, HB⟩
  go_wp2_with fail
  refine (E0.out p1 w1 _ hv (Nat.le_refl _)).mono ?_
  rintro e w2 ⟨rfl, hb⟩
  replace HB := Lib.hid (below_to HB hb)
  clear hb hv E0
  go_wp2_with fail
  refine (HT.out _).mono ?_
  rintro e w3 ⟨⟨p3, rfl, hv, -⟩, hb⟩
  replace HB := Lib.hid (below_to HB.out hb)
  clear hb
  go_wp2_with fail
  have hl := heap_alloc_new w3 (.cells #[.int .i64 2] 3)
  have hba := box_below w3 (.cells #[.int .i64 2] 3)
  have hz : (w3.alloc (.cells #[.int .i64 2] 3)).heap.size = w3.heap.size + 1 := by simp
  generalize World.alloc w3 _ = w4 at *
  refine (E1.out p3 _ w4 (w3.heap.size + 1) ((hv.same (.below (Nat.le_refl _) hba)).up (by omega)) (ints_one _ 2 hl) (by omega)).mono ?_
  rintro e w5 ⟨rfl, hb⟩
  replace HB := Lib.hid (below_to (below_to HB.out hba) hb)
  clear hb hba hl hz hv E1
  go_wp2_with fail
  refine (HT.out _).mono ?_
  rintro e w6 ⟨⟨p6, rfl, hv, -⟩, hb⟩
  replace HB := Lib.hid (below_to HB.out hb)
  clear hb
  go_wp2_with fail
  have hl := heap_alloc_new w6 (.cells #[.int .i64 2] 3)
  have hba := box_below w6 (.cells #[.int .i64 2] 3)
  have hz : (w6.alloc (.cells #[.int .i64 2] 3)).heap.size = w6.heap.size + 1 := by simp
  generalize World.alloc w6 _ = w7 at *
  refine (E2.out p6 _ w7 (w6.heap.size + 1) ((hv.same (.below (Nat.le_refl _) hba)).up (by omega)) (ints_one _ 2 hl) (by omega)).mono ?_
  rintro e w8 ⟨⟨sa, sc, sk, rfl, hyes, -⟩, hb⟩
  obtain ⟨hk, ho⟩ := hyes (by trivial)
  have hk3 : sk = 3 := hk
  subst hk3
  have HR : Hid (RgsV w8.heap.size w8 (.slice sa 3 sc) [⟨121, 123⟩, ⟨119, 123⟩, ⟨231, 233⟩]) := Lib.hid (own_rgs (l := [⟨121, 123⟩, ⟨119, 123⟩, ⟨231, 233⟩]) ho)
  replace HB := Lib.hid (below_to (below_to HB.out hba) hb)
  clear hb hba hl hz hv E2 hyes hk ho
  go_wp2_with fail
  refine (HT.out _).mono ?_
  rintro e w9 ⟨⟨p9, rfl, hv, -⟩, hb⟩
  replace HR := Lib.hid ((HR.out.same (.below (Nat.le_refl _) hb)).up hb.size)
  replace HB := Lib.hid (below_to HB.out hb)
  clear hb
  go_wp2_with fail
  refine (E3.out p9 w9 _ hv (Nat.le_refl _)).mono ?_
  rintro e w10 ⟨⟨la, lk, lc, rfl, hyes, -⟩, hb⟩
  obtain ⟨hk, ho⟩ := hyes (by trivial) [2] rfl
  have hk1 : lk = 1 := hk
  subst hk1
  have HL : Hid (IntsV w10.heap.size w10 (.slice la 1 lc) [2]) := Lib.hid (own_ints (l := [2]) ho)
  replace HR := Lib.hid ((HR.out.same (.below (Nat.le_refl _) hb)).up hb.size)
  replace HB := Lib.hid (below_to HB.out hb)
  clear hb hv E3 hyes hk ho
  go_wp2_with fail
  refine (HT.out _).mono ?_
  rintro e w11 ⟨⟨p11, rfl, hv, hcp⟩, hb⟩
  replace HR := Lib.hid ((HR.out.same (.below (Nat.le_refl _) hb)).up hb.size)
  replace HL := Lib.hid ((HL.out.same (.below (Nat.le_refl _) hb)).up hb.size)
  replace HB := Lib.hid (below_to HB.out hb)
  clear hb
  go_wp2_with fail
  refine (E4.out p11 w11 _ hcp hv (Nat.le_refl _)).mono ?_
  rintro e w12 ⟨rfl, hb⟩
  replace HR := Lib.hid ((HR.out.same (.below (Nat.le_refl _) hb)).up hb.size)
  replace HL := Lib.hid ((HL.out.same (.below (Nat.le_refl _) hb)).up hb.size)
  replace HB := Lib.hid (below_to HB.out hb)
  clear hb hv hcp E4 HT
  have hx := heap_alloc_new w12 (.cells #[.int .i64 8, .int .i64 11] 46)
  have hba := box_below w12 (.cells #[.int .i64 8, .int .i64 11] 46)
  have hz : (w12.alloc (.cells #[.int .i64 8, .int .i64 11] 46)).heap.size = w12.heap.size + 1 := by simp
  replace HR := Lib.hid ((HR.out.same (.below (Nat.le_refl _) hba)).up hba.size)
  replace HL := Lib.hid ((HL.out.same (.below (Nat.le_refl _) hba)).up hba.size)
  replace HB := Lib.hid (below_to HB.out hba)
  obtain ⟨a', c', e', hc⟩ := HR.out
  cases e'
  obtain ⟨b, off, rfl, hbn, hc⟩ := hc (by simp)
  obtain ⟨k0, k1⟩ := hc 0 (show (0 : Nat) < 3 by decide)
  obtain ⟨k2, k3⟩ := hc 1 (show (1 : Nat) < 3 by decide)
  obtain ⟨k4, k5⟩ := hc 2 (show (2 : Nat) < 3 by decide)
  have m0 := cell_of_row (w12.alloc (.cells #[.int .i64 8, .int .i64 11] 46)) _ 0 _ _ _ hx
  have m1 := cell_of_row (w12.alloc (.cells #[.int .i64 8, .int .i64 11] 46)) _ 1 _ _ _ hx
  simp [rg] at k0 k1 k2 k3 k4 k5 m0 m1
  obtain ⟨la', lc', el, -⟩ := HL.out
  cases el
  clear hc
  go_wp2_with fail
  have hl := heap_alloc_new (w12.alloc (.cells #[.int .i64 8, .int .i64 11] 46)) (.cells #[.int .i64 2] 3)
  simp only [World.size_alloc] at hl
  have hbb := box_below (w12.alloc (.cells #[.int .i64 8, .int .i64 11] 46)) (.cells #[.int .i64 2] 3)
  have hzz : ((w12.alloc (.cells #[.int .i64 8, .int .i64 11] 46)).alloc (.cells #[.int .i64 2] 3)).heap.size = w12.heap.size + 2 := by simp
  have hxx := (hbb.block _ (lt_of_block hx)).trans hx
  generalize World.alloc (World.alloc w12 _) _ = W at *
  refine (HI.out (w12.heap.size + 1 + 1) _ _ W ((HL.out.same (.below (Nat.le_refl _) hbb)).up (by omega)) (ints_one _ 2 hl) (by omega)).mono ?_
  rintro e w13 ⟨rfl, hb⟩
  have hx3 := (hb.block _ (lt_of_block hxx)).trans hxx
  have n0 := cell_of_row w13 _ 0 _ _ _ hx3
  have n1 := cell_of_row w13 _ 1 _ _ _ hx3
  simp at n0 n1
  have ln := lt_of_block hx3
  replace HB := Lib.hid (below_to (below_to HB.out hbb) hb)
  clear hb hbb hl hzz hxx hx3 HL HR HI
  go_wp2
  go_ret
  exact ⟨rfl, HB.out⟩
end Go.Proofs.Ytpdkgnfblnblbaa
