/- What the chapter shows, and that the program answers as it says. No condition. -/
import Derived.Test.YtplmlmmjfkbabaaAB
namespace Go.Proofs.Ytplmlmmjfkbabaa
open Go.RowKit Go.Shelf
attribute [local irreducible] arrV wpQuiet mat shl

theorem block_cms {w : World} {g cap : Nat} {cs : List Cm} {t : TypeId} (h : w.heap[g]? = some (.cells (flatC cs).toArray t (0, 0))) : CmsV w.heap.size w (.slice (some ⟨g, 0, none⟩) cs.length cap) cs :=
  ⟨_, cap, rfl, fun _ => ⟨g, 0, rfl, lt_of_block h, fun i hi => by
    obtain ⟨h1, h2, h3, h4⟩ := flatC_get cs i hi
    rw [Nat.zero_add]
    exact ⟨(cell_of_row w g _ _ _ _ h).trans (by simpa using h1), (cell_of_row w g _ _ _ _ h).trans (by simpa using h2), (cell_of_row w g _ _ _ _ h).trans (by simpa using h3), (cell_of_row w g _ _ _ _ h).trans (by simpa using h4)⟩⟩⟩
theorem block_rgs {w : World} {g cap : Nat} {l : List Rg} {t : TypeId} (h : w.heap[g]? = some (.cells (flatR l).toArray t (0, 0))) : RgsV w.heap.size w (.slice (some ⟨g, 0, none⟩) l.length cap) l :=
  ⟨_, cap, rfl, fun _ => ⟨g, 0, rfl, lt_of_block h, fun i hi => by
    obtain ⟨h1, h2⟩ := flatR_get l i hi
    rw [Nat.zero_add]
    exact ⟨(cell_of_row w g _ _ _ _ h).trans (by simpa using h1), (cell_of_row w g _ _ _ _ h).trans (by simpa using h2)⟩⟩⟩
theorem block_ints {w : World} {g cap : Nat} {l : List Int} {t : TypeId} (h : w.heap[g]? = some (.cells (l.map iV).toArray t (0, 0))) : IntsV w.heap.size w (.slice (some ⟨g, 0, none⟩) l.length cap) l :=
  ⟨_, cap, rfl, fun _ => ⟨g, 0, rfl, lt_of_block h, fun i hi => by
    rw [Nat.zero_add]
    exact (cell_of_row w g _ _ _ _ h).trans (by simp [ld, hi, iV])⟩⟩

set_option maxRecDepth 100000 in
set_option maxHeartbeats 1000000 in
theorem shown_any (w : World) :
    Calls Try.prog 41 #[] w fun e w' => (∃ v, e = .returned (.agg #[.int .i64 3, v]) ∧ CmsV w'.heap.size w' v shownL) ∧ Below w.heap.size w w' := by
  have hcells : (#[.int .i64 0, .int .i64 (-1), .int .i64 40, .int .i64 45, .int .i64 1, .int .i64 0, .int .i64 3, .int .i64 5, .int .i64 2, .int .i64 1, .int .i64 (-2), .int .i64 4, .int .i64 2, .int .i64 (-1), .int .i64 0, .int .i64 44] : Array Value) = (flatC shownL).toArray := rfl
  go_enter Try.func41, Try.ntmps41
  go_wp2
  refine bodyPost_ret (v := .agg #[.int .i64 3, .slice (some ⟨w.heap.size + 1, 0, none⟩) 4 4]) ?_ rfl ⟨⟨_, rfl, block_cms (t := 67) (box2 w _ _).2⟩, below2 _ _ _⟩
  simp [results, Try.results41, go_sem]

theorem shown_lay : layE 3 shownL [] = 0 := lay_some shown_ok (pics_nil _) shown_d
theorem shown_bet : layE 3 shownL [2, 0] = 0 := lay_some shown_ok (by decide) shown_d
theorem shown_fin : finestE 3 shownL = 0 := by unfold finestE; rw [if_pos shown_lay, if_neg (by decide)]

set_option maxRecDepth 100000 in
set_option maxHeartbeats 4000000 in
theorem awake_any (w : World) : Calls Try.prog 18 #[] w fun e w' => e = .returned (.bool true) ∧ Below w.heap.size w w' := by
  have HB0 := Lib.hid (Below.refl w.heap.size w)
  go_enter Try.func18, Try.ntmps18
  go_wp2_with fail
  refine (shown_any _).mono ?_
  rintro e w1 ⟨⟨v1, rfl, hv1⟩, hb⟩
  have HB1 := Lib.hid (below_to HB0.out hb)
  have hg := Grades_any w1.heap.size 3 v1 shownL w1 (by simp [shownL, maxLen]) hv1 (Nat.le_refl _)
  rw [shown_lay] at hg
  have HG := Lib.hid hg
  clear hb hv1 hg HB0
  go_wp2_with fail
  refine HG.out.mono ?_
  rintro e w2 ⟨⟨r, rfl, -, h0⟩, hb⟩
  obtain ⟨d, N, hd, hN, hown⟩ := h0 trivial
  rw [shown_d] at hd
  obtain rfl : shownD = d := by injection hd
  obtain rfl : N = 3 := by omega
  have hr := own_rgs (l := gradesL shownD 3) hown
  rw [shown_grades] at hr
  have HR := Lib.hid hr
  have HB2 := Lib.hid (below_to HB1.out hb)
  clear hb hd hN hown HG h0 hr HB1
  go_wp2_with fail
  refine (shown_any _).mono ?_
  rintro e w3 ⟨⟨v3, rfl, hv3⟩, hb⟩
  have HB3 := Lib.hid (below_to HB2.out hb)
  replace HR := Lib.hid ((HR.out.same (.below (Nat.le_refl _) hb)).up hb.size)
  have hg := Between_any w3.heap.size 3 v3 shownL 2 0 w3 (by simp [shownL, maxLen]) hv3 (Nat.le_refl _)
  rw [shown_bet] at hg
  have HG := Lib.hid hg
  clear hb hv3 hg HB2
  go_wp2_with fail
  refine HG.out.mono ?_
  rintro e w4 ⟨⟨x, y, rfl, -, h0⟩, hb⟩
  obtain ⟨d, hd, hx, hy⟩ := h0 trivial
  rw [shown_d] at hd
  obtain rfl : shownD = d := by injection hd
  have hxy := shown_between
  simp only [diffD, Rg.mk.injEq] at hxy
  obtain rfl : x = 1 := hx.trans hxy.1
  obtain rfl : y = 4 := hy.trans hxy.2
  have HB4 := Lib.hid (below_to HB3.out hb)
  replace HR := Lib.hid ((HR.out.same (.below (Nat.le_refl _) hb)).up hb.size)
  clear hb hd hx hy hxy HG h0 HB3
  go_wp2_with fail
  have hbx := box_below w4 (.cells #[.int .i64 1, .int .i64 4] 41)
  have hnx := heap_alloc_new w4 (.cells #[.int .i64 1, .int .i64 4] 41)
  have HX := Lib.hid hnx
  replace HB4 := Lib.hid (below_to HB4.out hbx)
  replace HR := Lib.hid ((HR.out.same (.below (Nat.le_refl _) hbx)).up hbx.size)
  clear hbx hnx
  generalize World.alloc w4 _ = w5 at *
  generalize w4.heap.size = b4 at *
  refine (shown_any _).mono ?_
  rintro e w6 ⟨⟨v6, rfl, hv6⟩, hb⟩
  have HB6 := Lib.hid (below_to HB4.out hb)
  replace HR := Lib.hid ((HR.out.same (.below (Nat.le_refl _) hb)).up hb.size)
  replace HX := Lib.hid ((hb.block _ (lt_of_block HX.out)).trans HX.out)
  have hg := Finest_any w6.heap.size 3 v6 shownL w6 (by simp [shownL, maxLen]) hv6 (Nat.le_refl _)
  rw [shown_fin] at hg
  have HG := Lib.hid hg
  clear hb hv6 hg HB4
  go_wp2_with fail
  refine HG.out.mono ?_
  rintro e w7 ⟨⟨s, rfl, -, h0⟩, hb⟩
  obtain ⟨d, N, hd, hN, -, hown⟩ := h0 trivial
  rw [shown_d] at hd
  obtain rfl : shownD = d := by injection hd
  obtain rfl : N = 3 := by omega
  rw [shown_finest] at hown
  have HS := Lib.hid (own_ints (l := [1, 2]) hown)
  have HB7 := Lib.hid (below_to HB6.out hb)
  replace HR := Lib.hid ((HR.out.same (.below (Nat.le_refl _) hb)).up hb.size)
  replace HX := Lib.hid ((hb.block _ (lt_of_block HX.out)).trans HX.out)
  clear hb hd hN hown HG h0 HB6
  go_wp2_with fail
  have hbx := box_below w7 (.cells #[.int .i64 40, .int .i64 43, .int .i64 43, .int .i64 46, .int .i64 41, .int .i64 44] 41)
  have hnx := heap_alloc_new w7 (.cells #[.int .i64 40, .int .i64 43, .int .i64 43, .int .i64 46, .int .i64 41, .int .i64 44] 41)
  have HL := block_rgs (l := [⟨40, 43⟩, ⟨43, 46⟩, ⟨41, 44⟩]) (cap := 3) hnx
  replace HB7 := Lib.hid (below_to HB7.out hbx)
  replace HR := Lib.hid ((HR.out.same (.below (Nat.le_refl _) hbx)).up hbx.size)
  replace HS := Lib.hid ((HS.out.same (.below (Nat.le_refl _) hbx)).up hbx.size)
  replace HX := Lib.hid ((hbx.block _ (lt_of_block HX.out)).trans HX.out)
  clear hbx hnx
  generalize World.alloc w7 _ = w8 at *
  refine (ranges_same w8.heap.size _ _ [⟨40, 43⟩, ⟨43, 46⟩, ⟨41, 44⟩] w8 (by decide) HR.out HL (Nat.le_refl _)).mono ?_
  rintro e w9 ⟨rfl, hb⟩
  have HB9 := Lib.hid (below_to HB7.out hb)
  replace HS := Lib.hid ((HS.out.same (.below (Nat.le_refl _) hb)).up hb.size)
  replace HX := Lib.hid ((hb.block _ (lt_of_block HX.out)).trans HX.out)
  clear hb HL HR HB7
  have k0 := cell_of_row w9 b4 0 _ _ _ HX.out
  have k1 := cell_of_row w9 b4 1 _ _ _ HX.out
  simp only [List.getElem?_toArray, List.getElem?_cons_zero, List.getElem?_cons_succ] at k0 k1
  have lk := lt_of_block HX.out
  have q1 := fun w => eqr41 1 4 1 4 w
  go_wp2_with fail
  have hbx := box_below w9 (.cells #[.int .i64 1, .int .i64 2] 3)
  have hnx := heap_alloc_new w9 (.cells #[.int .i64 1, .int .i64 2] 3)
  have HL := block_ints (l := [1, 2]) (cap := 2) hnx
  replace HB9 := Lib.hid (below_to HB9.out hbx)
  replace HS := Lib.hid ((HS.out.same (.below (Nat.le_refl _) hbx)).up hbx.size)
  clear hbx hnx k0 k1 lk q1
  generalize World.alloc w9 _ = w10 at *
  refine (ints_same w10.heap.size _ _ [1, 2] w10 (by decide) HS.out HL (Nat.le_refl _)).mono ?_
  rintro e w11 ⟨rfl, hb⟩
  have HB11 := Lib.hid (below_to HB9.out hb)
  clear hb HL HS HB9
  go_wp2
  go_ret
  exact ⟨rfl, HB11.out⟩
end Go.Proofs.Ytplmlmmjfkbabaa
