/- An album is copied for the program: contract. Condition: at most a thousand comparisons. What the chapter shows, and that the program answers as it says. No condition. Grades, Between and Finest of valid albums. Condition: the album is valid. -/
import Derived.Test.YtplmlmmjfkbabaaAA
namespace Go.Proofs.Ytplmlmmjfkbabaa
open Go.RowKit Go.Shelf
attribute [local irreducible] arrV wpQuiet mat shl

set_option maxRecDepth 100000 in
set_option maxHeartbeats 4000000 in
theorem Album_any (m : Nat) (n : Int) (v : Value) (cs : List Cm) (w : World) (hl : cs.length ≤ 1000) (hV : CmsV m w v cs) (hm : m ≤ w.heap.size) :
    Calls Try.prog 20 #[.agg #[.int .i64 n, v]] w fun e w' => (∃ r, e = .returned (.agg #[.int .i64 n, r]) ∧ w'.ownsRow w.heap.size 67 4 r cs.length (flatC cs)) ∧ Below w.heap.size w w' := by
  obtain ⟨a, cap, rfl, hp⟩ := hV
  have HP := Lib.hid hp
  have HX := Lib.hid (box3 w (.cells #[.int .i64 n, .slice a cs.length cap] 24) (.cells #[.int .i64 0, .slice none 0 0] 31) (.cells #[.int .i64 n, .slice none 0 0] 31))
  have HB := Lib.hid (below3 w (.cells #[.int .i64 n, .slice a cs.length cap] 24) (.cells #[.int .i64 0, .slice none 0 0] 31) (.cells #[.int .i64 n, .slice none 0 0] 31))
  have HPT := Lib.hid fun q (h : q < cs.length) => take_cm h
  clear hp
  go_enter Try.func20, Try.ntmps20
  go_wp2
  generalize World.alloc (World.alloc (World.alloc w _) _) _ = W at *
  go_loopw [4] (fun i wr => ∃ (q : Nat) (s : Value), q ≤ cs.length ∧ i = .int .i64 q ∧ Hid (wr.heap[w.heap.size]? = some (.cells #[.int .i64 n, .slice a cs.length cap] 24 (0, 0))) ∧ Hid (wr.heap[w.heap.size + 1]? = some (.cells #[.int .i64 0, .slice none 0 0] 31 (0, 0))) ∧ Hid (wr.heap[w.heap.size + 1 + 1]? = some (.cells #[.int .i64 n, s] 31 (0, 0))) ∧ Hid (wr.ownsRow (w.heap.size + 1 + 1 + 1) 67 4 s q (flatC (cs.take q))) ∧ Hid (Below w.heap.size w wr)) (fun i _ => cs.length - (intOf i).toNat)
  case atStart => exact ⟨0, .slice none 0 0, Nat.zero_le _, rfl, Lib.hid HX.out.1, Lib.hid HX.out.2.1, Lib.hid HX.out.2.2, Lib.hid (World.ownsRow_nil _ _ _ _), HB⟩
  case round =>
    clear HX HB
    obtain ⟨q, s, hq, rfl, HX1, HX2, HX3, HO, HB⟩ := hrel
    have c1 := cell_of_row wr w.heap.size 1 _ _ _ HX1.out
    have d0 := cell_of_row wr (w.heap.size + 1 + 1) 0 _ _ _ HX3.out
    have d1 := cell_of_row wr (w.heap.size + 1 + 1) 1 _ _ _ HX3.out
    simp only [List.getElem?_toArray, List.getElem?_cons_zero, List.getElem?_cons_succ] at c1 d0 d1
    have l0 := lt_of_block HX1.out
    have l2 := lt_of_block HX3.out
    by_cases hlt : q < cs.length
    · obtain ⟨b, off, rfl, hbn, hcc⟩ := HP.out (by omega)
      obtain ⟨h1, h2, h3, h4⟩ := hcc q hlt
      have hltb : b < w.heap.size := by omega
      have p1 := (HB.out.cell (p := ⟨b, off + q * 4, none⟩) hltb).trans h1
      have p2 := (HB.out.cell (p := ⟨b, off + q * 4 + 1, none⟩) hltb).trans h2
      have p3 := (HB.out.cell (p := ⟨b, off + q * 4 + 2, none⟩) hltb).trans h3
      have p4 := (HB.out.cell (p := ⟨b, off + q * 4 + 3, none⟩) hltb).trans h4
      have hqn : (q : Int) < cs.length := by omega
      have hw9 : IntKind.i64.wrap ((q : Int) + 1) = (q : Int) + 1 := IntWalk.i64_in _ (by omega)
      have HSN := Lib.hid (HPT.out q hlt)
      generalize cm cs q = c at *
      obtain ⟨l, r, lo, hi⟩ := c
      simp only at p1 p2 p3 p4
      have hbx := box_below wr (.cells #[.int .i64 l, .int .i64 r, .int .i64 lo, .int .i64 hi] 73)
      have HO1 := Lib.hid (own_same HO.out (fun g _ hg => hbx.block g hg))
      have HX1b := Lib.hid ((hbx.block _ (lt_of_block HX1.out)).trans HX1.out)
      have HX2b := Lib.hid ((hbx.block _ (lt_of_block HX2.out)).trans HX2.out)
      have HX3b := Lib.hid ((hbx.block _ (lt_of_block HX3.out)).trans HX3.out)
      have HBb := Lib.hid (below_to HB.out hbx)
      have hl1 : w.heap.size + 1 + 1 + 1 ≤ (wr.alloc (.cells #[.int .i64 l, .int .i64 r, .int .i64 lo, .int .i64 hi] 73)).heap.size := by have := hbx.size; omega
      have HSZ : Hid ((wr.alloc (.cells #[.int .i64 l, .int .i64 r, .int .i64 lo, .int .i64 hi] 73)).heap.size = wr.heap.size + 1) := Lib.hid (by simp)
      clear hcc h1 h2 h3 h4 hbx
      go_wp2_with (first
        | (refine wpList_app el29 rfl (.tmp 22) (.tmp 32) rfl (w.heap.size + 1 + 1 + 1) q _ _ #[.int .i64 l, .int .i64 r, .int .i64 lo, .int .i64 hi] rfl (by intro u hu; simp at hu; rcases hu with rfl | rfl | rfl | rfl <;> rfl) rfl (by rw [HSZ.out]; rfl) HO1.out hl1 (by omega) ?_
           intro g c w2 hown hgr _
           have HO2 := Lib.hid hown
           have x1 := (hgr.below.block w.heap.size (by omega)).trans HX1b.out
           have x2 := (hgr.below.block (w.heap.size + 1) (by omega)).trans HX2b.out
           have x3 := (hgr.below.block (w.heap.size + 1 + 1) (by omega)).trans HX3b.out
           have HXX := Lib.hid (And.intro x1 (And.intro x2 x3))
           have HB2 := Lib.hid (HBb.out.trans (hgr.below.mono (by omega)))
           have e1 := cell_of_row w2 (w.heap.size + 1 + 1) 1 _ _ _ x3
           simp only [List.getElem?_toArray, List.getElem?_cons_zero, List.getElem?_cons_succ] at e1
           have f1 := frozen_of_row w2 (w.heap.size + 1 + 1) 1 _ _ x3
           have l3 := lt_of_block x3
           clear hown hgr x1 x2 x3)
        | fail)
      go_roundw
      case rel =>
        refine ⟨q + 1, _, by omega, by simp, Lib.hid ((heap_setCell_other _ ⟨w.heap.size + 1 + 1, 1, none⟩ _ _ (by show w.heap.size ≠ w.heap.size + 1 + 1; omega)).trans HXX.out.1), Lib.hid ((heap_setCell_other _ ⟨w.heap.size + 1 + 1, 1, none⟩ _ _ (by show w.heap.size + 1 ≠ w.heap.size + 1 + 1; omega)).trans HXX.out.2.1), Lib.hid (heap_setCell_same _ _ 1 _ 31 _ HXX.out.2.2), Lib.hid ?_, Lib.hid (HB2.out.setCell (p := ⟨w.heap.size + 1 + 1, 1, none⟩) (by show w.heap.size ≤ w.heap.size + 1 + 1; omega) _)⟩
        rw [HSN.out, flatC_snoc]
        exact own_same HO2.out (fun g hg _ => heap_setCell_other _ ⟨w.heap.size + 1 + 1, 1, none⟩ g _ (by show g ≠ w.heap.size + 1 + 1; omega))
      case measure => simp [intOf] <;> omega
    · obtain rfl : q = cs.length := by omega
      rw [List.take_length] at HO
      have k0 := cell_of_row wr (w.heap.size + 1) 0 _ _ _ HX2.out
      have k1 := cell_of_row wr (w.heap.size + 1) 1 _ _ _ HX2.out
      simp only [List.getElem?_toArray, List.getElem?_cons_zero, List.getElem?_cons_succ] at k0 k1
      have f0 := frozen_of_row wr (w.heap.size + 1) 0 _ _ HX2.out
      have f1 := frozen_of_row wr (w.heap.size + 1) 1 _ _ HX2.out
      have l1 := lt_of_block HX2.out
      obtain ⟨sa, scap, rfl⟩ := own_shape HO.out
      go_wp2
      refine bodyPost_ret (v := .agg #[.int .i64 n, .slice sa cs.length scap]) ?_ rfl ⟨⟨_, rfl, ?_⟩, (HB.out.setCell (p := ⟨w.heap.size + 1, 0, none⟩) (by show w.heap.size ≤ w.heap.size + 1; omega) _).setCell (p := ⟨w.heap.size + 1, 1, none⟩) (by show w.heap.size ≤ w.heap.size + 1; omega) _⟩
      · simp [results, Try.results20, go_sem, *]
      · refine ownsRow_mono (b := w.heap.size + 1 + 1 + 1) (by omega) (own_same HO.out (fun g hg _ => ?_))
        exact (heap_setCell_other _ ⟨w.heap.size + 1, 1, none⟩ g _ (by show g ≠ w.heap.size + 1; omega)).trans (heap_setCell_other _ ⟨w.heap.size + 1, 0, none⟩ g _ (by show g ≠ w.heap.size + 1; omega))
end Go.Proofs.Ytplmlmmjfkbabaa
namespace Go.Proofs.Ytplmlmmjfkbabaa
open Go.RowKit Go.Shelf
attribute [local irreducible] arrV wpQuiet mat shl

theorem block_cms {w : World} {g cap : Nat} {cs : List Cm} {t : TypeId} (h : w.heap[g]? = some (.cells (flatC cs).toArray t (0, 0))) : CmsV w.heap.size w (.slice (some ⟨g, 0, none⟩) cs.length cap) cs :=
  ⟨_, cap, rfl, fun _ => ⟨g, 0, rfl, lt_of_block h, fun i hi => by
    obtain ⟨h1, h2, h3, h4⟩ := flatC_get cs i hi
    rw [Nat.zero_add]
    exact ⟨(cell_of_row w g _ _ _ _ h).trans (by simpa using h1), (cell_of_row w g _ _ _ _ h).trans (by simpa using h2), (cell_of_row w g _ _ _ _ h).trans (by simpa using h3), (cell_of_row w g _ _ _ _ h).trans (by simpa using h4)⟩⟩⟩
theorem block_rgs {w : World} {g cap : Nat} {l : List Rg} {t : TypeId} (h : w.heap[g]? = some (.cells (flatR l).toArray t (0, 0))) : RgsV w.heap.size w (.slice (some ⟨g, 0, none⟩) l.length cap) l :=
  ⟨_, cap, rfl, fun _ => ⟨g, 0, rfl, lt_of_block h, fun i hi => by
    obtain ⟨h1, h2⟩ := flatR_get l i hi
    rw [Nat.zero_add]
    exact ⟨(cell_of_row w g _ _ _ _ h).trans (by simpa using h1), (cell_of_row w g _ _ _ _ h).trans (by simpa using h2)⟩⟩⟩
theorem block_ints {w : World} {g cap : Nat} {l : List Int} {t : TypeId} (h : w.heap[g]? = some (.cells (l.map iV).toArray t (0, 0))) : IntsV w.heap.size w (.slice (some ⟨g, 0, none⟩) l.length cap) l :=
  ⟨_, cap, rfl, fun _ => ⟨g, 0, rfl, lt_of_block h, fun i hi => by
    rw [Nat.zero_add]
    exact (cell_of_row w g _ _ _ _ h).trans (by simp [ld, hi, iV])⟩⟩

set_option maxRecDepth 100000 in
set_option maxHeartbeats 1000000 in
theorem shown_any (w : World) :
    Calls Try.prog 41 #[] w fun e w' => (∃ v, e = .returned (.agg #[.int .i64 3, v]) ∧ CmsV w'.heap.size w' v shownL) ∧ Below w.heap.size w w' := by
  have hcells : (#[.int .i64 0, .int .i64 (-1), .int .i64 40, .int .i64 45, .int .i64 1, .int .i64 0, .int .i64 3, .int .i64 5, .int .i64 2, .int .i64 1, .int .i64 (-2), .int .i64 4, .int .i64 2, .int .i64 (-1), .int .i64 0, .int .i64 44] : Array Value) = (flatC shownL).toArray := rfl
  go_enter Try.func41, Try.ntmps41
  go_wp2
  refine bodyPost_ret (v := .agg #[.int .i64 3, .slice (some ⟨w.heap.size + 1, 0, none⟩) 4 4]) ?_ rfl ⟨⟨_, rfl, block_cms (t := 67) (box2 w _ _).2⟩, below2 _ _ _⟩
  simp [results, Try.results41, go_sem]

theorem shown_lay : layE 3 shownL [] = 0 := lay_some shown_ok (pics_nil _) shown_d
theorem shown_bet : layE 3 shownL [2, 0] = 0 := lay_some shown_ok (by decide) shown_d
theorem shown_fin : finestE 3 shownL = 0 := by unfold finestE; rw [if_pos shown_lay, if_neg (by decide)]

set_option maxRecDepth 100000 in
set_option maxHeartbeats 4000000 in
theorem awake_any (w : World) : Calls Try.prog 18 #[] w fun e w' => e = .returned (.bool true) ∧ Below w.heap.size w w' := by
  have HB0 := Lib.hid (Below.refl w.heap.size w)
  go_enter Try.func18, Try.ntmps18
  go_wp2_with fail
  refine (shown_any _).mono ?_
  rintro e w1 ⟨⟨v1, rfl, hv1⟩, hb⟩
  have HB1 := Lib.hid (below_to HB0.out hb)
  have hg := Grades_any w1.heap.size 3 v1 shownL w1 (by simp [shownL, maxLen]) hv1 (Nat.le_refl _)
  rw [shown_lay] at hg
  have HG := Lib.hid hg
  clear hb hv1 hg HB0
  go_wp2_with fail
  refine HG.out.mono ?_
  rintro e w2 ⟨⟨r, rfl, -, h0⟩, hb⟩
  obtain ⟨d, N, hd, hN, hown⟩ := h0 trivial
  rw [shown_d] at hd
  obtain rfl : shownD = d := by injection hd
  obtain rfl : N = 3 := by omega
  have hr := own_rgs (l := gradesL shownD 3) hown
  rw [shown_grades] at hr
  have HR := Lib.hid hr
  have HB2 := Lib.hid (below_to HB1.out hb)
  clear hb hd hN hown HG h0 hr HB1
  go_wp2_with fail
  refine (shown_any _).mono ?_
  rintro e w3 ⟨⟨v3, rfl, hv3⟩, hb⟩
  have HB3 := Lib.hid (below_to HB2.out hb)
  replace HR := Lib.hid ((HR.out.same (.below (Nat.le_refl _) hb)).up hb.size)
  have hg := Between_any w3.heap.size 3 v3 shownL 2 0 w3 (by simp [shownL, maxLen]) hv3 (Nat.le_refl _)
  rw [shown_bet] at hg
  have HG := Lib.hid hg
  clear hb hv3 hg HB2
  go_wp2_with fail
  refine HG.out.mono ?_
  rintro e w4 ⟨⟨x, y, rfl, -, h0⟩, hb⟩
  obtain ⟨d, hd, hx, hy⟩ := h0 trivial
  rw [shown_d] at hd
  obtain rfl : shownD = d := by injection hd
  have hxy := shown_between
  simp only [diffD, Rg.mk.injEq] at hxy
  obtain rfl : x = 1 := hx.trans hxy.1
  obtain rfl : y = 4 := hy.trans hxy.2
  have HB4 := Lib.hid (below_to HB3.out hb)
  replace HR := Lib.hid ((HR.out.same (.below (Nat.le_refl _) hb)).up hb.size)
  clear hb hd hx hy hxy HG h0 HB3
  go_wp2_with fail
  have hbx := box_below w4 (.cells #[.int .i64 1, .int .i64 4] 41)
  have hnx := heap_alloc_new w4 (.cells #[.int .i64 1, .int .i64 4] 41)
  have HX := Lib.hid hnx
  replace HB4 := Lib.hid (below_to HB4.out hbx)
  replace HR := Lib.hid ((HR.out.same (.below (Nat.le_refl _) hbx)).up hbx.size)
  clear hbx hnx
  generalize World.alloc w4 _ = w5 at *
  generalize w4.heap.size = b4 at *
  refine (shown_any _).mono ?_
  rintro e w6 ⟨⟨v6, rfl, hv6⟩, hb⟩
  have HB6 := Lib.hid (below_to HB4.out hb)
  replace HR := Lib.hid ((HR.out.same (.below (Nat.le_refl _) hb)).up hb.size)
  replace HX := Lib.hid ((hb.block _ (lt_of_block HX.out)).trans HX.out)
  have hg := Finest_any w6.heap.size 3 v6 shownL w6 (by simp [shownL, maxLen]) hv6 (Nat.le_refl _)
  rw [shown_fin] at hg
  have HG := Lib.hid hg
  clear hb hv6 hg HB4
  go_wp2_with fail
  refine HG.out.mono ?_
  rintro e w7 ⟨⟨s, rfl, -, h0⟩, hb⟩
  obtain ⟨d, N, hd, hN, -, hown⟩ := h0 trivial
  rw [shown_d] at hd
  obtain rfl : shownD = d := by injection hd
  obtain rfl : N = 3 := by omega
  rw [shown_finest] at hown
  have HS := Lib.hid (own_ints (l := [1, 2]) hown)
  have HB7 := Lib.hid (below_to HB6.out hb)
  replace HR := Lib.hid ((HR.out.same (.below (Nat.le_refl _) hb)).up hb.size)
  replace HX := Lib.hid ((hb.block _ (lt_of_block HX.out)).trans HX.out)
  clear hb hd hN hown HG h0 HB6
  go_wp2_with fail
  have hbx := box_below w7 (.cells #[.int .i64 40, .int .i64 43, .int .i64 43, .int .i64 46, .int .i64 41, .int .i64 44] 41)
  have hnx := heap_alloc_new w7 (.cells #[.int .i64 40, .int .i64 43, .int .i64 43, .int .i64 46, .int .i64 41, .int .i64 44] 41)
  have HL := block_rgs (l := [⟨40, 43⟩, ⟨43, 46⟩, ⟨41, 44⟩]) (cap := 3) hnx
  replace HB7 := Lib.hid (below_to HB7.out hbx)
  replace HR := Lib.hid ((HR.out.same (.below (Nat.le_refl _) hbx)).up hbx.size)
  replace HS := Lib.hid ((HS.out.same (.below (Nat.le_refl _) hbx)).up hbx.size)
  replace HX := Lib.hid ((hbx.block _ (lt_of_block HX.out)).trans HX.out)
  clear hbx hnx
  generalize World.alloc w7 _ = w8 at *
  refine (ranges_same w8.heap.size _ _ [⟨40, 43⟩, ⟨43, 46⟩, ⟨41, 44⟩] w8 (by decide) HR.out HL (Nat.le_refl _)).mono ?_
  rintro e w9 ⟨rfl, hb⟩
  have HB9 := Lib.hid (below_to HB7.out hb)
  replace HS := Lib.hid ((HS.out.same (.below (Nat.le_refl _) hb)).up hb.size)
  replace HX := Lib.hid ((hb.block _ (lt_of_block HX.out)).trans HX.out)
  clear hb HL HR HB7
  have k0 := cell_of_row w9 b4 0 _ _ _ HX.out
  have k1 := cell_of_row w9 b4 1 _ _ _ HX.out
  simp only [List.getElem?_toArray, List.getElem?_cons_zero, List.getElem?_cons_succ] at k0 k1
  have lk := lt_of_block HX.out
  have q1 := fun w => eqr41 1 4 1 4 w
  go_wp2_with fail
  have hbx := box_below w9 (.cells #[.int .i64 1, .int .i64 2] 3)
  have hnx := heap_alloc_new w9 (.cells #[.int .i64 1, .int .i64 2] 3)
  have HL := block_ints (l := [1, 2]) (cap := 2) hnx
  replace HB9 := Lib.hid (below_to HB9.out hbx)
  replace HS := Lib.hid ((HS.out.same (.below (Nat.le_refl _) hbx)).up hbx.size)
  clear hbx hnx k0 k1 lk q1
  generalize World.alloc w9 _ = w10 at *
  refine (ints_same w10.heap.size _ _ [1, 2] w10 (by decide) HS.out HL (Nat.le_refl _)).mono ?_
  rintro e w11 ⟨rfl, hb⟩
  have HB11 := Lib.hid (below_to HB9.out hb)
  clear hb HL HS HB9
  go_wp2
  go_ret
  exact ⟨rfl, HB11.out⟩
end Go.Proofs.Ytplmlmmjfkbabaa
namespace Go.Proofs.Ytplmlmmjfkbabaa
open Go.RowKit Go.Shelf
attribute [local irreducible] arrV wpQuiet mat shl

theorem AlbOk.maxLen {n : Int} {cs : List Cm} (h : AlbOk n cs) : cs.length ≤ maxLen := by have := h.len; simp [Go.maxLen]; omega
theorem pics2 {n p q : Int} (hp : 0 ≤ p ∧ p < n) (hq : 0 ≤ q ∧ q < n) : picsB n [p, q] = true := by rw [bet_pics]; simp [picB, hp, hq]

theorem Between_none {n : Int} {v : Value} {cs : List Cm} {p q : Int} {w : World} (hA : AlbOk n cs) (hV : CmsV w.heap.size w v cs) (hp : 0 ≤ p ∧ p < n) (hq : 0 ≤ q ∧ q < n) (hd : distO cs = none) :
    Calls Try.prog 25 #[.agg #[.int .i64 n, v], .int .i64 p, .int .i64 q] w fun e w' => e = .returned (.tuple #[.agg #[.int .i64 0, .int .i64 0], .int .i64 9]) ∧ Below w.heap.size w w' := by
  refine (Between_any w.heap.size n v cs p q w hA.maxLen hV (Nat.le_refl _)).mono ?_
  rintro e w' ⟨⟨x, y, rfl, h1, -⟩, hb⟩
  have hE := lay_none hA (pics2 hp hq) hd
  obtain ⟨rfl, rfl⟩ := h1 (by rw [hE]; decide)
  exact ⟨by rw [hE], hb⟩
theorem Between_some {n : Int} {v : Value} {cs : List Cm} {p q : Int} {w : World} {d : Dm} (hA : AlbOk n cs) (hV : CmsV w.heap.size w v cs) (hp : 0 ≤ p ∧ p < n) (hq : 0 ≤ q ∧ q < n) (hd : distO cs = some d) :
    Calls Try.prog 25 #[.agg #[.int .i64 n, v], .int .i64 p, .int .i64 q] w fun e w' => e = .returned (.tuple #[.agg #[.int .i64 (-d (pl p) (pl q)), .int .i64 (d (pl q) (pl p))], .int .i64 0]) ∧ Below w.heap.size w w' := by
  refine (Between_any w.heap.size n v cs p q w hA.maxLen hV (Nat.le_refl _)).mono ?_
  rintro e w' ⟨⟨x, y, rfl, -, h1⟩, hb⟩
  have hE := lay_some hA (pics2 hp hq) hd
  obtain ⟨d', hd', rfl, rfl⟩ := h1 hE
  rw [hd] at hd'
  obtain rfl : d = d' := by injection hd'
  exact ⟨by rw [hE], hb⟩
theorem Grades_none {n : Int} {v : Value} {cs : List Cm} {w : World} (hA : AlbOk n cs) (hV : CmsV w.heap.size w v cs) (hd : distO cs = none) :
    Calls Try.prog 21 #[.agg #[.int .i64 n, v]] w fun e w' => e = .returned (.tuple #[.slice none 0 0, .int .i64 9]) ∧ Below w.heap.size w w' := by
  refine (Grades_any w.heap.size n v cs w hA.maxLen hV (Nat.le_refl _)).mono ?_
  rintro e w' ⟨⟨r, rfl, h1, -⟩, hb⟩
  have hE := lay_none hA (pics_nil n) hd
  obtain rfl := h1 (by rw [hE]; decide)
  exact ⟨by rw [hE], hb⟩
theorem Grades_some {n : Nat} {v : Value} {cs : List Cm} {w : World} {d : Dm} (hA : AlbOk n cs) (hV : CmsV w.heap.size w v cs) (hd : distO cs = some d) :
    Calls Try.prog 21 #[.agg #[.int .i64 n, v]] w fun e w' => (∃ r, e = .returned (.tuple #[r, .int .i64 0]) ∧ RgsV w'.heap.size w' r (gradesL d n)) ∧ Below w.heap.size w w' := by
  refine (Grades_any w.heap.size n v cs w hA.maxLen hV (Nat.le_refl _)).mono ?_
  rintro e w' ⟨⟨r, rfl, -, h1⟩, hb⟩
  have hE := lay_some hA (pics_nil n) hd
  obtain ⟨d', N, hd', hN, ho⟩ := h1 hE
  rw [hd] at hd'
  obtain rfl : d = d' := by injection hd'
  obtain rfl : n = N := by omega
  exact ⟨⟨r, by rw [hE], own_rgs (l := gradesL d n) (by rw [grades_len]; exact ho)⟩, hb⟩
theorem Finest_none {n : Int} {v : Value} {cs : List Cm} {w : World} (hA : AlbOk n cs) (hV : CmsV w.heap.size w v cs) (hd : distO cs = none) :
    Calls Try.prog 33 #[.agg #[.int .i64 n, v]] w fun e w' => e = .returned (.tuple #[.slice none 0 0, .int .i64 9]) ∧ Below w.heap.size w w' := by
  refine (Finest_any w.heap.size n v cs w hA.maxLen hV (Nat.le_refl _)).mono ?_
  rintro e w' ⟨⟨r, rfl, h1, -⟩, hb⟩
  have hE : finestE n cs = 9 := by unfold finestE; rw [lay_none hA (pics_nil n) hd]; rfl
  obtain rfl := h1 (by rw [hE]; decide)
  exact ⟨by rw [hE], hb⟩
theorem Finest_some {n : Nat} {v : Value} {cs : List Cm} {w : World} {d : Dm} (hA : AlbOk n cs) (h0 : 0 < n) (hV : CmsV w.heap.size w v cs) (hd : distO cs = some d) :
    Calls Try.prog 33 #[.agg #[.int .i64 n, v]] w fun e w' => (∃ r, e = .returned (.tuple #[r, .int .i64 0]) ∧ IntsV w'.heap.size w' r (intsL (finestL d n))) ∧ Below w.heap.size w w' := by
  refine (Finest_any w.heap.size n v cs w hA.maxLen hV (Nat.le_refl _)).mono ?_
  rintro e w' ⟨⟨r, rfl, -, h1⟩, hb⟩
  have hE : finestE n cs = 0 := by unfold finestE; rw [lay_some hA (pics_nil n) hd, if_pos rfl, if_neg (by omega)]
  obtain ⟨d', N, hd', hN, -, ho⟩ := h1 hE
  rw [hd] at hd'
  obtain rfl : d = d' := by injection hd'
  obtain rfl : n = N := by omega
  exact ⟨⟨r, by rw [hE], own_ints (l := intsL (finestL d n)) (by simpa [intsL] using ho)⟩, hb⟩
end Go.Proofs.Ytplmlmmjfkbabaa
