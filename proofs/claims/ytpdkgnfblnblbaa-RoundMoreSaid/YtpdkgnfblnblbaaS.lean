/- Small contracts of ranges. No condition. -/
import Derived.Test.YtpdkgnfblnblbaaD
import Derived.Deep.QuietTactic
import Derived.Laws.StructEq
import Derived.Maps.Keyed
import Derived.Laws.EntriesVeiled
namespace Go.Proofs.Ytpdkgnfblnblbaa
open Go.RowKit Go.Shelf

def hasB (lo hi n : Int) : Bool := decide (lo ≤ n ∧ n ≤ hi)
set_option maxHeartbeats 400000 in
theorem has_any (lo hi n : Int) (w : World) :
    Calls Try.prog 79 #[.agg #[.int .i64 lo, .int .i64 hi], .int .i64 n] w fun e w' => e = .returned (.bool (hasB lo hi n)) ∧ Below w.heap.size w w' := by
  go_enter Try.func79, Try.ntmps79
  go_wp2
  all_goals
    go_ret
    refine ⟨ret_bool ?_, box_below _ _⟩
    simp [hasB, *]
    try omega
set_option maxHeartbeats 400000 in
theorem hasSome_any (lo hi : Int) (w : World) :
    Calls Try.prog 64 #[.agg #[.int .i64 lo, .int .i64 hi]] w fun e w' => e = .returned (.bool (okG ⟨lo, hi⟩)) ∧ Below w.heap.size w w' := by
  go_enter Try.func64, Try.ntmps64
  go_wp2
  all_goals
    go_ret
    refine ⟨ret_bool ?_, box_below _ _⟩
    simp [okG, *]
set_option maxHeartbeats 400000 in
theorem everyValue_any (w : World) :
    Calls Try.prog 88 #[] w fun e w' => e = .returned (.agg #[.int .i64 0, .int .i64 1000]) ∧ Below w.heap.size w w' := by
  go_enter Try.func88, Try.ntmps88
  go_wp2
  all_goals
    refine bodyPost_ret (v := .agg #[.int .i64 0, .int .i64 1000]) ?_ rfl ⟨rfl, box_below _ _⟩
    simp [results, Try.results88, go_sem]
set_option maxHeartbeats 400000 in
theorem everyTol_any (w : World) :
    Calls Try.prog 78 #[] w fun e w' => e = .returned (.agg #[.int .i64 0, .int .i64 100]) ∧ Below w.heap.size w w' := by
  go_enter Try.func78, Try.ntmps78
  go_wp2
  all_goals
    refine bodyPost_ret (v := .agg #[.int .i64 0, .int .i64 100]) ?_ rfl ⟨rfl, box_below _ _⟩
    simp [results, Try.results78, go_sem]
set_option maxHeartbeats 400000 in
theorem everyShift_any (w : World) :
    Calls Try.prog 73 #[] w fun e w' => e = .returned (.agg #[.int .i64 (-2000), .int .i64 2000]) ∧ Below w.heap.size w w' := by
  go_enter Try.func73, Try.ntmps73
  go_wp2
  all_goals
    refine bodyPost_ret (v := .agg #[.int .i64 (-2000), .int .i64 2000]) ?_ rfl ⟨rfl, box_below _ _⟩
    simp [results, Try.results73, go_sem]
set_option maxHeartbeats 400000 in
theorem wider_any (lo hi n : Int) (w : World) (h1 : IntKind.i64.wrap (lo - n) = lo - n) (h2 : IntKind.i64.wrap (hi + n) = hi + n) :
    Calls Try.prog 66 #[.agg #[.int .i64 lo, .int .i64 hi], .int .i64 n] w fun e w' => e = .returned (.agg #[.int .i64 (lo - n), .int .i64 (hi + n)]) ∧ Below w.heap.size w w' := by
  go_enter Try.func66, Try.ntmps66
  go_wp2
  all_goals
    refine bodyPost_ret (v := .agg #[.int .i64 (lo - n), .int .i64 (hi + n)]) ?_ rfl ⟨rfl, below2 _ _ _⟩
    simp [results, Try.results66, go_sem]
set_option maxHeartbeats 400000 in
theorem less_any (lo hi lo2 hi2 : Int) (w : World) (h1 : IntKind.i64.wrap (lo - hi2) = lo - hi2) (h2 : IntKind.i64.wrap (hi - lo2) = hi - lo2) :
    Calls Try.prog 75 #[.agg #[.int .i64 lo, .int .i64 hi], .agg #[.int .i64 lo2, .int .i64 hi2]] w fun e w' => e = .returned (.agg #[.int .i64 (lo - hi2), .int .i64 (hi - lo2)]) ∧ Below w.heap.size w w' := by
  go_enter Try.func75, Try.ntmps75
  go_wp2
  all_goals
    refine bodyPost_ret (v := .agg #[.int .i64 (lo - hi2), .int .i64 (hi - lo2)]) ?_ rfl ⟨rfl, below3 _ _ _ _⟩
    simp [results, Try.results75, go_sem]
set_option maxHeartbeats 400000 in
theorem lower_any (w : World) :
    Calls Try.prog 83 #[] w fun e w' => e = .returned (.agg #[.func (.func 91) #[] #[], .func (.func 92) #[] #[]]) ∧ Below w.heap.size w w' := by
  go_enter Try.func83, Try.ntmps83
  go_wp2
  refine bodyPost_ret (v := .agg #[.func (.func 91) #[] #[], .func (.func 92) #[] #[]]) ?_ rfl ⟨rfl, box_below _ _⟩
  simp [results, Try.results83, go_sem]
set_option maxHeartbeats 400000 in
theorem upper_any (w : World) :
    Calls Try.prog 85 #[] w fun e w' => e = .returned (.agg #[.func (.func 93) #[] #[], .func (.func 94) #[] #[]]) ∧ Below w.heap.size w w' := by
  go_enter Try.func85, Try.ntmps85
  go_wp2
  refine bodyPost_ret (v := .agg #[.func (.func 93) #[] #[], .func (.func 94) #[] #[]]) ?_ rfl ⟨rfl, box_below _ _⟩
  simp [results, Try.results85, go_sem]
set_option maxHeartbeats 400000 in
theorem low_any (r : Rg) (w : World) : Calls Try.prog 91 #[.agg #[.int .i64 r.lo, .int .i64 r.hi]] w fun e w' => e = .returned (.int .i64 r.lo) ∧ Below w.heap.size w w' := by
  go_enter Try.func91, Try.ntmps91
  go_wp2
  go_ret
  exact ⟨rfl, box_below _ _⟩
set_option maxHeartbeats 400000 in
theorem high_any (r : Rg) (w : World) : Calls Try.prog 93 #[.agg #[.int .i64 r.lo, .int .i64 r.hi]] w fun e w' => e = .returned (.int .i64 r.hi) ∧ Below w.heap.size w w' := by
  go_enter Try.func93, Try.ntmps93
  go_wp2
  go_ret
  exact ⟨rfl, box_below _ _⟩
set_option maxHeartbeats 400000 in
/-- Of a number and one other. -/
theorem greatest_any (a b : Int) (g off cap : Nat) (w : World) (hb : w.cell? ⟨g, off, none⟩ = some (.int .i64 b)) : Calls Try.prog 92 #[.int .i64 a, .slice (some ⟨g, off, none⟩) 1 cap] w fun e w' => e = .returned (.int .i64 (max a b)) ∧ Below w.heap.size w w' := by
  have HBT := Lib.hid (Below.refl w.heap.size w)
  have hw9 : IntKind.i64.wrap ((0 : Int) + 1) = 1 := by decide
  go_enter Try.func92, Try.ntmps92
  go_wp2
  go_loopw [0, 9] (fun s i wr => wr = w ∧ ((i = .int .i64 0 ∧ s = .int .i64 a) ∨ (i = .int .i64 1 ∧ s = .int .i64 (max a b)))) (fun _ i _ => 1 - (intOf i).toNat)
  case atStart => exact ⟨rfl, .inl ⟨rfl, rfl⟩⟩
  case round =>
    obtain ⟨rfl, ⟨rfl, rfl⟩ | ⟨rfl, rfl⟩⟩ := hrel
    · go_wp2
      go_roundw
      case rel =>
        refine ⟨trivial, .inr ⟨rfl, ?_⟩⟩
        congr 1
        first
          | rfl
          | (split <;> omega)
      case measure => simp [intOf]
    · go_wp2
      go_ret
      exact ⟨rfl, HBT.out⟩
set_option maxHeartbeats 400000 in
/-- Of a number and one other. -/
theorem least_any (a b : Int) (g off cap : Nat) (w : World) (hb : w.cell? ⟨g, off, none⟩ = some (.int .i64 b)) : Calls Try.prog 94 #[.int .i64 a, .slice (some ⟨g, off, none⟩) 1 cap] w fun e w' => e = .returned (.int .i64 (min a b)) ∧ Below w.heap.size w w' := by
  have HBT := Lib.hid (Below.refl w.heap.size w)
  have hw9 : IntKind.i64.wrap ((0 : Int) + 1) = 1 := by decide
  go_enter Try.func94, Try.ntmps94
  go_wp2
  go_loopw [0, 9] (fun s i wr => wr = w ∧ ((i = .int .i64 0 ∧ s = .int .i64 a) ∨ (i = .int .i64 1 ∧ s = .int .i64 (min a b)))) (fun _ i _ => 1 - (intOf i).toNat)
  case atStart => exact ⟨rfl, .inl ⟨rfl, rfl⟩⟩
  case round =>
    obtain ⟨rfl, ⟨rfl, rfl⟩ | ⟨rfl, rfl⟩⟩ := hrel
    · go_wp2
      go_roundw
      case rel =>
        refine ⟨trivial, .inr ⟨rfl, ?_⟩⟩
        congr 1
        first
          | rfl
          | (split <;> omega)
      case measure => simp [intOf]
    · go_wp2
      go_ret
      exact ⟨rfl, HBT.out⟩

set_option maxRecDepth 100000 in
set_option maxHeartbeats 1000000 in
theorem ends_any (fo fi : Nat) (f : Rg → Int) (m : Int → Int → Int) (r s : Rg) (g : Nat) (w : World)
    (heo : ∀ args w, (callFunc fo args).run Try.prog w = .ok (.enter fo args) w) (hei : ∀ args w, (callFunc fi args).run Try.prog w = .ok (.enter fi args) w)
    (hfo : ∀ r w, Calls Try.prog fo #[.agg #[.int .i64 r.lo, .int .i64 r.hi]] w fun e w' => e = .returned (.int .i64 (f r)) ∧ Below w.heap.size w w')
    (hfi : ∀ (a b : Int) (g off cap : Nat) (w : World), w.cell? ⟨g, off, none⟩ = some (.int .i64 b) → Calls Try.prog fi #[.int .i64 a, .slice (some ⟨g, off, none⟩) 1 cap] w fun e w' => e = .returned (.int .i64 (m a b)) ∧ Below w.heap.size w w')
    (hg : w.heap[g]? = some (.cells #[.int .i64 r.lo, .int .i64 r.hi, .int .i64 s.lo, .int .i64 s.hi] 46 (0, 0))) :
    Calls Try.prog 84 #[.agg #[.func (.func fo) #[] #[], .func (.func fi) #[] #[]], .slice (some ⟨g, 0, none⟩) 2 2] w fun e w' => e = .returned (.int .i64 (m (f r) (f s))) ∧ Below w.heap.size w w' := by
  have HX := Lib.hid (heap_alloc_new w (.cells #[.func (.func fo) #[] #[], .func (.func fi) #[] #[]] 125))
  have HB := Lib.hid (box_below w (.cells #[.func (.func fo) #[] #[], .func (.func fi) #[] #[]] 125))
  have HG := Lib.hid hg
  have HFO := Lib.hid hfo
  have HFI := Lib.hid hfi
  have hgl := lt_of_block hg
  clear hg hfo hfi
  go_enter Try.func84, Try.ntmps84
  go_wp2
  generalize World.alloc w _ = W at *
  go_loopw [5, 10] (fun x i wr => ∃ q : Nat, q ≤ 2 ∧ i = .int .i64 q ∧ Hid (wr.ownsRow (w.heap.size + 1) 3 1 x q (([f r, f s].take q).map iV)) ∧ Hid (wr.heap[w.heap.size]? = some (.cells #[.func (.func fo) #[] #[], .func (.func fi) #[] #[]] 125 (0, 0))) ∧ Hid (Below w.heap.size w wr)) (fun _ i _ => 2 - (intOf i).toNat)
  case atStart => exact ⟨0, by decide, rfl, Lib.hid (World.ownsRow_nil _ _ _ _), HX, HB⟩
  case round =>
    clear HX HB
    obtain ⟨q, hq, rfl, HO, HX, HB⟩ := hrel
    have hgr := (HB.out.block g hgl).trans HG.out
    have e0 := cell_of_row wr w.heap.size 0 _ _ _ HX.out
    have e1 := cell_of_row wr w.heap.size 1 _ _ _ HX.out
    simp only [List.getElem?_toArray, List.getElem?_cons_zero, List.getElem?_cons_succ] at e0 e1
    have le := lt_of_block HX.out
    match q, hq with
    | 0, _ =>
      have k0 := cell_of_row wr g 0 _ _ _ hgr
      have k1 := cell_of_row wr g 1 _ _ _ hgr
      simp only [List.getElem?_toArray, List.getElem?_cons_zero, List.getElem?_cons_succ] at k0 k1
      have lk := lt_of_block hgr
      clear hgr
      go_wp2_with fail
      have hbx := box_below wr (.cells #[.int .i64 r.lo, .int .i64 r.hi] 46)
      have HO1 := Lib.hid (row_kept HO.out hbx)
      have HX1 := Lib.hid ((hbx.block _ (lt_of_block HX.out)).trans HX.out)
      have HB1 := Lib.hid (below_to HB.out hbx)
      clear hbx HO HX HB e0 e1 le k0 k1 lk
      generalize World.alloc wr _ = W1 at *
      refine (HFO.out r W1).mono ?_
      rintro e W2 ⟨rfl, hb⟩
      replace HO1 := Lib.hid (row_kept HO1.out hb)
      replace HX1 := Lib.hid ((hb.block _ (lt_of_block HX1.out)).trans HX1.out)
      replace HB1 := Lib.hid (below_to HB1.out hb)
      have hl := lt_of_block HX1.out
      clear hb
      go_wp2_with (first
        | (refine wpList_app el23 rfl (.tmp 14) (.tmp 19) rfl (w.heap.size + 1) 0 _ _ #[.int .i64 (f r)] rfl (by intro u hu; simp at hu; rcases hu with rfl; rfl) rfl rfl HO1.out hl (by omega) ?_
           intro g2 c2 w2 hown hgr2 _
           have HO2 := Lib.hid hown
           have HX2 := Lib.hid ((hgr2.below.block w.heap.size (by omega)).trans HX1.out)
           have HB2 := Lib.hid (HB1.out.trans (hgr2.below.mono (by omega)))
           clear hown hgr2)
        | fail)
      go_roundw
      case rel => exact ⟨1, by decide, rfl, Lib.hid (by simpa [iV] using HO2.out), HX2, HB2⟩
      case measure => simp [intOf]
    | 1, _ =>
      have k0 := cell_of_row wr g 2 _ _ _ hgr
      have k1 := cell_of_row wr g 3 _ _ _ hgr
      simp only [List.getElem?_toArray, List.getElem?_cons_zero, List.getElem?_cons_succ] at k0 k1
      have lk := lt_of_block hgr
      clear hgr
      go_wp2_with fail
      have hbx := box_below wr (.cells #[.int .i64 s.lo, .int .i64 s.hi] 46)
      have HO1 := Lib.hid (row_kept HO.out hbx)
      have HX1 := Lib.hid ((hbx.block _ (lt_of_block HX.out)).trans HX.out)
      have HB1 := Lib.hid (below_to HB.out hbx)
      clear hbx HO HX HB e0 e1 le k0 k1 lk
      generalize World.alloc wr _ = W1 at *
      refine (HFO.out s W1).mono ?_
      rintro e W2 ⟨rfl, hb⟩
      replace HO1 := Lib.hid (row_kept HO1.out hb)
      replace HX1 := Lib.hid ((hb.block _ (lt_of_block HX1.out)).trans HX1.out)
      replace HB1 := Lib.hid (below_to HB1.out hb)
      have hl := lt_of_block HX1.out
      clear hb
      go_wp2_with (first
        | (refine wpList_app el23 rfl (.tmp 14) (.tmp 19) rfl (w.heap.size + 1) 1 _ _ #[.int .i64 (f s)] rfl (by intro u hu; simp at hu; rcases hu with rfl; rfl) rfl rfl HO1.out hl (by omega) ?_
           intro g2 c2 w2 hown hgr2 _
           have HO2 := Lib.hid hown
           have HX2 := Lib.hid ((hgr2.below.block w.heap.size (by omega)).trans HX1.out)
           have HB2 := Lib.hid (HB1.out.trans (hgr2.below.mono (by omega)))
           clear hown hgr2)
        | fail)
      go_roundw
      case rel => exact ⟨2, by decide, rfl, Lib.hid (by simpa [iV] using HO2.out), HX2, HB2⟩
      case measure => simp [intOf]
    | 2, _ =>
      obtain ⟨b, cap, rfl, hb0, hbl, hcc⟩ := own_get HO.out (by decide)
      have hcap : 2 ≤ cap := by
        rcases HO.out.2 with ⟨hv, h0⟩ | ⟨g', c', cur, hv, _, _, hn, _⟩
        · cases hv
        · cases hv; exact hn
      have m0 := hcc 0 (by decide)
      have m1 := hcc 1 (by decide)
      simp only [List.take, List.map_cons, List.map_nil, iV, List.getElem?_cons_zero, List.getElem?_cons_succ] at m0 m1
      have g0 := cell_regrown m0
      have g1 := cell_regrown m1
      have ge1 := cell_regrown e1
      have hc1 : (1 : Int) ≤ cap := by omega
      have hc2 : (2 : Int) ≤ cap := by omega
      have hc3 : ¬ cap = 1 := by omega
      have hc4 : ¬ (cap : Int) = 1 := by omega
      clear hcc hgr m0 m1 e0 e1
      go_wp2
      refine wp_region_quiet_below (by kernel_rfl) (by kernel_rfl) ?_
      repeat (quiet_step (first | with_reducible exact Calls.regrown_of (HFI.out _ _ _ _ _ _ (g1 _ _))))
      refine wpQuiet_nil ?_
      intro _ hw'
      obtain ⟨⟨dq, osq⟩, hw''⟩ := hw'
      subst hw''
      go_wp2
      go_ret
      exact ⟨rfl, below_to HB.out (below_regrown wr dq osq)⟩

end Go.Proofs.Ytpdkgnfblnblbaa
