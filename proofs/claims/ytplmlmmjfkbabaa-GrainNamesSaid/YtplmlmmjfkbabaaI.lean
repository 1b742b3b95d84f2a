/- Distances cut by a bound: contract. Conditions: the bound is between places that there are, and nothing is great. -/
import Derived.Test.YtplmlmmjfkbabaaH
import Derived.Test.YtplmlmmjfkbabaaYY
import Derived.Test.YtplmlmmjfkbabaaC
namespace Go.Proofs.Ytplmlmmjfkbabaa
open Go.RowKit Go.Shelf

def partD (d : Dm) (f t : Nat) (x : Int) (i j : Nat) : Dm := fun a b => if a < i ∨ (a = i ∧ b < j) then cutD d f t x a b else d a b
theorem part_zero (d : Dm) (f t : Nat) (x : Int) : EqD d (partD d f t x 0 0) := fun a b _ _ => by simp [partD]
theorem part_set (d : Dm) (f t : Nat) (x : Int) (i j : Nat) : EqD (updD (partD d f t x i j) i j (cutD d f t x i j)) (partD d f t x i (j + 1)) := fun a b _ _ => by
  unfold updD partD
  by_cases h : a = i ∧ b = j
  · obtain ⟨rfl, rfl⟩ := h
    simp
  · rw [if_neg h]
    have : (a < i ∨ a = i ∧ b < j) ↔ (a < i ∨ a = i ∧ b < j + 1) := by omega
    simp only [this]
theorem part_row (d : Dm) (f t : Nat) (x : Int) (i : Nat) : EqD (partD d f t x i 9) (partD d f t x (i + 1) 0) := fun a b _ hb => by
  unfold partD
  have : (a < i ∨ a = i ∧ b < 9) ↔ (a < i + 1 ∨ a = i + 1 ∧ b < 0) := by omega
  simp only [this]
theorem part_all (d : Dm) (f t : Nat) (x : Int) : EqD (partD d f t x 9 0) (cutD d f t x) := fun a b ha _ => by
  unfold partD
  rw [if_pos (.inl ha)]
attribute [local irreducible] arrV wpQuiet mat

def SmallD (d : Dm) : Prop := ∀ i j, i < 9 → j < 9 → -1000 ≤ d i j ∧ d i j ≤ 1000

/-- What lies beside the distances that are cut. -/
structure Win (b0 B3 : Nat) (d : Dm) (f t lo hi : Int) (w W : World) : Prop where
  bd : W.heap[b0 + 1]? = some (.cells #[.int .i64 f, .int .i64 t, .int .i64 lo, .int .i64 hi] 119 (0, 0))
  bef : W.heap[B3]? = some (.cells (mat d) 83 (0, 0))
  res : ∃ z, W.heap[b0 + 1 + 1]? = some (.cells (mat z) 83 (0, 0))
  below : Below b0 w W
theorem Win.grow {b0 B3 : Nat} {d : Dm} {f t lo hi : Int} {w W W' : World} (h : Win b0 B3 d f t lo hi w W) (hb : Below W.heap.size W W') (h0 : b0 ≤ W.heap.size) : Win b0 B3 d f t lo hi w W' :=
  ⟨(hb.block _ (lt_of_block h.bd)).trans h.bd, (hb.block _ (lt_of_block h.bef)).trans h.bef, by obtain ⟨z, hz⟩ := h.res; exact ⟨z, (hb.block _ (lt_of_block hz)).trans hz⟩, h.below.trans (hb.mono h0)⟩
theorem Win.but {b0 B3 : Nat} {d : Dm} {f t lo hi : Int} {w W W' : World} (h : Win b0 B3 d f t lo hi w W) (hb : But (fun k => k = b0) W W') (h0 : b0 + 1 + 1 < B3) : Win b0 B3 d f t lo hi w W' :=
  ⟨(hb.block _ (lt_of_block h.bd) (by omega)).trans h.bd, (hb.block _ (lt_of_block h.bef) (by omega)).trans h.bef, by obtain ⟨z, hz⟩ := h.res; exact ⟨z, (hb.block _ (lt_of_block hz) (by omega)).trans hz⟩,
    ⟨hb.os.trans h.below.os, hb.tape.trans h.below.tape, hb.output.trans h.below.output, Nat.le_trans h.below.size hb.size, fun k hk => (hb.block k (Nat.lt_of_lt_of_le (show k < b0 from hk) (by have := lt_of_block h.bd; omega)) (by omega)).trans (h.below.block k hk)⟩⟩

set_option maxRecDepth 100000 in
set_option maxHeartbeats 4000000 in
theorem within_any (d : Dm) (f t lo hi : Int) (w : World) (hd : SmallD d) (hf : -1 ≤ f ∧ f < 8) (ht : -1 ≤ t ∧ t < 8) (hh : -100 ≤ hi ∧ hi ≤ 100) :
    Calls Try.prog 90 #[.agg (mat d), .agg #[.int .i64 f, .int .i64 t, .int .i64 lo, .int .i64 hi]] w fun e w' => e = .returned (.agg (mat (cutD d (pl f) (pl t) hi))) ∧ Below w.heap.size w w' := by
  have HX := Lib.hid (box3 w (.cells (mat d) 83) (.cells #[.int .i64 f, .int .i64 t, .int .i64 lo, .int .i64 hi] 119) (.cells Try.zeroCells83 83))
  have HB := Lib.hid (below3 w (.cells (mat d) 83) (.cells #[.int .i64 f, .int .i64 t, .int .i64 lo, .int .i64 hi] 119) (.cells Try.zeroCells83 83))
  have HSZ := Lib.hid (show w.heap.size + 1 + 1 < (((w.alloc (.cells (mat d) 83)).alloc (.cells #[.int .i64 f, .int .i64 t, .int .i64 lo, .int .i64 hi] 119)).alloc (.cells Try.zeroCells83 83)).heap.size by simp)
  have HPF := Lib.hid fun w => place_any f w (by omega)
  have HPT := Lib.hid fun w => place_any t w (by omega)
  have hpf : pl f < 9 := by unfold pl; omega
  have hpt : pl t < 9 := by unfold pl; omega
  have HP0 := Lib.hid (mat_ext (part_zero d (pl f) (pl t) hi))
  have HPR := Lib.hid fun i => mat_ext (part_row d (pl f) (pl t) hi i)
  have HP9 := Lib.hid (mat_ext (part_all d (pl f) (pl t) hi))
  have HPS := Lib.hid fun i j => mat_ext (part_set d (pl f) (pl t) hi i j)
  have HD := Lib.hid hd
  have HCU : Hid (∀ i j, cutD d (pl f) (pl t) hi i j = min (d i j) (d i (pl f) + hi + d (pl t) j)) := Lib.hid fun _ _ => rfl
  have HH := Lib.hid hh
  clear hd hf ht hh
  generalize pl f = F at *
  generalize pl t = T at *
  go_enter Try.func90, Try.ntmps90
  go_wp2_with (first
    | (refine wpList_load_mat rfl (.tmp 2) rfl w.heap.size rfl 83 d HX.out.1 ?_
       generalize World.alloc (World.alloc (World.alloc w _) _) _ = W at *)
    | (refine wpList_store_mat rfl (.tmp 5) (.tmp 9) rfl W.heap.size rfl d rfl 83 _ (by rw [zero83, mat_size]) (heap_alloc_new W _) ?_
       intro W2 hp2 hx2
       have hW := box_below W (.cells Try.zeroCells83 83)
       have x0 := (hp2.other w.heap.size (by have := HSZ.out; omega)).trans ((hW.block _ (lt_of_block HX.out.1)).trans HX.out.1)
       have x1 := (hp2.other (w.heap.size + 1) (by have := HSZ.out; omega)).trans ((hW.block _ (lt_of_block HX.out.2.1)).trans HX.out.2.1)
       have x2 := (hp2.other (w.heap.size + 1 + 1) (by have := HSZ.out; omega)).trans ((hW.block _ (lt_of_block HX.out.2.2)).trans HX.out.2.2)
       rw [zero83] at x2
       have hbw := hp2.below (below_to HB.out hW) (by have := HSZ.out; omega)
       have HWN : Hid (Win w.heap.size W.heap.size d f t lo hi w W2) := Lib.hid ⟨x1, hx2, ⟨_, x2⟩, hbw⟩
       have HD0 : Hid (W2.heap[w.heap.size]? = some (.cells (mat (partD d F T hi 0 0)) 83 (0, 0))) := Lib.hid (by rw [← HP0.out]; exact x0)
       clear hW x0 x1 x2 hbw hp2 hx2
       generalize W.heap.size = B3 at *
       clear HX HB)
    | fail)
  go_loopw [10] (fun v wr => ∃ i : Nat, i ≤ 9 ∧ v = .int .i64 i ∧ Hid (wr.heap[w.heap.size]? = some (.cells (mat (partD d F T hi i 0)) 83 (0, 0))) ∧ Hid (Win w.heap.size B3 d f t lo hi w wr)) (fun v _ => 9 - (intOf v).toNat)
  case atStart => exact ⟨0, by decide, rfl, HD0, HWN⟩
  case round =>
    clear HD0 HWN
    obtain ⟨i, hi9, rfl, HD0, HWN⟩ := hrel
    by_cases hli : i < 9
    · have hin : (i : Int) < 9 := by omega
      have hFn : (F : Int) < 9 := by omega
      have hTn : (T : Int) < 9 := by omega
      have hwi : IntKind.i64.wrap ((i : Int) + 1) = (i : Int) + 1 := IntWalk.i64_in _ (by omega)
      have hda := HD.out i F hli hpf
      have hhb := HH.out
      have hws : IntKind.i64.wrap (d i F + hi) = d i F + hi := IntWalk.i64_in _ (by omega)
      have HTS := Lib.hid (show -1100 ≤ d i F + hi ∧ d i F + hi ≤ 1100 by omega)
      clear hda hhb
      have hF := mat_get d hli hpf
      go_wp2
      have g1 := cell_regrown (cell_of_row wr (w.heap.size + 1) 0 _ _ _ HWN.out.bd)
      have g2 := cell_regrown (cell_of_row wr (w.heap.size + 1) 3 _ _ _ HWN.out.bd)
      have g3 := cell_regrown ((cell_of_row wr B3 (i * 9 + F) _ _ _ HWN.out.bef).trans hF)
      clear hF
      refine wp_region_quiet_below (by kernel_rfl) (by kernel_rfl) ?_
      repeat (quiet_step (first | with_reducible exact Calls.regrown_of (HPF.out _)))
      refine wpQuiet_nil ?_
      intro v1 hw'
      obtain ⟨⟨dq, osq⟩, hw''⟩ := hw'
      have hb := below_regrown wr dq osq
      rw [← hw''] at hb
      clear hw'' g1 g2 g3
      have hlt0 := lt_of_block HD0.out
      have HWN1 := Lib.hid (HWN.out.grow hb (by omega))
      have HD1 := Lib.hid ((hb.block _ hlt0).trans HD0.out)
      clear hb hlt0 HWN HD0
      go_wp2
      go_loopw [25] (fun v wr => ∃ j : Nat, j ≤ 9 ∧ v = .int .i64 j ∧ Hid (wr.heap[w.heap.size]? = some (.cells (mat (partD d F T hi i j)) 83 (0, 0))) ∧ Hid (Win w.heap.size B3 d f t lo hi w wr)) (fun v _ => 9 - (intOf v).toNat)
      case atStart => exact ⟨0, by decide, rfl, HD1, HWN1⟩
      case round =>
        clear HD1 HWN1
        obtain ⟨j, hj9, rfl, HD0, HWN⟩ := hrel
        by_cases hlj : j < 9
        · have hjn : (j : Int) < 9 := by omega
          have hwj : IntKind.i64.wrap ((j : Int) + 1) = (j : Int) + 1 := IntWalk.i64_in _ (by omega)
          have hda := HD.out T j hpt hlj
          have hts := HTS.out
          have hwt : IntKind.i64.wrap (d i F + hi + d T j) = d i F + hi + d T j := IntWalk.i64_in _ (by omega)
          clear hda hts
          have hszr := lt_of_block HWN.out.bef
          have hS3 := HSZ.out
          have HC : Hid (∀ w', But (fun k => k = w.heap.size) wr w' → w'.cell? ⟨w.heap.size + 1, 1, none⟩ = some (.int .i64 t) ∧ w'.cell? ⟨B3, i * 9 + j, none⟩ = some (.int .i64 (d i j)) ∧ w'.cell? ⟨B3, T * 9 + j, none⟩ = some (.int .i64 (d T j)) ∧ B3 < w'.heap.size ∧ w.heap.size + 1 < w'.heap.size) := Lib.hid fun w' hS => by
            have h := HWN.out.but hS hS3
            have l1 := lt_of_block h.bef
            exact ⟨cell_of_row w' (w.heap.size + 1) 1 _ _ _ h.bd, (cell_of_row w' B3 (i * 9 + j) _ _ _ h.bef).trans (mat_get d hli hlj), (cell_of_row w' B3 (T * 9 + j) _ _ _ h.bef).trans (mat_get d hpt hlj), l1, by omega⟩
          go_wp2
          refine wp_region_noPanic ?_
          refine wp_region_acts (fun w' => But (fun k => k = w.heap.size) wr w') (fun _ _ h hb => h.trans (But.of_below hb)) (But.of_below (below_drawn _)) (by kernel_rfl) (fun _ _ _ _ _ h => h)
            [.take 0, .take 1, .take 2, .take 3, .take 4, .take 5, .take 6, .take 7, .take 8, .take 9, .take 10, .take 12, .take 19, .call 11, .take 13, .take 14, .take 15, .take 16, .float 17, .join, .call 18] [20, 21] (by kernel_rfl) ?_
          iterate 13
            (refine GWalk.takes rfl rfl ?_; apply Exists.intro; refine ⟨fun w' hS => ?_, ?_⟩; (obtain ⟨z1, z2, z3, z4, z5⟩ := HC.out w' hS; clear hS; go_simp; with_reducible rfl); simp only [List.getElem_toArray, List.getElem_cons_succ, List.getElem_cons_zero, Act.put, List.setIfInBounds_toArray, List.set_cons_zero, List.set_cons_succ])
          refine GWalk.calls rfl rfl ?_; apply Exists.intro; apply Exists.intro; refine ⟨fun w' hS => ?_, fun v1 hb hS hO => ?_⟩; (clear hS; go_simp; exact ⟨rfl, rfl⟩)
          refine (HPT.out _).mono ?_
          rintro e v2 ⟨rfl, hb2⟩
          refine ⟨_, rfl, hb2, hS.trans (But.of_below hb2), ?_⟩
          simp only [List.getElem_toArray, List.getElem_cons_succ, List.getElem_cons_zero, Act.put, List.setIfInBounds_toArray, List.set_cons_zero, List.set_cons_succ]
          iterate 4
            (refine GWalk.takes rfl rfl ?_; apply Exists.intro; refine ⟨fun w' hS => ?_, ?_⟩; (obtain ⟨z1, z2, z3, z4, z5⟩ := HC.out w' hS; clear hS; go_simp; with_reducible rfl); simp only [List.getElem_toArray, List.getElem_cons_succ, List.getElem_cons_zero, Act.put, List.setIfInBounds_toArray, List.set_cons_zero, List.set_cons_succ])
          have hq2 := below_to (grow_to (below_drawn wr) hb) hb2
          clear hb hS hO hb2
          refine GWalk.floats (.cells #[.int .i64 (d i F + hi + d T j)] 3 (0, 0)) (fun b => .slice (some ⟨b, 0, none⟩) 1 1) rfl rfl rfl (fun w1 => exec_buildSlice 50 3 1 _ rfl el50.u #[.int .i64 (d i F + hi + d T j)] (by kernel_rfl)) ?_
          simp only [List.nil_append, List.cons_append]
          refine GWalk.joins fun v3 bJ hb hj1 hj2 hj3 hj4 => ?_
          simp only [List.getElem_toArray, List.getElem_cons_succ, List.getElem_cons_zero, Act.put, List.setIfInBounds_toArray, List.set_cons_zero, List.set_cons_succ]
          refine GWalk.calls rfl rfl ?_; apply Exists.intro; apply Exists.intro; refine ⟨fun w' hS => ?_, fun v4 hb4 hS hO => ?_⟩; (clear hS; go_simp; exact ⟨rfl, rfl⟩)
          refine (least_any (d i j) (d i F + hi + d T j) bJ 1 3 v4 ((hb4.block _ (lt_of_block hj4)).trans hj4)).mono ?_
          rintro e v5 ⟨rfl, hb5⟩
          refine ⟨_, rfl, hb5, hS.trans (But.of_below hb5), ?_⟩
          simp only [List.getElem_toArray, List.getElem_cons_succ, List.getElem_cons_zero, Act.put, List.setIfInBounds_toArray, List.set_cons_zero, List.set_cons_succ]
          have hq5 := below_to (below_to (below_to hq2 hb) hb4) hb5
          clear hb hj1 hj2 hj3 hj4 hb4 hS hO hb5 hq2
          refine GWalk.fin fun v6 hb6 hS6 => ?_
          have hq6 := below_to hq5 hb6
          clear hb6 hq5
          refine Tail.value rfl rfl (by go_simp; with_reducible rfl) ?_
          simp only [List.getElem_toArray, List.getElem_cons_succ, List.getElem_cons_zero, Act.put, List.setIfInBounds_toArray, List.set_cons_zero, List.set_cons_succ]
          have hx0 := (hq6.block _ (lt_of_block HD0.out)).trans HD0.out
          have hc6 := (cell_of_row v6 w.heap.size (i * 9 + j) _ _ _ hx0).trans (mat_get _ hli hlj)
          have hf6 := frozen_of_row v6 w.heap.size (i * 9 + j) _ _ hx0
          have hS7 : But (fun k => k = w.heap.size) wr (v6.setCell ⟨w.heap.size, i * 9 + j, none⟩ (.int .i64 (min (d i j) (d i F + hi + d T j)))) := hS6.trans (But.setCell _ _ rfl)
          have hx7 := set_one v6 w.heap.size 83 (partD d F T hi i j) hli hlj (cutD d F T hi i j) hx0
          rw [HPS.out, HCU.out] at hx7
          refine Tail.skip rfl rfl (exec_store_int 3 (.tmp 48) (.tmp 46) rfl rfl rfl hc6 hf6 (by kernel_rfl)) hS7 (Tail.done (NoPanic.normal ?_))
          simp only [List.getElem_toArray, List.getElem_cons_succ, List.getElem_cons_zero, Act.put, List.setIfInBounds_toArray, List.set_cons_zero, List.set_cons_succ]
          have HD7 := Lib.hid hx7
          have HWN7 := Lib.hid (HWN.out.but hS7 hS3)
          clear hx0 hc6 hf6 hS6 hq6 hx7 hS7 HD0 HWN HC
          generalize World.setCell v6 _ _ = v7 at *
          go_wp2
          go_roundw
          case rel => exact ⟨j + 1, by omega, by simp, HD7, HWN7⟩
          case measure => simp [intOf]; omega
        · obtain rfl : j = 9 := by omega
          rw [HPR.out] at HD0
          go_wp2
          go_roundw
          case rel => exact ⟨i + 1, by omega, by simp, HD0, HWN⟩
          case measure => simp [intOf]; omega
    · obtain rfl : i = 9 := by omega
      rw [HP9.out] at HD0
      obtain ⟨z, hz⟩ := HWN.out.res
      have hb := HWN.out.below
      go_wp2_with (first
        | (refine wpList_load_mat rfl (.tmp 2) rfl w.heap.size rfl 83 (cutD d F T hi) HD0.out ?_)
        | (refine wpList_store_mat rfl (.tmp 4) (.tmp 51) rfl (w.heap.size + 1 + 1) rfl (cutD d F T hi) rfl 83 (mat z) (mat_size z) hz ?_
           intro w2 hp2 hx2
           have HX2 := Lib.hid hx2
           have HB2 := Lib.hid (hp2.below hb (by omega))
           clear hp2 hx2)
        | fail)
      refine bodyPost_ret (v := .agg (mat (cutD d F T hi))) (results_mat rfl _ _ (w.heap.size + 1 + 1) 83 (cutD d F T hi) rfl HX2.out) rfl ⟨rfl, HB2.out⟩
end Go.Proofs.Ytplmlmmjfkbabaa
