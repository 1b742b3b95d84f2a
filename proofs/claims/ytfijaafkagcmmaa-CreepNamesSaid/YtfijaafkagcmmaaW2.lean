/- The ranges of rates that are allowed, and how many lists there are: the contract. Conditions: a valid room, some rates that are allowed. -/
import Derived.Test.YtfijaafkagcmmaaW3
namespace Go.Proofs.Ytfijaafkagcmmaa
open Go.RowKit Go.Shelf
attribute [local irreducible] arrV
attribute [local go_sem] Oper.semAt_some

theorem lists_len : ∀ (ms : List Rg) (l : Int), (∀ r, r ∈ ms → r.hi - r.lo ≤ 20) → (listsL ms l).length ≤ 21 ^ ms.length
  | [], l, _ => by simp [listsL]
  | r :: ms, l, h => by
    have hr := h r (by simp)
    simp only [listsL, List.length_flatMap, List.length_map, List.length_cons]
    have h1 : ∀ (k : List Int), (k.map fun a => (listsL ms a).length).sum ≤ k.length * 21 ^ ms.length := fun k => by
      induction k with
      | nil => simp
      | cons a k ih =>
        have := lists_len ms a (fun q hq => h q (by simp [hq]))
        simp only [List.map_cons, List.sum_cons, List.length_cons, Nat.add_mul, Nat.one_mul]
        omega
    refine Nat.le_trans (h1 _) ?_
    have h2 : (upFrom (max l r.lo) r.hi).length ≤ 21 := by
      simp only [upFrom, List.length_map, List.length_range]
      omega
    calc (upFrom (max l r.lo) r.hi).length * 21 ^ ms.length ≤ 21 * 21 ^ ms.length := Nat.mul_le_mul_right _ h2
      _ = 21 ^ (ms.length + 1) := by rw [Nat.pow_succ, Nat.mul_comm]
theorem okL_len {ms : List Rg} (rs : List Rn) (h : RgsOk ms) : (okL ms rs).length ≤ 9261 := by
  have h1 := lists_len ms 0 (fun r hr => (h.rg r hr).2.2.2)
  have h2 : (21 : Nat) ^ ms.length ≤ 21 ^ 3 := Nat.pow_le_pow_right (by decide) h.len
  have h3 := List.length_filter_le (allB rs) (allL ms)
  unfold okL allL at *
  omega

set_option maxRecDepth 100000 in
set_option maxHeartbeats 8000000 in
theorem ranges_any (n : Nat) (mv rv : Value) (ms : List Rg) (rs : List Rn) (w : World) (hK : RoomOk ms rs) (hV : RoomV n w mv rv ms rs) (hne : okL ms rs ≠ []) :
    Calls Try.prog 60 #[.agg #[mv, rv]] w fun e w' => (∃ v, e = .returned (.tuple #[v, .int .i64 (okL ms rs).length]) ∧ w'.ownsRow w.heap.size 50 2 v (rangesL (okL ms rs) ms.length).length (flatR (rangesL (okL ms rs) ms.length))) ∧ Below w.heap.size w w' := by
  have hn := hV.lt
  have hlen := hK.mat.len
  have hpos := hK.mat.one
  have HLEN := Lib.hid (okL_len rs hK.mat.toRgsOk)
  have HAL := Lib.hid fun w' (h : Below w.heap.size w w') => allowed_any n mv rv ms rs w' hK (hV.below h)
  obtain ⟨am, capm, rfl, -⟩ := hV.m
  obtain ⟨ar, capr, rfl, -⟩ := hV.r
  obtain ⟨W3, hW3⟩ : ∃ W3, ((w.alloc (.cells #[.slice am ms.length capm, .slice ar rs.length capr] 100)).alloc (.cells #[.slice none 0 0] 31)).alloc (.cells #[.int .i64 0] 3) = W3 := ⟨_, rfl⟩
  obtain ⟨y0, y1, y2⟩ := box3 w (.cells #[.slice am ms.length capm, .slice ar rs.length capr] 100) (.cells #[.slice none 0 0] 31) (.cells #[.int .i64 0] 3)
  have hb3 := below3 w (.cells #[.slice am ms.length capm, .slice ar rs.length capr] 100) (.cells #[.slice none 0 0] 31) (.cells #[.int .i64 0] 3)
  have hs3 : W3.heap.size = w.heap.size + 3 := by rw [← hW3]; simp
  rw [hW3] at y0 y1 y2 hb3
  have c0 := cell_of_row W3 w.heap.size 0 _ _ _ y0
  have c1 := cell_of_row W3 w.heap.size 1 _ _ _ y0
  simp at c0 c1
  have Y0 := Lib.hid y0
  have Y1 := Lib.hid y1
  have Y2 := Lib.hid y2
  have HB3 := Lib.hid hb3
  have HS3 := Lib.hid hs3
  clear y0 y1 y2 hb3 hs3
  refine (callsIn_wide (n := 0)).1 ?_
  refine callsIn_of_wp_marks Try.func60 rfl trivial ?_ rfl
  simp only [Try.ntmps60, List.size_toArray, List.length_cons, List.length_nil, Nat.reduceAdd, Nat.reduceSub, Array.replicate_succ, Array.replicate_zero, List.push_toArray, List.append_toArray, List.nil_append, List.cons_append]
  gi_wp2_with fail
  refine ⟨trivial, rfl, ?_⟩
  refine (callsIn_wide.2 (HAL.out W3 HB3.out)).mono ?_
  rintro e w1 ⟨Bo, rfl, hb1, hm1, hm2, hseq⟩
  have hs1 := hb1.size
  have Z0 := Lib.hid ((hb1.block _ (lt_of_block Y0.out)).trans Y0.out)
  have Z1 := Lib.hid ((hb1.block _ (lt_of_block Y1.out)).trans Y1.out)
  have Z2 := Lib.hid ((hb1.block _ (lt_of_block Y2.out)).trans Y2.out)
  have HB1 := Lib.hid (below_to HB3.out hb1)
  have HSEQ := Lib.hid hseq
  have hsz : w.heap.size + 3 ≤ w1.heap.size := by have := HS3.out; omega
  clear hb1 hseq c0 c1 hW3 hs1
  gi_wp2
  refine wp_rangeD rfl (fun _ _ => rfl) HSEQ.out (Below.refl _ w1) (fun _ => rfl) (fun k => k = w.heap.size + 1 ∨ k = w.heap.size + 1 + 1) ?t0 ?hc
    (fun T pre A => Rngs w ms.length T pre A)
    (fun c T pre A => False)
    ?ir (fun _ _ _ _ _ h => h.elim) ?h0
    (fun t a' A => ∃ Bx, w1.heap.size + 2 ≤ Bx ∧ A.heap[Bx]? = some (.cells (arrV (pad3 t)) 105 (0, 0)) ∧ a' = { tmps := #[.agg #[.slice am ms.length capm, .slice ar rs.length capr], .pointer (some ⟨w.heap.size, 0, none⟩), .pointer (some ⟨w.heap.size + 1, 0, none⟩), .pointer (some ⟨w.heap.size + 1 + 1, 0, none⟩), .pointer (some ⟨Bx, 0, none⟩), undef, .agg #[.slice am ms.length capm, .slice ar rs.length capr], .func (.func 104) #[] #[.pointer (some ⟨Bo, 0, none⟩)], .agg (arrV (pad3 t)), undef, undef, undef, undef, undef, undef, undef, undef, undef, undef, undef, undef, undef, undef, undef, undef, undef, undef, undef, undef, undef, undef, undef, undef, undef, undef, undef, undef, undef, undef, undef, undef, undef, undef, undef, undef, undef, undef, undef, undef, undef, undef, undef, undef, undef, undef], defers := [] })
    ?ax ?assign ?body ?done (fun _ _ _ _ _ h => h.elim)
  case t0 =>
    have := HS3.out
    rintro k (rfl | rfl)
    · exact ⟨by omega, fun h => by rcases h with h | h <;> omega⟩
    · exact ⟨by omega, fun h => by rcases h with h | h <;> omega⟩
  case hc =>
    intro k hk
    rcases hk with h | h <;> omega
  case ir => exact fun T s A B h hR => h.free hR
  case h0 => exact ⟨.inl rfl, .inr rfl, Z2.out, .slice none 0 0, Z1.out, World.ownsRow_nil _ _ _ _, fun g hg => by simp [Value.ownBlock] at hg⟩
  case ax =>
    rintro t a' A o ⟨Bx, h1, h2, h3⟩
    exact ⟨Bx, h1, (World.putObj_heap_other (by omega)).trans h2, h3⟩
  case assign =>
    rintro l2 t A ht hA
    have hp3 := pad3_len (x := t) (by have := len_of (mem_okL.1 ht).1; omega)
    have hlz : (arrV (pad3 t)).size = 3 := by rw [arrV_size, hp3]
    have HLZ := Lib.hid hlz
    have hs105 : Hid ((Try.prog.info? 105).map (·.size) = some (arrV (pad3 t)).size) := s105.trans (by rw [hlz])
    clear hlz hp3
    have hact : (#[8].zip (encX t)) = #[(8, Value.agg (arrV (pad3 t)))] := by simp [encX]
    rw [hact]
    simp only [List.foldl_toArray, Array.foldl_toList, List.foldl_cons, List.foldl_nil, List.setIfInBounds_toArray, List.set_cons_succ, List.set_cons_zero]
    gi_wp2_with (first
      | (refine wpListIn_store_gen rfl 105 (.tmp 4) (.tmp 8) rfl _ 0 (arrV (pad3 t)) rfl rfl (there_block (heap_alloc_new _ _) (by rw [HLZ.out]; exact Nat.le_refl _)) (by exact hs105.out) (arrV_one _) ?_
         intro w2 hw2
         have hbx2 : Below A.heap.size A w2 := by rw [hw2]; exact below_cells (Nat.le_refl _) _ 0 _ ((Below.refl _ A).alloc (Nat.le_refl _) _)
         have hSb : w2.heap[A.heap.size]? = some (.cells (arrV (pad3 t)) 105 (0, 0)) := by rw [hw2]; exact set_whole A.heap.size 105 _ _ _ (by rw [HLZ.out]; rfl) (heap_alloc_new A _)
         clear hw2)
      | fail)
    exact ⟨⟨A.heap.size, by omega, hSb, rfl⟩, hbx2⟩
  case body =>
    rintro l2 T pre t a' A ht hSp hI hOf hb hs2 ⟨Bx, hBx, hx, rfl⟩
    have hpl : (pre.length : Int) < 9261 := by
      have h1 := List.IsPrefix.length_le hSp
      have := HLEN.out
      simp at h1
      omega
    have hdis : ¬ withLoop (fun k => k = w.heap.size + 1 ∨ k = w.heap.size + 1 + 1) w1.heap.size w.heap.size := fun h => by
      rcases h with (h | h) | h | h <;> omega
    have k0 := (hb.block _ (by omega) hdis).trans Z0.out
    have hp3 := pad3_len (x := t) (by have := len_of (mem_okL.1 ht).1; omega)
    have hB0 : Hid (Band w ms.length T pre t Bx (.cells #[.slice am ms.length capm, .slice ar rs.length capr] 100 (0, 0)) A 0 A) := by
      obtain ⟨v, h1, h2, h3⟩ := hI.v
      refine Lib.hid ⟨But.refl _ _, k0, hx, hI.m, v, h1, ?_, fun g hg => .inl (h3 g hg)⟩
      rw [mixL_zero]
      exact h2
    have r0 := cell_of_row A w.heap.size 0 _ _ _ k0
    simp at r0
    have HI := Lib.hid hI
    have HOF := Lib.hid hOf
    have hsA := hb.size
    clear hI hOf hb hdis k0 hx hSp
    gi_wp2
    gi_loopw [13] (fun v wr => ∃ b : Nat, b ≤ ms.length ∧ v = .int .i64 b ∧ Hid (Band w ms.length T pre t Bx (.cells #[.slice am ms.length capm, .slice ar rs.length capr] 100 (0, 0)) A b wr)) (fun v _ => ms.length - (intOf v).toNat)
    case atStart => exact ⟨0, Nat.zero_le _, rfl, hB0⟩
    case round =>
      obtain ⟨b, hbl, rfl, hBd⟩ := hrel
      by_cases hlt : b < ms.length
      · have hb3 : (b : Int) < 3 := by omega
        have hbI : (b : Int) < ms.length := by omega
        have hw9 : IntKind.i64.wrap ((b : Int) + 1) = (b : Int) + 1 := IntWalk.i64_in _ (by omega)
        have hxb := (cell_of_row wr Bx b _ _ _ hBd.out.x).trans (arrV_get (pad3 t) b (by omega))
        have hrt : ld (pad3 t) b = rt t (b : Int) := by rw [← pad3_rt]; rfl
        rw [hrt] at hxb
        clear hrt
        by_cases hpre : pre = []
        · subst hpre
          obtain ⟨v, hv, hown, hvT⟩ := hBd.out.v
          have hlm : (mixL [] t ms.length b).length = b := by rw [mixL_len (by omega)]; simp
          rw [hlm] at hown
          have m0 := cell_of_row wr (w.heap.size + 1 + 1) 0 _ _ _ hBd.out.m
          have v0 := cell_of_row wr (w.heap.size + 1) 0 _ _ _ hv
          simp at m0 v0
          have HOWN := Lib.hid hown
          have HVT := Lib.hid hvT
          have HV1 := Lib.hid hv
          have HT1 := Lib.hid HI.out.t1
          clear hv hown hvT
          gi_wp2
          refine wpIn_region_noPanic ?_
          refine wpIn_region_fork_round (fun w1 => w1.cell? ⟨Bx, b, none⟩ = some (.int .i64 (rt t (b : Int)))) (fun ⟨_, _, h⟩ => h) hxb (by kernel_rfl) (fun _ _ _ _ _ h => h)
            [(false, 1), (false, 2), (false, 3), (false, 4), (false, 5), (false, 6), (false, 7)] 0 8 [8, 9, 10] [0, 9, 10] (by kernel_rfl) ?_
          iterate 7
            (refine Walk.takes rfl rfl ?_; apply Exists.intro; refine ⟨fun w1 hS => ?_, ?_⟩; (have e1 := hS; go_simp; with_reducible rfl); simp only [List.getElem_toArray, List.getElem_cons_succ, List.getElem_cons_zero, Act.put, List.setIfInBounds_toArray, List.set_cons_zero, List.set_cons_succ])
          refine Walk.fin ?_
          rintro w4 hb4 -
          have hb5 : Below wr.heap.size wr w4 := (below_drawn wr).trans hb4
          have hsw := hb5.size
          have hsz3 : w.heap.size + 3 ≤ w4.heap.size := by have := hBd.out.but.size; omega
          have hxb4 := (hb5.cell (p := ⟨Bx, b, none⟩) (block_lt_of_cell hxb)).trans hxb
          have hv04 := (hb5.cell (p := ⟨w.heap.size + 1, 0, none⟩) (block_lt_of_cell v0)).trans v0
          have own4 := HOWN.out.kept (w' := w4) (row := none) ⟨hb5.os, hb5.tape, hb5.output, hb5.size, fun k hk _ => hb5.block k hk⟩ (Classical.em _)
          have hbn4 := box_below w4 (.cells #[.int .i64 (rt t (b : Int)), .int .i64 (rt t (b : Int))] 50 (0, 0))
          have hxb5 := (hbn4.cell (p := ⟨Bx, b, none⟩) (block_lt_of_cell hxb4)).trans hxb4
          have hv05 := (hbn4.cell (p := ⟨w.heap.size + 1, 0, none⟩) (block_lt_of_cell hv04)).trans hv04
          have hgrow : ∀ w5 : World, Grew (w.heap.size + 3) w4 w5 v → w5.heap[w.heap.size + 1]? = some (.cells #[v] 31 (0, 0)) ∧ w5.cell? ⟨Bx, b, none⟩ = some (.int .i64 (rt t (b : Int))) := fun w5 hg5 => by
            refine ⟨(hg5.below.block _ (by omega)).trans ((hb5.block _ (lt_of_block HV1.out)).trans HV1.out), ?_⟩
            have h1 := (hg5.block Bx (by have := lt_of_block hBd.out.x; omega) (fun e => row_ne HOWN.out hBd.out.x e rfl)).trans ((hb5.block _ (lt_of_block hBd.out.x)).trans hBd.out.x)
            exact (cell_of_row w5 Bx b _ _ _ h1).trans ((cell_of_row wr Bx b _ _ _ hBd.out.x).symm.trans hxb)
          have HGR := Lib.hid hgrow
          clear hgrow
          refine ⟨?_, ?_⟩
          · refine Tail.value rfl rfl (by go_simp; with_reducible rfl) ?_
            simp only [List.getElem_toArray, List.getElem_cons_succ, List.getElem_cons_zero, Act.put, List.setIfInBounds_toArray, List.set_cons_zero, List.set_cons_succ]
            refine Tail.grows rfl rfl (exec_buildSlice 31 50 1 _ rfl el31.u #[.int .i64 (rt t (b : Int)), .int .i64 (rt t (b : Int))] (by kernel_rfl)) hxb5 ?_
            simp only [List.getElem_toArray, List.getElem_cons_succ, List.getElem_cons_zero, Act.put, List.setIfInBounds_toArray, List.set_cons_zero, List.set_cons_succ]
            refine Tail.app el31 rfl rfl (.tmp 18) (.tmp 26) rfl (w.heap.size + 3) b v (flatR (mixL [] t ms.length b)) #[.int .i64 (rt t (b : Int)), .int .i64 (rt t (b : Int))] rfl (by intro u hu; simp at hu; subst hu; rfl) rfl rfl own4 hsz3 (by omega) ?_
            rintro g c5 w5 own5 hg5 hgv
            obtain ⟨hv5, hxb6⟩ := HGR.out w5 hg5
            refine ⟨hxb6, ?_⟩
            simp only [List.getElem_toArray, List.getElem_cons_succ, List.getElem_cons_zero, Act.put, List.setIfInBounds_toArray, List.set_cons_zero, List.set_cons_succ]
            have c5c := cell_of_row w5 (w.heap.size + 1) 0 _ _ _ hv5
            have f5c := frozen_of_row w5 (w.heap.size + 1) 0 _ _ hv5
            have l5c := lt_of_block hv5
            simp at c5c
            have hU := hBd.out.first HT1.out HV1.out HOWN.out HVT.out hb5 hg5 hsz3 own5 hgv
            refine Tail.skip rfl rfl (by go_simp; with_reducible rfl) ?_ ?_
            · exact (World.cell?_of_block (heap_setCell_other w5 ⟨w.heap.size + 1, 0, none⟩ Bx _ (fun e => by
                have h1 := hBd.out.x
                rw [show Bx = w.heap.size + 1 from e] at h1
                have := HV1.out.symm.trans h1
                simp at this))).trans hxb6
            refine Tail.done ?_
            simp only [List.getElem_toArray, List.getElem_cons_succ, List.getElem_cons_zero, Act.put, List.setIfInBounds_toArray, List.set_cons_zero, List.set_cons_succ]
            have hb2 : b < (mixL [] t ms.length (b + 1)).length := by rw [mixL_len (by omega)]; simp
            have hrg := (mixL_first_rg t ms.length b).1
            have hsetL := (mixL_first_rg t ms.length b).2
            clear own5 hg5 hgv hv5 hxb6 c5c f5c l5c own4 hxb4 hv04 hxb5 hv05 hbn4 hb5 hb4 v0 m0 hxb
            have HU := Lib.hid hU
            have hLL := hb2
            obtain ⟨u0, p1, p2, fr1, fr2, lg⟩ := hU.cells hb2
            have hxbU := (cell_of_row _ Bx b _ _ _ hU.x).trans (arrV_get (pad3 t) b (by omega))
            have hrtU : ld (pad3 t) b = rt t (b : Int) := by rw [← pad3_rt]; rfl
            rw [hrtU] at hxbU
            rw [hrg] at p1 p2
            have HSET := Lib.hid hsetL
            have hbLI : (b : Int) < (mixL [] t ms.length (b + 1)).length := by omega
            clear hU hrtU hrg hsetL
            generalize hWU : World.setCell w5 _ _ = WU at *
            clear hWU
            gi_wp2
            refine wpIn_region_only ?_
            refine wpIn_region_still_tail_round 22 (fun ⟨_, _, h⟩ => h) (by kernel_rfl) (by kernel_rfl) ?_
            simp only [List.take_succ_cons, List.take_zero, List.drop_succ_cons, List.drop_zero]
            repeat still_step
            try refine wpStill_nil ?_
            change wpList _ _ _ _ _ WU.drew
            have hdr : Below WU.heap.size WU WU.drew := below_drawn WU
            have q1 : WU.drew.cell? ⟨g, b * 2, none⟩ = _ := p1
            have q2 : WU.drew.cell? ⟨g, b * 2 + 1, none⟩ = _ := p2
            have qf1 : WU.drew.frozen? ⟨g, b * 2, none⟩ = false := fr1
            have qf2 : WU.drew.frozen? ⟨g, b * 2 + 1, none⟩ = false := fr2
            have qlg : g < WU.drew.heap.size := lg
            have HDR := Lib.hid hdr
            clear p1 p2 fr1 fr2 lg hxbU u0 hdr
            generalize WU.drew = w8 at *
            go_wp2
            gi_wp2
            go_roundw
            case rel => exact ⟨b + 1, by omega, by simp, Lib.hid (HU.out.set hb2 HDR.out _ HSET.out)⟩
            case measure => simp [intOf]; omega
          · refine Tail.grows rfl rfl (exec_buildSlice 31 50 1 _ rfl el31.u #[.int .i64 (rt t (b : Int)), .int .i64 (rt t (b : Int))] (by kernel_rfl)) hxb5 ?_
            simp only [List.getElem_toArray, List.getElem_cons_succ, List.getElem_cons_zero, Act.put, List.setIfInBounds_toArray, List.set_cons_zero, List.set_cons_succ]
            refine Tail.value rfl rfl (by go_simp; with_reducible rfl) ?_
            simp only [List.getElem_toArray, List.getElem_cons_succ, List.getElem_cons_zero, Act.put, List.setIfInBounds_toArray, List.set_cons_zero, List.set_cons_succ]
            refine Tail.app el31 rfl rfl (.tmp 18) (.tmp 26) rfl (w.heap.size + 3) b v (flatR (mixL [] t ms.length b)) #[.int .i64 (rt t (b : Int)), .int .i64 (rt t (b : Int))] rfl (by intro u hu; simp at hu; subst hu; rfl) rfl rfl own4 hsz3 (by omega) ?_
            rintro g c5 w5 own5 hg5 hgv
            obtain ⟨hv5, hxb6⟩ := HGR.out w5 hg5
            refine ⟨hxb6, ?_⟩
            simp only [List.getElem_toArray, List.getElem_cons_succ, List.getElem_cons_zero, Act.put, List.setIfInBounds_toArray, List.set_cons_zero, List.set_cons_succ]
            have c5c := cell_of_row w5 (w.heap.size + 1) 0 _ _ _ hv5
            have f5c := frozen_of_row w5 (w.heap.size + 1) 0 _ _ hv5
            have l5c := lt_of_block hv5
            simp at c5c
            have hU := hBd.out.first HT1.out HV1.out HOWN.out HVT.out hb5 hg5 hsz3 own5 hgv
            refine Tail.skip rfl rfl (by go_simp; with_reducible rfl) ?_ ?_
            · exact (World.cell?_of_block (heap_setCell_other w5 ⟨w.heap.size + 1, 0, none⟩ Bx _ (fun e => by
                have h1 := hBd.out.x
                rw [show Bx = w.heap.size + 1 from e] at h1
                have := HV1.out.symm.trans h1
                simp at this))).trans hxb6
            refine Tail.done ?_
            simp only [List.getElem_toArray, List.getElem_cons_succ, List.getElem_cons_zero, Act.put, List.setIfInBounds_toArray, List.set_cons_zero, List.set_cons_succ]
            have hb2 : b < (mixL [] t ms.length (b + 1)).length := by rw [mixL_len (by omega)]; simp
            have hrg := (mixL_first_rg t ms.length b).1
            have hsetL := (mixL_first_rg t ms.length b).2
            clear own5 hg5 hgv hv5 hxb6 c5c f5c l5c own4 hxb4 hv04 hxb5 hv05 hbn4 hb5 hb4 v0 m0 hxb
            have HU := Lib.hid hU
            have hLL := hb2
            obtain ⟨u0, p1, p2, fr1, fr2, lg⟩ := hU.cells hb2
            have hxbU := (cell_of_row _ Bx b _ _ _ hU.x).trans (arrV_get (pad3 t) b (by omega))
            have hrtU : ld (pad3 t) b = rt t (b : Int) := by rw [← pad3_rt]; rfl
            rw [hrtU] at hxbU
            rw [hrg] at p1 p2
            have HSET := Lib.hid hsetL
            have hbLI : (b : Int) < (mixL [] t ms.length (b + 1)).length := by omega
            clear hU hrtU hrg hsetL
            generalize hWU : World.setCell w5 _ _ = WU at *
            clear hWU
            gi_wp2
            refine wpIn_region_only ?_
            refine wpIn_region_still_tail_round 22 (fun ⟨_, _, h⟩ => h) (by kernel_rfl) (by kernel_rfl) ?_
            simp only [List.take_succ_cons, List.take_zero, List.drop_succ_cons, List.drop_zero]
            repeat still_step
            try refine wpStill_nil ?_
            change wpList _ _ _ _ _ WU.drew
            have hdr : Below WU.heap.size WU WU.drew := below_drawn WU
            have q1 : WU.drew.cell? ⟨g, b * 2, none⟩ = _ := p1
            have q2 : WU.drew.cell? ⟨g, b * 2 + 1, none⟩ = _ := p2
            have qf1 : WU.drew.frozen? ⟨g, b * 2, none⟩ = false := fr1
            have qf2 : WU.drew.frozen? ⟨g, b * 2 + 1, none⟩ = false := fr2
            have qlg : g < WU.drew.heap.size := lg
            have HDR := Lib.hid hdr
            clear p1 p2 fr1 fr2 lg hxbU u0 hdr
            generalize WU.drew = w8 at *
            go_wp2
            gi_wp2
            go_roundw
            case rel => exact ⟨b + 1, by omega, by simp, Lib.hid (HU.out.set hb2 HDR.out _ HSET.out)⟩
            case measure => simp [intOf]; omega
        · obtain ⟨g, cap, hU⟩ := hBd.out.next hpre hlt
          have m0 := cell_of_row wr (w.heap.size + 1 + 1) 0 _ _ _ hBd.out.m
          simp at m0
          have hpl0 : ((pre.length : Int) == 0) = false := by
            rw [beq_eq_false_iff_ne]
            intro e
            exact hpre (List.length_eq_zero_iff.1 (by omega))
          have hb2 : b < (mixL pre t ms.length b).length := by rw [mixL_len (by omega), if_neg hpre]; omega
          obtain ⟨hrg, hsetL⟩ := mixL_next hpre t hlt
          clear hxb
          have HU := Lib.hid hU
          have hLL := hb2
          obtain ⟨u0, p1, p2, fr1, fr2, lg⟩ := hU.cells hb2
          have hxbU := (cell_of_row _ Bx b _ _ _ hU.x).trans (arrV_get (pad3 t) b (by omega))
          have hrtU : ld (pad3 t) b = rt t (b : Int) := by rw [← pad3_rt]; rfl
          rw [hrtU] at hxbU
          rw [hrg] at p1 p2
          have HSET := Lib.hid hsetL
          have hbLI : (b : Int) < (mixL pre t ms.length b).length := by omega
          clear hU hrtU hrg hsetL
          obtain ⟨WU, rfl⟩ : ∃ WU, WU = wr := ⟨_, rfl⟩
          gi_wp2
          refine wpIn_region_only ?_
          refine wpIn_region_still_tail_round 22 (fun ⟨_, _, h⟩ => h) (by kernel_rfl) (by kernel_rfl) ?_
          simp only [List.take_succ_cons, List.take_zero, List.drop_succ_cons, List.drop_zero]
          repeat still_step
          try refine wpStill_nil ?_
          change wpList _ _ _ _ _ WU.drew
          have hdr : Below WU.heap.size WU WU.drew := below_drawn WU
          have q1 : WU.drew.cell? ⟨g, b * 2, none⟩ = _ := p1
          have q2 : WU.drew.cell? ⟨g, b * 2 + 1, none⟩ = _ := p2
          have qf1 : WU.drew.frozen? ⟨g, b * 2, none⟩ = false := fr1
          have qf2 : WU.drew.frozen? ⟨g, b * 2 + 1, none⟩ = false := fr2
          have qlg : g < WU.drew.heap.size := lg
          have HDR := Lib.hid hdr
          clear p1 p2 fr1 fr2 lg hxbU u0 hdr
          generalize WU.drew = w8 at *
          go_wp2
          gi_wp2
          go_roundw
          case rel => exact ⟨b + 1, by omega, by simp, Lib.hid (HU.out.set hb2 HDR.out _ HSET.out)⟩
          case measure => simp [intOf]; omega
      · obtain rfl : b = ms.length := by omega
        have hfin := Lib.hid (hBd.out.done HI.out.t1 HI.out.t2)
        have m0 := cell_of_row wr (w.heap.size + 1 + 1) 0 _ _ _ hBd.out.m
        have fm := frozen_of_row wr (w.heap.size + 1 + 1) 0 _ _ hBd.out.m
        have lm := lt_of_block hBd.out.m
        simp at m0
        have hwm : IntKind.i64.wrap ((pre.length : Int) + 1) = (pre.length : Int) + 1 := IntWalk.i64_in _ (by omega)
        gi_wp2
        exact hfin.out
  case done =>
    rintro T xs A rfl hI hOf hb n0 n1 hKd
    obtain ⟨v, hv, hown, hvT⟩ := hI.v
    rw [if_neg hne] at hown
    have m0 := cell_of_row A (w.heap.size + 1 + 1) 0 _ _ _ hI.m
    have fm := frozen_of_row A (w.heap.size + 1 + 1) 0 _ _ hI.m
    have v0 := cell_of_row A (w.heap.size + 1) 0 _ _ _ hv
    have fv := frozen_of_row A (w.heap.size + 1) 0 _ _ hv
    have lm := lt_of_block hI.m
    have lv := lt_of_block hv
    simp at m0 v0
    have hBA : Below w.heap.size w A := ⟨hb.os.trans HB1.out.os, hb.tape.trans HB1.out.tape, hb.output.trans HB1.out.output, Nat.le_trans HB1.out.size hb.size, fun k hk => (hb.block k (by omega) (fun h => by rcases h with (h | h) | h | h <;> omega)).trans (HB1.out.block k hk)⟩
    have HBA := Lib.hid hBA
    have HOWN := Lib.hid hown
    have HV1 := Lib.hid hv
    have HM1 := Lib.hid hI.m
    have HKD := Lib.hid hKd
    have HVN : Hid (∀ g, v.ownBlock = some g → g ≠ w1.heap.size) := Lib.hid fun g hg e => n0 (e ▸ hvT g hg)
    obtain ⟨g, cap, rfl, hbg, hlg, -⟩ := own_head hown (by rw [rangesL_len]; omega)
    have hvg := HVN.out g rfl
    clear hBA hown hv hvT hKd hI hb
    gi_wp2
    refine wpIn_wide.2 ?_
    have hs2 : w.heap.size + 3 ≤ A.heap.size := by have := HBA.out.size; omega
    refine wp_region_noPanic ?_
    refine wp_region_chain (fun w1 => w1.cell? ⟨w.heap.size + 1, 0, none⟩ = some (.slice (some ⟨g, 0, none⟩) (rangesL (okL ms rs) ms.length).length cap) ∧ w1.cell? ⟨w.heap.size + 1 + 1, 0, none⟩ = some (.int .i64 (okL ms rs).length))
      (fun w1 w2 h hb => ⟨(hb.cell (p := ⟨w.heap.size + 1, 0, none⟩) (block_lt_of_cell h.1)).trans h.1, (hb.cell (p := ⟨w.heap.size + 1 + 1, 0, none⟩) (block_lt_of_cell h.2)).trans h.2⟩) ⟨v0, m0⟩ (by kernel_rfl) (fun _ _ _ _ _ h => h)
      [(false, 0), (false, 1)] [2, 3] (by kernel_rfl) ?_
    iterate 2
      (refine Walk.takes rfl rfl ?_; apply Exists.intro; refine ⟨fun w1 hS => ?_, ?_⟩; (obtain ⟨e1, e2⟩ := hS; go_simp; with_reducible rfl); simp only [List.getElem_toArray, List.getElem_cons_succ, List.getElem_cons_zero, Act.put, List.setIfInBounds_toArray, List.set_cons_zero, List.set_cons_succ])
    refine Walk.fin ?_
    rintro w4 hb4 -
    have hb5 : Below A.heap.size A w4 := (below_drawn A).trans hb4
    have K1 := (hb5.block _ (lt_of_block HV1.out)).trans HV1.out
    have K2 := (hb5.block _ (lt_of_block HM1.out)).trans HM1.out
    have KD := Lib.hid ((hb5.block _ (lt_of_block HKD.out)).trans HKD.out)
    have HB5 := Lib.hid (below_to HBA.out hb5)
    have own5 := own_same HOWN.out (W' := w4) (fun k hk => hb5.block k (own_lt HOWN.out hk).2)
    have HO5 := Lib.hid own5
    have k1 := cell_of_row w4 (w.heap.size + 1) 0 _ _ _ K1
    have k2 := cell_of_row w4 (w.heap.size + 1 + 1) 0 _ _ _ K2
    have kf1 := frozen_of_row w4 (w.heap.size + 1) 0 _ _ K1
    have kf2 := frozen_of_row w4 (w.heap.size + 1 + 1) 0 _ _ K2
    have kl1 := lt_of_block K1
    have kl2 := lt_of_block K2
    simp at k1 k2
    have X1 := heap_setCell_same w4 (w.heap.size + 1) 0 _ 31 (.slice (some ⟨g, 0, none⟩) (rangesL (okL ms rs) ms.length).length cap) K1
    have X2 := (heap_setCell_other w4 ⟨w.heap.size + 1, 0, none⟩ (w.heap.size + 1 + 1) (.slice (some ⟨g, 0, none⟩) (rangesL (okL ms rs) ms.length).length cap) (by show w.heap.size + 1 + 1 ≠ w.heap.size + 1; omega)).trans K2
    refine Tail.skip rfl rfl (by go_simp) ⟨cell_of_row _ _ 0 _ _ _ X1, cell_of_row _ _ 0 _ _ _ X2⟩ ?_
    simp only [List.getElem_toArray, List.getElem_cons_succ, List.getElem_cons_zero, Act.put, List.setIfInBounds_toArray, List.set_cons_zero, List.set_cons_succ]
    have x2 := cell_of_row _ (w.heap.size + 1 + 1) 0 _ _ _ X2
    have xf2 := frozen_of_row _ (w.heap.size + 1 + 1) 0 _ _ X2
    have xl2 := lt_of_block X2
    simp at x2
    have Y2 := heap_setCell_same _ (w.heap.size + 1 + 1) 0 _ 3 (.int .i64 (okL ms rs).length) X2
    have Y1 := (heap_setCell_other (w4.setCell ⟨w.heap.size + 1, 0, none⟩ (.slice (some ⟨g, 0, none⟩) (rangesL (okL ms rs) ms.length).length cap)) ⟨w.heap.size + 1 + 1, 0, none⟩ (w.heap.size + 1) (.int .i64 (okL ms rs).length) (by show w.heap.size + 1 ≠ w.heap.size + 1 + 1; omega)).trans X1
    have oth : Hid (∀ k, k ≠ w.heap.size + 1 → k ≠ w.heap.size + 1 + 1 → ((w4.setCell ⟨w.heap.size + 1, 0, none⟩ (.slice (some ⟨g, 0, none⟩) (rangesL (okL ms rs) ms.length).length cap)).setCell ⟨w.heap.size + 1 + 1, 0, none⟩ (.int .i64 (okL ms rs).length)).heap[k]? = w4.heap[k]?) := Lib.hid fun k h1 h2 =>
      (heap_setCell_other _ ⟨w.heap.size + 1 + 1, 0, none⟩ k _ h2).trans (heap_setCell_other _ ⟨w.heap.size + 1, 0, none⟩ k _ h1)
    have hbz : Hid (Below w.heap.size w ((w4.setCell ⟨w.heap.size + 1, 0, none⟩ (.slice (some ⟨g, 0, none⟩) (rangesL (okL ms rs) ms.length).length cap)).setCell ⟨w.heap.size + 1 + 1, 0, none⟩ (.int .i64 (okL ms rs).length))) := Lib.hid ((HB5.out.setCell (p := ⟨w.heap.size + 1, 0, none⟩) (by show w.heap.size ≤ w.heap.size + 1; omega) _).setCell (p := ⟨w.heap.size + 1 + 1, 0, none⟩) (by show w.heap.size ≤ w.heap.size + 1 + 1; omega) _)
    refine Tail.skip rfl rfl (by go_simp) ⟨cell_of_row _ _ 0 _ _ _ Y1, cell_of_row _ _ 0 _ _ _ Y2⟩ ?_
    simp only [List.getElem_toArray, List.getElem_cons_succ, List.getElem_cons_zero, Act.put, List.setIfInBounds_toArray, List.set_cons_zero, List.set_cons_succ]
    refine Tail.done (NoPanic.normal ?_)
    have YY1 := Lib.hid Y1
    have YY2 := Lib.hid Y2
    clear hb4 hb5 K1 K2 own5 k1 k2 kf1 kf2 kl1 kl2 X1 X2 x2 xf2 xl2 Y1 Y2 m0 v0 fm fv lm lv
    generalize World.setCell (World.setCell w4 _ _) _ _ = w9 at *
    gi_wp2
    have oD := oth.out w1.heap.size (by omega) (by omega)
    have z1 := (World.putObj_heap_other (w := w9) (r := w1.heap.size) (o := .deferred none) (k := w.heap.size + 1) (by omega)).trans YY1.out
    have z2 := (World.putObj_heap_other (w := w9) (r := w1.heap.size) (o := .deferred none) (k := w.heap.size + 1 + 1) (by omega)).trans YY2.out
    have zc1 := cell_of_row _ (w.heap.size + 1) 0 _ _ _ z1
    have zc2 := cell_of_row _ (w.heap.size + 1 + 1) 0 _ _ _ z2
    simp at zc1 zc2
    have ownZ := own_same HO5.out (W' := w9.putObj w1.heap.size (.deferred none)) (fun k hk => by
      have e : g = k := by simpa [Value.ownBlock] using hk
      subst e
      exact (World.putObj_heap_other hvg).trans (oth.out g (by omega) (by omega)))
    have HR := Lib.hid (ownsRow_mono (show w.heap.size ≤ w.heap.size + 3 by omega) ownZ)
    refine ⟨by simp, .inl ⟨_, _, rfl, run_takeDeferred (oD.trans KD.out), ?_⟩⟩
    refine ⟨.tuple #[.slice (some ⟨g, 0, none⟩) (rangesL (okL ms rs) ms.length).length cap, .int .i64 (okL ms rs).length], ?_, ⟨_, rfl, HR.out⟩, ⟨hbz.out.os, hbz.out.tape, hbz.out.output, by simpa using hbz.out.size, fun k hk => (World.putObj_heap_other (by omega)).trans (hbz.out.block k hk)⟩⟩
    simp [results, Try.results60, go_sem, *]
end Go.Proofs.Ytfijaafkagcmmaa
