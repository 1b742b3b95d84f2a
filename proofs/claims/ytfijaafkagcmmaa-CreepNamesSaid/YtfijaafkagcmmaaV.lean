/- Allowed rates for which one end of a plan's stretch is farthest out: its contract. Conditions: a valid room and plan, some rates that are allowed. -/
import Derived.Test.YtfijaafkagcmmaaP
import Derived.Test.YtfijaafkagcmmaaT
namespace Go.Proofs.Ytfijaafkagcmmaa
open Go.RowKit Go.Shelf
attribute [local irreducible] arrV wpQuiet
attribute [local go_sem] Oper.semAt_some

def endS (high : Bool) (plan : List Sg) (x : List Int) : Int := if high then hiS plan x else loS plan x
def farB (high : Bool) (a b : Int) : Bool := if high then decide (b < a) else decide (a < b)
/-- No rates of the list are farther out. -/
def Far (high : Bool) (plan : List Sg) (L : List (List Int)) (x : List Int) : Prop := x ∈ L ∧ ∀ y, y ∈ L → farB high (endS high plan y) (endS high plan x) = false
theorem Far.snoc_no {high : Bool} {plan : List Sg} {L : List (List Int)} {x t : List Int} (h : Far high plan L x) (hf : farB high (endS high plan t) (endS high plan x) = false) : Far high plan (L ++ [t]) x := by
  refine ⟨by simp [h.1], fun y hy => ?_⟩
  rcases List.mem_append.1 hy with hy | hy
  · exact h.2 y hy
  · obtain rfl : y = t := by simpa using hy
    exact hf
theorem Far.snoc_yes {high : Bool} {plan : List Sg} {L : List (List Int)} {x t : List Int} (h : Far high plan L x) (hf : farB high (endS high plan t) (endS high plan x) = true) : Far high plan (L ++ [t]) t := by
  refine ⟨by simp, fun y hy => ?_⟩
  rcases List.mem_append.1 hy with hy | hy
  · have := h.2 y hy
    cases high <;> simp [farB, endS] at this hf ⊢ <;> omega
  · obtain rfl : y = t := by simpa using hy
    cases high <;> simp [farB]
theorem Far.one (high : Bool) (plan : List Sg) (t : List Int) : Far high plan [t] t := by
  refine ⟨by simp, fun y hy => ?_⟩
  obtain rfl : y = t := by simpa using hy
  cases high <;> simp [farB]
theorem far_lo {plan : List Sg} {L : List (List Int)} {x : List Int} (h : Far false plan L x) : loS plan x = (stretchL L plan).lo := by
  refine (leastL_eq (List.mem_map_of_mem h.1) fun b hb => ?_).symm
  obtain ⟨y, hy, rfl⟩ := List.mem_map.1 hb
  have := h.2 y hy
  simpa [farB, endS] using this
theorem far_hi {plan : List Sg} {L : List (List Int)} {x : List Int} (h : Far true plan L x) : hiS plan x = (stretchL L plan).hi := by
  refine (greatL_eq (List.mem_map_of_mem h.1) fun b hb => ?_).symm
  obtain ⟨y, hy, rfl⟩ := List.mem_map.1 hb
  have := h.2 y hy
  simpa [farB, endS] using this

theorem box6 (w : World) (A B C D E F : Obj) (W : World) (hW : (((((w.alloc A).alloc B).alloc C).alloc D).alloc E).alloc F = W) :
    W.heap[w.heap.size]? = some A ∧ W.heap[w.heap.size + 1]? = some B ∧ W.heap[w.heap.size + 1 + 1]? = some C ∧ W.heap[w.heap.size + 1 + 1 + 1]? = some D ∧ W.heap[w.heap.size + 1 + 1 + 1 + 1]? = some E ∧ W.heap[w.heap.size + 1 + 1 + 1 + 1 + 1]? = some F ∧ Below w.heap.size w W ∧ W.heap.size = w.heap.size + 6 := by
  obtain ⟨a0, a1, a2⟩ := box3 w A B C
  have ha := below3 w A B C
  obtain ⟨W3, hW3⟩ : ∃ W3, ((w.alloc A).alloc B).alloc C = W3 := ⟨_, rfl⟩
  rw [hW3] at a0 a1 a2 ha hW
  obtain ⟨b0, b1, b2⟩ := box3 W3 D E F
  have hb := below3 W3 D E F
  rw [hW] at b0 b1 b2 hb
  have hs : W3.heap.size = w.heap.size + 1 + 1 + 1 := by rw [← hW3]; simp
  have hs2 : W.heap.size = w.heap.size + 6 := by rw [← hW, ← hW3]; simp
  rw [hs] at b0 b1 b2
  exact ⟨(hb.block _ (lt_of_block a0)).trans a0, (hb.block _ (lt_of_block a1)).trans a1, (hb.block _ (lt_of_block a2)).trans a2, b0, b1, b2, below_to ha hb, hs2⟩

theorem But.setCells {T : Nat → Prop} {b : Nat} (hb : T b) : ∀ (vs : List Value) (o : Nat) (W : World), But T W (W.setCells b o vs)
  | [], _, W => But.refl T W
  | v :: r, o, W => (But.setCell W (j := o) v hb).trans (But.setCells hb r (o + 1) _)
/-- The functions of an end. -/
def endF (high : Bool) : Nat := if high then 82 else 84
def farF (high : Bool) : Nat := if high then 83 else 85
theorem endV_eq (high : Bool) : endV high = .agg #[.func (.func (endF high)) #[] #[], .func (.func (farF high)) #[] #[]] := by cases high <;> rfl
theorem end_any (high : Bool) (lo hi : Int) (w : World) : Calls Try.prog (endF high) #[.agg #[.int .i64 lo, .int .i64 hi]] w fun e w' => e = .returned (.int .i64 (if high then hi else lo)) ∧ Below w.heap.size w w' := by
  cases high
  · exact low_any lo hi w
  · exact high_any lo hi w
theorem far_any (high : Bool) (a b : Int) (w : World) : Calls Try.prog (farF high) #[.int .i64 a, .int .i64 b] w fun e w' => e = .returned (.bool (farB high a b)) ∧ Below w.heap.size w w' := by
  cases high
  · exact belowN_any a b w
  · exact above_any a b w

/-- What is kept between two rounds. -/
structure Best (w : World) (high : Bool) (ss : List Sg) (ms : List Rg) (rs : List Rn) (T : Nat → Prop) (pre : List (List Int)) (A : World) : Prop where
  t4 : T (w.heap.size + 1 + 1 + 1 + 1)
  t5 : T (w.heap.size + 1 + 1 + 1 + 1 + 1)
  ex : ∃ z x, A.heap[w.heap.size + 1 + 1 + 1 + 1]? = some (.cells (arrV (pad3 x)) 105 (0, 0)) ∧ A.heap[w.heap.size + 1 + 1 + 1 + 1 + 1]? = some (.cells #[.bool z] 4 (0, 0)) ∧ (z = true → pre = [] ∧ x = []) ∧ (z = false → Far high ss pre x ∧ x ∈ okL ms rs)

set_option maxRecDepth 100000 in
set_option maxHeartbeats 4000000 in
theorem reaching_any (n : Nat) (high : Bool) (mv rv pv : Value) (ms : List Rg) (rs : List Rn) (ss : List Sg) (w : World) (hK : RoomOk ms rs) (hV : RoomV n w mv rv ms rs) (hP : PlanOk ms.length ss) (hPV : SegsV n w pv ss) (hne : okL ms rs ≠ []) :
    Calls Try.prog 63 #[.agg #[mv, rv], pv, endV high] w fun e w' => (∃ x, e = .returned (.agg (arrV (pad3 x))) ∧ Far high ss (okL ms rs) x) ∧ Below w.heap.size w w' := by
  have hn := hV.lt
  have hlen := hK.mat.len
  have HAL := Lib.hid fun w' (h : Below w.heap.size w w') => allowed_any n mv rv ms rs w' hK (hV.below h)
  obtain ⟨am, capm, rfl, -⟩ := hV.m
  obtain ⟨ar, capr, rfl, -⟩ := hV.r
  have HPV := Lib.hid hPV
  obtain ⟨ap, capp, rfl, -⟩ := hPV
  rw [endV_eq]
  have HEA := Lib.hid (end_any high)
  have HFA := Lib.hid (far_any high)
  have hec : ∀ args w, (callFunc (endF high) args).run Try.prog w = .ok (.enter (endF high) args) w := by cases high <;> exact fun _ _ => rfl
  have hfc : ∀ args w, (callFunc (farF high) args).run Try.prog w = .ok (.enter (farF high) args) w := by cases high <;> exact fun _ _ => rfl
  have hz : (#[.int .i64 0, .int .i64 0, .int .i64 0] : Array Value) = arrV [0, 0, 0] := by simp [arrV, iV]
  obtain ⟨W6, hW6⟩ : ∃ W6, (((((w.alloc (.cells #[.slice am ms.length capm, .slice ar rs.length capr] 100)).alloc (.cells #[.slice ap ss.length capp] 55)).alloc (.cells #[.func (.func (endF high)) #[] #[], .func (.func (farF high)) #[] #[]] 116)).alloc (.cells (arrV [0, 0, 0]) 105)).alloc (.cells (arrV [0, 0, 0]) 105)).alloc (.cells #[.bool true] 4) = W6 := ⟨_, rfl⟩
  obtain ⟨y0, y1, y2, y3, y4, y5, hb6, hs6⟩ := box6 w _ _ _ _ _ _ W6 hW6
  have c0 := cell_of_row W6 w.heap.size 0 _ _ _ y0
  have c1 := cell_of_row W6 w.heap.size 1 _ _ _ y0
  simp at c0 c1
  have Y1 := Lib.hid y1
  have Y2 := Lib.hid y2
  have Y3 := Lib.hid y3
  have Y4 := Lib.hid y4
  have Y5 := Lib.hid y5
  have HB6 := Lib.hid hb6
  have HS6 := Lib.hid hs6
  clear y0 y1 y2 y3 y4 y5 hb6 hs6
  refine (callsIn_wide (n := 0)).1 ?_
  refine callsIn_of_wp_marks Try.func63 rfl trivial ?_ rfl
  simp only [Try.ntmps63, List.size_toArray, List.length_cons, List.length_nil, Nat.reduceAdd, Nat.reduceSub, Array.replicate_succ, Array.replicate_zero, List.push_toArray, List.append_toArray, List.nil_append, List.cons_append]
  gi_wp2_with fail
  refine ⟨trivial, rfl, ?_⟩
  refine (callsIn_wide.2 (HAL.out W6 HB6.out)).mono ?_
  rintro e w1 ⟨Bo, rfl, hb1, hm1, hm2, hseq⟩
  have hs1 := hb1.size
  have Z1 := Lib.hid ((hb1.block _ (lt_of_block Y1.out)).trans Y1.out)
  have Z2 := Lib.hid ((hb1.block _ (lt_of_block Y2.out)).trans Y2.out)
  have Z3 := Lib.hid ((hb1.block _ (lt_of_block Y3.out)).trans Y3.out)
  have Z4 := Lib.hid ((hb1.block _ (lt_of_block Y4.out)).trans Y4.out)
  have Z5 := Lib.hid ((hb1.block _ (lt_of_block Y5.out)).trans Y5.out)
  have HB1 := Lib.hid (below_to HB6.out hb1)
  have HSEQ := Lib.hid hseq
  have hsz : w.heap.size + 6 ≤ w1.heap.size := by have := HS6.out; omega
  clear hb1 hseq c0 c1 hW6 hs1 hz
  gi_wp2
  refine wp_rangeD rfl (fun _ _ => rfl) HSEQ.out (Below.refl _ w1) (fun _ => rfl) (fun k => k = w.heap.size + 1 + 1 + 1 + 1 ∨ k = w.heap.size + 1 + 1 + 1 + 1 + 1) ?t0 ?hc
    (fun T pre A => Best w high ss ms rs T pre A)
    (fun c T pre A => False)
    ?ir (fun _ _ _ _ _ h => h.elim) ?h0
    (fun t a' A => ∃ Bx, w1.heap.size + 2 ≤ Bx ∧ A.heap[Bx]? = some (.cells (arrV (pad3 t)) 105 (0, 0)) ∧ a' = { tmps := #[.agg #[.slice am ms.length capm, .slice ar rs.length capr], .slice ap ss.length capp, .agg #[.func (.func (endF high)) #[] #[], .func (.func (farF high)) #[] #[]], .pointer (some ⟨w.heap.size, 0, none⟩), .pointer (some ⟨w.heap.size + 1, 0, none⟩), .pointer (some ⟨w.heap.size + 1 + 1, 0, none⟩), .pointer (some ⟨w.heap.size + 1 + 1 + 1, 0, none⟩), .pointer (some ⟨w.heap.size + 1 + 1 + 1 + 1, 0, none⟩), .pointer (some ⟨w.heap.size + 1 + 1 + 1 + 1 + 1, 0, none⟩), .pointer (some ⟨Bx, 0, none⟩), .agg #[.slice am ms.length capm, .slice ar rs.length capr], .func (.func 104) #[] #[.pointer (some ⟨Bo, 0, none⟩)], .agg (arrV (pad3 t)), undef, undef, undef, undef, undef, undef, undef, undef, undef, undef, undef, undef, undef, undef, undef, undef, undef, undef, undef, undef], defers := [] })
    ?ax ?assign ?body ?done (fun _ _ _ _ _ h => h.elim)
  case t0 =>
    have := HS6.out
    rintro k (rfl | rfl)
    · exact ⟨by omega, fun h => by rcases h with h | h <;> omega⟩
    · exact ⟨by omega, fun h => by rcases h with h | h <;> omega⟩
  case hc =>
    intro k hk
    rcases hk with h | h <;> omega
  case ir =>
    rintro T s A B ⟨h1, h2, z, x, h3, h4, h5⟩ hR
    exact ⟨h1, h2, z, x, (hR.2 _ h1).trans h3, (hR.2 _ h2).trans h4, h5⟩
  case h0 => exact ⟨.inl rfl, .inr rfl, true, [], Z4.out, Z5.out, (fun _ => ⟨rfl, rfl⟩), (fun h => by cases h)⟩
  case ax =>
    rintro t a' A o ⟨Bx, h1, h2, h3⟩
    exact ⟨Bx, h1, (World.putObj_heap_other (by omega)).trans h2, h3⟩
  case assign =>
    rintro l2 t A ht hA
    have hp3 := pad3_len (x := t) (by have := len_of (mem_okL.1 ht).1; omega)
    have hlz : (arrV (pad3 t)).size = 3 := by rw [arrV_size, hp3]
    have HLZ := Lib.hid hlz
    have hs105 : Hid ((Try.prog.info? 105).map (·.size) = some (arrV (pad3 t)).size) := s105.trans (by rw [hlz])
    clear hlz hp3
    have hact : (#[12].zip (encX t)) = #[(12, Value.agg (arrV (pad3 t)))] := by simp [encX]
    rw [hact]
    simp only [List.foldl_toArray, Array.foldl_toList, List.foldl_cons, List.foldl_nil, List.setIfInBounds_toArray, List.set_cons_succ, List.set_cons_zero]
    gi_wp2_with (first
      | (refine wpListIn_store_gen rfl 105 (.tmp 9) (.tmp 12) rfl _ 0 (arrV (pad3 t)) rfl rfl (there_block (heap_alloc_new _ _) (by rw [HLZ.out]; exact Nat.le_refl _)) (by exact hs105.out) (arrV_one _) ?_
         intro w2 hw2
         have hbx2 : Below A.heap.size A w2 := by rw [hw2]; exact below_cells (Nat.le_refl _) _ 0 _ ((Below.refl _ A).alloc (Nat.le_refl _) _)
         have hSb : w2.heap[A.heap.size]? = some (.cells (arrV (pad3 t)) 105 (0, 0)) := by rw [hw2]; exact set_whole A.heap.size 105 _ _ _ (by rw [HLZ.out]; rfl) (heap_alloc_new A _)
         clear hw2)
      | fail)
    exact ⟨⟨A.heap.size, by omega, hSb, rfl⟩, hbx2⟩
  case body =>
    rintro l2 T pre t a' A ht - ⟨h1, h2, z, x, h3, h4, h5, h6⟩ hOf hb hs2 ⟨Bx, hBx, hx, rfl⟩
    have hdis : ∀ k, k < w.heap.size + 1 + 1 + 1 + 1 → ¬ withLoop (fun k => k = w.heap.size + 1 + 1 + 1 + 1 ∨ k = w.heap.size + 1 + 1 + 1 + 1 + 1) w1.heap.size k := fun k hk h => by
      rcases h with (h | h) | h | h <;> omega
    have k1 := (hb.block _ (by omega) (hdis (w.heap.size + 1) (by omega))).trans Z1.out
    have k2 := (hb.block _ (by omega) (hdis (w.heap.size + 1 + 1) (by omega))).trans Z2.out
    have hSA : Same n w A := fun k hk => (hb.block k (by omega) (hdis k (by omega))).trans (HB1.out.block k (by omega))
    have hp3 := pad3_len (x := t) (by have := len_of (mem_okL.1 ht).1; omega)
    have hRt := pad3_rates (ok_rates hK.mat ht)
    have hsxt : (Try.prog.info? 105).map (·.size) = some ((pad3 t).map iV).length := s105.trans (by rw [List.length_map, hp3])
    have hnA : n ≤ A.heap.size := by have := hb.size; omega
    have f5 := frozen_of_row A (w.heap.size + 1 + 1 + 1 + 1 + 1) 0 _ _ h4
    have l5 := lt_of_block h4
    cases z with
    | true =>
      obtain ⟨rfl, rfl⟩ := h5 rfl
      have d5 := cell_of_row A (w.heap.size + 1 + 1 + 1 + 1 + 1) 0 _ _ _ h4
      simp at d5
      have H1 := Lib.hid h1
      have H2 := Lib.hid h2
      have H3 := Lib.hid h3
      have H4 := Lib.hid h4
      have HXX := Lib.hid hx
      clear h1 h2 h3 h4 h5 h6 hx k1 k2 hSA hdis hb
      gi_wp2
      have g5 := cell_regrown d5
      clear d5
      refine wpIn_region_noPanic ?_
      refine wpIn_region_below_round (fun ⟨_, _, h⟩ => h) (by kernel_rfl) (by kernel_rfl) ?_
      repeat (quiet_step (fail))
      refine wpQuiet_nil ?_
      intro _ hw'
      obtain ⟨⟨dq, osq⟩, hw''⟩ := hw'
      subst hw''
      have hbr := below_regrown A dq osq
      have K3 := Lib.hid ((hbr.block _ (lt_of_block H3.out)).trans H3.out)
      have K4 := Lib.hid ((hbr.block _ (lt_of_block H4.out)).trans H4.out)
      have KX := Lib.hid ((hbr.block _ (lt_of_block HXX.out)).trans HXX.out)
      have HBR := Lib.hid hbr
      clear hbr g5 f5 l5
      generalize Sort.grow (redrawn A dq) osq = A2 at *
      have hrgx := range_block (t := 105) (l := (pad3 t).map iV) (by rw [arr_list']; exact KX.out)
      have hs105 : Hid ((Try.prog.info? 105).map (·.size) = some (arrV (pad3 t)).size) := s105.trans (by rw [arrV_size, hp3])
      have HP3 := Lib.hid hp3
      clear hp3
      gi_wp2_with (first
        | (refine wpListIn_load_row rfl 105 (.tmp 9) rfl Bx 0 rfl ((pad3 t).map iV) (.array 3 3) (by exact hrgx) u105 rfl (by exact hsxt) (arrV (pad3 t)) (arr_list' _) ?_)
        | (refine wpListIn_store_gen rfl 105 (.tmp 7) (.tmp 31) rfl (w.heap.size + 1 + 1 + 1 + 1) 0 (arrV (pad3 t)) rfl rfl (there_block K3.out (by rw [arrV_size, arrV_size, HP3.out, pad3_len (by simp)]; exact Nat.le_refl _)) (by exact hs105.out) (arrV_one _) ?_
           intro w2 hw2
           have hbt2 : But T A2 w2 := by rw [hw2]; exact But.setCells H1.out _ 0 _
           have q4 : w2.heap[w.heap.size + 1 + 1 + 1 + 1]? = some (.cells (arrV (pad3 t)) 105 (0, 0)) := by rw [hw2]; exact set_whole _ 105 _ _ _ (by rw [arrV_size, arrV_size, HP3.out, pad3_len (by simp)]) K3.out
           have q5 : w2.heap[w.heap.size + 1 + 1 + 1 + 1 + 1]? = some (.cells #[.bool true] 4 (0, 0)) := by rw [hw2]; exact (heap_cells _ _ _ _ _ (by omega)).trans K4.out
           have e5 := cell_of_row w2 (w.heap.size + 1 + 1 + 1 + 1 + 1) 0 _ _ _ q5
           have f5 := frozen_of_row w2 (w.heap.size + 1 + 1 + 1 + 1 + 1) 0 _ _ q5
           have l5 := lt_of_block q5
           simp at e5
           have Q4 := Lib.hid q4
           have Q5 := Lib.hid q5
           clear hw2 q4 q5)
        | fail)
      refine ⟨((But.of_below HBR.out).trans hbt2).trans (But.setCell _ _ H2.out), ⟨.inl H1.out, .inl H2.out, false, t, ?_, ?_, (fun h => by cases h), fun _ => ⟨Far.one high ss t, ht⟩⟩⟩
      · exact (heap_setCell_other w2 ⟨w.heap.size + 1 + 1 + 1 + 1 + 1, 0, none⟩ _ _ (by show w.heap.size + 1 + 1 + 1 + 1 ≠ w.heap.size + 1 + 1 + 1 + 1 + 1; omega)).trans Q4.out
      · exact heap_setCell_same w2 (w.heap.size + 1 + 1 + 1 + 1 + 1) 0 _ 4 (.bool false) Q5.out
    | false =>
      obtain ⟨hF, hxo⟩ := h6 rfl
      have hpx := pad3_len (x := x) (by have := len_of (mem_okL.1 hxo).1; omega)
      have hRx := pad3_rates (ok_rates hK.mat hxo)
      have hsxx : (Try.prog.info? 105).map (·.size) = some ((pad3 x).map iV).length := s105.trans (by rw [List.length_map, hpx])
      have d5 := cell_of_row A (w.heap.size + 1 + 1 + 1 + 1 + 1) 0 _ _ _ h4
      have d1 := cell_of_row A (w.heap.size + 1) 0 _ _ _ k1
      have d2 := cell_of_row A (w.heap.size + 1 + 1) 0 _ _ _ k2
      have d3 := cell_of_row A (w.heap.size + 1 + 1) 1 _ _ _ k2
      simp at d5 d1 d2 d3
      have HSX := Lib.hid fun w' (hs : Same n A w') (hn' : n ≤ w'.heap.size) => stretch_any n ms.length (pad3 x) _ ss w' hpx hRx hlen hP ((HPV.out.same hSA).same hs) hn'
      have HST := Lib.hid fun w' (hs : Same n A w') (hn' : n ≤ w'.heap.size) => stretch_any n ms.length (pad3 t) _ ss w' hp3 hRt hlen hP ((HPV.out.same hSA).same hs) hn'
      rw [(pad3_loS x ss).1, (pad3_loS x ss).2] at HSX
      rw [(pad3_loS t ss).1, (pad3_loS t ss).2] at HST
      have HEX := Lib.hid fun w' => HEA.out (loS ss x) (hiS ss x) w'
      have HET := Lib.hid fun w' => HEA.out (loS ss t) (hiS ss t) w'
      have ex : (if high = true then hiS ss x else loS ss x) = endS high ss x := rfl
      have et : (if high = true then hiS ss t else loS ss t) = endS high ss t := rfl
      rw [ex] at HEX
      rw [et] at HET
      have HFF := Lib.hid fun w' => HFA.out (endS high ss t) (endS high ss x) w'
      have HFN := Lib.hid (@Far.snoc_no high ss pre x t hF)
      have HFY := Lib.hid (@Far.snoc_yes high ss pre x t hF)
      have H1 := Lib.hid h1
      have H2 := Lib.hid h2
      have H3 := Lib.hid h3
      have H4 := Lib.hid h4
      have HXX := Lib.hid hx
      have hrx := range_block (t := 105) (l := (pad3 x).map iV) (by rw [arr_list']; exact h3)
      have hrt := range_block (t := 105) (l := (pad3 t).map iV) (by rw [arr_list']; exact hx)
      clear h1 h2 h3 h4 h5 h6 hx k1 k2 hdis hb ex et hF
      gi_wp2
      have HC : Hid (∀ w1, Below A.heap.size A w1 → w1.rangeAt (w.heap.size + 1 + 1 + 1 + 1) 0 ((pad3 x).map iV) ∧ w1.rangeAt Bx 0 ((pad3 t).map iV) ∧ w1.cell? ⟨w.heap.size + 1 + 1 + 1 + 1 + 1, 0, none⟩ = some (.bool false) ∧ w1.cell? ⟨w.heap.size + 1, 0, none⟩ = some (.slice ap ss.length capp) ∧
          w1.cell? ⟨w.heap.size + 1 + 1, 0, none⟩ = some (.func (.func (endF high)) #[] #[]) ∧ w1.cell? ⟨w.heap.size + 1 + 1, 1, none⟩ = some (.func (.func (farF high)) #[] #[])) := Lib.hid fun w1 hS =>
        ⟨range_block (t := 105) (by rw [arr_list']; exact (hS.block _ (lt_of_block H3.out)).trans H3.out), range_block (t := 105) (by rw [arr_list']; exact (hS.block _ (lt_of_block HXX.out)).trans HXX.out),
          (hS.cell (p := ⟨w.heap.size + 1 + 1 + 1 + 1 + 1, 0, none⟩) (block_lt_of_cell d5)).trans d5, (hS.cell (p := ⟨w.heap.size + 1, 0, none⟩) (block_lt_of_cell d1)).trans d1, (hS.cell (p := ⟨w.heap.size + 1 + 1, 0, none⟩) (block_lt_of_cell d2)).trans d2, (hS.cell (p := ⟨w.heap.size + 1 + 1, 1, none⟩) (block_lt_of_cell d3)).trans d3⟩
      clear d5 d1 d2 d3 hrx hrt
      generalize hfz : farB high (endS high ss t) (endS high ss x) = fz at *
      have HFZ := Lib.hid hfz
      clear hfz
      refine wpIn_region_noPanic ?_
      refine wpIn_region_chain_round (fun w' => Below A.heap.size A w') (fun ⟨_, _, h⟩ => h) (fun w1 w2 h hb => grow_to h hb) (below_drawn _) (by kernel_rfl) (fun _ _ _ _ _ h => h)
        [(false, 0), (false, 1), (false, 2), (false, 3), (false, 4), (false, 5), (false, 6), (false, 7), (false, 10), (false, 11), (false, 12), (false, 13), (true, 8), (true, 9), (true, 14), (true, 15), (true, 16)] [17] (by kernel_rfl) ?_
      iterate 6
        (refine Walk.takes rfl rfl ?_; apply Exists.intro; refine ⟨fun w1 hS => ?_, ?_⟩; (obtain ⟨-, -, d5, d1, d2, d3⟩ := HC.out w1 hS; go_simp; with_reducible rfl); simp only [List.getElem_toArray, List.getElem_cons_succ, List.getElem_cons_zero, Act.put, List.setIfInBounds_toArray, List.set_cons_zero, List.set_cons_succ])
      (refine Walk.take (v := .agg (arrV (pad3 t))) rfl rfl (fun w2 hS => exec_load_row 105 (.tmp 9) rfl Bx 0 rfl ((pad3 t).map iV) (.array 3 3) (HC.out w2 hS).2.1 u105 rfl hsxt (arrV (pad3 t)) (arr_list' _)) ?_; simp only [List.getElem_toArray, List.getElem_cons_succ, List.getElem_cons_zero, Act.put, List.setIfInBounds_toArray, List.set_cons_zero, List.set_cons_succ])
      iterate 3
        (refine Walk.takes rfl rfl ?_; apply Exists.intro; refine ⟨fun w1 hS => ?_, ?_⟩; (obtain ⟨-, -, d5, d1, d2, d3⟩ := HC.out w1 hS; go_simp; with_reducible rfl); simp only [List.getElem_toArray, List.getElem_cons_succ, List.getElem_cons_zero, Act.put, List.setIfInBounds_toArray, List.set_cons_zero, List.set_cons_succ])
      (refine Walk.take (v := .agg (arrV (pad3 x))) rfl rfl (fun w2 hS => exec_load_row 105 (.tmp 7) rfl (w.heap.size + 1 + 1 + 1 + 1) 0 rfl ((pad3 x).map iV) (.array 3 3) (HC.out w2 hS).1 u105 rfl hsxx (arrV (pad3 x)) (arr_list' _)) ?_; simp only [List.getElem_toArray, List.getElem_cons_succ, List.getElem_cons_zero, Act.put, List.setIfInBounds_toArray, List.set_cons_zero, List.set_cons_succ])
      (refine Walk.takes rfl rfl ?_; apply Exists.intro; refine ⟨fun w1 hS => ?_, ?_⟩; (obtain ⟨-, -, d5, d1, d2, d3⟩ := HC.out w1 hS; go_simp; with_reducible rfl); simp only [List.getElem_toArray, List.getElem_cons_succ, List.getElem_cons_zero, Act.put, List.setIfInBounds_toArray, List.set_cons_zero, List.set_cons_succ])
      have hacc := below_drawn A
      refine Walk.calls rfl rfl ?_; apply Exists.intro; apply Exists.intro; refine ⟨fun w2 hS => ?_, fun w2 hb2 => ?_⟩; (clear hS; go_simp; exact ⟨rfl, rfl⟩)
      replace hacc := grow_to hacc hb2
      refine (HST.out w2 (.below hnA hacc) (Nat.le_trans hnA hacc.size)).mono ?_
      rintro e w3 ⟨rfl, hb3⟩
      refine ⟨_, rfl, hb3, ?_⟩
      simp only [List.getElem_toArray, List.getElem_cons_succ, List.getElem_cons_zero, Act.put, List.setIfInBounds_toArray, List.set_cons_zero, List.set_cons_succ]
      replace hacc := grow_to hacc hb3
      clear hb2 hb3
      refine Walk.calls rfl rfl ?_; apply Exists.intro; apply Exists.intro; refine ⟨fun w2 hS => ?_, fun w2 hb2 => ?_⟩; (clear hS; go_simp; exact ⟨rfl, rfl⟩)
      replace hacc := grow_to hacc hb2
      refine (HET.out w2).mono ?_
      rintro e w3 ⟨rfl, hb3⟩
      refine ⟨_, rfl, hb3, ?_⟩
      simp only [List.getElem_toArray, List.getElem_cons_succ, List.getElem_cons_zero, Act.put, List.setIfInBounds_toArray, List.set_cons_zero, List.set_cons_succ]
      replace hacc := grow_to hacc hb3
      clear hb2 hb3
      refine Walk.calls rfl rfl ?_; apply Exists.intro; apply Exists.intro; refine ⟨fun w2 hS => ?_, fun w2 hb2 => ?_⟩; (clear hS; go_simp; exact ⟨rfl, rfl⟩)
      replace hacc := grow_to hacc hb2
      refine (HSX.out w2 (.below hnA hacc) (Nat.le_trans hnA hacc.size)).mono ?_
      rintro e w3 ⟨rfl, hb3⟩
      refine ⟨_, rfl, hb3, ?_⟩
      simp only [List.getElem_toArray, List.getElem_cons_succ, List.getElem_cons_zero, Act.put, List.setIfInBounds_toArray, List.set_cons_zero, List.set_cons_succ]
      replace hacc := grow_to hacc hb3
      clear hb2 hb3
      refine Walk.calls rfl rfl ?_; apply Exists.intro; apply Exists.intro; refine ⟨fun w2 hS => ?_, fun w2 hb2 => ?_⟩; (clear hS; go_simp; exact ⟨rfl, rfl⟩)
      replace hacc := grow_to hacc hb2
      refine (HEX.out w2).mono ?_
      rintro e w3 ⟨rfl, hb3⟩
      refine ⟨_, rfl, hb3, ?_⟩
      simp only [List.getElem_toArray, List.getElem_cons_succ, List.getElem_cons_zero, Act.put, List.setIfInBounds_toArray, List.set_cons_zero, List.set_cons_succ]
      replace hacc := grow_to hacc hb3
      clear hb2 hb3
      refine Walk.calls rfl rfl ?_; apply Exists.intro; apply Exists.intro; refine ⟨fun w2 hS => ?_, fun w2 hb2 => ?_⟩; (clear hS; go_simp; exact ⟨rfl, rfl⟩)
      replace hacc := grow_to hacc hb2
      refine (HFF.out w2).mono ?_
      rintro e w3 ⟨rfl, hb3⟩
      refine ⟨_, rfl, hb3, ?_⟩
      simp only [List.getElem_toArray, List.getElem_cons_succ, List.getElem_cons_zero, Act.put, List.setIfInBounds_toArray, List.set_cons_zero, List.set_cons_succ]
      replace hacc := grow_to hacc hb3
      clear hb2 hb3
      refine Walk.fin ?_
      rintro w4 hb4 hS4
      refine Tail.value rfl rfl (by go_simp; with_reducible rfl) (Tail.done ?_)
      simp only [List.getElem_toArray, List.getElem_cons_succ, List.getElem_cons_zero, Act.put, List.setIfInBounds_toArray, List.set_cons_zero, List.set_cons_succ]
      have K3 := Lib.hid ((hS4.block _ (lt_of_block H3.out)).trans H3.out)
      have K4 := Lib.hid ((hS4.block _ (lt_of_block H4.out)).trans H4.out)
      have KX := Lib.hid ((hS4.block _ (lt_of_block HXX.out)).trans HXX.out)
      have HBR := Lib.hid hS4
      clear hS4 hb4 hacc f5 l5
      have hrgx := range_block (t := 105) (l := (pad3 t).map iV) (by rw [arr_list']; exact KX.out)
      have hs105 : Hid ((Try.prog.info? 105).map (·.size) = some (arrV (pad3 t)).size) := s105.trans (by rw [arrV_size, hp3])
      have HP3 := Lib.hid hp3
      have HPX := Lib.hid hpx
      clear hp3 hpx
      cases fz with
      | false =>
        gi_wp2
        exact ⟨But.of_below HBR.out, ⟨.inl H1.out, .inl H2.out, false, x, K3.out, K4.out, (fun h => by cases h), fun _ => ⟨HFN.out trivial, hxo⟩⟩⟩
      | true =>
        gi_wp2_with (first
          | (refine wpListIn_load_row rfl 105 (.tmp 9) rfl Bx 0 rfl ((pad3 t).map iV) (.array 3 3) (by exact hrgx) u105 rfl (by exact hsxt) (arrV (pad3 t)) (arr_list' _) ?_)
          | (refine wpListIn_store_gen rfl 105 (.tmp 7) (.tmp 31) rfl (w.heap.size + 1 + 1 + 1 + 1) 0 (arrV (pad3 t)) rfl rfl (there_block K3.out (by rw [arrV_size, arrV_size, HP3.out, HPX.out]; exact Nat.le_refl _)) (by exact hs105.out) (arrV_one _) ?_
             intro w2 hw2
             have hbt2 : But T w4 w2 := by rw [hw2]; exact But.setCells H1.out _ 0 _
             have q4 : w2.heap[w.heap.size + 1 + 1 + 1 + 1]? = some (.cells (arrV (pad3 t)) 105 (0, 0)) := by rw [hw2]; exact set_whole _ 105 _ _ _ (by rw [arrV_size, arrV_size, HP3.out, HPX.out]) K3.out
             have q5 : w2.heap[w.heap.size + 1 + 1 + 1 + 1 + 1]? = some (.cells #[.bool false] 4 (0, 0)) := by rw [hw2]; exact (heap_cells _ _ _ _ _ (by omega)).trans K4.out
             have e5 := cell_of_row w2 (w.heap.size + 1 + 1 + 1 + 1 + 1) 0 _ _ _ q5
             have f5 := frozen_of_row w2 (w.heap.size + 1 + 1 + 1 + 1 + 1) 0 _ _ q5
             have l5 := lt_of_block q5
             simp at e5
             have Q4 := Lib.hid q4
             have Q5 := Lib.hid q5
             clear hw2 q4 q5)
          | fail)
        refine ⟨((But.of_below HBR.out).trans hbt2).trans (But.setCell _ _ H2.out), ⟨.inl H1.out, .inl H2.out, false, t, ?_, ?_, (fun h => by cases h), fun _ => ⟨HFY.out trivial, ht⟩⟩⟩
        · exact (heap_setCell_other w2 ⟨w.heap.size + 1 + 1 + 1 + 1 + 1, 0, none⟩ _ _ (by show w.heap.size + 1 + 1 + 1 + 1 ≠ w.heap.size + 1 + 1 + 1 + 1 + 1; omega)).trans Q4.out
        · exact heap_setCell_same w2 (w.heap.size + 1 + 1 + 1 + 1 + 1) 0 _ 4 (.bool false) Q5.out
  case done =>
    rintro T xs A rfl ⟨h1, h2, z, x, h3, h4, h5, h6⟩ hOf hb n0 n1 hKd
    have hz : z = false := by
      cases z with
      | false => rfl
      | true => exact absurd (h5 rfl).1 hne
    obtain ⟨hF, hxo⟩ := h6 hz
    have hdis : ∀ k, k < w.heap.size + 1 + 1 + 1 + 1 → ¬ withLoop (fun k => k = w.heap.size + 1 + 1 + 1 + 1 ∨ k = w.heap.size + 1 + 1 + 1 + 1 + 1) w1.heap.size k := fun k hk h => by
      rcases h with (h | h) | h | h <;> omega
    have k3 := (hb.block _ (by omega) (hdis (w.heap.size + 1 + 1 + 1) (by omega))).trans Z3.out
    have hpx := pad3_len (x := x) (by have := len_of (mem_okL.1 hxo).1; omega)
    have hsxx : (Try.prog.info? 105).map (·.size) = some ((pad3 x).map iV).length := s105.trans (by rw [List.length_map, hpx])
    have hs105 : Hid ((Try.prog.info? 105).map (·.size) = some (arrV (pad3 x)).size) := s105.trans (by rw [arrV_size, hpx])
    have hrx := range_block (t := 105) (l := (pad3 x).map iV) (by rw [arr_list']; exact h3)
    have K3 := Lib.hid k3
    have HPX := Lib.hid hpx
    have hBA : Below w.heap.size w A := ⟨hb.os.trans HB1.out.os, hb.tape.trans HB1.out.tape, hb.output.trans HB1.out.output, Nat.le_trans HB1.out.size hb.size, fun k hk => (hb.block k (by omega) (hdis k (by omega))).trans (HB1.out.block k hk)⟩
    have HBA := Lib.hid hBA
    have HKD := Lib.hid hKd
    clear k3 hpx hBA hKd h1 h2 h3 h4 h5 h6 hdis
    gi_wp2_with (first
      | (refine wpListIn_load_row rfl 105 (.tmp 7) rfl (w.heap.size + 1 + 1 + 1 + 1) 0 rfl ((pad3 x).map iV) (.array 3 3) (by exact hrx) u105 rfl (by exact hsxx) (arrV (pad3 x)) (arr_list' _) ?_)
      | (refine wpListIn_store_gen rfl 105 (.tmp 6) (.tmp 32) rfl (w.heap.size + 1 + 1 + 1) 0 (arrV (pad3 x)) rfl rfl (there_block K3.out (by rw [arrV_size, arrV_size, HPX.out]; exact Nat.le_refl _)) (by exact hs105.out) (arrV_one _) ?_
         intro w2 hw2
         have q3 : w2.heap[w.heap.size + 1 + 1 + 1]? = some (.cells (arrV (pad3 x)) 105 (0, 0)) := by rw [hw2]; exact set_whole _ 105 _ _ _ (by rw [arrV_size, arrV_size, HPX.out]; rfl) K3.out
         have qk : w2.heap[w1.heap.size]? = some (.deferred (some [])) := by rw [hw2]; exact (heap_cells _ _ _ _ _ (by omega)).trans HKD.out
         have hb2 : Below w.heap.size w w2 := by rw [hw2]; exact below_cells (by omega) _ 0 _ HBA.out
         clear hw2)
      | fail)
    refine ⟨by simp, .inl ⟨_, _, rfl, run_takeDeferred qk, ?_⟩⟩
    have q3' := (World.putObj_heap_other (w := w2) (r := w1.heap.size) (o := .deferred none) (k := w.heap.size + 1 + 1 + 1) (by omega)).trans q3
    exact ⟨_, results_cell_row rfl _ _ (w.heap.size + 1 + 1 + 1) 105 _ _ (.array 3 3) rfl q3' u105 rfl hs105.out, ⟨x, rfl, hF⟩, ⟨hb2.os, hb2.tape, hb2.output, by simpa using hb2.size, fun k hk => (World.putObj_heap_other (by omega)).trans (hb2.block k hk)⟩⟩
end Go.Proofs.Ytfijaafkagcmmaa
