/- The iterator over the rates that all runs allow: its contract. Conditions: a valid material and valid runs. -/
import Derived.Test.YtfijaafkagcmmaaBAJ
namespace Go.Proofs.Ytfijaafkagcmmaa
open Go.RowKit Go.Shelf
attribute [local irreducible] arrV
attribute [local go_sem] Oper.semAt_some

theorem okL_take (ms : List Rg) (rs : List Rn) {pre : List (List Int)} (h : pre <+: allL ms) : pre.filter (allB rs) <+: okL ms rs := by
  obtain ⟨t, h⟩ := h
  exact ⟨t.filter (allB rs), by rw [← List.filter_append, h]; rfl⟩

theorem but_of {T0 : Nat → Prop} {W w1 A : World} (h : Below W.heap.size W w1) (hb : But (withLoop T0 w1.heap.size) w1 A) : But T0 W A :=
  ⟨hb.os.trans h.os, hb.tape.trans h.tape, hb.output.trans h.output, Nat.le_trans h.size hb.size, fun k hk hn => (hb.block k (Nat.lt_of_lt_of_le hk h.size) (fun ht => by
    have := h.size
    rcases ht with ht | ht | ht
    · exact hn ht
    · omega
    · omega)).trans (h.block k hk)⟩
theorem allow_fin {T0 : Nat → Prop} {W w1 A : World} (h : Below W.heap.size W w1) (hb : But (withLoop T0 w1.heap.size) w1 A) (hlt : W.heap.size ≤ w1.heap.size) (o : Obj) : But T0 W (A.putObj w1.heap.size o) := by
  have h1 := but_of h hb
  exact ⟨h1.os, h1.tape, h1.output, by simpa using h1.size, fun k hk hn => (World.putObj_heap_other (by omega)).trans (h1.block k hk hn)⟩
/-- What the consumer has, between two rounds. -/
structure Got (T0 : Nat → Prop) (n : Nat) (J : (Nat → Prop) → List (List Int) → World → Prop) (T : Nat → Prop) (xs : List (List Int)) (A : World) (T' : Nat → Prop) : Prop where
  sub : ∀ k, T' k → T k
  of : Of T0 n T' A
  j : J T' xs A

set_option maxRecDepth 100000 in
set_option maxHeartbeats 4000000 in
theorem allowed_seq (n Bo : Nat) (mv rv : Value) (ms : List Rg) (rs : List Rn) (w : World) (hK : RoomOk ms rs) (hbo : w.heap[Bo]? = some (.cells #[mv, rv] 100 (0, 0))) (hV : RoomV n w mv rv ms rs) :
    SeqD Try.prog 104 #[.pointer (some ⟨Bo, 0, none⟩)] encX (fun x => x ∈ okL ms rs) (fun k => k < n ∨ k = Bo) (fun xs => xs = okL ms rs) (fun pre => pre <+: okL ms rs) w := by
  intro l T0 J Jx W hW hT0 hJ hJx hY h0
  have hBl := lt_of_block hbo
  have hs := hW.size
  have hbW := (hW.block Bo hBl).trans hbo
  have hVW := hV.below hW
  have hn := hV.lt
  obtain ⟨am, capm, rfl, -⟩ := hV.m
  obtain ⟨ar, capr, rfl, -⟩ := hV.r
  have HVW := Lib.hid hVW
  have HBW := Lib.hid hbW
  have HY := Lib.hid hY
  have HT0 := Lib.hid hT0
  have c0 := cell_of_row W Bo 0 _ _ _ hbW
  have c1 := cell_of_row W Bo 1 _ _ _ hbW
  simp at c0 c1
  have hbl : Bo < W.heap.size := by omega
  clear hY hT0 hV hbo hW hbW hVW
  have hbx := Lib.hid (box_below W (.cells #[.func (.yield l) #[] #[]] 142))
  have hxx := Lib.hid (heap_alloc_new W (.cells #[.func (.yield l) #[] #[]] 142))
  have hsz := Lib.hid (show (W.alloc (.cells #[.func (.yield l) #[] #[]] 142)).heap.size = W.heap.size + 1 by simp)
  refine callsIn_of_wp_marks Try.func104 rfl trivial ?_ rfl
  simp only [Try.ntmps104, List.size_toArray, List.length_cons, List.length_nil, Nat.reduceAdd, Nat.reduceSub, Array.replicate_succ, Array.replicate_zero, List.push_toArray, List.append_toArray, List.nil_append, List.cons_append]
  gi_wp2_with fail
  refine wpIn_wide.2 (wp_scope_straight ((wpIn_wide (n := 0)).1 ?_))
  gi_wp2
  refine wpIn_label ?_
  gi_wp2_with fail
  generalize World.alloc W _ = W1 at *
  refine ⟨trivial, rfl, ?_⟩
  have hs1 := hsz.out
  have hv1 := HVW.out.below hbx.out
  refine (callsIn_wide.2 (all_any n _ ms W1 hK.mat.toRgsOk hv1.m hv1.lt)).mono ?_
  rintro e w1 ⟨Bm, rfl, hb1, hm1, hm2, hseq⟩
  have hsz1 := hb1.size
  have HB1 := Lib.hid (below_to hbx.out hb1)
  have X1 := Lib.hid ((hb1.block W.heap.size (by omega)).trans hxx.out)
  have HV1 := Lib.hid (hv1.below hb1)
  have HSEQ := Lib.hid hseq
  have HB1' := Lib.hid hb1
  clear hv1 hb1 hseq c0 c1
  gi_wp2
  refine wp_rangeD rfl (fun _ _ => rfl) HSEQ.out (Below.refl _ w1) (fun _ => rfl) T0 ?t0 ?hc
    (fun T pre A => ∃ T', Got T0 W.heap.size J T (pre.filter (allB rs)) A T')
    (fun c T pre A => c = .ret ∧ ∃ T', Got T0 W.heap.size Jx T (pre.filter (allB rs)) A T')
    ?ir ?ixr ?h0
    (fun t a' A => ∃ Bx, w1.heap.size + 2 ≤ Bx ∧ A.heap[Bx]? = some (.cells (arrV (pad3 t)) 105 (0, 0)) ∧ a' = { tmps := #[.func (.yield l) #[] #[], .pointer (some ⟨Bo, 0, none⟩), .pointer (some ⟨W.heap.size, 0, none⟩), .pointer (some ⟨Bx, 0, none⟩), undef, undef, undef, .pointer (some ⟨Bo, 0, none⟩), .agg #[.slice am ms.length capm], .func (.func 98) #[] #[.pointer (some ⟨Bm, 0, none⟩)], .agg (arrV (pad3 t)), undef, undef, undef, undef, undef, undef, undef, undef, undef, undef, undef, undef, undef, undef, undef, undef, undef, undef], defers := [] })
    ?ax ?assign ?body ?done ?stop
  case t0 =>
    intro k hk
    have h1 := HT0.out k hk
    refine ⟨by omega, fun h => ?_⟩
    rcases h with h | h
    · exact h1.2 (.inl h)
    · omega
  case hc =>
    intro k hk
    have := HVW.out.lt
    rcases hk with h | h <;> omega
  case ir => exact fun T s A B ⟨T', h⟩ hR => ⟨T', h.sub, h.of.grow hR.1, hJ _ _ _ _ h.j (hR.sub h.sub)⟩
  case ixr => exact fun c T s A B ⟨h0, T', h⟩ hR => ⟨h0, T', h.sub, h.of.grow hR.1, hJx _ _ _ _ h.j (hR.sub h.sub)⟩
  case h0 =>
    have hof : Of T0 W.heap.size T0 W := ⟨fun k hk => (HT0.out k hk).1, fun k hk => .inl hk, fun k hk => hk⟩
    exact ⟨T0, fun k hk => hk, hof.grow HB1.out.size, hJ _ _ _ _ h0 (hof.free HB1.out)⟩
  case ax =>
    rintro t a' A o ⟨Bx, h1, h2, h3⟩
    exact ⟨Bx, h1, (World.putObj_heap_other (by omega)).trans h2, h3⟩
  case assign =>
    rintro l2 t A ht hA
    have hp3 := pad3_len (x := t) (by have := len_of ht; have := hK.mat.len; omega)
    have hlz : (arrV (pad3 t)).size = 3 := by rw [arrV_size, hp3]
    have HLZ := Lib.hid hlz
    have hs105 : Hid ((Try.prog.info? 105).map (·.size) = some (arrV (pad3 t)).size) := s105.trans (by rw [hlz])
    clear hlz hp3
    have hact : (#[10].zip (encX t)) = #[(10, Value.agg (arrV (pad3 t)))] := by simp [encX]
    rw [hact]
    simp only [List.foldl_toArray, Array.foldl_toList, List.foldl_cons, List.foldl_nil, List.setIfInBounds_toArray, List.set_cons_succ, List.set_cons_zero]
    gi_wp2_with (first
      | (refine wpListIn_store_gen rfl 105 (.tmp 3) (.tmp 10) rfl _ 0 (arrV (pad3 t)) rfl rfl (there_block (heap_alloc_new _ _) (by rw [HLZ.out]; exact Nat.le_refl _)) (by exact hs105.out) (arrV_one _) ?_
         intro w2 hw2
         have hbx2 : Below A.heap.size A w2 := by rw [hw2]; exact below_cells (Nat.le_refl _) _ 0 _ ((Below.refl _ A).alloc (Nat.le_refl _) _)
         have hSb : w2.heap[A.heap.size]? = some (.cells (arrV (pad3 t)) 105 (0, 0)) := by rw [hw2]; exact set_whole A.heap.size 105 _ _ _ (by rw [HLZ.out]; rfl) (heap_alloc_new A _)
         clear hw2)
      | fail)
    exact ⟨⟨A.heap.size, by omega, hSb, rfl⟩, hbx2⟩
  case body =>
    rintro l2 T pre t a' A ht hSp ⟨T', hG⟩ hOf hb hs2 ⟨Bx, hBx, hx, rfl⟩
    have HSP := Lib.hid hSp
    clear hSp
    have hTn : ∀ k, withLoop T0 w1.heap.size k → n ≤ k := fun k h => by
      rcases h with h | h | h
      · exact Nat.le_of_not_lt fun hk => (HT0.out k h).2 (.inl hk)
      · have := HV1.out.lt; omega
      · have := HV1.out.lt; omega
    have hnl : ∀ k, k < w1.heap.size → ¬ T0 k → ¬ withLoop T0 w1.heap.size k := fun k hk hn h => by
      rcases h with h | h | h
      · exact hn h
      · omega
      · omega
    have hVA := HV1.out.but hTn hb
    have hYA := (hb.block W.heap.size (by omega) (hnl _ (by omega) (fun h => by have := (HT0.out _ h).1; omega))).trans X1.out
    have hBA := (hb.block Bo (by omega) (hnl Bo (by omega) (fun h => (HT0.out _ h).2 (.inr rfl)))).trans ((HB1.out.block Bo hbl).trans HBW.out)
    have hR := pad3_rates (rates_of ht hK.mat.toRgsOk)
    have hp3 := pad3_len (x := t) (by have := len_of ht; have := hK.mat.len; omega)
    have hrg := range_block (t := 105) (l := (pad3 t).map iV) (by rw [arr_list']; exact hx)
    have hsx : (Try.prog.info? 105).map (·.size) = some ((pad3 t).map iV).length := s105.trans (by rw [List.length_map, hp3])
    have o0 := cell_of_row A Bo 0 _ _ _ hBA
    have o1 := cell_of_row A Bo 1 _ _ _ hBA
    simp at o0 o1
    have HVA := Lib.hid hVA
    have HYA := Lib.hid hYA
    have HXA := Lib.hid hx
    have HGA := Lib.hid hG
    have HHB := Lib.hid hb
    have HTN := Lib.hid hTn
    have HOF := Lib.hid hOf
    have HAB : Hid (∀ q, q ≤ rs.length → (∀ j, j < q → fitsB (rn rs j) t = true) → q = rs.length → allB rs t = true) := Lib.hid fun q _ h e => by
      rw [allB, List.all_eq_true]
      intro r hr
      obtain ⟨j, hj, rfl⟩ := List.getElem_of_mem hr
      have := h j (by omega)
      simpa [rn, hj] using this
    have HAN : Hid (∀ q, q < rs.length → fitsB (rn rs q) t = false → allB rs t = false) := Lib.hid fun q hq h => by
      rw [Bool.eq_false_iff]
      intro h2
      have := List.all_eq_true.1 h2 _ (rn_mem hq)
      rw [h] at this
      exact Bool.noConfusion this
    have hrl : rs.length ≤ 6 := hK.len
    have hnA : n ≤ A.heap.size := hVA.lt
    clear hVA hYA hBA hx hG hb hTn hOf hnl
    gi_wp2_with (first
      | (refine wpListIn_load_row rfl 105 (.tmp 3) rfl Bx 0 rfl ((pad3 t).map iV) (.array 3 3) (by exact hrg) u105 rfl (by exact hsx) (arrV (pad3 t)) (arr_list' _) ?_)
      | fail)
    gi_loopw [16] (fun v wr => ∃ q : Nat, q ≤ rs.length ∧ v = .int .i64 q ∧ Hid (∀ j, j < q → fitsB (rn rs j) t = true) ∧ Hid (Below A.heap.size A wr)) (fun v _ => rs.length - (intOf v).toNat)
    case atStart => exact ⟨0, Nat.zero_le _, rfl, Lib.hid (fun j hj => by omega), Lib.hid (Below.refl _ _)⟩
    case round =>
      obtain ⟨q, hq, rfl, hg, hbr⟩ := hrel
      by_cases hlt : q < rs.length
      · have hvr := HVA.out.below hbr.out
        obtain ⟨ar2, capr2, e1, hcell⟩ := hvr.r
        simp only [Value.slice.injEq] at e1
        obtain ⟨rfl, -, rfl⟩ := e1
        obtain ⟨b, off, rfl, hbn, hc⟩ := hcell (by omega)
        obtain ⟨sv, p1, p2, p3, p4⟩ := hc q hlt
        have p4' := p4
        obtain ⟨sa, cs, rfl, -⟩ := p4'
        have hqn : (q : Int) < rs.length := by omega
        have hw9 : IntKind.i64.wrap ((q : Int) + 1) = (q : Int) + 1 := IntWalk.i64_in _ (by omega)
        have hb2 := box_below wr (.cells #[.slice sa (rn rs q).ss.length cs, .int .i64 (rn rs q).seen.lo, .int .i64 (rn rs q).seen.hi] 78)
        have hfit := fits_any n ms.length (pad3 t) _ (rn rs q) _ hp3 hR hK.mat.len (hK.rn _ (rn_mem hlt)) (p4.same (.below hvr.lt hb2)) (Nat.le_trans hvr.lt hb2.size)
        rw [pad3_fits] at hfit
        have HFIT := Lib.hid hfit
        have HB2 := Lib.hid (below_to hbr.out hb2)
        clear hfit hc hcell p4 hb2 hvr hbr
        gi_wp2_with fail
        refine ⟨trivial, rfl, ?_⟩
        refine CallsIn.mono (CallsIn.inRound l2 ((callsIn_wide (n := 0)).2 HFIT.out)) ?_
        rintro e w5 ⟨rfl, hb5⟩
        have HB5 := Lib.hid (below_to HB2.out hb5)
        clear hb5
        cases hf : fitsB (rn rs q) t with
        | true =>
          have hg' : Hid (∀ j, j < q + 1 → fitsB (rn rs j) t = true) := Lib.hid fun j hj => by
            by_cases e : j = q
            · rw [e]; exact hf
            · exact hg.out j (by omega)
          clear hf
          gi_wp2
          go_roundw
          case rel => exact ⟨q + 1, by omega, by simp, hg', HB5⟩
          case measure => simp [intOf]; omega
        | false =>
          have hno := Lib.hid (HAN.out q hlt hf)
          clear hf
          gi_wp2
          obtain ⟨T', hG⟩ : ∃ T', Got T0 W.heap.size J T (pre.filter (allB rs)) A T' := ⟨_, HGA.out⟩
          have hfi : (pre ++ [t]).filter (allB rs) = pre.filter (allB rs) := by simp [List.filter_append, hno.out]
          refine ⟨But.of_below HB5.out, T', ?_⟩
          rw [hfi]
          exact ⟨fun k hk => .inl (hG.sub k hk), hG.of.grow HB5.out.size, hJ _ _ _ _ hG.j (hG.of.free HB5.out)⟩
      · have hqe : q = rs.length := by omega
        have hyes := Lib.hid (HAB.out q hq hg.out hqe)
        have hx5 := (hbr.out.block _ (lt_of_block HXA.out)).trans HXA.out
        have hy5 := (hbr.out.block _ (lt_of_block HYA.out)).trans HYA.out
        have c0 := cell_of_row wr W.heap.size 0 _ _ _ hy5
        simp at c0
        have hrg5 := range_block (t := 105) (l := (pad3 t).map iV) (by rw [arr_list']; exact hx5)
        have hfl : But T0 W wr := (but_of HB1.out HHB.out).trans (But.of_below hbr.out)
        have hok : t ∈ okL ms rs := mem_okL.2 ⟨ht, hyes.out⟩
        have hfi : (pre ++ [t]).filter (allB rs) = pre.filter (allB rs) ++ [t] := by simp [List.filter_append, hyes.out]
        have HFI := Lib.hid hfi
        have hqi : ¬ (q : Int) < rs.length := by omega
        obtain ⟨fn, tmps, assign, body, hy, hRd⟩ := HY.out T' (pre.filter (allB rs)) t wr hok (by rw [← HFI.out]; exact okL_take ms rs HSP.out) (hJ _ _ _ _ HGA.out.j (HGA.out.of.free hbr.out)) (HGA.out.of.grow hbr.out.size) hfl
        have HRD := Lib.hid hRd
        unfold encX at hy
        clear hRd hfl hok hfi hx5 hy5 hqe
        gi_wp2_with (first
          | (refine wpListIn_load_row rfl 105 (.tmp 3) rfl Bx 0 rfl ((pad3 t).map iV) (.array 3 3) (by exact hrg5) u105 rfl (by exact hsx) (arrV (pad3 t)) (arr_list' _) ?_)
          | fail)
        refine ⟨rfl, ?_⟩
        refine RoundIn.mono (F := Fence.wide) HRD.out ?_
        clear hy HRD
        rintro e W5 ⟨hb5, (⟨rfl, hj⟩ | ⟨rfl, hj⟩)⟩
        · have hbT : But T A W5 := (But.of_below hbr.out).trans (hb5.mono HGA.out.sub)
          have hsub : ∀ k, more T' wr W5 k → more T A W5 k := fun k hk => by
            have := hbr.out.size
            rcases hk with hk | hk
            · exact .inl (HGA.out.sub k hk)
            · exact .inr ⟨by omega, hk.2⟩
          have hof5 := (HGA.out.of.grow hbr.out.size).more (by have := HHB.out.size; have := hbr.out.size; omega) hb5.size
          gi_wp2
          refine ⟨hbT, more T' wr W5, ?_⟩
          rw [HFI.out]
          exact ⟨hsub, hof5, hj⟩
        · have hbT : But T A W5 := (But.of_below hbr.out).trans (hb5.mono HGA.out.sub)
          have hsub : ∀ k, more T' wr W5 k → more T A W5 k := fun k hk => by
            have := hbr.out.size
            rcases hk with hk | hk
            · exact .inl (HGA.out.sub k hk)
            · exact .inr ⟨by omega, hk.2⟩
          have hof5 := (HGA.out.of.grow hbr.out.size).more (by have := HHB.out.size; have := hbr.out.size; omega) hb5.size
          gi_wp2
          refine ⟨hbT, rfl, more T' wr W5, ?_⟩
          rw [HFI.out]
          exact ⟨hsub, hof5, hj⟩
  case done =>
    rintro T xs A rfl ⟨T', hG⟩ hOf hb n0 n1 hKd
    gi_wp2
    show bodyPostM Fence.wide 0 Try.prog Try.f104 _ Exit.normal _ _
    have hm : ¬ T' w1.heap.size := fun h => n0 (hG.sub _ h)
    refine ⟨by simp, .inl ⟨_, _, rfl, run_takeDeferred hKd, ?_⟩⟩
    refine ⟨_, results_none rfl _ _ _, ⟨_, rfl⟩, allow_fin HB1.out hb (by omega) _, T', hG.of.grow (by simp), .inl ⟨_, rfl, hJ _ _ _ _ hG.j (Rfree.put _ _ _ hm)⟩⟩
  case stop =>
    rintro c T pre A hpf ⟨rfl, T', hG⟩ hOf hb n0 n1 hKd
    gi_wp2
    show bodyPostM Fence.wide 0 Try.prog Try.f104 _ Exit.ret _ _
    have hm : ¬ T' w1.heap.size := fun h => n0 (hG.sub _ h)
    refine ⟨by simp, .inl ⟨_, _, rfl, run_takeDeferred hKd, ?_⟩⟩
    refine ⟨_, results_none rfl _ _ _, ⟨_, rfl⟩, allow_fin HB1.out hb (by omega) _, T', hG.of.grow (by simp), .inr ⟨_, okL_take ms rs hpf, hJx _ _ _ _ hG.j (Rfree.put _ _ _ hm)⟩⟩
end Go.Proofs.Ytfijaafkagcmmaa
