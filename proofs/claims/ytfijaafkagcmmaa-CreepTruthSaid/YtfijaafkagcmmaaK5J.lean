/- Which runs forbid which rates: the map that without makes: its contract. Condition: a valid room. Are rates allowed without some runs: the function that without returns: its contract. Condition: the map as without has made it. -/
import Derived.Test.YtfijaafkagcmmaaK3J
import Derived.Maps.RangeRun
namespace Go.Proofs.Ytfijaafkagcmmaa
open Go.RowKit Go.Shelf
attribute [local irreducible] arrV wpQuiet
attribute [local go_sem] Oper.semAt_some

theorem nodup_up (lo hi : Int) : (upFrom lo hi).Nodup := by
  unfold upFrom
  rw [List.Nodup, List.pairwise_map]
  exact (List.nodup_range).imp fun h e => h (by omega)
theorem nodup_lists : ∀ (ms : List Rg) (l : Int), (listsL ms l).Nodup
  | [], _ => by simp [listsL]
  | r :: rs, l => by
    unfold listsL
    rw [List.Nodup, List.pairwise_flatMap]
    refine ⟨fun a _ => ?_, ?_⟩
    · rw [List.pairwise_map]
      exact (nodup_lists rs a).imp fun h e => h (by simpa using e)
    · refine (nodup_up _ _).imp fun {a b} hab x hx y hy e => ?_
      obtain ⟨x', _, rfl⟩ := List.mem_map.1 hx
      obtain ⟨y', _, rfl⟩ := List.mem_map.1 hy
      exact hab (List.cons.inj e).1
def mapE (rs : List Rn) (L : List (List Int)) : List (List Int × (Nat → Bool)) := L.map fun x => (x, forbS rs x)
theorem fresh_key {ms : List Rg} {rs : List Rn} {pre : List (List Int)} {t : List Int} (h : pre ++ [t] <+: allL ms) (h3 : ms.length ≤ 3) : ∀ p, p ∈ mapE rs pre → kEq t p.1 = false := fun p hp => by
  obtain ⟨x, hx, rfl⟩ := List.mem_map.1 hp
  have hnd := (nodup_lists ms 0).sublist h.sublist
  have hne : t ≠ x := fun e => by
    rw [List.nodup_append] at hnd
    exact hnd.2.2 x hx t (by simp) e.symm
  have hmt : t ∈ allL ms := h.subset (by simp)
  have hmx : x ∈ allL ms := h.subset (by simp [hx])
  cases hk : kEq t x with
  | false => rfl
  | true => exact absurd (kEq_of (by rw [len_of hmt, len_of hmx]) (by rw [len_of hmt]; exact h3) hk) hne
theorem mapE_snoc (rs : List Rn) (L : List (List Int)) (x : List Int) : mapE rs (L ++ [x]) = mapE rs L ++ [(x, forbS rs x)] := by simp [mapE]
theorem MapIs.same {w w' : World} {cm : Nat} {E : List (List Int × (Nat → Bool))} (h : MapIs w cm E) (hb : w'.heap[cm]? = w.heap[cm]?) : MapIs w' cm E := by
  obtain ⟨es, clock, h1, h2, h3⟩ := h
  exact ⟨es, clock, hb.trans h1, h2, h3⟩
theorem exec_put_run {a : Act} {o : Oper} {w w' : World} (m x v : Operand) (ho : o.op = Op.mapUpdate 145 m x v) (M X V : Value) (hm : a.eval m = M) (hx : a.eval x = X) (hv : a.eval v = V)
    (hr : (Instr.mapUpdate 145 M X V).run Try.prog w = .ok () w') : (execOp a.eval o).run Try.prog w = .ok .skip w' := by
  simp [execOp, ho, hm, hx, hv, hr, Result.andThen]

set_option maxRecDepth 100000 in
set_option maxHeartbeats 4000000 in
theorem without_any (n : Nat) (mv rv : Value) (ms : List Rg) (rs : List Rn) (w : World) (hK : RoomOk ms rs) (hV : RoomV n w mv rv ms rs) :
    Calls Try.prog 92 #[.agg #[mv, rv]] w fun e w' => (∃ Bm cm, e = .returned (.func (.func 107) #[] #[.pointer (some ⟨Bm, 0, none⟩)]) ∧ w'.heap[Bm]? = some (.cells #[.map (some cm)] 145 (0, 0)) ∧ MapIs w' cm (mapE rs (allL ms)) ∧ w.heap.size ≤ Bm ∧ w.heap.size ≤ cm) ∧ Below w.heap.size w w' := by
  have hn := hV.lt
  have hlen := hK.mat.len
  have HAL := Lib.hid fun w' (h : Below w.heap.size w w') => all_any n mv ms w' hK.mat.toRgsOk (hV.below h).m (hV.below h).lt
  have HFO := Lib.hid fun t (ht : t ∈ allL ms) w' (hs : Same n w w') (hn' : n ≤ w'.heap.size) => forbidding_any n ms.length rv rs t w' (by rw [len_of ht]; exact hlen) (rates_of ht hK.mat.toRgsOk) hlen hK.rn hK.len (hV.r.same hs) hn'
  obtain ⟨am, capm, rfl, -⟩ := hV.m
  obtain ⟨ar, capr, rfl, -⟩ := hV.r
  have hmm := @run_makeMap Try.prog
  refine (callsIn_wide (n := 0)).1 ?_
  refine callsIn_of_wp_marks Try.func92 rfl trivial ?_ rfl
  simp only [Try.ntmps92, List.size_toArray, List.length_cons, List.length_nil, Nat.reduceAdd, Nat.reduceSub, Array.replicate_succ, Array.replicate_zero, List.push_toArray, List.append_toArray, List.nil_append, List.cons_append]
  gi_wp2_with fail
  refine ⟨trivial, rfl, ?_⟩
  obtain ⟨W3, hW3⟩ : ∃ W3, ((w.alloc (.cells #[.slice am ms.length capm, .slice ar rs.length capr] 100)).alloc (.map #[] 0)).alloc (.cells #[.map (some (w.heap.size + 1))] 145) = W3 := ⟨_, rfl⟩
  have hb3 : Below w.heap.size w W3 := by rw [← hW3]; exact below3 w _ _ _
  obtain ⟨y0, y1, y2⟩ := box3 w (.cells #[.slice am ms.length capm, .slice ar rs.length capr] 100) (.map #[] 0) (.cells #[.map (some (w.heap.size + 1))] 145)
  rw [hW3] at y0 y1 y2
  rw [hW3]
  refine (callsIn_wide.2 (HAL.out W3 hb3)).mono ?_
  rintro e w1 ⟨Bo, rfl, hb1, hm1, hm2, hseq⟩
  have hs1 := hb1.size
  have hs3 := lt_of_block y2
  have Z0 := Lib.hid ((hb1.block _ (lt_of_block y0)).trans y0)
  have Z1 := Lib.hid ((hb1.block _ (Array.getElem?_eq_some_iff.1 y1).1).trans y1)
  have Z2 := Lib.hid ((hb1.block _ (lt_of_block y2)).trans y2)
  have HB1 := Lib.hid (below_to hb3 hb1)
  have HSEQ := Lib.hid hseq
  have hsz : w.heap.size + 3 ≤ w1.heap.size := by omega
  have hs3' : w.heap.size + 3 ≤ W3.heap.size := by omega
  clear hb1 hseq y0 y1 y2 hW3 hs1
  gi_wp2
  refine wp_rangeD rfl (fun _ _ => rfl) HSEQ.out (Below.refl _ w1) (fun _ => rfl) (fun k => k = w.heap.size + 1) ?t0 ?hc
    (fun T pre A => T (w.heap.size + 1) ∧ MapIs A (w.heap.size + 1) (mapE rs pre))
    (fun c T pre A => False)
    ?ir (fun _ _ _ _ _ h => h.elim) ?h0
    (fun t a' A => ∃ Bx, w1.heap.size + 2 ≤ Bx ∧ A.heap[Bx]? = some (.cells (arrV (pad3 t)) 105 (0, 0)) ∧ a' = { tmps := #[.agg #[.slice am ms.length capm, .slice ar rs.length capr], .pointer (some ⟨w.heap.size, 0, none⟩), .nilFunc, .pointer (some ⟨w.heap.size + 1 + 1, 0, none⟩), .pointer (some ⟨Bx, 0, none⟩), .map (some (w.heap.size + 1)), .pointer (some ⟨w.heap.size, 0, none⟩), .agg #[.slice am ms.length capm], .func (.func 98) #[] #[.pointer (some ⟨Bo, 0, none⟩)], .agg (arrV (pad3 t)), undef, undef, undef, undef, undef, undef, undef], defers := [] })
    ?ax ?assign ?body ?done (fun _ _ _ _ _ h => h.elim)
  case t0 =>
    rintro k rfl
    exact ⟨by omega, fun h => by rcases h with h | h <;> omega⟩
  case hc =>
    intro k hk
    rcases hk with h | h <;> omega
  case ir =>
    rintro T s A B ⟨h1, h2⟩ hR
    exact ⟨h1, h2.same (hR.2 _ h1)⟩
  case h0 => exact ⟨rfl, #[], 0, Z1.out, rfl, MapKept.stamped_empty 0⟩
  case ax =>
    rintro t a' A o ⟨Bx, h1, h2, h3⟩
    exact ⟨Bx, h1, (World.putObj_heap_other (by omega)).trans h2, h3⟩
  case assign =>
    rintro l2 t A ht hA
    have hp3 := pad3_len (x := t) (by have := len_of ht; omega)
    have hlz : (arrV (pad3 t)).size = 3 := by rw [arrV_size, hp3]
    have HLZ := Lib.hid hlz
    have hs105 : Hid ((Try.prog.info? 105).map (·.size) = some (arrV (pad3 t)).size) := s105.trans (by rw [hlz])
    clear hlz hp3
    have hact : (#[9].zip (encX t)) = #[(9, Value.agg (arrV (pad3 t)))] := by simp [encX]
    rw [hact]
    simp only [List.foldl_toArray, Array.foldl_toList, List.foldl_cons, List.foldl_nil, List.setIfInBounds_toArray, List.set_cons_succ, List.set_cons_zero]
    gi_wp2_with (first
      | (refine wpListIn_store_gen rfl 105 (.tmp 4) (.tmp 9) rfl _ 0 (arrV (pad3 t)) rfl rfl (there_block (heap_alloc_new _ _) (by rw [HLZ.out]; exact Nat.le_refl _)) (by exact hs105.out) (arrV_one _) ?_
         intro w2 hw2
         have hbx2 : Below A.heap.size A w2 := by rw [hw2]; exact below_cells (Nat.le_refl _) _ 0 _ ((Below.refl _ A).alloc (Nat.le_refl _) _)
         have hSb : w2.heap[A.heap.size]? = some (.cells (arrV (pad3 t)) 105 (0, 0)) := by rw [hw2]; exact set_whole A.heap.size 105 _ _ _ (by rw [HLZ.out]; rfl) (heap_alloc_new A _)
         clear hw2)
      | fail)
    exact ⟨⟨A.heap.size, by omega, hSb, rfl⟩, hbx2⟩
  case body =>
    rintro l2 T pre t a' A ht hpre ⟨h1, hM⟩ hOf hb hs2 ⟨Bx, hBx, hx, rfl⟩
    have hdis : ∀ k, k < w.heap.size + 3 → k ≠ w.heap.size + 1 → ¬ withLoop (fun k => k = w.heap.size + 1) w1.heap.size k := fun k hk hne h => by
      rcases h with h | h | h <;> omega
    have k0 := (hb.block _ (by omega) (hdis w.heap.size (by omega) (by omega))).trans Z0.out
    have k2 := (hb.block _ (by omega) (hdis (w.heap.size + 1 + 1) (by omega) (by omega))).trans Z2.out
    have hSA : Same n w A := fun k hk => (hb.block k (by omega) (hdis k (by omega) (by omega))).trans (HB1.out.block k (by omega))
    have hp3 := pad3_len (x := t) (by have := len_of ht; omega)
    have hsxt : (Try.prog.info? 105).map (·.size) = some ((pad3 t).map iV).length := s105.trans (by rw [List.length_map, hp3])
    have hnA : n ≤ A.heap.size := by have := hb.size; omega
    have hkx : Bx ≠ w.heap.size + 1 := by omega
    have HFR := Lib.hid (fresh_key (rs := rs) hpre hlen)
    have HKV := Lib.hid (kV_arr (x := t) (by rw [len_of ht]; exact hlen))
    have hrx : (A.heap[Bx]? = some (.cells ((pad3 t).map iV).toArray 105 (0, 0))) := by rw [arr_list']; exact hx
    have HC : Hid (∀ w', But (fun k => k = w.heap.size + 1) A w' → w'.cell? ⟨w.heap.size + 1 + 1, 0, none⟩ = some (.map (some (w.heap.size + 1))) ∧ w'.cell? ⟨w.heap.size, 1, none⟩ = some (.slice ar rs.length capr) ∧ w'.rangeAt Bx 0 ((pad3 t).map iV) ∧ Same n w w' ∧ n ≤ w'.heap.size) := Lib.hid fun w' h => by
      have z0 := (h.block _ (lt_of_block k0) (by omega)).trans k0
      have z2 := (h.block _ (lt_of_block k2) (by omega)).trans k2
      have zx := (h.block _ (lt_of_block hrx) hkx).trans hrx
      exact ⟨cell_of_row w' _ 0 _ _ _ z2, cell_of_row w' _ 1 _ _ _ z0, range_block zx, fun k hk => (h.block k (by omega) (by omega)).trans (hSA k hk), Nat.le_trans hnA h.size⟩
    have HM := Lib.hid hM
    have HT := Lib.hid h1
    clear hM h1 hx hrx k0 k2 hSA hdis hb
    gi_wp2
    refine wpIn_region_chain_round (fun w' => But (fun k => k = w.heap.size + 1) A w') ?hlo (fun _ _ h hb => h.trans (But.of_below hb)) (But.of_below (below_drawn A)) (by kernel_rfl) ?hq
      [(false, 0), (false, 1), (false, 2), (false, 3), (false, 4), (true, 5)] [6] (by kernel_rfl) ?_
    case hlo =>
      rintro ⟨_, _, h⟩
      exact h
    case hq =>
      intro _ _ _ _ _ h
      exact h
    iterate 1
      (refine Walk.takes rfl rfl ?_; apply Exists.intro; refine ⟨fun w2 hS => ?_, ?_⟩; (obtain ⟨d0, d1, -⟩ := HC.out w2 hS; clear hS; go_simp; with_reducible rfl); simp only [List.getElem_toArray, List.getElem_cons_succ, List.getElem_cons_zero, Act.put, List.setIfInBounds_toArray, List.set_cons_zero, List.set_cons_succ])
    (refine Walk.take (v := .agg (arrV (pad3 t))) rfl rfl (fun w2 hS => exec_load_row 105 (.tmp 4) rfl Bx 0 rfl ((pad3 t).map iV) (.array 3 3) (HC.out w2 hS).2.2.1 u105 rfl hsxt (arrV (pad3 t)) (arr_list' _)) ?_; simp only [List.getElem_toArray, List.getElem_cons_succ, List.getElem_cons_zero, Act.put, List.setIfInBounds_toArray, List.set_cons_zero, List.set_cons_succ])
    iterate 2
      (refine Walk.takes rfl rfl ?_; apply Exists.intro; refine ⟨fun w2 hS => ?_, ?_⟩; (obtain ⟨d0, d1, -⟩ := HC.out w2 hS; clear hS; go_simp; with_reducible rfl); simp only [List.getElem_toArray, List.getElem_cons_succ, List.getElem_cons_zero, Act.put, List.setIfInBounds_toArray, List.set_cons_zero, List.set_cons_succ])
    (refine Walk.take (v := .agg (arrV (pad3 t))) rfl rfl (fun w2 hS => exec_load_row 105 (.tmp 4) rfl Bx 0 rfl ((pad3 t).map iV) (.array 3 3) (HC.out w2 hS).2.2.1 u105 rfl hsxt (arrV (pad3 t)) (arr_list' _)) ?_; simp only [List.getElem_toArray, List.getElem_cons_succ, List.getElem_cons_zero, Act.put, List.setIfInBounds_toArray, List.set_cons_zero, List.set_cons_succ])
    refine Walk.calls rfl rfl ?_; apply Exists.intro; apply Exists.intro; refine ⟨fun w2 hS => ?_, fun v1 hb1 => ?_⟩
    · clear hS
      go_simp
      exact ⟨rfl, rfl⟩
    have hbv : But (fun k => k = w.heap.size + 1) A v1 := (But.of_below (below_drawn A)).trans (But.of_below hb1)
    refine (HFO.out t ht v1 (HC.out v1 hbv).2.2.2.1 (HC.out v1 hbv).2.2.2.2).mono ?_
    rintro e v2 ⟨rfl, hb2⟩
    refine ⟨_, rfl, hb2, ?_⟩
    simp only [List.getElem_toArray, List.getElem_cons_succ, List.getElem_cons_zero, Act.put, List.setIfInBounds_toArray, List.set_cons_zero, List.set_cons_succ]
    refine Walk.fin fun v3 hb3 hS3 => ?_
    have hM3 : MapIs v3 (w.heap.size + 1) (mapE rs pre) := HM.out.same (((below_drawn A).trans (hb1.mono (below_drawn A).size) |>.trans (hb2.mono (Nat.le_trans (below_drawn A).size hb1.size)) |>.trans (hb3.mono (Nat.le_trans (below_drawn A).size (Nat.le_trans hb1.size hb2.size)))).block _ (by omega))
    obtain ⟨v4, hr4, hm4, ob, ho4⟩ := put_k hM3 t (forbS rs t) HFR.out
    rw [← HKV.out] at hr4
    have hb4 : But (fun k => k = w.heap.size + 1) A v4 := hS3.trans (by rw [ho4]; exact But.putObj _ _ rfl)
    refine Tail.skip rfl rfl (exec_put_run (.tmp 10) (.tmp 11) (.tmp 15) rfl _ _ _ rfl rfl rfl hr4) hb4 ?_
    simp only [List.getElem_toArray, List.getElem_cons_succ, List.getElem_cons_zero, Act.put, List.setIfInBounds_toArray, List.set_cons_zero, List.set_cons_succ]
    refine Tail.done ?_
    refine ⟨hb4.mono fun k hk => by rw [hk]; exact HT.out, .inl HT.out, ?_⟩
    rw [mapE_snoc]
    exact hm4
  case done =>
    rintro T xs A rfl ⟨h1, hM⟩ hOf hb n0 n1 hKd
    have hdis : ∀ k, k < w.heap.size + 3 → k ≠ w.heap.size + 1 → ¬ withLoop (fun k => k = w.heap.size + 1) w1.heap.size k := fun k hk hne h => by
      rcases h with h | h | h <;> omega
    have k2 := (hb.block _ (by omega) (hdis (w.heap.size + 1 + 1) (by omega) (by omega))).trans Z2.out
    have hBA : Below w.heap.size w A := ⟨hb.os.trans HB1.out.os, hb.tape.trans HB1.out.tape, hb.output.trans HB1.out.output, Nat.le_trans HB1.out.size hb.size, fun k hk => (hb.block k (by omega) (hdis k (by omega) (by omega))).trans (HB1.out.block k hk)⟩
    gi_wp2
    refine ⟨by simp, .inl ⟨_, _, rfl, run_takeDeferred hKd, ?_⟩⟩
    refine ⟨.func (.func 107) #[] #[.pointer (some ⟨w.heap.size + 1 + 1, 0, none⟩)], ?_, ⟨w.heap.size + 1 + 1, w.heap.size + 1, rfl, (World.putObj_heap_other (by omega)).trans k2, hM.same (World.putObj_heap_other (by omega)), by omega, by omega⟩, ⟨hBA.os, hBA.tape, hBA.output, by simpa using hBA.size, fun k hk => (World.putObj_heap_other (by omega)).trans (hBA.block k hk)⟩⟩
    simp [results, Try.results92, go_sem]
end Go.Proofs.Ytfijaafkagcmmaa
namespace Go.Proofs.Ytfijaafkagcmmaa
open Go.RowKit Go.Shelf Go.ChangeMaps
attribute [local irreducible] arrV wpQuiet

def seenAt (w : World) (r : Nat) : Array Nat := match w.heap[r]? with | some (.mapIter _ _ s _) => s | _ => #[]
theorem seenAt_of {w : World} {r b c d : Nat} {s : Array Nat} (h : w.heap[r]? = some (.mapIter (some b) c s d)) : seenAt w r = s := by
  unfold seenAt
  rw [h]
theorem set_below {w w1 : World} {r B : Nat} {o : Obj} (hB : B ≤ r) (hb : Below B w w1) : Below B w (setBlock w1 r o) :=
  ⟨hb.os, hb.tape, hb.output, by simpa [setBlock] using hb.size, fun k hk => by
    have h1 := hb.block k hk
    unfold setBlock
    simp only
    rw [Array.getElem?_setIfInBounds_ne (by omega)]
    exact h1⟩
theorem drew_below {w w1 : World} (h : w1 = w ∨ w1 = w.drew) : Below w.heap.size w w1 := by
  rcases h with rfl | rfl
  · exact Below.refl _ _
  · exact below_drawn w

theorem bV_within {f g o : Nat → Bool} (h : bV f = bV g) : withinS f o = withinS g o := by
  simp only [bV, Value.agg.injEq, Array.mk.injEq, List.cons.injEq, Value.bool.injEq, and_true] at h
  obtain ⟨h0, h1, h2, h3, h4, h5⟩ := h
  have e : ∀ i, i < 6 → f i = g i := fun i hi => by
    match i, hi with
    | 0, _ => exact h0
    | 1, _ => exact h1
    | 2, _ => exact h2
    | 3, _ => exact h3
    | 4, _ => exact h4
    | 5, _ => exact h5
    | n + 6, h => omega
  rw [Bool.eq_iff_iff]
  unfold withinS
  rw [allN_iff, allN_iff]
  exact ⟨fun h i hi => by rw [← e i hi]; exact h i hi, fun h i hi => by rw [e i hi]; exact h i hi⟩

set_option maxRecDepth 100000 in
set_option maxHeartbeats 2000000 in
theorem areAllowed_any (Bm cm : Nat) (E : List (List Int × (Nat → Bool))) (out : Nat → Bool) (w : World) (hB : w.heap[Bm]? = some (.cells #[.map (some cm)] 145 (0, 0))) (hM : MapIs w cm E) :
    Calls Try.prog 107 #[bV out, .pointer (some ⟨Bm, 0, none⟩)] w fun e w' => e = .returned (.bool (E.any fun p => withinS p.2 out)) ∧ Below w.heap.size w w' := by
  obtain ⟨es, clock, hb, he, hst⟩ := hM
  have HVAL : Hid (∀ x, x ∈ es.toList → ∃ p, p ∈ E ∧ x.key = kV p.1 ∧ x.val = bV p.2) := Lib.hid fun x hx => by
    have hm : (x.key, x.val) ∈ es.toList.map (fun e => (e.key, e.val)) := List.mem_map.2 ⟨x, hx, rfl⟩
    rw [he] at hm
    obtain ⟨p, hp, hpe⟩ := List.mem_map.1 hm
    simp only [Prod.mk.injEq] at hpe
    exact ⟨p, hp, hpe.1.symm, hpe.2.symm⟩
  have HBACK : Hid (∀ p, p ∈ E → ∃ x, x ∈ es.toList ∧ x.val = bV p.2) := Lib.hid fun p hp => by
    have hm : (kV p.1, bV p.2) ∈ E.map (fun p => (kV p.1, bV p.2)) := List.mem_map.2 ⟨p, hp, rfl⟩
    rw [← he] at hm
    obtain ⟨x, hx, hxe⟩ := List.mem_map.1 hm
    simp only [Prod.mk.injEq] at hxe
    exact ⟨x, hx, hxe.2⟩
  have hbx := box_below w (.cells #[.bool (out 0), .bool (out 1), .bool (out 2), .bool (out 3), .bool (out 4), .bool (out 5)] 138)
  have hx := heap_alloc_new w (.cells #[.bool (out 0), .bool (out 1), .bool (out 2), .bool (out 3), .bool (out 4), .bool (out 5)] 138)
  have hb1 := (hbx.block _ (Array.getElem?_eq_some_iff.1 hb).1).trans hb
  have hB1 := (hbx.block _ (lt_of_block hB)).trans hB
  have hrg := run_range_map (P := Try.prog) _ 145 105 138 cm es clock u145 hb1
  have c0 := cell_of_row _ Bm 0 _ _ _ hB1
  simp only [List.getElem?_toArray, List.getElem?_cons_zero] at c0
  have c0' := cell_of_row w Bm 0 _ _ _ hB
  simp only [List.getElem?_toArray, List.getElem?_cons_zero] at c0'
  have lB := lt_of_block hB
  have lcm := (Array.getElem?_eq_some_iff.1 hb).1
  have HWI := Lib.hid (isWithin_any · out)
  have HST := Lib.hid hst
  have hb2 := box_below (w.alloc (.cells #[.bool (out 0), .bool (out 1), .bool (out 2), .bool (out 3), .bool (out 4), .bool (out 5)] 138)) (.mapIter (some cm) clock #[] clock)
  have hi2 := heap_alloc_new (w.alloc (.cells #[.bool (out 0), .bool (out 1), .bool (out 2), .bool (out 3), .bool (out 4), .bool (out 5)] 138)) (.mapIter (some cm) clock #[] clock)
  have X2 := Lib.hid ((hb2.block _ (lt_of_block hx)).trans hx)
  have M2 := Lib.hid ((hb2.block _ (Array.getElem?_eq_some_iff.1 hb1).1).trans hb1)
  have I2 := Lib.hid hi2
  have B2 := Lib.hid (below_to hbx hb2)
  clear hb he hst hbx hx hb1 hB1 hb2 hi2 hB
  simp only [World.size_alloc] at I2 hrg
  unfold bV
  go_enter Try.func107, Try.ntmps107
  go_wp2
  generalize World.alloc (World.alloc w _) _ = W at *
  have HANY : Hid (∀ z, (∀ p, p ∈ E → withinS p.2 out = false) → z = false → Ending.returned (.bool z) = .returned (.bool (E.any fun p => withinS p.2 out))) := Lib.hid fun z h hz => by
    rw [hz, show (E.any fun p => withinS p.2 out) = false from List.any_eq_false.2 fun p hp => by rw [h p hp]; simp]
  have HYES : Hid (∀ p, p ∈ E → withinS p.2 out = true → Ending.returned (.bool true) = .returned (.bool (E.any fun p => withinS p.2 out))) := Lib.hid fun p hp h => by
    rw [show (E.any fun p => withinS p.2 out) = true from List.any_eq_true.2 ⟨p, hp, h⟩]
  go_loopw [] (fun wr => ∃ seen, Hid (wr.heap[w.heap.size + 1]? = some (.mapIter (some cm) clock seen clock)) ∧ Hid (wr.heap[cm]? = some (.map es clock)) ∧ Hid (wr.heap[w.heap.size]? = some (.cells #[.bool (out 0), .bool (out 1), .bool (out 2), .bool (out 3), .bool (out 4), .bool (out 5)] 138 (0, 0))) ∧ Hid (Below w.heap.size w wr) ∧
    Hid (∀ x, x ∈ es.toList → seen.contains x.born = true → ∀ p, x.val = bV p → withinS p out = false)) (fun wr => (leftOf es (seenAt wr (w.heap.size + 1))).size)
  case atStart => exact ⟨#[], I2, M2, X2, B2, Lib.hid (fun x _ h => by simp at h)⟩
  case round =>
    clear I2 M2 X2 B2
    obtain ⟨seen, HI, HM, HX, HB, HNO⟩ := hrel
    rcases run_next_at (P := Try.prog) wr 0 (w.heap.size + 1) cm clock clock seen es clock HI.out HM.out HST.out.1 (Nat.le_refl _) with ⟨h0, hrun⟩ | ⟨e, hel, w1, hw1, hrun⟩
    · have hnx : ∀ ty, (Instr.next (.pointer (some ⟨w.heap.size + 1, 0, none⟩)) false ty).run Try.prog wr = _ := fun _ => hrun
      have HALL : Hid (∀ p, p ∈ E → withinS p.2 out = false) := Lib.hid fun p hp => by
        obtain ⟨x, hx, hxe⟩ := HBACK.out p hp
        exact HNO.out x hx (all_seen es seen h0 x hx) p.2 hxe
      clear HNO HVAL HBACK
      go_wp2
      go_ret
      exact ⟨HANY.out _ HALL.out rfl, HB.out⟩
    · obtain ⟨hem, hes⟩ := mem_left hel
      obtain ⟨p, hp, hpk, hpv⟩ := HVAL.out e hem
      have HSH := Lib.hid (left_shrinks es seen e hel)
      have HSN := Lib.hid (seenAt_of HI.out)
      have HB1 : Hid (Below w.heap.size w w1) := Lib.hid (below_to HB.out (drew_below hw1))
      have hdb := drew_below hw1
      have i1 := (hdb.block _ (Array.getElem?_eq_some_iff.1 HI.out).1).trans HI.out
      have m1 := (hdb.block _ (Array.getElem?_eq_some_iff.1 HM.out).1).trans HM.out
      have x1 := (hdb.block _ (lt_of_block HX.out)).trans HX.out
      have hset := MapKept.heap_set (o' := Obj.mapIter (some cm) clock (seen.push e.born) clock) i1
      have hcm : cm ≠ w.heap.size + 1 := by omega
      obtain ⟨w2, hw2⟩ : ∃ w2, setBlock w1 (w.heap.size + 1) (.mapIter (some cm) clock (seen.push e.born) clock) = w2 := ⟨_, rfl⟩
      have i2 : w2.heap[w.heap.size + 1]? = some (.mapIter (some cm) clock (seen.push e.born) clock) := by rw [← hw2]; exact hset.1
      have m2 : w2.heap[cm]? = some (.map es clock) := by rw [← hw2]; exact (hset.2 cm hcm).trans m1
      have x2 : w2.heap[w.heap.size]? = some (.cells #[.bool (out 0), .bool (out 1), .bool (out 2), .bool (out 3), .bool (out 4), .bool (out 5)] 138 (0, 0)) := by rw [← hw2]; exact (hset.2 w.heap.size (by omega)).trans x1
      have HB2 : Hid (Below w.heap.size w w2) := Lib.hid (by rw [← hw2]; exact set_below (by omega) HB1.out)
      have hen := run_entry_at (P := Try.prog) w2 (w.heap.size + 1) cm clock seen es clock e i2 m2 hem HST.out.2.1
      rw [hw2] at hrun
      have HE : Hid (e.val = bV p.2) := Lib.hid hpv
      rw [hpk, hpv] at hrun hen
      have HPE := Lib.hid hp
      have HEM := Lib.hid hem
      have I2 := Lib.hid i2
      have M2 := Lib.hid m2
      have X2 := Lib.hid x2
      have cells := Lib.hid (bits x2)
      have k0 := cells.out 0 (by decide)
      have k1 := cells.out 1 (by decide)
      have k2 := cells.out 2 (by decide)
      have k3 := cells.out 3 (by decide)
      have k4 := cells.out 4 (by decide)
      have k5 := cells.out 5 (by decide)
      have lx := lt_of_block x2
      have HNO2 : Hid (withinS p.2 out = false → ∀ x, x ∈ es.toList → (seen.push e.born).contains x.born = true → ∀ q, x.val = bV q → withinS q out = false) := Lib.hid fun h x hx hc q hq => by
        rw [contains_push] at hc
        rcases Bool.or_eq_true _ _ ▸ hc with h1 | h1
        · exact HNO.out x hx h1 q hq
        · obtain rfl : x = e := born_inj HST.out.2.1 hx HEM.out (beq_iff_eq.1 h1)
          have hqq : bV q = bV p.2 := hq.symm.trans HE.out
          rw [bV_within hqq]
          exact h
      have HY := Lib.hid (HYES.out p HPE.out)
      have HWP := Lib.hid (HWI.out p.2)
      unfold bV at hrun hen HWP
      have hnx : ∀ ty, (Instr.next (.pointer (some ⟨w.heap.size + 1, 0, none⟩)) false ty).run Try.prog wr = _ := fun _ => hrun
      clear hrun hdb i1 m1 x1 hset hw2 i2 m2 x2 hp hpk hpv hem hes hel HI HM HX HB HB1 HNO HYES HVAL HBACK HANY hw1 HPE HE HEM cells
      go_wp2_with fail
      have hbz := box_below w2 (.cells #[.bool (p.2 0), .bool (p.2 1), .bool (p.2 2), .bool (p.2 3), .bool (p.2 4), .bool (p.2 5)] 138)
      refine (HWP.out _).mono ?_
      rintro e3 w3 ⟨rfl, hb3⟩
      have hb23 := grow_to hbz hb3
      have I3 := Lib.hid ((hb23.block _ (Array.getElem?_eq_some_iff.1 I2.out).1).trans I2.out)
      have M3 := Lib.hid ((hb23.block _ (Array.getElem?_eq_some_iff.1 M2.out).1).trans M2.out)
      have X3 := Lib.hid ((hb23.block _ (lt_of_block X2.out)).trans X2.out)
      have B3 := Lib.hid (below_to HB2.out hb23)
      clear hbz hb3 hb23 I2 M2 X2 HB2 hen hnx k0 k1 k2 k3 k4 k5 lx
      cases hz : withinS p.2 out with
      | false =>
        have HN3 := Lib.hid (HNO2.out hz)
        clear hz HNO2 HY
        go_wp2
        go_roundw
        case rel => exact ⟨seen.push e.born, I3, M3, X3, B3, HN3⟩
        case measure =>
          rw [seenAt_of I3.out, HSN.out]
          exact HSH.out
      | true =>
        have HYF := Lib.hid (HY.out hz)
        clear hz HNO2 HY
        go_wp2
        go_ret
        exact ⟨HYF.out, B3.out⟩
end Go.Proofs.Ytfijaafkagcmmaa
