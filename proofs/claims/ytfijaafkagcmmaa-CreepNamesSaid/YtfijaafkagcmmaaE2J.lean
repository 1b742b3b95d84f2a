/- Lists of numbers of one's own: a clone, and the law's copy. Condition: one number at least, a thousand at most. What segments do, by the reference: its contract. Condition: rates of the bands that the segments name, a valid plan. -/
import Derived.Test.YtfijaafkagcmmaaR11
namespace Go.Proofs.Ytfijaafkagcmmaa
open Go.RowKit Go.Shelf
attribute [local irreducible] arrV wpQuiet

def IntsV (n : Nat) (w : World) (v : Value) (t : List Int) : Prop :=
  ∃ a cap, v = .slice a t.length cap ∧ t.length ≤ cap ∧ (0 < t.length → ∃ b off, a = some ⟨b, off, none⟩ ∧ b < n ∧ ∀ i, i < t.length → w.cell? ⟨b, off + i, none⟩ = some (.int .i64 (ld t i)))
theorem IntsV.same {n : Nat} {w w' : World} {v : Value} {t : List Int} (h : IntsV n w v t) (hs : Same n w w') : IntsV n w' v t := by
  obtain ⟨a, cap, rfl, hc, hp⟩ := h
  refine ⟨a, cap, rfl, hc, fun h0 => ?_⟩
  obtain ⟨b, off, rfl, hb, hc⟩ := hp h0
  exact ⟨b, off, rfl, hb, fun i hi => hs.cell hb (hc i hi)⟩
theorem IntsV.up {n m : Nat} {w : World} {v : Value} {t : List Int} (h : IntsV n w v t) (hm : n ≤ m) : IntsV m w v t := by
  obtain ⟨a, cap, rfl, hc, hp⟩ := h
  refine ⟨a, cap, rfl, hc, fun h0 => ?_⟩
  obtain ⟨b, off, rfl, hb, hc⟩ := hp h0
  exact ⟨b, off, rfl, by omega, hc⟩
theorem map_iV_get (t : List Int) (i : Nat) (h : i < t.length) : (t.map iV)[i]? = some (.int .i64 (ld t i)) := by simp [ld, h, iV]
theorem own_ints {w : World} {base : Nat} {v : Value} {t : List Int} (h : w.ownsRow base 3 1 v t.length (t.map iV)) (h0 : 0 < t.length) : IntsV w.heap.size w v t := by
  rcases h.2 with ⟨hv, hz⟩ | ⟨g, cap, cur, hv, hb, hg, hn', _, hs, ht⟩
  · omega
  · obtain ⟨g', cap', e, hb', hlt, hc⟩ := own_get h h0
    rw [hv] at e
    cases e
    refine ⟨_, cap, hv, hn', fun _ => ⟨g, 0, rfl, hlt, fun i hi => ?_⟩⟩
    rw [Nat.zero_add, hc i (by omega)]
    exact map_iV_get t i hi

set_option maxRecDepth 100000 in
theorem app_ints (m base : Nat) (v z : Value) (ty : Nat) (t : List Int) (W : World) (h0 : 0 < t.length) (hn : t.length ≤ 1000) (hown : W.ownsRow base 3 1 v 0 []) (hb : base ≤ W.heap.size) (hz : IntsV m W z t) :
    ∃ g c w', (Builtin.append_ #[26, 26] ty #[v, z]).run Try.prog W = .ok (.slice (some ⟨g, 0, none⟩) t.length c) w' ∧ w'.ownsRow base 3 1 (.slice (some ⟨g, 0, none⟩) t.length c) t.length (t.map iV) ∧ Below base W w' := by
  obtain ⟨a, cap, rfl, -, hp⟩ := hz
  obtain ⟨b, off, rfl, hbm, hc⟩ := hp h0
  obtain ⟨i, z, hi, hz, hs, hby, hzs⟩ := el26.i
  obtain ⟨g, c, w', hrun, h2, h3, h4, h5⟩ := run_append_lies (P := Try.prog) W 26 ty base 3 i z 1 8 el26.u hi hz hs hby hzs (by decide) v 0 [] hown ⟨b, off, none⟩ t.length cap (t.map iV) (by simp)
    (fun j u hj => by
      have hjl : j < t.length := by
        have := (List.getElem?_eq_some_iff.1 hj).1
        simpa using this
      rw [Addr.add_lit, hc j hjl, ← map_iV_get t j hjl]
      exact hj)
    (fun u hu => by
      obtain ⟨x, _, rfl⟩ := List.mem_map.1 hu
      rfl) h0 (by simp [maxLen]; omega) (by omega) hb W.heap.size rfl
  rw [Nat.zero_add] at hrun h2
  rw [List.nil_append] at h2
  refine ⟨g, c, w', hrun, h2, h3.os, h3.tape, h3.output, h3.size, fun k hk => h3.block k (by omega) (fun e => ?_)⟩
  have := (own_lt hown e.symm).1
  omega

set_option maxRecDepth 100000 in
set_option maxHeartbeats 1000000 in
theorem list_any (m : Nat) (z : Value) (t : List Int) (w : World) (h0 : 0 < t.length) (hn : t.length ≤ 1000) (hz : IntsV m w z t) :
    Calls Try.prog 22 #[z] w fun e w' => (∃ v, e = .returned v ∧ IntsV w'.heap.size w' v t) ∧ Below w.heap.size w w' := by
  obtain ⟨g, c, w', hrun, hown, hb⟩ := app_ints m w.heap.size (.slice none 0 0) z 26 t w h0 hn (World.ownsRow_nil _ _ _ _) (Nat.le_refl _) hz
  have HRUN := Lib.hid hrun
  have HO := Lib.hid (own_ints hown h0)
  have HB := Lib.hid hb
  obtain ⟨a, cap, rfl, -⟩ := hz
  clear hrun hown hb
  go_enter Try.func22, Try.ntmps22
  go_wp2_with (first
    | (refine wpList_append_run (v := .slice (some ⟨g, 0, none⟩) t.length c) (W' := w') (y := .slice none 0 0) (z := .slice a t.length cap) rfl (.const (.slice none 0 0)) (.tmp 3) 26 26 26 rfl rfl rfl rfl HRUN.out ?_)
    | fail)
  go_ret
  exact ⟨⟨_, rfl, HO.out⟩, HB.out⟩

set_option maxRecDepth 100000 in
set_option maxHeartbeats 1000000 in
theorem clone_any (m : Nat) (b off cap : Nat) (t : List Int) (w : World) (h0 : 0 < t.length) (hn : t.length ≤ 1000) (hm : m ≤ w.heap.size) (hz : IntsV m w (.slice (some ⟨b, off, none⟩) t.length cap) t) :
    Calls Try.prog 65 #[.slice (some ⟨b, off, none⟩) t.length cap] w fun e w' => (∃ v, e = .returned v ∧ IntsV w'.heap.size w' v t) ∧ Below w.heap.size w w' := by
  have hal := box_below w (.cells #[] 3)
  obtain ⟨g, c, w', hrun, hown, hb⟩ := app_ints m w.heap.size (.slice (some ⟨w.heap.size, 0, none⟩) 0 0) _ 26 t (w.alloc (.cells #[] 3)) h0 hn ⟨rfl, .inr ⟨w.heap.size, 0, #[], rfl, Nat.le_refl _, heap_alloc_new w _, Nat.le_refl _, Nat.zero_le _, rfl, rfl⟩⟩ hal.size (hz.same (.below hm hal))
  have HRUN := Lib.hid hrun
  have HO := Lib.hid (own_ints hown h0)
  have HB := Lib.hid (hal.trans hb)
  have heq : ∀ w, (binOp .eql 26 (.slice (some ⟨b, off, none⟩) t.length cap) (.slice none 0 0)).run Try.prog w = .ok (.bool false) w := fun w => by kernel_rfl
  clear hrun hown hb hz hal
  go_enter Try.func65, Try.ntmps65
  go_wp2_with (first
    | (refine wpList_append_run (v := .slice (some ⟨g, 0, none⟩) t.length c) (W' := w') (y := .slice (some ⟨w.heap.size, 0, none⟩) 0 0) (z := .slice (some ⟨b, off, none⟩) t.length cap) rfl (.tmp 5) (.tmp 6) 26 26 26 rfl rfl rfl rfl HRUN.out ?_)
    | fail)
  go_ret
  exact ⟨⟨_, rfl, HO.out⟩, HB.out⟩
end Go.Proofs.Ytfijaafkagcmmaa
namespace Go.Proofs.Ytfijaafkagcmmaa
open Go.RowKit Go.Shelf
attribute [local irreducible] arrV wpQuiet

theorem loS_take {ss : List Sg} {x : List Int} {q : Nat} (h : q < ss.length) : loS (ss.take (q + 1)) x = loS (ss.take q) x + rt x (sg ss q).b * (sg ss q).h.lo ∧ hiS (ss.take (q + 1)) x = hiS (ss.take q) x + rt x (sg ss q).b * (sg ss q).h.hi := by
  have e : sg ss q = ss[q] := by simp [sg, h]
  rw [take_snoc h, e]
  exact ⟨loS_snoc _ _ _, hiS_snoc _ _ _⟩

set_option maxRecDepth 100000 in
set_option maxHeartbeats 4000000 in
theorem refStretch_any (n : Nat) (pv xv : Value) (ss : List Sg) (x : List Int) (w : World) (hx : Rates x) (hP : PlanOk x.length ss) (hV : SegsV n w pv ss) (hX : IntsV n w xv x) (hn : n ≤ w.heap.size) (hxl : x.length ≤ 1000) :
    Calls Try.prog 34 #[pv, xv] w fun e w' => e = .returned (.agg #[.int .i64 (loS ss x), .int .i64 (hiS ss x)]) ∧ Below w.heap.size w w' := by
  obtain ⟨a, cap, rfl, hp⟩ := hV
  obtain ⟨xa, xcap, rfl, hxc, hxp⟩ := hX
  have HP := Lib.hid hp
  have HXP := Lib.hid hxp
  have HPO := Lib.hid hP
  have HR := Lib.hid hx
  have hpl := hP.len
  obtain ⟨y0, y1⟩ := box2 w (.cells #[.int .i64 0, .int .i64 0] 60) (.cells #[.int .i64 0, .int .i64 0] 60)
  have hbb := Lib.hid (below2 w (.cells #[.int .i64 0, .int .i64 0] 60) (.cells #[.int .i64 0, .int .i64 0] 60))
  have Y0 := Lib.hid y0
  have Y1 : Hid (((w.alloc (.cells #[.int .i64 0, .int .i64 0] 60)).alloc (.cells #[.int .i64 0, .int .i64 0] 60)).heap[w.heap.size + 1]? = some (.cells #[.int .i64 (loS (ss.take 0) x), .int .i64 (hiS (ss.take 0) x)] 60 (0, 0))) := Lib.hid (by simpa [loS, hiS] using y1)
  clear y0 y1 hp hxp hP hx
  go_enter Try.func34, Try.ntmps34
  go_wp2
  go_loopw [6] (fun i wr => ∃ q : Nat, q ≤ ss.length ∧ i = .int .i64 q ∧ Hid (wr.heap[w.heap.size]? = some (.cells #[.int .i64 0, .int .i64 0] 60 (0, 0))) ∧
      Hid (wr.heap[w.heap.size + 1]? = some (.cells #[.int .i64 (loS (ss.take q) x), .int .i64 (hiS (ss.take q) x)] 60 (0, 0))) ∧ Hid (Below w.heap.size w wr)) (fun i _ => ss.length - (intOf i).toNat)
  case atStart => exact ⟨0, Nat.zero_le _, rfl, Y0, Y1, hbb⟩
  case round =>
    obtain ⟨q, hq, rfl, hx0, hx1, hb⟩ := hrel
    by_cases hlt : q < ss.length
    · obtain ⟨b, off, rfl, hbn, hc⟩ := HP.out (by omega)
      have hltb : b < w.heap.size := by omega
      have p1 := (hb.out.cell (p := ⟨b, off + q * 3, none⟩) hltb).trans (hc q hlt).1
      have p2 := (hb.out.cell (p := ⟨b, off + q * 3 + 1, none⟩) hltb).trans (hc q hlt).2.1
      have p3 := (hb.out.cell (p := ⟨b, off + q * 3 + 2, none⟩) hltb).trans (hc q hlt).2.2
      clear hc
      have K := HPO.out.sg _ (sg_mem hlt)
      have hRb := HR.out (sg ss q).b
      have q1 := prod_le hRb.1 hRb.2 K.lo (by have := K.le; have := K.hi; omega)
      have q2 := prod_le hRb.1 hRb.2 (b := (sg ss q).h.hi) (by have := K.le; have := K.lo; omega) K.hi
      have S0 := sums HR.out (ss := ss.take q) (fun s hs => HPO.out.sg s (List.mem_of_mem_take hs))
      have hqt : ((ss.take q).length : Int) ≤ 8 := by simp; omega
      have hqn : (q : Int) < ss.length := by omega
      have hw9 : IntKind.i64.wrap ((q : Int) + 1) = (q : Int) + 1 := IntWalk.i64_in _ (by omega)
      have PT := Lib.hid (loS_take (x := x) hlt)
      obtain ⟨B, hB⟩ : ∃ B : Nat, (sg ss q).b = (B : Int) := ⟨(sg ss q).b.toNat, by have := K.b0; omega⟩
      have hBx : B < x.length := by have := K.bn; omega
      have hBI : (B : Int) < x.length := by omega
      obtain ⟨xb, xoff, rfl, hxbn, hxc2⟩ := HXP.out (by omega)
      have hltx : xb < w.heap.size := by omega
      have p4 := (hb.out.cell (p := ⟨xb, xoff + B, none⟩) hltx).trans (hxc2 B hBx)
      have hrl : rt x (sg ss q).b = ld x B := by rw [hB]; simp [rt, ld]
      rw [hrl] at q1 q2 PT
      rw [hB] at p1
      generalize (sg ss q).h.lo = lo at *
      generalize (sg ss q).h.hi = hi at *
      generalize ld x B = R at *
      generalize loS (ss.take q) x = sl at *
      generalize hiS (ss.take q) x = sh at *
      have w1 : IntKind.i64.wrap (R * lo) = R * lo := IntWalk.i64_in _ (by omega)
      have w2 : IntKind.i64.wrap (R * hi) = R * hi := IntWalk.i64_in _ (by omega)
      have w3 : IntKind.i64.wrap (sl + R * lo) = sl + R * lo := IntWalk.i64_in _ (by omega)
      have w4 : IntKind.i64.wrap (sh + R * hi) = sh + R * hi := IntWalk.i64_in _ (by omega)
      clear K hRb q1 q2 hrl hB S0 hqt hxc2
      go_wp2
      have hbx := box_below wr (.cells #[.int .i64 B, .int .i64 lo, .int .i64 hi] 84)
      have hnx := heap_alloc_new wr (.cells #[.int .i64 B, .int .i64 lo, .int .i64 hi] 84)
      have HZ0 := Lib.hid ((hbx.block _ (lt_of_block hx0.out)).trans hx0.out)
      have HZ1 := Lib.hid ((hbx.block _ (lt_of_block hx1.out)).trans hx1.out)
      have HBT := Lib.hid (below_to hb.out hbx)
      have q4 := (hbx.cell (p := ⟨xb, xoff + B, none⟩) (by have := hb.out.size; show xb < wr.heap.size; omega)).trans p4
      have hlx := Nat.lt_of_lt_of_le hltx HBT.out.size
      clear hx0 hx1 hb p1 p2 p3 p4
      generalize World.alloc wr _ = Wv at *
      generalize wr.heap.size = Bv at *
      have d0 := cell_of_row Wv Bv 0 _ _ _ hnx
      have d1 := cell_of_row Wv Bv 1 _ _ _ hnx
      have d2 := cell_of_row Wv Bv 2 _ _ _ hnx
      have c0 := cell_of_row Wv (w.heap.size + 1) 0 _ _ _ HZ1.out
      have c1 := cell_of_row Wv (w.heap.size + 1) 1 _ _ _ HZ1.out
      simp only [List.getElem?_toArray, List.getElem?_cons_zero, List.getElem?_cons_succ] at d0 d1 d2 c0 c1
      have lv := lt_of_block hnx
      have ls := lt_of_block HZ1.out
      clear hbx hnx
      go_still_tail 25, (by kernel_rfl)
      change wpList _ _ _ _ _ Wv.drew
      have hbd := below_drawn Wv
      have HZ0' := Lib.hid ((hbd.block _ (lt_of_block HZ0.out)).trans HZ0.out)
      have HZ1' := Lib.hid ((hbd.block _ (lt_of_block HZ1.out)).trans HZ1.out)
      have HBT' := Lib.hid (below_to HBT.out hbd)
      change Hid (Wv.drew.heap[_]? = _) at HZ0'
      change Hid (Wv.drew.heap[_]? = _) at HZ1'
      change Hid (Below _ _ Wv.drew) at HBT'
      clear d0 d1 d2 c0 c1 lv ls hbd HZ0 HZ1 HBT q4 hlx
      generalize Wv.drew = W2 at *
      have e0 := cell_of_row W2 (w.heap.size + 1) 0 _ _ _ HZ1'.out
      have e1 := cell_of_row W2 (w.heap.size + 1) 1 _ _ _ HZ1'.out
      simp only [List.getElem?_toArray, List.getElem?_cons_zero, List.getElem?_cons_succ] at e0 e1
      have f0 := frozen_of_row W2 (w.heap.size + 1) 0 _ _ HZ1'.out
      have f1 := frozen_of_row W2 (w.heap.size + 1) 1 _ _ HZ1'.out
      have ls := lt_of_block HZ1'.out
      go_wp2
      go_roundw
      case rel =>
        refine ⟨q + 1, by omega, by simp, Lib.hid ?_, Lib.hid ?_, Lib.hid ?_⟩
        · exact (put2_other _ _ _ _ _ (by omega)).trans HZ0'.out
        · rw [PT.out.1, PT.out.2]
          exact put2 _ _ _ _ _ _ _ HZ1'.out
        · exact put2_below _ _ HBT'.out (by omega)
      case measure => simp [intOf] <;> omega
    · obtain rfl : q = ss.length := by omega
      rw [List.take_length] at hx1
      have c0 := cell_of_row wr (w.heap.size + 1) 0 _ _ _ hx1.out
      have c1 := cell_of_row wr (w.heap.size + 1) 1 _ _ _ hx1.out
      simp at c0 c1
      have d0 := cell_of_row wr w.heap.size 0 _ _ _ hx0.out
      have d1 := cell_of_row wr w.heap.size 1 _ _ _ hx0.out
      simp at d0 d1
      have f0 := frozen_of_row wr w.heap.size 0 _ _ hx0.out
      have f1 := frozen_of_row wr w.heap.size 1 _ _ hx0.out
      have l0 := lt_of_block hx0.out
      have l1 := lt_of_block hx1.out
      go_wp2
      refine bodyPost_ret (v := .agg #[.int .i64 (loS ss x), .int .i64 (hiS ss x)]) ?_ rfl ⟨rfl, put2_below _ _ hb.out (Nat.le_refl _)⟩
      simp [results, Try.results34, go_sem, *]
end Go.Proofs.Ytfijaafkagcmmaa
