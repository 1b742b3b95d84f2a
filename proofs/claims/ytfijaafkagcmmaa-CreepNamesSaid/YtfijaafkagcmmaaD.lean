/- What segments do, for rates: sums, stretches, and whether a run allows rates: contracts. Conditions: rates and segments that are valid. -/
import Derived.Test.YtfijaafkagcmmaaC
import Derived.Test.YtfijaafkagcmmaaS2
import Derived.Test.YtfijaafkagcmmaaYY
namespace Go.Proofs.Ytfijaafkagcmmaa
open Go.RowKit Go.Shelf
attribute [local irreducible] arrV

theorem put2 (w : World) (b : Nat) (x y x' y' : Value) (t : TypeId) (h : w.heap[b]? = some (.cells #[x, y] t (0, 0))) : ((w.setCell ⟨b, 0, none⟩ x').setCell ⟨b, 1, none⟩ y').heap[b]? = some (.cells #[x', y'] t (0, 0)) := by
  have h1 := heap_setCell_same w b 0 _ t x' h
  have h2 := heap_setCell_same _ b 1 _ t y' h1
  simpa using h2
theorem put2_other (w : World) (b k : Nat) (x' y' : Value) (hk : k ≠ b) : ((w.setCell ⟨b, 0, none⟩ x').setCell ⟨b, 1, none⟩ y').heap[k]? = w.heap[k]? :=
  (heap_setCell_other _ ⟨b, 1, none⟩ k y' hk).trans (heap_setCell_other w ⟨b, 0, none⟩ k x' hk)
theorem put2_size (w : World) (b : Nat) (x' y' : Value) : ((w.setCell ⟨b, 0, none⟩ x').setCell ⟨b, 1, none⟩ y').heap.size = w.heap.size := by simp [World.setCell]
theorem put2_below {B : Nat} {A w : World} {b : Nat} (x' y' : Value) (h : Below B A w) (hb : B ≤ b) : Below B A ((w.setCell ⟨b, 0, none⟩ x').setCell ⟨b, 1, none⟩ y') :=
  (h.setCell (p := ⟨b, 0, none⟩) hb x').setCell (p := ⟨b, 1, none⟩) hb y'

set_option maxRecDepth 100000 in
set_option maxHeartbeats 1000000 in
theorem sum_any (n : Nat) (v : Value) (l : List Rg) (w : World) (hs : SmallR l) (hl : l.length ≤ 8) (hV : RgsV n w v l) (hn : n ≤ w.heap.size) :
    Calls Try.prog 101 #[v] w fun e w' => e = .returned (.agg #[.int .i64 (sumLoR l), .int .i64 (sumHiR l)]) ∧ Below w.heap.size w w' := by
  obtain ⟨a, cap, rfl, hp⟩ := hV
  have HS := Lib.hid (fun q => small_sum hs q)
  have HT : Hid (∀ q, q < l.length → sumLoR (l.take (q + 1)) = sumLoR (l.take q) + (rg l q).lo ∧ sumHiR (l.take (q + 1)) = sumHiR (l.take q) + (rg l q).hi) := Lib.hid fun q hq => by
    rw [take_snoc hq]
    have e : rg l q = l[q] := by simp [rg, hq]
    rw [e]
    exact sumR_snoc _ _
  have HP := Lib.hid hp
  have hb0 := Lib.hid (box2 w (.cells #[.int .i64 0, .int .i64 0] 50) (.cells #[.int .i64 0, .int .i64 0] 50))
  have hbb := Lib.hid (below2 w (.cells #[.int .i64 0, .int .i64 0] 50) (.cells #[.int .i64 0, .int .i64 0] 50))
  clear hp hs
  go_enter Try.func101, Try.ntmps101
  go_wp2
  go_loopw [8] (fun i wr => ∃ q : Nat, q ≤ l.length ∧ i = .int .i64 q ∧ Hid (wr.heap[w.heap.size]? = some (.cells #[.int .i64 0, .int .i64 0] 50 (0, 0))) ∧
      Hid (wr.heap[w.heap.size + 1]? = some (.cells #[.int .i64 (sumLoR (l.take q)), .int .i64 (sumHiR (l.take q))] 50 (0, 0))) ∧ Hid (Below w.heap.size w wr)) (fun i _ => l.length - (intOf i).toNat)
  case atStart => exact ⟨0, Nat.zero_le _, rfl, Lib.hid hb0.out.1, Lib.hid (by simpa [sumLoR, sumHiR] using hb0.out.2), hbb⟩
  case round =>
    obtain ⟨q, hq, rfl, hx0, hx1, hb⟩ := hrel
    by_cases hlt : q < l.length
    · obtain ⟨b, off, rfl, hbn, hc⟩ := HP.out (by omega)
      have hltb : b < w.heap.size := by omega
      have p1 := (hb.out.cell (p := ⟨b, off + q * 2, none⟩) hltb).trans (hc q hlt).1
      have p2 := (hb.out.cell (p := ⟨b, off + q * 2 + 1, none⟩) hltb).trans (hc q hlt).2
      clear hc
      have c0 := cell_of_row wr (w.heap.size + 1) 0 _ _ _ hx1.out
      have c1 := cell_of_row wr (w.heap.size + 1) 1 _ _ _ hx1.out
      simp at c0 c1
      have f0 := frozen_of_row wr (w.heap.size + 1) 0 _ _ hx1.out
      have f1 := frozen_of_row wr (w.heap.size + 1) 1 _ _ hx1.out
      have l1 := lt_of_block hx1.out
      have hqn : (q : Int) < l.length := by omega
      have hw9 : IntKind.i64.wrap ((q : Int) + 1) = (q : Int) + 1 := IntWalk.i64_in _ (by omega)
      have s1 := HS.out (q + 1)
      have s2 := HT.out q hlt
      rw [s2.1, s2.2] at s1
      have w1 : IntKind.i64.wrap (sumLoR (l.take q) + (rg l q).lo) = sumLoR (l.take q) + (rg l q).lo := IntWalk.i64_in _ (by omega)
      have w2 : IntKind.i64.wrap (sumHiR (l.take q) + (rg l q).hi) = sumHiR (l.take q) + (rg l q).hi := IntWalk.i64_in _ (by omega)
      have S2 := Lib.hid s2
      clear s1 s2
      go_wp2
      go_roundw
      case rel =>
        have hsz := hb.out.size
        refine ⟨q + 1, by omega, by simp, Lib.hid ?_, Lib.hid ?_, Lib.hid ?_⟩
        · rw [heap_alloc_low _ _ _ (by rw [put2_size]; omega), put2_other _ _ _ _ _ (by omega)]
          exact hx0.out
        · rw [heap_alloc_low _ _ _ (by rw [put2_size]; omega), S2.out.1, S2.out.2]
          exact put2 _ _ _ _ _ _ _ hx1.out
        · exact (put2_below _ _ hb.out (by omega)).alloc (by rw [put2_size]; omega) _
      case measure => simp [intOf] <;> omega
    · obtain rfl : q = l.length := by omega
      rw [List.take_length] at hx1
      have c0 := cell_of_row wr (w.heap.size + 1) 0 _ _ _ hx1.out
      have c1 := cell_of_row wr (w.heap.size + 1) 1 _ _ _ hx1.out
      simp at c0 c1
      have d0 := cell_of_row wr w.heap.size 0 _ _ _ hx0.out
      have d1 := cell_of_row wr w.heap.size 1 _ _ _ hx0.out
      simp at d0 d1
      have f0 := frozen_of_row wr w.heap.size 0 _ _ hx0.out
      have f1 := frozen_of_row wr w.heap.size 1 _ _ hx0.out
      have l0 := lt_of_block hx0.out
      have l1 := lt_of_block hx1.out
      go_wp2
      refine bodyPost_ret (v := .agg #[.int .i64 (sumLoR l), .int .i64 (sumHiR l)]) ?_ rfl ⟨rfl, put2_below _ _ hb.out (Nat.le_refl _)⟩
      simp [results, Try.results101, go_sem, *]

theorem partsL_take {ss : List Sg} {x : List Int} {q : Nat} (h : q < ss.length) : partsL (ss.take (q + 1)) x = partsL (ss.take q) x ++ [⟨rt x (sg ss q).b * (sg ss q).h.lo, rt x (sg ss q).b * (sg ss q).h.hi⟩] := by
  have e : sg ss q = ss[q] := by simp [sg, h]
  rw [take_snoc h, e]
  simp only [partsL, List.map_append, List.map_cons, List.map_nil]
theorem partsL_len (ss : List Sg) (x : List Int) : (partsL ss x).length = ss.length := by simp [partsL]

set_option maxRecDepth 100000 in
set_option maxHeartbeats 2000000 in
theorem stretch_any (n nb : Nat) (x : List Int) (v : Value) (ss : List Sg) (w : World) (hx3 : x.length = 3) (hx : Rates x) (hnb : nb ≤ 3) (hP : PlanOk nb ss) (hV : SegsV n w v ss) (hn : n ≤ w.heap.size) :
    Calls Try.prog 76 #[.agg (arrV x), v] w fun e w' => e = .returned (.agg #[.int .i64 (loS ss x), .int .i64 (hiS ss x)]) ∧ Below w.heap.size w w' := by
  obtain ⟨a, cap, rfl, hp⟩ := hV
  have hl := hP.len
  have HSG := Lib.hid hP.sg
  have HX := Lib.hid hx
  have HP := Lib.hid hp
  have hb0 := Lib.hid (box2 w (.cells (arrV x) 105) (.cells #[.int .i64 0, .int .i64 0] 50))
  have hbb := Lib.hid (below2 w (.cells (arrV x) 105) (.cells #[.int .i64 0, .int .i64 0] 50))
  have hz := Lib.hid (show w.heap.size + 2 ≤ ((w.alloc (.cells (arrV x) 105)).alloc (.cells #[.int .i64 0, .int .i64 0] 50)).heap.size by simp)
  have HSUM := Lib.hid (fun w' v' m => sum_any m v' (partsL ss x) w' (parts_small hx hP.sg) (by rw [partsL_len]; exact hl))
  have HXA := Lib.hid (arrV_get x)
  clear hp hP hx
  go_enter Try.func76, Try.ntmps76
  go_wp2
  go_loopw [5, 10] (fun s i wr => ∃ q : Nat, q ≤ ss.length ∧ i = .int .i64 q ∧ Hid (wr.heap[w.heap.size]? = some (.cells (arrV x) 105 (0, 0))) ∧
      Hid (wr.heap[w.heap.size + 1]? = some (.cells #[.int .i64 0, .int .i64 0] 50 (0, 0))) ∧ Hid (Below w.heap.size w wr) ∧ w.heap.size + 2 ≤ wr.heap.size ∧
      Hid (wr.ownsRow (w.heap.size + 2) 50 2 s q (flatR (partsL (ss.take q) x)))) (fun _ i _ => ss.length - (intOf i).toNat)
  case atStart => exact ⟨0, Nat.zero_le _, rfl, Lib.hid hb0.out.1, Lib.hid hb0.out.2, hbb, hz.out, Lib.hid (World.ownsRow_nil _ _ _ _)⟩
  case round =>
    obtain ⟨q, hq, rfl, hx0, hx1, hb, hsz, hown⟩ := hrel
    by_cases hlt : q < ss.length
    · obtain ⟨b, off, rfl, hbn, hc⟩ := HP.out (by omega)
      have hltb : b < w.heap.size := by omega
      have p1 := (hb.out.cell (p := ⟨b, off + q * 3, none⟩) hltb).trans (hc q hlt).1
      have p2 := (hb.out.cell (p := ⟨b, off + q * 3 + 1, none⟩) hltb).trans (hc q hlt).2.1
      have p3 := (hb.out.cell (p := ⟨b, off + q * 3 + 2, none⟩) hltb).trans (hc q hlt).2.2
      clear hc
      have K := HSG.out _ (sg_mem hlt)
      have hR := HX.out (sg ss q).b
      have q1 := prod_le hR.1 hR.2 K.lo (by have := K.le; have := K.hi; omega)
      have q2 := prod_le hR.1 hR.2 (b := (sg ss q).h.hi) (by have := K.le; have := K.lo; omega) K.hi
      have hqn : (q : Int) < ss.length := by omega
      have hw9 : IntKind.i64.wrap ((q : Int) + 1) = (q : Int) + 1 := IntWalk.i64_in _ (by omega)
      have PT := Lib.hid (partsL_take (x := x) hlt)
      obtain ⟨B, hB⟩ : ∃ B : Nat, (sg ss q).b = (B : Int) := ⟨(sg ss q).b.toNat, by have := K.b0; omega⟩
      have hB3 : B < 3 := by have := K.bn; omega
      have hBI : (B : Int) < 3 := by omega
      have hrl : rt x (sg ss q).b = ld x B := by rw [hB]; simp [rt, ld]
      rw [hrl] at q1 q2 PT
      rw [hB] at p1
      have hxB := HXA.out B (by omega)
      generalize (sg ss q).h.lo = lo at *
      generalize (sg ss q).h.hi = hi at *
      generalize ld x B = R at *
      have w1 : IntKind.i64.wrap (R * lo) = R * lo := IntWalk.i64_in _ (by omega)
      have w2 : IntKind.i64.wrap (R * hi) = R * hi := IntWalk.i64_in _ (by omega)
      clear K hR q1 q2 hrl hB
      go_wp2
      have hbx := box_below wr (.cells #[.int .i64 B, .int .i64 lo, .int .i64 hi] 76)
      have hnx := heap_alloc_new wr (.cells #[.int .i64 B, .int .i64 lo, .int .i64 hi] 76)
      have hbt := below_to hb.out hbx
      have y0 := (hbx.block _ (lt_of_block hx0.out)).trans hx0.out
      have y1 := (hbx.block _ (lt_of_block hx1.out)).trans hx1.out
      have hbvN : u5.ownBlock ≠ some wr.heap.size := fun e => by have := (own_lt hown.out e).2; omega
      have hown2 := hown.out.kept (w' := wr.alloc (.cells #[.int .i64 B, .int .i64 lo, .int .i64 hi] 76)) (row := none) ⟨rfl, rfl, rfl, by simp, fun k hk _ => heap_alloc_low _ _ _ hk⟩ (Classical.em _)
      have hszW : wr.heap.size < (wr.alloc (.cells #[.int .i64 B, .int .i64 lo, .int .i64 hi] 76)).heap.size := by simp
      have HBT := Lib.hid hbt
      have Y0 := Lib.hid y0
      have Y1 := Lib.hid y1
      have HO2 := Lib.hid hown2
      have HNX := Lib.hid hnx
      have HVN := Lib.hid hbvN
      clear hbt y0 y1 hown2 hnx hbvN hx0 hx1 hown hb p1 p2 p3 hbx
      generalize World.alloc wr _ = Wv at *
      generalize wr.heap.size = Bv at *
      have HC : Hid (∀ w1, (Below (w.heap.size + 2) Wv w1 ∧ w1.heap[Bv]? = Wv.heap[Bv]?) → w1.cell? ⟨w.heap.size, B, none⟩ = some (.int .i64 R) ∧ w1.cell? ⟨Bv, 0, none⟩ = some (.int .i64 B) ∧ w1.cell? ⟨Bv, 1, none⟩ = some (.int .i64 lo) ∧ w1.cell? ⟨Bv, 2, none⟩ = some (.int .i64 hi)) := Lib.hid fun w1 hS => by
        have z0 := (hS.1.block w.heap.size (by omega)).trans Y0.out
        have z1 := hS.2.trans HNX.out
        exact ⟨(cell_of_row w1 _ B _ _ _ z0).trans hxB, cell_of_row w1 _ 0 _ _ _ z1, cell_of_row w1 _ 1 _ _ _ z1, cell_of_row w1 _ 2 _ _ _ z1⟩
      refine wp_region_noPanic ?_
      refine wp_region_chain (fun w1 => Below (w.heap.size + 2) Wv w1 ∧ w1.heap[Bv]? = Wv.heap[Bv]?) (fun w1 w2 h hb => ⟨h.1.trans (hb.mono (by have := h.1.size; omega)), (hb.block Bv (by have := h.1.size; omega)).trans h.2⟩) ⟨(below_drawn _).mono (by omega), rfl⟩ (by kernel_rfl) (fun _ _ _ _ _ h => h)
        [(false, 0), (false, 1), (false, 2), (false, 3), (false, 4), (false, 5), (false, 6), (false, 7), (false, 8), (false, 9), (false, 10), (false, 11), (false, 12), (false, 13), (false, 14), (false, 15), (false, 16), (false, 17)] [18, 19, 20] (by kernel_rfl) ?_
      iterate 18
        (refine Walk.takes rfl rfl ?_; apply Exists.intro; refine ⟨fun w1 hS => ?_, ?_⟩; (obtain ⟨d0, d1, d2, d3⟩ := HC.out w1 hS; go_simp; with_reducible rfl); simp only [List.getElem_toArray, List.getElem_cons_succ, List.getElem_cons_zero, Act.put, List.setIfInBounds_toArray, List.set_cons_zero, List.set_cons_succ])
      refine Walk.fin ?_
      rintro w4 hb4 hS4
      have hb5 : Below Wv.heap.size Wv w4 := (below_drawn Wv).trans hb4
      have own4 := HO2.out.kept (w' := w4) (row := none) ⟨hb5.os, hb5.tape, hb5.output, hb5.size, fun k hk _ => hb5.block k hk⟩ (Classical.em _)
      have hN4 := hb5.size
      have hS6 : Below (w.heap.size + 2) Wv (w4.alloc (.cells #[.int .i64 (R * lo), .int .i64 (R * hi)] 50 (0, 0))) ∧ (w4.alloc (.cells #[.int .i64 (R * lo), .int .i64 (R * hi)] 50 (0, 0))).heap[Bv]? = Wv.heap[Bv]? := ⟨hS4.1.alloc (by omega) _, (heap_alloc_low _ _ _ (by omega)).trans hS4.2⟩
      refine Tail.grows rfl rfl (exec_buildSlice 31 50 1 _ rfl el31.u #[.int .i64 (R * lo), .int .i64 (R * hi)] (by kernel_rfl)) hS6 ?_
      simp only [List.getElem_toArray, List.getElem_cons_succ, List.getElem_cons_zero, Act.put, List.setIfInBounds_toArray, List.set_cons_zero, List.set_cons_succ]
      refine Tail.app el31 rfl rfl (.tmp 14) (.tmp 32) rfl (w.heap.size + 2) q u5 (flatR (partsL (List.take q ss) x)) #[.int .i64 (R * lo), .int .i64 (R * hi)] rfl (by intro u hu; simp at hu; rcases hu with rfl | rfl <;> rfl) rfl rfl own4 (by omega) (by omega) ?_
      rintro g5 c5 w5 own5 hg5 -
      refine ⟨⟨hS4.1.trans hg5.below, (hg5.block Bv (by omega) HVN.out).trans hS4.2⟩, ?_⟩
      simp only [List.getElem_toArray, List.getElem_cons_succ, List.getElem_cons_zero, Act.put, List.setIfInBounds_toArray, List.set_cons_zero, List.set_cons_succ]
      refine Tail.value rfl rfl rfl (Tail.done (NoPanic.normal ?_))
      simp only [List.getElem_toArray, List.getElem_cons_succ, List.getElem_cons_zero, Act.put, List.setIfInBounds_toArray, List.set_cons_zero, List.set_cons_succ]
      have hW5 := Lib.hid (hS4.1.trans hg5.below)
      have O5 := Lib.hid own5
      clear hg5 own5 own4 hS6 hS4 hb4 hb5 hN4
      go_wp2
      go_roundw
      case rel =>
        have h1 := HBT.out.size
        have h2 := hW5.out.size
        refine ⟨q + 1, by omega, by simp, Lib.hid ?_, Lib.hid ?_, Lib.hid ?_, by omega, Lib.hid ?_⟩
        · exact (hW5.out.block _ (by omega)).trans Y0.out
        · exact (hW5.out.block _ (by omega)).trans Y1.out
        · exact HBT.out.trans (hW5.out.mono (by omega))
        · rw [PT.out, flatR_snoc]
          exact O5.out
      case measure => simp [intOf] <;> omega
    · obtain rfl : q = ss.length := by omega
      rw [List.take_length] at hown
      have hrow := own_rgs (by rw [partsL_len]; exact hown.out)
      have HROW := Lib.hid hrow
      clear hrow hown
      have PS := Lib.hid (parts_sum ss x)
      go_wp2_with fail
      refine (HSUM.out _ _ _ HROW.out (Nat.le_refl _)).mono ?_
      rintro e w6 ⟨rfl, hb6⟩
      have hx1' := (hb6.block _ (lt_of_block hx1.out)).trans hx1.out
      have hbz := below_to hb.out hb6
      have d0 := cell_of_row w6 (w.heap.size + 1) 0 _ _ _ hx1'
      have d1 := cell_of_row w6 (w.heap.size + 1) 1 _ _ _ hx1'
      simp at d0 d1
      have f0 := frozen_of_row w6 (w.heap.size + 1) 0 _ _ hx1'
      have f1 := frozen_of_row w6 (w.heap.size + 1) 1 _ _ hx1'
      have l1 := lt_of_block hx1'
      have HBZ := Lib.hid hbz
      clear hb6 hx1' hbz
      rw [PS.out.1, PS.out.2]
      go_wp2
      refine bodyPost_ret (v := .agg #[.int .i64 (loS ss x), .int .i64 (hiS ss x)]) ?_ rfl ⟨rfl, put2_below _ _ HBZ.out (by omega)⟩
      simp [results, Try.results76, go_sem, *]
end Go.Proofs.Ytfijaafkagcmmaa
