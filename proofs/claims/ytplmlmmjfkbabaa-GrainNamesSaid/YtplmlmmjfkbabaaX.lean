/- The lists of ranges, and of the finest: contracts. Conditions: at most eight pictures, and nothing is great. -/
import Derived.Test.YtplmlmmjfkbabaaWJ
namespace Go.Proofs.Ytplmlmmjfkbabaa
open Go.RowKit Go.Shelf
attribute [local irreducible] arrV wpQuiet mat shl

theorem ownsRow_mono {w : World} {b b' e sz n : Nat} {v : Value} {xs : List Value} (hb : b' ≤ b) (h : w.ownsRow b e sz v n xs) : w.ownsRow b' e sz v n xs := by
  refine ⟨h.1, ?_⟩
  rcases h.2 with ⟨hv, h0⟩ | ⟨g, cap, cur, hv, hbg, hg, hr⟩
  · exact .inl ⟨hv, h0⟩
  · exact .inr ⟨g, cap, cur, hv, by omega, hg, hr⟩
theorem own_shape {w : World} {base e sz n : Nat} {v : Value} {xs : List Value} (h : w.ownsRow base e sz v n xs) : ∃ a cap, v = .slice a n cap := by
  rcases h.2 with ⟨hv, h0⟩ | ⟨g, cap, cur, hv, hr⟩
  · exact ⟨none, 0, by rw [hv, h0]⟩
  · exact ⟨_, _, hv⟩
theorem grades_snoc (d : Dm) (q : Nat) : gradesL d (q + 1) = gradesL d q ++ [⟨-d (q + 1) 0, d 0 (q + 1)⟩] := by
  simp [gradesL, diffD, List.range_succ]
def intsL (l : List Nat) : List Int := l.map fun (p : Nat) => (p : Int)
theorem finest_snoc (d : Dm) (n q : Nat) : (List.range (q + 1)).filter (finB d n) = (List.range q).filter (finB d n) ++ if finB d n q = true then [q] else [] := by
  rw [List.range_succ, List.filter_append]
  cases h : finB d n q <;> simp [h]

set_option maxRecDepth 100000 in
set_option maxHeartbeats 4000000 in
theorem grades_any (n : Nat) (v : Value) (d : Dm) (w : World) (hn : n ≤ 8) (hd : Mid d) :
    Calls Try.prog 48 #[.agg (shl n v d)] w fun e w' => (∃ r, e = .returned r ∧ w'.ownsRow w.heap.size 41 2 r n (flatR (gradesL d n))) ∧ Below w.heap.size w w' := by
  have HX := Lib.hid (heap_alloc_new w (.cells (shl n v d) 85))
  have HB := Lib.hid (box_below w (.cells (shl n v d) 85))
  have HGR := Lib.hid fun q w (h : q < 8) => grade_any n v d q w h hd
  have c0 := (cell_of_row _ w.heap.size 0 _ _ _ HX.out).trans (shl_0 n v d)
  have l0 := lt_of_block HX.out
  clear hd
  go_enter Try.func48, Try.ntmps48
  go_wp2
  generalize World.alloc w _ = W at *
  clear c0
  go_loopw [3, 8] (fun s i wr => ∃ q : Nat, q ≤ n ∧ i = .int .i64 q ∧ Hid (wr.heap[w.heap.size]? = some (.cells (shl n v d) 85 (0, 0))) ∧ Hid (wr.ownsRow (w.heap.size + 1) 41 2 s q (flatR (gradesL d q))) ∧ Hid (Below w.heap.size w wr)) (fun _ i _ => n - (intOf i).toNat)
  case atStart => exact ⟨0, Nat.zero_le _, rfl, HX, Lib.hid (World.ownsRow_nil _ _ _ _), HB⟩
  case round =>
    clear HX HB
    obtain ⟨q, hq, rfl, HX, HO, HB⟩ := hrel
    by_cases hlt : q < n
    · have hqn : (q : Int) < n := by omega
      have hw9 : IntKind.i64.wrap ((q : Int) + 1) = (q : Int) + 1 := IntWalk.i64_in _ (by omega)
      have HCA := Lib.hid (HGR.out q wr (by omega))
      have HSN := Lib.hid (grades_snoc d q)
      generalize -d (q + 1) 0 = X at *
      generalize d 0 (q + 1) = Y at *
      go_wp2_with (first
        | (refine wpList_load_sh rfl (.tmp 1) rfl w.heap.size rfl 85 n v d HX.out ?_)
        | fail)
      refine HCA.out.mono ?_
      rintro e w1 ⟨rfl, hb1⟩
      have HX1 := Lib.hid ((hb1.block _ (lt_of_block HX.out)).trans HX.out)
      have HB1 := Lib.hid (below_to HB.out hb1)
      have HO1 := Lib.hid (HO.out.kept (w' := w1) (row := none) ⟨hb1.os, hb1.tape, hb1.output, hb1.size, fun k hk _ => hb1.block k hk⟩ (Classical.em _))
      have hl1 : w.heap.size + 1 ≤ w1.heap.size := lt_of_block HX1.out
      clear hb1 HX HB HCA HO
      go_wp2_with (first
        | (refine wpList_app el33 rfl (.tmp 11) (.tmp 15) rfl (w.heap.size + 1) q _ _ #[.int .i64 X, .int .i64 Y] rfl (by intro u hu; simp at hu; rcases hu with rfl | rfl <;> rfl) rfl rfl HO1.out hl1 (by omega) ?_
           intro g c w2 hown hgr _
           have HO2 := Lib.hid hown
           have HX2 := Lib.hid ((hgr.below.block w.heap.size (by omega)).trans HX1.out)
           have HB2 := Lib.hid (HB1.out.trans (hgr.below.mono (by omega)))
           clear hown hgr)
        | fail)
      go_roundw
      case rel => exact ⟨q + 1, by omega, by simp, HX2, Lib.hid (by rw [HSN.out, flatR_snoc]; exact HO2.out), HB2⟩
      case measure => simp [intOf] <;> omega
    · obtain rfl : q = n := by omega
      go_wp2
      go_ret
      exact ⟨⟨_, rfl, ownsRow_mono (by omega) HO.out⟩, HB.out⟩

set_option maxRecDepth 100000 in
set_option maxHeartbeats 4000000 in
theorem finest_any (n : Nat) (v : Value) (d : Dm) (w : World) (hn : n ≤ 8) (hd : Mid d) :
    Calls Try.prog 59 #[.agg (shl n v d)] w fun e w' => (∃ r, e = .returned r ∧ w'.ownsRow w.heap.size 3 1 r (finestL d n).length ((intsL (finestL d n)).map iV)) ∧ Below w.heap.size w w' := by
  have HX := Lib.hid (heap_alloc_new w (.cells (shl n v d) 85))
  have HB := Lib.hid (box_below w (.cells (shl n v d) 85))
  have HGR := Lib.hid fun q w (h : q < 8) => mayBe_any n v d q w hn h hd
  have c0 := (cell_of_row _ w.heap.size 0 _ _ _ HX.out).trans (shl_0 n v d)
  have l0 := lt_of_block HX.out
  have HF : Hid (∀ q, (List.range (q + 1)).filter (finB d n) = (List.range q).filter (finB d n) ++ if finB d n q = true then [q] else []) := Lib.hid (finest_snoc d n)
  have HE : Hid ((List.range n).filter (finB d n) = finestL d n) := Lib.hid rfl
  have HLL : Hid (∀ q, ((List.range q).filter (finB d n)).length ≤ q) := Lib.hid fun q => by have := List.length_filter_le (finB d n) (List.range q); simpa using this
  generalize finestL d n = FL at *
  generalize finB d n = fb at *
  clear hd
  go_enter Try.func59, Try.ntmps59
  go_wp2
  generalize World.alloc w _ = W at *
  clear c0
  go_loopw [3, 8] (fun s i wr => ∃ q : Nat, q ≤ n ∧ i = .int .i64 q ∧ Hid (wr.heap[w.heap.size]? = some (.cells (shl n v d) 85 (0, 0))) ∧ Hid (wr.ownsRow (w.heap.size + 1) 3 1 s ((List.range q).filter fb).length ((intsL ((List.range q).filter fb)).map iV)) ∧ Hid (Below w.heap.size w wr)) (fun _ i _ => n - (intOf i).toNat)
  case atStart => exact ⟨0, Nat.zero_le _, rfl, HX, Lib.hid (World.ownsRow_nil _ _ _ _), HB⟩
  case round =>
    clear HX HB
    obtain ⟨q, hq, rfl, HX, HO, HB⟩ := hrel
    by_cases hlt : q < n
    · have hqn : (q : Int) < n := by omega
      have hw9 : IntKind.i64.wrap ((q : Int) + 1) = (q : Int) + 1 := IntWalk.i64_in _ (by omega)
      have HCA := Lib.hid (HGR.out q wr (by omega))
      have HSN := Lib.hid (HF.out q)
      have HLQ := Lib.hid (HLL.out q)
      go_wp2_with (first
        | (refine wpList_load_sh rfl (.tmp 1) rfl w.heap.size rfl 85 n v d HX.out ?_)
        | fail)
      refine HCA.out.mono ?_
      rintro e w1 ⟨rfl, hb1⟩
      have HX1 := Lib.hid ((hb1.block _ (lt_of_block HX.out)).trans HX.out)
      have HB1 := Lib.hid (below_to HB.out hb1)
      have HO1 := Lib.hid (HO.out.kept (w' := w1) (row := none) ⟨hb1.os, hb1.tape, hb1.output, hb1.size, fun k hk _ => hb1.block k hk⟩ (Classical.em _))
      have hl1 : w.heap.size + 1 ≤ w1.heap.size := lt_of_block HX1.out
      clear hb1 HX HB HCA HO
      cases hz : fb q with
      | false =>
        rw [hz, if_neg (by simp), List.append_nil] at HSN
        clear hz
        go_wp2
        go_roundw
        case rel => exact ⟨q + 1, by omega, by simp, HX1, Lib.hid (by rw [HSN.out]; exact HO1.out), HB1⟩
        case measure => simp [intOf] <;> omega
      | true =>
        rw [hz, if_pos rfl] at HSN
        clear hz
        generalize (List.range q).filter fb = L at *
        go_wp2_with (first
          | (refine wpList_app el50 rfl (.tmp 14) (.tmp 16) rfl (w.heap.size + 1) L.length _ _ #[.int .i64 q] rfl (by intro u hu; simp at hu; rcases hu with rfl; rfl) rfl rfl HO1.out hl1 (by have := HLQ.out; omega) ?_
             intro g c w2 hown hgr _
             have HO2 := Lib.hid hown
             have HX2 := Lib.hid ((hgr.below.block w.heap.size (by omega)).trans HX1.out)
             have HB2 := Lib.hid (HB1.out.trans (hgr.below.mono (by omega)))
             clear hown hgr)
          | fail)
        go_roundw
        case rel => exact ⟨q + 1, by omega, by simp, HX2, Lib.hid (by rw [HSN.out]; simpa [intsL, iV] using HO2.out), HB2⟩
        case measure => simp [intOf] <;> omega
    · obtain rfl : q = n := by omega
      rw [HE.out] at HO
      go_wp2
      go_ret
      exact ⟨⟨_, rfl, ownsRow_mono (by omega) HO.out⟩, HB.out⟩
end Go.Proofs.Ytplmlmmjfkbabaa
