/- A chain for a picture, or the error: a contract. No condition. -/
import Derived.Test.YtplmlmmjfkbabaaUI
import Derived.BigRegion
import Derived.BigQuiet
namespace Go.Proofs.Ytplmlmmjfkbabaa
open Go.RowKit Go.Shelf
attribute [local irreducible] arrV wpQuiet mat shl

theorem pics_in {n p : Int} (h : picsB n [p] = true) : 0 ≤ p ∧ p < n := by
  rw [pics_one] at h
  simp only [hasB, decide_eq_true_eq] at h
  omega
set_option maxRecDepth 100000 in
set_option maxHeartbeats 4000000 in
theorem Chain_any (m : Nat) (n : Int) (v : Value) (cs : List Cm) (p : Int) (hi : Bool) (w : World) (hl : cs.length ≤ maxLen) (hV : CmsV m w v cs) (hm : m ≤ w.heap.size) :
    Calls Try.prog 37 #[.agg #[.int .i64 n, v], .int .i64 p, .bool hi] w fun e w' => (∃ r, e = .returned (.tuple #[r, .int .i64 (layE n cs [p])]) ∧ (layE n cs [p] ≠ 0 → r = .slice none 0 0) ∧ (layE n cs [p] = 0 → ∃ d, distO cs = some d ∧ ∃ ch : List Int, w'.ownsRow w.heap.size 3 1 r ch.length (ch.map iV) ∧ (∃ q, tellR cs ch.reverse p = some q ∧ enR hi q = eD d hi p) ∧ ch.length ≤ 8)) ∧ Below w.heap.size w w' := by
  have HLA := Lib.hid fun w' pv (h : Below w.heap.size w w') (hP : IntsV w'.heap.size w' pv [p]) => layOut_any w'.heap.size n v pv cs [p] w' hl (by simp [maxLen]) ((hV.same (.below hm h)).up (Nat.le_trans hm h.size)) hP (Nat.le_refl _)
  have HAD := Lib.hid fun d (h : layE n cs [p] = 0) (hd : distO cs = some d) => ask_dist h hd
  have HAK := Lib.hid fun (h : layE n cs [p] = 0) => ask_ok h
  have HCV := Lib.hid fun w' (h : Below w.heap.size w w') => (hV.same (.below hm h)).up (Nat.le_trans hm h.size)
  obtain ⟨a, cap, rfl, -⟩ := hV
  have HX := Lib.hid (heap_alloc_new w (.cells #[.int .i64 n, .slice a cs.length cap] 31))
  have HB := Lib.hid (box_below w (.cells #[.int .i64 n, .slice a cs.length cap] 31))
  generalize layE n cs [p] = E at *
  go_enter Try.func37, Try.ntmps37
  go_wp2_with fail
  have hy := box2 w (.cells #[.int .i64 n, .slice a cs.length cap] 31) (.cells #[.int .i64 p] 3)
  have hby := below2 w (.cells #[.int .i64 n, .slice a cs.length cap] 31) (.cells #[.int .i64 p] 3)
  generalize World.alloc (World.alloc w _) _ = W at *
  have hP : IntsV W.heap.size W (.slice (some ⟨w.heap.size + 1, 0, none⟩) 1 1) [p] := ⟨some ⟨w.heap.size + 1, 0, none⟩, 1, rfl, fun _ => ⟨_, 0, rfl, lt_of_block hy.2, fun i hi => by
    have hi2 : i < 1 := hi
    obtain rfl : i = 0 := by omega
    exact cell_of_row _ _ 0 _ _ _ hy.2⟩⟩
  refine (HLA.out W _ hby hP).mono ?_
  rintro e w1 ⟨⟨n1, v1, d1, rfl, hv1, h0⟩, hb1⟩
  have HB1 := Lib.hid (below_to hby hb1)
  have H0 := Lib.hid h0
  have HV1 := Lib.hid hv1
  clear hb1 HB HX HLA h0 hv1 hy hby hP
  by_cases hE : E = 0
  · obtain ⟨hd1, rfl, rfl⟩ := H0.out hE
    obtain ⟨hmid, N, rfl, hN⟩ := HAD.out d1 hE hd1
    obtain ⟨hA, hpb⟩ := HAK.out hE
    have hpn : 0 ≤ p ∧ p < N := pics_in hpb
    have HCA := Lib.hid fun w' (h : Below w.heap.size w w') => chain_any N (.slice a cs.length cap) cs d1 p hi w' hA (HCV.out w' h) hmid (dist_some hA hd1) hpn
    have HEO : Hid (∀ w, Calls Try.prog 54 #[.bool hi] w fun e w' => e = .returned (.func (.func (endF hi)) #[] #[]) ∧ Below w.heap.size w w') := Lib.hid fun w => endOf_any hi w
    have HD1 := Lib.hid hd1
    have hf1 : (E != 0) = false := by simp [hE]
    have hf2 : (E == 0) = true := by simp [hE]
    have HE0 := Lib.hid hE
    clear hE hd1 hmid HAD H0 HAK HCV hA hpb hpn
    go_wp2_with (first
      | (refine wpList_store_sh rfl (.tmp 8) (.tmp 15) rfl w1.heap.size rfl N (.slice a cs.length cap) d1 rfl rfl 85 _ (by rw [zero85, shl_size]) (heap_alloc_new w1 _) ?_
         intro w2 hp2 hx2
         have HX2 := Lib.hid hx2
         have HB2 := Lib.hid (hp2.below (below_to HB1.out (box_below w1 _)) HB1.out.size)
         clear hp2 hx2)
      | fail)
    have HC5 : Hid (∀ w', Below w2.heap.size w2 w' → w'.rangeAt w1.heap.size 0 (shl N (.slice a cs.length cap) d1).toList) := Lib.hid fun w' hS => range_block (t := 85) (by rw [Array.toArray_toList]; exact (hS.block _ (lt_of_block HX2.out)).trans HX2.out)
    refine wp_region_noPanic ?_
    refine wp_region_chain (fun w' => Below w2.heap.size w2 w') (fun _ _ h hb => below_to h hb) (below_drawn _) (by kernel_rfl) (fun _ _ _ _ _ h => h)
      [(false, 0), (false, 1), (false, 2), (true, 3), (true, 4)] [5, 6] (by kernel_rfl) ?_
    (refine Walk.take (v := .agg (shl N (.slice a cs.length cap) d1)) rfl rfl (fun w3 hS => exec_load_row 85 (.tmp 8) rfl w1.heap.size 0 rfl (shl N (.slice a cs.length cap) d1).toList _ (HC5.out w3 hS) Try.underlying85 rfl (by rw [Array.length_toList, shl_size]; exact s85) _ Array.toArray_toList) ?_; simp only [List.getElem_toArray, List.getElem_cons_succ, List.getElem_cons_zero, Act.put, List.setIfInBounds_toArray, List.set_cons_zero, List.set_cons_succ])
    iterate 2
      (refine Walk.takes rfl rfl ?_; apply Exists.intro; refine ⟨fun w3 hS => ?_, ?_⟩; (clear hS; go_simp; with_reducible rfl); simp only [List.getElem_toArray, List.getElem_cons_succ, List.getElem_cons_zero, Act.put, List.setIfInBounds_toArray, List.set_cons_zero, List.set_cons_succ])
    refine Walk.calls rfl rfl ?_; apply Exists.intro; apply Exists.intro; refine ⟨fun w3 hS => ?_, fun w3 hb3 => ?_⟩; (clear hS; go_simp; exact ⟨rfl, rfl⟩)
    have ha3 := below_to (below_drawn w2) hb3
    refine (HEO.out w3).mono ?_
    rintro e w4 ⟨rfl, hb4⟩
    refine ⟨_, rfl, hb4, ?_⟩
    simp only [List.getElem_toArray, List.getElem_cons_succ, List.getElem_cons_zero, Act.put, List.setIfInBounds_toArray, List.set_cons_zero, List.set_cons_succ]
    have ha4 := below_to ha3 hb4
    refine Walk.calls rfl rfl ?_; apply Exists.intro; apply Exists.intro; refine ⟨fun w5 hS => ?_, fun w5 hb5 => ?_⟩; (clear hS; go_simp; exact ⟨rfl, rfl⟩)
    have ha5 := below_to HB2.out (below_to ha4 hb5)
    refine (HCA.out w5 ha5).mono ?_
    rintro e w6 ⟨⟨r, ch, rfl, hown, htl, hch⟩, hb6⟩
    refine ⟨_, rfl, hb6, ?_⟩
    simp only [List.getElem_toArray, List.getElem_cons_succ, List.getElem_cons_zero, Act.put, List.setIfInBounds_toArray, List.set_cons_zero, List.set_cons_succ]
    have HO6 := Lib.hid (ownsRow_mono ha5.size hown)
    have HB6 := Lib.hid (below_to ha5 hb6)
    have HTL := Lib.hid htl
    clear hb3 ha3 hb4 ha4 hb5 ha5 hown htl hb6
    refine Walk.fin fun w7 hb7 hS7 => ?_
    have HO7 := Lib.hid (row_kept HO6.out hb7)
    have HB7 := Lib.hid (below_to HB6.out hb7)
    clear hb7 hS7
    refine Tail.value rfl rfl (by go_simp; with_reducible rfl) (Tail.value rfl rfl (by go_simp; with_reducible rfl) (Tail.done (NoPanic.normal ?_)))
    simp only [List.getElem_toArray, List.getElem_cons_succ, List.getElem_cons_zero, Act.put, List.setIfInBounds_toArray, List.set_cons_zero, List.set_cons_succ]
    go_wp2
    go_ret2
    exact ⟨⟨r, by rw [HE0.out]; rfl, fun h => absurd HE0.out h, fun _ => ⟨d1, HD1.out, ch, HO7.out, HTL.out, hch⟩⟩, HB7.out⟩
  · have hf1 : (E != 0) = true := by simp [hE]
    have hf2 : (E == 0) = false := by simp [hE]
    have HE := Lib.hid hE
    clear hE
    go_wp2_with (first
      | (refine wpList_store_sh rfl (.tmp 8) (.tmp 15) rfl w1.heap.size rfl n1 v1 d1 HV1.out rfl 85 _ (by rw [zero85, shl_size]) (heap_alloc_new w1 _) ?_
         intro w2 hp2 hx2
         have HB2 := Lib.hid (hp2.below (below_to HB1.out (box_below w1 _)) HB1.out.size)
         clear hp2 hx2)
      | fail)
    go_ret2
    exact ⟨⟨.slice none 0 0, rfl, fun _ => rfl, fun h => absurd h HE.out⟩, HB2.out⟩
end Go.Proofs.Ytplmlmmjfkbabaa
