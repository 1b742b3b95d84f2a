/- Grades, Between and Finest: contracts. Condition: the album's list is no longer than any machine's. -/
import Derived.Test.YtplmlmmjfkbabaaX
namespace Go.Proofs.Ytplmlmmjfkbabaa
open Go.RowKit Go.Shelf
attribute [local irreducible] arrV wpQuiet mat shl

theorem no_ints (m : Nat) (w : World) : IntsV m w (.slice none 0 0) [] := ⟨none, 0, rfl, fun h => by simp at h⟩
theorem ask_ok {n : Int} {cs : List Cm} {ps : List Int} (h : layE n cs ps = 0) : AlbOk n cs ∧ picsB n ps = true := by
  unfold layE at h
  by_cases h1 : askE n cs ps = 0
  · have h2 := h1
    unfold askE at h2
    by_cases h3 : faultA n cs = 0
    · rw [if_neg (fun h4 => h4 h3)] at h2
      refine ⟨fault_ok h3, ?_⟩
      refine Classical.byContradiction fun hc => ?_
      rw [if_neg hc] at h2
      simp at h2
    · rw [if_pos h3] at h2
      exact absurd h2 h3
  · rw [if_pos h1] at h
    exact absurd h h1
theorem lay_of {n : Int} {cs : List Cm} {ps : List Int} (h : AlbOk n cs) (hp : picsB n ps = true) : layE n cs ps = if (distO cs).isSome = true then 0 else 9 := by
  have ha : askE n cs ps = 0 := by
    unfold askE
    rw [fault_of h, if_neg (by simp), if_pos hp]
  unfold layE
  rw [ha, if_neg (by simp)]
theorem pics_nil (n : Int) : picsB n [] = true := rfl
theorem lay_some {n : Int} {cs : List Cm} {ps : List Int} {d : Dm} (h : AlbOk n cs) (hp : picsB n ps = true) (hd : distO cs = some d) : layE n cs ps = 0 := by rw [lay_of h hp, hd]; rfl
theorem lay_none {n : Int} {cs : List Cm} {ps : List Int} (h : AlbOk n cs) (hp : picsB n ps = true) (hd : distO cs = none) : layE n cs ps = 9 := by rw [lay_of h hp, hd]; rfl
theorem ask_dist {n : Int} {cs : List Cm} {ps : List Int} {d : Dm} (h : layE n cs ps = 0) (hd : distO cs = some d) : Mid d ∧ ∃ N : Nat, n = (N : Int) ∧ N ≤ 8 := by
  have hA := (ask_ok h).1
  refine ⟨(dist_some hA hd).mid, n.toNat, ?_, ?_⟩
  · have := hA.n0; omega
  · have := hA.n8; have := hA.n0; omega

set_option maxRecDepth 100000 in
set_option maxHeartbeats 4000000 in
theorem Grades_any (m : Nat) (n : Int) (v : Value) (cs : List Cm) (w : World) (hl : cs.length ≤ maxLen) (hV : CmsV m w v cs) (hm : m ≤ w.heap.size) :
    Calls Try.prog 21 #[.agg #[.int .i64 n, v]] w fun e w' => (∃ r, e = .returned (.tuple #[r, .int .i64 (layE n cs [])]) ∧ (layE n cs [] ≠ 0 → r = .slice none 0 0) ∧ (layE n cs [] = 0 → ∃ d N, distO cs = some d ∧ n = ((N : Nat) : Int) ∧ w'.ownsRow w.heap.size 41 2 r N (flatR (gradesL d N)))) ∧ Below w.heap.size w w' := by
  have HLA := Lib.hid fun w' (h : Below w.heap.size w w') => layOut_any m n v (.slice none 0 0) cs [] w' hl (by simp) (hV.same (.below hm h)) (no_ints _ _) (Nat.le_trans hm h.size)
  have HAD := Lib.hid fun d (h : layE n cs [] = 0) (hd : distO cs = some d) => ask_dist h hd
  obtain ⟨a, cap, rfl, -⟩ := hV
  have HX := Lib.hid (heap_alloc_new w (.cells #[.int .i64 n, .slice a cs.length cap] 31))
  have HB := Lib.hid (box_below w (.cells #[.int .i64 n, .slice a cs.length cap] 31))
  generalize layE n cs [] = E at *
  go_enter Try.func21, Try.ntmps21
  go_wp2_with fail
  refine (HLA.out _ HB.out).mono ?_
  rintro e w1 ⟨⟨n1, v1, d1, rfl, hv1, h0⟩, hb1⟩
  have HB1 := Lib.hid (below_to HB.out hb1)
  have H0 := Lib.hid h0
  have HV1 := Lib.hid hv1
  clear hb1 HB HX HLA h0 hv1
  by_cases hE : E = 0
  · obtain ⟨hd1, rfl, rfl⟩ := H0.out hE
    obtain ⟨hmid, N, rfl, hN⟩ := HAD.out d1 hE hd1
    have HGR := Lib.hid fun w => grades_any N (.slice a cs.length cap) d1 w hN hmid
    have HD1 := Lib.hid hd1
    have hf1 : (E != 0) = false := by simp [hE]
    have hf2 : (E == 0) = true := by simp [hE]
    have HE0 := Lib.hid hE
    clear hE
    clear hd1 hmid HAD H0
    go_wp2_with (first
      | (refine wpList_store_sh rfl (.tmp 4) (.tmp 9) rfl w1.heap.size rfl N (.slice a cs.length cap) d1 rfl rfl 85 _ (by rw [zero85, shl_size]) (heap_alloc_new w1 _) ?_
         intro w2 hp2 hx2
         have HX2 := Lib.hid hx2
         have HB2 := Lib.hid (hp2.below (below_to HB1.out (box_below w1 _)) HB1.out.size)
         clear hp2 hx2)
      | (refine wpList_load_sh rfl (.tmp 4) rfl w1.heap.size rfl 85 N (.slice a cs.length cap) d1 HX2.out ?_)
      | fail)
    refine (HGR.out _).mono ?_
    rintro e w3 ⟨⟨r, rfl, hown⟩, hb3⟩
    have HO := Lib.hid (ownsRow_mono HB2.out.size hown)
    have HB3 := Lib.hid (below_to HB2.out hb3)
    clear hown hb3
    go_wp2
    go_ret2
    exact ⟨⟨r, by rw [HE0.out]; rfl, fun h => absurd HE0.out h, fun _ => ⟨d1, N, HD1.out, rfl, HO.out⟩⟩, HB3.out⟩
  · have hf1 : (E != 0) = true := by simp [hE]
    have hf2 : (E == 0) = false := by simp [hE]
    have HE := Lib.hid hE
    clear hE
    go_wp2_with (first
      | (refine wpList_store_sh rfl (.tmp 4) (.tmp 9) rfl w1.heap.size rfl n1 v1 d1 HV1.out rfl 85 _ (by rw [zero85, shl_size]) (heap_alloc_new w1 _) ?_
         intro w2 hp2 hx2
         have HB2 := Lib.hid (hp2.below (below_to HB1.out (box_below w1 _)) HB1.out.size)
         clear hp2 hx2)
      | fail)
    go_ret2
    exact ⟨⟨.slice none 0 0, rfl, fun _ => rfl, fun h => absurd h HE.out⟩, HB2.out⟩


def finestE (n : Int) (cs : List Cm) : Int := if layE n cs [] = 0 then (if n = 0 then 7 else 0) else layE n cs []
set_option maxRecDepth 100000 in
set_option maxHeartbeats 4000000 in
theorem Finest_any (m : Nat) (n : Int) (v : Value) (cs : List Cm) (w : World) (hl : cs.length ≤ maxLen) (hV : CmsV m w v cs) (hm : m ≤ w.heap.size) :
    Calls Try.prog 33 #[.agg #[.int .i64 n, v]] w fun e w' => (∃ r, e = .returned (.tuple #[r, .int .i64 (finestE n cs)]) ∧ (finestE n cs ≠ 0 → r = .slice none 0 0) ∧ (finestE n cs = 0 → ∃ d N, distO cs = some d ∧ n = ((N : Nat) : Int) ∧ 0 < N ∧ w'.ownsRow w.heap.size 3 1 r (finestL d N).length ((intsL (finestL d N)).map iV))) ∧ Below w.heap.size w w' := by
  have HLA := Lib.hid fun w' (h : Below w.heap.size w w') => layOut_any m n v (.slice none 0 0) cs [] w' hl (by simp) (hV.same (.below hm h)) (no_ints _ _) (Nat.le_trans hm h.size)
  have HAD := Lib.hid fun d (h : layE n cs [] = 0) (hd : distO cs = some d) => ask_dist h hd
  obtain ⟨a, cap, rfl, -⟩ := hV
  have HX := Lib.hid (heap_alloc_new w (.cells #[.int .i64 n, .slice a cs.length cap] 31))
  have HB := Lib.hid (box_below w (.cells #[.int .i64 n, .slice a cs.length cap] 31))
  have E1 : layE n cs [] ≠ 0 → finestE n cs = layE n cs [] := fun h => if_neg h
  have E2 : layE n cs [] = 0 → n = 0 → finestE n cs = 7 := fun h h0 => by unfold finestE; rw [if_pos h, if_pos h0]
  have E3 : layE n cs [] = 0 → n ≠ 0 → finestE n cs = 0 := fun h h0 => by unfold finestE; rw [if_pos h, if_neg h0]
  generalize finestE n cs = F at *
  generalize layE n cs [] = E at *
  have HE1 := Lib.hid E1
  have HE2 := Lib.hid E2
  have HE3 := Lib.hid E3
  clear E1 E2 E3
  go_enter Try.func33, Try.ntmps33
  go_wp2_with fail
  refine (HLA.out _ HB.out).mono ?_
  rintro e w1 ⟨⟨n1, v1, d1, rfl, hv1, h0⟩, hb1⟩
  have HB1 := Lib.hid (below_to HB.out hb1)
  have H0 := Lib.hid h0
  have HV1 := Lib.hid hv1
  clear hb1 HB HX HLA h0 hv1
  by_cases hE : E = 0
  · obtain ⟨hd1, rfl, rfl⟩ := H0.out hE
    obtain ⟨hmid, N, rfl, hN⟩ := HAD.out d1 hE hd1
    have HGR := Lib.hid fun w => finest_any N (.slice a cs.length cap) d1 w hN hmid
    have HD1 := Lib.hid hd1
    have HF0 := Lib.hid fun (h : (N : Int) = 0) => HE2.out hE h
    have HF1 := Lib.hid fun (h : (N : Int) ≠ 0) => HE3.out hE h
    subst hE
    clear hd1 hmid HAD H0 HE1 HE2 HE3
    have HSH := Lib.hid (shl_0 N (.slice a cs.length cap) d1)
    by_cases hN0 : N = 0
    · have HF := Lib.hid (HF0.out (by omega))
      have hz1 : ((N : Int) == 0) = true := by simp [hN0]
      clear hN0
      go_wp2_with (first
        | (refine wpList_store_sh rfl (.tmp 4) (.tmp 9) rfl w1.heap.size rfl N (.slice a cs.length cap) d1 rfl rfl 85 _ (by rw [zero85, shl_size]) (heap_alloc_new w1 _) ?_
           intro w2 hp2 hx2
           have HB2 := Lib.hid (hp2.below (below_to HB1.out (box_below w1 _)) HB1.out.size)
           have c0 := (cell_of_row w2 w1.heap.size 0 _ _ _ hx2).trans HSH.out
           have l0 := lt_of_block hx2
           clear hp2 hx2)
        | fail)
      go_ret2
      exact ⟨⟨.slice none 0 0, by rw [HF.out]; rfl, fun _ => rfl, fun h => absurd (HF.out.symm.trans h) (by decide)⟩, HB2.out⟩
    · have HF := Lib.hid (HF1.out (by omega))
      have hz1 : ((N : Int) == 0) = false := by simp; omega
      have HN0 := Lib.hid hN0
      clear hN0
      go_wp2_with (first
        | (refine wpList_store_sh rfl (.tmp 4) (.tmp 9) rfl w1.heap.size rfl N (.slice a cs.length cap) d1 rfl rfl 85 _ (by rw [zero85, shl_size]) (heap_alloc_new w1 _) ?_
           intro w2 hp2 hx2
           have HX2 := Lib.hid hx2
           have HB2 := Lib.hid (hp2.below (below_to HB1.out (box_below w1 _)) HB1.out.size)
           have c0 := (cell_of_row w2 w1.heap.size 0 _ _ _ hx2).trans HSH.out
           have l0 := lt_of_block hx2
           clear hp2 hx2)
        | (refine wpList_load_sh rfl (.tmp 4) rfl w1.heap.size rfl 85 N (.slice a cs.length cap) d1 HX2.out ?_)
        | fail)
      refine (HGR.out _).mono ?_
      rintro e w3 ⟨⟨r, rfl, hown⟩, hb3⟩
      have HO := Lib.hid (ownsRow_mono HB2.out.size hown)
      have HB3 := Lib.hid (below_to HB2.out hb3)
      clear hown hb3 c0 l0
      go_wp2
      go_ret2
      exact ⟨⟨r, by rw [HF.out]; rfl, fun h => absurd HF.out h, fun _ => ⟨d1, N, HD1.out, rfl, by have := HN0.out; omega, HO.out⟩⟩, HB3.out⟩
  · have hf1 : (E != 0) = true := by simp [hE]
    have hf2 : (E == 0) = false := by simp [hE]
    have HE := Lib.hid hE
    have HF := Lib.hid (HE1.out hE)
    clear hE
    go_wp2_with (first
      | (refine wpList_store_sh rfl (.tmp 4) (.tmp 9) rfl w1.heap.size rfl n1 v1 d1 HV1.out rfl 85 _ (by rw [zero85, shl_size]) (heap_alloc_new w1 _) ?_
         intro w2 hp2 hx2
         have HB2 := Lib.hid (hp2.below (below_to HB1.out (box_below w1 _)) HB1.out.size)
         clear hp2 hx2)
      | fail)
    go_ret2
    exact ⟨⟨.slice none 0 0, by rw [HF.out]; rfl, fun _ => rfl, fun h => absurd (HF.out.symm.trans h) HE.out⟩, HB2.out⟩


def betE (n : Int) (cs : List Cm) (p q : Int) : Int := layE n cs [p, q]
theorem bet_pics {n p q : Int} : picsB n [p, q] = (picB n p && picB n q) := by
  simp [picsB, allN, List.range_succ, ld]
set_option maxRecDepth 100000 in
set_option maxHeartbeats 4000000 in
theorem Between_any (m : Nat) (n : Int) (v : Value) (cs : List Cm) (p q : Int) (w : World) (hl : cs.length ≤ maxLen) (hV : CmsV m w v cs) (hm : m ≤ w.heap.size) :
    Calls Try.prog 25 #[.agg #[.int .i64 n, v], .int .i64 p, .int .i64 q] w fun e w' => (∃ x y, e = .returned (.tuple #[.agg #[.int .i64 x, .int .i64 y], .int .i64 (layE n cs [p, q])]) ∧ (layE n cs [p, q] ≠ 0 → x = 0 ∧ y = 0) ∧ (layE n cs [p, q] = 0 → ∃ d, distO cs = some d ∧ x = -d (pl p) (pl q) ∧ y = d (pl q) (pl p))) ∧ Below w.heap.size w w' := by
  have HLA := Lib.hid fun w' pv (h : Below w.heap.size w w') (hP : IntsV w'.heap.size w' pv [p, q]) => layOut_any w'.heap.size n v pv cs [p, q] w' hl (by simp [maxLen]) ((hV.same (.below hm h)).up (Nat.le_trans hm h.size)) hP (Nat.le_refl _)
  have HAD := Lib.hid fun d (h : layE n cs [p, q] = 0) (hd : distO cs = some d) => ask_dist h hd
  have HPQ := Lib.hid fun (h : layE n cs [p, q] = 0) => And.intro (ask_ok h).1 (ask_ok h).2
  obtain ⟨a, cap, rfl, -⟩ := hV
  have HX := Lib.hid (box2 w (.cells #[.int .i64 n, .slice a cs.length cap] 31) (.cells #[.int .i64 0, .int .i64 0] 41))
  have HB := Lib.hid (below2 w (.cells #[.int .i64 n, .slice a cs.length cap] 31) (.cells #[.int .i64 0, .int .i64 0] 41))
  generalize hE' : layE n cs [p, q] = E at *
  clear hE'
  go_enter Try.func25, Try.ntmps25
  go_wp2_with fail
  have hy := box3 w (.cells #[.int .i64 n, .slice a cs.length cap] 31) (.cells #[.int .i64 0, .int .i64 0] 41) (.cells #[.int .i64 p, .int .i64 q] 3)
  have hby := below3 w (.cells #[.int .i64 n, .slice a cs.length cap] 31) (.cells #[.int .i64 0, .int .i64 0] 41) (.cells #[.int .i64 p, .int .i64 q] 3)
  generalize World.alloc (World.alloc (World.alloc w _) _) _ = W at *
  have hP : IntsV W.heap.size W (.slice (some ⟨w.heap.size + 1 + 1, 0, none⟩) 2 2) [p, q] := ⟨some ⟨w.heap.size + 1 + 1, 0, none⟩, 2, rfl, fun _ => ⟨_, 0, rfl, lt_of_block hy.2.2, fun i hi => by
    have hi2 : i < 2 := hi
    match i, hi2 with
    | 0, _ => exact cell_of_row _ _ 0 _ _ _ hy.2.2
    | 1, _ => exact cell_of_row _ _ 1 _ _ _ hy.2.2⟩⟩
  refine (HLA.out W _ hby hP).mono ?_
  rintro e w1 ⟨⟨n1, v1, d1, rfl, hv1, h0⟩, hb1⟩
  have HB1 := Lib.hid (below_to hby hb1)
  have HZ1 := Lib.hid ((hb1.block _ (lt_of_block hy.2.1)).trans hy.2.1)
  have H0 := Lib.hid h0
  have HV1 := Lib.hid hv1
  clear hb1 HB HX HLA h0 hv1 hy hby hP
  by_cases hE : E = 0
  · obtain ⟨hd1, rfl, rfl⟩ := H0.out hE
    obtain ⟨hmid, N, rfl, hN⟩ := HAD.out d1 hE hd1
    have hpp := (HPQ.out hE).2
    rw [bet_pics] at hpp
    simp only [picB, Bool.and_eq_true, decide_eq_true_eq] at hpp
    have hdi := fun w => difference_any N (.slice a cs.length cap) d1 p q w (by omega) (by omega) hmid
    obtain ⟨X, HXE⟩ : ∃ X, Hid (-d1 (pl p) (pl q) = X) := ⟨_, Lib.hid rfl⟩
    obtain ⟨Y, HYE⟩ : ∃ Y, Hid (d1 (pl q) (pl p) = Y) := ⟨_, Lib.hid rfl⟩
    rw [HXE.out, HYE.out] at hdi
    have HDI := Lib.hid hdi
    have HD1 := Lib.hid hd1
    have hf1 : (E != 0) = false := by simp [hE]
    have hf2 : (E == 0) = true := by simp [hE]
    have HE0 := Lib.hid hE
    clear hd1 hmid HAD H0 hE hpp HPQ hdi
    go_wp2_with (first
      | (refine wpList_store_sh rfl (.tmp 8) (.tmp 16) rfl w1.heap.size rfl N (.slice a cs.length cap) d1 rfl rfl 85 _ (by rw [zero85, shl_size]) (heap_alloc_new w1 _) ?_
         intro w2 hp2 hx2
         have HX2 := Lib.hid hx2
         have HB2 := Lib.hid (hp2.below (below_to HB1.out (box_below w1 _)) HB1.out.size)
         have HZ2 := Lib.hid ((hp2.other _ (Nat.ne_of_lt (lt_of_block HZ1.out))).trans (((box_below w1 (.cells Try.zeroCells85 85)).block _ (lt_of_block HZ1.out)).trans HZ1.out))
         clear hp2 hx2)
      | (refine wpList_load_sh rfl (.tmp 8) rfl w1.heap.size rfl 85 N (.slice a cs.length cap) d1 HX2.out ?_)
      | fail)
    refine (HDI.out _).mono ?_
    rintro e w3 ⟨rfl, hb3⟩
    have HZ3 := Lib.hid ((hb3.block _ (lt_of_block HZ2.out)).trans HZ2.out)
    have HB3 := Lib.hid (below_to HB2.out hb3)
    clear hb3 HX2 HZ2 HB2 HZ1 HB1 HDI
    have k0 := cell_of_row w3 (w.heap.size + 1) 0 _ _ _ HZ3.out
    have k1 := cell_of_row w3 (w.heap.size + 1) 1 _ _ _ HZ3.out
    simp only [List.getElem?_toArray, List.getElem?_cons_zero, List.getElem?_cons_succ] at k0 k1
    have f0 := frozen_of_row w3 (w.heap.size + 1) 0 _ _ HZ3.out
    have f1 := frozen_of_row w3 (w.heap.size + 1) 1 _ _ HZ3.out
    have l1 := lt_of_block HZ3.out
    go_wp2
    refine bodyPost_ret (v := .tuple #[.agg #[.int .i64 X, .int .i64 Y], .int .i64 0]) ?_ rfl ⟨⟨X, Y, by rw [HE0.out], fun h => absurd HE0.out h, fun _ => ⟨d1, HD1.out, HXE.out.symm, HYE.out.symm⟩⟩, (HB3.out.setCell (p := ⟨w.heap.size + 1, 0, none⟩) (by show w.heap.size ≤ w.heap.size + 1; omega) _).setCell (p := ⟨w.heap.size + 1, 1, none⟩) (by show w.heap.size ≤ w.heap.size + 1; omega) _⟩
    simp [results, Try.results25, go_sem, *]
  · have hf1 : (E != 0) = true := by simp [hE]
    have hf2 : (E == 0) = false := by simp [hE]
    have HE := Lib.hid hE
    clear hE
    go_wp2_with (first
      | (refine wpList_store_sh rfl (.tmp 8) (.tmp 16) rfl w1.heap.size rfl n1 v1 d1 HV1.out rfl 85 _ (by rw [zero85, shl_size]) (heap_alloc_new w1 _) ?_
         intro w2 hp2 hx2
         have HB2 := Lib.hid (hp2.below (below_to HB1.out (box_below w1 _)) HB1.out.size)
         have HZ2 := Lib.hid ((hp2.other _ (Nat.ne_of_lt (lt_of_block HZ1.out))).trans (((box_below w1 (.cells Try.zeroCells85 85)).block _ (lt_of_block HZ1.out)).trans HZ1.out))
         have k0 := cell_of_row w2 (w.heap.size + 1) 0 _ _ _ HZ2.out
         have k1 := cell_of_row w2 (w.heap.size + 1) 1 _ _ _ HZ2.out
         simp only [List.getElem?_toArray, List.getElem?_cons_zero, List.getElem?_cons_succ] at k0 k1
         have f0 := frozen_of_row w2 (w.heap.size + 1) 0 _ _ HZ2.out
         have f1 := frozen_of_row w2 (w.heap.size + 1) 1 _ _ HZ2.out
         have l1 := lt_of_block HZ2.out
         clear hp2 hx2)
      | fail)
    refine bodyPost_ret (v := .tuple #[.agg #[.int .i64 0, .int .i64 0], .int .i64 E]) ?_ rfl ⟨⟨0, 0, rfl, fun _ => ⟨rfl, rfl⟩, fun h => absurd h HE.out⟩, (HB2.out.setCell (p := ⟨w.heap.size + 1, 0, none⟩) (by show w.heap.size ≤ w.heap.size + 1; omega) _).setCell (p := ⟨w.heap.size + 1, 1, none⟩) (by show w.heap.size ≤ w.heap.size + 1; omega) _⟩
    simp [results, Try.results25, go_sem, *]
end Go.Proofs.Ytplmlmmjfkbabaa
