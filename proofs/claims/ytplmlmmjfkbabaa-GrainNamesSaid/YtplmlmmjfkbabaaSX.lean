/- What is wrong with a chain; what a chain tells of a picture, by the program. No condition. -/
import Derived.Test.YtplmlmmjfkbabaaSW
namespace Go.Proofs.Ytplmlmmjfkbabaa
open Go.RowKit Go.Shelf
attribute [local irreducible] arrV wpQuiet mat shl

def chainE (n : Int) (cs : List Cm) (p : Int) (k : Nat) : Int := if askE n cs [p] ≠ 0 then askE n cs [p] else if 20 < k then 3 else 0
set_option maxRecDepth 100000 in
set_option maxHeartbeats 4000000 in
theorem checkChain_any (m : Nat) (n : Int) (v cv : Value) (cs : List Cm) (p : Int) (xs : List Int) (w : World) (hl : cs.length ≤ maxLen) (hV : CmsV m w v cs) (hX : IntsV m w cv xs) (hm : m ≤ w.heap.size) :
    Calls Try.prog 60 #[.agg #[.int .i64 n, v], .int .i64 p, cv] w fun e w' => e = .returned (.int .i64 (chainE n cs p xs.length)) ∧ Below w.heap.size w w' := by
  have HLA := Lib.hid fun w' pv (h : Below w.heap.size w w') (hP : IntsV w'.heap.size w' pv [p]) => checkPictures_any w'.heap.size n v pv cs [p] w' hl (by simp [maxLen]) ((hV.same (.below hm h)).up (Nat.le_trans hm h.size)) hP (Nat.le_refl _)
  obtain ⟨a, cap, rfl, -⟩ := hV
  obtain ⟨xa, xc, rfl, -⟩ := hX
  have e1 : askE n cs [p] ≠ 0 → chainE n cs p xs.length = askE n cs [p] := fun h => if_pos h
  have e2 : askE n cs [p] = 0 → 20 < xs.length → chainE n cs p xs.length = 3 := fun h h2 => by unfold chainE; rw [if_neg (fun h3 => h3 h), if_pos h2]
  have e3 : askE n cs [p] = 0 → ¬ 20 < xs.length → chainE n cs p xs.length = 0 := fun h h2 => by unfold chainE; rw [if_neg (fun h3 => h3 h), if_neg h2]
  generalize chainE n cs p xs.length = R at *
  generalize askE n cs [p] = E at *
  obtain ⟨L, hL⟩ : ∃ L, L = xs.length := ⟨_, rfl⟩
  rw [← hL] at e2 e3 ⊢
  clear hL
  have E1 := Lib.hid e1
  have E2 := Lib.hid e2
  have E3 := Lib.hid e3
  clear e1 e2 e3
  go_enter Try.func60, Try.ntmps60
  go_wp2_with fail
  have hy := box2 w (.cells #[.int .i64 n, .slice a cs.length cap] 31) (.cells #[.int .i64 p] 3)
  have hby := below2 w (.cells #[.int .i64 n, .slice a cs.length cap] 31) (.cells #[.int .i64 p] 3)
  generalize World.alloc (World.alloc w _) _ = W at *
  have hP : IntsV W.heap.size W (.slice (some ⟨w.heap.size + 1, 0, none⟩) 1 1) [p] := ⟨some ⟨w.heap.size + 1, 0, none⟩, 1, rfl, fun _ => ⟨_, 0, rfl, lt_of_block hy.2, fun i hi => by
    have hi2 : i < 1 := hi
    obtain rfl : i = 0 := by omega
    exact cell_of_row _ _ 0 _ _ _ hy.2⟩⟩
  refine (HLA.out W _ hby hP).mono ?_
  rintro e w1 ⟨rfl, hb1⟩
  have HB1 := Lib.hid (below_to hby hb1)
  clear hb1 hy hby hP HLA
  by_cases hE : E = 0
  · have hf1 : (E != 0) = false := by simp [hE]
    have HE := Lib.hid hE
    clear hE
    by_cases h20 : 20 < L
    · have hd : decide ((20 : Int) < (L : Int)) = true := decide_eq_true (by omega)
      have H20 := Lib.hid h20
      clear h20
      go_wp2
      go_ret
      exact ⟨by rw [E2.out HE.out H20.out]; rfl, HB1.out⟩
    · have hd : decide ((20 : Int) < (L : Int)) = false := decide_eq_false (by omega)
      have H20 := Lib.hid h20
      clear h20
      go_wp2
      go_ret
      exact ⟨by rw [E3.out HE.out H20.out]; rfl, HB1.out⟩
  · have hf1 : (E != 0) = true := by simp [hE]
    have HE := Lib.hid hE
    clear hE
    go_wp2
    go_ret
    exact ⟨by rw [E1.out HE.out]; rfl, HB1.out⟩
def tellE (n : Int) (cs : List Cm) (p : Int) (xs : List Int) : Int := if chainE n cs p xs.length ≠ 0 then chainE n cs p xs.length else if (tellR cs xs.reverse p).isSome = true then 0 else 10
theorem chain_ok {n : Int} {cs : List Cm} {p : Int} {k : Nat} (h : chainE n cs p k = 0) : AlbOk n cs ∧ k ≤ 20 := by
  unfold chainE at h
  by_cases h1 : askE n cs [p] = 0
  · rw [if_neg (fun h2 => h2 h1)] at h
    refine ⟨?_, ?_⟩
    · unfold askE at h1
      by_cases h3 : faultA n cs = 0
      · exact fault_ok h3
      · rw [if_pos h3] at h1
        exact absurd h1 h3
    · by_cases h2 : 20 < k
      · rw [if_pos h2] at h
        cases h
      · omega
  · rw [if_pos h1] at h
    exact absurd h h1
theorem tells_out {w2 : World} {D : Nat} {tmps : Array Value} {lo hi k : Int} (h6 : tmps[6]? = some (.pointer (some ⟨D, 0, none⟩))) (h7 : tmps[7]? = some (.int .i64 k))
    (hr : w2.heap[D]? = some (.cells #[.int .i64 lo, .int .i64 hi] 41 (0, 0))) : (results Try.f36 tmps).run Try.prog w2 = .ok (.tuple #[.agg #[.int .i64 lo, .int .i64 hi], .int .i64 k]) w2 := by
  have e0 := cell_of_row _ D 0 _ _ _ hr
  have e1 := cell_of_row _ D 1 _ _ _ hr
  simp only [List.getElem?_toArray, List.getElem?_cons_zero, List.getElem?_cons_succ] at e0 e1
  simp [results, Try.results36, go_sem, *]
set_option maxRecDepth 100000 in
set_option maxHeartbeats 4000000 in
theorem Tells_any (m : Nat) (n : Int) (v : Value) (ca : Option Addr) (cc : Nat) (cs : List Cm) (p : Int) (xs : List Int) (w : World) (hl : cs.length ≤ maxLen) (hcc : xs.length ≤ cc) (hV : CmsV m w v cs) (hX : IntsV m w (.slice ca xs.length cc) xs) (hm : m ≤ w.heap.size) :
    Calls Try.prog 36 #[.agg #[.int .i64 n, v], .int .i64 p, .slice ca xs.length cc] w fun e w' => (∃ lo hi, e = .returned (.tuple #[.agg #[.int .i64 lo, .int .i64 hi], .int .i64 (tellE n cs p xs)]) ∧ (tellE n cs p xs = 0 → tellR cs xs.reverse p = some ⟨lo, hi⟩) ∧ (tellE n cs p xs ≠ 0 → lo = 0 ∧ hi = 0)) ∧ Below w.heap.size w w' := by
  have HCC := Lib.hid fun w' (h : Below w.heap.size w w') => checkChain_any m n v (.slice ca xs.length cc) cs p xs w' hl (hV.same (.below hm h)) (hX.same (.below hm h)) (Nat.le_trans hm h.size)
  have HTE := Lib.hid fun w' (h : Below w.heap.size w w') (hA : AlbOk n cs) (hk : xs.length ≤ 1000) => tells_any m n v cs hA xs.length xs ca cc p w' rfl hk hcc (hV.same (.below hm h)) (hX.same (.below hm h)) (Nat.le_trans hm h.size)
  have HOK := Lib.hid fun (h : chainE n cs p xs.length = 0) => chain_ok h
  have e1 : chainE n cs p xs.length ≠ 0 → tellE n cs p xs = chainE n cs p xs.length := fun h => if_pos h
  have e2 : chainE n cs p xs.length = 0 → tellE n cs p xs = if (tellR cs xs.reverse p).isSome = true then 0 else 10 := fun h => if_neg (fun h2 => h2 h)
  generalize tellR cs xs.reverse p = o at *
  generalize tellE n cs p xs = R at *
  generalize chainE n cs p xs.length = E at *
  have E1 := Lib.hid e1
  have E2 := Lib.hid e2
  clear e1 e2
  obtain ⟨va, vc, rfl, -⟩ := hV
  have h1 := box2 w (.cells #[.int .i64 n, .slice va cs.length vc] 31) (.cells #[.int .i64 0, .int .i64 0] 41)
  have HX1 := Lib.hid h1.1
  have HX2 := Lib.hid h1.2
  have HB := Lib.hid (below2 w (.cells #[.int .i64 n, .slice va cs.length vc] 31) (.cells #[.int .i64 0, .int .i64 0] 41))
  clear h1 hX
  go_enter Try.func36, Try.ntmps36
  obtain ⟨W2, hW2⟩ : ∃ W2, (w.alloc (.cells #[.int .i64 n, .slice va cs.length vc] 31)).alloc (.cells #[.int .i64 0, .int .i64 0] 41) = W2 := ⟨_, rfl⟩
  rw [hW2] at HX1 HX2 HB
  have c0 := cell_of_row W2 w.heap.size 0 _ _ _ HX1.out
  have c1 := cell_of_row W2 w.heap.size 1 _ _ _ HX1.out
  simp only [List.getElem?_toArray, List.getElem?_cons_zero, List.getElem?_cons_succ] at c0 c1
  have l1 := lt_of_block HX1.out
  go_wp2_with fail
  refine (HCC.out W2 HB.out).mono ?_
  rintro e w1 ⟨rfl, hb1⟩
  have HY1 := Lib.hid ((hb1.block _ (lt_of_block HX1.out)).trans HX1.out)
  have HY2 := Lib.hid ((hb1.block _ (lt_of_block HX2.out)).trans HX2.out)
  have HB1 := Lib.hid (below_to HB.out hb1)
  clear hb1 HX1 HX2 HB HCC c0 c1 l1
  by_cases hE : E = 0
  · have hf1 : (E != 0) = false := by simp [hE]
    have hok := HOK.out hE
    have HEE := Lib.hid (E2.out hE)
    clear hE E1 E2 HOK
    have c0 := cell_of_row w1 w.heap.size 0 _ _ _ HY1.out
    have c1 := cell_of_row w1 w.heap.size 1 _ _ _ HY1.out
    simp only [List.getElem?_toArray, List.getElem?_cons_zero, List.getElem?_cons_succ] at c0 c1
    have l1 := lt_of_block HY1.out
    have HCT := Lib.hid (HTE.out w1 HB1.out hok.1 (by omega))
    clear hok HTE
    go_wp2_with fail
    refine HCT.out.mono ?_
    rintro e W3 ⟨⟨lo, hi, rfl, hIs⟩, hb3⟩
    have HIS := Lib.hid hIs.1
    have HB3 := Lib.hid (below_to HB1.out hb3)
    replace HY2 := Lib.hid ((hb3.block _ (lt_of_block HY2.out)).trans HY2.out)
    clear hb3 c0 c1 l1 HCT HY1 HB1 hIs
    have hbx := box_below W3 (.cells #[.int .i64 0, .int .i64 0] 41)
    have HZ2 := Lib.hid ((hbx.block _ (lt_of_block HY2.out)).trans HY2.out)
    have HZ3 := Lib.hid (heap_alloc_new W3 (.cells #[.int .i64 0, .int .i64 0] 41))
    have HZB := Lib.hid (below_to HB3.out hbx)
    have lw3 : w.heap.size + 1 < W3.heap.size := lt_of_block HY2.out
    clear hbx HY2 HB3
    cases o with
    | none =>
      go_wp2_with (first
        | (refine wpList_store2 rfl (.tmp 9) (.tmp 24) rfl W3.heap.size rfl _ _ lo hi rfl HZ3.out ?_
           intro w4 hp4 hg4
           have HS4 := Lib.hid ((hp4.other (w.heap.size + 1) (by omega)).trans HZ2.out)
           have HB4 := Lib.hid (hp4.below HZB.out (by omega))
           clear hp4 hg4)
        | (refine wpList_store2 rfl (.tmp 6) (.tmp 28) rfl (w.heap.size + 1) rfl _ _ 0 0 rfl HS4.out ?_
           intro w2 hp2 hg2
           have HP2 := Lib.hid hp2
           have HG2 := Lib.hid hg2
           clear hp2 hg2)
        | fail)
      have hR : R = 10 := HEE.out
      subst hR
      exact ⟨rfl, _, tells_out rfl rfl HG2.out, ⟨0, 0, rfl, fun h => absurd h (by decide), fun _ => ⟨rfl, rfl⟩⟩, HP2.out.below HB4.out (by omega)⟩
    | some r =>
      obtain ⟨rfl, rfl⟩ := HIS.out r rfl
      go_wp2_with (first
        | (refine wpList_store2 rfl (.tmp 9) (.tmp 24) rfl W3.heap.size rfl _ _ r.lo r.hi rfl HZ3.out ?_
           intro w4 hp4 hg4
           have HS4 := Lib.hid ((hp4.other (w.heap.size + 1) (by omega)).trans HZ2.out)
           have HB4 := Lib.hid (hp4.below HZB.out (by omega))
           have c0 := cell_of_row w4 W3.heap.size 0 _ _ _ hg4
           have c1 := cell_of_row w4 W3.heap.size 1 _ _ _ hg4
           simp only [List.getElem?_toArray, List.getElem?_cons_zero, List.getElem?_cons_succ] at c0 c1
           have l1 := lt_of_block hg4
           clear hp4 hg4)
        | (refine wpList_store2 rfl (.tmp 6) (.tmp 29) rfl (w.heap.size + 1) rfl _ _ r.lo r.hi rfl HS4.out ?_
           intro w2 hp2 hg2
           have HP2 := Lib.hid hp2
           have HG2 := Lib.hid hg2
           clear hp2 hg2)
        | fail)
      have hR : R = 0 := HEE.out
      subst hR
      exact ⟨rfl, _, tells_out rfl rfl HG2.out, ⟨r.lo, r.hi, rfl, fun h => rfl, fun h => absurd rfl h⟩, HP2.out.below HB4.out (by omega)⟩
  · have hf1 : (E != 0) = true := by simp [hE]
    have HEE := Lib.hid (E1.out hE)
    have HE := Lib.hid hE
    clear hE E1 E2 HOK HTE
    go_wp2_with (first
      | (refine wpList_store2 rfl (.tmp 6) (.tmp 17) rfl (w.heap.size + 1) rfl _ _ 0 0 rfl HY2.out ?_
         intro w2 hp2 hg2
         have HP2 := Lib.hid hp2
         have HG2 := Lib.hid hg2
         clear hp2 hg2)
      | fail)
    have hR : R = E := HEE.out
    subst hR
    exact ⟨rfl, _, tells_out rfl rfl HG2.out, ⟨0, 0, rfl, fun h => absurd h HE.out, fun _ => ⟨rfl, rfl⟩⟩, HP2.out.below HB1.out (by omega)⟩
end Go.Proofs.Ytplmlmmjfkbabaa
