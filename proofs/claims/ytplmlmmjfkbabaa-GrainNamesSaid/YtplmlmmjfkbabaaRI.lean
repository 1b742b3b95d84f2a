/- CheckAlbum, the law's fault, a range for the program, and the error of an album that has to be possible. No condition. -/
import Derived.Test.YtplmlmmjfkbabaaRH
import Derived.Test.YtplmlmmjfkbabaaADJ
namespace Go.Proofs.Ytplmlmmjfkbabaa
open Go.RowKit Go.Shelf
attribute [local irreducible] arrV wpQuiet mat shl

set_option maxHeartbeats 400000 in
theorem to_any (lo hi : Int) (w : World) :
    Calls Try.prog 24 #[.agg #[.int .i64 lo, .int .i64 hi]] w fun e w' => e = .returned (.agg #[.int .i64 lo, .int .i64 hi]) ∧ Below w.heap.size w w' := by
  go_enter Try.func24, Try.ntmps24
  go_wp2
  refine bodyPost_ret (v := .agg #[.int .i64 lo, .int .i64 hi]) ?_ rfl ⟨rfl, below2 _ _ _⟩
  simp [results, Try.results24, go_sem]
set_option maxHeartbeats 400000 in
theorem CheckAlbum_any (m : Nat) (n : Int) (v : Value) (cs : List Cm) (w : World) (hl : cs.length ≤ maxLen) (hV : CmsV m w v cs) (hm : m ≤ w.heap.size) :
    Calls Try.prog 19 #[.agg #[.int .i64 n, v]] w fun e w' => e = .returned (.int .i64 (faultA n cs)) ∧ Below w.heap.size w w' := by
  have HF := Lib.hid fun w' (h : Below w.heap.size w w') => check_any m n v cs w' hl (hV.same (.below hm h)) (Nat.le_trans hm h.size)
  obtain ⟨a, cap, rfl, -⟩ := hV
  have HX := Lib.hid (heap_alloc_new w (.cells #[.int .i64 n, .slice a cs.length cap] 31))
  have HB := Lib.hid (box_below w (.cells #[.int .i64 n, .slice a cs.length cap] 31))
  go_enter Try.func19, Try.ntmps19
  go_wp2_with fail
  refine (HF.out _ HB.out).mono ?_
  rintro e w2 ⟨rfl, hb2⟩
  have HB2 := Lib.hid (below_to HB.out hb2)
  clear hb2
  go_wp2
  go_ret
  exact ⟨rfl, HB2.out⟩
set_option maxHeartbeats 400000 in
theorem fault_any (m : Nat) (n : Int) (v : Value) (cs : List Cm) (w : World) (hl : cs.length ≤ maxLen) (hV : CmsV m w v cs) (hm : m ≤ w.heap.size) :
    Calls Try.prog 22 #[.agg #[.int .i64 n, v]] w fun e w' => e = .returned (.int .i64 (faultA n cs)) ∧ Below w.heap.size w w' := by
  have HF := Lib.hid fun w' (h : Below w.heap.size w w') => Fault_any m n v cs w' hl (hV.same (.below hm h)) (Nat.le_trans hm h.size)
  obtain ⟨a, cap, rfl, -⟩ := hV
  have HX := Lib.hid (heap_alloc_new w (.cells #[.int .i64 n, .slice a cs.length cap] 24))
  have HB := Lib.hid (box_below w (.cells #[.int .i64 n, .slice a cs.length cap] 24))
  go_enter Try.func22, Try.ntmps22
  go_wp2_with fail
  refine (HF.out _ HB.out).mono ?_
  rintro e w2 ⟨rfl, hb2⟩
  have HB2 := Lib.hid (below_to HB.out hb2)
  clear hb2
  go_wp2
  go_ret
  exact ⟨rfl, HB2.out⟩
theorem lay_fault {n : Int} {cs : List Cm} (ps : List Int) (h : faultA n cs ≠ 0) : layE n cs ps = faultA n cs := by
  unfold layE askE
  rw [if_pos h, if_pos h]
theorem lay_pics {n : Int} {cs : List Cm} (ps : List Int) (h : faultA n cs = 0) (hp : picsB n ps = false) : layE n cs ps = 2 := by
  simp [layE, askE, h, hp]
theorem lay_one {n : Int} {cs : List Cm} {ps : List Int} (h : AlbOk n cs) (hp : picsB n ps = true) (d : Option Dm) (hd : distO cs = d) : layE n cs ps = if d.isSome = true then 0 else 9 := by rw [lay_of h hp, hd]
theorem pics_one (n p : Int) : picsB n [p] = hasB 0 (n - 1) p := by
  have e : picsB n [p] = picB n p := by simp [picsB, allN, ld, List.range_succ]
  rw [e]
  unfold picB hasB
  exact decide_eq_decide.2 (by omega)
set_option maxHeartbeats 1000000 in
theorem asked_any (n : Int) (v : Value) (cs : List Cm) (p : Int) (w : World) (hl : cs.length ≤ maxLen) (hV : CmsV w.heap.size w v cs) :
    Calls Try.prog 26 #[.agg #[.int .i64 n, v], .int .i64 p] w fun e w' => e = .returned (.int .i64 (layE n cs [p])) ∧ Below w.heap.size w w' := by
  have HF := Lib.hid fun w' (h : Below w.heap.size w w') => fault_any w.heap.size n v cs w' hl (hV.same (.below (Nat.le_refl _) h)) h.size
  have HG := Lib.hid fun (N : Nat) (hN : n = N) (hA : AlbOk n cs) w' (h : Below w.heap.size w w') => refGrades_any N v cs w' (hN ▸ hA) ((hV.same (.below (Nat.le_refl _) h)).up h.size)
  obtain ⟨a, cap, rfl, -⟩ := hV
  have HX := Lib.hid (heap_alloc_new w (.cells #[.int .i64 n, .slice a cs.length cap] 24))
  have HB := Lib.hid (box_below w (.cells #[.int .i64 n, .slice a cs.length cap] 24))
  go_enter Try.func26, Try.ntmps26
  go_wp2_with fail
  refine (HF.out _ HB.out).mono ?_
  rintro e w2 ⟨rfl, hb2⟩
  have HX2 := Lib.hid ((hb2.block _ (lt_of_block HX.out)).trans HX.out)
  have HB2 := Lib.hid (below_to HB.out hb2)
  clear hb2 HF HX HB
  by_cases hf : faultA n cs = 0
  · have HA := Lib.hid (fault_ok hf)
    have h1 : (faultA n cs == 0) = true := by simp [hf]
    have HLP := Lib.hid fun (h : hasB 0 (n - 1) p = false) => lay_pics (n := n) (cs := cs) [p] hf (by rw [pics_one, h])
    have HLD := Lib.hid fun (h : hasB 0 (n - 1) p = true) d (hd : distO cs = d) => lay_one HA.out (ps := [p]) (by rw [pics_one, h]) d hd
    have hn0 := HA.out.n0
    have hn8 := HA.out.n8
    have hw1 : IntKind.i64.wrap (n - 1) = n - 1 := IntWalk.i64_in _ (by omega)
    have c0 := cell_of_row w2 w.heap.size 0 _ _ _ HX2.out
    have c1 := cell_of_row w2 w.heap.size 1 _ _ _ HX2.out
    simp only [List.getElem?_toArray, List.getElem?_cons_zero, List.getElem?_cons_succ] at c0 c1
    have l0 := lt_of_block HX2.out
    generalize faultA n cs = F at *
    clear hf
    go_wp2_with fail
    refine (In_any p 0 (n - 1) w2).mono ?_
    rintro e w3 ⟨rfl, hb3⟩
    have HX3 := Lib.hid ((hb3.block _ (lt_of_block HX2.out)).trans HX2.out)
    have HB3 := Lib.hid (below_to HB2.out hb3)
    clear hb3 HX2 HB2 c0 c1 l0
    cases hp : hasB 0 (n - 1) p with
    | false =>
      have HL := Lib.hid (HLP.out hp)
      go_wp2
      go_ret
      exact ⟨by rw [HL.out]; rfl, HB3.out⟩
    | true =>
      have c0 := cell_of_row w3 w.heap.size 0 _ _ _ HX3.out
      have c1 := cell_of_row w3 w.heap.size 1 _ _ _ HX3.out
      simp only [List.getElem?_toArray, List.getElem?_cons_zero, List.getElem?_cons_succ] at c0 c1
      have l0 := lt_of_block HX3.out
      obtain ⟨N, rfl⟩ : ∃ N : Nat, n = (N : Int) := ⟨n.toNat, by omega⟩
      go_wp2_with fail
      refine (HG.out N rfl HA.out w3 HB3.out).mono ?_
      rintro e w4 ⟨hg, hb4⟩
      have HB4 := Lib.hid (below_to HB3.out hb4)
      clear hb4 c0 c1 l0 HG
      rcases hg with ⟨d, r, hd, rfl, -⟩ | ⟨hd, rfl⟩
      · have HL := Lib.hid (HLD.out hp _ hd)
        clear hd hp
        go_wp2
        go_ret
        exact ⟨by rw [HL.out]; rfl, HB4.out⟩
      · have HL := Lib.hid (HLD.out hp _ hd)
        clear hd hp
        go_wp2
        go_ret
        exact ⟨by rw [HL.out]; rfl, HB4.out⟩
  · have h1 : (faultA n cs == 0) = false := by simp [hf]
    have HL := Lib.hid (lay_fault [p] hf)
    generalize faultA n cs = F at *
    clear hf
    go_wp2
    go_ret
    exact ⟨by rw [HL.out]; rfl, HB2.out⟩
end Go.Proofs.Ytplmlmmjfkbabaa
