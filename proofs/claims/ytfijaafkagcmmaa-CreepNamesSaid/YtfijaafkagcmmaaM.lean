/- The checks of a valid material, of valid runs and of a valid plan: contracts. Conditions: these. -/
import Derived.Test.YtfijaafkagcmmaaL
namespace Go.Proofs.Ytfijaafkagcmmaa
open Go.RowKit Go.Shelf
attribute [local irreducible] arrV

set_option maxRecDepth 100000 in
set_option maxHeartbeats 1000000 in
theorem allowed_any (n : Nat) (mv rv : Value) (ms : List Rg) (rs : List Rn) (w : World) (hK : RoomOk ms rs) (hV : RoomV n w mv rv ms rs) :
    Calls Try.prog 78 #[.agg #[mv, rv]] w fun e w' => ∃ Bo, e = .returned (.func (.func 104) #[] #[.pointer (some ⟨Bo, 0, none⟩)]) ∧ Below w.heap.size w w' ∧ w.heap.size ≤ Bo ∧ Bo < w'.heap.size ∧
      SeqD Try.prog 104 #[.pointer (some ⟨Bo, 0, none⟩)] encX (fun x => x ∈ okL ms rs) (fun k => k < n ∨ k = Bo) (fun xs => xs = okL ms rs) (fun pre => pre <+: okL ms rs) w' := by
  have hV' := hV
  obtain ⟨am, capm, rfl, -⟩ := hV'.m
  obtain ⟨ar, capr, rfl, -⟩ := hV'.r
  have hb := box_below w (.cells #[.slice am ms.length capm, .slice ar rs.length capr] 100)
  have hx := heap_alloc_new w (.cells #[.slice am ms.length capm, .slice ar rs.length capr] 100)
  have hseq := Lib.hid (allowed_seq n w.heap.size _ _ ms rs _ hK hx (hV.below hb))
  clear hV hV' hx
  go_enter Try.func78, Try.ntmps78
  go_wp2
  go_ret
  exact ⟨w.heap.size, rfl, hb, Nat.le_refl _, by simp, hseq.out⟩

def bandsB (ms : List Rg) : Bool := hasB 1 3 ms.length && allN (fun q => rateB (rg ms q).lo (rg ms q).hi) ms.length
theorem bandsB_ok {ms : List Rg} (h : RgsOk ms) : bandsB ms = true := by
  have h1 := h.one
  have h2 := h.len
  unfold bandsB
  rw [allN_yes]
  · simp [hasB]; omega
  · intro q hq
    have := h.rg _ (rg_mem hq)
    simp only [rateB, withinB, Bool.and_eq_true, decide_eq_true_eq]
    omega

set_option maxRecDepth 100000 in
set_option maxHeartbeats 1000000 in
theorem hasBands_any (n : Nat) (mv : Value) (ms : List Rg) (w : World) (hl : ms.length ≤ maxLen) (hV : RgsV n w mv ms) (hn : n ≤ w.heap.size) :
    Calls Try.prog 72 #[.agg #[mv]] w fun e w' => e = .returned (.bool (bandsB ms)) ∧ Below w.heap.size w w' := by
  have hV' := hV
  obtain ⟨a, cap, rfl, -⟩ := hV'
  have hb := box_below w (.cells #[.slice a ms.length cap] 33)
  have hx := heap_alloc_new w (.cells #[.slice a ms.length cap] 33)
  have HX := Lib.hid hx
  have HE := Lib.hid fun w' (h : Below w.heap.size w w') => each_rg n 97 #[] _ ms (fun q => rateB (rg ms q).lo (rg ms q).hi) w' hl (hV.same (.below hn h)) (Nat.le_trans hn h.size) (fun _ _ => rfl)
    (fun q w'' _ _ _ => by simpa using isOfRates_any (rg ms q).lo (rg ms q).hi w'')
  have HH := Lib.hid (has_any 1 3 ms.length)
  have HB := Lib.hid hb
  have e : bandsB ms = (hasB 1 3 ms.length && allN (fun q => rateB (rg ms q).lo (rg ms q).hi) ms.length) := rfl
  rw [e]
  clear hV hx hb e
  unfold maxLen at hl
  generalize allN (fun q => rateB (rg ms q).lo (rg ms q).hi) ms.length = z at *
  cases h : hasB 1 3 ms.length with
  | false =>
    rw [h] at HH
    clear h
    go_enter Try.func72, Try.ntmps72
    go_wp2_with (go_at_call 88; refine (HH.out _).mono ?_; rintro e w1 ⟨rfl, hb1⟩)
    go_ret
    exact ⟨rfl, below_to HB.out hb1⟩
  | true =>
    rw [h] at HH
    clear h
    go_enter Try.func72, Try.ntmps72
    go_wp2_with (go_at_call 88; refine (HH.out _).mono ?_; rintro e w1 ⟨rfl, hb1⟩
                 have hx1 := (hb1.block _ (lt_of_block HX.out)).trans HX.out
                 have c0 := cell_of_row w1 w.heap.size 0 _ _ _ hx1
                 simp at c0)
    refine (HE.out _ (below_to HB.out hb1)).mono ?_
    rintro e w2 ⟨rfl, hb2⟩
    go_wp2
    go_ret
    exact ⟨rfl, below_to (below_to HB.out hb1) hb2⟩

def emptyE (z : Bool) : Int := if z = true then 0 else 1
set_option maxRecDepth 100000 in
set_option maxHeartbeats 1000000 in
theorem mcheck_ok (n : Nat) (mv : Value) (ms : List Rg) (w : World) (hm : RgsOk ms) (hV : RgsV n w mv ms) (hn : n ≤ w.heap.size) :
    Calls Try.prog 53 #[.agg #[mv]] w fun e w' => e = .returned (.int .i64 (emptyE (someB (allL ms)))) ∧ Below w.heap.size w w' := by
  have hl : ms.length ≤ maxLen := by have := hm.len; simp [maxLen]; omega
  have HHB := Lib.hid (hasBands_any n mv ms)
  have HAL := Lib.hid fun w' (h : Below w.heap.size w w') => all_any n mv ms w' hm (hV.same (.below hn h)) (Nat.le_trans hn h.size)
  have HVV := Lib.hid fun w' (h : Below w.heap.size w w') => hV.same (.below hn h)
  have hbo := Lib.hid (bandsB_ok hm)
  have hlen := hm.len
  have hV' := hV
  obtain ⟨a, cap, rfl, -⟩ := hV'
  have HX := Lib.hid (heap_alloc_new w (.cells #[.slice a ms.length cap] 33))
  have HB := Lib.hid (box_below w (.cells #[.slice a ms.length cap] 33))
  clear hV
  go_enter Try.func53, Try.ntmps53
  go_wp2_with fail
  refine (HHB.out _ hl (HVV.out _ HB.out) (Nat.le_trans hn HB.out.size)).mono ?_
  rintro e w1 ⟨rfl, hb1⟩
  rw [hbo.out]
  have hx1 := (hb1.block _ (lt_of_block HX.out)).trans HX.out
  have c0 := cell_of_row w1 w.heap.size 0 _ _ _ hx1
  simp at c0
  have HB1 := Lib.hid (below_to HB.out hb1)
  clear hb1 hx1
  go_wp2_with fail
  refine (HAL.out _ HB1.out).mono ?_
  rintro e w2 ⟨Bm, rfl, hb2, hm1, hm2, hseq⟩
  have HB2 := Lib.hid (below_to HB1.out hb2)
  have HSEQ := Lib.hid hseq
  clear hseq hb2
  go_wp2_with fail
  refine (some_any 98 _ _ _ (allL ms) w2 w2 (fun _ _ => rfl) HSEQ.out (Below.refl _ _) (fun k hk => by have := HB2.out.size; rcases hk with h | h <;> omega) (fun x hx => pad3_len (by rw [len_of hx]; exact hlen))).mono ?_
  rintro e w3 ⟨rfl, hb3⟩
  have HB3 := Lib.hid (below_to HB2.out hb3)
  cases hz : someB (allL ms) with
  | true =>
    have e0 : Hid (emptyE (someB (allL ms)) = 0) := Lib.hid (by rw [hz]; rfl)
    clear hz
    go_wp2
    go_ret
    exact ⟨by rw [e0.out]; rfl, HB3.out⟩
  | false =>
    have e0 : Hid (emptyE (someB (allL ms)) = 1) := Lib.hid (by rw [hz]; rfl)
    clear hz
    go_wp2
    go_ret
    exact ⟨by rw [e0.out]; rfl, HB3.out⟩
end Go.Proofs.Ytfijaafkagcmmaa
