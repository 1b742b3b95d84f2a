/- A room that is valid, its plan and its life: the checks' contracts. Conditions: these. -/
import Derived.Test.YtfijaafkagcmmaaN
namespace Go.Proofs.Ytfijaafkagcmmaa
open Go.RowKit Go.Shelf
attribute [local irreducible] arrV

theorem some_ok {ms : List Rg} (h : MatOk ms) : emptyE (someB (allL ms)) = 0 := by
  have := h.some
  cases hl : allL ms with
  | nil => exact absurd hl this
  | cons a l => rfl
set_option maxRecDepth 100000 in
theorem runs_short (n : Nat) (v : Value) (nb : Nat) (rs : List Rn) (w : World) (hr : ∀ r, r ∈ rs → RnOk nb r) (hl : rs.length ≤ 6) (hV : RunsV n w v rs) (hn : n ≤ w.heap.size) :
    Calls Try.prog 55 #[v, .func (.func 90) #[] #[]] w fun e w' => e = .returned (.bool true) ∧ Below w.heap.size w w' := by
  have h := each_run n 90 #[] v rs (fun q => decide (((rn rs q).ss.length : Int) ≤ 8)) w (by simp [maxLen]; omega) hV hn (fun _ _ => rfl) (fun q sv w' hq hs _ _ => by
    obtain ⟨a, cap, rfl, -⟩ := hs
    simpa using runShort_any a (rn rs q).ss.length cap (rn rs q).seen.lo (rn rs q).seen.hi w' (by have := (hr _ (rn_mem hq)).len; simp [maxLen]; omega))
  rw [allN_yes (fun q hq => by have := (hr _ (rn_mem hq)).len; simp; omega)] at h
  exact h
set_option maxRecDepth 100000 in
theorem runs_good (n : Nat) (v : Value) (nb : Nat) (am : Option Addr) (capm : Nat) (rs : List Rn) (w : World) (hnb : nb ≤ 3) (hr : ∀ r, r ∈ rs → RnOk nb r) (hl : rs.length ≤ 6) (hV : RunsV n w v rs) (hn : n ≤ w.heap.size) :
    Calls Try.prog 55 #[v, .func (.func 91) #[.agg #[.slice am nb capm]] #[]] w fun e w' => e = .returned (.bool true) ∧ Below w.heap.size w w' := by
  have h := each_run n 91 #[.agg #[.slice am nb capm]] v rs (fun _ => true) w (by simp [maxLen]; omega) hV hn (fun _ _ => rfl) (fun q sv w' hq hs _ hn' => isRun_ok n nb am capm sv (rn rs q) w' (by simp [maxLen]; omega) (hr _ (rn_mem hq)) hs hn')
  rw [allN_yes (fun q hq => rfl)] at h
  exact h

/-- Two cells of a box, in a later world. -/
theorem two_cells {w w' : World} {b : Nat} {x y : Value} {t : TypeId} (h : w.heap[b]? = some (.cells #[x, y] t (0, 0))) (hb : Below w.heap.size w w') : w'.cell? ⟨b, 0, none⟩ = some x ∧ w'.cell? ⟨b, 1, none⟩ = some y ∧ w'.heap[b]? = some (.cells #[x, y] t (0, 0)) := by
  have h1 := (hb.block b (lt_of_block h)).trans h
  exact ⟨cell_of_row w' b 0 _ _ _ h1, cell_of_row w' b 1 _ _ _ h1, h1⟩

set_option maxRecDepth 100000 in
set_option maxHeartbeats 1000000 in
theorem rcheck_ok (n : Nat) (mv rv : Value) (ms : List Rg) (rs : List Rn) (w : World) (hK : RoomOk ms rs) (hV : RoomV n w mv rv ms rs) :
    Calls Try.prog 69 #[.agg #[mv, rv]] w fun e w' => e = .returned (.int .i64 0) ∧ Below w.heap.size w w' := by
  have HMC := Lib.hid fun w' (h : Below w.heap.size w w') => mcheck_ok n mv ms w' hK.mat.toRgsOk (hV.below h).m (hV.below h).lt
  rw [some_ok hK.mat] at HMC
  have HRS := Lib.hid fun w' (h : Below w.heap.size w w') => runs_short n rv ms.length rs w' hK.rn hK.len (hV.below h).r (hV.below h).lt
  have hlen := hK.len
  obtain ⟨am, capm, rfl, -⟩ := hV.m
  have HRG := Lib.hid fun w' (h : Below w.heap.size w w') => runs_good n rv ms.length am capm rs w' hK.mat.len hK.rn hK.len (hV.below h).r (hV.below h).lt
  obtain ⟨ar, capr, rfl, -⟩ := hV.r
  have HX := Lib.hid (heap_alloc_new w (.cells #[.slice am ms.length capm, .slice ar rs.length capr] 100))
  have HB := Lib.hid (box_below w (.cells #[.slice am ms.length capm, .slice ar rs.length capr] 100))
  clear hV hK
  have hg : ¬ (6 : Int) < rs.length := by omega
  go_enter Try.func69, Try.ntmps69
  go_wp2_with fail
  refine (HMC.out _ HB.out).mono ?_
  rintro e w1 ⟨rfl, hb1⟩
  obtain ⟨c0, c1, hx1⟩ := two_cells HX.out hb1
  have HX1 := Lib.hid hx1
  have HB1 := Lib.hid (below_to HB.out hb1)
  clear hb1 hx1
  go_wp2_with fail
  refine (HRS.out _ HB1.out).mono ?_
  rintro e w2 ⟨rfl, hb2⟩
  clear c0 c1
  obtain ⟨c0, c1, hx2⟩ := two_cells HX1.out hb2
  have HB2 := Lib.hid (below_to HB1.out hb2)
  clear hb2 hx2
  go_wp2_with fail
  refine (HRG.out _ HB2.out).mono ?_
  rintro e w3 ⟨rfl, hb3⟩
  have HB3 := Lib.hid (below_to HB2.out hb3)
  clear hb3
  go_wp2
  go_ret
  exact ⟨rfl, HB3.out⟩

/-- ErrFail, if no rates are allowed. -/
def failE (z : Bool) : Int := if z = true then 0 else 9
set_option maxRecDepth 100000 in
set_option maxHeartbeats 1000000 in
theorem checkAllowed_ok (n : Nat) (mv rv : Value) (ms : List Rg) (rs : List Rn) (w : World) (hK : RoomOk ms rs) (hV : RoomV n w mv rv ms rs) :
    Calls Try.prog 59 #[.agg #[mv, rv]] w fun e w' => e = .returned (.int .i64 (failE (someB (okL ms rs)))) ∧ Below w.heap.size w w' := by
  have HRC := Lib.hid fun w' (h : Below w.heap.size w w') => rcheck_ok n mv rv ms rs w' hK (hV.below h)
  have HAL := Lib.hid fun w' (h : Below w.heap.size w w') => allowed_any n mv rv ms rs w' hK (hV.below h)
  have hn := hV.lt
  have hlen := hK.mat.len
  have h3 : ∀ x, x ∈ okL ms rs → (pad3 x).length = 3 := fun x hx => pad3_len (by rw [len_of (mem_okL.1 hx).1]; exact hlen)
  have H3 := Lib.hid h3
  obtain ⟨am, capm, rfl, -⟩ := hV.m
  obtain ⟨ar, capr, rfl, -⟩ := hV.r
  have HX := Lib.hid (heap_alloc_new w (.cells #[.slice am ms.length capm, .slice ar rs.length capr] 100))
  have HB := Lib.hid (box_below w (.cells #[.slice am ms.length capm, .slice ar rs.length capr] 100))
  clear hV hK h3
  go_enter Try.func59, Try.ntmps59
  go_wp2_with fail
  refine (HRC.out _ HB.out).mono ?_
  rintro e w1 ⟨rfl, hb1⟩
  obtain ⟨c0, c1, hx1⟩ := two_cells HX.out hb1
  have HB1 := Lib.hid (below_to HB.out hb1)
  clear hb1 hx1
  go_wp2_with fail
  refine (HAL.out _ HB1.out).mono ?_
  rintro e w2 ⟨Bo, rfl, hb2, hm1, hm2, hseq⟩
  have HB2 := Lib.hid (below_to HB1.out hb2)
  have HSEQ := Lib.hid hseq
  clear hseq hb2
  go_wp2_with fail
  refine (some_any 104 _ _ _ (okL ms rs) w2 w2 (fun _ _ => rfl) HSEQ.out (Below.refl _ _) (fun k hk => by have := HB2.out.size; rcases hk with h | h <;> omega) H3.out).mono ?_
  rintro e w3 ⟨rfl, hb3⟩
  have HB3 := Lib.hid (below_to HB2.out hb3)
  cases hz : someB (okL ms rs) with
  | true =>
    have e0 : Hid (failE (someB (okL ms rs)) = 0) := Lib.hid (by rw [hz]; rfl)
    clear hz
    go_wp2
    go_ret
    exact ⟨by rw [e0.out]; rfl, HB3.out⟩
  | false =>
    have e0 : Hid (failE (someB (okL ms rs)) = 9) := Lib.hid (by rw [hz]; rfl)
    clear hz
    go_wp2
    go_ret
    exact ⟨by rw [e0.out]; rfl, HB3.out⟩
end Go.Proofs.Ytfijaafkagcmmaa
