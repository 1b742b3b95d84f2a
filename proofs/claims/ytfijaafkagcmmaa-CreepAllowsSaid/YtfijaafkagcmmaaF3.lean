/- A segment that is cut into two, or a stay of no hours: plain facts for CreepCut. No condition. -/
import Derived.Test.YtfijaafkagcmmaaF2
namespace Go.Proofs.Ytfijaafkagcmmaa
open Go.RowKit

/-- The parts of a range of hours. -/
def cutLo (h : Rg) (y : Int) : Int := y % (h.lo + 1)
def cutHi (h : Rg) (y : Int) : Int := cutLo h y + y % (h.hi - h.lo + 1)
/-- The segments behind the cut. -/
def cutL (ss : List Sg) (i : Nat) (y : Int) : List Sg :=
  ss.take i ++ [⟨(sg ss i).b, ⟨cutLo (sg ss i).h y, cutHi (sg ss i).h y⟩⟩] ++ ([⟨(sg ss i).b, ⟨(sg ss i).h.lo - cutLo (sg ss i).h y, (sg ss i).h.hi - cutHi (sg ss i).h y⟩⟩] ++ ss.drop (i + 1))
theorem cutL_len {ss : List Sg} {i : Nat} (y : Int) (h : i < ss.length) : (cutL ss i y).length = ss.length + 1 := by
  simp only [cutL, List.length_append, List.length_take, List.length_drop, List.length_cons, List.length_nil]
  omega
theorem split_sg {ss : List Sg} {i : Nat} (h : i < ss.length) : ss = ss.take i ++ sg ss i :: ss.drop (i + 1) := by
  have e : sg ss i = ss[i] := by simp [sg, h]
  rw [e, ← List.drop_eq_getElem_cons h, List.take_append_drop]
theorem cutL_lo {ss : List Sg} {i : Nat} (y : Int) (h : i < ss.length) (x : List Int) : loS (cutL ss i y) x = loS ss x := by
  have h1 := cut_lo (ss.take i) (ss.drop (i + 1)) (sg ss i).b ⟨cutLo (sg ss i).h y, cutHi (sg ss i).h y⟩ ⟨(sg ss i).h.lo - cutLo (sg ss i).h y, (sg ss i).h.hi - cutHi (sg ss i).h y⟩ (sg ss i).h (by simp only; omega) x
  have h2 : loS ss x = loS (ss.take i ++ sg ss i :: ss.drop (i + 1)) x := by rw [← split_sg h]
  rw [h2]
  refine Eq.trans ?_ h1
  simp [cutL]
theorem cutL_hi {ss : List Sg} {i : Nat} (y : Int) (h : i < ss.length) (x : List Int) : hiS (cutL ss i y) x = hiS ss x := by
  have h1 := cut_hi (ss.take i) (ss.drop (i + 1)) (sg ss i).b ⟨cutLo (sg ss i).h y, cutHi (sg ss i).h y⟩ ⟨(sg ss i).h.lo - cutLo (sg ss i).h y, (sg ss i).h.hi - cutHi (sg ss i).h y⟩ (sg ss i).h (by simp only; omega) x
  have h2 : hiS ss x = hiS (ss.take i ++ sg ss i :: ss.drop (i + 1)) x := by rw [← split_sg h]
  rw [h2]
  refine Eq.trans ?_ h1
  simp [cutL]
theorem rn_get {rs : List Rn} {k : Nat} (h : k < rs.length) : rn rs k = rs[k] := by simp [rn, h]
theorem cut_ok (ms : List Rg) {rs : List Rn} {k i : Nat} (y : Int) (hk : k < rs.length) (hi : i < (rn rs k).ss.length) :
    okL ms (rs.set k ⟨cutL (rn rs k).ss i y, (rn rs k).seen⟩) = okL ms rs :=
  ok_set ms rs k _ hk fun x => by
    unfold fitsB
    simp only
    rw [cutL_lo y hi, cutL_hi y hi, rn_get hk]
theorem stay_ok (ms : List Rg) {rs : List Rn} {k : Nat} (b : Int) (hk : k < rs.length) (hi : (rn rs k).ss = []) :
    okL ms (rs.set k ⟨[⟨b, ⟨0, 0⟩⟩], (rn rs k).seen⟩) = okL ms rs :=
  ok_set ms rs k _ hk fun x => by
    unfold fitsB
    rw [← rn_get hk, hi]
    simp only [loS, hiS]; simp; rfl
theorem cut_small {h : Rg} {y : Int} (h0 : 0 ≤ h.lo) (h1 : h.lo ≤ h.hi) (h2 : h.hi ≤ 1000000) (hy : 0 ≤ y) : 0 ≤ cutLo h y ∧ cutLo h y ≤ h.lo ∧ cutLo h y ≤ cutHi h y ∧ cutHi h y ≤ h.lo + (h.hi - h.lo) := by
  have a1 := Int.emod_nonneg y (show h.lo + 1 ≠ 0 by omega)
  have a2 := Int.emod_lt_of_pos y (show 0 < h.lo + 1 by omega)
  have b1 := Int.emod_nonneg y (show h.hi - h.lo + 1 ≠ 0 by omega)
  have b2 := Int.emod_lt_of_pos y (show 0 < h.hi - h.lo + 1 by omega)
  simp only [cutLo, cutHi]
  omega
end Go.Proofs.Ytfijaafkagcmmaa
