/- Each change makes the ranges narrower: plain facts of the reference. No condition. -/
import Derived.Test.YtplmlmmjfkbabaaRB
import Derived.Test.YtplmlmmjfkbabaaK
namespace Go.Proofs.Ytplmlmmjfkbabaa

def w1R (r : Rg) : Nat := (r.hi - r.lo + 1).toNat
def widR (rs : List Rg) : Nat := (rs.map w1R).sum
theorem wid_set : ∀ (rs : List Rg) (i : Nat) (x : Rg), i < rs.length → widR (rs.set i x) + w1R (rg rs i) = widR rs + w1R x
  | [], i, x, h => by simp at h
  | a :: l, 0, x, _ => by simp [widR, rg]; omega
  | a :: l, i + 1, x, h => by
    have ih := wid_set l i x (by simpa using h)
    simp only [widR, rg, List.set_cons_succ, List.map_cons, List.sum_cons, List.getElem?_cons_succ] at ih ⊢
    omega
theorem cap_le (a b : Rg) : w1R (capR a b) ≤ w1R a := by
  simp only [w1R, capR]
  omega
theorem cap_lt {a b : Rg} (h : capR a b ≠ a) (hne : a.lo ≤ a.hi) : w1R (capR a b) < w1R a := by
  have hk : ¬ (max a.lo b.lo = a.lo ∧ min a.hi b.hi = a.hi) := fun e => h (by
    unfold capR
    rw [e.1, e.2])
  simp only [w1R, capR]
  omega
theorem newL_le (rs : List Rg) (c : Cm) : w1R (newL rs c) ≤ w1R (rg rs c.l.toNat) := cap_le _ _
theorem newR_le (rs : List Rg) (c : Cm) : w1R (newR rs c) ≤ w1R (sideR rs c.r) := by
  unfold newR
  split
  · exact cap_le _ _
  · exact Nat.le_refl _
theorem cut_wid {n : Nat} {rs : List Rg} {c : Cm} (hl : rs.length = n) (hc : InR n c) : widR (cutR rs c) + w1R (rg rs c.l.toNat) + w1R (sideR rs c.r) = widR rs + w1R (newL rs c) + w1R (newR rs c) := by
  have h1 := hc.ln
  by_cases hr : 0 ≤ c.r
  · have h2 := hc.rn hr
    have hne : c.l.toNat ≠ c.r.toNat := by have := hc.ne; have := hc.l0; omega
    have e1 := wid_set rs c.r.toNat (newR rs c) (by omega)
    have e2 := wid_set (rs.set c.r.toNat (newR rs c)) c.l.toNat (newL rs c) (by simp; omega)
    rw [rg_set (by omega), if_neg hne] at e2
    have e3 : sideR rs c.r = rg rs c.r.toNat := if_pos hr
    have e4 : cutR rs c = (rs.set c.r.toNat (newR rs c)).set c.l.toNat (newL rs c) := by unfold cutR; rw [if_pos hr]
    rw [e4, e3]
    omega
  · have e2 := wid_set rs c.l.toNat (newL rs c) (by omega)
    have e3 : newR rs c = sideR rs c.r := if_neg hr
    have e4 : cutR rs c = rs.set c.l.toNat (newL rs c) := by unfold cutR; rw [if_neg hr]
    rw [e4, e3]
    omega
theorem cut_le_wid {n : Nat} {rs : List Rg} {c : Cm} (hl : rs.length = n) (hc : InR n c) : widR (cutR rs c) ≤ widR rs := by
  have := cut_wid hl hc
  have := newL_le rs c
  have := newR_le rs c
  omega
theorem cut_lt_wid {n : Nat} {rs : List Rg} {c : Cm} (hl : rs.length = n) (hc : InR n c) (hne : ∀ p, p < n → (rg rs p).lo ≤ (rg rs p).hi) (hs : sameR rs c = false) : widR (cutR rs c) < widR rs := by
  have e := cut_wid hl hc
  have l1 := newL_le rs c
  have l2 := newR_le rs c
  have hsd := side_ne hc hne
  unfold sameR at hs
  simp only [Bool.and_eq_false_iff, decide_eq_false_iff_not] at hs
  rcases hs with hs | hs
  · have := cap_lt hs (hne _ hc.ln)
    have e5 : w1R (newL rs c) < w1R (rg rs c.l.toNat) := this
    omega
  · have hr : 0 ≤ c.r := Classical.byContradiction fun h => hs (if_neg h)
    have e5 : newR rs c = capR (sideR rs c.r) ⟨(rg rs c.l.toNat).lo - c.hi, (rg rs c.l.toNat).hi - c.lo⟩ := if_pos hr
    rw [e5] at hs
    have := cap_lt hs hsd
    rw [← e5] at this
    omega
theorem set_self {rs : List Rg} {i : Nat} (h : i < rs.length) : rs.set i (rg rs i) = rs := by
  refine List.ext_getElem (by simp) fun p h1 h2 => ?_
  rw [List.getElem_set]
  split
  · rename_i e
    subst e
    simp [rg, h]
  · rfl
theorem same_cut {n : Nat} {rs : List Rg} {c : Cm} (hl : rs.length = n) (hc : InR n c) (hs : sameR rs c = true) : cutR rs c = rs := by
  unfold sameR at hs
  simp only [Bool.and_eq_true, decide_eq_true_eq] at hs
  have h1 := hc.ln
  unfold cutR
  rw [hs.1, hs.2]
  by_cases hr : 0 ≤ c.r
  · have h2 := hc.rn hr
    have e3 : sideR rs c.r = rg rs c.r.toNat := if_pos hr
    rw [if_pos hr, e3, set_self (by omega), set_self (by omega)]
  · rw [if_neg hr, set_self (by omega)]
/-- What holds within a pass: the ranges rs at its beginning, now xs, behind q comparisons; b: has something changed? -/
structure PassR (cs : List Cm) (n : Nat) (R rs xs : List Rg) (q : Nat) (b : Bool) : Prop where
  nar : Nar cs n R xs
  le : widR xs ≤ widR rs
  yes : b = true → widR xs < widR rs
  no : b = false → xs = rs ∧ ∀ i, i < q → sameR rs (cm cs i) = true
theorem PassR.start {cs : List Cm} {n : Nat} {R rs : List Rg} (h : Nar cs n R rs) : PassR cs n R rs rs 0 false :=
  ⟨h, Nat.le_refl _, fun h => (Bool.noConfusion h), fun _ => ⟨rfl, fun i hi => absurd hi (Nat.not_lt_zero i)⟩⟩
theorem PassR.step {cs : List Cm} {n : Nat} {R rs xs : List Rg} {q : Nat} {b : Bool} (h : PassR cs n R rs xs q b) (hne : ∀ p, p < n → (rg rs p).lo ≤ (rg rs p).hi) (hc : InR n (cm cs q)) (hm : cm cs q ∈ cs) :
    PassR cs n R rs (cutR xs (cm cs q)) (q + 1) (b || !sameR xs (cm cs q)) := by
  have hle := cut_le_wid h.nar.len hc
  refine ⟨h.nar.step hc hm, Nat.le_trans hle h.le, fun e => ?_, fun e => ?_⟩
  · cases b with
    | true => exact Nat.lt_of_le_of_lt hle (h.yes rfl)
    | false =>
      obtain ⟨rfl, -⟩ := h.no rfl
      exact cut_lt_wid h.nar.len hc hne (by simpa using e)
  · cases b with
    | true => simp at e
    | false =>
      obtain ⟨rfl, h2⟩ := h.no rfl
      have hs : sameR xs (cm cs q) = true := by simpa using e
      refine ⟨same_cut h.nar.len hc hs, fun i hi => ?_⟩
      rcases Nat.lt_or_ge i q with h3 | h3
      · exact h2 i h3
      · obtain rfl : i = q := by omega
        exact hs
end Go.Proofs.Ytplmlmmjfkbabaa
