/- Ranges that are cut by all comparisons as long as something changes: plain facts of the reference. No condition. -/
import Derived.Test.YtplmlmmjfkbabaaB
namespace Go.Proofs.Ytplmlmmjfkbabaa

/-- An album whose comparisons are in order, of whatever number of them. -/
structure AlbW (n : Int) (cs : List Cm) : Prop where
  n0 : 0 ≤ n
  n8 : n ≤ 8
  len : cs.length ≤ 1000
  cm : ∀ c, c ∈ cs → CmOk n c
theorem AlbOk.w {n : Int} {cs : List Cm} (h : AlbOk n cs) : AlbW n cs := ⟨h.n0, h.n8, by have := h.len; omega, h.cm⟩
theorem dist_someW {n : Int} {cs : List Cm} {d : Dm} (h : AlbW n cs) (hd : distO cs = some d) : Canon cs d := by
  simpa using (lay_spec h.n8 cs [] wideD canon_nil h.cm).1 d hd
theorem dist_noneW {n : Int} {cs : List Cm} (h : AlbW n cs) (hd : distO cs = none) (g : Nat → Int) : ¬ Fits cs g := by
  simpa using (lay_spec h.n8 cs [] wideD canon_nil h.cm).2 hd g

/-- Grades within given ranges that keep all comparisons. -/
structure FitR (cs : List Cm) (n : Nat) (R : List Rg) (g : Nat → Int) : Prop where
  chart : g 0 = 0
  all : ∀ p, p < n → (rg R p).lo ≤ g (p + 1) ∧ g (p + 1) ≤ (rg R p).hi
  says : ∀ c, c ∈ cs → c.lo ≤ g (pl c.l) - g (pl c.r) ∧ g (pl c.l) - g (pl c.r) ≤ c.hi
def capR (a b : Rg) : Rg := ⟨max a.lo b.lo, min a.hi b.hi⟩
/-- The side of a comparison: the chart's range where there is no picture. -/
def sideR (rs : List Rg) (r : Int) : Rg := if 0 ≤ r then rg rs r.toNat else ⟨0, 0⟩
def newL (rs : List Rg) (c : Cm) : Rg := capR (rg rs c.l.toNat) ⟨(sideR rs c.r).lo + c.lo, (sideR rs c.r).hi + c.hi⟩
def newR (rs : List Rg) (c : Cm) : Rg := if 0 ≤ c.r then capR (sideR rs c.r) ⟨(rg rs c.l.toNat).lo - c.hi, (rg rs c.l.toNat).hi - c.lo⟩ else sideR rs c.r
def cutR (rs : List Rg) (c : Cm) : List Rg := (if 0 ≤ c.r then rs.set c.r.toNat (newR rs c) else rs).set c.l.toNat (newL rs c)
def sameR (rs : List Rg) (c : Cm) : Bool := decide (newL rs c = rg rs c.l.toNat) && decide (newR rs c = sideR rs c.r)
theorem cutR_len (rs : List Rg) (c : Cm) : (cutR rs c).length = rs.length := by
  unfold cutR
  split <;> simp
theorem rg_set {rs : List Rg} {i j : Nat} {x : Rg} (h : i < rs.length) : rg (rs.set i x) j = if j = i then x else rg rs j := by
  by_cases e : j = i
  · subst e
    simp [rg, h]
  · simp [rg, List.getElem?_set_ne (Ne.symm e), e]
structure InR (n : Nat) (c : Cm) : Prop where
  l0 : 0 ≤ c.l
  ln : c.l.toNat < n
  rn : 0 ≤ c.r → c.r.toNat < n
  r0 : -1 ≤ c.r
  ne : c.l ≠ c.r
theorem InR.of {n : Nat} {c : Cm} (h : CmOk n c) : InR n c := by
  have := h.l0; have := h.ln; have := h.rn; have := h.r0
  exact ⟨h.l0, by omega, by omega, h.r0, h.ne⟩
theorem rg_cut {n : Nat} {rs : List Rg} {c : Cm} (hl : rs.length = n) (hc : InR n c) (p : Nat) : rg (cutR rs c) p = if p = c.l.toNat then newL rs c else if 0 ≤ c.r ∧ p = c.r.toNat then newR rs c else rg rs p := by
  have h1 := hc.ln
  unfold cutR
  by_cases hr : 0 ≤ c.r
  · have h2 := hc.rn hr
    rw [if_pos hr, rg_set (by simp; omega), rg_set (by omega)]
    simp [hr]
  · rw [if_neg hr, rg_set (by omega)]
    simp [hr]
structure Nar (cs : List Cm) (n : Nat) (R rs : List Rg) : Prop where
  len : rs.length = n
  sub : ∀ p, p < n → (rg R p).lo ≤ (rg rs p).lo ∧ (rg rs p).hi ≤ (rg R p).hi
  sound : ∀ g, FitR cs n R g → ∀ p, p < n → (rg rs p).lo ≤ g (p + 1) ∧ g (p + 1) ≤ (rg rs p).hi
theorem Nar.start {cs : List Cm} {n : Nat} {R : List Rg} (h : R.length = n) : Nar cs n R R := ⟨h, fun _ _ => ⟨Int.le_refl _, Int.le_refl _⟩, fun _ hg => hg.all⟩
theorem plR_nat {x : Int} (h : 0 ≤ x) : pl x = x.toNat + 1 := by unfold pl; omega
theorem side_sound {cs : List Cm} {n : Nat} {R rs : List Rg} (h : Nar cs n R rs) {c : Cm} (hc : InR n c) {g : Nat → Int} (hg : FitR cs n R g) : (sideR rs c.r).lo ≤ g (pl c.r) ∧ g (pl c.r) ≤ (sideR rs c.r).hi := by
  unfold sideR
  split
  · rename_i hr
    rw [plR_nat hr]
    exact h.sound g hg _ (hc.rn hr)
  · have : pl c.r = 0 := by have := hc.r0; unfold pl; omega
    rw [this, hg.chart]
    simp
theorem Nar.step {cs : List Cm} {n : Nat} {R rs : List Rg} (h : Nar cs n R rs) {c : Cm} (hc : InR n c) (hm : c ∈ cs) : Nar cs n R (cutR rs c) := by
  refine ⟨(cutR_len rs c).trans h.len, fun p hp => ?_, fun g hg p hp => ?_⟩
  · rw [rg_cut h.len hc]
    have h0 := h.sub p hp
    split
    · rename_i e
      subst e
      simp only [newL, capR]
      omega
    · split
      · rename_i e
        obtain ⟨hr, rfl⟩ := e
        simp only [newR, capR, sideR, if_pos hr]
        omega
      · exact h0
  · rw [rg_cut h.len hc]
    have hs := hg.says c hm
    have h1 := side_sound h hc hg
    have h2 := h.sound g hg _ hc.ln
    rw [← plR_nat hc.l0] at h2
    split
    · rename_i e
      subst e
      rw [← plR_nat hc.l0]
      simp only [newL, capR]
      omega
    · split
      · rename_i e
        obtain ⟨hr, rfl⟩ := e
        rw [← plR_nat hr]
        simp only [newR, capR, if_pos hr]
        omega
      · exact h.sound g hg p hp
/-- Nothing changes any more: the least grades and the greatest ones keep the comparison. -/
theorem same_keeps {n : Nat} {rs : List Rg} {c : Cm} (hc : InR n c) (h : sameR rs c = true) :
    (c.lo ≤ (rg rs c.l.toNat).lo - (sideR rs c.r).lo ∧ (rg rs c.l.toNat).lo - (sideR rs c.r).lo ≤ c.hi ∨ ¬ 0 ≤ c.r) ∧ ((sideR rs c.r).lo + c.lo ≤ (rg rs c.l.toNat).lo ∧ (rg rs c.l.toNat).hi ≤ (sideR rs c.r).hi + c.hi) ∧ (0 ≤ c.r → (rg rs c.l.toNat).lo - c.hi ≤ (sideR rs c.r).lo ∧ (sideR rs c.r).hi ≤ (rg rs c.l.toNat).hi - c.lo) := by
  unfold sameR at h
  simp only [Bool.and_eq_true, decide_eq_true_eq] at h
  obtain ⟨h1, h2⟩ := h
  have e1 := congrArg Rg.lo h1
  have e2 := congrArg Rg.hi h1
  simp only [newL, capR] at e1 e2
  by_cases hr : 0 ≤ c.r
  · have e3 := congrArg Rg.lo h2
    have e4 := congrArg Rg.hi h2
    simp only [newR, capR, if_pos hr] at e3 e4
    exact ⟨.inl (by omega), by omega, fun _ => by omega⟩
  · exact ⟨.inr hr, by omega, fun h => absurd h hr⟩
end Go.Proofs.Ytplmlmmjfkbabaa
