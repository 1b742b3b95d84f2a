/- Ranges that are cut by all comparisons as long as something changes: plain facts of the reference. No condition. Where nothing changes any more, the ranges are those of the distances: plain facts of the reference. No condition. Each change makes the ranges narrower: plain facts of the reference. No condition. -/
import Derived.Test.YtplmlmmjfkbabaaBJ
import Derived.Test.YtplmlmmjfkbabaaK
namespace Go.Proofs.Ytplmlmmjfkbabaa

/-- An album whose comparisons are in order, of whatever number of them. -/
structure AlbW (n : Int) (cs : List Cm) : Prop where
  n0 : 0 ≤ n
  n8 : n ≤ 8
  len : cs.length ≤ 1000
  cm : ∀ c, c ∈ cs → CmOk n c
theorem AlbOk.w {n : Int} {cs : List Cm} (h : AlbOk n cs) : AlbW n cs := ⟨h.n0, h.n8, by have := h.len; omega, h.cm⟩
theorem dist_someW {n : Int} {cs : List Cm} {d : Dm} (h : AlbW n cs) (hd : distO cs = some d) : Canon cs d := by
  simpa using (lay_spec h.n8 cs [] wideD canon_nil h.cm).1 d hd
theorem dist_noneW {n : Int} {cs : List Cm} (h : AlbW n cs) (hd : distO cs = none) (g : Nat → Int) : ¬ Fits cs g := by
  simpa using (lay_spec h.n8 cs [] wideD canon_nil h.cm).2 hd g

/-- Grades within given ranges that keep all comparisons. -/
structure FitR (cs : List Cm) (n : Nat) (R : List Rg) (g : Nat → Int) : Prop where
  chart : g 0 = 0
  all : ∀ p, p < n → (rg R p).lo ≤ g (p + 1) ∧ g (p + 1) ≤ (rg R p).hi
  says : ∀ c, c ∈ cs → c.lo ≤ g (pl c.l) - g (pl c.r) ∧ g (pl c.l) - g (pl c.r) ≤ c.hi
def capR (a b : Rg) : Rg := ⟨max a.lo b.lo, min a.hi b.hi⟩
/-- The side of a comparison: the chart's range where there is no picture. -/
def sideR (rs : List Rg) (r : Int) : Rg := if 0 ≤ r then rg rs r.toNat else ⟨0, 0⟩
def newL (rs : List Rg) (c : Cm) : Rg := capR (rg rs c.l.toNat) ⟨(sideR rs c.r).lo + c.lo, (sideR rs c.r).hi + c.hi⟩
def newR (rs : List Rg) (c : Cm) : Rg := if 0 ≤ c.r then capR (sideR rs c.r) ⟨(rg rs c.l.toNat).lo - c.hi, (rg rs c.l.toNat).hi - c.lo⟩ else sideR rs c.r
def cutR (rs : List Rg) (c : Cm) : List Rg := (if 0 ≤ c.r then rs.set c.r.toNat (newR rs c) else rs).set c.l.toNat (newL rs c)
def sameR (rs : List Rg) (c : Cm) : Bool := decide (newL rs c = rg rs c.l.toNat) && decide (newR rs c = sideR rs c.r)
theorem cutR_len (rs : List Rg) (c : Cm) : (cutR rs c).length = rs.length := by
  unfold cutR
  split <;> simp
theorem rg_set {rs : List Rg} {i j : Nat} {x : Rg} (h : i < rs.length) : rg (rs.set i x) j = if j = i then x else rg rs j := by
  by_cases e : j = i
  · subst e
    simp [rg, h]
  · simp [rg, List.getElem?_set_ne (Ne.symm e), e]
structure InR (n : Nat) (c : Cm) : Prop where
  l0 : 0 ≤ c.l
  ln : c.l.toNat < n
  rn : 0 ≤ c.r → c.r.toNat < n
  r0 : -1 ≤ c.r
  ne : c.l ≠ c.r
theorem InR.of {n : Nat} {c : Cm} (h : CmOk n c) : InR n c := by
  have := h.l0; have := h.ln; have := h.rn; have := h.r0
  exact ⟨h.l0, by omega, by omega, h.r0, h.ne⟩
theorem rg_cut {n : Nat} {rs : List Rg} {c : Cm} (hl : rs.length = n) (hc : InR n c) (p : Nat) : rg (cutR rs c) p = if p = c.l.toNat then newL rs c else if 0 ≤ c.r ∧ p = c.r.toNat then newR rs c else rg rs p := by
  have h1 := hc.ln
  unfold cutR
  by_cases hr : 0 ≤ c.r
  · have h2 := hc.rn hr
    rw [if_pos hr, rg_set (by simp; omega), rg_set (by omega)]
    simp [hr]
  · rw [if_neg hr, rg_set (by omega)]
    simp [hr]
structure Nar (cs : List Cm) (n : Nat) (R rs : List Rg) : Prop where
  len : rs.length = n
  sub : ∀ p, p < n → (rg R p).lo ≤ (rg rs p).lo ∧ (rg rs p).hi ≤ (rg R p).hi
  sound : ∀ g, FitR cs n R g → ∀ p, p < n → (rg rs p).lo ≤ g (p + 1) ∧ g (p + 1) ≤ (rg rs p).hi
theorem Nar.start {cs : List Cm} {n : Nat} {R : List Rg} (h : R.length = n) : Nar cs n R R := ⟨h, fun _ _ => ⟨Int.le_refl _, Int.le_refl _⟩, fun _ hg => hg.all⟩
theorem plR_nat {x : Int} (h : 0 ≤ x) : pl x = x.toNat + 1 := by unfold pl; omega
theorem side_sound {cs : List Cm} {n : Nat} {R rs : List Rg} (h : Nar cs n R rs) {c : Cm} (hc : InR n c) {g : Nat → Int} (hg : FitR cs n R g) : (sideR rs c.r).lo ≤ g (pl c.r) ∧ g (pl c.r) ≤ (sideR rs c.r).hi := by
  unfold sideR
  split
  · rename_i hr
    rw [plR_nat hr]
    exact h.sound g hg _ (hc.rn hr)
  · have : pl c.r = 0 := by have := hc.r0; unfold pl; omega
    rw [this, hg.chart]
    simp
theorem Nar.step {cs : List Cm} {n : Nat} {R rs : List Rg} (h : Nar cs n R rs) {c : Cm} (hc : InR n c) (hm : c ∈ cs) : Nar cs n R (cutR rs c) := by
  refine ⟨(cutR_len rs c).trans h.len, fun p hp => ?_, fun g hg p hp => ?_⟩
  · rw [rg_cut h.len hc]
    have h0 := h.sub p hp
    split
    · rename_i e
      subst e
      simp only [newL, capR]
      omega
    · split
      · rename_i e
        obtain ⟨hr, rfl⟩ := e
        simp only [newR, capR, sideR, if_pos hr]
        omega
      · exact h0
  · rw [rg_cut h.len hc]
    have hs := hg.says c hm
    have h1 := side_sound h hc hg
    have h2 := h.sound g hg _ hc.ln
    rw [← plR_nat hc.l0] at h2
    split
    · rename_i e
      subst e
      rw [← plR_nat hc.l0]
      simp only [newL, capR]
      omega
    · split
      · rename_i e
        obtain ⟨hr, rfl⟩ := e
        rw [← plR_nat hr]
        simp only [newR, capR, if_pos hr]
        omega
      · exact h.sound g hg p hp
/-- Nothing changes any more: the least grades and the greatest ones keep the comparison. -/
theorem same_keeps {n : Nat} {rs : List Rg} {c : Cm} (hc : InR n c) (h : sameR rs c = true) :
    (c.lo ≤ (rg rs c.l.toNat).lo - (sideR rs c.r).lo ∧ (rg rs c.l.toNat).lo - (sideR rs c.r).lo ≤ c.hi ∨ ¬ 0 ≤ c.r) ∧ ((sideR rs c.r).lo + c.lo ≤ (rg rs c.l.toNat).lo ∧ (rg rs c.l.toNat).hi ≤ (sideR rs c.r).hi + c.hi) ∧ (0 ≤ c.r → (rg rs c.l.toNat).lo - c.hi ≤ (sideR rs c.r).lo ∧ (sideR rs c.r).hi ≤ (rg rs c.l.toNat).hi - c.lo) := by
  unfold sameR at h
  simp only [Bool.and_eq_true, decide_eq_true_eq] at h
  obtain ⟨h1, h2⟩ := h
  have e1 := congrArg Rg.lo h1
  have e2 := congrArg Rg.hi h1
  simp only [newL, capR] at e1 e2
  by_cases hr : 0 ≤ c.r
  · have e3 := congrArg Rg.lo h2
    have e4 := congrArg Rg.hi h2
    simp only [newR, capR, if_pos hr] at e3 e4
    exact ⟨.inl (by omega), by omega, fun _ => by omega⟩
  · exact ⟨.inr hr, by omega, fun h => absurd h hr⟩
end Go.Proofs.Ytplmlmmjfkbabaa
namespace Go.Proofs.Ytplmlmmjfkbabaa

def loG (n : Nat) (rs : List Rg) : Nat → Int := fun a => if a = 0 ∨ n < a then 0 else (rg rs (a - 1)).lo
def hiG (n : Nat) (rs : List Rg) : Nat → Int := fun a => if a = 0 ∨ n < a then 0 else (rg rs (a - 1)).hi
theorem loG_at {n : Nat} {rs : List Rg} {p : Nat} (h : p < n) : loG n rs (p + 1) = (rg rs p).lo := by
  unfold loG
  rw [if_neg (by omega)]
  rfl
theorem hiG_at {n : Nat} {rs : List Rg} {p : Nat} (h : p < n) : hiG n rs (p + 1) = (rg rs p).hi := by
  unfold hiG
  rw [if_neg (by omega)]
  rfl
theorem loG_side {n : Nat} {rs : List Rg} {c : Cm} (hc : InR n c) : loG n rs (pl c.r) = (sideR rs c.r).lo := by
  unfold sideR
  split
  · rename_i hr
    rw [plR_nat hr, loG_at (hc.rn hr)]
  · have : pl c.r = 0 := by have := hc.r0; unfold pl; omega
    rw [this]
    rfl
theorem hiG_side {n : Nat} {rs : List Rg} {c : Cm} (hc : InR n c) : hiG n rs (pl c.r) = (sideR rs c.r).hi := by
  unfold sideR
  split
  · rename_i hr
    rw [plR_nat hr, hiG_at (hc.rn hr)]
  · have : pl c.r = 0 := by have := hc.r0; unfold pl; omega
    rw [this]
    rfl
theorem side_ne {n : Nat} {rs : List Rg} {c : Cm} (hc : InR n c) (hne : ∀ p, p < n → (rg rs p).lo ≤ (rg rs p).hi) : (sideR rs c.r).lo ≤ (sideR rs c.r).hi := by
  unfold sideR
  split
  · rename_i hr
    exact hne _ (hc.rn hr)
  · simp
theorem fix_lo {cs : List Cm} {n : Nat} {R rs : List Rg} (h : Nar cs n R rs) (hc : ∀ c, c ∈ cs → InR n c) (hs : ∀ c, c ∈ cs → sameR rs c = true) (hne : ∀ p, p < n → (rg rs p).lo ≤ (rg rs p).hi) : FitR cs n R (loG n rs) := by
  refine ⟨rfl, fun p hp => ?_, fun c hm => ?_⟩
  · rw [loG_at hp]
    have := h.sub p hp
    have := hne p hp
    omega
  · have hi := hc c hm
    rw [plR_nat hi.l0, loG_at hi.ln, loG_side hi]
    obtain ⟨k1, k2, k3⟩ := same_keeps hi (hs c hm)
    have n1 := hne _ hi.ln
    by_cases hr : 0 ≤ c.r
    · have := k3 hr
      omega
    · have e : sideR rs c.r = ⟨0, 0⟩ := if_neg hr
      rw [e] at k2 ⊢
      simp only at k2 ⊢
      omega
theorem fix_hi {cs : List Cm} {n : Nat} {R rs : List Rg} (h : Nar cs n R rs) (hc : ∀ c, c ∈ cs → InR n c) (hs : ∀ c, c ∈ cs → sameR rs c = true) (hne : ∀ p, p < n → (rg rs p).lo ≤ (rg rs p).hi) : FitR cs n R (hiG n rs) := by
  refine ⟨rfl, fun p hp => ?_, fun c hm => ?_⟩
  · rw [hiG_at hp]
    have := h.sub p hp
    have := hne p hp
    omega
  · have hi := hc c hm
    rw [plR_nat hi.l0, hiG_at hi.ln, hiG_side hi]
    obtain ⟨k1, k2, k3⟩ := same_keeps hi (hs c hm)
    have n1 := hne _ hi.ln
    by_cases hr : 0 ≤ c.r
    · have := k3 hr
      omega
    · have e : sideR rs c.r = ⟨0, 0⟩ := if_neg hr
      rw [e] at k2 ⊢
      simp only at k2 ⊢
      omega
def freeL (n : Nat) : List Rg := List.replicate n ⟨0, 100⟩
theorem free_rg {n p : Nat} (h : p < n) : rg (freeL n) p = ⟨0, 100⟩ := by simp [rg, freeL, h]
theorem FitR.of {cs : List Cm} {n : Nat} (hn : n ≤ 8) {g : Nat → Int} (h : Fits cs g) : FitR cs n (freeL n) g :=
  ⟨h.chart, fun p hp => by rw [free_rg hp]; exact h.all (p + 1) (by omega), h.says⟩
theorem Fits.of {cs : List Cm} {n : Nat} {g : Nat → Int} (h : FitR cs n (freeL n) g) (h0 : ∀ a, n < a → g a = 0) : Fits cs g := by
  refine ⟨h.chart, fun a ha => ?_, h.says⟩
  rcases Nat.lt_or_ge n a with hna | hna
  · rw [h0 a hna]
    omega
  · rcases Nat.eq_zero_or_pos a with rfl | hp
    · rw [h.chart]
      omega
    · have := h.all (a - 1) (by omega)
      rw [free_rg (by omega), show a - 1 + 1 = a by omega] at this
      exact this
theorem loG_out {n : Nat} {rs : List Rg} {a : Nat} (h : n < a) : loG n rs a = 0 := if_pos (.inr h)
theorem hiG_out {n : Nat} {rs : List Rg} {a : Nat} (h : n < a) : hiG n rs a = 0 := if_pos (.inr h)
/-- The least grades that the distances allow fit; so do the greatest. -/
theorem canon_lo {cs : List Cm} {d : Dm} {n : Int} (h : Canon cs d) (hA : AlbW n cs) : Fits cs (fun a => -d a 0) := by
  refine ⟨by rw [h.diag 0 (by omega)]; rfl, fun a ha => ?_, fun c hc => ?_⟩
  · have w1 := h.wide a 0 ha (by omega)
    have w2 := h.wide 0 a (by omega) ha
    have t := h.tri 0 a 0 (by omega) ha (by omega)
    have e := h.diag 0 (by omega)
    have b := wide_le 0 a
    have z : wideD a 0 = 0 := by simp [wideD]
    omega
  · have hk := (hA.cm c hc).pl hA.n8
    have s := h.says c hc
    have t1 := h.tri (pl c.r) (pl c.l) 0 hk.2.1 hk.1 (by omega)
    have t2 := h.tri (pl c.l) (pl c.r) 0 hk.1 hk.2.1 (by omega)
    omega
theorem canon_hi {cs : List Cm} {d : Dm} {n : Int} (h : Canon cs d) (hA : AlbW n cs) : Fits cs (fun a => d 0 a) := by
  refine ⟨h.diag 0 (by omega), fun a ha => ?_, fun c hc => ?_⟩
  · have w1 := h.wide a 0 ha (by omega)
    have w2 := h.wide 0 a (by omega) ha
    have t := h.tri 0 a 0 (by omega) ha (by omega)
    have e := h.diag 0 (by omega)
    have b := wide_le 0 a
    have z : wideD a 0 = 0 := by simp [wideD]
    omega
  · have hk := (hA.cm c hc).pl hA.n8
    have s := h.says c hc
    have t1 := h.tri 0 (pl c.r) (pl c.l) (by omega) hk.2.1 hk.1
    have t2 := h.tri 0 (pl c.l) (pl c.r) (by omega) hk.1 hk.2.1
    omega
theorem nar_empty {cs : List Cm} {d : Dm} {n : Nat} {rs : List Rg} (hA : AlbW n cs) (hd : distO cs = some d) (h : Nar cs n (freeL n) rs) {p : Nat} (hp : p < n) (he : (rg rs p).hi < (rg rs p).lo) : False := by
  have h8 := hA.n8
  have := h.sound _ (FitR.of (by omega) (canon_lo (dist_someW hA hd) hA)) p hp
  omega
theorem nar_never {cs : List Cm} {n : Nat} {rs : List Rg} (hA : AlbW n cs) (hd : distO cs = none) (h : Nar cs n (freeL n) rs) (hs : ∀ c, c ∈ cs → sameR rs c = true) (hne : ∀ p, p < n → (rg rs p).lo ≤ (rg rs p).hi) : False :=
  dist_noneW hA hd _ (Fits.of (fix_lo h (fun c hc => InR.of (hA.cm c hc)) hs hne) fun _ ha => loG_out ha)
theorem nar_grades {cs : List Cm} {d : Dm} {n : Nat} {rs : List Rg} (hA : AlbW n cs) (hd : distO cs = some d) (h : Nar cs n (freeL n) rs) (hs : ∀ c, c ∈ cs → sameR rs c = true) (hne : ∀ p, p < n → (rg rs p).lo ≤ (rg rs p).hi) : rs = gradesL d n := by
  have h8 := hA.n8
  have hC := dist_someW hA hd
  have hin : ∀ c, c ∈ cs → InR n c := fun c hc => InR.of (hA.cm c hc)
  have f1 := Fits.of (fix_lo h hin hs hne) fun _ ha => loG_out ha
  have f2 := Fits.of (fix_hi h hin hs hne) fun _ ha => hiG_out ha
  refine List.ext_getElem (by rw [h.len, grades_len]) fun p h1 h2 => ?_
  have hp : p < n := by rw [← h.len]; exact h1
  have e1 : rs[p] = rg rs p := by simp [rg, h1]
  have e2 : (gradesL d n)[p] = ⟨-d (p + 1) 0, d 0 (p + 1)⟩ := by
    have := grades_at (d := d) hp
    simpa [rg, h2] using this
  have s1 := (h.sound _ (FitR.of (by omega) (canon_lo hC hA)) p hp).1
  have s2 := (h.sound _ (FitR.of (by omega) (canon_hi hC hA)) p hp).2
  have s3 := hC.sound _ f1 (p + 1) 0 (by omega) (by omega)
  have s4 := hC.sound _ f2 0 (p + 1) (by omega) (by omega)
  rw [loG_at hp] at s3
  rw [hiG_at hp] at s4
  have z1 : loG n rs 0 = 0 := rfl
  have z2 : hiG n rs 0 = 0 := rfl
  rw [z1] at s3
  rw [z2] at s4
  rw [e1, e2]
  cases hq : rg rs p with
  | mk x y =>
    rw [hq] at s1 s2 s3 s4
    simp only at s1 s2 s3 s4
    have a1 : x = -d (p + 1) 0 := by omega
    have a2 : y = d 0 (p + 1) := by omega
    rw [a1, a2]
end Go.Proofs.Ytplmlmmjfkbabaa
namespace Go.Proofs.Ytplmlmmjfkbabaa

def w1R (r : Rg) : Nat := (r.hi - r.lo + 1).toNat
def widR (rs : List Rg) : Nat := (rs.map w1R).sum
theorem wid_set : ∀ (rs : List Rg) (i : Nat) (x : Rg), i < rs.length → widR (rs.set i x) + w1R (rg rs i) = widR rs + w1R x
  | [], i, x, h => by simp at h
  | a :: l, 0, x, _ => by simp [widR, rg]; omega
  | a :: l, i + 1, x, h => by
    have ih := wid_set l i x (by simpa using h)
    simp only [widR, rg, List.set_cons_succ, List.map_cons, List.sum_cons, List.getElem?_cons_succ] at ih ⊢
    omega
theorem cap_le (a b : Rg) : w1R (capR a b) ≤ w1R a := by
  simp only [w1R, capR]
  omega
theorem cap_lt {a b : Rg} (h : capR a b ≠ a) (hne : a.lo ≤ a.hi) : w1R (capR a b) < w1R a := by
  have hk : ¬ (max a.lo b.lo = a.lo ∧ min a.hi b.hi = a.hi) := fun e => h (by
    unfold capR
    rw [e.1, e.2])
  simp only [w1R, capR]
  omega
theorem newL_le (rs : List Rg) (c : Cm) : w1R (newL rs c) ≤ w1R (rg rs c.l.toNat) := cap_le _ _
theorem newR_le (rs : List Rg) (c : Cm) : w1R (newR rs c) ≤ w1R (sideR rs c.r) := by
  unfold newR
  split
  · exact cap_le _ _
  · exact Nat.le_refl _
theorem cut_wid {n : Nat} {rs : List Rg} {c : Cm} (hl : rs.length = n) (hc : InR n c) : widR (cutR rs c) + w1R (rg rs c.l.toNat) + w1R (sideR rs c.r) = widR rs + w1R (newL rs c) + w1R (newR rs c) := by
  have h1 := hc.ln
  by_cases hr : 0 ≤ c.r
  · have h2 := hc.rn hr
    have hne : c.l.toNat ≠ c.r.toNat := by have := hc.ne; have := hc.l0; omega
    have e1 := wid_set rs c.r.toNat (newR rs c) (by omega)
    have e2 := wid_set (rs.set c.r.toNat (newR rs c)) c.l.toNat (newL rs c) (by simp; omega)
    rw [rg_set (by omega), if_neg hne] at e2
    have e3 : sideR rs c.r = rg rs c.r.toNat := if_pos hr
    have e4 : cutR rs c = (rs.set c.r.toNat (newR rs c)).set c.l.toNat (newL rs c) := by unfold cutR; rw [if_pos hr]
    rw [e4, e3]
    omega
  · have e2 := wid_set rs c.l.toNat (newL rs c) (by omega)
    have e3 : newR rs c = sideR rs c.r := if_neg hr
    have e4 : cutR rs c = rs.set c.l.toNat (newL rs c) := by unfold cutR; rw [if_neg hr]
    rw [e4, e3]
    omega
theorem cut_le_wid {n : Nat} {rs : List Rg} {c : Cm} (hl : rs.length = n) (hc : InR n c) : widR (cutR rs c) ≤ widR rs := by
  have := cut_wid hl hc
  have := newL_le rs c
  have := newR_le rs c
  omega
theorem cut_lt_wid {n : Nat} {rs : List Rg} {c : Cm} (hl : rs.length = n) (hc : InR n c) (hne : ∀ p, p < n → (rg rs p).lo ≤ (rg rs p).hi) (hs : sameR rs c = false) : widR (cutR rs c) < widR rs := by
  have e := cut_wid hl hc
  have l1 := newL_le rs c
  have l2 := newR_le rs c
  have hsd := side_ne hc hne
  unfold sameR at hs
  simp only [Bool.and_eq_false_iff, decide_eq_false_iff_not] at hs
  rcases hs with hs | hs
  · have := cap_lt hs (hne _ hc.ln)
    have e5 : w1R (newL rs c) < w1R (rg rs c.l.toNat) := this
    omega
  · have hr : 0 ≤ c.r := Classical.byContradiction fun h => hs (if_neg h)
    have e5 : newR rs c = capR (sideR rs c.r) ⟨(rg rs c.l.toNat).lo - c.hi, (rg rs c.l.toNat).hi - c.lo⟩ := if_pos hr
    rw [e5] at hs
    have := cap_lt hs hsd
    rw [← e5] at this
    omega
theorem set_self {rs : List Rg} {i : Nat} (h : i < rs.length) : rs.set i (rg rs i) = rs := by
  refine List.ext_getElem (by simp) fun p h1 h2 => ?_
  rw [List.getElem_set]
  split
  · rename_i e
    subst e
    simp [rg, h]
  · rfl
theorem same_cut {n : Nat} {rs : List Rg} {c : Cm} (hl : rs.length = n) (hc : InR n c) (hs : sameR rs c = true) : cutR rs c = rs := by
  unfold sameR at hs
  simp only [Bool.and_eq_true, decide_eq_true_eq] at hs
  have h1 := hc.ln
  unfold cutR
  rw [hs.1, hs.2]
  by_cases hr : 0 ≤ c.r
  · have h2 := hc.rn hr
    have e3 : sideR rs c.r = rg rs c.r.toNat := if_pos hr
    rw [if_pos hr, e3, set_self (by omega), set_self (by omega)]
  · rw [if_neg hr, set_self (by omega)]
/-- What holds within a pass: the ranges rs at its beginning, now xs, behind q comparisons; b: has something changed? -/
structure PassR (cs : List Cm) (n : Nat) (R rs xs : List Rg) (q : Nat) (b : Bool) : Prop where
  nar : Nar cs n R xs
  le : widR xs ≤ widR rs
  yes : b = true → widR xs < widR rs
  no : b = false → xs = rs ∧ ∀ i, i < q → sameR rs (cm cs i) = true
theorem PassR.start {cs : List Cm} {n : Nat} {R rs : List Rg} (h : Nar cs n R rs) : PassR cs n R rs rs 0 false :=
  ⟨h, Nat.le_refl _, fun h => (Bool.noConfusion h), fun _ => ⟨rfl, fun i hi => absurd hi (Nat.not_lt_zero i)⟩⟩
theorem PassR.step {cs : List Cm} {n : Nat} {R rs xs : List Rg} {q : Nat} {b : Bool} (h : PassR cs n R rs xs q b) (hne : ∀ p, p < n → (rg rs p).lo ≤ (rg rs p).hi) (hc : InR n (cm cs q)) (hm : cm cs q ∈ cs) :
    PassR cs n R rs (cutR xs (cm cs q)) (q + 1) (b || !sameR xs (cm cs q)) := by
  have hle := cut_le_wid h.nar.len hc
  refine ⟨h.nar.step hc hm, Nat.le_trans hle h.le, fun e => ?_, fun e => ?_⟩
  · cases b with
    | true => exact Nat.lt_of_le_of_lt hle (h.yes rfl)
    | false =>
      obtain ⟨rfl, -⟩ := h.no rfl
      exact cut_lt_wid h.nar.len hc hne (by simpa using e)
  · cases b with
    | true => simp at e
    | false =>
      obtain ⟨rfl, h2⟩ := h.no rfl
      have hs : sameR xs (cm cs q) = true := by simpa using e
      refine ⟨same_cut h.nar.len hc hs, fun i hi => ?_⟩
      rcases Nat.lt_or_ge i q with h3 | h3
      · exact h2 i h3
      · obtain rfl : i = q := by omega
        exact hs
end Go.Proofs.Ytplmlmmjfkbabaa
