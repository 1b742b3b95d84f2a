/- Where nothing changes any more, the ranges are those of the distances: plain facts of the reference. No condition. -/
import Derived.Test.YtplmlmmjfkbabaaRA
namespace Go.Proofs.Ytplmlmmjfkbabaa

def loG (n : Nat) (rs : List Rg) : Nat → Int := fun a => if a = 0 ∨ n < a then 0 else (rg rs (a - 1)).lo
def hiG (n : Nat) (rs : List Rg) : Nat → Int := fun a => if a = 0 ∨ n < a then 0 else (rg rs (a - 1)).hi
theorem loG_at {n : Nat} {rs : List Rg} {p : Nat} (h : p < n) : loG n rs (p + 1) = (rg rs p).lo := by
  unfold loG
  rw [if_neg (by omega)]
  rfl
theorem hiG_at {n : Nat} {rs : List Rg} {p : Nat} (h : p < n) : hiG n rs (p + 1) = (rg rs p).hi := by
  unfold hiG
  rw [if_neg (by omega)]
  rfl
theorem loG_side {n : Nat} {rs : List Rg} {c : Cm} (hc : InR n c) : loG n rs (pl c.r) = (sideR rs c.r).lo := by
  unfold sideR
  split
  · rename_i hr
    rw [plR_nat hr, loG_at (hc.rn hr)]
  · have : pl c.r = 0 := by have := hc.r0; unfold pl; omega
    rw [this]
    rfl
theorem hiG_side {n : Nat} {rs : List Rg} {c : Cm} (hc : InR n c) : hiG n rs (pl c.r) = (sideR rs c.r).hi := by
  unfold sideR
  split
  · rename_i hr
    rw [plR_nat hr, hiG_at (hc.rn hr)]
  · have : pl c.r = 0 := by have := hc.r0; unfold pl; omega
    rw [this]
    rfl
theorem side_ne {n : Nat} {rs : List Rg} {c : Cm} (hc : InR n c) (hne : ∀ p, p < n → (rg rs p).lo ≤ (rg rs p).hi) : (sideR rs c.r).lo ≤ (sideR rs c.r).hi := by
  unfold sideR
  split
  · rename_i hr
    exact hne _ (hc.rn hr)
  · simp
theorem fix_lo {cs : List Cm} {n : Nat} {R rs : List Rg} (h : Nar cs n R rs) (hc : ∀ c, c ∈ cs → InR n c) (hs : ∀ c, c ∈ cs → sameR rs c = true) (hne : ∀ p, p < n → (rg rs p).lo ≤ (rg rs p).hi) : FitR cs n R (loG n rs) := by
  refine ⟨rfl, fun p hp => ?_, fun c hm => ?_⟩
  · rw [loG_at hp]
    have := h.sub p hp
    have := hne p hp
    omega
  · have hi := hc c hm
    rw [plR_nat hi.l0, loG_at hi.ln, loG_side hi]
    obtain ⟨k1, k2, k3⟩ := same_keeps hi (hs c hm)
    have n1 := hne _ hi.ln
    by_cases hr : 0 ≤ c.r
    · have := k3 hr
      omega
    · have e : sideR rs c.r = ⟨0, 0⟩ := if_neg hr
      rw [e] at k2 ⊢
      simp only at k2 ⊢
      omega
theorem fix_hi {cs : List Cm} {n : Nat} {R rs : List Rg} (h : Nar cs n R rs) (hc : ∀ c, c ∈ cs → InR n c) (hs : ∀ c, c ∈ cs → sameR rs c = true) (hne : ∀ p, p < n → (rg rs p).lo ≤ (rg rs p).hi) : FitR cs n R (hiG n rs) := by
  refine ⟨rfl, fun p hp => ?_, fun c hm => ?_⟩
  · rw [hiG_at hp]
    have := h.sub p hp
    have := hne p hp
    omega
  · have hi := hc c hm
    rw [plR_nat hi.l0, hiG_at hi.ln, hiG_side hi]
    obtain ⟨k1, k2, k3⟩ := same_keeps hi (hs c hm)
    have n1 := hne _ hi.ln
    by_cases hr : 0 ≤ c.r
    · have := k3 hr
      omega
    · have e : sideR rs c.r = ⟨0, 0⟩ := if_neg hr
      rw [e] at k2 ⊢
      simp only at k2 ⊢
      omega
def freeL (n : Nat) : List Rg := List.replicate n ⟨0, 100⟩
theorem free_rg {n p : Nat} (h : p < n) : rg (freeL n) p = ⟨0, 100⟩ := by simp [rg, freeL, h]
theorem FitR.of {cs : List Cm} {n : Nat} (hn : n ≤ 8) {g : Nat → Int} (h : Fits cs g) : FitR cs n (freeL n) g :=
  ⟨h.chart, fun p hp => by rw [free_rg hp]; exact h.all (p + 1) (by omega), h.says⟩
theorem Fits.of {cs : List Cm} {n : Nat} {g : Nat → Int} (h : FitR cs n (freeL n) g) (h0 : ∀ a, n < a → g a = 0) : Fits cs g := by
  refine ⟨h.chart, fun a ha => ?_, h.says⟩
  rcases Nat.lt_or_ge n a with hna | hna
  · rw [h0 a hna]
    omega
  · rcases Nat.eq_zero_or_pos a with rfl | hp
    · rw [h.chart]
      omega
    · have := h.all (a - 1) (by omega)
      rw [free_rg (by omega), show a - 1 + 1 = a by omega] at this
      exact this
theorem loG_out {n : Nat} {rs : List Rg} {a : Nat} (h : n < a) : loG n rs a = 0 := if_pos (.inr h)
theorem hiG_out {n : Nat} {rs : List Rg} {a : Nat} (h : n < a) : hiG n rs a = 0 := if_pos (.inr h)
/-- The least grades that the distances allow fit; so do the greatest. -/
theorem canon_lo {cs : List Cm} {d : Dm} {n : Int} (h : Canon cs d) (hA : AlbW n cs) : Fits cs (fun a => -d a 0) := by
  refine ⟨by rw [h.diag 0 (by omega)]; rfl, fun a ha => ?_, fun c hc => ?_⟩
  · have w1 := h.wide a 0 ha (by omega)
    have w2 := h.wide 0 a (by omega) ha
    have t := h.tri 0 a 0 (by omega) ha (by omega)
    have e := h.diag 0 (by omega)
    have b := wide_le 0 a
    have z : wideD a 0 = 0 := by simp [wideD]
    omega
  · have hk := (hA.cm c hc).pl hA.n8
    have s := h.says c hc
    have t1 := h.tri (pl c.r) (pl c.l) 0 hk.2.1 hk.1 (by omega)
    have t2 := h.tri (pl c.l) (pl c.r) 0 hk.1 hk.2.1 (by omega)
    omega
theorem canon_hi {cs : List Cm} {d : Dm} {n : Int} (h : Canon cs d) (hA : AlbW n cs) : Fits cs (fun a => d 0 a) := by
  refine ⟨h.diag 0 (by omega), fun a ha => ?_, fun c hc => ?_⟩
  · have w1 := h.wide a 0 ha (by omega)
    have w2 := h.wide 0 a (by omega) ha
    have t := h.tri 0 a 0 (by omega) ha (by omega)
    have e := h.diag 0 (by omega)
    have b := wide_le 0 a
    have z : wideD a 0 = 0 := by simp [wideD]
    omega
  · have hk := (hA.cm c hc).pl hA.n8
    have s := h.says c hc
    have t1 := h.tri 0 (pl c.r) (pl c.l) (by omega) hk.2.1 hk.1
    have t2 := h.tri 0 (pl c.l) (pl c.r) (by omega) hk.1 hk.2.1
    omega
theorem nar_empty {cs : List Cm} {d : Dm} {n : Nat} {rs : List Rg} (hA : AlbW n cs) (hd : distO cs = some d) (h : Nar cs n (freeL n) rs) {p : Nat} (hp : p < n) (he : (rg rs p).hi < (rg rs p).lo) : False := by
  have h8 := hA.n8
  have := h.sound _ (FitR.of (by omega) (canon_lo (dist_someW hA hd) hA)) p hp
  omega
theorem nar_never {cs : List Cm} {n : Nat} {rs : List Rg} (hA : AlbW n cs) (hd : distO cs = none) (h : Nar cs n (freeL n) rs) (hs : ∀ c, c ∈ cs → sameR rs c = true) (hne : ∀ p, p < n → (rg rs p).lo ≤ (rg rs p).hi) : False :=
  dist_noneW hA hd _ (Fits.of (fix_lo h (fun c hc => InR.of (hA.cm c hc)) hs hne) fun _ ha => loG_out ha)
theorem nar_grades {cs : List Cm} {d : Dm} {n : Nat} {rs : List Rg} (hA : AlbW n cs) (hd : distO cs = some d) (h : Nar cs n (freeL n) rs) (hs : ∀ c, c ∈ cs → sameR rs c = true) (hne : ∀ p, p < n → (rg rs p).lo ≤ (rg rs p).hi) : rs = gradesL d n := by
  have h8 := hA.n8
  have hC := dist_someW hA hd
  have hin : ∀ c, c ∈ cs → InR n c := fun c hc => InR.of (hA.cm c hc)
  have f1 := Fits.of (fix_lo h hin hs hne) fun _ ha => loG_out ha
  have f2 := Fits.of (fix_hi h hin hs hne) fun _ ha => hiG_out ha
  refine List.ext_getElem (by rw [h.len, grades_len]) fun p h1 h2 => ?_
  have hp : p < n := by rw [← h.len]; exact h1
  have e1 : rs[p] = rg rs p := by simp [rg, h1]
  have e2 : (gradesL d n)[p] = ⟨-d (p + 1) 0, d 0 (p + 1)⟩ := by
    have := grades_at (d := d) hp
    simpa [rg, h2] using this
  have s1 := (h.sound _ (FitR.of (by omega) (canon_lo hC hA)) p hp).1
  have s2 := (h.sound _ (FitR.of (by omega) (canon_hi hC hA)) p hp).2
  have s3 := hC.sound _ f1 (p + 1) 0 (by omega) (by omega)
  have s4 := hC.sound _ f2 0 (p + 1) (by omega) (by omega)
  rw [loG_at hp] at s3
  rw [hiG_at hp] at s4
  have z1 : loG n rs 0 = 0 := rfl
  have z2 : hiG n rs 0 = 0 := rfl
  rw [z1] at s3
  rw [z2] at s4
  rw [e1, e2]
  cases hq : rg rs p with
  | mk x y =>
    rw [hq] at s1 s2 s3 s4
    simp only at s1 s2 s3 s4
    have a1 : x = -d (p + 1) 0 := by omega
    have a2 : y = d 0 (p + 1) := by omega
    rw [a1, a2]
end Go.Proofs.Ytplmlmmjfkbabaa
