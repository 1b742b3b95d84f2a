/- The difference of two pictures by the reference: all grades of the second one are tried. Plain facts. No condition. -/
import Derived.Test.YtplmlmmjfkbabaaRI
namespace Go.Proofs.Ytplmlmmjfkbabaa

def startB (d : Dm) (N q : Nat) (m : Int) : List Rg := (gradesL d N).set q ⟨m, m⟩
theorem startB_len (d : Dm) (N q : Nat) (m : Int) : (startB d N q m).length = N := by simp [startB, grades_len]
theorem startB_rg {d : Dm} {N q p : Nat} {m : Int} (hq : q < N) (hp : p < N) : rg (startB d N q m) p = if p = q then ⟨m, m⟩ else ⟨-d (p + 1) 0, d 0 (p + 1)⟩ := by
  unfold startB
  rw [rg_set (by rw [grades_len]; exact hq), grades_at hp]
theorem startB_in {cs : List Cm} {d : Dm} {N q : Nat} {m : Int} (hA : AlbOk N cs) (hC : Canon cs d) (hq : q < N) (h1 : -d (q + 1) 0 ≤ m) (h2 : m ≤ d 0 (q + 1)) : ∀ p, p < N → 0 ≤ (rg (startB d N q m) p).lo ∧ (rg (startB d N q m) p).hi ≤ 100 := by
  intro p hp
  have h8 := hA.n8
  have f1 := (canon_lo hC hA.w).all (p + 1) (by omega)
  have f2 := (canon_hi hC hA.w).all (p + 1) (by omega)
  have f3 := (canon_lo hC hA.w).all (q + 1) (by omega)
  have f4 := (canon_hi hC hA.w).all (q + 1) (by omega)
  rw [startB_rg hq hp]
  split
  · simp only; omega
  · simp only; omega
theorem Fits.ofR {cs : List Cm} {n : Nat} {R : List Rg} {g : Nat → Int} (hn : n ≤ 8) (hR : ∀ p, p < n → 0 ≤ (rg R p).lo ∧ (rg R p).hi ≤ 100) (h : FitR cs n R g) (h0 : ∀ a, n < a → g a = 0) : Fits cs g :=
  Fits.of (n := n) ⟨h.chart, fun p hp => by have := h.all p hp; have := hR p hp; rw [free_rg hp]; simp only; omega, h.says⟩ h0
theorem FitR.ofB {cs : List Cm} {d : Dm} {N q : Nat} {g : Nat → Int} (hA : AlbOk N cs) (hC : Canon cs d) (hq : q < N) (hg : Fits cs g) : FitR cs N (startB d N q (g (q + 1))) g := by
  have h8 := hA.n8
  refine ⟨hg.chart, fun p hp => ?_, hg.says⟩
  rw [startB_rg hq hp]
  split
  · rename_i e
    rw [e]
    simp only; omega
  · have h1 := hC.sound g hg (p + 1) 0 (by omega) (by omega)
    have h2 := hC.sound g hg 0 (p + 1) (by omega) (by omega)
    rw [hg.chart] at h1 h2
    simp only; omega
/-- What the loop over the grades of the second picture keeps. -/
structure BetI (d : Dm) (p q : Nat) (m lo hi : Int) : Prop where
  lo1 : -d (p + 1) (q + 1) ≤ lo
  lo2 : lo ≤ 200
  hi1 : hi ≤ d (q + 1) (p + 1)
  hi2 : -200 ≤ hi
  gl : farD d (p + 1) (q + 1) < m → lo = -d (p + 1) (q + 1)
  gh : farD d (q + 1) (q + 1) < m → hi = d (q + 1) (p + 1)
theorem far_in {cs : List Cm} {d : Dm} {N a q : Nat} (hA : AlbOk N cs) (hC : Canon cs d) (ha : a < 9) (hq : q < N) : -d (q + 1) 0 ≤ farD d a (q + 1) ∧ farD d a (q + 1) ≤ d 0 (q + 1) := by
  have h8 := hA.n8
  have hg := hC.far hA ha
  have h1 := hC.sound _ hg (q + 1) 0 (by omega) (by omega)
  have h2 := hC.sound _ hg 0 (q + 1) (by omega) (by omega)
  rw [hg.chart] at h1 h2
  omega
theorem BetI.start {cs : List Cm} {d : Dm} {N p q : Nat} (hA : AlbOk N cs) (hC : Canon cs d) (hp : p < N) (hq : q < N) : BetI d p q (-d (q + 1) 0) 200 (-200) := by
  have h8 := hA.n8
  have b1 := hC.bound (a := p + 1) (b := q + 1) (by omega) (by omega)
  have b2 := hC.bound (a := q + 1) (b := p + 1) (by omega) (by omega)
  have f1 := far_in (a := p + 1) hA hC (by omega) hq
  have f2 := far_in (a := q + 1) hA hC (by omega) hq
  exact ⟨by omega, by omega, by omega, by omega, fun h => by omega, fun h => by omega⟩
theorem BetI.done {cs : List Cm} {d : Dm} {N p q : Nat} {m lo hi : Int} (hA : AlbOk N cs) (hC : Canon cs d) (hp : p < N) (hq : q < N) (h : BetI d p q m lo hi) (hm : d 0 (q + 1) < m) : lo = -d (p + 1) (q + 1) ∧ hi = d (q + 1) (p + 1) := by
  have h8 := hA.n8
  have f1 := far_in (a := p + 1) hA hC (by omega) hq
  have f2 := far_in (a := q + 1) hA hC (by omega) hq
  exact ⟨h.gl (by omega), h.gh (by omega)⟩
theorem BetI.no {cs : List Cm} {d : Dm} {N p q : Nat} {m lo hi : Int} (hA : AlbOk N cs) (hC : Canon cs d) (hp : p < N) (hq : q < N) (h : BetI d p q m lo hi) {xs : List Rg} {k : Nat} (hn : Nar cs N (startB d N q m) xs) (hk : k < N) (he : (rg xs k).hi < (rg xs k).lo) : BetI d p q (m + 1) lo hi := by
  have h8 := hA.n8
  have ne : ∀ a, a < 9 → farD d a (q + 1) ≠ m := fun a ha e => by
    have hf := FitR.ofB hA hC hq (hC.far hA ha)
    rw [e] at hf
    have := hn.sound _ hf k hk
    omega
  have n1 := ne (p + 1) (by omega)
  have n2 := ne (q + 1) (by omega)
  exact ⟨h.lo1, h.lo2, h.hi1, h.hi2, fun h1 => h.gl (by omega), fun h1 => h.gh (by omega)⟩
theorem BetI.yes {cs : List Cm} {d : Dm} {N p q : Nat} {m lo hi : Int} (hA : AlbOk N cs) (hC : Canon cs d) (hp : p < N) (hq : q < N) (h1 : -d (q + 1) 0 ≤ m) (h2 : m ≤ d 0 (q + 1)) (h : BetI d p q m lo hi) {xs : List Rg} (hn : Nar cs N (startB d N q m) xs)
    (hs : ∀ c, c ∈ cs → sameR xs c = true) (hne : ∀ k, k < N → (rg xs k).lo ≤ (rg xs k).hi) : BetI d p q (m + 1) (min lo ((rg xs p).lo - m)) (max hi ((rg xs p).hi - m)) := by
  have h8 := hA.n8
  have hin : ∀ c, c ∈ cs → InR N c := fun c hc => InR.of (hA.cm c hc)
  have hR := startB_in hA hC hq h1 h2
  have f1 := Fits.ofR (by omega) hR (fix_lo hn hin hs hne) fun _ ha => loG_out ha
  have f2 := Fits.ofR (by omega) hR (fix_hi hn hin hs hne) fun _ ha => hiG_out ha
  have s1 := hC.sound _ f1 (p + 1) (q + 1) (by omega) (by omega)
  have s2 := hC.sound _ f2 (q + 1) (p + 1) (by omega) (by omega)
  rw [loG_at hp, loG_at hq] at s1
  rw [hiG_at hp, hiG_at hq] at s2
  have e0 := hn.sub q hq
  rw [startB_rg hq hq, if_pos rfl] at e0
  have e1 := hne q hq
  simp only at e0
  have b1 := h.lo1
  have b2 := h.lo2
  have b3 := h.hi1
  have b4 := h.hi2
  have p1 := hR p hp
  have p2 := hn.sub p hp
  have p3 := hne p hp
  refine ⟨by omega, by omega, by omega, by omega, fun hm => ?_, fun hm => ?_⟩
  · by_cases e : farD d (p + 1) (q + 1) = m
    · have hf := FitR.ofB hA hC hq (hC.far hA (a := p + 1) (by omega))
      rw [e] at hf
      have := (hn.sound _ hf p hp).1
      have := hC.far_at (a := p + 1) (b := q + 1) (by omega)
      omega
    · have := h.gl (by omega)
      omega
  · by_cases e : farD d (q + 1) (q + 1) = m
    · have hf := FitR.ofB hA hC hq (hC.far hA (a := q + 1) (by omega))
      rw [e] at hf
      have := (hn.sound _ hf p hp).2
      have := hC.far_at (a := q + 1) (b := p + 1) (by omega)
      omega
    · have := h.gh (by omega)
      omega
end Go.Proofs.Ytplmlmmjfkbabaa
