/- Tight steps, and the chains along them: plain facts. Condition: an album that is possible. -/
import Derived.Test.YtplmlmmjfkbabaaSX
namespace Go.Proofs.Ytplmlmmjfkbabaa
open Go.RowKit Go.Shelf

theorem cm_at {cs : List Cm} {c : Cm} (h : c ∈ cs) : ∃ i, i < cs.length ∧ cm cs i = c := by
  obtain ⟨i, hi, he⟩ := List.mem_iff_getElem.1 h
  exact ⟨i, hi, by simp [cm, hi, he]⟩
/-- An end of a range; of what a step adds; the end of a picture's range. -/
def enR (hi : Bool) (r : Rg) : Int := if hi = true then r.hi else r.lo
def byB (hi : Bool) (b : Bd) : Int := if hi = true then b.hi else b.lo
def eD (d : Dm) (hi : Bool) (p : Int) : Int := if hi = true then d 0 (pl p) else -d (pl p) 0
def baseE (hi : Bool) : Int := if hi = true then 100 else 0
def TightB (d : Dm) (hi : Bool) (b : Bd) : Prop := eD d hi b.f + byB hi b = eD d hi b.t
def BegO (d : Dm) (hi : Bool) (p : Int) : Prop := p = -1 ∨ eD d hi p = baseE hi
/-- The map of tight steps says what is so. -/
structure TMap (cs : List Cm) (d : Dm) (hi : Bool) (T : Int → Int → Option Int) : Prop where
  says : ∀ f t n, T f t = some n → ∃ i : Nat, n = i ∧ i < cs.length ∧ ∃ b, b ∈ bdsL (cm cs i) ∧ b.f = f ∧ b.t = t ∧ TightB d hi b
  all : ∀ i : Nat, i < cs.length → ∀ b, b ∈ bdsL (cm cs i) → TightB d hi b → (T b.f b.t).isSome
/-- A chain leads from a picture to another one. -/
def LeadsC (cs : List Cm) (d : Dm) (hi : Bool) (ch : List Int) (f p : Int) : Prop :=
  ∀ l r0, tellR cs l f = some r0 → enR hi r0 = eD d hi f → ∃ r, tellR cs (ch.reverse ++ l) p = some r ∧ enR hi r = eD d hi p
theorem leads_nil (cs : List Cm) (d : Dm) (hi : Bool) (p : Int) : LeadsC cs d hi [] p p := fun l r0 h1 h2 => ⟨r0, h1, h2⟩
theorem mem_bds {c : Cm} {b : Bd} : b ∈ bdsL c ↔ b = leftB c ∨ b = rightB c := by simp [bdsL]
theorem lead_of {c : Cm} {b : Bd} (hne : c.l ≠ c.r) (h : b ∈ bdsL c) : leadO c b.t = some b := by
  rcases mem_bds.1 h with rfl | rfl
  · show (if c.l = c.l then _ else _) = _
    rw [if_pos rfl]
  · show (if c.l = c.r then _ else if c.r = c.r then _ else _) = _
    rw [if_neg hne, if_pos rfl]
theorem leads_step {n : Int} {cs : List Cm} {d : Dm} {hi : Bool} {ch : List Int} {b : Bd} {p : Int} {i : Nat} (hA : AlbOk n cs) (hC : Canon cs d) (hi' : i < cs.length) (hb : b ∈ bdsL (cm cs i)) (ht : TightB d hi b) (hn : b.t ≠ -1) (h9 : pl b.t < 9) (h : LeadsC cs d hi ch b.t p) : LeadsC cs d hi ((i : Int) :: ch) b.f p := by
  intro l r0 h1 h2
  have hc := hA.cm _ (cm_mem hi')
  have e1 : tellR cs ((i : Int) :: l) b.t = some ⟨max (r0.lo + b.lo) 0, min (r0.hi + b.hi) 100⟩ := by
    unfold tellR
    rw [if_neg hn]
    have e2 : lastO cs (i : Int) b.t = some b := by
      unfold lastO
      rw [if_pos ⟨by omega, by omega⟩]
      exact lead_of hc.ne hb
    rw [e2]
    simp only [h1, Option.map_some]
  have w1 := hC.wide 0 (pl b.t) (by omega) h9
  have w2 := hC.wide (pl b.t) 0 h9 (by omega)
  have w3 := hC.tri 0 (pl b.t) 0 (by omega) h9 (by omega)
  have w4 := hC.diag 0 (by omega)
  have w5 := wide_le 0 (pl b.t)
  have w6 : wideD (pl b.t) 0 = 0 := by simp [wideD]
  have w7 := hC.bound (a := 0) (b := pl b.t) (by omega) h9
  obtain ⟨r, h3, h4⟩ := h ((i : Int) :: l) _ e1 (by
    unfold TightB at ht
    cases hi
    · simp only [enR, eD, byB, Bool.false_eq_true, if_false] at ht h2 ⊢
      omega
    · simp only [enR, eD, byB, if_true] at ht h2 ⊢
      omega)
  exact ⟨r, by simpa using h3, h4⟩
/-- A chain from where one begins tells the end of the range. -/
theorem leads_tells {cs : List Cm} {d : Dm} {hi : Bool} {ch : List Int} {f p : Int} (hC : Canon cs d) (hb : BegO d hi f) (h : LeadsC cs d hi ch f p) : ∃ r, tellR cs ch.reverse p = some r ∧ enR hi r = eD d hi p := by
  have w4 := hC.diag 0 (by omega)
  by_cases hf : f = -1
  · subst hf
    have e1 : tellR cs [] (-1) = some ⟨0, 0⟩ := by unfold tellR; rw [if_pos rfl]
    obtain ⟨r, h1, h2⟩ := h [] ⟨0, 0⟩ e1 (by
      have : pl (-1) = 0 := rfl
      unfold enR eD
      rw [this]
      cases hi <;> simp <;> omega)
    exact ⟨r, by simpa using h1, h2⟩
  · have e1 : tellR cs [] f = some ⟨0, 100⟩ := by unfold tellR; rw [if_neg hf]
    have hb2 := hb.resolve_left hf
    obtain ⟨r, h1, h2⟩ := h [] ⟨0, 100⟩ e1 (by
      rw [hb2]
      cases hi <;> rfl)
    exact ⟨r, by simpa using h1, h2⟩
/-- A set of places that holds all from which a tight step leads into it has one where a chain may begin. -/
theorem ring_hi {n : Int} {cs : List Cm} {d : Dm} {R : Nat → Bool} {x : Nat} (hA : AlbOk n cs) (hC : Canon cs d) (hx : R x = true) (hx9 : x < 9) (h0 : R 0 = false) (hb : ∀ y, y < 9 → R y = true → d 0 y ≠ 100)
    (ht : ∀ c, c ∈ cs → ∀ b, b ∈ bdsL c → TightB d true b → R (pl b.t) = true → R (pl b.f) = true) : False := by
  have hf := hC.far hA (a := 0) (by omega)
  have hfx : ∀ y, farD d 0 y = d 0 y := fun y => by
    have := hC.diag 0 (by omega)
    unfold farD
    omega
  obtain ⟨g, hg⟩ : ∃ g : Nat → Int, g = fun y => d 0 y + if R y = true then 1 else 0 := ⟨_, rfl⟩
  have hgy : ∀ y, g y = d 0 y + if R y = true then 1 else 0 := fun y => by rw [hg]
  have hfit : Fits cs g := by
    refine ⟨?_, fun y hy => ?_, fun c hc => ?_⟩
    · have := hf.chart
      rw [hfx] at this
      rw [hgy, h0, this]
      rfl
    · have h1 := hf.all y hy
      rw [hfx] at h1
      rw [hgy]
      split
      · have := hb y hy (by assumption)
        omega
      · omega
    · have h1 := hf.says c hc
      rw [hfx, hfx] at h1
      rw [hgy, hgy]
      obtain ⟨p1, p2, p3, p4⟩ := (hA.cm c hc).pl hA.n8
      have t1 := ht c hc (leftB c) (mem_bds.2 (.inl rfl))
      have t2 := ht c hc (rightB c) (mem_bds.2 (.inr rfl))
      simp only [TightB, leftB, rightB, eD, byB, if_true] at t1 t2
      cases h2 : R (pl c.l) <;> cases h3 : R (pl c.r) <;> simp only [h2, h3, Bool.false_eq_true, if_true, if_false] at t1 t2 ⊢
      · omega
      · have : ¬ (d 0 (pl c.l) + -c.lo = d 0 (pl c.r)) := fun e => by simpa using t2 e
        omega
      · have : ¬ (d 0 (pl c.r) + c.hi = d 0 (pl c.l)) := fun e => by simpa using t1 e
        omega
      · omega
  have h1 := hC.sound g hfit 0 x (by omega) hx9
  rw [hgy, hgy, hx, h0] at h1
  have := hC.diag 0 (by omega)
  simp at h1
  omega
theorem low_fits {n : Int} {cs : List Cm} {d : Dm} (hA : AlbOk n cs) (hC : Canon cs d) : Fits cs fun y => -d y 0 := by
  refine ⟨by have := hC.diag 0 (by omega); omega, fun y hy => ?_, fun c hc => ?_⟩
  · have h1 := hC.wide y 0 hy (by omega)
    have h2 : wideD y 0 = 0 := by simp [wideD]
    have h3 := hC.bound (a := y) (b := 0) hy (by omega)
    omega
  · obtain ⟨h1, h2, h3, h4⟩ := (hA.cm c hc).pl hA.n8
    have s := hC.says c hc
    have t1 := hC.tri (pl c.r) (pl c.l) 0 h2 h1 (by omega)
    have t2 := hC.tri (pl c.l) (pl c.r) 0 h1 h2 (by omega)
    omega
theorem ring_lo {n : Int} {cs : List Cm} {d : Dm} {R : Nat → Bool} {x : Nat} (hA : AlbOk n cs) (hC : Canon cs d) (hx : R x = true) (hx9 : x < 9) (h0 : R 0 = false) (hb : ∀ y, y < 9 → R y = true → -d y 0 ≠ 0)
    (ht : ∀ c, c ∈ cs → ∀ b, b ∈ bdsL c → TightB d false b → R (pl b.t) = true → R (pl b.f) = true) : False := by
  have hf := low_fits hA hC
  obtain ⟨g, hg⟩ : ∃ g : Nat → Int, g = fun y => -d y 0 - if R y = true then 1 else 0 := ⟨_, rfl⟩
  have hgy : ∀ y, g y = -d y 0 - if R y = true then 1 else 0 := fun y => by rw [hg]
  have hfit : Fits cs g := by
    refine ⟨?_, fun y hy => ?_, fun c hc => ?_⟩
    · have := hC.diag 0 (by omega)
      rw [hgy, h0, this]
      rfl
    · have h1 := hf.all y hy
      rw [hgy]
      split
      · have := hb y hy (by assumption)
        omega
      · omega
    · have h1 := hf.says c hc
      rw [hgy, hgy]
      have t1 := ht c hc (leftB c) (mem_bds.2 (.inl rfl))
      have t2 := ht c hc (rightB c) (mem_bds.2 (.inr rfl))
      simp only [TightB, leftB, rightB, eD, byB, Bool.false_eq_true, if_false] at t1 t2
      cases h2 : R (pl c.l) <;> cases h3 : R (pl c.r) <;> simp only [h2, h3, Bool.false_eq_true, if_true, if_false] at t1 t2 ⊢
      · omega
      · have : ¬ (-d (pl c.l) 0 + -c.hi = -d (pl c.r) 0) := fun e => by simpa using t2 e
        omega
      · have : ¬ (-d (pl c.r) 0 + c.lo = -d (pl c.l) 0) := fun e => by simpa using t1 e
        omega
      · omega
  have h1 := hC.sound g hfit x 0 hx9 (by omega)
  rw [hgy, hgy, hx, h0] at h1
  have := hC.diag 0 (by omega)
  simp at h1
  omega
theorem ring {n : Int} {cs : List Cm} {d : Dm} {hi : Bool} {R : Nat → Bool} {x : Nat} (hA : AlbOk n cs) (hC : Canon cs d) (hx : R x = true) (hx9 : x < 9) (h0 : R 0 = false) (hb : ∀ y, 0 < y → y < 9 → R y = true → ¬ BegO d hi ((y : Int) - 1))
    (ht : ∀ c, c ∈ cs → ∀ b, b ∈ bdsL c → TightB d hi b → R (pl b.t) = true → R (pl b.f) = true) : False := by
  have hp : ∀ y : Nat, pl ((y : Int) - 1) = y := fun y => by unfold pl; omega
  have hy0 : ∀ y, R y = true → 0 < y := fun y h => by
    rcases Nat.eq_zero_or_pos y with rfl | h1
    · rw [h0] at h; cases h
    · exact h1
  cases hi
  · refine ring_lo hA hC hx hx9 h0 (fun y hy h e => hb y (hy0 y h) hy h (.inr ?_)) ht
    unfold eD
    rw [hp]
    exact e
  · refine ring_hi hA hC hx hx9 h0 (fun y hy h e => hb y (hy0 y h) hy h (.inr ?_)) ht
    unfold eD
    rw [hp]
    exact e
end Go.Proofs.Ytplmlmmjfkbabaa
