/- What the program answers, as functions of the distances; what the chapter shows. No condition. -/
import Derived.Test.YtplmlmmjfkbabaaA
namespace Go.Proofs.Ytplmlmmjfkbabaa

structure Rg where
  lo : Int
  hi : Int
deriving DecidableEq
def diffD (d : Dm) (p q : Nat) : Rg := ⟨-d p q, d q p⟩
def gradesL (d : Dm) (n : Nat) : List Rg := (List.range n).map fun p => diffD d (p + 1) 0
def finB (d : Dm) (n p : Nat) : Bool := (List.range n).all fun q => decide (0 ≤ d (q + 1) (p + 1))
def finestL (d : Dm) (n : Nat) : List Nat := (List.range n).filter (finB d n)
def cmB (n : Int) (c : Cm) : Bool := decide (0 ≤ c.l ∧ c.l < n) && (decide (c.r = -1) || decide (0 ≤ c.r ∧ c.r < n)) && decide (c.l ≠ c.r) && decide (-100 ≤ c.lo ∧ c.lo ≤ 100) && decide (-100 ≤ c.hi ∧ c.hi ≤ 100) && decide (c.lo ≤ c.hi)
def faultA (n : Int) (cs : List Cm) : Int := if 12 < cs.length then 3 else if n < 0 ∨ 8 < n ∨ cs.all (cmB n) = false then 1 else 0
theorem cmB_iff {n : Int} {c : Cm} : cmB n c = true ↔ CmOk n c := by
  simp only [cmB, Bool.and_eq_true, Bool.or_eq_true, decide_eq_true_eq]
  constructor
  · rintro ⟨⟨⟨⟨⟨⟨h1, h2⟩, h3⟩, h4⟩, h5, h6⟩, h7, h8⟩, h9⟩
    exact ⟨h1, h2, by omega, by omega, h4, h5, h9, h8⟩
  · rintro ⟨h1, h2, h3, h4, h5, h6, h7, h8⟩
    exact ⟨⟨⟨⟨⟨⟨h1, h2⟩, by omega⟩, h5⟩, by omega, by omega⟩, by omega, by omega⟩, h7⟩
theorem fault_ok {n : Int} {cs : List Cm} (h : faultA n cs = 0) : AlbOk n cs := by
  unfold faultA at h
  by_cases h1 : 12 < cs.length
  · rw [if_pos h1] at h; simp at h
  · rw [if_neg h1] at h
    by_cases h2 : n < 0 ∨ 8 < n ∨ cs.all (cmB n) = false
    · rw [if_pos h2] at h; simp at h
    · simp only [not_or, Bool.not_eq_false, List.all_eq_true] at h2
      exact ⟨by omega, by omega, by omega, fun c hc => cmB_iff.1 (h2.2.2 c hc)⟩
theorem fault_of {n : Int} {cs : List Cm} (h : AlbOk n cs) : faultA n cs = 0 := by
  have h1 := h.n0; have h2 := h.n8; have h3 := h.len
  have h4 : cs.all (cmB n) = true := List.all_eq_true.2 fun c hc => cmB_iff.2 (h.cm c hc)
  unfold faultA
  rw [if_neg (by omega), if_neg (by rw [h4]; simp; omega)]
theorem fault_cases (n : Int) (cs : List Cm) : faultA n cs = 0 ∨ faultA n cs = 1 ∨ faultA n cs = 3 := by
  unfold faultA
  by_cases h1 : 12 < cs.length
  · rw [if_pos h1]; simp
  · rw [if_neg h1]
    by_cases h2 : n < 0 ∨ 8 < n ∨ cs.all (cmB n) = false
    · rw [if_pos h2]; simp
    · rw [if_neg h2]; simp

theorem mem_finest {d : Dm} {n p : Nat} : p ∈ finestL d n ↔ p < n ∧ ∀ q, q < n → 0 ≤ d (q + 1) (p + 1) := by
  simp [finestL, finB]
theorem filter_len {α : Type} (f g : α → Bool) : ∀ (l : List α), (∀ x, x ∈ l → f x = true → g x = true) → (l.filter f).length ≤ (l.filter g).length
  | [], _ => by simp
  | x :: l, h => by
    have ih := filter_len f g l fun y hy => h y (by simp [hy])
    have hx := h x (by simp)
    cases hf : f x with
    | false => cases hg : g x <;> simp [List.filter_cons, hf, hg] <;> omega
    | true => simp [List.filter_cons, hf, hx hf]; omega
theorem finest_less {d d' : Dm} {n : Nat} (hn : n ≤ 8) (h : ∀ a b, a < 9 → b < 9 → d' a b ≤ d a b) : (finestL d' n).length ≤ (finestL d n).length := by
  refine filter_len _ _ _ fun p hp hf => ?_
  have hp' : p < n := by simpa using hp
  simp only [finB, List.all_eq_true, List.mem_range, decide_eq_true_eq] at hf ⊢
  intro q hq
  have := hf q hq
  have := h (q + 1) (p + 1) (by omega) (by omega)
  omega
theorem grades_same {d d' : Dm} {n : Nat} (hn : n ≤ 8) (h : EqD d d') : gradesL d n = gradesL d' n := by
  refine List.map_congr_left fun p hp => ?_
  have hp' : p < n := by simpa using hp
  simp only [diffD]
  rw [h (p + 1) 0 (by omega) (by omega), h 0 (p + 1) (by omega) (by omega)]
def rg (l : List Rg) (i : Nat) : Rg := (l[i]?).getD ⟨0, 0⟩
theorem grades_at {d : Dm} {n p : Nat} (h : p < n) : rg (gradesL d n) p = ⟨-d (p + 1) 0, d 0 (p + 1)⟩ := by
  simp [rg, gradesL, diffD, h]
theorem grades_len (d : Dm) (n : Nat) : (gradesL d n).length = n := by simp [gradesL]

/-- The album of the chapter. -/
def shownL : List Cm := [⟨0, -1, 40, 45⟩, ⟨1, 0, 3, 5⟩, ⟨2, 1, -2, 4⟩, ⟨2, -1, 0, 44⟩]
theorem shown_ok : AlbOk 3 shownL := fault_ok (by decide)
theorem shown_some : (distO shownL).isSome = true := by decide +kernel
def shownD : Dm := (distO shownL).getD wideD
theorem shown_d : distO shownL = some shownD := by
  have h := shown_some
  unfold shownD
  cases e : distO shownL with
  | none => rw [e] at h; cases h
  | some d => rfl
theorem shown_grades : gradesL shownD 3 = [⟨40, 43⟩, ⟨43, 46⟩, ⟨41, 44⟩] := by decide +kernel
theorem shown_between : diffD shownD 3 1 = ⟨1, 4⟩ := by decide +kernel
theorem shown_finest : finestL shownD 3 = [1, 2] := by decide +kernel
end Go.Proofs.Ytplmlmmjfkbabaa
