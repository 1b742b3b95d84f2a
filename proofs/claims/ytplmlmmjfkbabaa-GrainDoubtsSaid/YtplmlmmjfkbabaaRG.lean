/- The width of a row of ranges in memory, as a measure. No condition. -/
import Derived.Test.YtplmlmmjfkbabaaRE
namespace Go.Proofs.Ytplmlmmjfkbabaa
open Go.RowKit
attribute [local irreducible] arrV wpQuiet

theorem own_list {w : World} {base e sz n : Nat} {v : Value} {xs ys : List Value} (h1 : w.ownsRow base e sz v n xs) (h2 : w.ownsRow base e sz v n ys) : xs = ys := by
  rcases h1.2 with ⟨hv, h0⟩ | ⟨g, cap, cur, hv, hb, hg, hn', hc, hs, ht⟩
  · have e1 := h1.1
    have e2 := h2.1
    rw [h0, Nat.zero_mul] at e1 e2
    rw [List.eq_nil_of_length_eq_zero e1, List.eq_nil_of_length_eq_zero e2]
  · rcases h2.2 with ⟨hv2, h0⟩ | ⟨g', cap', cur', hv', hb', hg', hn2, hc', hs', ht'⟩
    · rw [hv] at hv2
      cases hv2
    · rw [hv] at hv'
      cases hv'
      rw [hg] at hg'
      cases hg'
      rw [← ht, ht']
theorem flatR_inj : ∀ {xs ys : List Rg}, flatR xs = flatR ys → xs = ys
  | [], [], _ => rfl
  | [], b :: m, h => by simp [flatR] at h
  | a :: l, [], h => by simp [flatR] at h
  | a :: l, b :: m, h => by
    simp only [flatR, List.flatMap_cons, List.cons_append, List.nil_append, List.cons.injEq, Value.int.injEq, true_and] at h
    obtain ⟨h1, h2, h3⟩ := h
    rw [flatR_inj (xs := l) (ys := m) h3]
    cases a
    cases b
    simp only at h1 h2
    rw [h1, h2]
open Classical in
noncomputable def widOf (w : World) (base : Nat) (v : Value) (n : Nat) : Nat := if h : ∃ xs, w.ownsRow base 43 2 v n (flatR xs) then widR h.choose else 0
theorem widOf_eq {w : World} {base n : Nat} {v : Value} {xs : List Rg} (h : w.ownsRow base 43 2 v n (flatR xs)) : widOf w base v n = widR xs := by
  have hex : ∃ xs, w.ownsRow base 43 2 v n (flatR xs) := ⟨xs, h⟩
  unfold widOf
  rw [dif_pos hex, flatR_inj (own_list hex.choose_spec h)]
/-- One where a flag is set. -/
def flagN : Value → Nat
  | .bool true => 1
  | _ => 0
theorem wid_pass {a b : Nat} {x : Bool} (h1 : a ≤ b) (h2 : x = true → a < b) : a + flagN (.bool x) < b + 1 := by
  cases x with
  | true => have := h2 rfl; simp only [flagN]; omega
  | false => simp only [flagN]; omega
end Go.Proofs.Ytplmlmmjfkbabaa
