/- One range of a row of ranges is set; the ranges stay small within a pass. No condition. -/
import Derived.Test.YtplmlmmjfkbabaaRD
namespace Go.Proofs.Ytplmlmmjfkbabaa
open Go.RowKit
attribute [local irreducible] arrV wpQuiet

theorem flatR_append (l m : List Rg) : flatR (l ++ m) = flatR l ++ flatR m := by simp [flatR]
theorem flatR_length (l : List Rg) : (flatR l).length = l.length * 2 := by
  induction l with
  | nil => rfl
  | cons a l ih => simp only [flatR, List.flatMap_cons, List.length_append, List.length_cons, List.length_nil] at ih ⊢; omega
theorem flatR_set (l : List Rg) (q : Nat) (c : Rg) (h : q < l.length) : flatR (l.set q c) = flatR (l.take q) ++ [.int .i64 c.lo, .int .i64 c.hi] ++ flatR (l.drop (q + 1)) := by
  rw [List.set_eq_take_append_cons_drop, if_pos h, flatR_append]
  simp [flatR]
/-- One range of a row of one's own is set. -/
theorem own_setR {w : World} {base g cap n q : Nat} {l : List Rg} (c : Rg) (hn : n = l.length) (h : w.ownsRow base 43 2 (.slice (some ⟨g, 0, none⟩) n cap) n (flatR l)) (hq : q < n) :
    (w.setCells g (q * 2) [.int .i64 c.lo, .int .i64 c.hi]).ownsRow base 43 2 (.slice (some ⟨g, 0, none⟩) n cap) n (flatR (l.set q c)) := by
  subst hn
  refine ⟨by rw [flatR_length, List.length_set], ?_⟩
  rcases h.2 with ⟨hv, _⟩ | ⟨g', c', cur, hv, hb, hg, hn', hc, hs, ht⟩
  · cases hv
  cases hv
  have hlen : (flatR l).length = l.length * 2 := flatR_length l
  obtain ⟨post, hpost⟩ : ∃ post, post = cur.toList.drop (l.length * 2) := ⟨_, rfl⟩
  have hcur : cur.toList = flatR l ++ post := by rw [hpost, ← ht, List.take_append_drop]
  have hself : flatR l = flatR (l.take q) ++ [.int .i64 l[q].lo, .int .i64 l[q].hi] ++ flatR (l.drop (q + 1)) := by
    have := flatR_set l q l[q] hq
    rwa [List.set_getElem_self] at this
  have hpl : (flatR (l.take q)).length = q * 2 := by rw [flatR_length, List.length_take]; omega
  have hset := set_list g 43 [.int .i64 c.lo, .int .i64 c.hi] (flatR (l.take q)) [.int .i64 l[q].lo, .int .i64 l[q].hi] (flatR (l.drop (q + 1)) ++ post) w rfl (by
    rw [← List.append_assoc, ← hself, ← hcur]
    exact hg)
  rw [hpl, ← List.append_assoc, ← flatR_set l q c hq] at hset
  have hl2 : (flatR (l.set q c)).length = l.length * 2 := by rw [flatR_length, List.length_set]
  have hsz : cur.size = (flatR l ++ post).length := by rw [← hcur]; simp
  refine .inr ⟨g, cap, _, rfl, hb, hset, hn', hc, ?_, ?_⟩
  · rw [List.length_append, hlen] at hsz
    simp only [List.size_toArray, List.length_append, hl2]
    omega
  · simp only [Array.toList]
    rw [List.take_append_of_le_length (by omega), List.take_of_length_le (by omega)]
theorem there_ownR {w : World} {base g cap n q : Nat} {xs : List Value} (h : w.ownsRow base 43 2 (.slice (some ⟨g, 0, none⟩) n cap) n xs) (hq : q < n) : w.there g (q * 2) 2 := by
  rcases h.2 with ⟨hv, _⟩ | ⟨g', c', cur, hv, hb, hg, hn', hc, hs, ht⟩
  · cases hv
  cases hv
  exact fun j hj => ⟨by rw [cell_of_row w g _ _ _ _ hg]; simp; omega, frozen_of_row w g _ _ _ hg⟩
/-- Small: behind q comparisons of a pass. -/
def SmallR (n q : Nat) (xs : List Rg) : Prop := ∀ p, p < n → 0 ≤ (rg xs p).lo ∧ (rg xs p).lo ≤ 100 + 100 * (q : Int) ∧ -100 * (q : Int) ≤ (rg xs p).hi ∧ (rg xs p).hi ≤ 100
theorem SmallR.start {cs : List Cm} {n : Nat} {R rs : List Rg} (h : Nar cs n R rs) (hR : ∀ p, p < n → 0 ≤ (rg R p).lo ∧ (rg R p).hi ≤ 100) (hne : ∀ p, p < n → (rg rs p).lo ≤ (rg rs p).hi) : SmallR n 0 rs := fun p hp => by
  have h1 := h.sub p hp
  have h2 := hR p hp
  have h3 := hne p hp
  omega
theorem SmallR.side {n q : Nat} {xs : List Rg} (h : SmallR n q xs) {c : Cm} (hc : InR n c) : 0 ≤ (sideR xs c.r).lo ∧ (sideR xs c.r).lo ≤ 100 + 100 * (q : Int) ∧ -100 * (q : Int) ≤ (sideR xs c.r).hi ∧ (sideR xs c.r).hi ≤ 100 := by
  unfold sideR
  split
  · rename_i hr
    exact h _ (hc.rn hr)
  · simp only
    omega
theorem SmallR.step {n q : Nat} {xs : List Rg} (h : SmallR n q xs) (hl : xs.length = n) {c : Cm} (hc : InR n c) (h1 : -100 ≤ c.lo ∧ c.lo ≤ c.hi ∧ c.hi ≤ 100) : SmallR n (q + 1) (cutR xs c) := fun p hp => by
  have hp0 := h p hp
  have hL := h _ hc.ln
  have hS := h.side hc
  rw [rg_cut hl hc]
  split
  · simp only [newL, capR]
    omega
  · split
    · rename_i e
      obtain ⟨hr, rfl⟩ := e
      simp only [newR, capR, if_pos hr]
      omega
    · omega
end Go.Proofs.Ytplmlmmjfkbabaa
