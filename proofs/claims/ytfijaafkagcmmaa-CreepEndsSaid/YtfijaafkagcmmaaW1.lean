/- The ranges of rates, band by band: plain facts, and a row of ranges of which one is written. No condition. -/
import Derived.Test.YtfijaafkagcmmaaV
namespace Go.Proofs.Ytfijaafkagcmmaa
open Go.RowKit Go.Shelf

theorem rangesL_len (al : List (List Int)) (n : Nat) : (rangesL al n).length = n := by simp [rangesL]
theorem rangesL_rg {al : List (List Int)} {n i : Nat} (h : i < n) : rg (rangesL al n) i = ⟨lowR al i, highR al i⟩ := by simp [rg, rangesL, h]
theorem rangesL_succ (al : List (List Int)) (n : Nat) : rangesL al (n + 1) = rangesL al n ++ [⟨lowR al n, highR al n⟩] := by simp [rangesL, List.range_succ]
theorem lowR_one (t : List Int) (i : Int) : lowR [t] i = rt t i ∧ highR [t] i = rt t i := by simp [lowR, highR, leastL, greatL]
theorem lowR_snoc {pre : List (List Int)} (h : pre ≠ []) (t : List Int) (i : Int) : lowR (pre ++ [t]) i = min (lowR pre i) (rt t i) ∧ highR (pre ++ [t]) i = max (highR pre i) (rt t i) := by
  unfold lowR highR
  rw [List.map_append]
  exact ⟨leastL_snoc _ (by simpa using h) _, greatL_snoc _ (by simpa using h) _⟩

/-- While rates are taken in: the first bands are done. -/
def mixL (pre : List (List Int)) (t : List Int) (n b : Nat) : List Rg := rangesL (pre ++ [t]) b ++ (if pre = [] then [] else (rangesL pre n).drop b)
theorem mixL_len {pre : List (List Int)} {t : List Int} {n b : Nat} (hb : b ≤ n) : (mixL pre t n b).length = if pre = [] then b else n := by
  unfold mixL
  rw [List.length_append, rangesL_len]
  split <;> simp [rangesL_len]
  omega
theorem mixL_zero (pre : List (List Int)) (t : List Int) (n : Nat) : mixL pre t n 0 = if pre = [] then [] else rangesL pre n := by
  unfold mixL
  simp [rangesL]
theorem mixL_all (pre : List (List Int)) (t : List Int) (n : Nat) : mixL pre t n n = rangesL (pre ++ [t]) n := by
  unfold mixL
  have : (rangesL pre n).drop n = [] := by rw [List.drop_eq_nil_iff, rangesL_len]; exact Nat.le_refl _
  rw [this]
  simp
theorem mixL_first (t : List Int) (n b : Nat) : mixL [] t n (b + 1) = mixL [] t n b ++ [⟨rt t b, rt t b⟩] := by
  unfold mixL
  simp only [List.nil_append, if_true, List.append_nil]
  rw [rangesL_succ, (lowR_one t b).1, (lowR_one t b).2]
theorem mixL_first_rg (t : List Int) (n b : Nat) : rg (mixL [] t n (b + 1)) b = ⟨rt t b, rt t b⟩ ∧ (mixL [] t n (b + 1)).set b ⟨rt t b, rt t b⟩ = mixL [] t n (b + 1) := by
  have hl : (mixL [] t n b).length = b := by
    unfold mixL
    simp [rangesL_len]
  rw [mixL_first]
  constructor
  · simp [rg, hl]
  · rw [List.set_append]
    simp [hl]
theorem mixL_next {pre : List (List Int)} (h : pre ≠ []) (t : List Int) {n b : Nat} (hb : b < n) :
    rg (mixL pre t n b) b = ⟨lowR pre b, highR pre b⟩ ∧ (mixL pre t n b).set b ⟨min (lowR pre b) (rt t b), max (highR pre b) (rt t b)⟩ = mixL pre t n (b + 1) := by
  have hl : (rangesL (pre ++ [t]) b).length = b := rangesL_len _ _
  have hd : (rangesL pre n).drop b = ⟨lowR pre b, highR pre b⟩ :: (rangesL pre n).drop (b + 1) := by
    have hbl : b < (rangesL pre n).length := by rw [rangesL_len]; exact hb
    rw [List.drop_eq_getElem_cons hbl]
    congr 1
    simp [rangesL]
  unfold mixL
  rw [if_neg h, hd]
  constructor
  · simp only [rg]
    rw [List.getElem?_append_right (by omega), hl, Nat.sub_self]
    simp
  · rw [List.set_append, hl, if_neg (Nat.lt_irrefl b), Nat.sub_self, List.set_cons_zero, rangesL_succ, (lowR_snoc h t b).1, (lowR_snoc h t b).2, if_neg h]
    simp

theorem flatR_set : ∀ (l : List Rg) (b : Nat) (r : Rg), b < l.length → ((flatR l).set (b * 2) (.int .i64 r.lo)).set (b * 2 + 1) (.int .i64 r.hi) = flatR (l.set b r)
  | [], b, r, h => by simp at h
  | a :: l, 0, r, _ => by simp [flatR]
  | a :: l, b + 1, r, h => by
    have ih := flatR_set l b r (by simpa using h)
    have hc : ∀ (a : Rg) (l : List Rg), flatR (a :: l) = .int .i64 a.lo :: .int .i64 a.hi :: flatR l := fun _ _ => rfl
    have e1 : (b + 1) * 2 = b * 2 + 1 + 1 := by omega
    rw [e1, hc, List.set_cons_succ, List.set_cons_succ, List.set_cons_succ, List.set_cons_succ, ih, List.set_cons_succ, hc]

/-- One range of a row is written. -/
theorem own_set {W : World} {base g cap : Nat} {l : List Rg} (h : W.ownsRow base 50 2 (.slice (some ⟨g, 0, none⟩) l.length cap) l.length (flatR l)) (b : Nat) (r : Rg) (hb : b < l.length) :
    ((W.setCell ⟨g, b * 2, none⟩ (.int .i64 r.lo)).setCell ⟨g, b * 2 + 1, none⟩ (.int .i64 r.hi)).ownsRow base 50 2 (.slice (some ⟨g, 0, none⟩) l.length cap) l.length (flatR (l.set b r)) := by
  refine ⟨by rw [flatR_len]; simp, .inr ?_⟩
  rcases h.2 with ⟨hv, _⟩ | ⟨g', cap', cur, hv, hbg, hgg, hn, hm, hs, ht⟩
  · simp at hv
  · simp only [Value.slice.injEq, Option.some.injEq, Addr.mk.injEq, and_true, true_and] at hv
    obtain ⟨rfl, rfl⟩ := hv
    have h1 := heap_setCell_same W g (b * 2) _ 50 (.int .i64 r.lo) hgg
    have h2 := heap_setCell_same _ g (b * 2 + 1) _ 50 (.int .i64 r.hi) h1
    refine ⟨g, cap, _, rfl, hbg, h2, hn, hm, by simpa using hs, ?_⟩
    rw [← flatR_set l b r hb, ← ht]
    simp only [Array.toList_setIfInBounds]
    rw [List.take_set, List.take_set]
theorem own_head {W : World} {base : Nat} {v : Value} {l : List Rg} (h : W.ownsRow base 50 2 v l.length (flatR l)) (hp : 0 < l.length) :
    ∃ g cap, v = .slice (some ⟨g, 0, none⟩) l.length cap ∧ base ≤ g ∧ g < W.heap.size ∧ ∀ b, b < l.length → W.cell? ⟨g, b * 2, none⟩ = some (.int .i64 (rg l b).lo) ∧ W.cell? ⟨g, b * 2 + 1, none⟩ = some (.int .i64 (rg l b).hi) ∧ W.frozen? ⟨g, b * 2, none⟩ = false ∧ W.frozen? ⟨g, b * 2 + 1, none⟩ = false := by
  rcases h.2 with ⟨hv, h0⟩ | ⟨g, cap, cur, hv, hbg, hgg, hn, hm, hs, ht⟩
  · omega
  · refine ⟨g, cap, hv, hbg, lt_of_block hgg, fun b hb => ?_⟩
    have hget : ∀ j, j < l.length * 2 → W.cell? ⟨g, j, none⟩ = (flatR l)[j]? := fun j hj => by
      have h1 : (cur.toList.take (l.length * 2))[j]? = (flatR l)[j]? := by rw [ht]
      rw [List.getElem?_take_of_lt hj] at h1
      rw [cell_of_row W g j _ _ _ hgg, ← Array.getElem?_toList, h1]
    have h2 := flatR_get l b hb
    exact ⟨(hget _ (by omega)).trans h2.1, (hget _ (by omega)).trans h2.2, frozen_of_row W g _ _ _ hgg, frozen_of_row W g _ _ _ hgg⟩
theorem ownsRow_mono {w : World} {b b' : Nat} {e : TypeId} {size : Nat} {v : Value} {n : Nat} {xs : List Value} (hb : b ≤ b') (h : w.ownsRow b' e size v n xs) : w.ownsRow b e size v n xs :=
  ⟨h.1, h.2.elim .inl fun ⟨g, cap, cur, h1, h2, h3⟩ => .inr ⟨g, cap, cur, h1, Nat.le_trans hb h2, h3⟩⟩
theorem own_same {W W' : World} {base : Nat} {v : Value} {l : List Value} {n : Nat} (h : W.ownsRow base 50 2 v n l) (hs : ∀ g, v.ownBlock = some g → W'.heap[g]? = W.heap[g]?) : W'.ownsRow base 50 2 v n l := by
  refine ⟨h.1, ?_⟩
  rcases h.2 with h0 | ⟨g, cap, cur, hv, hbg, hgg, hr⟩
  · exact .inl h0
  · exact .inr ⟨g, cap, cur, hv, hbg, (hs g (by rw [hv]; rfl)).trans hgg, hr⟩
end Go.Proofs.Ytfijaafkagcmmaa
