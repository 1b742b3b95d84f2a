/- What is read in a truth keeps the order that the chapter says: plain numbers. No condition but those of a valid curve. -/
import Derived.Test.YtfjlnejeffkdoaaL
namespace Go.Proofs.Ytfjlnejeffkdoaa
open Go.RowKit

theorem meet_mid (a b p q : Int) (hp : p < a) (hq : b ≤ q) (hpq : p ≤ q) : min a b ≤ (a * q - b * p) / (a - p + q - b) ∧ (a * q - b * p) / (a - p + q - b) ≤ max a b ∧ p ≤ (a * q - b * p) / (a - p + q - b) := by
  have hD : 0 < a - p + q - b := by omega
  have e1 := Int.mul_comm a b
  have e2 := Int.mul_comm p b
  have e3 := Int.mul_comm q b
  have e4 := Int.mul_comm p a
  have e5 := Int.mul_comm q a
  have e6 := Int.mul_comm p q
  refine ⟨?_, ?_, ?_⟩
  · refine Int.le_ediv_of_mul_le hD ?_
    rcases Int.le_total a b with h | h
    · rw [Int.min_eq_left h]
      have := Int.mul_nonneg (show 0 ≤ b - a by omega) (show 0 ≤ a - p by omega)
      rw [Int.sub_mul, Int.mul_sub, Int.mul_sub] at this
      rw [Int.mul_sub, Int.mul_add, Int.mul_sub]
      omega
    · rw [Int.min_eq_right h]
      have := Int.mul_nonneg (show 0 ≤ a - b by omega) (show 0 ≤ q - b by omega)
      rw [Int.sub_mul, Int.mul_sub, Int.mul_sub] at this
      rw [Int.mul_sub, Int.mul_add, Int.mul_sub]
      omega
  · refine Int.ediv_le_of_le_mul hD ?_
    rcases Int.le_total a b with h | h
    · rw [Int.max_eq_right h]
      have := Int.mul_nonneg (show 0 ≤ b - a by omega) (show 0 ≤ q - b by omega)
      rw [Int.sub_mul, Int.mul_sub, Int.mul_sub] at this
      rw [Int.mul_sub, Int.mul_add, Int.mul_sub]
      omega
    · rw [Int.max_eq_left h]
      have := Int.mul_nonneg (show 0 ≤ a - b by omega) (show 0 ≤ a - p by omega)
      rw [Int.sub_mul, Int.mul_sub, Int.mul_sub] at this
      rw [Int.mul_sub, Int.mul_add, Int.mul_sub]
      omega
  · refine Int.le_ediv_of_mul_le hD ?_
    have := Int.mul_nonneg (show 0 ≤ a - p by omega) (show 0 ≤ q - p by omega)
    rw [Int.sub_mul, Int.mul_sub, Int.mul_sub] at this
    rw [Int.mul_sub, Int.mul_add, Int.mul_sub]
    omega

theorem grt_mem : ∀ (t : List Int) (n : Nat), (∀ i, i < n → 0 ≤ ld t i) → n ≤ t.length → (∀ i, i < n → ld t i ≤ grt (t.take n)) ∧ (0 < n → ∃ i, i < n ∧ ld t i = grt (t.take n))
  | t, 0, _, _ => ⟨fun i hi => by omega, fun h => by omega⟩
  | t, n + 1, h, hn => by
    obtain ⟨h1, h2⟩ := grt_mem t n (fun i hi => h i (by omega)) (by omega)
    rw [grt_take t n (by omega)]
    have h0 := h n (by omega)
    refine ⟨fun i hi => ?_, fun _ => ?_⟩
    · by_cases e : i = n
      · subst e; omega
      · have := h1 i (by omega); omega
    · rcases Nat.eq_zero_or_pos n with hz | hz
      · subst hz
        exact ⟨0, by omega, by simp [grt]; omega⟩
      · obtain ⟨i, hi, he⟩ := h2 hz
        rcases Int.le_total (ld t n) (grt (t.take n)) with hh | hh
        · exact ⟨i, by omega, by omega⟩
        · exact ⟨n, by omega, by omega⟩

/-- What CurveOrder asks of what is read. -/
structure Ord (ps : List Pt) (r : Rl) (t : List Int) (x : Rs) : Prop where
  pk : ∃ k : Nat, k < ps.length ∧ x.pk = k ∧ ld t k = x.st
  ya : x.ya = -1 ∨ ∃ k : Nat, k < ps.length ∧ x.ya = k ∧ ld t k = x.y ∧ x.y ≤ x.st
  ma : x.ma = -1 ∨ (x.ma = 0 ∧ x.pl = ld t 0) ∨ ∃ m : Nat, m + 1 < ps.length ∧ x.ma = (m : Int) + 1 ∧ min (ld t m) (ld t (m + 1)) ≤ x.pl ∧ x.pl ≤ max (ld t m) (ld t (m + 1)) ∧ r.k * ((pt ps m).s - r.o) ≤ x.pl

theorem ord_read {ps : List Pt} {r : Rl} {t : List Int} (G : Good ps r t) : Ord ps r t (readR ps r (pad t)) := by
  have hF := G.fine
  have htl := G.tlen
  have hpos := G.pos
  have hl : ∀ i, i < ps.length → ld (pad t) i = ld t i := fun i hi => pad_ld t i (by omega)
  have hpt := pad_len t (by have := G.len; omega)
  have hnn : ∀ i, 0 ≤ ld (pad t) i := fun i => (hF.ld i).1
  obtain ⟨g1, g2⟩ := grt_mem (pad t) ps.length (fun i _ => hnn i) (by rw [hpt]; exact G.len)
  have hst : ∀ i, i + 1 < ps.length → (pt ps i).s < (pt ps (i + 1)).s := fun i hi => by
    have := (goodB_spec G.pts hi).1
    simpa using this
  have hk := hF.k
  refine ⟨?_, ?_, ?_⟩
  · rcases fst_cases (fun i => grt ((pad t).take ps.length) == ld (pad t) i) ps.length with ⟨_, hn⟩ | ⟨k, hk, he, hB, _⟩
    · obtain ⟨i, hi, he⟩ := g2 hpos
      have := hn i hi
      simp [he] at this
    · refine ⟨k, hk, he, ?_⟩
      rw [← hl k hk]
      show ld (pad t) k = grt ((pad t).take ps.length)
      exact (eq_of_beq hB).symm
  · rcases fst_cases (dropB r.d (pad t)) (ps.length - 1) with ⟨he, _⟩ | ⟨k, hk, he, hB, _⟩
    · exact .inl he
    · refine .inr ⟨k, by omega, he, ?_, ?_⟩
      · show ld t k = if fst (dropB r.d (pad t)) (ps.length - 1) = -1 then 0 else ld (pad t) (fst (dropB r.d (pad t)) (ps.length - 1)).toNat
        rw [he, if_neg (by omega), Int.toNat_natCast, hl k (by omega)]
      · show (if fst (dropB r.d (pad t)) (ps.length - 1) = -1 then 0 else ld (pad t) (fst (dropB r.d (pad t)) (ps.length - 1)).toNat) ≤ grt ((pad t).take ps.length)
        rw [he, if_neg (by omega), Int.toNat_natCast]
        exact g1 k (by omega)
  · rcases fst_cases (meetB ps r (pad t)) ps.length with ⟨he, _⟩ | ⟨k, hk', he, hB, hno⟩
    · exact .inl he
    · refine .inr ?_
      cases k with
      | zero =>
        refine .inl ⟨he, ?_⟩
        show (if fst (meetB ps r (pad t)) ps.length = -1 then 0 else plI ps r (pad t) (fst (meetB ps r (pad t)) ps.length).toNat) = ld t 0
        rw [he]
        exact hl 0 hpos
      | succ m =>
        have hp : lineI ps r m < ld (pad t) m := by
          have := hno m (by omega)
          simp only [meetB, decide_eq_false_iff_not] at this
          omega
        have hq : ld (pad t) (m + 1) ≤ lineI ps r (m + 1) := by simpa [meetB] using hB
        have hpq : lineI ps r m ≤ lineI ps r (m + 1) := by
          have := hst m hk'
          exact Int.mul_le_mul_of_nonneg_left (by omega) (by omega)
        have hm := meet_mid (ld (pad t) m) (ld (pad t) (m + 1)) (lineI ps r m) (lineI ps r (m + 1)) hp hq hpq
        have hpl : (readR ps r (pad t)).pl = plI ps r (pad t) (m + 1) := by
          show (if fst (meetB ps r (pad t)) ps.length = -1 then 0 else plI ps r (pad t) (fst (meetB ps r (pad t)) ps.length).toNat) = _
          rw [he, if_neg (by omega), Int.toNat_natCast]
        refine .inr ⟨m, hk', by rw [show (readR ps r (pad t)).ma = fst (meetB ps r (pad t)) ps.length from rfl, he]; omega, ?_⟩
        rw [hpl, ← hl m (by omega), ← hl (m + 1) hk']
        exact hm
end Go.Proofs.Ytfjlnejeffkdoaa
