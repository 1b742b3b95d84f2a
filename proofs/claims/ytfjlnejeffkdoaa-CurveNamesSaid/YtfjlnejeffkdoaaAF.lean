/- What the reference has read of a truth behind its first loads: plain numbers. No condition but those of a valid curve. -/
import Derived.Test.YtfjlnejeffkdoaaXX
namespace Go.Proofs.Ytfjlnejeffkdoaa
open Go.RowKit

/-- What is read behind q loads. -/
def refX (ps : List Pt) (r : Rl) (t : List Int) (q : Nat) : Rs :=
  ⟨if q = 0 then -1 else grt (t.take q), if q = 0 then 0 else fst (fun i => grt (t.take q) == ld t i) q, fst (dropB r.d t) (min q (ps.length - 1)),
   if fst (dropB r.d t) (min q (ps.length - 1)) = -1 then 0 else ld t (fst (dropB r.d t) (min q (ps.length - 1))).toNat, fst (meetB ps r t) q,
   if fst (meetB ps r t) q = -1 then 0 else plI ps r t (fst (meetB ps r t) q).toNat, wkTo ps t (q - 1)⟩
theorem refX_zero (ps : List Pt) (r : Rl) (t : List Int) : refX ps r t 0 = ⟨-1, 0, -1, 0, -1, 0, 0⟩ := by
  simp [refX, fst, wkTo]
theorem refX_end (ps : List Pt) (r : Rl) (t : List Int) (h0 : 0 < ps.length) : refX ps r t ps.length = readR ps r t := by
  unfold refX readR
  rw [if_neg (by omega), if_neg (by omega), show min ps.length (ps.length - 1) = ps.length - 1 by omega]

theorem fst_succ (B : Nat → Bool) (q : Nat) : (fst B q < 0 ∧ B q = true ∧ fst B (q + 1) = q) ∨ (fst B q < 0 ∧ B q = false ∧ fst B q = -1 ∧ fst B (q + 1) = fst B q) ∨ (0 ≤ fst B q ∧ fst B q < q ∧ fst B (q + 1) = fst B q) := by
  rcases fst_cases B q with ⟨e, hn⟩ | ⟨k, hk, e, hB, hno⟩
  · cases hq : B q with
    | true => exact .inl ⟨by omega, rfl, fst_hit (by omega) hq hn⟩
    | false =>
      refine .inr (.inl ⟨by omega, rfl, e, ?_⟩)
      rw [e]
      exact fst_none fun j hj => by
        by_cases h : j = q
        · rw [h]; exact hq
        · exact hn j (by omega)
  · refine .inr (.inr ⟨by omega, by omega, ?_⟩)
    rw [e]
    exact fst_hit (by omega) hB hno

theorem pl_ref (a b p q : Int) (hD : 0 < a - p + q - b) : a + ((b - a) * (a - p)) / (a - p + q - b) = (a * q - b * p) / (a - p + q - b) := by
  have e : a * q - b * p = (b - a) * (a - p) + a * (a - p + q - b) := by
    rw [Int.sub_mul, Int.mul_sub, Int.mul_sub, Int.mul_sub, Int.mul_add, Int.mul_sub]
    have := Int.mul_comm a b
    omega
  rw [e, Int.add_mul_ediv_right _ _ (by omega), Int.add_comm]

/-- From q loads to one more. -/
structure StepX (ps : List Pt) (r : Rl) (t : List Int) (q : Nat) (x y : Rs) : Prop where
  st : (x.st < ld t q ∧ y.st = ld t q ∧ y.pk = q) ∨ (¬ x.st < ld t q ∧ y.st = x.st ∧ y.pk = x.pk)
  ya : (x.ya < 0 ∧ q + 1 < ps.length ∧ r.d ≤ ld t q - ld t (q + 1) ∧ y.ya = q ∧ y.y = ld t q) ∨ (x.ya < 0 ∧ q + 1 < ps.length ∧ ¬ r.d ≤ ld t q - ld t (q + 1) ∧ y.ya = x.ya ∧ y.y = x.y) ∨
    (x.ya < 0 ∧ ¬ q + 1 < ps.length ∧ y.ya = x.ya ∧ y.y = x.y) ∨ (¬ x.ya < 0 ∧ y.ya = x.ya ∧ y.y = x.y)
  ma : (x.ma < 0 ∧ ld t q ≤ lineI ps r q ∧ y.ma = q ∧ q = 0 ∧ y.pl = ld t q) ∨
    (x.ma < 0 ∧ ld t q ≤ lineI ps r q ∧ y.ma = q ∧ 0 < q ∧ 0 < ld t (q - 1) - lineI ps r (q - 1) + lineI ps r q - ld t q ∧ y.pl = ld t (q - 1) + ((ld t q - ld t (q - 1)) * (ld t (q - 1) - lineI ps r (q - 1))) / (ld t (q - 1) - lineI ps r (q - 1) + lineI ps r q - ld t q)) ∨
    (x.ma < 0 ∧ ¬ ld t q ≤ lineI ps r q ∧ y.ma = x.ma ∧ y.pl = x.pl) ∨ (¬ x.ma < 0 ∧ y.ma = x.ma ∧ y.pl = x.pl)
  wk : (q = 0 ∧ y.wk = x.wk) ∨ (0 < q ∧ y.wk = x.wk + (ld t (q - 1) + ld t q) * ((pt ps q).s - (pt ps (q - 1)).s))

theorem refX_step {ps : List Pt} {r : Rl} {t : List Int} (F : Fine ps r t) {q : Nat} (hq : q < ps.length) : StepX ps r t q (refX ps r t q) (refX ps r t (q + 1)) := by
  have hl20 := F.len
  have htl := F.tlen
  have hg := grt_take t q (by omega)
  have hnn : ∀ i, 0 ≤ ld t i := fun i => (F.ld i).1
  refine ⟨?_, ?_, ?_, ?_⟩
  · show ((if q = 0 then -1 else grt (t.take q)) < ld t q ∧ (if q + 1 = 0 then -1 else grt (t.take (q + 1))) = ld t q ∧ (if q + 1 = 0 then 0 else fst (fun i => grt (t.take (q + 1)) == ld t i) (q + 1)) = q) ∨ _
    have hz : 0 ≤ grt (t.take q) := by
      rcases Nat.eq_zero_or_pos q with h | h
      · subst h; simp [grt]
      · obtain ⟨i, _, e⟩ := (grt_mem t q (fun i _ => hnn i) (by omega)).2 h
        rw [← e]; exact hnn i
    by_cases hlt : (if q = 0 then -1 else grt (t.take q)) < ld t q
    · refine .inl ⟨hlt, ?_, ?_⟩
      · rw [if_neg (by omega), hg]
        have := hnn q
        split at hlt
        · rename_i h0
          subst h0
          simp [grt] at hz ⊢
          omega
        · omega
      · rw [if_neg (by omega)]
        refine fst_hit (by omega) ?_ fun j hj => ?_
        · show (grt (t.take (q + 1)) == ld t q) = true
          rw [beq_iff_eq, hg]
          have := hnn q
          split at hlt
          · rename_i h0
            subst h0
            simp [grt] at hz ⊢
            omega
          · omega
        · show (grt (t.take (q + 1)) == ld t j) = false
          rw [beq_eq_false_iff_ne, hg]
          have := (grt_mem t q (fun i _ => hnn i) (by omega)).1 j hj
          rw [if_neg (by omega)] at hlt
          omega
    · refine .inr ⟨hlt, ?_, ?_⟩
      · show (if q + 1 = 0 then -1 else grt (t.take (q + 1))) = (if q = 0 then -1 else grt (t.take q))
        have := hnn q
        have hq0 : q ≠ 0 := fun h => by rw [if_pos h] at hlt; omega
        rw [if_neg (by omega), if_neg hq0, hg]
        rw [if_neg hq0] at hlt
        omega
      · show (if q + 1 = 0 then 0 else fst (fun i => grt (t.take (q + 1)) == ld t i) (q + 1)) = (if q = 0 then 0 else fst (fun i => grt (t.take q) == ld t i) q)
        have := hnn q
        have hq0 : q ≠ 0 := fun h => by rw [if_pos h] at hlt; omega
        rw [if_neg hq0] at hlt
        rw [if_neg (by omega), if_neg hq0, hg, Int.max_eq_left (by omega)]
        obtain ⟨i, hi, he⟩ := (grt_mem t q (fun i _ => hnn i) (by omega)).2 (by omega)
        rcases fst_succ (fun i => grt (t.take q) == ld t i) q with ⟨h, _⟩ | ⟨_, _, h, _⟩ | ⟨_, _, h⟩
        · rcases fst_cases (fun i => grt (t.take q) == ld t i) q with ⟨_, hno⟩ | ⟨k, _, e, _⟩
          · have := hno i hi
            simp [he] at this
          · omega
        · rcases fst_cases (fun i => grt (t.take q) == ld t i) q with ⟨_, hno⟩ | ⟨k, _, e, _⟩
          · have := hno i hi
            simp [he] at this
          · omega
        · exact h
  · show (fst (dropB r.d t) (min q (ps.length - 1)) < 0 ∧ _ ∧ _ ∧ fst (dropB r.d t) (min (q + 1) (ps.length - 1)) = q ∧ (if fst (dropB r.d t) (min (q + 1) (ps.length - 1)) = -1 then 0 else ld t (fst (dropB r.d t) (min (q + 1) (ps.length - 1))).toNat) = ld t q) ∨ _
    by_cases hn : q + 1 < ps.length
    · have e1 : min q (ps.length - 1) = q := by omega
      have e2 : min (q + 1) (ps.length - 1) = q + 1 := by omega
      rcases fst_succ (dropB r.d t) q with ⟨h1, h2, h3⟩ | ⟨h1, h2, h3, h4⟩ | ⟨h1, h2, h3⟩
      · refine .inl ⟨by rw [e1]; exact h1, hn, by simpa [dropB] using h2, by rw [e2, h3], ?_⟩
        rw [e2, h3, if_neg (by omega), Int.toNat_natCast]
      · refine .inr (.inl ⟨?_, hn, by simpa [dropB] using h2, ?_, ?_⟩)
        · show fst (dropB r.d t) (min q (ps.length - 1)) < 0
          rw [e1]; exact h1
        · show fst (dropB r.d t) (min (q + 1) (ps.length - 1)) = fst (dropB r.d t) (min q (ps.length - 1))
          rw [e1, e2]; exact h4
        · show (if fst (dropB r.d t) (min (q + 1) (ps.length - 1)) = -1 then 0 else ld t (fst (dropB r.d t) (min (q + 1) (ps.length - 1))).toNat) = (if fst (dropB r.d t) (min q (ps.length - 1)) = -1 then 0 else ld t (fst (dropB r.d t) (min q (ps.length - 1))).toNat)
          rw [e1, e2, h4]
      · refine .inr (.inr (.inr ⟨?_, ?_, ?_⟩))
        · show ¬ fst (dropB r.d t) (min q (ps.length - 1)) < 0
          rw [e1]; omega
        · show fst (dropB r.d t) (min (q + 1) (ps.length - 1)) = fst (dropB r.d t) (min q (ps.length - 1))
          rw [e1, e2]; exact h3
        · show (if fst (dropB r.d t) (min (q + 1) (ps.length - 1)) = -1 then 0 else ld t (fst (dropB r.d t) (min (q + 1) (ps.length - 1))).toNat) = (if fst (dropB r.d t) (min q (ps.length - 1)) = -1 then 0 else ld t (fst (dropB r.d t) (min q (ps.length - 1))).toNat)
          rw [e1, e2, h3]
    · have e : min (q + 1) (ps.length - 1) = min q (ps.length - 1) := by omega
      by_cases h : fst (dropB r.d t) (min q (ps.length - 1)) < 0
      · refine .inr (.inr (.inl ⟨h, hn, ?_, ?_⟩))
        · show fst (dropB r.d t) (min (q + 1) (ps.length - 1)) = fst (dropB r.d t) (min q (ps.length - 1))
          rw [e]
        · show (if fst (dropB r.d t) (min (q + 1) (ps.length - 1)) = -1 then 0 else ld t (fst (dropB r.d t) (min (q + 1) (ps.length - 1))).toNat) = (if fst (dropB r.d t) (min q (ps.length - 1)) = -1 then 0 else ld t (fst (dropB r.d t) (min q (ps.length - 1))).toNat)
          rw [e]
      · refine .inr (.inr (.inr ⟨h, ?_, ?_⟩))
        · show fst (dropB r.d t) (min (q + 1) (ps.length - 1)) = fst (dropB r.d t) (min q (ps.length - 1))
          rw [e]
        · show (if fst (dropB r.d t) (min (q + 1) (ps.length - 1)) = -1 then 0 else ld t (fst (dropB r.d t) (min (q + 1) (ps.length - 1))).toNat) = (if fst (dropB r.d t) (min q (ps.length - 1)) = -1 then 0 else ld t (fst (dropB r.d t) (min q (ps.length - 1))).toNat)
          rw [e]
  · have same : fst (meetB ps r t) (q + 1) = fst (meetB ps r t) q → (refX ps r t (q + 1)).ma = (refX ps r t q).ma ∧ (refX ps r t (q + 1)).pl = (refX ps r t q).pl := fun h => by
      refine ⟨h, ?_⟩
      show (if fst (meetB ps r t) (q + 1) = -1 then 0 else plI ps r t (fst (meetB ps r t) (q + 1)).toNat) = (if fst (meetB ps r t) q = -1 then 0 else plI ps r t (fst (meetB ps r t) q).toNat)
      rw [h]
    rcases fst_succ (meetB ps r t) q with ⟨h1, h2, h3⟩ | ⟨h1, h2, h3, h4⟩ | ⟨h1, h2, h3⟩
    · have hm : ld t q ≤ lineI ps r q := by simpa [meetB] using h2
      have hpl : (refX ps r t (q + 1)).pl = plI ps r t q := by
        show (if fst (meetB ps r t) (q + 1) = -1 then 0 else plI ps r t (fst (meetB ps r t) (q + 1)).toNat) = _
        rw [h3, if_neg (by omega), Int.toNat_natCast]
      cases q with
      | zero => exact .inl ⟨h1, hm, h3, rfl, hpl⟩
      | succ i =>
        refine .inr (.inl ⟨h1, hm, h3, by omega, ?_⟩)
        have hno : lineI ps r i < ld t i := by
          rcases fst_cases (meetB ps r t) (i + 1) with ⟨_, hn⟩ | ⟨k, _, e, _⟩
          · have := hn i (by omega)
            simp only [meetB, decide_eq_false_iff_not] at this
            omega
          · omega
        rw [Nat.add_sub_cancel]
        have hD : 0 < ld t i - lineI ps r i + lineI ps r (i + 1) - ld t (i + 1) := by omega
        refine ⟨hD, ?_⟩
        rw [pl_ref _ _ _ _ hD]
        exact hpl
    · have hm : ¬ ld t q ≤ lineI ps r q := by simpa [meetB] using h2
      exact .inr (.inr (.inl ⟨h1, hm, same h4⟩))
    · exact .inr (.inr (.inr ⟨(by show ¬ fst (meetB ps r t) q < 0; omega), same h3⟩))
  · cases q with
    | zero => exact .inl ⟨rfl, rfl⟩
    | succ i => exact .inr ⟨by omega, rfl⟩
end Go.Proofs.Ytfjlnejeffkdoaa
