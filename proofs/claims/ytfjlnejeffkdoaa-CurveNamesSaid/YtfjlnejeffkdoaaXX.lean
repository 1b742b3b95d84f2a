/- What is read with one more point at the end: plain numbers. No condition but those of a valid curve. -/
import Derived.Test.YtfjlnejeffkdoaaRR
namespace Go.Proofs.Ytfjlnejeffkdoaa
open Go.RowKit

theorem fst_more {B B' : Nat → Bool} {n m : Nat} (h : ∀ i, i < n → B i = B' i) (hm : n ≤ m) : fst B n < 0 ∨ fst B' m = fst B n ∧ 0 ≤ fst B n ∧ fst B n < n := by
  rcases fst_cases B n with ⟨e, _⟩ | ⟨k, hk, e, hB, hno⟩
  · exact .inl (by omega)
  · refine .inr ⟨?_, by omega, by omega⟩
    rw [e]
    exact fst_hit (by omega) (by rw [← h k hk]; exact hB) (fun j hj => by rw [← h j (by omega)]; exact hno j hj)

theorem pt_more {ps : List Pt} {p : Pt} {i : Nat} (h : i < ps.length) : pt (ps ++ [p]) i = pt ps i := by simp [pt, List.getElem?_append_left h]
theorem ld_more {t : List Int} {v : Int} {i : Nat} (h : i < t.length) : ld (pad (t ++ [v])) i = ld (pad t) i := by
  rw [pad_ld _ i (by simp; omega), pad_ld t i h]
  simp [ld, List.getElem?_append_left h]
theorem line_more {ps : List Pt} {p : Pt} {r : Rl} {i : Nat} (h : i < ps.length) : lineI (ps ++ [p]) r i = lineI ps r i := by
  unfold lineI
  rw [pt_more h]
theorem wk_more {ps : List Pt} {p : Pt} {t : List Int} {v : Int} (ht : t.length = ps.length) : ∀ {k : Nat}, k < ps.length → wkTo (ps ++ [p]) (pad (t ++ [v])) k = wkTo ps (pad t) k
  | 0, _ => rfl
  | k + 1, h => by
    show wkTo _ _ k + (ld _ k + ld _ (k + 1)) * ((pt _ (k + 1)).s - (pt _ k).s) = wkTo _ _ k + (ld _ k + ld _ (k + 1)) * ((pt _ (k + 1)).s - (pt _ k).s)
    rw [wk_more ht (k := k) (by omega), pt_more h, pt_more (i := k) (by omega), ld_more (i := k) (by omega), ld_more (by omega)]
theorem pl_more {ps : List Pt} {p : Pt} {r : Rl} {t : List Int} {v : Int} (ht : t.length = ps.length) : ∀ {i : Nat}, i < ps.length → plI (ps ++ [p]) r (pad (t ++ [v])) i = plI ps r (pad t) i
  | 0, h => ld_more (by omega)
  | i + 1, h => by
    show (ld _ i * lineI _ _ (i + 1) - ld _ (i + 1) * lineI _ _ i) / (ld _ i - lineI _ _ i + lineI _ _ (i + 1) - ld _ (i + 1)) = (ld _ i * lineI _ _ (i + 1) - ld _ (i + 1) * lineI _ _ i) / (ld _ i - lineI _ _ i + lineI _ _ (i + 1) - ld _ (i + 1))
    rw [line_more h, line_more (i := i) (by omega), ld_more (i := i) (by omega), ld_more (i := i + 1) (by omega)]
theorem grt_more {t : List Int} {v : Int} : ∀ {k : Nat}, k ≤ t.length → t.length < 20 → grt ((pad (t ++ [v])).take k) = grt ((pad t).take k)
  | 0, _, _ => rfl
  | k + 1, h, hl => by
    rw [grt_take _ k (by rw [pad_len _ (by simp; omega)]; omega), grt_take _ k (by rw [pad_len _ (by omega)]; omega), grt_more (k := k) (by omega) hl, ld_more (by omega)]

/-- What CurvePulled asks of what is read. -/
structure Pul (n : Nat) (x y : Rs) : Prop where
  st : x.st ≤ y.st
  wk : x.wk ≤ y.wk
  pk : y.pk = x.pk ∨ y.pk = n
  ya : x.ya < 0 ∨ y.ya = x.ya ∧ y.y = x.y
  ma : x.ma < 0 ∨ y.ma = x.ma ∧ y.pl = x.pl

theorem pulled_read {ps : List Pt} {p : Pt} {r : Rl} {t : List Int} {v : Int} (G : Good ps r t) (G' : Good (ps ++ [p]) r (t ++ [v])) : Pul ps.length (readR ps r (pad t)) (readR (ps ++ [p]) r (pad (t ++ [v]))) := by
  have ht := G.tlen
  have h0 := G.pos
  have hl := G'.len
  have hF := G'.fine
  have hl' : (ps ++ [p]).length = ps.length + 1 := by simp
  rw [hl'] at hl
  have hp20 := pad_len (t ++ [v]) (by simp; omega)
  have hg := grt_take (pad (t ++ [v])) ps.length (by rw [hp20]; omega)
  rw [grt_more (t := t) (v := v) (k := ps.length) (by omega) (by omega)] at hg
  refine ⟨?_, ?_, ?_, ?_, ?_⟩
  · show grt ((pad t).take ps.length) ≤ grt ((pad (t ++ [v])).take (ps ++ [p]).length)
    rw [hl', hg]
    omega
  · show wkTo ps (pad t) (ps.length - 1) ≤ wkTo (ps ++ [p]) (pad (t ++ [v])) ((ps ++ [p]).length - 1)
    obtain ⟨k, hk⟩ : ∃ k, ps.length = k + 1 := ⟨ps.length - 1, by omega⟩
    rw [hl', show ps.length + 1 - 1 = k + 1 by omega, show ps.length - 1 = k by omega]
    show _ ≤ wkTo (ps ++ [p]) (pad (t ++ [v])) k + (ld (pad (t ++ [v])) k + ld (pad (t ++ [v])) (k + 1)) * ((pt (ps ++ [p]) (k + 1)).s - (pt (ps ++ [p]) k).s)
    rw [wk_more ht (by omega)]
    have h1 := (hF.ld k).1
    have h2 := (hF.ld (k + 1)).1
    have h3 : (pt (ps ++ [p]) k).s < (pt (ps ++ [p]) (k + 1)).s := by
      have := (goodB_spec G'.pts (i := k + 1) (by rw [hl']; omega)).1
      simpa using this
    have := Int.mul_nonneg (show 0 ≤ ld (pad (t ++ [v])) k + ld (pad (t ++ [v])) (k + 1) by omega) (show 0 ≤ (pt (ps ++ [p]) (k + 1)).s - (pt (ps ++ [p]) k).s by omega)
    omega
  · show fst (fun i => grt ((pad (t ++ [v])).take (ps ++ [p]).length) == ld (pad (t ++ [v])) i) (ps ++ [p]).length = fst (fun i => grt ((pad t).take ps.length) == ld (pad t) i) ps.length ∨ fst (fun i => grt ((pad (t ++ [v])).take (ps ++ [p]).length) == ld (pad (t ++ [v])) i) (ps ++ [p]).length = ps.length
    rw [hl', hg]
    rcases Int.lt_or_le (grt ((pad t).take ps.length)) (ld (pad (t ++ [v])) ps.length) with hlt | hge
    · refine .inr (fst_hit (by omega) ?_ fun j hj => ?_)
      · rw [Int.max_eq_right (Int.le_of_lt hlt), beq_iff_eq]
      · have hm := (grt_mem (pad t) ps.length (fun i _ => (G.fine.ld i).1) (by rw [G.fine.tlen]; omega)).1 j hj
        rw [Int.max_eq_right (Int.le_of_lt hlt), beq_eq_false_iff_ne, ld_more (i := j) (by omega)]
        omega
    · rw [Int.max_eq_left hge]
      have e := @fst_more (fun i => grt ((pad t).take ps.length) == ld (pad t) i) (fun i => grt ((pad t).take ps.length) == ld (pad (t ++ [v])) i) ps.length (ps.length + 1) (fun i hi => by
        show (_ == ld (pad t) i) = (_ == ld (pad (t ++ [v])) i)
        rw [ld_more (by omega)]) (by omega)
      rcases e with h | ⟨h, _⟩
      · obtain ⟨_, g2⟩ := grt_mem (pad t) ps.length (fun i _ => (G.fine.ld i).1) (by rw [G.fine.tlen]; omega)
        obtain ⟨i, hi, he⟩ := g2 h0
        rcases fst_cases (fun i => grt ((pad t).take ps.length) == ld (pad t) i) ps.length with ⟨_, hno⟩ | ⟨k, hk, e, _⟩
        · have := hno i hi
          simp [he] at this
        · omega
      · exact .inl h
  · have e := @fst_more (dropB r.d (pad t)) (dropB r.d (pad (t ++ [v]))) (ps.length - 1) ps.length (fun i hi => by
      unfold dropB
      rw [ld_more (i := i) (by omega), ld_more (i := i + 1) (by omega)]) (by omega)
    rcases e with h | ⟨h1, h2, h3⟩
    · exact .inl h
    · refine .inr ⟨?_, ?_⟩
      · show fst (dropB r.d (pad (t ++ [v]))) ((ps ++ [p]).length - 1) = fst (dropB r.d (pad t)) (ps.length - 1)
        rw [hl']
        exact h1
      · show (if fst (dropB r.d (pad (t ++ [v]))) ((ps ++ [p]).length - 1) = -1 then 0 else ld (pad (t ++ [v])) (fst (dropB r.d (pad (t ++ [v]))) ((ps ++ [p]).length - 1)).toNat) = (if fst (dropB r.d (pad t)) (ps.length - 1) = -1 then 0 else ld (pad t) (fst (dropB r.d (pad t)) (ps.length - 1)).toNat)
        rw [hl', Nat.add_sub_cancel, h1, if_neg (by omega), if_neg (by omega), ld_more (by omega)]
  · have e := @fst_more (meetB ps r (pad t)) (meetB (ps ++ [p]) r (pad (t ++ [v]))) ps.length (ps.length + 1) (fun i hi => by
      unfold meetB
      rw [ld_more (i := i) (by omega), line_more hi]) (by omega)
    rcases e with h | ⟨h1, h2, h3⟩
    · exact .inl h
    · refine .inr ⟨?_, ?_⟩
      · show fst (meetB (ps ++ [p]) r (pad (t ++ [v]))) (ps ++ [p]).length = fst (meetB ps r (pad t)) ps.length
        rw [hl']
        exact h1
      · show (if fst (meetB (ps ++ [p]) r (pad (t ++ [v]))) (ps ++ [p]).length = -1 then 0 else plI (ps ++ [p]) r (pad (t ++ [v])) (fst (meetB (ps ++ [p]) r (pad (t ++ [v]))) (ps ++ [p]).length).toNat) = (if fst (meetB ps r (pad t)) ps.length = -1 then 0 else plI ps r (pad t) (fst (meetB ps r (pad t)) ps.length).toNat)
        rw [hl', h1, if_neg (by omega), if_neg (by omega), pl_more ht (by omega)]
end Go.Proofs.Ytfjlnejeffkdoaa
