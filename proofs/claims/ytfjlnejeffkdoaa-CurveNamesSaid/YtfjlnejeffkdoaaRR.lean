/- What is read in a truth keeps the order that the chapter says: plain numbers. No condition but those of a valid curve. What is read where all stretches are as much greater, and where all loads are as many times as great: plain numbers. -/
import Derived.Test.YtfjlnejeffkdoaaL
namespace Go.Proofs.Ytfjlnejeffkdoaa
open Go.RowKit

theorem meet_mid (a b p q : Int) (hp : p < a) (hq : b ≤ q) (hpq : p ≤ q) : min a b ≤ (a * q - b * p) / (a - p + q - b) ∧ (a * q - b * p) / (a - p + q - b) ≤ max a b ∧ p ≤ (a * q - b * p) / (a - p + q - b) := by
  have hD : 0 < a - p + q - b := by omega
  have e1 := Int.mul_comm a b
  have e2 := Int.mul_comm p b
  have e3 := Int.mul_comm q b
  have e4 := Int.mul_comm p a
  have e5 := Int.mul_comm q a
  have e6 := Int.mul_comm p q
  refine ⟨?_, ?_, ?_⟩
  · refine Int.le_ediv_of_mul_le hD ?_
    rcases Int.le_total a b with h | h
    · rw [Int.min_eq_left h]
      have := Int.mul_nonneg (show 0 ≤ b - a by omega) (show 0 ≤ a - p by omega)
      rw [Int.sub_mul, Int.mul_sub, Int.mul_sub] at this
      rw [Int.mul_sub, Int.mul_add, Int.mul_sub]
      omega
    · rw [Int.min_eq_right h]
      have := Int.mul_nonneg (show 0 ≤ a - b by omega) (show 0 ≤ q - b by omega)
      rw [Int.sub_mul, Int.mul_sub, Int.mul_sub] at this
      rw [Int.mul_sub, Int.mul_add, Int.mul_sub]
      omega
  · refine Int.ediv_le_of_le_mul hD ?_
    rcases Int.le_total a b with h | h
    · rw [Int.max_eq_right h]
      have := Int.mul_nonneg (show 0 ≤ b - a by omega) (show 0 ≤ q - b by omega)
      rw [Int.sub_mul, Int.mul_sub, Int.mul_sub] at this
      rw [Int.mul_sub, Int.mul_add, Int.mul_sub]
      omega
    · rw [Int.max_eq_left h]
      have := Int.mul_nonneg (show 0 ≤ a - b by omega) (show 0 ≤ a - p by omega)
      rw [Int.sub_mul, Int.mul_sub, Int.mul_sub] at this
      rw [Int.mul_sub, Int.mul_add, Int.mul_sub]
      omega
  · refine Int.le_ediv_of_mul_le hD ?_
    have := Int.mul_nonneg (show 0 ≤ a - p by omega) (show 0 ≤ q - p by omega)
    rw [Int.sub_mul, Int.mul_sub, Int.mul_sub] at this
    rw [Int.mul_sub, Int.mul_add, Int.mul_sub]
    omega

theorem grt_mem : ∀ (t : List Int) (n : Nat), (∀ i, i < n → 0 ≤ ld t i) → n ≤ t.length → (∀ i, i < n → ld t i ≤ grt (t.take n)) ∧ (0 < n → ∃ i, i < n ∧ ld t i = grt (t.take n))
  | t, 0, _, _ => ⟨fun i hi => by omega, fun h => by omega⟩
  | t, n + 1, h, hn => by
    obtain ⟨h1, h2⟩ := grt_mem t n (fun i hi => h i (by omega)) (by omega)
    rw [grt_take t n (by omega)]
    have h0 := h n (by omega)
    refine ⟨fun i hi => ?_, fun _ => ?_⟩
    · by_cases e : i = n
      · subst e; omega
      · have := h1 i (by omega); omega
    · rcases Nat.eq_zero_or_pos n with hz | hz
      · subst hz
        exact ⟨0, by omega, by simp [grt]; omega⟩
      · obtain ⟨i, hi, he⟩ := h2 hz
        rcases Int.le_total (ld t n) (grt (t.take n)) with hh | hh
        · exact ⟨i, by omega, by omega⟩
        · exact ⟨n, by omega, by omega⟩

/-- What CurveOrder asks of what is read. -/
structure Ord (ps : List Pt) (r : Rl) (t : List Int) (x : Rs) : Prop where
  pk : ∃ k : Nat, k < ps.length ∧ x.pk = k ∧ ld t k = x.st
  ya : x.ya = -1 ∨ ∃ k : Nat, k < ps.length ∧ x.ya = k ∧ ld t k = x.y ∧ x.y ≤ x.st
  ma : x.ma = -1 ∨ (x.ma = 0 ∧ x.pl = ld t 0) ∨ ∃ m : Nat, m + 1 < ps.length ∧ x.ma = (m : Int) + 1 ∧ min (ld t m) (ld t (m + 1)) ≤ x.pl ∧ x.pl ≤ max (ld t m) (ld t (m + 1)) ∧ r.k * ((pt ps m).s - r.o) ≤ x.pl

theorem ord_read {ps : List Pt} {r : Rl} {t : List Int} (G : Good ps r t) : Ord ps r t (readR ps r (pad t)) := by
  have hF := G.fine
  have htl := G.tlen
  have hpos := G.pos
  have hl : ∀ i, i < ps.length → ld (pad t) i = ld t i := fun i hi => pad_ld t i (by omega)
  have hpt := pad_len t (by have := G.len; omega)
  have hnn : ∀ i, 0 ≤ ld (pad t) i := fun i => (hF.ld i).1
  obtain ⟨g1, g2⟩ := grt_mem (pad t) ps.length (fun i _ => hnn i) (by rw [hpt]; exact G.len)
  have hst : ∀ i, i + 1 < ps.length → (pt ps i).s < (pt ps (i + 1)).s := fun i hi => by
    have := (goodB_spec G.pts hi).1
    simpa using this
  have hk := hF.k
  refine ⟨?_, ?_, ?_⟩
  · rcases fst_cases (fun i => grt ((pad t).take ps.length) == ld (pad t) i) ps.length with ⟨_, hn⟩ | ⟨k, hk, he, hB, _⟩
    · obtain ⟨i, hi, he⟩ := g2 hpos
      have := hn i hi
      simp [he] at this
    · refine ⟨k, hk, he, ?_⟩
      rw [← hl k hk]
      show ld (pad t) k = grt ((pad t).take ps.length)
      exact (eq_of_beq hB).symm
  · rcases fst_cases (dropB r.d (pad t)) (ps.length - 1) with ⟨he, _⟩ | ⟨k, hk, he, hB, _⟩
    · exact .inl he
    · refine .inr ⟨k, by omega, he, ?_, ?_⟩
      · show ld t k = if fst (dropB r.d (pad t)) (ps.length - 1) = -1 then 0 else ld (pad t) (fst (dropB r.d (pad t)) (ps.length - 1)).toNat
        rw [he, if_neg (by omega), Int.toNat_natCast, hl k (by omega)]
      · show (if fst (dropB r.d (pad t)) (ps.length - 1) = -1 then 0 else ld (pad t) (fst (dropB r.d (pad t)) (ps.length - 1)).toNat) ≤ grt ((pad t).take ps.length)
        rw [he, if_neg (by omega), Int.toNat_natCast]
        exact g1 k (by omega)
  · rcases fst_cases (meetB ps r (pad t)) ps.length with ⟨he, _⟩ | ⟨k, hk', he, hB, hno⟩
    · exact .inl he
    · refine .inr ?_
      cases k with
      | zero =>
        refine .inl ⟨he, ?_⟩
        show (if fst (meetB ps r (pad t)) ps.length = -1 then 0 else plI ps r (pad t) (fst (meetB ps r (pad t)) ps.length).toNat) = ld t 0
        rw [he]
        exact hl 0 hpos
      | succ m =>
        have hp : lineI ps r m < ld (pad t) m := by
          have := hno m (by omega)
          simp only [meetB, decide_eq_false_iff_not] at this
          omega
        have hq : ld (pad t) (m + 1) ≤ lineI ps r (m + 1) := by simpa [meetB] using hB
        have hpq : lineI ps r m ≤ lineI ps r (m + 1) := by
          have := hst m hk'
          exact Int.mul_le_mul_of_nonneg_left (by omega) (by omega)
        have hm := meet_mid (ld (pad t) m) (ld (pad t) (m + 1)) (lineI ps r m) (lineI ps r (m + 1)) hp hq hpq
        have hpl : (readR ps r (pad t)).pl = plI ps r (pad t) (m + 1) := by
          show (if fst (meetB ps r (pad t)) ps.length = -1 then 0 else plI ps r (pad t) (fst (meetB ps r (pad t)) ps.length).toNat) = _
          rw [he, if_neg (by omega), Int.toNat_natCast]
        refine .inr ⟨m, hk', by rw [show (readR ps r (pad t)).ma = fst (meetB ps r (pad t)) ps.length from rfl, he]; omega, ?_⟩
        rw [hpl, ← hl m (by omega), ← hl (m + 1) hk']
        exact hm
end Go.Proofs.Ytfjlnejeffkdoaa

namespace Go.Proofs.Ytfjlnejeffkdoaa
open Go.RowKit

/-- All stretches as much greater. -/
def shiftP (n : Int) (ps : List Pt) : List Pt := ps.map fun p => ⟨p.s + n, p.lo, p.hi⟩
theorem shift_len (n : Int) (ps : List Pt) : (shiftP n ps).length = ps.length := by simp [shiftP]
theorem shift_pt {n : Int} {ps : List Pt} {i : Nat} (h : i < ps.length) : pt (shiftP n ps) i = ⟨(pt ps i).s + n, (pt ps i).lo, (pt ps i).hi⟩ := by simp [pt, shiftP, h]
theorem shift_line {n : Int} {ps : List Pt} {r : Rl} {i : Nat} (h : i < ps.length) : lineI (shiftP n ps) ⟨r.d, r.k, r.o + n⟩ i = lineI ps r i := by
  show r.k * ((pt (shiftP n ps) i).s - (r.o + n)) = r.k * ((pt ps i).s - r.o)
  rw [shift_pt h]
  show r.k * ((pt ps i).s + n - (r.o + n)) = _
  rw [show (pt ps i).s + n - (r.o + n) = (pt ps i).s - r.o by omega]
theorem shift_wk {n : Int} {ps : List Pt} {t : List Int} : ∀ {k : Nat}, k < ps.length → wkTo (shiftP n ps) t k = wkTo ps t k
  | 0, _ => rfl
  | k + 1, h => by
    show wkTo (shiftP n ps) t k + _ * _ = wkTo ps t k + _ * _
    rw [shift_wk (k := k) (by omega), shift_pt h, shift_pt (i := k) (by omega)]
    show _ + _ * ((pt ps (k + 1)).s + n - ((pt ps k).s + n)) = _
    rw [show (pt ps (k + 1)).s + n - ((pt ps k).s + n) = (pt ps (k + 1)).s - (pt ps k).s by omega]
theorem shift_pl {n : Int} {ps : List Pt} {r : Rl} {t : List Int} : ∀ {i : Nat}, i < ps.length → plI (shiftP n ps) ⟨r.d, r.k, r.o + n⟩ t i = plI ps r t i
  | 0, _ => rfl
  | i + 1, h => by
    show (_ * lineI _ _ (i + 1) - _ * lineI _ _ i) / (_ - lineI _ _ i + lineI _ _ (i + 1) - _) = (_ * lineI _ _ (i + 1) - _ * lineI _ _ i) / (_ - lineI _ _ i + lineI _ _ (i + 1) - _)
    rw [shift_line h, shift_line (i := i) (by omega)]

theorem shift_read {n : Int} {ps : List Pt} {r : Rl} {t : List Int} (h0 : 0 < ps.length) : readR (shiftP n ps) ⟨r.d, r.k, r.o + n⟩ t = readR ps r t := by
  have hm : fst (meetB (shiftP n ps) ⟨r.d, r.k, r.o + n⟩ t) ps.length = fst (meetB ps r t) ps.length := fst_congr fun i hi => by
    unfold meetB
    rw [shift_line hi]
  unfold readR
  rw [shift_len, hm, shift_wk (by omega)]
  rcases fst_cases (meetB ps r t) ps.length with ⟨e, _⟩ | ⟨k, hk, e, _⟩
  · rw [e]; rfl
  · have hk1 : ¬ ((k : Int) = -1) := by omega
    rw [e]
    simp only [hk1, if_false, Int.toNat_natCast, shift_pl hk]

/-- All loads as many times as great. -/
def scaleP (c : Int) (ps : List Pt) : List Pt := ps.map fun p => ⟨p.s, c * p.lo, c * p.hi⟩
def scaleT (c : Int) (t : List Int) : List Int := t.map fun x => c * x
theorem scale_len (c : Int) (ps : List Pt) : (scaleP c ps).length = ps.length := by simp [scaleP]
theorem scale_pt {c : Int} {ps : List Pt} {i : Nat} (h : i < ps.length) : pt (scaleP c ps) i = ⟨(pt ps i).s, c * (pt ps i).lo, c * (pt ps i).hi⟩ := by simp [pt, scaleP, h]
theorem scale_ld (c : Int) (t : List Int) (i : Nat) : ld (scaleT c t) i = c * ld t i := by
  unfold ld scaleT
  rw [List.getElem?_map]
  cases t[i]? <;> simp
theorem max_scale {c : Int} (hc : 0 ≤ c) (a b : Int) : max (c * a) (c * b) = c * max a b := by
  rcases Int.le_total a b with h | h
  · rw [Int.max_eq_right h, Int.max_eq_right (Int.mul_le_mul_of_nonneg_left h hc)]
  · rw [Int.max_eq_left h, Int.max_eq_left (Int.mul_le_mul_of_nonneg_left h hc)]
theorem fold_scale {c : Int} (hc : 0 ≤ c) : ∀ (l : List Int) (a : Int), (scaleT c l).foldl max (c * a) = c * l.foldl max a
  | [], _ => rfl
  | x :: l, a => by
    show (scaleT c l).foldl max (max (c * a) (c * x)) = c * l.foldl max (max a x)
    rw [max_scale hc]
    exact fold_scale hc l _
theorem scale_grt {c : Int} (hc : 0 ≤ c) (l : List Int) : grt (scaleT c l) = c * grt l := by
  have := fold_scale hc l 0
  rw [Int.mul_zero] at this
  exact this
theorem scale_take (c : Int) (t : List Int) (n : Nat) : (scaleT c t).take n = scaleT c (t.take n) := by simp [scaleT, List.map_take]
theorem scale_pad (c : Int) (t : List Int) : pad (scaleT c t) = scaleT c (pad t) := by simp [pad, scaleT]
theorem scale_le {c : Int} (hc : 0 < c) (a b : Int) : (c * a ≤ c * b) = (a ≤ b) :=
  propext ⟨fun h => Int.le_of_mul_le_mul_left h hc, fun h => Int.mul_le_mul_of_nonneg_left h (Int.le_of_lt hc)⟩
theorem scale_wk {c : Int} {ps : List Pt} {t : List Int} : ∀ {k : Nat}, k < ps.length → wkTo (scaleP c ps) (scaleT c t) k = c * wkTo ps t k
  | 0, _ => by simp [wkTo]
  | k + 1, h => by
    show wkTo (scaleP c ps) (scaleT c t) k + _ * _ = c * (wkTo ps t k + _ * _)
    rw [scale_wk (k := k) (by omega), scale_pt h, scale_pt (i := k) (by omega), scale_ld, scale_ld, ← Int.mul_add, Int.mul_assoc, Int.mul_add]

/-- What CurveUnits asks of what is read. -/
structure Sca (c : Int) (x y : Rs) : Prop where
  st : y.st = c * x.st
  pk : y.pk = x.pk
  ya : y.ya = x.ya
  yv : y.y = c * x.y
  ma : y.ma = x.ma
  wk : y.wk = c * x.wk

theorem scale_read {c : Int} {ps : List Pt} {r : Rl} {t : List Int} (hc : 0 < c) (h0 : 0 < ps.length) : Sca c (readR ps r t) (readR (scaleP c ps) ⟨c * r.d, c * r.k, r.o⟩ (scaleT c t)) := by
  have hg : grt ((scaleT c t).take ps.length) = c * grt (t.take ps.length) := by rw [scale_take, scale_grt (Int.le_of_lt hc)]
  have hd : ∀ n, fst (dropB (c * r.d) (scaleT c t)) n = fst (dropB r.d t) n := fun n => fst_congr fun i _ => by
    unfold dropB
    rw [scale_ld, scale_ld, ← Int.mul_sub]
    exact decide_eq_decide.2 (Iff.of_eq (scale_le hc _ _))
  have hm : fst (meetB (scaleP c ps) ⟨c * r.d, c * r.k, r.o⟩ (scaleT c t)) ps.length = fst (meetB ps r t) ps.length := fst_congr fun i hi => by
    unfold meetB
    rw [scale_ld, show lineI (scaleP c ps) ⟨c * r.d, c * r.k, r.o⟩ i = c * lineI ps r i from by
      show c * r.k * ((pt (scaleP c ps) i).s - r.o) = c * (r.k * ((pt ps i).s - r.o))
      rw [scale_pt hi, Int.mul_assoc]]
    exact decide_eq_decide.2 (Iff.of_eq (scale_le hc _ _))
  refine ⟨?_, ?_, ?_, ?_, ?_, ?_⟩
  · show grt ((scaleT c t).take (scaleP c ps).length) = c * grt (t.take ps.length)
    rw [scale_len, hg]
  · show fst (fun i => grt ((scaleT c t).take (scaleP c ps).length) == ld (scaleT c t) i) (scaleP c ps).length = fst (fun i => grt (t.take ps.length) == ld t i) ps.length
    rw [scale_len, hg]
    refine fst_congr fun i _ => ?_
    rw [scale_ld, Bool.eq_iff_iff, beq_iff_eq, beq_iff_eq]
    exact ⟨fun h => Int.eq_of_mul_eq_mul_left (by omega) h, fun h => by rw [h]⟩
  · show fst (dropB (c * r.d) (scaleT c t)) ((scaleP c ps).length - 1) = fst (dropB r.d t) (ps.length - 1)
    rw [scale_len, hd]
  · show (if fst (dropB (c * r.d) (scaleT c t)) ((scaleP c ps).length - 1) = -1 then 0 else ld (scaleT c t) (fst (dropB (c * r.d) (scaleT c t)) ((scaleP c ps).length - 1)).toNat) = c * (if fst (dropB r.d t) (ps.length - 1) = -1 then 0 else ld t (fst (dropB r.d t) (ps.length - 1)).toNat)
    rw [scale_len, hd, scale_ld]
    split <;> simp
  · show fst (meetB (scaleP c ps) ⟨c * r.d, c * r.k, r.o⟩ (scaleT c t)) (scaleP c ps).length = fst (meetB ps r t) ps.length
    rw [scale_len, hm]
  · show wkTo (scaleP c ps) (scaleT c t) ((scaleP c ps).length - 1) = c * wkTo ps t (ps.length - 1)
    rw [scale_len, scale_wk (by omega)]

theorem shift_fits {n : Int} {ps : List Pt} {t : List Int} (h : fitsB ps t 0 = true) : fitsB (shiftP n ps) t 0 = true := by
  simp only [fitsB, decide_eq_true_eq] at h ⊢
  intro j hj _
  rw [shift_len] at hj
  have := h j hj (Nat.zero_le _)
  unfold fitB at this ⊢
  rw [shift_pt hj]
  exact this
theorem scale_fits {c : Int} (hc : 0 < c) {ps : List Pt} {t : List Int} (h : fitsB ps t 0 = true) : fitsB (scaleP c ps) (scaleT c t) 0 = true := by
  simp only [fitsB, decide_eq_true_eq] at h ⊢
  intro j hj _
  rw [scale_len] at hj
  have := h j hj (Nat.zero_le _)
  unfold fitB hasB at this ⊢
  rw [scale_pt hj, scale_ld]
  simp only [decide_eq_true_eq] at this ⊢
  exact ⟨Int.mul_le_mul_of_nonneg_left this.1 (Int.le_of_lt hc), Int.mul_le_mul_of_nonneg_left this.2 (Int.le_of_lt hc)⟩
end Go.Proofs.Ytfjlnejeffkdoaa
