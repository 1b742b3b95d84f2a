/- What is read where all stretches are as much greater, and where all loads are as many times as great: plain numbers. -/
import Derived.Test.YtfjlnejeffkdoaaLL
namespace Go.Proofs.Ytfjlnejeffkdoaa
open Go.RowKit

/-- All stretches as much greater. -/
def shiftP (n : Int) (ps : List Pt) : List Pt := ps.map fun p => ⟨p.s + n, p.lo, p.hi⟩
theorem shift_len (n : Int) (ps : List Pt) : (shiftP n ps).length = ps.length := by simp [shiftP]
theorem shift_pt {n : Int} {ps : List Pt} {i : Nat} (h : i < ps.length) : pt (shiftP n ps) i = ⟨(pt ps i).s + n, (pt ps i).lo, (pt ps i).hi⟩ := by simp [pt, shiftP, h]
theorem shift_line {n : Int} {ps : List Pt} {r : Rl} {i : Nat} (h : i < ps.length) : lineI (shiftP n ps) ⟨r.d, r.k, r.o + n⟩ i = lineI ps r i := by
  show r.k * ((pt (shiftP n ps) i).s - (r.o + n)) = r.k * ((pt ps i).s - r.o)
  rw [shift_pt h]
  show r.k * ((pt ps i).s + n - (r.o + n)) = _
  rw [show (pt ps i).s + n - (r.o + n) = (pt ps i).s - r.o by omega]
theorem shift_wk {n : Int} {ps : List Pt} {t : List Int} : ∀ {k : Nat}, k < ps.length → wkTo (shiftP n ps) t k = wkTo ps t k
  | 0, _ => rfl
  | k + 1, h => by
    show wkTo (shiftP n ps) t k + _ * _ = wkTo ps t k + _ * _
    rw [shift_wk (k := k) (by omega), shift_pt h, shift_pt (i := k) (by omega)]
    show _ + _ * ((pt ps (k + 1)).s + n - ((pt ps k).s + n)) = _
    rw [show (pt ps (k + 1)).s + n - ((pt ps k).s + n) = (pt ps (k + 1)).s - (pt ps k).s by omega]
theorem shift_pl {n : Int} {ps : List Pt} {r : Rl} {t : List Int} : ∀ {i : Nat}, i < ps.length → plI (shiftP n ps) ⟨r.d, r.k, r.o + n⟩ t i = plI ps r t i
  | 0, _ => rfl
  | i + 1, h => by
    show (_ * lineI _ _ (i + 1) - _ * lineI _ _ i) / (_ - lineI _ _ i + lineI _ _ (i + 1) - _) = (_ * lineI _ _ (i + 1) - _ * lineI _ _ i) / (_ - lineI _ _ i + lineI _ _ (i + 1) - _)
    rw [shift_line h, shift_line (i := i) (by omega)]

theorem shift_read {n : Int} {ps : List Pt} {r : Rl} {t : List Int} (h0 : 0 < ps.length) : readR (shiftP n ps) ⟨r.d, r.k, r.o + n⟩ t = readR ps r t := by
  have hm : fst (meetB (shiftP n ps) ⟨r.d, r.k, r.o + n⟩ t) ps.length = fst (meetB ps r t) ps.length := fst_congr fun i hi => by
    unfold meetB
    rw [shift_line hi]
  unfold readR
  rw [shift_len, hm, shift_wk (by omega)]
  rcases fst_cases (meetB ps r t) ps.length with ⟨e, _⟩ | ⟨k, hk, e, _⟩
  · rw [e]; rfl
  · have hk1 : ¬ ((k : Int) = -1) := by omega
    rw [e]
    simp only [hk1, if_false, Int.toNat_natCast, shift_pl hk]

/-- All loads as many times as great. -/
def scaleP (c : Int) (ps : List Pt) : List Pt := ps.map fun p => ⟨p.s, c * p.lo, c * p.hi⟩
def scaleT (c : Int) (t : List Int) : List Int := t.map fun x => c * x
theorem scale_len (c : Int) (ps : List Pt) : (scaleP c ps).length = ps.length := by simp [scaleP]
theorem scale_pt {c : Int} {ps : List Pt} {i : Nat} (h : i < ps.length) : pt (scaleP c ps) i = ⟨(pt ps i).s, c * (pt ps i).lo, c * (pt ps i).hi⟩ := by simp [pt, scaleP, h]
theorem scale_ld (c : Int) (t : List Int) (i : Nat) : ld (scaleT c t) i = c * ld t i := by
  unfold ld scaleT
  rw [List.getElem?_map]
  cases t[i]? <;> simp
theorem max_scale {c : Int} (hc : 0 ≤ c) (a b : Int) : max (c * a) (c * b) = c * max a b := by
  rcases Int.le_total a b with h | h
  · rw [Int.max_eq_right h, Int.max_eq_right (Int.mul_le_mul_of_nonneg_left h hc)]
  · rw [Int.max_eq_left h, Int.max_eq_left (Int.mul_le_mul_of_nonneg_left h hc)]
theorem fold_scale {c : Int} (hc : 0 ≤ c) : ∀ (l : List Int) (a : Int), (scaleT c l).foldl max (c * a) = c * l.foldl max a
  | [], _ => rfl
  | x :: l, a => by
    show (scaleT c l).foldl max (max (c * a) (c * x)) = c * l.foldl max (max a x)
    rw [max_scale hc]
    exact fold_scale hc l _
theorem scale_grt {c : Int} (hc : 0 ≤ c) (l : List Int) : grt (scaleT c l) = c * grt l := by
  have := fold_scale hc l 0
  rw [Int.mul_zero] at this
  exact this
theorem scale_take (c : Int) (t : List Int) (n : Nat) : (scaleT c t).take n = scaleT c (t.take n) := by simp [scaleT, List.map_take]
theorem scale_pad (c : Int) (t : List Int) : pad (scaleT c t) = scaleT c (pad t) := by simp [pad, scaleT]
theorem scale_le {c : Int} (hc : 0 < c) (a b : Int) : (c * a ≤ c * b) = (a ≤ b) :=
  propext ⟨fun h => Int.le_of_mul_le_mul_left h hc, fun h => Int.mul_le_mul_of_nonneg_left h (Int.le_of_lt hc)⟩
theorem scale_wk {c : Int} {ps : List Pt} {t : List Int} : ∀ {k : Nat}, k < ps.length → wkTo (scaleP c ps) (scaleT c t) k = c * wkTo ps t k
  | 0, _ => by simp [wkTo]
  | k + 1, h => by
    show wkTo (scaleP c ps) (scaleT c t) k + _ * _ = c * (wkTo ps t k + _ * _)
    rw [scale_wk (k := k) (by omega), scale_pt h, scale_pt (i := k) (by omega), scale_ld, scale_ld, ← Int.mul_add, Int.mul_assoc, Int.mul_add]

/-- What CurveUnits asks of what is read. -/
structure Sca (c : Int) (x y : Rs) : Prop where
  st : y.st = c * x.st
  pk : y.pk = x.pk
  ya : y.ya = x.ya
  yv : y.y = c * x.y
  ma : y.ma = x.ma
  wk : y.wk = c * x.wk

theorem scale_read {c : Int} {ps : List Pt} {r : Rl} {t : List Int} (hc : 0 < c) (h0 : 0 < ps.length) : Sca c (readR ps r t) (readR (scaleP c ps) ⟨c * r.d, c * r.k, r.o⟩ (scaleT c t)) := by
  have hg : grt ((scaleT c t).take ps.length) = c * grt (t.take ps.length) := by rw [scale_take, scale_grt (Int.le_of_lt hc)]
  have hd : ∀ n, fst (dropB (c * r.d) (scaleT c t)) n = fst (dropB r.d t) n := fun n => fst_congr fun i _ => by
    unfold dropB
    rw [scale_ld, scale_ld, ← Int.mul_sub]
    exact decide_eq_decide.2 (Iff.of_eq (scale_le hc _ _))
  have hm : fst (meetB (scaleP c ps) ⟨c * r.d, c * r.k, r.o⟩ (scaleT c t)) ps.length = fst (meetB ps r t) ps.length := fst_congr fun i hi => by
    unfold meetB
    rw [scale_ld, show lineI (scaleP c ps) ⟨c * r.d, c * r.k, r.o⟩ i = c * lineI ps r i from by
      show c * r.k * ((pt (scaleP c ps) i).s - r.o) = c * (r.k * ((pt ps i).s - r.o))
      rw [scale_pt hi, Int.mul_assoc]]
    exact decide_eq_decide.2 (Iff.of_eq (scale_le hc _ _))
  refine ⟨?_, ?_, ?_, ?_, ?_, ?_⟩
  · show grt ((scaleT c t).take (scaleP c ps).length) = c * grt (t.take ps.length)
    rw [scale_len, hg]
  · show fst (fun i => grt ((scaleT c t).take (scaleP c ps).length) == ld (scaleT c t) i) (scaleP c ps).length = fst (fun i => grt (t.take ps.length) == ld t i) ps.length
    rw [scale_len, hg]
    refine fst_congr fun i _ => ?_
    rw [scale_ld, Bool.eq_iff_iff, beq_iff_eq, beq_iff_eq]
    exact ⟨fun h => Int.eq_of_mul_eq_mul_left (by omega) h, fun h => by rw [h]⟩
  · show fst (dropB (c * r.d) (scaleT c t)) ((scaleP c ps).length - 1) = fst (dropB r.d t) (ps.length - 1)
    rw [scale_len, hd]
  · show (if fst (dropB (c * r.d) (scaleT c t)) ((scaleP c ps).length - 1) = -1 then 0 else ld (scaleT c t) (fst (dropB (c * r.d) (scaleT c t)) ((scaleP c ps).length - 1)).toNat) = c * (if fst (dropB r.d t) (ps.length - 1) = -1 then 0 else ld t (fst (dropB r.d t) (ps.length - 1)).toNat)
    rw [scale_len, hd, scale_ld]
    split <;> simp
  · show fst (meetB (scaleP c ps) ⟨c * r.d, c * r.k, r.o⟩ (scaleT c t)) (scaleP c ps).length = fst (meetB ps r t) ps.length
    rw [scale_len, hm]
  · show wkTo (scaleP c ps) (scaleT c t) ((scaleP c ps).length - 1) = c * wkTo ps t (ps.length - 1)
    rw [scale_len, scale_wk (by omega)]

theorem shift_fits {n : Int} {ps : List Pt} {t : List Int} (h : fitsB ps t 0 = true) : fitsB (shiftP n ps) t 0 = true := by
  simp only [fitsB, decide_eq_true_eq] at h ⊢
  intro j hj _
  rw [shift_len] at hj
  have := h j hj (Nat.zero_le _)
  unfold fitB at this ⊢
  rw [shift_pt hj]
  exact this
theorem scale_fits {c : Int} (hc : 0 < c) {ps : List Pt} {t : List Int} (h : fitsB ps t 0 = true) : fitsB (scaleP c ps) (scaleT c t) 0 = true := by
  simp only [fitsB, decide_eq_true_eq] at h ⊢
  intro j hj _
  rw [scale_len] at hj
  have := h j hj (Nat.zero_le _)
  unfold fitB hasB at this ⊢
  rw [scale_pt hj, scale_ld]
  simp only [decide_eq_true_eq] at this ⊢
  exact ⟨Int.mul_le_mul_of_nonneg_left this.1 (Int.le_of_lt hc), Int.mul_le_mul_of_nonneg_left this.2 (Int.le_of_lt hc)⟩
end Go.Proofs.Ytfjlnejeffkdoaa
