/- Whether a truth fits a curve, and the greatest load: contracts. -/
import Derived.Test.YtfjlnejeffkdoaaD
namespace Go.Proofs.Ytfjlnejeffkdoaa
open Go.RowKit

def IntsIn (w : World) (b off : Nat) (t : List Int) : Prop := ∀ i, i < t.length → w.cell? ⟨b, off + i, none⟩ = some (.int .i64 (ld t i))
theorem IntsIn.below {n : Nat} {w w' : World} {b off : Nat} {t : List Int} (h : IntsIn w b off t) (hb : Below n w w') (hlt : b < n) : IntsIn w' b off t := fun i hi =>
  (hb.cell (p := ⟨b, off + i, none⟩) hlt).trans (h i hi)

def fitB (ps : List Pt) (t : List Int) (i : Nat) : Bool := hasB (pt ps i).lo (pt ps i).hi (ld t i)
def fitsB (ps : List Pt) (t : List Int) (i : Nat) : Bool := decide (∀ j, j < ps.length → i ≤ j → fitB ps t j = true)
theorem fitsB_end (ps : List Pt) (t : List Int) (i : Nat) (h : ps.length ≤ i) : fitsB ps t i = true := by
  simp only [fitsB, decide_eq_true_eq]; intro j h1 h2; omega
theorem fitsB_yes (ps : List Pt) (t : List Int) (i : Nat) (h : fitB ps t i = true) : fitsB ps t i = fitsB ps t (i + 1) := by
  rw [Bool.eq_iff_iff]; simp only [fitsB, decide_eq_true_eq]
  constructor
  · intro H j h1 h2; exact H j h1 (by omega)
  · intro H j h1 h2
    rcases Nat.eq_or_lt_of_le h2 with e | e
    · rw [← e]; exact h
    · exact H j h1 e
theorem fitsB_no (ps : List Pt) (t : List Int) (i : Nat) (hi : i < ps.length) (h : fitB ps t i = false) : fitsB ps t i = false := by
  rw [← Bool.not_eq_true]; intro H
  simp only [fitsB, decide_eq_true_eq] at H
  rw [H i hi (Nat.le_refl _)] at h; cases h

set_option maxHeartbeats 400000 in
theorem fit_any (b off cap bc i : Nat) (ps : List Pt) (t : List Int) (w : World) (hi : i < ps.length) (hn : ps.length ≤ 20) (hp : PtsIn w b off ps)
    (hbc : w.cell? ⟨bc, 0, none⟩ = some (.slice (some ⟨b, off, none⟩) ps.length cap)) :
    Calls Try.prog 67 #[.int .i64 i, .int .i64 (ld t i), .pointer (some ⟨bc, 0, none⟩)] w fun e w' => e = .returned (.bool (fitB ps t i)) ∧ Below w.heap.size w w' := by
  have p1 := (hp i hi).2.1
  have p2 := (hp i hi).2.2
  have e : fitB ps t i = hasB (pt ps i).lo (pt ps i).hi (ld t i) := rfl
  rw [e]; clear e hp
  generalize (pt ps i).lo = lo at *
  generalize (pt ps i).hi = hi' at *
  generalize ld t i = x at *
  generalize ps.length = n at *
  go_enter Try.func67, Try.ntmps67
  go_wp2_with (go_at_call 62; refine (has_any _ _ _ _).mono ?_; rintro e w1 ⟨rfl, hb1⟩)
  go_ret
  exact ⟨rfl, hb1⟩

set_option maxHeartbeats 400000 in
theorem each_ints (b off cap bc bt offt capt : Nat) (ps : List Pt) (t : List Int) (w : World) (hn : ps.length ≤ 20) (h0 : 0 < ps.length) (hp : PtsIn w b off ps) (ht : t.length = ps.length) (hi : IntsIn w bt offt t)
    (hbc : w.cell? ⟨bc, 0, none⟩ = some (.slice (some ⟨b, off, none⟩) ps.length cap)) :
    Calls Try.prog 66 #[.slice (some ⟨bt, offt, none⟩) ps.length capt, .func (.func 67) #[] #[.pointer (some ⟨bc, 0, none⟩)]] w fun e w' => e = .returned (.bool (fitsB ps t 0)) ∧ Below w.heap.size w w' := by
  have hltb := block_lt_of_cell (hp 0 h0).1
  have hltc := block_lt_of_cell hbc
  have hltt := block_lt_of_cell (hi 0 (by omega))
  have Ht := Lib.hid ht
  clear ht
  go_enter Try.func66, Try.ntmps66
  go_wp2
  go_loopw [9] (fun i wr => ∃ k : Nat, k ≤ ps.length ∧ i = .int .i64 k ∧ Hid (fitsB ps t 0 = fitsB ps t k) ∧ Below w.heap.size w wr) (fun i _ => ps.length - (intOf i).toNat)
  case atStart => exact ⟨0, Nat.zero_le _, rfl, Lib.hid rfl, Below.refl _ _⟩
  case round =>
    obtain ⟨k, hk, rfl, hg, hb⟩ := hrel
    by_cases hlt : k < ps.length
    · have p1 := (hb.cell (p := ⟨bt, offt + k, none⟩) hltt).trans (hi k (by rw [Ht.out]; exact hlt))
      have hv := fit_any b off cap bc k ps t wr hlt hn (hp.below hb hltb) ((hb.cell (p := ⟨bc, 0, none⟩) hltc).trans hbc)
      have Hv := Lib.hid hv
      clear hv
      cases hgk : fitB ps t k with
      | true =>
        have hge := fitsB_yes ps t k hgk
        rw [← hg.out] at hge
        have Hge := Lib.hid hge
        clear hge hg
        have Hgk := Lib.hid hgk
        clear hgk
        go_wp2_with (go_at_call 67; refine (Hv.out).mono ?_; rintro e w1 ⟨rfl, hb1⟩; rw [Hgk.out])
        go_roundw
        case rel => exact ⟨k + 1, by omega, by simp, Hge, below_to hb hb1⟩
        case measure => simp [intOf]; omega
      | false =>
        have hgf := (hg.out).trans (fitsB_no ps t k hlt hgk)
        have Hgf := Lib.hid hgf
        clear hgf hg
        have Hgk := Lib.hid hgk
        clear hgk
        go_wp2_with (go_at_call 67; refine (Hv.out).mono ?_; rintro e w1 ⟨rfl, hb1⟩; rw [Hgk.out])
        go_ret
        exact ⟨by rw [Hgf.out]; rfl, below_to hb hb1⟩
    · have hgf := (hg.out).trans (fitsB_end ps t k (by omega))
      have Hgf := Lib.hid hgf
      clear hgf hg
      obtain rfl : k = ps.length := by omega
      go_wp2
      go_ret
      exact ⟨by rw [Hgf.out]; rfl, hb⟩

set_option maxHeartbeats 400000 in
theorem allows_ne (a a' : Option Addr) (n cap m cap' : Nat) (w : World) (h : m ≠ n) :
    Calls Try.prog 49 #[.agg #[.slice a n cap], .slice a' m cap'] w fun e w' => e = .returned (.bool false) ∧ Below w.heap.size w w' := by
  have hne : ((m : Int) == (n : Int)) = false := by rw [beq_eq_false_iff_ne]; omega
  go_enter Try.func49, Try.ntmps49
  go_wp2
  go_ret
  exact ⟨rfl, box_below _ _⟩
set_option maxHeartbeats 400000 in
theorem allows_any (b off cap bt offt capt : Nat) (ps : List Pt) (t : List Int) (w : World) (hn : ps.length ≤ 20) (h0 : 0 < ps.length) (hp : PtsIn w b off ps) (ht : t.length = ps.length) (hi : IntsIn w bt offt t) :
    Calls Try.prog 49 #[.agg #[.slice (some ⟨b, off, none⟩) ps.length cap], .slice (some ⟨bt, offt, none⟩) ps.length capt] w fun e w' => e = .returned (.bool (fitsB ps t 0)) ∧ Below w.heap.size w w' := by
  have hltb : b < w.heap.size := block_lt_of_cell (hp 0 h0).1
  have hltt : bt < w.heap.size := block_lt_of_cell (hi 0 (by omega))
  have hB := box_below w (.cells #[.slice (some ⟨b, off, none⟩) ps.length cap] 34)
  have hv := each_ints b off cap w.heap.size bt offt capt ps t _ hn h0 (hp.below hB hltb) ht (hi.below hB hltt) (by simp)
  have Hv := Lib.hid hv
  have Ht := Lib.hid ht
  clear hv ht
  go_enter Try.func49, Try.ntmps49
  go_wp2_with (go_at_call 66; refine (Hv.out).mono ?_; rintro e w1 ⟨rfl, hb1⟩)
  go_ret
  exact ⟨rfl, below_to hB hb1⟩

def grt (l : List Int) : Int := l.foldl max 0
theorem grt_take (t : List Int) (k : Nat) (h : k < t.length) : grt (t.take (k + 1)) = max (grt (t.take k)) (ld t k) := by
  unfold grt ld
  rw [List.take_succ_eq_append_getElem h, List.foldl_append]
  simp [h]

set_option maxHeartbeats 400000 in
theorem greatest_any (b off cap : Nat) (t : List Int) (w : World) (hn : t.length ≤ 20) (hi : IntsIn w b off t) :
    Calls Try.prog 68 #[.slice (some ⟨b, off, none⟩) t.length cap] w fun e w' => e = .returned (.int .i64 (grt t)) ∧ w' = w := by
  go_enter Try.func68, Try.ntmps68
  go_wp2
  go_loop [3, 8] (fun m i => ∃ k : Nat, k ≤ t.length ∧ i = .int .i64 k ∧ m = .int .i64 (grt (t.take k))) (fun _ i => t.length - (intOf i).toNat)
  case atStart => exact ⟨0, Nat.zero_le _, rfl, rfl⟩
  case round =>
    obtain ⟨k, hk, rfl, rfl⟩ := hrel
    by_cases hlt : k < t.length
    · have p1 := hi k hlt
      have hs := Lib.hid (grt_take t k hlt)
      generalize grt (t.take k) = g at *
      go_wp2
      all_goals
        go_round
        case rel => exact ⟨k + 1, by omega, by simp, by rw [hs.out]; congr 1; omega⟩
        case measure => simp [intOf]; omega
    · obtain rfl : k = t.length := by omega
      go_wp2
      go_ret
      exact ⟨ret_int (by simp), rfl⟩

/-- The least index below 'many' that has what is asked for, or -1. -/
def fst (B : Nat → Bool) (many : Nat) : Int := ((List.range many).find? B).elim (-1) (fun i => (i : Int))
theorem fst_hit {B : Nat → Bool} {many k : Nat} (h : k < many) (hB : B k = true) (hn : ∀ j, j < k → B j = false) : fst B many = k := by
  unfold fst
  rw [show (List.range many).find? B = some k from by
    rw [List.find?_eq_some_iff_append]
    refine ⟨hB, List.range k, (List.range (many - k - 1)).map (k + 1 + ·), ?_, fun a ha => by simp [hn a (List.mem_range.1 ha)]⟩
    obtain ⟨d, rfl⟩ : ∃ d, many = k + (1 + d) := ⟨many - k - 1, by omega⟩
    rw [List.range_add, show k + (1 + d) - k - 1 = d by omega, List.range_add]
    simp [Function.comp_def, Nat.add_assoc]]
  rfl
theorem fst_none {B : Nat → Bool} {many : Nat} (hn : ∀ j, j < many → B j = false) : fst B many = -1 := by
  unfold fst
  rw [show (List.range many).find? B = none from by rw [List.find?_eq_none]; intro a ha; simp [hn a (List.mem_range.1 ha)]]
  rfl
theorem fst_cases (B : Nat → Bool) (many : Nat) : (fst B many = -1 ∧ ∀ j, j < many → B j = false) ∨ ∃ k, k < many ∧ fst B many = k ∧ B k = true ∧ ∀ j, j < k → B j = false := by
  by_cases h : ∃ k, k < many ∧ B k = true ∧ ∀ j, j < k → B j = false
  · obtain ⟨k, h1, h2, h3⟩ := h
    exact .inr ⟨k, h1, fst_hit h1 h2 h3, h2, h3⟩
  · have hn : ∀ j, j < many → B j = false := by
      intro j
      induction j using Nat.strongRecOn with
      | ind j ih =>
        intro hj
        cases hb : B j with
        | false => rfl
        | true => exact (h ⟨j, hj, hb, fun i hi => ih i hi (by omega)⟩).elim
    exact .inl ⟨fst_none hn, hn⟩

set_option maxHeartbeats 400000 in
theorem index_any (b off cap : Nat) (v : Int) (t : List Int) (w : World) (hn : t.length ≤ 20) (hi : IntsIn w b off t) :
    Calls Try.prog 73 #[.slice (some ⟨b, off, none⟩) t.length cap, .int .i64 v] w fun e w' => e = .returned (.int .i64 (fst (fun i => v == ld t i) t.length)) ∧ w' = w := by
  go_enter Try.func73, Try.ntmps73
  go_wp2
  go_loop [8] (fun i => ∃ k : Nat, k ≤ t.length ∧ i = .int .i64 k ∧ Hid (∀ j, j < k → (v == ld t j) = false)) (fun i => t.length - (intOf i).toNat)
  case atStart => exact ⟨0, Nat.zero_le _, rfl, Lib.hid (fun j hj => absurd hj (Nat.not_lt_zero _))⟩
  case round =>
    obtain ⟨k, hk, rfl, hno⟩ := hrel
    by_cases hlt : k < t.length
    · have p1 := hi k hlt
      cases hv : (v == ld t k) with
      | true =>
        have hf := Lib.hid (fst_hit (B := fun i => v == ld t i) hlt hv hno.out)
        go_wp2
        go_ret
        exact ⟨by rw [hf.out]; rfl, rfl⟩
      | false =>
        have hf : Hid (∀ j, j < k + 1 → (v == ld t j) = false) := Lib.hid (fun j hj => by
          rcases Nat.lt_succ_iff_lt_or_eq.1 hj with h | rfl
          · exact hno.out j h
          · exact hv)
        go_wp2
        go_round
        case rel => exact ⟨k + 1, by omega, by simp, hf⟩
        case measure => simp [intOf]; omega
    · obtain rfl : k = t.length := by omega
      have hf := Lib.hid (fst_none (B := fun i => v == ld t i) hno.out)
      go_wp2
      go_ret
      exact ⟨by rw [hf.out]; rfl, rfl⟩

end Go.Proofs.Ytfjlnejeffkdoaa
