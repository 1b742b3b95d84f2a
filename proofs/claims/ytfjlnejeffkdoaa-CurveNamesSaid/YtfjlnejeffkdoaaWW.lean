/- Plain facts for CurveUnits: how great what is read can be; a list whose first elements are scaled already; points and numbers where only another block has changed. -/
import Derived.Test.YtfjlnejeffkdoaaRR
namespace Go.Proofs.Ytfjlnejeffkdoaa
open Go.RowKit

theorem read_bd {ps : List Pt} {r : Rl} {t : List Int} (G : Good ps r t) : (0 ≤ (readR ps r (pad t)).st ∧ (readR ps r (pad t)).st ≤ 100000) ∧ (0 ≤ (readR ps r (pad t)).y ∧ (readR ps r (pad t)).y ≤ 100000) ∧ -4000000000 ≤ (readR ps r (pad t)).wk ∧ (readR ps r (pad t)).wk ≤ 4000000000 := by
  have hF := G.fine
  have hpos := G.pos
  have hlen := G.len
  refine ⟨?_, ?_, ?_⟩
  · obtain ⟨_, g2⟩ := grt_mem (pad t) ps.length (fun i _ => (hF.ld i).1) (by rw [hF.tlen]; exact hlen)
    obtain ⟨i, hi, he⟩ := g2 hpos
    show 0 ≤ grt ((pad t).take ps.length) ∧ grt ((pad t).take ps.length) ≤ 100000
    rw [← he]
    exact hF.ld i
  · show 0 ≤ (if fst (dropB r.d (pad t)) (ps.length - 1) = -1 then 0 else ld (pad t) (fst (dropB r.d (pad t)) (ps.length - 1)).toNat) ∧ (if fst (dropB r.d (pad t)) (ps.length - 1) = -1 then 0 else ld (pad t) (fst (dropB r.d (pad t)) (ps.length - 1)).toNat) ≤ 100000
    split
    · omega
    · exact hF.ld _
  · have h := wkTo_bd hF (ps.length - 1) (by omega)
    show -4000000000 ≤ wkTo ps (pad t) (ps.length - 1) ∧ wkTo ps (pad t) (ps.length - 1) ≤ 4000000000
    omega

/-- The first elements scaled, the rest as they were. -/
def mixT (c : Int) (t : List Int) (q : Nat) : List Int := scaleT c (t.take q) ++ t.drop q
theorem mix_zero (c : Int) (t : List Int) : mixT c t 0 = t := by simp [mixT, scaleT]
theorem mix_all (c : Int) (t : List Int) : mixT c t t.length = scaleT c t := by simp [mixT]
theorem mix_len (c : Int) (t : List Int) (q : Nat) : (mixT c t q).length = t.length := by
  simp only [mixT, scaleT, List.length_append, List.length_map, List.length_take, List.length_drop]
  omega
theorem mix_ld {c : Int} {t : List Int} {q : Nat} (hq : q ≤ t.length) (i : Nat) : ld (mixT c t q) i = if i < q then c * ld t i else ld t i := by
  unfold ld mixT scaleT
  split
  · rename_i h
    rw [List.getElem?_append_left (by simp; omega), List.getElem?_map, List.getElem?_take, if_pos h]
    cases t[i]? <;> simp
  · rename_i h
    rw [List.getElem?_append_right (by simp; omega), List.getElem?_drop]
    congr 2
    simp
    omega

theorem IntsIn.mix {w : World} {B q : Nat} {c : Int} {t : List Int} {cur : Array Value} (hc : w.heap[B]? = some (.cells cur 3 (0, 0))) (h : IntsIn w B 0 (mixT c t q)) (hq : q < t.length) :
    IntsIn (w.setCell ⟨B, q, none⟩ (.int .i64 (ld t q * c))) B 0 (mixT c t (q + 1)) ∧ ∃ cur', (w.setCell ⟨B, q, none⟩ (.int .i64 (ld t q * c))).heap[B]? = some (.cells cur' 3 (0, 0)) := by
  have hs := heap_setCell_same w B q cur 3 (.int .i64 (ld t q * c)) hc
  refine ⟨fun i hi => ?_, _, hs⟩
  rw [mix_len] at hi
  have h0 := h i (by rw [mix_len]; exact hi)
  rw [Nat.zero_add] at h0 ⊢
  rw [cell_of_row w B i cur 3 _ hc] at h0
  rw [cell_of_row _ B i _ 3 _ hs, mix_ld (by omega)]
  rw [mix_ld (by omega)] at h0
  have hsz : i < cur.size := by
    by_cases hh : i < cur.size
    · exact hh
    · rw [Array.getElem?_eq_none (by omega)] at h0
      cases h0
  by_cases e : i = q
  · subst e
    rw [if_pos (by omega), Int.mul_comm]
    simp [hsz]
  · rw [Array.getElem?_setIfInBounds_ne (fun h => e h.symm), h0]
    by_cases hl : i < q
    · rw [if_pos hl, if_pos (by omega)]
    · rw [if_neg hl, if_neg (by omega)]

theorem cell_block {w w' : World} {b : Nat} (e : w'.heap[b]? = w.heap[b]?) (o : Nat) : w'.cell? ⟨b, o, none⟩ = w.cell? ⟨b, o, none⟩ := by
  unfold World.cell?
  simp only [e]
theorem PtsIn.block {w w' : World} {b off : Nat} {ps : List Pt} (h : PtsIn w b off ps) (e : w'.heap[b]? = w.heap[b]?) : PtsIn w' b off ps := fun i hi =>
  ⟨(cell_block e _).trans (h i hi).1, (cell_block e _).trans (h i hi).2.1, (cell_block e _).trans (h i hi).2.2⟩
end Go.Proofs.Ytfjlnejeffkdoaa
