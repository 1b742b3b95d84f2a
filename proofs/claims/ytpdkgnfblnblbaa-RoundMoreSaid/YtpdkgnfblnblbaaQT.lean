/- A drawn region whose operations but the last few only read, or call what makes memory of its own: one walk of the head in its order, then the tail in each world that may lie before it. No condition. -/
import Derived.StillTail
import Derived.Deep.Quiet
import Derived.Lib.QuietBelow
namespace Go.Proofs.Ytpdkgnfblnblbaa
open Go.RowKit

section
variable {P : Program} {ops : Array Oper} {C : World → Prop}

/-- So many more operations of the head, in whatever order; what is left behind them meets L. -/
def Ahead (P : Program) (ops : Array Oper) (C : World → Prop) (m : Nat) (L : Array Bool → Act → Prop) : Nat → Array Bool → Act → Prop
  | 0, B, a => L B a
  | f + 1, B, a => Region.ready .any ops B ≠ [] ∧ ∀ j, j ∈ Region.ready .any ops B → j < m ∧ qOp P ops C j (Ahead P ops C m L f (B.setIfInBounds j true)) a

theorem ahead_any {m g : Nat} {L : Array Bool → Act → Prop} {Q : Exit → Act → World → Prop} (hL : ∀ B a w, C w → L B a → wpAny P .any ops Q g B a w) (f : Nat) :
    ∀ (B : Array Bool) (a : Act) (w : World), C w → Ahead P ops C m L f B a → wpAny P .any ops Q (f + g) B a w := by
  induction f with
  | zero => intro B a w hw h; rw [Nat.zero_add]; exact hL B a w hw h
  | succ f ih =>
    intro B a w hw h
    have e : f + 1 + g = (f + g) + 1 := by omega
    rw [e]
    refine ⟨fun h0 => (h.1 h0).elim, fun j hj => ?_⟩
    exact wpOp_of_qOp hw (fun a' w' hw' h' => ih _ a' w' hw' h') (h.2 j hj).2

/-- What must hold of an operation that is taken first. -/
structure Firsts (ops : Array Oper) (m : Nat) (i : Nat) (oi : Oper) : Prop where
  at' : ops[i]? = some oi
  nosel : ∀ (j : Nat) (o : Oper) cs b, ops[j]? = some o → o.op ≠ .select cs b
  sink : Region.sinkB .any ops m = true
  chain : Region.chainB .any ops m = true
  mlt : m < ops.size
  ilt : i < m
theorem Firsts.head {m i : Nat} {oi : Oper} (F : Firsts ops m i oi) {B : Array Bool} (inv : HeadInv .any ops m B) (hun : B.getD i true = false) {j : Nat} (hj : j ∈ Region.ready .any ops B) : j < m := by
  by_cases h : j < m
  · exact h
  · exact absurd hj (tail_waits F.sink F.chain F.mlt inv _ i rfl F.ilt hun j (by omega))
theorem ahead_take {m i : Nat} {oi : Oper} {v : Value} {L : Array Bool → Act → Prop} (F : Firsts ops m i oi) (hend : ∀ B a, L B a → ∀ j, j ∈ Region.ready .any ops B → m ≤ j) (f : Nat) :
    ∀ (B : Array Bool) (a : Act), HeadInv .any ops m B → (∀ j oj, ops[j]? = some oj → j ≠ i → B.getD j true = false → (∀ e ∈ oj.after, Region.binds .any e = true → e.on ≠ i) → oi.apart ops oj = true) →
      i ∈ Region.ready .any ops B → YieldsIn P ops C oi v a → Ahead P ops C m L f (B.setIfInBounds i true) (a.put oi.dst v) → Ahead P ops C m L (f + 1) B a := by
  induction f with
  | zero =>
    intro B a inv _ hi hy h
    have hun := (mem_ready.1 hi).1
    refine ⟨fun h0 => (by rw [h0] at hi; cases hi), fun j hj => ⟨F.head inv hun hj, ?_⟩⟩
    by_cases e : j = i
    · rw [e]; exact hy.qOp F.at' h
    · have h1 := hend _ _ h j (ready_mono hj e)
      have h2 := F.head inv hun hj
      omega
  | succ f ih =>
    intro B a inv hfree hi hy h
    have hun := (mem_ready.1 hi).1
    refine ⟨fun h0 => (by rw [h0] at hi; cases hi), fun j hj => ⟨F.head inv hun hj, ?_⟩⟩
    by_cases e : j = i
    · rw [e]; exact hy.qOp F.at' h
    · obtain ⟨hjun, oj, hoj, hall⟩ := mem_ready.1 hj
      have hno : ∀ x ∈ oj.after, Region.binds .any x = true → x.on ≠ i := by
        intro x hx hb hxi
        have h1 := hall x hx hb
        rw [hxi, getD_both hun] at h1
        exact Bool.noConfusion h1
      have hq := qOp_put hoj (hfree j oj hoj e hjun hno) (fun cs b => F.nosel i oi cs b F.at') (fun cs b => F.nosel j oj cs b hoj) hy (h.2 j (ready_mono hj e)).2
      refine qOp_mono (fun a' hh => ?_) hq
      refine ih _ a' (inv.set hj (F.head inv hun hj)) (fun k ok hk hki hku hkn => hfree k ok hk hki ?_ hkn) (ready_mono hi (Ne.symm e)) hh.1 ?_
      · by_cases ejk : j = k
        · rw [← ejk]; exact hjun
        · rwa [getD_set_ne true ejk] at hku
      · rw [Array.setIfInBounds_comm _ _ e]
        exact hh.2
theorem ahead_walk {m g : Nat} {K : Act → Prop} (hsel : Region.noSelect ops = true) (hs : Region.sinkB .any ops m = true) (hc : Region.chainB .any ops m = true) (hm : m < ops.size) (l : List Oper) :
    ∀ (k : Nat) (B : Array Bool) (a : Act), (∀ j, j < l.length → l[j]? = ops[k + j]?) → k + l.length = m → HeadInv .any ops m B → Region.lexHead .any ops g l.length k B = true → wpQuiet P ops C K l a →
      Ahead P ops C m (fun B' a' => Region.seqB .any ops g m B' = true ∧ K a') l.length B a := by
  induction l with
  | nil =>
    intro k B a _ hk _ hB h
    obtain rfl : k = m := by simpa using hk
    exact ⟨by simpa [Region.lexHead] using hB, h⟩
  | cons o l ih =>
    intro k B a hl hk inv hB h
    have h0 : ops[k]? = some o := by simpa using (hl 0 (by simp)).symm
    simp only [List.length_cons, Region.lexHead, Bool.and_eq_true] at hB hk
    have hr : k ∈ Region.ready .any ops B := by simpa using hB.1.1
    have hq : qOp P ops C k (wpQuiet P ops C K l) a := by
      unfold qOp
      rw [h0]
      exact h
    obtain ⟨v, hy, hK⟩ := yieldsIn_of_qOp h0 hq
    have hkm : k < m := by omega
    refine ahead_take ⟨h0, Region.noSelect_spec hsel, hs, hc, hm, hkm⟩ (fun B' a' hL => seqB_ready hL.1) l.length B a inv (Region.free_spec h0 hB.1.2) hr hy ?_
    refine ih (k + 1) _ _ (fun j hj => ?_) (by omega) (inv.set hr hkm) hB.2 hK
    have := hl (j + 1) (by simp; omega)
    simpa [Nat.add_assoc, Nat.add_comm 1 j] using this

theorem wp_region_quiet_tail {id : Nat} {Q : Exit → Act → World → Prop} {a : Act} {w : World} {l : List Oper} (m : Nat) (hm : P.follows .mixedOrders = true) (hB : Region.lexTailB .any l.toArray m = true) (hC : C { w with drawn := w.drawn + 1 })
    (h : wpQuiet P l.toArray C (fun a' => ∀ w', C w' → wpList P l.toArray Q (l.drop m) a' w') (l.take m) a) : (Code.region id l.toArray true).wp P Q a w := by
  simp only [Region.lexTailB, Bool.and_eq_true, decide_eq_true_eq] at hB
  obtain ⟨⟨⟨⟨hsel, hn⟩, hs⟩, hc⟩, hlex⟩ := hB
  have hn2 : m < l.length := by simpa using hn
  have hlt : (l.take m).length = m := by rw [List.length_take]; omega
  have hld : (l.drop m).length = l.toArray.size - m := by simp
  have inv : HeadInv .any l.toArray m (Array.replicate l.toArray.size false) := by
    refine ⟨by simp, fun j oj _ hl => ?_, fun t _ ht => getD_in (by simpa using ht) (getD_replicate_false _ _)⟩
    rw [getD_replicate_false] at hl
    exact Bool.noConfusion hl
  have H := ahead_walk (P := P) (C := C) (g := l.toArray.size - m) (K := fun a' => ∀ w', C w' → wpList P l.toArray Q (l.drop m) a' w') hsel hs hc hn (l.take m) 0 (Array.replicate l.toArray.size false) a (fun j hj => by
    have : j < m := by omega
    simp [this]) (by omega) inv (by rw [hlt]; exact hlex) h
  refine wp_region_any hm ?_
  have hfin := ahead_any (Q := Q) (g := l.toArray.size - m) (fun B a' w' hw hL => by
    have := wpAny_of_seq (md := .any) (Q' := Q) (l.drop m) m B a' w' (fun j => by simp [List.getElem?_drop]) (by rw [hld]; exact hL.1) (hL.2 w' hw)
    rwa [hld] at this) _ _ _ _ hC H
  have e : (l.take m).length + (l.toArray.size - m) = l.toArray.size := by rw [hlt]; omega
  rw [e] at hfin
  exact hfin

open Go.Sort in
theorem wp_region_below_tail {id : Nat} {Q : Exit → Act → World → Prop} {a : Act} {w : World} {l : List Oper} (m : Nat) (hm : P.follows .mixedOrders = true) (hB : Region.lexTailB .any l.toArray m = true)
    (h : wpQuiet P l.toArray (fun w' => ∃ p : Regrown, w' = grow (redrawn w p.d) p.os) (fun a' => ∀ w', Below w.heap.size w w' → wpList P l.toArray Q (l.drop m) a' w') (l.take m) a) : (Code.region id l.toArray true).wp P Q a w := by
  refine wp_region_quiet_tail (C := fun w' => ∃ p : Regrown, w' = grow (redrawn w p.d) p.os) m hm hB ⟨⟨w.drawn + 1, #[]⟩, by rw [grow_empty]; rfl⟩ ?_
  have key : ∀ (l' : List Oper) (a : Act) (K K' : Act → Prop), (∀ a, K a → K' a) → wpQuiet P l.toArray (fun w' => ∃ p : Regrown, w' = grow (redrawn w p.d) p.os) K l' a → wpQuiet P l.toArray (fun w' => ∃ p : Regrown, w' = grow (redrawn w p.d) p.os) K' l' a := by
    intro l'
    induction l' with
    | nil => intro a K K' hk h; exact hk a h
    | cons o l' ih =>
      intro a K K' hk h
      unfold wpQuiet at h ⊢
      split at h
      · rename_i hw
        rw [if_pos hw]
        exact Oper.quiet_mono (fun a h => ih a K K' hk h) h
      · rename_i hw
        rw [if_neg hw]
        exact ih _ K K' hk h
  refine key _ _ _ _ (fun a' h' w' hw' => h' w' ?_) h
  obtain ⟨p, rfl⟩ := hw'
  exact below_regrown w p.d p.os
end
end Go.Proofs.Ytpdkgnfblnblbaa
