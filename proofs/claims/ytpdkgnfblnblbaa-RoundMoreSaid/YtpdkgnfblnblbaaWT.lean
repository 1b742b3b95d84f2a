/- A drawn region whose head is walked in a given order, and whose last operations may write what the head reads. No condition. -/
import Derived.Test.YtpdkgnfblnblbaaD
import Derived.Test.YtpdkgnfblnblbaaQC
import Derived.Test.YtpdkgnfblnblbaaBA
namespace Go.Proofs.Ytpdkgnfblnblbaa
open Go.RowKit Go.Shelf

section
variable {P : Program} {ops : Array Oper} {Q : Exit → Act → World → Prop} {S : World → Prop}

/-- So many more operations of the head, in whatever order; each leaves a world that meets S; what is left behind them meets L. -/
def HeadH (P : Program) (ops : Array Oper) (Q : Exit → Act → World → Prop) (S : World → Prop) (m : Nat) (L : Array Bool → Act → World → Prop) : Nat → Array Bool → Act → World → Prop
  | 0, B, a, w => L B a w
  | f + 1, B, a, w => Region.ready .any ops B ≠ [] ∧ ∀ j, j ∈ Region.ready .any ops B → j < m ∧ wpOp P ops Q j (fun a' w' => S w' ∧ HeadH P ops Q S m L f (B.setIfInBounds j true) a' w') a w
theorem headH_any {m g : Nat} {L : Array Bool → Act → World → Prop} (hL : ∀ B a w, L B a w → wpAny P .any ops Q g B a w) (f : Nat) : ∀ (B : Array Bool) (a : Act) (w : World), HeadH P ops Q S m L f B a w → wpAny P .any ops Q (f + g) B a w := by
  induction f with
  | zero => intro B a w h; rw [Nat.zero_add]; exact hL B a w h
  | succ f ih =>
    intro B a w h
    have e : f + 1 + g = (f + g) + 1 := by omega
    rw [e]
    exact ⟨fun h0 => (h.1 h0).elim, fun j hj => wpOp_mono (fun a' w' h' => ih _ a' w' h'.2) (h.2 j hj).2⟩
theorem headH_take {m i : Nat} {oi : Oper} {v : Value} {L : Array Bool → Act → World → Prop} (F : Firsts2 ops m i oi) (hQ : ∀ c a w, Q (.panic c) (a.put oi.dst v) w → Q (.panic c) a w) (hend : ∀ B a w, L B a w → ∀ j, j ∈ Region.ready .any ops B → m ≤ j) (f : Nat) :
    ∀ (B : Array Bool) (a : Act) (w : World), HeadInv .any ops m B → (∀ j oj, ops[j]? = some oj → j ≠ i → B.getD j true = false → (∀ e ∈ oj.after, Region.binds .any e = true → e.on ≠ i) → oi.apart ops oj = true) →
      i ∈ Region.ready .any ops B → YieldsIf P ops S oi v a → S w → HeadH P ops Q S m L f (B.setIfInBounds i true) (a.put oi.dst v) w → HeadH P ops Q S m L (f + 1) B a w := by
  induction f with
  | zero =>
    intro B a w inv _ hi hy hS h
    have hun := (mem_ready.1 hi).1
    refine ⟨fun h0 => (by rw [h0] at hi; cases hi), fun j hj => ⟨F.head inv hun hj, ?_⟩⟩
    by_cases e : j = i
    · rw [e]; exact hy.wpOp F.at' hS ⟨hS, h⟩
    · have h1 := hend _ _ _ h j (ready_mono hj e)
      have h2 := F.head inv hun hj
      omega
  | succ f ih =>
    intro B a w inv hfree hi hy hS h
    have hun := (mem_ready.1 hi).1
    refine ⟨fun h0 => (by rw [h0] at hi; cases hi), fun j hj => ⟨F.head inv hun hj, ?_⟩⟩
    by_cases e : j = i
    · rw [e]; exact hy.wpOp F.at' hS ⟨hS, h⟩
    · obtain ⟨hjun, oj, hoj, hall⟩ := mem_ready.1 hj
      have hno : ∀ x ∈ oj.after, Region.binds .any x = true → x.on ≠ i := by
        intro x hx hb hxi
        have h1 := hall x hx hb
        rw [hxi, getD_both hun] at h1
        exact Bool.noConfusion h1
      have hq := wpOp_putIf hoj (hfree j oj hoj e hjun hno) (fun cs b => F.nosel i oi cs b F.at') (fun cs b => F.nosel j oj cs b hoj) hQ hy (h.2 j (ready_mono hj e)).2
      refine wpOp_mono (fun a' w' hh => ⟨hh.2.1, ?_⟩) hq
      refine ih _ a' w' (inv.set hj (F.head inv hun hj)) (fun k ok hk hki hku hkn => hfree k ok hk hki ?_ hkn) (ready_mono hi (Ne.symm e)) hh.1 hh.2.1 ?_
      · by_cases ejk : j = k
        · rw [← ejk]; exact hjun
        · rwa [getD_set_ne true ejk] at hku
      · rw [Array.setIfInBounds_comm _ _ e]
        exact hh.2.2

/-- The walk of the head in a given order: (0, i): operation i yields its value in each world that meets S; (1, i): a call; (2, i): an operation that makes memory. -/
def WalkT (P : Program) (ops : Array Oper) (S : World → Prop) (Fin : Act → World → Prop) : List (Nat × Nat) → Act → World → Prop
  | [], a, w => Fin a w
  | (0, i) :: σ, a, w => ∃ o v, ops[i]? = some o ∧ YieldsIf P ops S o v a ∧ WalkT P ops S Fin σ (a.put o.dst v) w
  | (1, i) :: σ, a, w => ∃ o f args, ops[i]? = some o ∧ Region.wanted o (yielded ops a.tmps) = true ∧ (execOp a.eval o).run P w = .ok (.enter f args) w ∧
      Calls P f args w fun e w2 => ∃ v, e = .returned v ∧ S w2 ∧ WalkT P ops S Fin σ (a.put o.dst v) w2
  | (_, i) :: σ, a, w => ∃ o v w2, ops[i]? = some o ∧ Region.wanted o (yielded ops a.tmps) = true ∧ ((execOp a.eval o).run P w = .ok (.value v) w2 ∨ ((execOp a.eval o).run P w = .ok .skip w2 ∧ v = undef)) ∧ S w2 ∧ WalkT P ops S Fin σ (a.put o.dst v) w2
theorem WalkT.fin {Fin : Act → World → Prop} {a : Act} {w : World} (h : Fin a w) : WalkT P ops S Fin [] a w := h
theorem WalkT.takes {Fin : Act → World → Prop} {σ : List (Nat × Nat)} {a : Act} {w : World} {i : Nat} {o : Oper} (ho : ops[i]? = some o) (hw : Region.wanted o (yielded ops a.tmps) = true)
    (h : ∃ v, (∀ w1, S w1 → (execOp a.eval o).run P w1 = .ok (.value v) w1) ∧ WalkT P ops S Fin σ (a.put o.dst v) w) : WalkT P ops S Fin ((0, i) :: σ) a w := by
  obtain ⟨v, hy, hn⟩ := h
  exact ⟨o, v, ho, .inl ⟨hw, hy⟩, hn⟩
theorem WalkT.calls {Fin : Act → World → Prop} {σ : List (Nat × Nat)} {a : Act} {w : World} {i : Nat} {o : Oper} (ho : ops[i]? = some o) (hw : Region.wanted o (yielded ops a.tmps) = true)
    (h : ∃ f args, (execOp a.eval o).run P w = .ok (.enter f args) w ∧ Calls P f args w fun e w2 => ∃ v, e = .returned v ∧ S w2 ∧ WalkT P ops S Fin σ (a.put o.dst v) w2) : WalkT P ops S Fin ((1, i) :: σ) a w := by
  obtain ⟨f, args, hr, hn⟩ := h
  exact ⟨o, f, args, ho, hw, hr, hn⟩
theorem WalkT.acts {Fin : Act → World → Prop} {σ : List (Nat × Nat)} {a : Act} {w w2 : World} {i : Nat} {o : Oper} {v : Value} (ho : ops[i]? = some o) (hw : Region.wanted o (yielded ops a.tmps) = true)
    (hr : (execOp a.eval o).run P w = .ok (.value v) w2) (hS : S w2) (h : WalkT P ops S Fin σ (a.put o.dst v) w2) : WalkT P ops S Fin ((2, i) :: σ) a w := ⟨o, v, w2, ho, hw, .inl hr, hS, h⟩
theorem WalkT.stores {Fin : Act → World → Prop} {σ : List (Nat × Nat)} {a : Act} {w w2 : World} {i : Nat} {o : Oper} (ho : ops[i]? = some o) (hw : Region.wanted o (yielded ops a.tmps) = true)
    (hr : (execOp a.eval o).run P w = .ok .skip w2) (hS : S w2) (h : WalkT P ops S Fin σ (a.put o.dst undef) w2) : WalkT P ops S Fin ((2, i) :: σ) a w := ⟨o, undef, w2, ho, hw, .inr ⟨hr, rfl⟩, hS, h⟩
theorem WalkT.nots {Fin : Act → World → Prop} {σ : List (Nat × Nat)} {a : Act} {w : World} {i : Nat} {o : Oper} (ho : ops[i]? = some o) (hw : Region.wanted o (yielded ops a.tmps) = false)
    (h : WalkT P ops S Fin σ (a.put o.dst undef) w) : WalkT P ops S Fin ((0, i) :: σ) a w := ⟨o, undef, ho, .inr ⟨hw, rfl⟩, h⟩

def chainT (ops : Array Oper) (g m : Nat) : List (Nat × Nat) → Array Bool → Bool
  | [], B => Region.seqB .any ops g m B
  | (0, i) :: σ, B => (Region.ready .any ops B).contains i && Region.free .any ops B i && decide (i < m) && chainT ops g m σ (B.setIfInBounds i true)
  | (_, i) :: σ, B => (Region.ready .any ops B == [i]) && decide (i < m) && chainT ops g m σ (B.setIfInBounds i true)
theorem walkT_head {m g : Nat} {Fin : Act → World → Prop} (hQ : ∀ c a d v w, Q (.panic c) (a.put d v) w → Q (.panic c) a w) (hsel : Region.noSelect ops = true) (hs : Region.sinkB .any ops m = true) (hc : laterB ops m = true) (hm : m < ops.size) :
    ∀ (σ : List (Nat × Nat)) (B : Array Bool) (a : Act) (w : World), HeadInv .any ops m B → chainT ops g m σ B = true → S w → WalkT P ops S Fin σ a w → HeadH P ops Q S m (fun B' a' w' => Region.seqB .any ops g m B' = true ∧ Fin a' w') σ.length B a w
  | [], B, a, w, _, hB, _, hW => ⟨hB, hW⟩
  | (0, i) :: σ, B, a, w, inv, hB, hS, hW => by
    simp only [chainT, Bool.and_eq_true, decide_eq_true_eq] at hB
    obtain ⟨⟨⟨hr, hf⟩, him⟩, hB'⟩ := hB
    obtain ⟨o, v, ho, hy, hw⟩ := hW
    have hr' : i ∈ Region.ready .any ops B := by simpa using hr
    exact headH_take ⟨ho, Region.noSelect_spec hsel, hs, hc, hm, him⟩ (fun c a w h => hQ c a _ _ w h) (fun B' a' w' hL => seqB_ready hL.1) σ.length B a w inv (Region.free_spec ho hf) hr' hy hS
      (walkT_head hQ hsel hs hc hm σ _ _ w (inv.set hr' him) hB' hS hw)
  | (1, i) :: σ, B, a, w, inv, hB, hS, hW => by
    simp only [chainT, Bool.and_eq_true, decide_eq_true_eq] at hB
    obtain ⟨⟨hr, him⟩, hB'⟩ := hB
    obtain ⟨o, f, args, ho, hw, hrun, hcall⟩ := hW
    have hre := eq_of_beq hr
    refine ⟨fun h0 => (by rw [hre] at h0; cases h0), fun j hj => ?_⟩
    rw [hre] at hj
    obtain rfl : j = i := by simpa using hj
    refine ⟨him, ?_⟩
    unfold wpOp
    simp only [ho]
    rw [if_pos hw]
    refine .inl ?_
    unfold Oper.wp
    rw [hrun]
    refine hcall.mono ?_
    rintro e w2 ⟨v, rfl, hS2, hw2⟩
    exact ⟨hS2, walkT_head hQ hsel hs hc hm σ _ _ w2 (inv.set (by rw [hre]; simp) him) hB' hS2 hw2⟩
  | (k + 2, i) :: σ, B, a, w, inv, hB, hS, hW => by
    simp only [chainT, Bool.and_eq_true, decide_eq_true_eq] at hB
    obtain ⟨⟨hr, him⟩, hB'⟩ := hB
    obtain ⟨o, v, w2, ho, hw, hrun, hS2, hw2⟩ := hW
    have hre := eq_of_beq hr
    refine ⟨fun h0 => (by rw [hre] at h0; cases h0), fun j hj => ?_⟩
    rw [hre] at hj
    obtain rfl : j = i := by simpa using hj
    refine ⟨him, ?_⟩
    unfold wpOp
    simp only [ho]
    rw [if_pos hw]
    refine .inl ?_
    unfold Oper.wp
    rcases hrun with hrun | ⟨hrun, rfl⟩
    · rw [hrun]
      exact ⟨hS2, walkT_head hQ hsel hs hc hm σ _ _ w2 (inv.set (by rw [hre]; simp) him) hB' hS2 hw2⟩
    · rw [hrun]
      exact ⟨hS2, walkT_head hQ hsel hs hc hm σ _ _ w2 (inv.set (by rw [hre]; simp) him) hB' hS2 hw2⟩

def tailTB (ops : Array Oper) (m : Nat) (σ : List (Nat × Nat)) : Bool :=
  Region.noSelect ops && decide (m < ops.size) && Region.sinkB .any ops m && laterB ops m && (σ.length == m) && chainT ops (ops.size - m) m σ (Array.replicate ops.size false)
theorem walkT_any {a : Act} {w : World} {l : List Oper} (m : Nat) (σ : List (Nat × Nat)) (hQ : ∀ c a d v w, Q (.panic c) (a.put d v) w → Q (.panic c) a w) (hB : tailTB l.toArray m σ = true) (hS : S w)
    (h : WalkT P l.toArray S (fun a' w' => wpList P l.toArray Q (l.drop m) a' w') σ a w) : wpAny P .any l.toArray Q l.toArray.size (Array.replicate l.toArray.size false) a w := by
  simp only [tailTB, Bool.and_eq_true, decide_eq_true_eq] at hB
  obtain ⟨⟨⟨⟨⟨hsel, hn⟩, hs⟩, hc⟩, hlen⟩, hch⟩ := hB
  have hlen' : σ.length = m := eq_of_beq hlen
  have hld : (l.drop m).length = l.toArray.size - m := by simp
  have inv : HeadInv .any l.toArray m (Array.replicate l.toArray.size false) := by
    refine ⟨by simp, fun j oj _ hl => ?_, fun t _ ht => getD_in (by simpa using ht) (getD_replicate_false _ _)⟩
    rw [getD_replicate_false] at hl
    exact Bool.noConfusion hl
  have H := walkT_head (P := P) (Q := Q) (S := S) (g := l.toArray.size - m) hQ hsel hs hc hn σ _ a w inv hch hS h
  have hfin := headH_any (Q := Q) (g := l.toArray.size - m) (fun B a' w' hL => by
    have := wpAny_of_seq (md := .any) (Q' := Q) (l.drop m) m B a' w' (fun j => by simp [List.getElem?_drop]) (by rw [hld]; exact hL.1) hL.2
    rwa [hld] at this) _ _ _ _ H
  have e : σ.length + (l.toArray.size - m) = l.toArray.size := by rw [hlen']; omega
  rw [e] at hfin
  exact hfin
theorem wp_region_walkT (S : World → Prop) {id : Nat} {a : Act} {w : World} {l : List Oper} (m : Nat) (σ : List (Nat × Nat)) (hS0 : S { w with drawn := w.drawn + 1 }) (hm : P.follows .mixedOrders = true) (hQ : ∀ c a d v w, Q (.panic c) (a.put d v) w → Q (.panic c) a w)
    (hB : tailTB l.toArray m σ = true) (h : WalkT P l.toArray S (fun a' w' => wpList P l.toArray Q (l.drop m) a' w') σ a { w with drawn := w.drawn + 1 }) : (Code.region id l.toArray true).wp P Q a w :=
  wp_region_any hm (walkT_any m σ hQ hB hS0 h)
theorem wpIn_region_walkT (S : World → Prop) {r id : Nat} {a : Act} {w : World} {l : List Oper} (m : Nat) (σ : List (Nat × Nat)) (hlo : ¬ LetsOut Q) (hS0 : S { w with drawn := w.drawn + 1 }) (hm : P.follows .mixedOrders = true) (hQ : ∀ c a d v w, Q (.panic c) (a.put d v) w → Q (.panic c) a w)
    (hB : (tailTB l.toArray m σ && noDefer l.toArray) = true) (h : WalkT P l.toArray S (fun a' w' => wpList P l.toArray Q (l.drop m) a' w') σ a { w with drawn := w.drawn + 1 }) : (Code.region id l.toArray true).wpIn (Fence.wide.inRound r) 0 P Q a w := by
  rw [Bool.and_eq_true] at hB
  exact wpIn_region_any hm (wpAny_round hB.2 hlo _ _ _ _ (walkT_any m σ hQ hB.1 hS0 h))
end
end Go.Proofs.Ytpdkgnfblnblbaa
