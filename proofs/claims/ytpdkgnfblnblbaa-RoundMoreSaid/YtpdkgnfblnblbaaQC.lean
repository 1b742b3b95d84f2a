/- A drawn region whose head only reads or makes memory of its own, then one call that may write, then operations that only read: one walk. No condition. -/
import Derived.Test.YtpdkgnfblnblbaaQT
namespace Go.Proofs.Ytpdkgnfblnblbaa
open Go.RowKit

section
variable {P : Program} {ops : Array Oper} {C : World → Prop}

/-- Each operation behind number m waits for one from m on. -/
def laterB (ops : Array Oper) (m : Nat) : Bool := (List.range ops.size).all fun t => decide (t ≤ m) || (List.range t).any fun j => decide (m ≤ j) && Region.waitsFor .any ops t j
def headB (ops : Array Oper) (fin : Array Bool → Bool) : Nat → Nat → Array Bool → Bool
  | 0, _, B => fin B
  | f + 1, k, B => (Region.ready .any ops B).contains k && Region.free .any ops B k && headB ops fin f (k + 1) (B.setIfInBounds k true)

theorem sink_waits {m : Nat} (hs : Region.sinkB .any ops m = true) (hm : m < ops.size) {B : Array Bool} (inv : HeadInv .any ops m B) : ∀ (d i : Nat), m - i = d → i < m → B.getD i true = false → m ∉ Region.ready .any ops B := by
  intro d
  induction d using Nat.strongRecOn with
  | _ d ih =>
    intro i hd hi hun hr
    obtain ⟨_, om, hom, hall⟩ := mem_ready.1 hr
    obtain ⟨j, hj, hj2⟩ := List.any_eq_true.1 (List.all_eq_true.1 hs i (List.mem_range.2 hi))
    rw [Bool.and_eq_true, decide_eq_true_eq] at hj2
    obtain ⟨oj, hoj, x, hx, hb, hon⟩ := Region.waitsFor_spec hj2.2
    have hjm : j ≤ m := Nat.lt_succ_iff.1 (List.mem_range.1 hj)
    by_cases e : j = m
    · subst e
      obtain rfl : oj = om := by rw [hoj] at hom; exact Option.some.inj hom
      have h2 := hall x hx hb
      rw [hon, getD_both hun] at h2
      exact Bool.noConfusion h2
    · cases hl : B.getD j false with
      | true =>
        have h2 := inv.closed j oj hoj hl x hx hb
        rw [hon, getD_both hun] at h2
        exact Bool.noConfusion h2
      | false => exact ih (m - j) (by omega) j rfl (by omega) (getD_in (by rw [inv.size]; omega) hl) hr

/-- The law's side conditions for one operation of the head. -/
structure Firsts2 (ops : Array Oper) (m : Nat) (i : Nat) (oi : Oper) : Prop where
  at' : ops[i]? = some oi
  nosel : ∀ (j : Nat) (o : Oper) cs b, ops[j]? = some o → o.op ≠ .select cs b
  sink : Region.sinkB .any ops m = true
  later : laterB ops m = true
  mlt : m < ops.size
  ilt : i < m
theorem Firsts2.head {m i : Nat} {oi : Oper} (F : Firsts2 ops m i oi) {B : Array Bool} (inv : HeadInv .any ops m B) (hun : B.getD i true = false) {j : Nat} (hj : j ∈ Region.ready .any ops B) : j < m := by
  by_cases h : j < m
  · exact h
  · by_cases e : j = m
    · subst e
      exact absurd hj (sink_waits F.sink F.mlt inv _ i rfl F.ilt hun)
    · obtain ⟨_, oj, hoj, hall⟩ := mem_ready.1 hj
      have hjs : j < ops.size := (Array.getElem?_eq_some_iff.1 hoj).1
      have h1 := List.all_eq_true.1 F.later j (List.mem_range.2 hjs)
      rw [Bool.or_eq_true, decide_eq_true_eq] at h1
      rcases h1 with h1 | h1
      · omega
      · obtain ⟨t, ht, ht2⟩ := List.any_eq_true.1 h1
        rw [Bool.and_eq_true, decide_eq_true_eq] at ht2
        obtain ⟨o', ho', x, hx, hb, hon⟩ := Region.waitsFor_spec ht2.2
        obtain rfl : o' = oj := by rw [ho'] at hoj; exact Option.some.inj hoj
        have h2 := hall x hx hb
        have h3 := inv.tail t ht2.1 (by have := List.mem_range.1 ht; omega)
        rw [hon, getD_both h3] at h2
        exact Bool.noConfusion h2
theorem ahead_take2 {m i : Nat} {oi : Oper} {v : Value} {L : Array Bool → Act → Prop} (F : Firsts2 ops m i oi) (hend : ∀ B a, L B a → ∀ j, j ∈ Region.ready .any ops B → m ≤ j) (f : Nat) :
    ∀ (B : Array Bool) (a : Act), HeadInv .any ops m B → (∀ j oj, ops[j]? = some oj → j ≠ i → B.getD j true = false → (∀ e ∈ oj.after, Region.binds .any e = true → e.on ≠ i) → oi.apart ops oj = true) →
      i ∈ Region.ready .any ops B → YieldsIn P ops C oi v a → Ahead P ops C m L f (B.setIfInBounds i true) (a.put oi.dst v) → Ahead P ops C m L (f + 1) B a := by
  induction f with
  | zero =>
    intro B a inv _ hi hy h
    have hun := (mem_ready.1 hi).1
    refine ⟨fun h0 => (by rw [h0] at hi; cases hi), fun j hj => ⟨F.head inv hun hj, ?_⟩⟩
    by_cases e : j = i
    · rw [e]; exact hy.qOp F.at' h
    · have h1 := hend _ _ h j (ready_mono hj e)
      have h2 := F.head inv hun hj
      omega
  | succ f ih =>
    intro B a inv hfree hi hy h
    have hun := (mem_ready.1 hi).1
    refine ⟨fun h0 => (by rw [h0] at hi; cases hi), fun j hj => ⟨F.head inv hun hj, ?_⟩⟩
    by_cases e : j = i
    · rw [e]; exact hy.qOp F.at' h
    · obtain ⟨hjun, oj, hoj, hall⟩ := mem_ready.1 hj
      have hno : ∀ x ∈ oj.after, Region.binds .any x = true → x.on ≠ i := by
        intro x hx hb hxi
        have h1 := hall x hx hb
        rw [hxi, getD_both hun] at h1
        exact Bool.noConfusion h1
      have hq := qOp_put hoj (hfree j oj hoj e hjun hno) (fun cs b => F.nosel i oi cs b F.at') (fun cs b => F.nosel j oj cs b hoj) hy (h.2 j (ready_mono hj e)).2
      refine qOp_mono (fun a' hh => ?_) hq
      refine ih _ a' (inv.set hj (F.head inv hun hj)) (fun k ok hk hki hku hkn => hfree k ok hk hki ?_ hkn) (ready_mono hi (Ne.symm e)) hh.1 ?_
      · by_cases ejk : j = k
        · rw [← ejk]; exact hjun
        · rwa [getD_set_ne true ejk] at hku
      · rw [Array.setIfInBounds_comm _ _ e]
        exact hh.2
theorem ahead_walk2 {m : Nat} {K : Act → Prop} {fin : Array Bool → Bool} (hfin : ∀ B, fin B = true → Region.ready .any ops B = [m]) (hsel : Region.noSelect ops = true) (hs : Region.sinkB .any ops m = true) (hc : laterB ops m = true) (hm : m < ops.size) (l : List Oper) :
    ∀ (k : Nat) (B : Array Bool) (a : Act), (∀ j, j < l.length → l[j]? = ops[k + j]?) → k + l.length = m → HeadInv .any ops m B → headB ops fin l.length k B = true → wpQuiet P ops C K l a →
      Ahead P ops C m (fun B' a' => fin B' = true ∧ K a') l.length B a := by
  induction l with
  | nil =>
    intro k B a _ hk _ hB h
    exact ⟨by simpa [headB] using hB, h⟩
  | cons o l ih =>
    intro k B a hl hk inv hB h
    have h0 : ops[k]? = some o := by simpa using (hl 0 (by simp)).symm
    simp only [List.length_cons, headB, Bool.and_eq_true] at hB hk
    have hr : k ∈ Region.ready .any ops B := by simpa using hB.1.1
    have hq : qOp P ops C k (wpQuiet P ops C K l) a := by
      unfold qOp
      rw [h0]
      exact h
    obtain ⟨v, hy, hK⟩ := yieldsIn_of_qOp h0 hq
    have hkm : k < m := by omega
    refine ahead_take2 ⟨h0, Region.noSelect_spec hsel, hs, hc, hm, hkm⟩ (fun B' a' hL j hj => by rw [hfin B' hL.1] at hj; simp at hj; omega) l.length B a inv (Region.free_spec h0 hB.1.2) hr hy ?_
    refine ih (k + 1) _ _ (fun j hj => ?_) (by omega) (inv.set hr hkm) hB.2 hK
    have := hl (j + 1) (by simp; omega)
    simpa [Nat.add_assoc, Nat.add_comm 1 j] using this

/-- The call, and what comes behind it. -/
def CallThen (P : Program) (ops : Array Oper) (Q : Exit → Act → World → Prop) (m : Nat) (rest : List Oper) (a : Act) (w : World) : Prop :=
  ∃ o f args, ops[m]? = some o ∧ Region.wanted o (yielded ops a.tmps) = true ∧ (execOp a.eval o).run P w = .ok (.enter f args) w ∧
    Calls P f args w fun e w2 => ∃ v, e = .returned v ∧ wpQuiet P ops (fun w' => w' = w2) (fun a' => Q .normal a' w2) rest (a.put o.dst v)
def finB (ops : Array Oper) (m : Nat) (B : Array Bool) : Bool := decide (Region.ready .any ops B = [m]) && Region.lexFrom .any ops (ops.size - (m + 1)) (m + 1) (B.setIfInBounds m true)
def callB (ops : Array Oper) (m : Nat) : Bool :=
  Region.noSelect ops && decide (m < ops.size) && Region.sinkB .any ops m && laterB ops m && headB ops (finB ops m) m 0 (Array.replicate ops.size false)

theorem wp_region_quiet_call {id : Nat} {Q : Exit → Act → World → Prop} {a : Act} {w : World} {l : List Oper} (m : Nat) (hm : P.follows .mixedOrders = true) (hB : callB l.toArray m = true) (hC : C { w with drawn := w.drawn + 1 })
    (h : wpQuiet P l.toArray C (fun a' => ∀ w', C w' → CallThen P l.toArray Q m (l.drop (m + 1)) a' w') (l.take m) a) : (Code.region id l.toArray true).wp P Q a w := by
  simp only [callB, Bool.and_eq_true, decide_eq_true_eq] at hB
  obtain ⟨⟨⟨⟨hsel, hn⟩, hs⟩, hc⟩, hlex⟩ := hB
  have hn2 : m < l.length := by simpa using hn
  have hlt : (l.take m).length = m := by rw [List.length_take]; omega
  have hld : (l.drop (m + 1)).length = l.toArray.size - (m + 1) := by simp
  have inv : HeadInv .any l.toArray m (Array.replicate l.toArray.size false) := by
    refine ⟨by simp, fun j oj _ hl => ?_, fun t _ ht => getD_in (by simpa using ht) (getD_replicate_false _ _)⟩
    rw [getD_replicate_false] at hl
    exact Bool.noConfusion hl
  have hfin : ∀ B, finB l.toArray m B = true → Region.ready .any l.toArray B = [m] := fun B hB => by
    simp only [finB, Bool.and_eq_true, decide_eq_true_eq] at hB
    exact hB.1
  have H := ahead_walk2 (P := P) (C := C) (K := fun a' => ∀ w', C w' → CallThen P l.toArray Q m (l.drop (m + 1)) a' w') hfin hsel hs hc hn (l.take m) 0 (Array.replicate l.toArray.size false) a (fun j hj => by
    have : j < m := by omega
    simp [this]) (by omega) inv (by rw [hlt]; exact hlex) h
  refine wp_region_any hm ?_
  have hend := ahead_any (Q := Q) (g := l.toArray.size - (m + 1) + 1) (fun B a' w' hw hL => by
    obtain ⟨hb, hk⟩ := hL
    obtain ⟨o, f, args, ho, hwant, hrun, hcall⟩ := hk w' hw
    simp only [finB, Bool.and_eq_true, decide_eq_true_eq] at hb
    refine ⟨fun h0 => (by rw [hb.1] at h0; cases h0), fun j hj => ?_⟩
    rw [hb.1] at hj
    obtain rfl : j = m := by simpa using hj
    unfold wpOp
    rw [ho]
    simp only
    rw [if_pos hwant]
    refine .inl ?_
    unfold Oper.wp
    rw [hrun]
    refine hcall.mono ?_
    rintro e w2 ⟨v, rfl, hq⟩
    have h3 := wpAnyQ_lex (C := fun w' => w' = w2) (md := .any) hsel (l.drop (j + 1)) (j + 1) (B.setIfInBounds j true) (a'.put o.dst v) (fun i => by simp [List.getElem?_drop]) (by rw [hld]; exact hb.2) hq
    rw [hld] at h3
    exact wpAny_of_quiet (C := fun w' => w' = w2) (Q := fun a' => Q .normal a' w2) (fun a w hw h => by cases hw; exact h) _ _ _ _ rfl h3) _ _ _ _ hC H
  have e : (l.take m).length + (l.toArray.size - (m + 1) + 1) = l.toArray.size := by rw [hlt]; simp; omega
  rw [e] at hend
  exact hend

open Go.Sort in
theorem wp_region_below_call {id : Nat} {Q : Exit → Act → World → Prop} {a : Act} {w : World} {l : List Oper} (m : Nat) (hm : P.follows .mixedOrders = true) (hB : callB l.toArray m = true)
    (h : wpQuiet P l.toArray (fun w' => ∃ p : Regrown, w' = grow (redrawn w p.d) p.os) (fun a' => ∀ w', (∃ p : Regrown, w' = grow (redrawn w p.d) p.os) → CallThen P l.toArray Q m (l.drop (m + 1)) a' w') (l.take m) a) : (Code.region id l.toArray true).wp P Q a w :=
  wp_region_quiet_call (C := fun w' => ∃ p : Regrown, w' = grow (redrawn w p.d) p.os) m hm hB ⟨⟨w.drawn + 1, #[]⟩, by rw [grow_empty]; rfl⟩ h
end
end Go.Proofs.Ytpdkgnfblnblbaa
