/- A drawn region whose calls may write what a predicate leaves free: one walk. No condition. -/
import Derived.Test.YtpdkgnfblnblbaaD
namespace Go.Proofs.Ytpdkgnfblnblbaa
open Go.RowKit Go.Shelf

section
variable {P : Program} {ops : Array Oper} {Q : Exit → Act → World → Prop} {S : World → Prop}

/-- The walk in a given order: (false, i): operation i yields its value in each world that meets S; (true, i): a call, whose world behind it meets S. -/
def WalkS (P : Program) (ops : Array Oper) (S : World → Prop) (Fin : Act → World → Prop) : List (Bool × Nat) → Act → World → Prop
  | [], a, w => Fin a w
  | (false, i) :: σ, a, w => ∃ o v, ops[i]? = some o ∧ YieldsIf P ops S o v a ∧ WalkS P ops S Fin σ (a.put o.dst v) w
  | (true, i) :: σ, a, w => ∃ o f args, ops[i]? = some o ∧ Region.wanted o (yielded ops a.tmps) = true ∧ (execOp a.eval o).run P w = .ok (.enter f args) w ∧
      Calls P f args w fun e w2 => ∃ v, e = .returned v ∧ S w2 ∧ WalkS P ops S Fin σ (a.put o.dst v) w2
theorem WalkS.takes {Fin : Act → World → Prop} {σ : List (Bool × Nat)} {a : Act} {w : World} {i : Nat} {o : Oper} (ho : ops[i]? = some o) (hw : Region.wanted o (yielded ops a.tmps) = true)
    (h : ∃ v, (∀ w1, S w1 → (execOp a.eval o).run P w1 = .ok (.value v) w1) ∧ WalkS P ops S Fin σ (a.put o.dst v) w) : WalkS P ops S Fin ((false, i) :: σ) a w := by
  obtain ⟨v, hy, hn⟩ := h
  exact ⟨o, v, ho, .inl ⟨hw, hy⟩, hn⟩
theorem WalkS.calls {Fin : Act → World → Prop} {σ : List (Bool × Nat)} {a : Act} {w : World} {i : Nat} {o : Oper} (ho : ops[i]? = some o) (hw : Region.wanted o (yielded ops a.tmps) = true)
    (h : ∃ f args, (execOp a.eval o).run P w = .ok (.enter f args) w ∧ Calls P f args w fun e w2 => ∃ v, e = .returned v ∧ S w2 ∧ WalkS P ops S Fin σ (a.put o.dst v) w2) : WalkS P ops S Fin ((true, i) :: σ) a w := by
  obtain ⟨f, args, hr, hn⟩ := h
  exact ⟨o, f, args, ho, hw, hr, hn⟩

theorem WalkS.fin {Fin : Act → World → Prop} {a : Act} {w : World} (h : Fin a w) : WalkS P ops S Fin [] a w := h
theorem walkS_any (hs : Region.noSelect ops = true) (hQ : ∀ c a d v w, Q (.panic c) (a.put d v) w → Q (.panic c) a w) :
    ∀ (σ : List (Bool × Nat)) (L : Array Bool) (a : Act) (w : World), chainB ops [] σ L = true → S w → WalkS P ops S (fun a' w' => Q .normal a' w') σ a w → wpAnyH P .any ops Q S σ.length L a w
  | [], L, a, w, hB, hS, hW => by
    simp only [chainB, tailB] at hB
    exact wpAnyH_done (by simpa using hB) hW _
  | (false, i) :: σ, L, a, w, hB, hS, hW => by
    simp only [chainB, Bool.and_eq_true] at hB
    obtain ⟨⟨hf, hr⟩, hB'⟩ := hB
    obtain ⟨o, v, ho, hy, hw⟩ := hW
    have ih := walkS_any hs hQ σ (setL L i) (a.put o.dst v) w hB' hS hw
    exact wpAnyH_take (md := .any) (Q := Q) (S := S) (fuel := σ.length) (listed := L) (w := w) ho hs hf hr (fun c a w h => hQ c a _ _ w h) hy hS ih
  | (true, i) :: σ, L, a, w, hB, hS, hW => by
    simp only [chainB, Bool.and_eq_true] at hB
    obtain ⟨hr, hB'⟩ := hB
    obtain ⟨o, f, args, ho, hw, hrun, hc⟩ := hW
    rw [show ((true, i) :: σ).length = σ.length + 1 from rfl]
    refine wpAnyH_all (eq_of_beq hr) (by simp) fun j hj => ?_
    obtain rfl : j = i := by simpa using hj
    unfold wpOp
    simp only [ho]
    rw [if_pos hw]
    refine .inl ?_
    unfold Oper.wp
    rw [hrun]
    refine hc.mono ?_
    rintro e w2 ⟨v, rfl, hS2, hw2⟩
    exact ⟨hS2, walkS_any hs hQ σ (setL L j) (a.put o.dst v) w2 hB' hS2 hw2⟩
theorem wp_region_walkS (S : World → Prop) {id : Nat} {a : Act} {w : World} (hS0 : S { w with drawn := w.drawn + 1 }) (hm : P.follows .mixedOrders = true) (hQ : ∀ c a d v w, Q (.panic c) (a.put d v) w → Q (.panic c) a w) (σ : List (Bool × Nat))
    (hB : (Region.noSelect ops && chainB ops [] σ (Array.replicate ops.size false) && (ops.size == σ.length)) = true)
    (h : WalkS P ops S (fun a' w' => Q .normal a' w') σ a { w with drawn := w.drawn + 1 }) : (Code.region id ops true).wp P Q a w := by
  simp only [Bool.and_eq_true] at hB
  obtain ⟨⟨hs, hf⟩, hz⟩ := hB
  have hz' : ops.size = σ.length := by simpa using hz
  refine wp_region_held (S := S) hm ?_
  have := walkS_any (Q := Q) (P := P) (ops := ops) hs hQ σ (Array.replicate ops.size false) a { w with drawn := w.drawn + 1 } hf hS0 h
  rw [← hz'] at this
  exact this
end
end Go.Proofs.Ytpdkgnfblnblbaa
