/- A region whose operands are drawn in a free order, within a round of a range over a function. No condition. -/
import Derived.Test.YtpdkgnfblnblbaaR
import Derived.RangeFuncCalls
import Derived.OrdersIn
import Derived.OwnWalkIn
namespace Go.Proofs.Ytpdkgnfblnblbaa
open Go.RowKit
variable {P : Program} {ops : Array Oper} {Q : Exit → Act → World → Prop}

theorem Oper.wpIn_round_of {l : Nat} {o : Oper} {a : Act} {w : World} {K : Act → World → Prop} (hd : ∀ c, o.op ≠ .defer c) (h : o.wp P a w K Q) : o.wpIn (Fence.wide.inRound l) 0 P a w K Q := by
  refine ⟨fun _ _ => trivial, ?_⟩
  rw [Oper.semAt_plain _ _ _ hd]
  unfold Oper.wp at h
  generalize (execOp a.eval o).run P w = x at *
  cases x with
  | ok n w' =>
    cases n with
    | value v => exact h
    | skip => exact h
    | defer d => exact h
    | enter f args => exact ⟨fun h0 => by simp [Fence.inRound, Fence.wide] at h0, CallsIn.inRound l (callsIn_wide.2 h)⟩
    | row r args => exact ⟨fun h0 => by simp [Fence.inRound, Fence.wide] at h0, fun c cs _ => let ⟨v, w2, r, s⟩ := h c cs; ⟨v, w2, r, stepsIn_wide.2 s⟩⟩
    | _ => exact h.elim
  | halt x w' => cases x <;> exact h

def noDefer (ops : Array Oper) : Bool := ops.all fun o => match o.op with
  | .defer _ => false
  | _ => true
theorem noDefer_at (h : noDefer ops = true) {i : Nat} {o : Oper} (ho : ops[i]? = some o) : ∀ c, o.op ≠ .defer c := fun c hc => by
  obtain ⟨hi, he⟩ := Array.getElem?_eq_some_iff.1 ho
  have := (Array.all_eq_true.1 h) i hi
  rw [he, hc] at this
  cases this

theorem wpAny_round {l : Nat} {md : Region.Mode} (hd : noDefer ops = true) (hlo : ¬ LetsOut Q) : ∀ (fuel : Nat) (L : Array Bool) (a : Act) (w : World), wpAny P md ops Q fuel L a w → wpAnyIn (Fence.wide.inRound l) 0 P md ops Q fuel L a w
  | 0, _, _, _, h => h
  | fuel + 1, L, a, w, h => ⟨h.1, fun i hi => by
      have h2 := h.2 i hi
      unfold wpOp at h2
      unfold wpOpIn
      cases ho : ops[i]? with
      | none =>
        simp only [ho] at h2
        exact wpAny_round hd hlo fuel _ a w h2
      | some o =>
        simp only [ho] at h2 ⊢
        split at h2
        · rename_i hw
          rw [if_pos hw]
          refine Oper.wpIn_round_of (noDefer_at hd ho) ?_
          rcases h2 with h2 | ⟨_, h2⟩
          · exact Oper.wp_mono (fun a w h => wpAny_round hd hlo fuel _ a w h) h2
          · exact absurd h2 hlo
        · rename_i hw
          rw [if_neg hw]
          exact ⟨fun _ _ => trivial, wpAny_round hd hlo fuel _ _ w h2⟩⟩

/-- **THE REGION WITHOUT A FLOATING BLOCK, IN A ROUND.** -/
theorem wpIn_region_chain_round {l : Nat} (S : World → Prop) {id : Nat} {a : Act} {w : World} (hlo : ¬ LetsOut Q) (hSg : ∀ w w', S w → Below w.heap.size w w' → S w') (hS0 : S { w with drawn := w.drawn + 1 }) (hm : P.follows .mixedOrders = true) (hQ : ∀ c a d v w, Q (.panic c) (a.put d v) w → Q (.panic c) a w)
    (σ : List (Bool × Nat)) (τ : List Nat)
    (hB : (Region.noSelect ops && chainB ops τ σ (Array.replicate ops.size false) && (ops.size == σ.length + τ.length) && noDefer ops) = true)
    (h : Walk P ops S (fun a' w' => S w' → Tail P ops S Q τ a' w') σ a { w with drawn := w.drawn + 1 }) :
    (Code.region id ops true).wpIn (Fence.wide.inRound l) 0 P Q a w := by
  simp only [Bool.and_eq_true] at hB
  obtain ⟨⟨⟨hs, hf⟩, hz⟩, hd⟩ := hB
  have hz' : ops.size = σ.length + τ.length := by simpa using hz
  refine wpIn_region_any hm (wpAny_round hd hlo _ _ _ _ (wpAny_of_held (S := S) _ _ _ _ ?_))
  have := walk_plain (Q := Q) (P := P) (ops := ops) hSg hs hQ τ σ (Array.replicate ops.size false) a { w with drawn := w.drawn + 1 } hf hS0 h
  rw [← hz'] at this
  exact this
/-- A way out by a panic, and one that is outgrown, are struck. -/
theorem wpIn_region_noPanic {F : Fence} {n' id : Nat} {a : Act} {w : World} {o : Array Oper} {m : Bool} {K : Act → World → Prop}
    (h : (Code.region id o m).wpIn F n' P (Exit.then K (fun _ _ _ => False)) a w) : (Code.region id o m).wpIn F n' P (Exit.then K Q) a w :=
  wpIn_mono h fun e a w hh => by
    cases e with
    | normal => exact hh
    | _ => exact hh.elim
end Go.Proofs.Ytpdkgnfblnblbaa
