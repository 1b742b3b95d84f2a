/- A region of which two operations may come in either order behind all others that are read first, within a round of a range over a function and without. No condition. -/
import Derived.Test.YtfijaafkagcmmaaT2
namespace Go.Proofs.Ytfijaafkagcmmaa
open Go.RowKit
variable {P : Program} {ops : Array Oper} {Q : Exit → Act → World → Prop}

theorem tail_step {S : World → Prop} (τ : List Nat) (i : Nat) (L : Array Bool) (a : Act) (w : World) (hB : tailB ops τ (setL L i) = true) (hS : S w) (h : Tail P ops S Q (i :: τ) a w) :
    wpOp P ops Q i (fun a' w' => S w' ∧ wpAnyH P .any ops Q S τ.length (L.setIfInBounds i true) a' w') a w := by
  obtain ⟨o, ho, hw, h⟩ := h
  unfold wpOp
  simp only [ho]
  rw [if_pos hw]
  refine .inl ?_
  unfold Oper.wp
  rcases h with ⟨v, hr, h⟩ | ⟨w', hr, hS', h⟩ | ⟨v, w', hr, hS', h⟩
  · rw [hr]; exact ⟨hS, tail_any τ _ _ _ hB hS h⟩
  · rw [hr]; exact ⟨hS', tail_any τ _ _ _ hB hS' h⟩
  · rw [hr]; exact ⟨hS', tail_any τ _ _ _ hB hS' h⟩

/-- All of σ first, then i and j in either order. -/
def forkB (ops : Array Oper) (i j : Nat) (τ1 τ2 : List Nat) : List (Bool × Nat) → Array Bool → Bool
  | [], L => (Region.ready .any ops L == [i, j]) && tailB ops τ1 (setL L i) && tailB ops τ2 (setL L j) && (τ1.length == τ2.length)
  | (false, k) :: σ, L => (Region.free .any ops L k) && ((Region.ready .any ops L).contains k) && forkB ops i j τ1 τ2 σ (setL L k)
  | (true, _) :: _, _ => false

theorem walk_fork {S : World → Prop} (hs : Region.noSelect ops = true) (hQ : ∀ c a d v w, Q (.panic c) (a.put d v) w → Q (.panic c) a w) (i j : Nat) (τ1 τ2 : List Nat) :
    ∀ (σ : List (Bool × Nat)) (L : Array Bool) (a : Act) (w : World), forkB ops i j τ1 τ2 σ L = true → S w →
      Walk P ops S (fun a' w' => S w' → Tail P ops S Q (i :: τ1) a' w' ∧ Tail P ops S Q (j :: τ2) a' w') σ a w →
      wpAnyH P .any ops Q S (σ.length + τ1.length + 1) L a w
  | [], L, a, w, hB, hS, hW => by
    simp only [forkB, Bool.and_eq_true] at hB
    obtain ⟨⟨⟨hr, h1⟩, h2⟩, h3⟩ := hB
    obtain ⟨t1, t2⟩ := hW w (Below.refl _ _) hS
    have hl : τ1.length = τ2.length := by simpa using h3
    rw [show ([] : List (Bool × Nat)).length + τ1.length + 1 = τ1.length + 1 by simp]
    refine wpAnyH_all (eq_of_beq hr) (by simp) fun k hk => ?_
    rcases (by simpa using hk : k = i ∨ k = j) with rfl | rfl
    · exact tail_step τ1 k L a w h1 hS t1
    · rw [hl]; exact tail_step τ2 k L a w h2 hS t2
  | (false, k) :: σ, L, a, w, hB, hS, hW => by
    simp only [forkB, Bool.and_eq_true] at hB
    obtain ⟨⟨hf, hr⟩, hB'⟩ := hB
    obtain ⟨o, v, ho, hy, hw⟩ := hW
    have ih := walk_fork hs hQ i j τ1 τ2 σ (setL L k) (a.put o.dst v) w hB' hS hw
    have := wpAnyH_take (md := .any) (Q := Q) (S := S) (fuel := σ.length + τ1.length + 1) (listed := L) (w := w) ho hs hf hr (fun c a w h => hQ c a _ _ w h) hy hS ih
    rw [show ((false, k) :: σ).length + τ1.length + 1 = σ.length + τ1.length + 1 + 1 by simp; omega]
    exact this
  | (true, _) :: _, _, _, _, hB, _, _ => by simp [forkB] at hB

theorem wpIn_region_fork_round {l : Nat} (S : World → Prop) {id : Nat} {a : Act} {w : World} (hlo : ¬ LetsOut Q) (hS0 : S { w with drawn := w.drawn + 1 }) (hm : P.follows .mixedOrders = true) (hQ : ∀ c a d v w, Q (.panic c) (a.put d v) w → Q (.panic c) a w)
    (σ : List (Bool × Nat)) (i j : Nat) (τ1 τ2 : List Nat)
    (hB : (Region.noSelect ops && forkB ops i j τ1 τ2 σ (Array.replicate ops.size false) && (ops.size == σ.length + τ1.length + 1) && noDefer ops) = true)
    (h : Walk P ops S (fun a' w' => S w' → Tail P ops S Q (i :: τ1) a' w' ∧ Tail P ops S Q (j :: τ2) a' w') σ a { w with drawn := w.drawn + 1 }) :
    (Code.region id ops true).wpIn (Fence.wide.inRound l) 0 P Q a w := by
  simp only [Bool.and_eq_true] at hB
  obtain ⟨⟨⟨hs, hf⟩, hz⟩, hd⟩ := hB
  have hz' : ops.size = σ.length + τ1.length + 1 := by simpa using hz
  refine wpIn_region_any hm (wpAny_round hd hlo _ _ _ _ (wpAny_of_held (S := S) _ _ _ _ ?_))
  have := walk_fork (Q := Q) (P := P) (ops := ops) hs hQ i j τ1 τ2 σ (Array.replicate ops.size false) a { w with drawn := w.drawn + 1 } hf hS0 h
  rw [← hz'] at this
  exact this
/-- Only the normal way out is left. -/
theorem wpIn_region_only {F : Fence} {n' id : Nat} {a : Act} {w : World} {o : Array Oper} {m : Bool}
    (h : (Code.region id o m).wpIn F n' P (Exit.then (fun a w => Q .normal a w) (fun _ _ _ => False)) a w) : (Code.region id o m).wpIn F n' P Q a w :=
  wpIn_mono h fun e a w hh => by
    cases e with
    | normal => exact hh
    | _ => exact hh.elim
end Go.Proofs.Ytfijaafkagcmmaa
