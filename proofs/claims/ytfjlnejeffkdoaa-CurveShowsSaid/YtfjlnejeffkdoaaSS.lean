/- A region that draws its order, of reads, two new blocks that may come in either order, and a tail: one walk in a given order serves every order. No condition. -/
import Derived.Test.YtfjlnejeffkdoaaR
namespace Go.Proofs.Ytfjlnejeffkdoaa
open Go.RowKit

section
variable {P : Program} {ops : Array Oper} {Q : Exit → Act → World → Prop}

def twoB (ops : Array Oper) (i j : Nat) (τ : List Nat) : List (Bool × Nat) → Array Bool → Bool
  | [], L => (Region.ready .any ops L == [i, j]) && (Region.ready .any ops (setL L i) == [j]) && (Region.ready .any ops (setL L j) == [i]) && tailB ops τ (setL (setL L i) j)
  | (false, k) :: σ, L => (Region.free .any ops L k) && ((Region.ready .any ops L).contains k) && twoB ops i j τ σ (setL L k)
  | (true, _) :: _, _ => false

/-- What follows where the two blocks have been made. -/
def Two (P : Program) (ops : Array Oper) (Q : Exit → Act → World → Prop) (S : World → Prop) (p q : Tmp) (O1 O2 : Obj) (τ : List Nat) (a' : Act) (w' : World) : Prop :=
  ∀ w2 b1 b2, S w2 → Below w'.heap.size w' w2 → w'.heap.size ≤ b1 → w'.heap.size ≤ b2 → b1 ≠ b2 → w2.heap[b1]? = some O1 → w2.heap[b2]? = some O2 →
    Tail P ops S Q τ ((a'.put (some p) (.pointer (some ⟨b1, 0, none⟩))).put (some q) (.pointer (some ⟨b2, 0, none⟩))) w2

theorem walk_two {S : World → Prop} (hSg : ∀ w w', S w → Below w.heap.size w w' → S w') (hs : Region.noSelect ops = true) (hQ : ∀ c a d v w, Q (.panic c) (a.put d v) w → Q (.panic c) a w)
    {i j : Nat} {oi oj : Oper} (hi : ops[i]? = some oi) (hj : ops[j]? = some oj) {p q : Tmp} (hp : oi.dst = some p) (hq : oj.dst = some q) (hpq : p ≠ q) (hgi : oi.guard = none) (hgj : oj.guard = none) {O1 O2 : Obj}
    (hai : ∀ (a : Act) w, (execOp a.eval oi).run P w = .ok (.value (.pointer (some ⟨w.heap.size, 0, none⟩))) (w.alloc O1))
    (haj : ∀ (a : Act) w, (execOp a.eval oj).run P w = .ok (.value (.pointer (some ⟨w.heap.size, 0, none⟩))) (w.alloc O2)) (τ : List Nat) :
    ∀ (σ : List (Bool × Nat)) (L : Array Bool) (a : Act) (w : World), twoB ops i j τ σ L = true → S w →
      Walk P ops S (Two P ops Q S p q O1 O2 τ) σ a w →
      wpAnyH P .any ops Q S (σ.length + (τ.length + 1 + 1)) L a w
  | [], L, a, w, hB, hS, hW => by
    simp only [twoB, Bool.and_eq_true] at hB
    obtain ⟨⟨⟨h1, h2⟩, h3⟩, h4⟩ := hB
    have hF := hW w (Below.refl _ _)
    rw [show ([] : List (Bool × Nat)).length + (τ.length + 1 + 1) = τ.length + 1 + 1 by simp]
    have first : ∀ (k k' : Nat) (o o' : Oper) (O O' : Obj) (x x' : Tmp), ops[k]? = some o → ops[k']? = some o' → o.dst = some x → o'.dst = some x' → o.guard = none → o'.guard = none →
        (∀ (a : Act) w, (execOp a.eval o).run P w = .ok (.value (.pointer (some ⟨w.heap.size, 0, none⟩))) (w.alloc O)) →
        (∀ (a : Act) w, (execOp a.eval o').run P w = .ok (.value (.pointer (some ⟨w.heap.size, 0, none⟩))) (w.alloc O')) →
        Region.ready .any ops (setL L k) = [k'] →
        wpAnyH P .any ops Q S τ.length (setL (setL L k) k') ((a.put (some x) (.pointer (some ⟨w.heap.size, 0, none⟩))).put (some x') (.pointer (some ⟨w.heap.size + 1, 0, none⟩))) ((w.alloc O).alloc O') →
        wpOp P ops Q k (fun a' w' => S w' ∧ wpAnyH P .any ops Q S (τ.length + 1) (L.setIfInBounds k true) a' w') a w := by
      intro k k' o o' O O' x x' ho ho' hx hx' hg hg' ha ha' hr hn
      unfold wpOp
      simp only [ho]
      rw [if_pos (by simp [Region.wanted, hg])]
      refine .inl ?_
      unfold Oper.wp
      rw [ha a w]
      refine ⟨hSg _ _ hS (grow_alloc w O), ?_⟩
      rw [hx]
      refine wpAnyH_all hr (by simp) fun m hm => ?_
      obtain rfl : m = k' := by simpa using hm
      unfold wpOp
      simp only [ho']
      rw [if_pos (by simp [Region.wanted, hg'])]
      refine .inl ?_
      unfold Oper.wp
      rw [ha' _ (w.alloc O)]
      refine ⟨hSg _ _ (hSg _ _ hS (grow_alloc w O)) (grow_alloc _ O'), ?_⟩
      rw [hx']
      rw [World.size_alloc]
      exact hn
    have both : ∀ O O' : Obj, S ((w.alloc O).alloc O') ∧ Below w.heap.size w ((w.alloc O).alloc O') ∧ ((w.alloc O).alloc O').heap[w.heap.size]? = some O ∧ ((w.alloc O).alloc O').heap[w.heap.size + 1]? = some O' := fun O O' => by
      have e0 := heap_alloc_new w O
      have e1 := heap_alloc_new (w.alloc O) O'
      simp only [World.size_alloc] at e1
      refine ⟨hSg _ _ (hSg _ _ hS (grow_alloc w O)) (grow_alloc _ O'), grow_to (grow_alloc w O) (grow_alloc _ O'), ?_, e1⟩
      exact (Below.heap_alloc (w.alloc O) O' w.heap.size (by simp)).trans e0
    refine wpAnyH_all (eq_of_beq h1) (by simp) fun k hk => ?_
    have hk' : k = i ∨ k = j := by simpa using hk
    rcases hk' with rfl | rfl
    · obtain ⟨s1, s2, s3, s4⟩ := both O1 O2
      exact first k j oi oj O1 O2 p q hi hj hp hq hgi hgj hai haj (eq_of_beq h2) (tail_any τ _ _ _ h4 s1 (hF _ _ _ s1 s2 (Nat.le_refl _) (by omega) (by omega) s3 s4))
    · obtain ⟨s1, s2, s3, s4⟩ := both O2 O1
      refine first k i oj oi O2 O1 q p hj hi hq hp hgj hgi haj hai (eq_of_beq h3) ?_
      have e : setL (setL L k) i = setL (setL L i) k := by
        by_cases hik : i = k
        · rw [hik]
        · exact Array.setIfInBounds_comm _ _ (fun h => hik h.symm)
      rw [e]
      refine tail_any τ _ _ _ h4 s1 ?_
      rw [Act.put_comm a _ _ (fun d hd h => hpq (Option.some.inj (h.trans hd.symm)))]
      exact hF _ _ _ s1 s2 (by omega) (Nat.le_refl _) (by omega) s4 s3
  | (false, k) :: σ, L, a, w, hB, hS, hW => by
    simp only [twoB, Bool.and_eq_true] at hB
    obtain ⟨⟨hf, hr⟩, hB'⟩ := hB
    obtain ⟨o, v, ho, hy, hw⟩ := hW
    have ih := walk_two hSg hs hQ hi hj hp hq hpq hgi hgj hai haj τ σ (setL L k) (a.put o.dst v) w hB' hS hw
    have := wpAnyH_take (md := .any) (Q := Q) (S := S) (fuel := σ.length + (τ.length + 1 + 1)) (listed := L) (w := w) ho hs hf hr (fun c a w h => hQ c a _ _ w h) hy hS ih
    rw [show ((false, k) :: σ).length + (τ.length + 1 + 1) = σ.length + (τ.length + 1 + 1) + 1 by simp; omega]
    exact this
  | (true, _) :: _, _, _, _, hB, _, _ => by simp [twoB] at hB

/-- **THE REGION WITH TWO NEW BLOCKS.** -/
theorem wp_region_two (S : World → Prop) {id : Nat} {a : Act} {w : World} (hSg : ∀ w w', S w → Below w.heap.size w w' → S w') (hS0 : S { w with drawn := w.drawn + 1 }) (hm : P.follows .mixedOrders = true) (hQ : ∀ c a d v w, Q (.panic c) (a.put d v) w → Q (.panic c) a w)
    (i j : Nat) (oi oj : Oper) (hi : ops[i]? = some oi) (hj : ops[j]? = some oj) (p q : Tmp) (hp : oi.dst = some p) (hq : oj.dst = some q) (hpq : p ≠ q) (hgi : oi.guard = none) (hgj : oj.guard = none) (O1 O2 : Obj)
    (hai : ∀ (a : Act) w, (execOp a.eval oi).run P w = .ok (.value (.pointer (some ⟨w.heap.size, 0, none⟩))) (w.alloc O1))
    (haj : ∀ (a : Act) w, (execOp a.eval oj).run P w = .ok (.value (.pointer (some ⟨w.heap.size, 0, none⟩))) (w.alloc O2))
    (σ : List (Bool × Nat)) (τ : List Nat)
    (hB : (Region.noSelect ops && twoB ops i j τ σ (Array.replicate ops.size false) && (ops.size == σ.length + (τ.length + 1 + 1))) = true)
    (h : Walk P ops S (Two P ops Q S p q O1 O2 τ) σ a { w with drawn := w.drawn + 1 }) :
    (Code.region id ops true).wp P Q a w := by
  simp only [Bool.and_eq_true] at hB
  obtain ⟨⟨hs, hf⟩, hz⟩ := hB
  have hz' : ops.size = σ.length + (τ.length + 1 + 1) := by simpa using hz
  refine wp_region_held (S := S) hm ?_
  have := walk_two (Q := Q) (P := P) (ops := ops) hSg hs hQ hi hj hp hq hpq hgi hgj hai haj τ σ (Array.replicate ops.size false) a { w with drawn := w.drawn + 1 } hf hS0 h
  rw [← hz'] at this
  exact this
end
end Go.Proofs.Ytfjlnejeffkdoaa
