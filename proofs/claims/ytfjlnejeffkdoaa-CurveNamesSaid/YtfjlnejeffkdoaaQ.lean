/- A range over a function whose iterator keeps state of its own in memory while the loop's body runs: the body touches the blocks of T and new ones alone. No condition. -/
import Derived.RangeFuncNested
import Derived.RangeFuncBound
import Derived.RangeFuncCalls
import Derived.RangeFuncLeaves
import Derived.WalkKit
namespace Go.Proofs.Ytfjlnejeffkdoaa
open Go.RowKit

/-- W' is W but for the blocks of T and new ones. -/
structure But (T : Nat → Prop) (W W' : World) : Prop where
  os : W'.os = W.os
  tape : W'.tape = W.tape
  output : W'.output = W.output
  size : W.heap.size ≤ W'.heap.size
  block : ∀ k, k < W.heap.size → ¬ T k → W'.heap[k]? = W.heap[k]?

theorem But.refl (T : Nat → Prop) (W : World) : But T W W := ⟨rfl, rfl, rfl, Nat.le_refl _, fun _ _ _ => rfl⟩
theorem But.trans {T : Nat → Prop} {A B C : World} (h : But T A B) (k : But T B C) : But T A C :=
  ⟨k.os.trans h.os, k.tape.trans h.tape, k.output.trans h.output, Nat.le_trans h.size k.size, fun i hi hn => (k.block i (Nat.lt_of_lt_of_le hi h.size) hn).trans (h.block i hi hn)⟩
theorem But.mono {T T' : Nat → Prop} {A B : World} (h : But T A B) (hT : ∀ k, T k → T' k) : But T' A B := ⟨h.os, h.tape, h.output, h.size, fun k hk hn => h.block k hk (fun ht => hn (hT k ht))⟩
theorem But.of_below {T : Nat → Prop} {A B : World} (h : Below A.heap.size A B) : But T A B := ⟨h.os, h.tape, h.output, h.size, fun k hk _ => h.block k hk⟩
theorem But.putObj {T : Nat → Prop} (W : World) {r : Nat} (o : Obj) (hr : T r) : But T W (W.putObj r o) :=
  ⟨rfl, rfl, rfl, by simp, fun k _ hn => World.putObj_heap_other (fun e => hn (e ▸ hr))⟩
theorem But.setCell {T : Nat → Prop} (W : World) {b j : Nat} (v : Value) (hb : T b) : But T W (W.setCell ⟨b, j, none⟩ v) :=
  ⟨rfl, rfl, rfl, by simp [World.setCell], fun k _ hn => Below.heap_setCell W ⟨b, j, none⟩ v k (fun e => hn (by rw [e]; exact hb))⟩
theorem But.cell {T : Nat → Prop} {A B : World} (h : But T A B) {b j : Nat} {v : Value} (hb : ¬ T b) (hc : A.cell? ⟨b, j, none⟩ = some v) : B.cell? ⟨b, j, none⟩ = some v :=
  (World.cell?_of_block (w := A) (h.block b (block_lt_of_cell hc) hb)).trans hc

/-- The contract of an iterator: what it does between two rounds keeps what R says, and what it does when it has been stopped what Rs says; TC is asked of T. -/
def SeqT {α : Type} (P : Program) (g : Nat) (lb : Array Value) (encs : α → Array Value) (V : α → Prop) (R Rs : (Nat → Prop) → World → World → Prop) (TC : (Nat → Prop) → World → Prop) (S Sp : List α → Prop) (w : World) : Prop :=
  ∀ (l : Nat) (T : Nat → Prop) (J Jx : List α → World → Prop) (W : World), Below w.heap.size w W → TC T W →
    (∀ s A B, J s A → R T A B → J s B) → (∀ s A B, Jx s A → Rs T A B → Jx s B) →
    (∀ pre x W1, V x → J pre W1 → But T W W1 → YieldAt Fence.wide 0 P l (encs x) W1 fun e W' =>
      (e = .returned (.bool true) ∧ J (pre ++ [x]) W' ∧ But T W1 W') ∨ (e = .returned (.bool false) ∧ Jx (pre ++ [x]) W' ∧ But T W1 W')) →
    J [] W →
    CallsIn Fence.wide 0 P g (#[.func (.yield l) #[] #[]] ++ lb) W fun e W' => (∃ v, e = .returned v) ∧ But T W W' ∧ ((∃ xs, S xs ∧ J xs W') ∨ (∃ pre, Sp pre ∧ Jx pre W'))

/-- How the body of a round is left. -/
def postT {α : Type} (T : Nat → Prop) (I : List α → World → Prop) (Ix : Code → List α → World → Prop) (xs : List α) (W : World) : Exit → Act → World → Prop
  | .normal, _, W' => But T W W' ∧ I xs W'
  | .ret, _, W' => But T W W' ∧ Ix .ret xs W'
  | .exit id, _, W' => But T W W' ∧ Ix (.exit id) xs W'
  | .goto t, _, W' => But T W W' ∧ Ix (.goto t) xs W'
  | .panic _, _, _ => False
  | .outgrown, _, _ => False

/-- T, and the two blocks of the loop's own. -/
def withLoop (T : Nat → Prop) (n : Nat) : Nat → Prop := fun k => T k ∨ k = n ∨ k = n + 1

theorem wp_rangeT {P : Program} {α : Type} {g : Operand} {ps : Array Tmp} {assign body : Code} {Q : Exit → Act → World → Prop} {a : Act} {w : World}
    {gf : Nat} {lb : Array Value} (hg : a.eval g = .func (.func gf) #[] lb) (eg : ∀ args w, (callFunc gf args).run P w = .ok (.enter gf args) w)
    {encs : α → Array Value} {V : α → Prop} {R Rs : (Nat → Prop) → World → World → Prop} {TC : (Nat → Prop) → World → Prop} {S Sp : List α → Prop} {w0 : World}
    (hseq : SeqT P gf lb encs V R Rs TC S Sp w0) (hb0 : Below w0.heap.size w0 w) (hps : ∀ x, (encs x).size = ps.size)
    (T : Nat → Prop) (hTC : ∀ W1, Below w.heap.size w W1 → w.heap.size + 2 ≤ W1.heap.size → TC (withLoop T w.heap.size) W1)
    (hTn : ¬ T w.heap.size ∧ ¬ T (w.heap.size + 1))
    (hRr : ∀ A B r, R (withLoop T w.heap.size) A B → r = w.heap.size ∨ r = w.heap.size + 1 → r < A.heap.size → B.heap[r]? = A.heap[r]?)
    (hRs : ∀ A B r, Rs (withLoop T w.heap.size) A B → r = w.heap.size ∨ r = w.heap.size + 1 → r < A.heap.size → B.heap[r]? = A.heap[r]?)
    (I : List α → World → Prop) (Ix : Code → List α → World → Prop)
    (hIR : ∀ s A B, I s A → R (withLoop T w.heap.size) A B → I s B) (hIxR : ∀ c s A B, Ix c s A → Rs (withLoop T w.heap.size) A B → Ix c s B)
    (hIg : ∀ s A B, I s A → Below A.heap.size A B → I s B)
    (hIp : ∀ s A r o, I s A → r = w.heap.size ∨ r = w.heap.size + 1 → I s (A.putObj r o)) (hIxp : ∀ c s A r o, Ix c s A → r = w.heap.size ∨ r = w.heap.size + 1 → Ix c s (A.putObj r o))
    (h0 : I [] w) (Ax : α → Act → World → Prop)
    (hAx : ∀ x a₁ A o, Ax x a₁ A → Ax x a₁ (A.putObj (w.heap.size + 1) o))
    (hassign : ∀ (l : Nat) (x : α) (W : World), V x → w.heap.size + 2 ≤ W.heap.size →
      assign.wpIn (Fence.wide.inRound l) 0 P (Exit.then (fun a₁ W₁ => Ax x a₁ W₁ ∧ Below W.heap.size W W₁) (fun _ _ _ => False)) { tmps := (ps.zip (encs x)).foldl (fun t (p, v) => t.setIfInBounds p v) a.tmps, defers := [] } W)
    (hbody : ∀ (l : Nat) (pre : List α) (x : α) (a₁ : Act) (W : World), V x → I pre W → But (withLoop T w.heap.size) w W → w.heap.size + 2 ≤ W.heap.size → Ax x a₁ W →
      body.wpIn (Fence.wide.inRound l) 0 P (postT T I Ix (pre ++ [x]) W) a₁ W)
    (hdone : ∀ (xs : List α) (W : World), S xs → I xs W → But (withLoop T w.heap.size) w W → W.heap[w.heap.size]? = some (.deferred (some [])) →
      Q .normal { a with defers := { target := .collected w.heap.size, args := #[] } :: a.defers } W)
    (hstop : ∀ (c : Code) (pre : List α) (W : World), Sp pre → Ix c pre W → But (withLoop T w.heap.size) w W → W.heap[w.heap.size]? = some (.deferred (some [])) →
      c.wpIn Fence.wide 0 P Q { a with defers := { target := .collected w.heap.size, args := #[] } :: a.defers } W) :
    (Code.rangeFunc g ps assign body).wpIn Fence.wide 0 P Q a w := by
  refine wpIn_rangeFunc fun fn hfn => ?_
  let rec' : LoopState → Option Code → Loop := fun st pe => { state := st, pending := pe, fn, tmps := a.tmps, params := ps, assign, body, defers := w.heap.size }
  obtain ⟨W1, hW1⟩ : ∃ W1, (w.alloc (.deferred (some []))).alloc (.loop (rec' .ready none)) = W1 := ⟨_, rfl⟩
  have hbw : Below w.heap.size w W1 := by rw [← hW1]; exact ((Below.refl _ w).alloc (Nat.le_refl _) _).alloc (by simp) _
  have hsz : W1.heap.size = w.heap.size + 2 := by rw [← hW1]; simp
  have hL1 : W1.heap[w.heap.size + 1]? = some (.loop (rec' .ready none)) := by
    rw [← hW1]; have := World.alloc_heap_new (w.alloc (.deferred (some []))) (.loop (rec' .ready none)); rwa [World.size_alloc] at this
  have hK1 : W1.heap[w.heap.size]? = some (.deferred (some [])) := by
    rw [← hW1]; exact (Below.heap_alloc _ _ _ (by simp)).trans (World.alloc_heap_new w _)
  refine ⟨w.heap.size + 1, [{ target := .collected w.heap.size, args := #[] }], W1, { target := .fn (.func gf) lb, args := #[.func (.yield (w.heap.size + 1)) #[] #[]] }, W1, gf,
    #[.func (.yield (w.heap.size + 1)) #[] #[]] ++ lb, W1, ?_, ?_, ?_, ?_, fun h => by simp [Fence.wide] at h, ?_⟩
  · rw [← hW1]; exact run_enterLoop_outer _ _ _ _ _
  · simp only [resolve, hg]; simp [go_sem]
  · intro f' _; trivial
  · simp [invoke, go_sem, eg]
  · have hkeep : ∀ {A B : World} {r : Nat} {o : Obj}, R (withLoop T w.heap.size) A B → r = w.heap.size ∨ r = w.heap.size + 1 → A.heap[r]? = some o → B.heap[r]? = some o :=
      fun hR hr h => (hRr _ _ _ hR hr (Array.getElem?_eq_some_iff.1 h).1).trans h
    have hkeeps : ∀ {A B : World} {r : Nat} {o : Obj}, Rs (withLoop T w.heap.size) A B → r = w.heap.size ∨ r = w.heap.size + 1 → A.heap[r]? = some o → B.heap[r]? = some o :=
      fun hR hr h => (hRs _ _ _ hR hr (Array.getElem?_eq_some_iff.1 h).1).trans h
    have key := hseq (w.heap.size + 1) (withLoop T w.heap.size)
      (fun pre W => I pre W ∧ W.heap[w.heap.size + 1]? = some (.loop (rec' .ready none)) ∧ W.heap[w.heap.size]? = some (.deferred (some [])))
      (fun pre W => ∃ c, Ix c pre W ∧ W.heap[w.heap.size + 1]? = some (.loop (rec' .done (some c))) ∧ W.heap[w.heap.size]? = some (.deferred (some [])))
      W1 (hb0.trans (hbw.mono hb0.size)) (hTC W1 hbw (by omega))
      (fun s A B h hR => ⟨hIR s A B h.1 hR, hkeep hR (.inr rfl) h.2.1, hkeep hR (.inl rfl) h.2.2⟩)
      (fun s A B h hR => by
        obtain ⟨c, h1, h2, h3⟩ := h
        exact ⟨c, hIxR c s A B h1 hR, hkeeps hR (.inr rfl) h2, hkeeps hR (.inl rfl) h3⟩)
      ?_ ⟨hIg [] _ _ h0 hbw, hL1, hK1⟩
    · refine CallsIn.mono key ?_
      rintro e W2 ⟨⟨v, rfl⟩, hbut, (⟨xs, hS, hi, hl, hk⟩ | ⟨pre, hSp, c, hi, hl, hk⟩)⟩
      · have hb2 : But (withLoop T w.heap.size) w W2 := (But.of_below hbw).trans hbut
        exact ⟨none, _, run_endLoop (P := P) hl (by simp [rec']), hdone xs _ hS (hIp _ _ _ _ hi (.inr rfl)) (hb2.trans (But.putObj _ _ (.inr (.inr rfl)))) ((World.putObj_heap_other (by omega)).trans hk)⟩
      · have hb2 : But (withLoop T w.heap.size) w W2 := (But.of_below hbw).trans hbut
        exact ⟨some c, _, run_endLoop (P := P) hl (by simp [rec']), hstop c pre _ hSp (hIxp _ _ _ _ _ hi (.inr rfl)) (hb2.trans (But.putObj _ _ (.inr (.inr rfl)))) ((World.putObj_heap_other (by omega)).trans hk)⟩
    · rintro pre x W hV ⟨hi, hl, hk⟩ hbut
      have hlt : w.heap.size + 1 < W.heap.size := (Array.getElem?_eq_some_iff.1 hl).1
      have hy := run_yield (P := P) (args := encs x) hl (by simp [rec', hps x])
      have hbW : But (withLoop T w.heap.size) w W := (But.of_below hbw).trans hbut
      refine ⟨fn, _, assign, body, hy, roundIn_of_wpIn hfn (wpIn_mono (hassign _ x W hV (by omega)) ?_)⟩
      rintro e a₁ W₁ h
      cases e with
      | normal =>
        obtain ⟨hax, hbA⟩ := h
        have hlA : W₁.heap[w.heap.size + 1]? = some (.loop (rec' .ready none)) := (hbA.block _ hlt).trans hl
        have hkA : W₁.heap[w.heap.size]? = some (.deferred (some [])) := (hbA.block _ (by omega)).trans hk
        have hltA : w.heap.size + 1 < W₁.heap.size := (Array.getElem?_eq_some_iff.1 hlA).1
        refine ⟨_, run_beginRound hlA rfl, ?_⟩
        have hl2 := World.putObj_heap_same (w := W₁) (o := .loop { rec' .ready none with state := .busy }) hltA
        have hk2 : (W₁.putObj (w.heap.size + 1) (.loop { rec' .ready none with state := .busy })).heap[w.heap.size]? = some (.deferred (some [])) := (World.putObj_heap_other (by omega)).trans hkA
        have hbA' : But (withLoop T w.heap.size) W (W₁.putObj (w.heap.size + 1) (.loop { rec' .ready none with state := .busy })) := (But.of_below hbA).trans (But.putObj _ _ (.inr (.inr rfl)))
        refine wpIn_mono (hbody _ pre x a₁ _ hV (hIp _ _ _ _ (hIg _ _ _ hi hbA) (.inr rfl)) (hbW.trans hbA') (by simp; omega) (hAx _ _ _ _ hax)) ?_
        have fin : ∀ (jump : Option Code) (W3 : World), But T (W₁.putObj (w.heap.size + 1) (.loop { rec' .ready none with state := .busy })) W3 →
            (Instr.endRound (w.heap.size + 1) jump).run P W3 = .ok (.bool jump.isNone) (W3.putObj (w.heap.size + 1) (.loop (rec' (if jump.isNone then .ready else .done) jump))) ∧
            (W3.putObj (w.heap.size + 1) (.loop (rec' (if jump.isNone then .ready else .done) jump))).heap[w.heap.size + 1]? = some (.loop (rec' (if jump.isNone then .ready else .done) jump)) ∧
            (W3.putObj (w.heap.size + 1) (.loop (rec' (if jump.isNone then .ready else .done) jump))).heap[w.heap.size]? = some (.deferred (some [])) ∧
            But (withLoop T w.heap.size) W (W3.putObj (w.heap.size + 1) (.loop (rec' (if jump.isNone then .ready else .done) jump))) := fun jump W3 hk3 => by
          have hl3 := (hk3.block _ (by simp; omega) hTn.2).trans hl2
          have hk3' := (hk3.block _ (by simp; omega) hTn.1).trans hk2
          exact ⟨run_endRound (P := P) jump hl3, World.putObj_heap_same (Array.getElem?_eq_some_iff.1 hl3).1, (World.putObj_heap_other (by omega)).trans hk3',
            (hbA'.trans (hk3.mono fun k h => .inl h)).trans (But.putObj _ _ (.inr (.inr rfl)))⟩
        rintro e a3 W3 hp
        cases e with
        | normal =>
          obtain ⟨hr, hl4, hk4, hb4⟩ := fin none W3 hp.1
          exact ⟨_, _, hr, .inl ⟨rfl, ⟨hIp _ _ _ _ hp.2 (.inr rfl), hl4, hk4⟩, hb4⟩⟩
        | ret =>
          obtain ⟨hr, hl4, hk4, hb4⟩ := fin (some .ret) W3 hp.1
          exact ⟨_, _, hr, .inr ⟨rfl, ⟨.ret, hIxp _ _ _ _ _ hp.2 (.inr rfl), hl4, hk4⟩, hb4⟩⟩
        | exit id =>
          obtain ⟨hr, hl4, hk4, hb4⟩ := fin (some (.exit id)) W3 hp.1
          exact ⟨_, _, hr, .inr ⟨rfl, ⟨.exit id, hIxp _ _ _ _ _ hp.2 (.inr rfl), hl4, hk4⟩, hb4⟩⟩
        | goto t =>
          obtain ⟨hr, hl4, hk4, hb4⟩ := fin (some (.goto t)) W3 hp.1
          exact ⟨_, _, hr, .inr ⟨rfl, ⟨.goto t, hIxp _ _ _ _ _ hp.2 (.inr rfl), hl4, hk4⟩, hb4⟩⟩
        | panic ch => exact hp.elim
        | outgrown => exact hp.elim
      | ret => exact h.elim
      | exit id => exact h.elim
      | goto t => exact h.elim
      | panic ch => exact h.elim
      | outgrown => exact h.elim

end Go.Proofs.Ytfjlnejeffkdoaa
