/- A range over a function whose iterator keeps state of its own, and whose body keeps blocks that it makes: what the body has made stays as it is while the iterator goes on. No condition. -/
import Derived.RangeFuncNested
import Derived.RangeFuncBound
import Derived.RangeFuncCalls
import Derived.RangeFuncLeaves
import Derived.WalkKit
namespace Go.Proofs.Ytpdkgnfblnblbaa
open Go.RowKit

/-- W' is W but for the blocks of T and new ones. -/
structure But (T : Nat → Prop) (W W' : World) : Prop where
  os : W'.os = W.os
  tape : W'.tape = W.tape
  output : W'.output = W.output
  size : W.heap.size ≤ W'.heap.size
  block : ∀ k, k < W.heap.size → ¬ T k → W'.heap[k]? = W.heap[k]?

theorem But.refl (T : Nat → Prop) (W : World) : But T W W := ⟨rfl, rfl, rfl, Nat.le_refl _, fun _ _ _ => rfl⟩
theorem But.trans {T : Nat → Prop} {A B C : World} (h : But T A B) (k : But T B C) : But T A C :=
  ⟨k.os.trans h.os, k.tape.trans h.tape, k.output.trans h.output, Nat.le_trans h.size k.size, fun i hi hn => (k.block i (Nat.lt_of_lt_of_le hi h.size) hn).trans (h.block i hi hn)⟩
theorem But.mono {T T' : Nat → Prop} {A B : World} (h : But T A B) (hT : ∀ k, T k → T' k) : But T' A B := ⟨h.os, h.tape, h.output, h.size, fun k hk hn => h.block k hk (fun ht => hn (hT k ht))⟩
theorem But.mono' {T T' : Nat → Prop} {A B : World} (h : But T A B) (hT : ∀ k, k < A.heap.size → T k → T' k) : But T' A B := ⟨h.os, h.tape, h.output, h.size, fun k hk hn => h.block k hk (fun ht => hn (hT k hk ht))⟩
theorem But.of_below {T : Nat → Prop} {A B : World} (h : Below A.heap.size A B) : But T A B := ⟨h.os, h.tape, h.output, h.size, fun k hk _ => h.block k hk⟩
theorem But.below {T : Nat → Prop} {A B : World} (h : But T A B) (hT : ∀ k, k < A.heap.size → ¬ T k) : Below A.heap.size A B := ⟨h.os, h.tape, h.output, h.size, fun k hk => h.block k hk (hT k hk)⟩
theorem But.putObj {T : Nat → Prop} (W : World) {r : Nat} (o : Obj) (hr : T r) : But T W (W.putObj r o) :=
  ⟨rfl, rfl, rfl, by simp, fun k _ hn => World.putObj_heap_other (fun e => hn (e ▸ hr))⟩
theorem But.setCell {T : Nat → Prop} (W : World) {b j : Nat} (v : Value) (hb : T b) : But T W (W.setCell ⟨b, j, none⟩ v) :=
  ⟨rfl, rfl, rfl, by simp [World.setCell], fun k _ hn => Below.heap_setCell W ⟨b, j, none⟩ v k (fun e => hn (by rw [e]; exact hb))⟩
theorem But.cell {T : Nat → Prop} {A B : World} (h : But T A B) {b j : Nat} {v : Value} (hb : ¬ T b) (hc : A.cell? ⟨b, j, none⟩ = some v) : B.cell? ⟨b, j, none⟩ = some v :=
  (World.cell?_of_block (w := A) (h.block b (block_lt_of_cell hc) hb)).trans hc

/-- The blocks of T are as they were. -/
def Rfree (T : Nat → Prop) (A B : World) : Prop := A.heap.size ≤ B.heap.size ∧ ∀ k, T k → B.heap[k]? = A.heap[k]?
theorem Rfree.sub {T T' : Nat → Prop} {A B : World} (h : Rfree T A B) (hT : ∀ k, T' k → T k) : Rfree T' A B := ⟨h.1, fun k hk => h.2 k (hT k hk)⟩
theorem Rfree.below {T : Nat → Prop} {A B : World} (h : Below A.heap.size A B) (hT : ∀ k, T k → k < A.heap.size) : Rfree T A B := ⟨h.size, fun k hk => h.block k (hT k hk)⟩
theorem Rfree.put {T : Nat → Prop} (A : World) (r : Nat) (o : Obj) (h : ¬ T r) : Rfree T A (A.putObj r o) := ⟨by simp, fun k hk => World.putObj_heap_other (fun e => h (e ▸ hk))⟩
theorem Rfree.but {T U : Nat → Prop} {A B : World} (h : But U A B) (hT : ∀ k, T k → k < A.heap.size ∧ ¬ U k) : Rfree T A B := ⟨h.size, fun k hk => h.block k (hT k hk).1 (hT k hk).2⟩
theorem Rfree.trans {T : Nat → Prop} {A B C : World} (h : Rfree T A B) (k : Rfree T B C) : Rfree T A C := ⟨Nat.le_trans h.1 k.1, fun i hi => (k.2 i hi).trans (h.2 i hi)⟩

/-- T, and the blocks that are new. -/
def more (T : Nat → Prop) (A B : World) : Nat → Prop := fun k => T k ∨ (A.heap.size ≤ k ∧ k < B.heap.size)

/-- What holds of T: it is T0 and new blocks. -/
structure Of (T0 : Nat → Prop) (n : Nat) (T : Nat → Prop) (A : World) : Prop where
  lt : ∀ k, T k → k < A.heap.size
  of : ∀ k, T k → T0 k ∨ n ≤ k
  sub : ∀ k, T0 k → T k
theorem Of.grow {T0 : Nat → Prop} {n : Nat} {T : Nat → Prop} {A B : World} (h : Of T0 n T A) (hs : A.heap.size ≤ B.heap.size) : Of T0 n T B := ⟨fun k hk => Nat.lt_of_lt_of_le (h.lt k hk) hs, h.of, h.sub⟩
theorem Of.more {T0 : Nat → Prop} {n : Nat} {T : Nat → Prop} {A B : World} (h : Of T0 n T A) (hn : n ≤ A.heap.size) (hs : A.heap.size ≤ B.heap.size) : Of T0 n (more T A B) B where
  lt := fun k hk => by
    rcases hk with hk | hk
    · exact Nat.lt_of_lt_of_le (h.lt k hk) hs
    · exact hk.2
  of := fun k hk => by
    rcases hk with hk | hk
    · exact h.of k hk
    · exact .inr (Nat.le_trans hn hk.1)
  sub := fun k hk => .inl (h.sub k hk)
theorem Of.free {T0 : Nat → Prop} {n : Nat} {T : Nat → Prop} {A B : World} (h : Of T0 n T A) (hb : Below A.heap.size A B) : Rfree T A B := Rfree.below hb h.lt
theorem Of.but {T0 : Nat → Prop} {n : Nat} {T : Nat → Prop} {W A B : World} (h : Of T0 n T A) (hn : W.heap.size ≤ n) (h0 : But T0 W A) (hb : But T A B) : But T0 W B :=
  ⟨hb.os.trans h0.os, hb.tape.trans h0.tape, hb.output.trans h0.output, Nat.le_trans h0.size hb.size, fun k hk hk0 => (hb.block k (Nat.lt_of_lt_of_le hk h0.size) (fun ht => by
    rcases h.of k ht with h1 | h1
    · exact hk0 h1
    · omega)).trans (h0.block k hk hk0)⟩

/-- The contract of an iterator: between two rounds it leaves what its consumer has; the consumer's blocks are those of T0, and what it has made. C are blocks that the consumer does not touch. -/
def SeqD {α : Type} (P : Program) (g : Nat) (lb : Array Value) (encs : α → Array Value) (V : α → Prop) (C : Nat → Prop) (S Sp : List α → Prop) (w : World) : Prop :=
  ∀ (l : Nat) (T0 : Nat → Prop) (J Jx : (Nat → Prop) → List α → World → Prop) (W : World), Below w.heap.size w W → (∀ k, T0 k → k < W.heap.size ∧ ¬ C k) →
    (∀ T s A B, J T s A → Rfree T A B → J T s B) → (∀ T s A B, Jx T s A → Rfree T A B → Jx T s B) →
    (∀ T pre x W1, V x → Sp (pre ++ [x]) → J T pre W1 → Of T0 W.heap.size T W1 → But T0 W W1 → YieldAt Fence.wide 0 P l (encs x) W1 fun e W' =>
      But T W1 W' ∧ ((e = .returned (.bool true) ∧ J (more T W1 W') (pre ++ [x]) W') ∨ (e = .returned (.bool false) ∧ Jx (more T W1 W') (pre ++ [x]) W'))) →
    J T0 [] W →
    CallsIn Fence.wide 0 P g (#[.func (.yield l) #[] #[]] ++ lb) W fun e W' => (∃ v, e = .returned v) ∧ But T0 W W' ∧ ∃ T, Of T0 W.heap.size T W' ∧ ((∃ xs, S xs ∧ J T xs W') ∨ (∃ pre, Sp pre ∧ Jx T pre W'))

/-- How the body of a round is left. -/
def postD (T : Nat → Prop) {α : Type} (I : (Nat → Prop) → List α → World → Prop) (Ix : Code → (Nat → Prop) → List α → World → Prop) (xs : List α) (W : World) : Exit → Act → World → Prop
  | .normal, _, W' => But T W W' ∧ I (more T W W') xs W'
  | .ret, _, W' => But T W W' ∧ Ix .ret (more T W W') xs W'
  | .exit id, _, W' => But T W W' ∧ Ix (.exit id) (more T W W') xs W'
  | .goto t, _, W' => But T W W' ∧ Ix (.goto t) (more T W W') xs W'
  | .panic _, _, _ => False
  | .outgrown, _, _ => False

/-- T, and the two blocks of the loop's own. -/
def withLoop (T : Nat → Prop) (n : Nat) : Nat → Prop := fun k => T k ∨ k = n ∨ k = n + 1

/-- T within T', and the loop's two blocks in T' alone. -/
structure Inl (T0 : Nat → Prop) (n : Nat) (T T' : Nat → Prop) (A : World) : Prop where
  sub : ∀ k, T k → T' k
  of : Of T0 n T A
  n0 : ¬ T n
  n1 : ¬ T (n + 1)
  t0 : T' n
  t1 : T' (n + 1)

theorem wp_rangeD {P : Program} {α : Type} {g : Operand} {ps : Array Tmp} {assign body : Code} {Q : Exit → Act → World → Prop} {a : Act} {w : World}
    {gf : Nat} {lb : Array Value} (hg : a.eval g = .func (.func gf) #[] lb) (eg : ∀ args w, (callFunc gf args).run P w = .ok (.enter gf args) w)
    {encs : α → Array Value} {V : α → Prop} {C : Nat → Prop} {S Sp : List α → Prop} {w0 : World}
    (hseq : SeqD P gf lb encs V C S Sp w0) (hb0 : Below w0.heap.size w0 w) (hps : ∀ x, (encs x).size = ps.size)
    (T0 : Nat → Prop) (hT0 : ∀ k, T0 k → k < w.heap.size ∧ ¬ C k) (hC : ∀ k, C k → k < w.heap.size)
    (I : (Nat → Prop) → List α → World → Prop) (Ix : Code → (Nat → Prop) → List α → World → Prop)
    (hIR : ∀ T s A B, I T s A → Rfree T A B → I T s B) (hIxR : ∀ c T s A B, Ix c T s A → Rfree T A B → Ix c T s B)
    (h0 : I T0 [] w) (Ax : α → Act → World → Prop)
    (hAx : ∀ x a₁ A o, Ax x a₁ A → Ax x a₁ (A.putObj (w.heap.size + 1) o))
    (hassign : ∀ (l : Nat) (x : α) (W : World), V x → w.heap.size + 2 ≤ W.heap.size →
      assign.wpIn (Fence.wide.inRound l) 0 P (Exit.then (fun a₁ W₁ => Ax x a₁ W₁ ∧ Below W.heap.size W W₁) (fun _ _ _ => False)) { tmps := (ps.zip (encs x)).foldl (fun t (p, v) => t.setIfInBounds p v) a.tmps, defers := [] } W)
    (hbody : ∀ (l : Nat) (T : Nat → Prop) (pre : List α) (x : α) (a₁ : Act) (W : World), V x → Sp (pre ++ [x]) → I T pre W → Of T0 w.heap.size T W → But (withLoop T0 w.heap.size) w W → w.heap.size + 2 ≤ W.heap.size → Ax x a₁ W →
      body.wpIn (Fence.wide.inRound l) 0 P (postD T I Ix (pre ++ [x]) W) a₁ W)
    (hdone : ∀ (T : Nat → Prop) (xs : List α) (W : World), S xs → I T xs W → Of T0 w.heap.size T W → But (withLoop T0 w.heap.size) w W → ¬ T w.heap.size → ¬ T (w.heap.size + 1) → W.heap[w.heap.size]? = some (.deferred (some [])) →
      Q .normal { a with defers := { target := .collected w.heap.size, args := #[] } :: a.defers } W)
    (hstop : ∀ (c : Code) (T : Nat → Prop) (pre : List α) (W : World), Sp pre → Ix c T pre W → Of T0 w.heap.size T W → But (withLoop T0 w.heap.size) w W → ¬ T w.heap.size → ¬ T (w.heap.size + 1) → W.heap[w.heap.size]? = some (.deferred (some [])) →
      c.wpIn Fence.wide 0 P Q { a with defers := { target := .collected w.heap.size, args := #[] } :: a.defers } W) :
    (Code.rangeFunc g ps assign body).wpIn Fence.wide 0 P Q a w := by
  refine wpIn_rangeFunc fun fn hfn => ?_
  let rec' : LoopState → Option Code → Loop := fun st pe => { state := st, pending := pe, fn, tmps := a.tmps, params := ps, assign, body, defers := w.heap.size }
  obtain ⟨W1, hW1⟩ : ∃ W1, (w.alloc (.deferred (some []))).alloc (.loop (rec' .ready none)) = W1 := ⟨_, rfl⟩
  have hbw : Below w.heap.size w W1 := by rw [← hW1]; exact ((Below.refl _ w).alloc (Nat.le_refl _) _).alloc (by simp) _
  have hsz : W1.heap.size = w.heap.size + 2 := by rw [← hW1]; simp
  have hL1 : W1.heap[w.heap.size + 1]? = some (.loop (rec' .ready none)) := by
    rw [← hW1]; have := World.alloc_heap_new (w.alloc (.deferred (some []))) (.loop (rec' .ready none)); rwa [World.size_alloc] at this
  have hK1 : W1.heap[w.heap.size]? = some (.deferred (some [])) := by
    rw [← hW1]; exact (Below.heap_alloc _ _ _ (by simp)).trans (World.alloc_heap_new w _)
  refine ⟨w.heap.size + 1, [{ target := .collected w.heap.size, args := #[] }], W1, { target := .fn (.func gf) lb, args := #[.func (.yield (w.heap.size + 1)) #[] #[]] }, W1, gf,
    #[.func (.yield (w.heap.size + 1)) #[] #[]] ++ lb, W1, ?_, ?_, ?_, ?_, fun h => by simp [Fence.wide] at h, ?_⟩
  · rw [← hW1]; exact run_enterLoop_outer _ _ _ _ _
  · simp only [resolve, hg]; simp [go_sem]
  · intro f' _; trivial
  · simp [invoke, go_sem, eg]
  · have hOf0 : Of T0 w.heap.size T0 W1 := ⟨fun k hk => by have := (hT0 k hk).1; omega, fun k hk => .inl hk, fun k hk => hk⟩
    have n0 : ¬ T0 w.heap.size := fun h => by have := (hT0 _ h).1; omega
    have n1 : ¬ T0 (w.heap.size + 1) := fun h => by have := (hT0 _ h).1; omega
    have key := hseq (w.heap.size + 1) (withLoop T0 w.heap.size)
      (fun T' pre W => ∃ T, Inl T0 w.heap.size T T' W ∧ I T pre W ∧ W.heap[w.heap.size + 1]? = some (.loop (rec' .ready none)) ∧ W.heap[w.heap.size]? = some (.deferred (some [])))
      (fun T' pre W => ∃ T c, Inl T0 w.heap.size T T' W ∧ Ix c T pre W ∧ W.heap[w.heap.size + 1]? = some (.loop (rec' .done (some c))) ∧ W.heap[w.heap.size]? = some (.deferred (some [])))
      W1 (hb0.trans (hbw.mono hb0.size)) ?tc ?jr ?jxr ?_ ⟨T0, ⟨fun k hk => .inl hk, hOf0, n0, n1, .inr (.inl rfl), .inr (.inr rfl)⟩, hIR _ _ _ _ h0 (Rfree.below hbw fun k hk => (hT0 k hk).1), hL1, hK1⟩
    case tc =>
      rintro k (hk | hk | hk)
      · have := hT0 k hk
        exact ⟨by omega, this.2⟩
      · exact ⟨by omega, fun hc => by have := hC k hc; omega⟩
      · exact ⟨by omega, fun hc => by have := hC k hc; omega⟩
    case jr =>
      rintro T' s A B ⟨T, hT, h1, h2, h3⟩ hR
      exact ⟨T, ⟨hT.sub, hT.of.grow hR.1, hT.n0, hT.n1, hT.t0, hT.t1⟩, hIR _ _ _ _ h1 (hR.sub hT.sub), (hR.2 _ hT.t1).trans h2, (hR.2 _ hT.t0).trans h3⟩
    case jxr =>
      rintro T' s A B ⟨T, c, hT, h1, h2, h3⟩ hR
      exact ⟨T, c, ⟨hT.sub, hT.of.grow hR.1, hT.n0, hT.n1, hT.t0, hT.t1⟩, hIxR _ _ _ _ _ h1 (hR.sub hT.sub), (hR.2 _ hT.t1).trans h2, (hR.2 _ hT.t0).trans h3⟩
    · refine CallsIn.mono key ?_
      rintro e W2 ⟨⟨v, rfl⟩, hbut, T', hOf', (⟨xs, hS, T, hT, hi, hl, hk⟩ | ⟨pre, hSp, T, c, hT, hi, hl, hk⟩)⟩
      · have hb2 : But (withLoop T0 w.heap.size) w W2 := (But.of_below hbw).trans hbut
        exact ⟨none, _, run_endLoop (P := P) hl (by simp [rec']), hdone T xs _ hS (hIR _ _ _ _ hi (Rfree.put _ _ _ hT.n1)) (hT.of.grow (by simp)) (hb2.trans (But.putObj _ _ (.inr (.inr rfl)))) hT.n0 hT.n1 ((World.putObj_heap_other (by omega)).trans hk)⟩
      · have hb2 : But (withLoop T0 w.heap.size) w W2 := (But.of_below hbw).trans hbut
        exact ⟨some c, _, run_endLoop (P := P) hl (by simp [rec']), hstop c T pre _ hSp (hIxR _ _ _ _ _ hi (Rfree.put _ _ _ hT.n1)) (hT.of.grow (by simp)) (hb2.trans (But.putObj _ _ (.inr (.inr rfl)))) hT.n0 hT.n1 ((World.putObj_heap_other (by omega)).trans hk)⟩
    · rintro T' pre x W hV hSp ⟨T, hT, hi, hl, hk⟩ hOf' hbut
      have hlt : w.heap.size + 1 < W.heap.size := (Array.getElem?_eq_some_iff.1 hl).1
      have hy := run_yield (P := P) (args := encs x) hl (by simp [rec', hps x])
      have hbW : But (withLoop T0 w.heap.size) w W := (But.of_below hbw).trans hbut
      refine ⟨fn, _, assign, body, hy, roundIn_of_wpIn hfn (wpIn_mono (hassign _ x W hV (by omega)) ?_)⟩
      rintro e a₁ W₁ h
      cases e with
      | normal =>
        obtain ⟨hax, hbA⟩ := h
        have hlA : W₁.heap[w.heap.size + 1]? = some (.loop (rec' .ready none)) := (hbA.block _ hlt).trans hl
        have hkA : W₁.heap[w.heap.size]? = some (.deferred (some [])) := (hbA.block _ (by omega)).trans hk
        have hltA : w.heap.size + 1 < W₁.heap.size := (Array.getElem?_eq_some_iff.1 hlA).1
        refine ⟨_, run_beginRound hlA rfl, ?_⟩
        have hl2 := World.putObj_heap_same (w := W₁) (o := .loop { rec' .ready none with state := .busy }) hltA
        have hk2 : (W₁.putObj (w.heap.size + 1) (.loop { rec' .ready none with state := .busy })).heap[w.heap.size]? = some (.deferred (some [])) := (World.putObj_heap_other (by omega)).trans hkA
        have hbA' : But (withLoop T0 w.heap.size) W (W₁.putObj (w.heap.size + 1) (.loop { rec' .ready none with state := .busy })) := (But.of_below hbA).trans (But.putObj _ _ (.inr (.inr rfl)))
        have hbAT : But T' W (W₁.putObj (w.heap.size + 1) (.loop { rec' .ready none with state := .busy })) := (But.of_below hbA).trans (But.putObj _ _ hT.t1)
        have hszA : (W₁.putObj (w.heap.size + 1) (.loop { rec' .ready none with state := .busy })).heap.size = W₁.heap.size := by simp
        have hOfA : Of T0 w.heap.size T (W₁.putObj (w.heap.size + 1) (.loop { rec' .ready none with state := .busy })) := hT.of.grow (by have := hbA.size; omega)
        refine wpIn_mono (hbody _ T pre x a₁ _ hV hSp (hIR _ _ _ _ (hIR _ _ _ _ hi (hT.of.free hbA)) (Rfree.put _ _ _ hT.n1)) hOfA (hbW.trans hbA') (by simp; omega) (hAx _ _ _ _ hax)) ?_
        have fin : ∀ (jump : Option Code) (W3 : World), But T (W₁.putObj (w.heap.size + 1) (.loop { rec' .ready none with state := .busy })) W3 →
            (Instr.endRound (w.heap.size + 1) jump).run P W3 = .ok (.bool jump.isNone) (W3.putObj (w.heap.size + 1) (.loop (rec' (if jump.isNone then .ready else .done) jump))) ∧
            (W3.putObj (w.heap.size + 1) (.loop (rec' (if jump.isNone then .ready else .done) jump))).heap[w.heap.size + 1]? = some (.loop (rec' (if jump.isNone then .ready else .done) jump)) ∧
            (W3.putObj (w.heap.size + 1) (.loop (rec' (if jump.isNone then .ready else .done) jump))).heap[w.heap.size]? = some (.deferred (some [])) ∧
            But T' W (W3.putObj (w.heap.size + 1) (.loop (rec' (if jump.isNone then .ready else .done) jump))) ∧
            Inl T0 w.heap.size (more T (W₁.putObj (w.heap.size + 1) (.loop { rec' .ready none with state := .busy })) W3) (more T' W (W3.putObj (w.heap.size + 1) (.loop (rec' (if jump.isNone then .ready else .done) jump)))) (W3.putObj (w.heap.size + 1) (.loop (rec' (if jump.isNone then .ready else .done) jump))) ∧
            Rfree (more T (W₁.putObj (w.heap.size + 1) (.loop { rec' .ready none with state := .busy })) W3) W3 (W3.putObj (w.heap.size + 1) (.loop (rec' (if jump.isNone then .ready else .done) jump))) := fun jump W3 hk3 => by
          have hl3 := (hk3.block _ (by simp; omega) hT.n1).trans hl2
          have hk3' := (hk3.block _ (by simp; omega) hT.n0).trans hk2
          have m0 : ¬ more T (W₁.putObj (w.heap.size + 1) (.loop { rec' .ready none with state := .busy })) W3 w.heap.size := by
            rintro (h | h)
            · exact hT.n0 h
            · rw [hszA] at h; omega
          have m1 : ¬ more T (W₁.putObj (w.heap.size + 1) (.loop { rec' .ready none with state := .busy })) W3 (w.heap.size + 1) := by
            rintro (h | h)
            · exact hT.n1 h
            · rw [hszA] at h; omega
          have hO3 := (hOfA.more (by rw [hszA]; omega) hk3.size)
          have h3 := hbA.size
          have h4 : (W3.putObj (w.heap.size + 1) (.loop (rec' (if jump.isNone then .ready else .done) jump))).heap.size = W3.heap.size := by simp
          refine ⟨run_endRound (P := P) jump hl3, World.putObj_heap_same (Array.getElem?_eq_some_iff.1 hl3).1, (World.putObj_heap_other (by omega)).trans hk3',
            (hbAT.trans (hk3.mono hT.sub)).trans (But.putObj _ _ hT.t1), ⟨fun k hk => ?_, hO3.grow (by rw [h4]; exact Nat.le_refl _), m0, m1, .inl hT.t0, .inl hT.t1⟩, Rfree.put _ _ _ m1⟩
          rcases hk with hk | hk
          · exact .inl (hT.sub k hk)
          · exact .inr ⟨by rw [hszA] at hk; omega, by rw [h4]; exact hk.2⟩
        rintro e a3 W3 hp
        cases e with
        | normal =>
          obtain ⟨hr, hl4, hk4, hb4, hI4, hR4⟩ := fin none W3 hp.1
          exact ⟨_, _, hr, hb4, .inl ⟨rfl, _, hI4, hIR _ _ _ _ hp.2 hR4, hl4, hk4⟩⟩
        | ret =>
          obtain ⟨hr, hl4, hk4, hb4, hI4, hR4⟩ := fin (some .ret) W3 hp.1
          exact ⟨_, _, hr, hb4, .inr ⟨rfl, _, .ret, hI4, hIxR _ _ _ _ _ hp.2 hR4, hl4, hk4⟩⟩
        | exit id =>
          obtain ⟨hr, hl4, hk4, hb4, hI4, hR4⟩ := fin (some (.exit id)) W3 hp.1
          exact ⟨_, _, hr, hb4, .inr ⟨rfl, _, .exit id, hI4, hIxR _ _ _ _ _ hp.2 hR4, hl4, hk4⟩⟩
        | goto t =>
          obtain ⟨hr, hl4, hk4, hb4, hI4, hR4⟩ := fin (some (.goto t)) W3 hp.1
          exact ⟨_, _, hr, hb4, .inr ⟨rfl, _, .goto t, hI4, hIxR _ _ _ _ _ hp.2 hR4, hl4, hk4⟩⟩
        | panic ch => exact hp.elim
        | outgrown => exact hp.elim
      | ret => exact h.elim
      | exit id => exact h.elim
      | goto t => exact h.elim
      | panic ch => exact h.elim
      | outgrown => exact h.elim

end Go.Proofs.Ytpdkgnfblnblbaa
