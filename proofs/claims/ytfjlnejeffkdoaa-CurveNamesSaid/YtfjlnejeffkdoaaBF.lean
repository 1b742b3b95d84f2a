/- A range over a function whose loop's body may write rows of numbers as well, wherever they lie: the law of a range with memory of its own (text Q), with this more said of what the body touches. No condition. The points that may be a quantity's own: an iterator, its contract. What an iterator of numbers brings, collected: AppendSeq and Collect of the library, by the iterator's contract. Conditions: at most twenty numbers. -/
import Derived.Test.YtfjlnejeffkdoaaP
import Derived.Test.YtfjlnejeffkdoaaCC
/- A range over a function whose loop's body may write rows of numbers as well, wherever they lie: the law of a range with memory of its own (text Q), with this more said of what the body touches. No condition. -/
namespace Go.Proofs.Ytfjlnejeffkdoaa
open Go.RowKit

/-- W' is W but for the blocks of T, rows of numbers, and new ones. -/
structure ButI (T : Nat → Prop) (W W' : World) : Prop where
  os : W'.os = W.os
  tape : W'.tape = W.tape
  output : W'.output = W.output
  size : W.heap.size ≤ W'.heap.size
  block : ∀ k, k < W.heap.size → ¬ T k → (∀ cs z, W.heap[k]? ≠ some (.cells cs 3 z)) → W'.heap[k]? = W.heap[k]?

theorem ButI.refl (T : Nat → Prop) (W : World) : ButI T W W := ⟨rfl, rfl, rfl, Nat.le_refl _, fun _ _ _ _ => rfl⟩
theorem ButI.trans {T : Nat → Prop} {A B C : World} (h : ButI T A B) (k : ButI T B C) : ButI T A C :=
  ⟨k.os.trans h.os, k.tape.trans h.tape, k.output.trans h.output, Nat.le_trans h.size k.size, fun i hi hn hc => by
    have e := h.block i hi hn hc
    exact (k.block i (Nat.lt_of_lt_of_le hi h.size) hn (fun cs z => by rw [e]; exact hc cs z)).trans e⟩
theorem ButI.mono {T T' : Nat → Prop} {A B : World} (h : ButI T A B) (hT : ∀ k, T k → T' k) : ButI T' A B := ⟨h.os, h.tape, h.output, h.size, fun k hk hn => h.block k hk (fun ht => hn (hT k ht))⟩
theorem ButI.of_below {T : Nat → Prop} {A B : World} (h : Below A.heap.size A B) : ButI T A B := ⟨h.os, h.tape, h.output, h.size, fun k hk _ _ => h.block k hk⟩
theorem ButI.of_but {T : Nat → Prop} {A B : World} (h : But T A B) : ButI T A B := ⟨h.os, h.tape, h.output, h.size, fun k hk hn _ => h.block k hk hn⟩
theorem ButI.putObj {T : Nat → Prop} (W : World) {r : Nat} (o : Obj) (hr : T r) : ButI T W (W.putObj r o) := .of_but (.putObj W o hr)
theorem ButI.setCell {T : Nat → Prop} (W : World) {b j : Nat} (v : Value) (hb : T b) : ButI T W (W.setCell ⟨b, j, none⟩ v) := .of_but (.setCell W v hb)

/-- Between two rounds: the blocks of T, those below K, and all rows are as they were. -/
structure Rkeep (K : Nat) (T : Nat → Prop) (A B : World) : Prop where
  free : Rfree T A B
  low : ∀ k, k < K → B.heap[k]? = A.heap[k]?
  row : ∀ (k : Nat) cs t z, A.heap[k]? = some (.cells cs t z) → B.heap[k]? = A.heap[k]?
  os : B.os = A.os
  tape : B.tape = A.tape
  output : B.output = A.output

/-- The contract of an iterator: what it does between two rounds keeps what R says, and what it does when it has been stopped what Rs says; TC is asked of T. -/
def SeqI {α : Type} (P : Program) (g : Nat) (lb : Array Value) (encs : α → Array Value) (V : List α → α → Prop) (R Rs : (Nat → Prop) → World → World → Prop) (TC : (Nat → Prop) → World → Prop) (S Sp : List α → Prop) (w : World) : Prop :=
  ∀ (l : Nat) (T : Nat → Prop) (J Jx : List α → World → Prop) (W : World), Below w.heap.size w W → TC T W →
    (∀ s A B, J s A → R T A B → J s B) → (∀ s A B, Jx s A → Rs T A B → Jx s B) →
    (∀ pre x W1, V pre x → J pre W1 → ButI T W W1 → YieldAt Fence.wide 0 P l (encs x) W1 fun e W' =>
      (e = .returned (.bool true) ∧ J (pre ++ [x]) W' ∧ ButI T W1 W') ∨ (e = .returned (.bool false) ∧ Jx (pre ++ [x]) W' ∧ ButI T W1 W')) →
    J [] W →
    CallsIn Fence.wide 0 P g (#[.func (.yield l) #[] #[]] ++ lb) W fun e W' => (∃ v, e = .returned v) ∧ ButI T W W' ∧ ((∃ xs, S xs ∧ J xs W') ∨ (∃ pre, Sp pre ∧ Jx pre W'))

/-- How the body of a round is left. -/
def postI {α : Type} (T : Nat → Prop) (I : List α → World → Prop) (Ix : Code → List α → World → Prop) (xs : List α) (W : World) : Exit → Act → World → Prop
  | .normal, _, W' => ButI T W W' ∧ I xs W'
  | .ret, _, W' => ButI T W W' ∧ Ix .ret xs W'
  | .exit id, _, W' => ButI T W W' ∧ Ix (.exit id) xs W'
  | .goto t, _, W' => ButI T W W' ∧ Ix (.goto t) xs W'
  | .panic _, _, _ => False
  | .outgrown, _, _ => False

theorem wp_rangeI {P : Program} {α : Type} {g : Operand} {ps : Array Tmp} {assign body : Code} {Q : Exit → Act → World → Prop} {a : Act} {w : World}
    {gf : Nat} {lb : Array Value} (hg : a.eval g = .func (.func gf) #[] lb) (eg : ∀ args w, (callFunc gf args).run P w = .ok (.enter gf args) w)
    {encs : α → Array Value} {V : List α → α → Prop} {R Rs : (Nat → Prop) → World → World → Prop} {TC : (Nat → Prop) → World → Prop} {S Sp : List α → Prop} {w0 : World}
    (hseq : SeqI P gf lb encs V R Rs TC S Sp w0) (hb0 : Below w0.heap.size w0 w) (hps : ∀ x, (encs x).size = ps.size)
    (T : Nat → Prop) (hTC : ∀ W1, Below w.heap.size w W1 → w.heap.size + 2 ≤ W1.heap.size → TC (withLoop T w.heap.size) W1)
    (hTn : ¬ T w.heap.size ∧ ¬ T (w.heap.size + 1))
    (hRr : ∀ A B r, R (withLoop T w.heap.size) A B → r = w.heap.size ∨ r = w.heap.size + 1 → r < A.heap.size → B.heap[r]? = A.heap[r]?)
    (hRs : ∀ A B r, Rs (withLoop T w.heap.size) A B → r = w.heap.size ∨ r = w.heap.size + 1 → r < A.heap.size → B.heap[r]? = A.heap[r]?)
    (I : List α → World → Prop) (Ix : Code → List α → World → Prop)
    (hIR : ∀ s A B, I s A → R (withLoop T w.heap.size) A B → I s B) (hIxR : ∀ c s A B, Ix c s A → Rs (withLoop T w.heap.size) A B → Ix c s B)
    (hIg : ∀ s A B, I s A → Below A.heap.size A B → I s B)
    (hIp : ∀ s A r o, I s A → r = w.heap.size ∨ r = w.heap.size + 1 → I s (A.putObj r o)) (hIxp : ∀ c s A r o, Ix c s A → r = w.heap.size ∨ r = w.heap.size + 1 → Ix c s (A.putObj r o))
    (h0 : I [] w) (Ax : α → Act → World → Prop)
    (hAx : ∀ x a₁ A o, Ax x a₁ A → Ax x a₁ (A.putObj (w.heap.size + 1) o))
    (hassign : ∀ (l : Nat) (pre : List α) (x : α) (W : World), V pre x → w.heap.size + 2 ≤ W.heap.size →
      assign.wpIn (Fence.wide.inRound l) 0 P (Exit.then (fun a₁ W₁ => Ax x a₁ W₁ ∧ Below W.heap.size W W₁) (fun _ _ _ => False)) { tmps := (ps.zip (encs x)).foldl (fun t (p, v) => t.setIfInBounds p v) a.tmps, defers := [] } W)
    (hbody : ∀ (l : Nat) (pre : List α) (x : α) (a₁ : Act) (W : World), V pre x → I pre W → ButI (withLoop T w.heap.size) w W → w.heap.size + 2 ≤ W.heap.size → Ax x a₁ W →
      body.wpIn (Fence.wide.inRound l) 0 P (postI T I Ix (pre ++ [x]) W) a₁ W)
    (hdone : ∀ (xs : List α) (W : World), S xs → I xs W → ButI (withLoop T w.heap.size) w W → W.heap[w.heap.size]? = some (.deferred (some [])) →
      Q .normal { a with defers := { target := .collected w.heap.size, args := #[] } :: a.defers } W)
    (hstop : ∀ (c : Code) (pre : List α) (W : World), Sp pre → Ix c pre W → ButI (withLoop T w.heap.size) w W → W.heap[w.heap.size]? = some (.deferred (some [])) →
      c.wpIn Fence.wide 0 P Q { a with defers := { target := .collected w.heap.size, args := #[] } :: a.defers } W) :
    (Code.rangeFunc g ps assign body).wpIn Fence.wide 0 P Q a w := by
  refine wpIn_rangeFunc fun fn hfn => ?_
  let rec' : LoopState → Option Code → Loop := fun st pe => { state := st, pending := pe, fn, tmps := a.tmps, params := ps, assign, body, defers := w.heap.size }
  obtain ⟨W1, hW1⟩ : ∃ W1, (w.alloc (.deferred (some []))).alloc (.loop (rec' .ready none)) = W1 := ⟨_, rfl⟩
  have hbw : Below w.heap.size w W1 := by rw [← hW1]; exact ((Below.refl _ w).alloc (Nat.le_refl _) _).alloc (by simp) _
  have hsz : W1.heap.size = w.heap.size + 2 := by rw [← hW1]; simp
  have hL1 : W1.heap[w.heap.size + 1]? = some (.loop (rec' .ready none)) := by
    rw [← hW1]; have := World.alloc_heap_new (w.alloc (.deferred (some []))) (.loop (rec' .ready none)); rwa [World.size_alloc] at this
  have hK1 : W1.heap[w.heap.size]? = some (.deferred (some [])) := by
    rw [← hW1]; exact (Below.heap_alloc _ _ _ (by simp)).trans (World.alloc_heap_new w _)
  refine ⟨w.heap.size + 1, [{ target := .collected w.heap.size, args := #[] }], W1, { target := .fn (.func gf) lb, args := #[.func (.yield (w.heap.size + 1)) #[] #[]] }, W1, gf,
    #[.func (.yield (w.heap.size + 1)) #[] #[]] ++ lb, W1, ?_, ?_, ?_, ?_, fun h => by simp [Fence.wide] at h, ?_⟩
  · rw [← hW1]; exact run_enterLoop_outer _ _ _ _ _
  · simp only [resolve, hg]; simp [go_sem]
  · intro f' _; trivial
  · simp [invoke, go_sem, eg]
  · have hkeep : ∀ {A B : World} {r : Nat} {o : Obj}, R (withLoop T w.heap.size) A B → r = w.heap.size ∨ r = w.heap.size + 1 → A.heap[r]? = some o → B.heap[r]? = some o :=
      fun hR hr h => (hRr _ _ _ hR hr (Array.getElem?_eq_some_iff.1 h).1).trans h
    have hkeeps : ∀ {A B : World} {r : Nat} {o : Obj}, Rs (withLoop T w.heap.size) A B → r = w.heap.size ∨ r = w.heap.size + 1 → A.heap[r]? = some o → B.heap[r]? = some o :=
      fun hR hr h => (hRs _ _ _ hR hr (Array.getElem?_eq_some_iff.1 h).1).trans h
    have key := hseq (w.heap.size + 1) (withLoop T w.heap.size)
      (fun pre W => I pre W ∧ W.heap[w.heap.size + 1]? = some (.loop (rec' .ready none)) ∧ W.heap[w.heap.size]? = some (.deferred (some [])))
      (fun pre W => ∃ c, Ix c pre W ∧ W.heap[w.heap.size + 1]? = some (.loop (rec' .done (some c))) ∧ W.heap[w.heap.size]? = some (.deferred (some [])))
      W1 (hb0.trans (hbw.mono hb0.size)) (hTC W1 hbw (by omega))
      (fun s A B h hR => ⟨hIR s A B h.1 hR, hkeep hR (.inr rfl) h.2.1, hkeep hR (.inl rfl) h.2.2⟩)
      (fun s A B h hR => by
        obtain ⟨c, h1, h2, h3⟩ := h
        exact ⟨c, hIxR c s A B h1 hR, hkeeps hR (.inr rfl) h2, hkeeps hR (.inl rfl) h3⟩)
      ?_ ⟨hIg [] _ _ h0 hbw, hL1, hK1⟩
    · refine CallsIn.mono key ?_
      rintro e W2 ⟨⟨v, rfl⟩, hbut, (⟨xs, hS, hi, hl, hk⟩ | ⟨pre, hSp, c, hi, hl, hk⟩)⟩
      · have hb2 : ButI (withLoop T w.heap.size) w W2 := (ButI.of_below hbw).trans hbut
        exact ⟨none, _, run_endLoop (P := P) hl (by simp [rec']), hdone xs _ hS (hIp _ _ _ _ hi (.inr rfl)) (hb2.trans (ButI.putObj _ _ (.inr (.inr rfl)))) ((World.putObj_heap_other (by omega)).trans hk)⟩
      · have hb2 : ButI (withLoop T w.heap.size) w W2 := (ButI.of_below hbw).trans hbut
        exact ⟨some c, _, run_endLoop (P := P) hl (by simp [rec']), hstop c pre _ hSp (hIxp _ _ _ _ _ hi (.inr rfl)) (hb2.trans (ButI.putObj _ _ (.inr (.inr rfl)))) ((World.putObj_heap_other (by omega)).trans hk)⟩
    · rintro pre x W hV ⟨hi, hl, hk⟩ hbut
      have hlt : w.heap.size + 1 < W.heap.size := (Array.getElem?_eq_some_iff.1 hl).1
      have hy := run_yield (P := P) (args := encs x) hl (by simp [rec', hps x])
      have hbW : ButI (withLoop T w.heap.size) w W := (ButI.of_below hbw).trans hbut
      refine ⟨fn, _, assign, body, hy, roundIn_of_wpIn hfn (wpIn_mono (hassign _ pre x W hV (by omega)) ?_)⟩
      rintro e a₁ W₁ h
      cases e with
      | normal =>
        obtain ⟨hax, hbA⟩ := h
        have hlA : W₁.heap[w.heap.size + 1]? = some (.loop (rec' .ready none)) := (hbA.block _ hlt).trans hl
        have hkA : W₁.heap[w.heap.size]? = some (.deferred (some [])) := (hbA.block _ (by omega)).trans hk
        have hltA : w.heap.size + 1 < W₁.heap.size := (Array.getElem?_eq_some_iff.1 hlA).1
        refine ⟨_, run_beginRound hlA rfl, ?_⟩
        have hl2 := World.putObj_heap_same (w := W₁) (o := .loop { rec' .ready none with state := .busy }) hltA
        have hk2 : (W₁.putObj (w.heap.size + 1) (.loop { rec' .ready none with state := .busy })).heap[w.heap.size]? = some (.deferred (some [])) := (World.putObj_heap_other (by omega)).trans hkA
        have hbA' : ButI (withLoop T w.heap.size) W (W₁.putObj (w.heap.size + 1) (.loop { rec' .ready none with state := .busy })) := (ButI.of_below hbA).trans (ButI.putObj _ _ (.inr (.inr rfl)))
        refine wpIn_mono (hbody _ pre x a₁ _ hV (hIp _ _ _ _ (hIg _ _ _ hi hbA) (.inr rfl)) (hbW.trans hbA') (by simp; omega) (hAx _ _ _ _ hax)) ?_
        have fin : ∀ (jump : Option Code) (W3 : World), ButI T (W₁.putObj (w.heap.size + 1) (.loop { rec' .ready none with state := .busy })) W3 →
            (Instr.endRound (w.heap.size + 1) jump).run P W3 = .ok (.bool jump.isNone) (W3.putObj (w.heap.size + 1) (.loop (rec' (if jump.isNone then .ready else .done) jump))) ∧
            (W3.putObj (w.heap.size + 1) (.loop (rec' (if jump.isNone then .ready else .done) jump))).heap[w.heap.size + 1]? = some (.loop (rec' (if jump.isNone then .ready else .done) jump)) ∧
            (W3.putObj (w.heap.size + 1) (.loop (rec' (if jump.isNone then .ready else .done) jump))).heap[w.heap.size]? = some (.deferred (some [])) ∧
            ButI (withLoop T w.heap.size) W (W3.putObj (w.heap.size + 1) (.loop (rec' (if jump.isNone then .ready else .done) jump))) := fun jump W3 hk3 => by
          have hl3 := (hk3.block _ (by simp; omega) hTn.2 (fun _ _ h => by rw [hl2] at h; cases h)).trans hl2
          have hk3' := (hk3.block _ (by simp; omega) hTn.1 (fun _ _ h => by rw [hk2] at h; cases h)).trans hk2
          exact ⟨run_endRound (P := P) jump hl3, World.putObj_heap_same (Array.getElem?_eq_some_iff.1 hl3).1, (World.putObj_heap_other (by omega)).trans hk3',
            (hbA'.trans (hk3.mono fun k h => .inl h)).trans (ButI.putObj _ _ (.inr (.inr rfl)))⟩
        rintro e a3 W3 hp
        cases e with
        | normal =>
          obtain ⟨hr, hl4, hk4, hb4⟩ := fin none W3 hp.1
          exact ⟨_, _, hr, .inl ⟨rfl, ⟨hIp _ _ _ _ hp.2 (.inr rfl), hl4, hk4⟩, hb4⟩⟩
        | ret =>
          obtain ⟨hr, hl4, hk4, hb4⟩ := fin (some .ret) W3 hp.1
          exact ⟨_, _, hr, .inr ⟨rfl, ⟨.ret, hIxp _ _ _ _ _ hp.2 (.inr rfl), hl4, hk4⟩, hb4⟩⟩
        | exit id =>
          obtain ⟨hr, hl4, hk4, hb4⟩ := fin (some (.exit id)) W3 hp.1
          exact ⟨_, _, hr, .inr ⟨rfl, ⟨.exit id, hIxp _ _ _ _ _ hp.2 (.inr rfl), hl4, hk4⟩, hb4⟩⟩
        | goto t =>
          obtain ⟨hr, hl4, hk4, hb4⟩ := fin (some (.goto t)) W3 hp.1
          exact ⟨_, _, hr, .inr ⟨rfl, ⟨.goto t, hIxp _ _ _ _ _ hp.2 (.inr rfl), hl4, hk4⟩, hb4⟩⟩
        | panic ch => exact hp.elim
        | outgrown => exact hp.elim
      | ret => exact h.elim
      | exit id => exact h.elim
      | goto t => exact h.elim
      | panic ch => exact h.elim
      | outgrown => exact h.elim

end Go.Proofs.Ytfjlnejeffkdoaa

/- The points that may be a quantity's own: an iterator, its contract. -/
namespace Go.Proofs.Ytfjlnejeffkdoaa
open Go.RowKit Go.Shelf
attribute [local irreducible] arrV
attribute [local go_sem] Oper.semAt_some

theorem lt_of_dblock {w : World} {b : Nat} {o : Obj} (h : w.heap[b]? = some o) : b < w.heap.size := (Array.getElem?_eq_some_iff.1 h).1

theorem wpListIn_run {F : Fence} {n' : Nat} {P : Program} {ops : Array Oper} {rest : List Oper} {o : Oper} {a : Act} {Q : Exit → Act → World → Prop} {w w2 : World} {v : Value} (hgd : o.guard = none) (hd : ∀ c, o.op ≠ .defer c) (hab : o.about P w a.eval = none)
    (hr : (execOp a.eval o).run P w = .ok (.value v) w2) (h : wpListIn F n' P ops Q rest (a.put o.dst v) w2) : wpListIn F n' P ops Q (o :: rest) a w := by
  refine wpListIn_plain hgd fun K hK => ?_
  unfold Oper.wpIn
  refine ⟨fun f hf => (by rw [hab] at hf; cases hf), ?_⟩
  rw [Oper.semAt_plain F _ _ hd, hr]
  exact hK _ _ h

/-- At which of the twenty points one of the numbers is. -/
def mayAt (xs : List (Int × Int)) (i : Nat) : Bool := xs.any fun x => x.1 == (i : Int)
def mayS (xs : List (Int × Int)) : List Value := (List.range 20).map fun i => Value.bool (mayAt xs i)
def mayV (xs : List (Int × Int)) : Array Value := (mayS xs).toArray
theorem mayV_get (xs : List (Int × Int)) (i : Nat) (hi : i < 20) : (mayV xs)[i]? = some (.bool (mayAt xs i)) := by
  simp [mayV, mayS, List.getElem?_range hi]
theorem mayV_size (xs : List (Int × Int)) : (mayV xs).size = 20 := by simp [mayV, mayS]
theorem mayV_snoc (xs : List (Int × Int)) (x : Int × Int) (h : 0 ≤ x.1) (h2 : x.1 < 20) : (mayV xs).setIfInBounds x.1.toNat (.bool true) = mayV (xs ++ [x]) := by
  apply Array.ext
  · simp [mayV, mayS]
  · intro i h1 h3
    have hi : i < 20 := by simpa [mayV, mayS] using h3
    rw [Array.getElem_setIfInBounds (by simpa [mayV, mayS] using hi)]
    have e1 : (mayV xs)[i]'(by simpa [mayV, mayS] using hi) = .bool (mayAt xs i) := by simp [mayV, mayS]
    have e2 : (mayV (xs ++ [x]))[i]'h3 = .bool (mayAt (xs ++ [x]) i) := by simp [mayV, mayS]
    rw [e1, e2]
    by_cases hx : x.1.toNat = i
    · rw [if_pos hx]
      have : x.1 = (i : Int) := by omega
      simp [mayAt, this]
    · rw [if_neg hx]
      have : (x.1 == (i : Int)) = false := by rw [beq_eq_false_iff_ne]; omega
      simp [mayAt, this]
theorem mayV_nil : mayV [] = #[.bool false, .bool false, .bool false, .bool false, .bool false, .bool false, .bool false, .bool false, .bool false, .bool false, .bool false, .bool false, .bool false, .bool false, .bool false, .bool false, .bool false, .bool false, .bool false, .bool false] := rfl
/-- The points below q at which one of the numbers is, rising. -/
def mayTo (xs : List (Int × Int)) (q : Nat) : List Int := ((List.range q).filter (mayAt xs)).map fun i : Nat => (i : Int)
theorem mayTo_succ (xs : List (Int × Int)) (q : Nat) : mayTo xs (q + 1) = mayTo xs q ++ (if mayAt xs q then [(q : Int)] else []) := by
  unfold mayTo
  rw [List.range_succ, List.filter_append, List.map_append]
  by_cases h : mayAt xs q <;> simp [h]
theorem mayTo_len (xs : List (Int × Int)) (q : Nat) : (mayTo xs q).length ≤ q := by
  unfold mayTo
  rw [List.length_map]
  exact Nat.le_trans (List.length_filter_le _ _) (by simp)

theorem u138 : Try.prog.underlying 138 = some (.array 20 4) := by kernel_rfl
theorem s138 : (Try.prog.info? 138).map (·.size) = some 20 := by kernel_rfl
theorem exec_index_may {a : Act} {o : Oper} {w : World} (x ix : Operand) (ho : o.op = .index 138 x ix) (xs : List (Int × Int)) (q : Nat) (hq : q < 20) (hx : a.eval x = .agg (mayV xs)) (hix : a.eval ix = .int .i64 q) :
    (execOp a.eval o).run Try.prog w = .ok (.value (.bool (mayAt xs q))) w := by
  have h1 : (Try.prog.info? 4).map (·.size) = some 1 := by kernel_rfl
  have hu := u138
  have h20 : (q : Int) < 20 := by omega
  have hg := mayV_get xs q hq
  have hu4 : Try.prog.underlying 4 = some .bool := by kernel_rfl
  cases hi4 : Try.prog.info? 4 with
  | none => rw [hi4] at h1; cases h1
  | some i4 =>
    rw [hi4] at h1
    simp at h1
    simp only [execOp, ho, hx, hix]
    generalize mayV xs = cs at *
    simp [Instr.index, asIntOf, run_underlying hu, Result.andThen, hi4, h1, h20, sizeOf, typeInfo, part, hg, isAgg, hu4, hq, go_sem]

set_option maxRecDepth 100000 in
set_option maxHeartbeats 2000000 in
theorem points_seq (ft fg Bq Br b off cap K : Nat) (ps : List Pt) (r : Rl) (ts : List (List Int)) (fnd : Rs → Int × Int) (w : World) (F : Sane ps r) (HT : TruthsOf ps r b off cap ft ts) (HF : FoundBy fg fnd)
    (hV : ∀ t, IsTr ps t → (fnd (readR ps r t)).1 ≠ -1 → 0 ≤ (fnd (readR ps r t)).1 ∧ (fnd (readR ps r t)).1 < 20) (hK : K ≤ w.heap.size)
    (hB : Box w Br b off cap ps r) (hQ : w.heap[Bq]? = some (.cells #[.func (.func ft) #[] #[], .func (.func fg) #[] #[]] 105 (0, 0))) :
    SeqI Try.prog 86 #[.pointer (some ⟨Br, 0, none⟩), .pointer (some ⟨Bq, 0, none⟩)] (fun x : Int => #[Value.int .i64 x]) (fun pre _ => pre.length < 20) (Rkeep K) (Rkeep K) (TCx (fun k => k = Br ∨ k = b ∨ k = Bq)) (fun xs => xs = mayTo (numsL ps r fnd ts) 20) (fun _ => True) w := by
  intro l T J Jx W hW hTC hJ hJx hY h0
  have hBW : Box W Br b off cap ps r := hB.but (But.of_below (T := fun _ => False) hW) id id
  have hQW := (hW.block Bq (lt_of_block hQ)).trans hQ
  have hKW : K ≤ W.heap.size := Nat.le_trans hK hW.size
  have hTl : ∀ k, T k → k < W.heap.size := fun k h => (hTC k h).1
  have hnew : ∀ k, W.heap.size ≤ k → ¬ T k := fun k hk h => by have := (hTC k h).1; omega
  have HNF := Lib.hid numbers_fn
  refine callsIn_of_wp_marks Try.func86 rfl trivial ?_ rfl
  simp only [Try.ntmps86, List.size_toArray, List.length_cons, List.length_nil, Nat.reduceAdd, Nat.reduceSub, Array.replicate_succ, Array.replicate_zero, List.push_toArray, List.append_toArray, List.nil_append, List.cons_append]
  have hltb : b < W.heap.size := block_lt_of_cell (hBW.pts 0 F.pos).1
  have hBrl := lt_of_block hBW.blk
  have hBql := lt_of_block hQW
  have hx0 := box_below W (.cells (mayV []) 138)
  have x1 := (hx0.block Br hBrl).trans hBW.blk
  have x2 := (hx0.block Bq hBql).trans hQW
  have x3 := heap_alloc_new W (.cells (mayV []) 138)
  rw [mayV_nil] at hx0 x1 x2 x3
  have c0 := cell_of_row _ Br 0 _ _ _ x1
  have c1 := cell_of_row _ Br 1 _ _ _ x1
  have c2 := cell_of_row _ Br 2 _ _ _ x1
  have c3 := cell_of_row _ Br 3 _ _ _ x1
  have e0 := cell_of_row _ Bq 0 _ _ _ x2
  have e1 := cell_of_row _ Bq 1 _ _ _ x2
  simp at c0 c1 c2 c3 e0 e1
  gi_wp2_with fail
  generalize hW0 : W.alloc _ = W0 at *
  have hs0 : W0.heap.size = W.heap.size + 1 := by rw [← hW0]; simp
  clear hW0
  refine ⟨trivial, rfl, ?_⟩
  refine (callsIn_wide.2 (HNF.out _ _ _ _ _ _ _)).mono ?_
  rintro e w1 ⟨rfl, hw1⟩
  obtain ⟨y1, y2⟩ := box2 W0 (.cells #[.slice (some ⟨b, off, none⟩) ps.length cap, .int .i64 r.d, .int .i64 r.k, .int .i64 r.o] 94) (.cells #[.func (.func ft) #[] #[], .func (.func fg) #[] #[]] 105)
  have hb3 := below2 W0 (.cells #[.slice (some ⟨b, off, none⟩) ps.length cap, .int .i64 r.d, .int .i64 r.k, .int .i64 r.o] 94) (.cells #[.func (.func ft) #[] #[], .func (.func fg) #[] #[]] 105)
  rw [← hw1] at y1 y2 hb3
  have hs1 : w1.heap.size = W0.heap.size + 2 := by rw [hw1]; simp
  have x3' := (hb3.block _ (lt_of_block x3)).trans x3
  have hp1 := (hBW.pts.below hx0 hltb).below hb3 (by omega)
  have hbw1 := below_to hx0 hb3
  rw [hs0] at y1 y2 hs1
  rw [show W.heap.size + 1 + 2 = W.heap.size + 3 by omega] at hs1
  clear hw1 c0 c1 c2 c3 e0 e1 x1 x2 x3 hb3 hx0
  rw [hs0]
  clear hs0
  clear W0
  have HSeq := Lib.hid (numbers_seq ft fg (W.heap.size + 1 + 1) (W.heap.size + 1) b off cap ps r ts fnd (fun x => 0 ≤ x.1 ∧ x.1 < 20) w1 F HT HF hV ⟨y1, hp1⟩ y2)
  have HX3 := Lib.hid x3'
  have HB1 := Lib.hid hbw1
  clear x3' hbw1 hV HF HT
  gi_wp2
  refine wp_rangeT rfl (fun args w => enters_of Try.func90 (by kernel_rfl) rfl args w) HSeq.out (Below.refl _ w1) (fun _ => rfl) (fun k => k = W.heap.size) ?tc ⟨by omega, by omega⟩ ?rr ?rs
    (fun pre A => A.heap[W.heap.size]? = some (.cells (mayV pre) 138 (0, 0)))
    (fun _ _ _ => False)
    ?ir (fun _ _ _ _ h => h.elim) ?ig ?ip (fun _ _ _ _ _ h => h.elim) ?h0
    (fun x a' A => a' = { tmps := #[.func (.yield l) #[] #[], .pointer (some ⟨Br, 0, none⟩), .pointer (some ⟨Bq, 0, none⟩), undef, .pointer (some ⟨W.heap.size, 0, none⟩), .int .i64 x.1, undef, undef, .agg #[.slice (some ⟨b, off, none⟩) ps.length cap, .int .i64 r.d, .int .i64 r.k, .int .i64 r.o], .agg #[.func (.func ft) #[] #[], .func (.func fg) #[] #[]],
      .func (.func 90) #[] #[.pointer (some ⟨W.heap.size + 1 + 1, 0, none⟩), .pointer (some ⟨W.heap.size + 1, 0, none⟩)], .int .i64 x.1, .int .i64 x.2, undef, undef, undef, undef, undef, undef, undef, undef, undef, undef, undef, undef, undef, undef, undef], defers := [] })
    ?ax ?assign ?body ?done (fun _ _ _ _ h => h.elim)
  case tc =>
    rintro W2 hb2 hs2 k (hk | hk | hk)
    · exact ⟨by omega, fun hc => by rcases hc with hc | hc | hc <;> omega⟩
    · exact ⟨by omega, fun hc => by rcases hc with hc | hc | hc <;> omega⟩
    · exact ⟨by omega, fun hc => by rcases hc with hc | hc | hc <;> omega⟩
  case rr =>
    rintro A B k hR hk _
    exact hR.2 k (.inr hk)
  case rs =>
    rintro A B k hR hk _
    exact hR.2 k (.inr hk)
  case ir =>
    rintro s A B h hR
    exact (hR.2 _ (.inl rfl)).trans h
  case ig =>
    rintro s A B h hb
    exact (hb.block _ (lt_of_block h)).trans h
  case ip =>
    rintro s A k o h hk
    exact (World.putObj_heap_other (by omega)).trans h
  case h0 => rw [mayV_nil]; exact HX3.out
  case ax => exact fun _ _ _ _ h => h
  case assign =>
    rintro l2 x A hx hA
    simp only [List.zip, List.foldl]
    gi_wp2
    exact ⟨trivial, Below.refl _ _⟩
  case body =>
    rintro l2 pre x a' A ⟨hx0, hx1⟩ hI hb hs rfl
    have hI' : A.heap[W.heap.size]? = some (.cells (mayV pre) 138 (0, 0)) := hI
    have hq : x.1.toNat < 20 := by omega
    have c0 := (cell_of_row A W.heap.size x.1.toNat _ _ _ hI').trans (mayV_get pre _ hq)
    have f0 := frozen_of_row A W.heap.size x.1.toNat _ _ hI'
    have hl := lt_of_block hI'
    have h3 := heap_setCell_same A W.heap.size x.1.toNat _ 138 (.bool true) hI'
    rw [mayV_snoc pre x hx0 hx1] at h3
    clear hI hI'
    gi_wp2
    exact ⟨But.setCell _ _ rfl, h3⟩
  case done =>
    rintro xs A rfl hI hb hK
    have hI' : A.heap[W.heap.size]? = some (.cells (mayV (numsL ps r fnd ts)) 138 (0, 0)) := hI
    have hK0 : Rkeep K T W A := by
      have hk : ∀ k, k < W.heap.size → A.heap[k]? = W.heap[k]? := fun k hk => (hb.block k (by omega) (fun h => by rcases h with h | h | h <;> omega)).trans (HB1.out.block k hk)
      exact ⟨⟨by have := hb.size; omega, fun k h => hk k (hTl k h)⟩, fun k h => hk k (by omega), fun k _ _ _ h => hk k (lt_of_block h), hb.os.trans HB1.out.os, hb.tape.trans HB1.out.tape, hb.output.trans HB1.out.output⟩
    have hJ0 := hJ _ _ _ h0 hK0
    have hbt : ButI T W A := ⟨hK0.os, hK0.tape, hK0.output, hK0.free.1, fun k hk _ _ => (hb.block k (by omega) (fun h => by rcases h with h | h | h <;> omega)).trans (HB1.out.block k hk)⟩
    have hs97 : Hid ((Try.prog.info? 138).map (·.size) = some (mayS (numsL ps r fnd ts)).length) := s138.trans (by simp [mayS])
    have hRG := Lib.hid (show A.rangeAt W.heap.size 0 (mayS (numsL ps r fnd ts)) from range_block (t := 138) hI')
    generalize hxs : numsL ps r fnd ts = xs at *
    clear hI hI' hK0
    gi_wp2_with (first
      | (refine wpListIn_load_row rfl 138 (.tmp 4) rfl W.heap.size 0 rfl (mayS xs) (.array 20 4) (by exact hRG.out) u138 rfl (by exact hs97.out) (mayV xs) rfl ?_)
      | fail)
    rw [hs1] at hK
    have hPut : ∀ (ys : List Int) (B : World) (o : Obj), J ys B → B.heap[W.heap.size + 3]? = some (.deferred (some [])) → J ys (B.putObj (W.heap.size + 3) o) := fun ys B o h hk =>
      hJ _ _ _ h ⟨⟨by simp, fun k hk => World.putObj_heap_other (by have := hTl k hk; omega)⟩, fun k h => World.putObj_heap_other (by omega), fun k _ _ _ h => World.putObj_heap_other (fun e => by rw [e, hk] at h; cases h), rfl, rfl, rfl⟩
    have hPutx : ∀ (ys : List Int) (B : World) (o : Obj), Jx ys B → B.heap[W.heap.size + 3]? = some (.deferred (some [])) → Jx ys (B.putObj (W.heap.size + 3) o) := fun ys B o h hk =>
      hJx _ _ _ h ⟨⟨by simp, fun k hk => World.putObj_heap_other (by have := hTl k hk; omega)⟩, fun k h => World.putObj_heap_other (by omega), fun k _ _ _ h => World.putObj_heap_other (fun e => by rw [e, hk] at h; cases h), rfl, rfl, rfl⟩
    have hPutb : ∀ (B : World) (o : Obj), ButI T W B → ButI T W (B.putObj (W.heap.size + 3) o) := fun B o h =>
      ⟨h.os, h.tape, h.output, by simpa using h.size, fun k hk hn hc => (World.putObj_heap_other (by omega)).trans (h.block k hk hn hc)⟩
    have hbt0 := hbt
    have HPut := Lib.hid hPut
    have HPutx := Lib.hid hPutx
    have HPutb := Lib.hid hPutb
    have HYY := Lib.hid hY
    have HNEW := Lib.hid hnew
    clear hPut hPutx hPutb hY hJ hJx hb hRG hs97 HX3 HSeq HB1 hp1 y1 y2 hbt hBW hQW hnew
    gi_loopw [16] (fun i wr => ∃ q : Nat, q ≤ 20 ∧ i = .int .i64 q ∧ Hid (J (mayTo xs q) wr) ∧ Hid (ButI T W wr) ∧ Hid (wr.heap[W.heap.size + 3]? = some (.deferred (some [])))) (fun i _ => 20 - (intOf i).toNat)
    case atStart => exact ⟨0, by omega, rfl, Lib.hid hJ0, Lib.hid hbt0, Lib.hid hK⟩
    case round =>
      obtain ⟨q, hq, rfl, hJq, hbq, hkq⟩ := hrel
      by_cases hlt : q < 20
      · have hq20 : (q : Int) < 20 := by omega
        have HS := mayTo_succ xs q
        generalize hbv : mayAt xs q = bv at *
        cases bv with
        | false =>
          gi_wp2_with (first
            | (refine wpListIn_run rfl (by intro c hc; cases hc) rfl (exec_index_may (.tmp 15) (.tmp 16) rfl xs q hlt rfl rfl) ?_; rw [hbv])
            | fail)
          refine ⟨fun _ _ => trivial, ?_⟩
          gi_wp2
          go_roundw
          case rel =>
            refine ⟨q + 1, by omega, by simp, ?_, hbq, hkq⟩
            rw [HS]
            simpa using hJq
          case measure => simp [intOf]; omega
        | true =>
          have hl20 : (mayTo xs q).length < 20 := Nat.lt_of_le_of_lt (mayTo_len xs q) hlt
          obtain ⟨fn, tmps, assign, body, hy, hR⟩ := HYY.out (mayTo xs q) q wr hl20 hJq.out hbq.out
          have HR := Lib.hid hR
          clear hR
          gi_wp2_with (first
            | (refine wpListIn_run rfl (by intro c hc; cases hc) rfl (exec_index_may (.tmp 15) (.tmp 16) rfl xs q hlt rfl rfl) ?_; rw [hbv])
            | fail)
          refine ⟨rfl, ?_⟩
          refine HR.out.mono ?_
          clear HR hy
          rintro e W4 (⟨rfl, hJ4, hbt4⟩ | ⟨rfl, hJx4, hbt4⟩)
          · gi_wp2
            go_roundw
            case rel =>
              refine ⟨q + 1, by omega, by simp, ?_, Lib.hid (hbq.out.trans hbt4), Lib.hid ((hbt4.block _ (lt_of_dblock hkq.out) (HNEW.out _ (by omega)) (fun _ _ h => by rw [hkq.out] at h; cases h)).trans hkq.out)⟩
              rw [HS]
              exact Lib.hid (by simpa using hJ4)
            case measure => simp [intOf]; omega
          · have hk4 := (hbt4.block _ (lt_of_dblock hkq.out) (HNEW.out _ (by omega)) (fun _ _ h => by rw [hkq.out] at h; cases h)).trans hkq.out
            gi_wp2
            refine ⟨by simp, .inl ⟨_, _, rfl, run_takeDeferred hk4, ?_⟩⟩
            exact ⟨_, results_none rfl _ _ _, ⟨_, rfl⟩, HPutb.out _ _ (hbq.out.trans hbt4), .inr ⟨_, trivial, HPutx.out _ _ _ hJx4 hk4⟩⟩
      · obtain rfl : q = 20 := by omega
        gi_wp2
        refine ⟨by simp, .inl ⟨_, _, rfl, run_takeDeferred hkq.out, ?_⟩⟩
        exact ⟨_, results_none rfl _ _ _, ⟨_, rfl⟩, HPutb.out _ _ hbq.out, .inl ⟨mayTo xs 20, by rw [hxs], HPut.out _ _ _ hJq.out hkq.out⟩⟩
end Go.Proofs.Ytfjlnejeffkdoaa

/- What an iterator of numbers brings, collected: AppendSeq and Collect of the library, by the iterator's contract. Conditions: at most twenty numbers. -/
namespace Go.Proofs.Ytfjlnejeffkdoaa
open Go.RowKit Go.Shelf
attribute [local go_sem] Oper.semAt_some

/-- One number more, behind a slice of one's own: but for rows of numbers all is as it was. -/
theorem append_one_row (W : World) (base n ty : Nat) (v : Value) (xs : List Value) (y : Int) (hown : W.ownsRow base 3 1 v n xs) (hb : base ≤ W.heap.size) (hn : n ≤ 100) :
    ∃ v' w', (Builtin.append_ #[27, 27] ty #[v, .slice (some ⟨W.heap.size, 0, none⟩) 1 1]).run Try.prog (W.alloc (.cells #[.int .i64 y] 3 (0, 0))) = .ok v' w' ∧ w'.ownsRow base 3 1 v' (n + 1) (xs ++ [.int .i64 y]) ∧ Below base W w' ∧
      (∀ k, k < W.heap.size → (∀ cs z, W.heap[k]? ≠ some (.cells cs 3 z)) → w'.heap[k]? = W.heap[k]?) := by
  obtain ⟨i, z, hi, hz, hs, hby, hzs⟩ := int_info
  have hg : World.grownBy W (W.alloc (.cells #[.int .i64 y] 3 (0, 0))) none := ⟨rfl, rfl, rfl, by simp, fun k hk _ => heap_alloc_low _ _ _ hk⟩
  have hrow : ∀ g, v.ownBlock = some g → ∃ cs, W.heap[g]? = some (.cells cs 3 (0, 0)) := fun g hgv => by
    rcases hown.2 with ⟨hv, _⟩ | ⟨g', _, cur, hv, _, hgg, _⟩
    · rw [hv] at hgv; simp [Value.ownBlock] at hgv
    · rw [hv] at hgv
      simp [Value.ownBlock] at hgv
      subst hgv
      exact ⟨_, hgg⟩
  have hgev : ∀ g, v.ownBlock = some g → base ≤ g := fun g hgv => by
    rcases hown.2 with ⟨hv, _⟩ | ⟨g', _, _, hv, hbg, _, _⟩
    · rw [hv] at hgv; simp [Value.ownBlock] at hgv
    · rw [hv] at hgv
      simp [Value.ownBlock] at hgv
      subst hgv
      exact hbg
  have hown' := hown.kept hg (by cases h : v.ownBlock <;> simp)
  obtain ⟨v', w', hrun, h1, h2, -⟩ := run_append_own (P := Try.prog) (W.alloc (.cells #[.int .i64 y] 3 (0, 0))) base 27 ty 3 i z 1 8 Try.underlying27 hi hz hs hby hzs (by omega) v n xs hown' ⟨W.heap.size, 0, none⟩ 1 1 [.int .i64 y] rfl
    (fun j u hj => by
      obtain rfl : j = 0 := by
        rcases j with _ | j
        · rfl
        · simp at hj
      have := cell_of_row _ W.heap.size 0 _ _ _ (heap_alloc_new W (.cells #[.int .i64 y] 3 (0, 0)))
      simp at hj
      subst hj
      simp [Addr.add])
    (by simp [Value.oneCell']) (by simp [maxLen]; omega) (by omega) (by simp; omega)
  refine ⟨v', w', hrun, h1, ?_, ?_⟩
  · exact ⟨h2.os, h2.tape, h2.output, Nat.le_trans (by simp) h2.size, fun k hk => (h2.block k (by simp; omega) (fun e => by have := hgev k e.symm; omega)).trans (heap_alloc_low _ _ _ (by omega))⟩
  · intro k hk hc
    refine (h2.block k (by simp; omega) (fun e => ?_)).trans (heap_alloc_low _ _ _ hk)
    obtain ⟨cs, hcs⟩ := hrow k e.symm
    exact hc _ _ hcs

theorem ownsRow_held {A B : World} {base n : Nat} {v : Value} {xs : List Value} (h : A.ownsRow base 3 1 v n xs) (hb : ∀ k cs, base ≤ k → A.heap[k]? = some (.cells cs 3 (0, 0)) → B.heap[k]? = A.heap[k]?) : B.ownsRow base 3 1 v n xs := by
  refine ⟨h.1, ?_⟩
  rcases h.2 with h | ⟨g, cap, cur, h1, h2, h3, h4⟩
  · exact .inl h
  · exact .inr ⟨g, cap, cur, h1, h2, (hb g cur h2 h3).trans h3, h4⟩

/-- What has been collected so far. -/
structure Coll (w : World) (S base : Nat) (pre : List Int) (v : Value) (A : World) : Prop where
  s : A.heap[S]? = some (.cells #[v] 27 (0, 0))
  own : A.ownsRow base 3 1 v pre.length (pre.map (Value.int .i64))
  low : Below w.heap.size w A
theorem Coll.held {w : World} {S base : Nat} {pre : List Int} {v : Value} {A B : World} (h : Coll w S base pre v A) (hs : B.heap[S]? = A.heap[S]?) (ho : ∀ k cs, base ≤ k → A.heap[k]? = some (.cells cs 3 (0, 0)) → B.heap[k]? = A.heap[k]?) (hl : Below w.heap.size w B) : Coll w S base pre v B :=
  ⟨hs.trans h.s, ownsRow_held h.own ho, hl⟩

theorem wpListIn_append_run {F : Fence} {n' : Nat} {ops : Array Oper} {rest : List Oper} {o : Oper} {a : Act} {Q : Exit → Act → World → Prop} {w w2 : World} {v : Value} (hgd : o.guard = none) (s x : Operand) (t : TypeId) (ho : o.op = .call { callee := .builtin .append, args := #[s, x], argTypes := #[t, t] }) {sv xv : Value} (hs : a.eval s = sv) (hx : a.eval x = xv)
    (hr : (Builtin.append_ #[t, t] o.type #[sv, xv]).run Try.prog w = .ok v w2) (h : wpListIn F n' Try.prog ops Q rest (a.put o.dst v) w2) : wpListIn F n' Try.prog ops Q (o :: rest) a w := by
  refine wpListIn_plain hgd fun K' hK' => ?_
  unfold Oper.wpIn
  refine ⟨?_, ?_⟩
  · simp [Oper.about, ho, resolve, Target.leads, Sem.run_pure]
  · rw [Oper.semAt_plain F _ _ (by rw [ho]; intro c hc'; cases hc')]
    simp [execOp, ho, resolve, invoke, builtin, hs, hx, hr, Result.andThen]
    exact hK' _ _ h

set_option maxRecDepth 100000 in
set_option maxHeartbeats 2000000 in
theorem appendSeq_ok (gf : Nat) (lb : Array Value) (C : Nat → Prop) (L : List Int) (w : World) (hgf : ∀ args w, (callFunc gf args).run Try.prog w = .ok (.enter gf args) w)
    (hseq : SeqI Try.prog gf lb (fun x : Int => #[Value.int .i64 x]) (fun pre _ => pre.length < 20) (Rkeep w.heap.size) (Rkeep w.heap.size) (TCx C) (fun xs => xs = L) (fun _ => True) w) (hC : ∀ k, C k → k < w.heap.size) :
    Calls Try.prog 85 #[.slice none 0 0, .func (.func gf) #[] lb] w fun e w' => ∃ v, e = .returned v ∧ w'.ownsRow w.heap.size 3 1 v L.length (L.map (Value.int .i64)) ∧ Below w.heap.size w w' := by
  refine (callsIn_wide (n := 0)).1 ?_
  refine callsIn_of_wp_marks Try.func85 rfl trivial ?_ rfl
  simp only [Try.ntmps85, List.size_toArray, List.length_cons, List.length_nil, Nat.reduceAdd, Nat.reduceSub, Array.replicate_succ, Array.replicate_zero, List.push_toArray, List.append_toArray, List.nil_append, List.cons_append]
  have HS := Lib.hid hseq
  clear hseq
  gi_wp2
  have hb1 := box_below w (.cells #[.slice none 0 0] 27)
  have x1 := heap_alloc_new w (.cells #[.slice none 0 0] 27)
  have hs1 : (w.alloc (.cells #[.slice none 0 0] 27)).heap.size = w.heap.size + 1 := by simp
  generalize w.alloc (.cells #[.slice none 0 0] 27) = w1 at *
  refine wp_rangeI rfl hgf HS.out hb1 (fun _ => rfl) (fun k => k = w.heap.size) ?tc ⟨by omega, by omega⟩ ?rr ?rs
    (fun pre A => ∃ v, Coll w w.heap.size (w1.heap.size + 2) pre v A) (fun _ _ _ => False) ?ir (fun _ _ _ _ h _ => h) ?ig ?ip (fun _ _ _ _ _ h _ => h) ?h0
    (fun x a' _ => a' = { tmps := #[.slice none 0 0, .func (.func gf) #[] lb, .pointer (some ⟨w.heap.size, 0, none⟩), undef, .slice none 0 0, .int .i64 x, .func (.func gf) #[] lb, .int .i64 x, undef, undef, undef, undef, undef], defers := [] })
    (fun _ _ _ _ h => h) ?assign ?body ?done (fun _ _ _ _ h => h.elim)
  case tc =>
    rintro W1 hb hs k (hk | hk | hk)
    · exact ⟨by omega, fun h => by have := hC k h; omega⟩
    · exact ⟨by omega, fun h => by have := hC k h; omega⟩
    · exact ⟨by omega, fun h => by have := hC k h; omega⟩
  case rr =>
    rintro A B k hR hk _
    exact hR.free.2 k (.inr hk)
  case rs =>
    rintro A B k hR hk _
    exact hR.free.2 k (.inr hk)
  case ir =>
    rintro s A B ⟨v, h⟩ hR
    exact ⟨v, h.held (hR.row _ _ _ _ h.s) (fun k cs _ hk => hR.row k _ _ _ hk) ⟨hR.os.trans h.low.os, hR.tape.trans h.low.tape, hR.output.trans h.low.output, Nat.le_trans h.low.size hR.free.1, fun k hk => (hR.low k hk).trans (h.low.block k hk)⟩⟩
  case ig =>
    rintro s A B ⟨v, h⟩ hb
    exact ⟨v, h.held (hb.block _ (lt_of_dblock h.s)) (fun k cs _ hk => hb.block k (lt_of_dblock hk)) (below_to h.low hb)⟩
  case ip =>
    rintro s A k o ⟨v, h⟩ hk
    exact ⟨v, h.held (World.putObj_heap_other (by omega)) (fun j cs hj _ => World.putObj_heap_other (by omega)) ⟨h.low.os, h.low.tape, h.low.output, by simpa using h.low.size, fun j hj => (World.putObj_heap_other (by omega)).trans (h.low.block j hj)⟩⟩
  case h0 => exact ⟨.slice none 0 0, x1, ⟨rfl, .inl ⟨rfl, rfl⟩⟩, hb1⟩
  case assign =>
    rintro l2 pre x A hx hA
    simp only [List.zip, List.foldl]
    gi_wp2
    exact ⟨trivial, Below.refl _ _⟩
  case body =>
    rintro l2 pre x a' A hx ⟨v, hI⟩ hb hs rfl
    have hlen : pre.length < 20 := hx
    have c0 := cell_of_row A w.heap.size 0 _ _ _ hI.s
    simp at c0
    have hl := lt_of_dblock hI.s
    obtain ⟨v', w', hr, g1, g2, g3⟩ := append_one_row A (w1.heap.size + 2) pre.length 27 v _ x hI.own hs (by omega)
    have HR := Lib.hid hr
    have e4 : w'.heap[w.heap.size]? = some (.cells #[v] 27 (0, 0)) := (g3 _ hl (fun cs z h => by rw [hI.s] at h; cases h)).trans hI.s
    have d0 := cell_of_row w' w.heap.size 0 _ _ _ e4
    have f0 := frozen_of_row w' w.heap.size 0 _ _ e4
    have hl' := lt_of_dblock e4
    simp at d0
    have hbw := hI.low.trans (g2.mono (by omega))
    have G1 := Lib.hid g1
    have G2 := Lib.hid g2
    have G3 := Lib.hid g3
    have E4 := Lib.hid e4
    have HI := Lib.hid hI
    clear hr g1 g2 g3 e4 hI
    obtain ⟨sa', n', cap', rfl⟩ : ∃ sa n c, v' = .slice sa n c := by
      rcases G1.out.2 with ⟨h, _⟩ | ⟨g, cap, cur, h, _⟩
      · exact ⟨_, _, _, h⟩
      · exact ⟨_, _, _, h⟩
    gi_wp2_with (first
      | (refine wpListIn_run rfl (by intro c hc; cases hc) rfl (exec_buildSlice 27 3 1 _ rfl Try.underlying27 #[.int .i64 x] (by kernel_rfl)) ?_)
      | (refine wpListIn_append_run rfl (.tmp 8) (.tmp 10) 27 rfl rfl rfl (by exact HR.out) ?_)
      | fail)
    refine ⟨?_, .slice sa' n' cap', ?_⟩
    · have hbI : ButI (fun k => k = w.heap.size) A w' := ⟨G2.out.os, G2.out.tape, G2.out.output, G2.out.size, fun k hk _ hc => G3.out k hk hc⟩
      exact hbI.trans (ButI.setCell _ _ rfl)
    · refine ⟨?_, ?_, hbw.setCell (Nat.le_refl _) _⟩
      · have := heap_setCell_same w' w.heap.size 0 _ 27 (.slice sa' n' cap') E4.out
        simpa using this
      · have hx1 : (pre ++ [x]).length = pre.length + 1 := by simp
        have hx2 : (pre ++ [x]).map (Value.int .i64) = pre.map (Value.int .i64) ++ [.int .i64 x] := by simp
        rw [hx1, hx2]
        exact ownsRow_held (A := w') G1.out (fun k cs hk _ => heap_setCell_other w' ⟨w.heap.size, 0, none⟩ k (.slice sa' n' cap') (by show k ≠ w.heap.size; omega))
  case done =>
    rintro xs A rfl ⟨v, hI⟩ hb hK
    have c0 := cell_of_row A w.heap.size 0 _ _ _ hI.s
    simp at c0
    have hl := lt_of_dblock hI.s
    have HI := Lib.hid hI
    clear hI
    gi_wp2
    refine ⟨by simp, .inl ⟨_, _, rfl, run_takeDeferred hK, ?_⟩⟩
    refine ⟨v, by simp [results, Try.results85, go_sem], v, rfl, ?_, ?_⟩
    · exact ownsRow_held (ownsRow_mono (by omega) HI.out.own) (fun k cs _ hk => World.putObj_heap_other (fun e => by rw [e, hK] at hk; cases hk))
    · exact ⟨HI.out.low.os, HI.out.low.tape, HI.out.low.output, by simpa using HI.out.low.size, fun k hk => (World.putObj_heap_other (by omega)).trans (HI.out.low.block k hk)⟩

set_option maxRecDepth 100000 in
set_option maxHeartbeats 1000000 in
theorem collect_ok (gf : Nat) (lb : Array Value) (C : Nat → Prop) (L : List Int) (w : World) (hgf : ∀ args w, (callFunc gf args).run Try.prog w = .ok (.enter gf args) w)
    (hseq : SeqI Try.prog gf lb (fun x : Int => #[Value.int .i64 x]) (fun pre _ => pre.length < 20) (Rkeep w.heap.size) (Rkeep w.heap.size) (TCx C) (fun xs => xs = L) (fun _ => True) w) (hC : ∀ k, C k → k < w.heap.size) :
    Calls Try.prog 58 #[.func (.func gf) #[] lb] w fun e w' => ∃ v, e = .returned v ∧ w'.ownsRow w.heap.size 3 1 v L.length (L.map (Value.int .i64)) ∧ Below w.heap.size w w' := by
  have HA := Lib.hid (appendSeq_ok gf lb C L w hgf hseq hC)
  clear hseq hC
  go_enter Try.func58, Try.ntmps58
  go_wp2_with fail
  refine HA.out.mono ?_
  rintro e w' ⟨v, rfl, h1, h2⟩
  have H1 := Lib.hid h1
  have H2 := Lib.hid h2
  clear h1 h2
  go_wp2
  go_ret
  exact ⟨v, rfl, H1.out, H2.out⟩
end Go.Proofs.Ytfjlnejeffkdoaa
