/- The doubtful comparisons, as plain lists: what the search for the fewest finds. No condition. A drawn region whose last operation is a call that may write; a copy of a list. No condition. What the search for doubtful comparisons keeps in memory. No condition. -/
import Derived.Test.YtplmlmmjfkbabaaRCJ
import Derived.Test.YtplmlmmjfkbabaaK
import Derived.Test.YtplmlmmjfkbabaaSC
import Derived.Test.YtplmlmmjfkbabaaRQJ
namespace Go.Proofs.Ytplmlmmjfkbabaa

def lexB : List Int → List Int → Bool
  | a :: l, b :: m => if a = b then lexB l m else decide (a < b)
  | _, _ => false
def lessL (a b : List Int) : Bool := if a.length = b.length then lexB a b else decide (a.length < b.length)
theorem lex_at : ∀ {a b : List Int} {q : Nat}, (∀ j, j < q → ld a j = ld b j) → q < a.length → q < b.length → ld a q ≠ ld b q → lexB a b = decide (ld a q < ld b q)
  | x :: a, y :: b, 0, _, _, _, hne => by
    simp [ld] at hne ⊢
    rw [lexB, if_neg hne]
  | x :: a, y :: b, q + 1, h, h1, h2, hne => by
    have h0 := h 0 (by omega)
    simp [ld] at h0
    rw [lexB, if_pos h0]
    have := lex_at (a := a) (b := b) (q := q) (fun j hj => by simpa [ld] using h (j + 1) (by omega)) (by simpa using h1) (by simpa using h2) (by simpa [ld] using hne)
    have u1 : ld (x :: a) (q + 1) = ld a q := by simp [ld]
    have u2 : ld (y :: b) (q + 1) = ld b q := by simp [ld]
    rw [u1, u2]
    exact this
  | [], _, q, _, h1, _, _ => by simp at h1
  | _ :: _, [], q, _, _, h2, _ => by simp at h2
theorem lex_eq : ∀ {a b : List Int}, a.length = b.length → (∀ j, j < a.length → ld a j = ld b j) → lexB a b = false
  | [], _, _, _ => by simp [lexB]
  | _ :: _, [], h, _ => by simp at h
  | x :: a, y :: b, h, hj => by
    have h0 := hj 0 (by simp)
    simp [ld] at h0
    rw [lexB, if_pos h0]
    exact lex_eq (by simpa using h) fun j hj' => by simpa [ld] using hj (j + 1) (by simpa using hj')
theorem lex_total : ∀ {a b : List Int}, a.length = b.length → lexB a b = false → lexB b a = false → a = b
  | [], [], _, _, _ => rfl
  | [], _ :: _, h, _, _ => by simp at h
  | _ :: _, [], h, _, _ => by simp at h
  | x :: a, y :: b, h, h1, h2 => by
    unfold lexB at h1 h2
    by_cases e : x = y
    · subst e
      rw [if_pos rfl] at h1 h2
      rw [lex_total (by simpa using h) h1 h2]
    · rw [if_neg e] at h1
      rw [if_neg (Ne.symm e)] at h2
      simp only [decide_eq_false_iff_not] at h1 h2
      omega
theorem less_total {a b : List Int} (h1 : lessL a b = false) (h2 : lessL b a = false) : a = b := by
  unfold lessL at h1 h2
  by_cases e : a.length = b.length
  · rw [if_pos e] at h1
    rw [if_pos e.symm] at h2
    exact lex_total e h1 h2
  · rw [if_neg e] at h1
    rw [if_neg (Ne.symm e)] at h2
    simp only [decide_eq_false_iff_not] at h1 h2
    omega
theorem lex_irrefl : ∀ (a : List Int), lexB a a = false
  | [] => rfl
  | x :: a => by rw [lexB, if_pos rfl]; exact lex_irrefl a
theorem less_def (a b : List Int) : lessL a b = false ↔ b.length ≤ a.length ∧ (a.length = b.length → lexB a b = false) := by
  unfold lessL
  by_cases e : a.length = b.length
  · rw [if_pos e]
    exact ⟨fun h => ⟨by omega, fun _ => h⟩, fun h => h.2 e⟩
  · rw [if_neg e, decide_eq_false_iff_not]
    exact ⟨fun h => ⟨by omega, fun h2 => absurd h2 e⟩, fun h => by have := h.1; omega⟩
/-- The search: each comparison is kept, then left out. -/
def lookF : List Cm → Nat → Dm → List Int → List Int × Int → List Int × Int
  | [], _, d, out, st => if possD d = true ∧ (out.length : Int) ≤ st.2 then (out, out.length) else st
  | c :: cs, q, d, out, st => if possD d = true ∧ (out.length : Int) ≤ st.2 then lookF cs (q + 1) d (out ++ [(q : Int)]) (lookF cs (q + 1) (stepD d c) out st) else st
/-- Which comparisons are left out: is the rest possible? -/
def okS : Dm → List Cm → List Bool → Bool
  | d, [], [] => possD d
  | d, c :: cs, b :: bs => possD d && okS (if b then d else stepD d c) cs bs
  | _, _, _ => false
def numS : Nat → List Bool → List Int
  | _, [] => []
  | q, b :: bs => if b then (q : Int) :: numS (q + 1) bs else numS (q + 1) bs
def restS : List Cm → List Bool → List Cm
  | c :: cs, b :: bs => if b then restS cs bs else c :: restS cs bs
  | _, _ => []
theorem okS_len : ∀ {d : Dm} {cs : List Cm} {bs : List Bool}, okS d cs bs = true → bs.length = cs.length
  | _, [], [], _ => rfl
  | d, c :: cs, b :: bs, h => by
    simp only [okS, Bool.and_eq_true] at h
    simp [okS_len h.2]
  | _, [], _ :: _, h => by simp [okS] at h
  | _, _ :: _, [], h => by simp [okS] at h
theorem okS_poss : ∀ {d : Dm} {cs : List Cm} {bs : List Bool}, okS d cs bs = true → possD d = true
  | _, [], [], h => by simpa [okS] using h
  | d, c :: cs, b :: bs, h => by
    simp only [okS, Bool.and_eq_true] at h
    exact h.1
  | _, [], _ :: _, h => by simp [okS] at h
  | _, _ :: _, [], h => by simp [okS] at h
theorem okS_lay : ∀ {d : Dm} {cs : List Cm} {bs : List Bool}, possD d = true → bs.length = cs.length → okS d cs bs = (layD (restS cs bs) d).isSome
  | d, [], [], h, _ => by simp [okS, restS, layD, h]
  | d, c :: cs, b :: bs, h, hl => by
    have hl' : bs.length = cs.length := by simpa using hl
    simp only [okS, h, Bool.true_and]
    cases b with
    | true => simpa [restS] using okS_lay h hl'
    | false =>
      simp only [restS, Bool.false_eq_true, if_false, layD]
      by_cases hp : possD (stepD d c) = true
      · rw [if_pos hp]
        exact okS_lay hp hl'
      · rw [if_neg hp]
        cases ho : okS (stepD d c) cs bs with
        | false => rfl
        | true => exact absurd (okS_poss ho) hp
  | _, [], _ :: _, _, h => by simp at h
  | _, _ :: _, [], _, h => by simp at h
theorem numS_ge : ∀ {q : Nat} {bs : List Bool} {x : Int}, x ∈ numS q bs → (q : Int) ≤ x ∧ x < q + bs.length
  | q, b :: bs, x, h => by
    have ih : x ∈ numS (q + 1) bs → (q : Int) ≤ x ∧ x < q + (b :: bs).length := fun h => by
      have := numS_ge h
      simp only [List.length_cons]
      omega
    cases b with
    | true =>
      simp only [numS, if_true, List.mem_cons] at h
      rcases h with rfl | h
      · simp; omega
      · exact ih h
    | false =>
      simp only [numS, Bool.false_eq_true, if_false] at h
      exact ih h
theorem numS_len : ∀ (q : Nat) (bs : List Bool), (numS q bs).length ≤ bs.length
  | _, [] => by simp [numS]
  | q, b :: bs => by
    have := numS_len (q + 1) bs
    cases b <;> simp [numS] <;> omega
/-- What the search leaves behind. -/
def BestS (cs : List Cm) (q : Nat) (d : Dm) (out f : List Int) (m : Int) (st : List Int × Int) : Prop :=
  (st = (f, m) ∧ ∀ bs, okS d cs bs = true → m < out.length + (numS q bs).length) ∨
  ∃ b, okS d cs b = true ∧ st = (out ++ numS q b, ((out.length + (numS q b).length : Nat) : Int)) ∧ ((out.length + (numS q b).length : Nat) : Int) ≤ m ∧ ∀ bs, okS d cs bs = true → lessL (numS q bs) (numS q b) = false
theorem lex_head {q : Nat} {bs : List Bool} {l : List Int} : lexB (numS (q + 1) bs) ((q : Int) :: l) = false := by
  cases h : numS (q + 1) bs with
  | nil => rfl
  | cons x r =>
    have := numS_ge (q := q + 1) (bs := bs) (x := x) (by rw [h]; simp)
    unfold lexB
    rw [if_neg (by omega)]
    exact decide_eq_false (by omega)
theorem look_best : ∀ (cs : List Cm) (q : Nat) (d : Dm) (out f : List Int) (m : Int), BestS cs q d out f m (lookF cs q d out (f, m))
  | [], q, d, out, f, m => by
    unfold lookF
    by_cases h : possD d = true ∧ (out.length : Int) ≤ m
    · rw [if_pos h]
      refine .inr ⟨[], by simpa [okS] using h.1, by simp [numS], by simpa [numS] using h.2, fun bs hb => ?_⟩
      match bs, hb with
      | [], _ => rfl
      | _ :: _, hb => simp [okS] at hb
    · rw [if_neg h]
      refine .inl ⟨rfl, fun bs hb => ?_⟩
      match bs, hb with
      | [], hb =>
        simp only [okS] at hb
        simp only [numS, List.length_nil]
        by_cases h2 : (out.length : Int) ≤ m
        · exact absurd ⟨hb, h2⟩ h
        · omega
      | _ :: _, hb => simp [okS] at hb
  | c :: cs, q, d, out, f, m => by
    unfold lookF
    by_cases h : possD d = true ∧ (out.length : Int) ≤ m
    · rw [if_pos h]
      have hp := h.1
      have i1 := look_best cs (q + 1) (stepD d c) out f m
      obtain ⟨⟨f1, m1⟩, h1⟩ : ∃ st, st = lookF cs (q + 1) (stepD d c) out (f, m) := ⟨_, rfl⟩
      rw [← h1] at i1 ⊢
      have i2 := look_best cs (q + 1) d (out ++ [(q : Int)]) f1 m1
      have e : (out ++ [(q : Int)]).length = out.length + 1 := by simp
      unfold BestS at i1 i2
      rw [e] at i2
      rcases i2 with ⟨e2, n2⟩ | ⟨b2, o2, e2, le2, n2⟩
      · rcases i1 with ⟨e1, n1⟩ | ⟨b1, o1, e1, le1, n1⟩
        · cases e1
          refine .inl ⟨e2, fun bs hb => ?_⟩
          match bs, hb with
          | true :: bs, hb =>
            simp only [okS, hp, Bool.true_and, if_true] at hb
            have := n2 bs hb
            simp only [numS, if_true, List.length_cons]
            omega
          | false :: bs, hb =>
            simp only [okS, hp, Bool.true_and, Bool.false_eq_true, if_false] at hb
            have := n1 bs hb
            simpa only [numS, Bool.false_eq_true, if_false] using this
        · cases e1
          refine .inr ⟨false :: b1, by simp [okS, hp, o1], by rw [e2]; simp [numS], by simpa [numS] using le1, fun bs hb => ?_⟩
          match bs, hb with
          | true :: bs, hb =>
            simp only [okS, hp, Bool.true_and, if_true] at hb
            have := n2 bs hb
            simp only [numS, if_true, Bool.false_eq_true, if_false]
            exact (less_def _ _).2 ⟨by simp only [List.length_cons]; omega, fun h => by simp only [List.length_cons] at h; omega⟩
          | false :: bs, hb =>
            simp only [okS, hp, Bool.true_and, Bool.false_eq_true, if_false] at hb
            simpa only [numS, Bool.false_eq_true, if_false] using n1 bs hb
      · have hle : m1 ≤ m := by
          rcases i1 with ⟨e1, -⟩ | ⟨b1, -, e1, le1, -⟩
          · cases e1
            exact Int.le_refl _
          · cases e1
            exact le1
        refine .inr ⟨true :: b2, by simp [okS, hp, o2], by rw [e2]; simp [numS]; omega, by simp only [numS, if_true, List.length_cons]; omega, fun bs hb => ?_⟩
        match bs, hb with
        | true :: bs, hb =>
          simp only [okS, hp, Bool.true_and, if_true] at hb
          have := (less_def _ _).1 (n2 bs hb)
          simp only [numS, if_true]
          refine (less_def _ _).2 ⟨by simp only [List.length_cons]; omega, fun h => ?_⟩
          rw [lexB, if_pos rfl]
          exact this.2 (by simpa using h)
        | false :: bs, hb =>
          simp only [okS, hp, Bool.true_and, Bool.false_eq_true, if_false] at hb
          simp only [numS, if_true, Bool.false_eq_true, if_false]
          refine (less_def _ _).2 ⟨?_, fun _ => lex_head⟩
          simp only [List.length_cons]
          rcases i1 with ⟨e1, n1⟩ | ⟨b1, o1, e1, le1, n1⟩
          · cases e1
            have := n1 bs hb
            omega
          · cases e1
            have := ((less_def _ _).1 (n1 bs hb)).1
            omega
    · rw [if_neg h]
      refine .inl ⟨rfl, fun bs hb => ?_⟩
      have hp := okS_poss hb
      by_cases h2 : (out.length : Int) ≤ m
      · exact absurd ⟨hp, h2⟩ h
      · omega
/-- Those that a list of numbers leaves out. -/
def bitsF (nums : List Int) : Nat → List Cm → List Bool
  | _, [] => []
  | q, _ :: cs => nums.contains (q : Int) :: bitsF nums (q + 1) cs
theorem bitsF_len (nums : List Int) : ∀ (q : Nat) (cs : List Cm), (bitsF nums q cs).length = cs.length
  | _, [] => rfl
  | q, _ :: cs => by simp [bitsF, bitsF_len nums (q + 1) cs]
theorem bits_num : ∀ {q : Nat} {cs : List Cm} {bs : List Bool} {nums : List Int}, bs.length = cs.length → (∀ x : Int, (q : Int) ≤ x → (x ∈ nums ↔ x ∈ numS q bs)) → bitsF nums q cs = bs
  | _, [], [], _, _, _ => rfl
  | q, c :: cs, b :: bs, nums, hl, h => by
    have ih := bits_num (q := q + 1) (cs := cs) (bs := bs) (nums := nums) (by simpa using hl) fun x hx => by
      rw [h x (by omega)]
      cases b with
      | true =>
        simp only [numS, if_true, List.mem_cons]
        exact ⟨fun h => h.elim (fun e => by omega) id, .inr⟩
      | false => simp only [numS, Bool.false_eq_true, if_false]
    simp only [bitsF, ih, List.cons.injEq, and_true]
    have hq := h q (Int.le_refl _)
    cases b with
    | true =>
      simp only [numS, if_true, List.mem_cons, true_or, iff_true] at hq
      simpa using hq
    | false =>
      simp only [numS, Bool.false_eq_true, if_false] at hq
      have : ¬ (q : Int) ∈ nums := fun hm => by
        have := numS_ge (hq.1 hm)
        omega
      simpa using this
  | _, [], _ :: _, _, h, _ => by simp at h
  | _, _ :: _, [], _, h, _ => by simp at h
theorem rest_len : ∀ {q : Nat} {cs : List Cm} {bs : List Bool}, bs.length = cs.length → (restS cs bs).length + (numS q bs).length = cs.length
  | _, [], [], _ => rfl
  | q, c :: cs, b :: bs, h => by
    have := rest_len (q := q + 1) (cs := cs) (bs := bs) (by simpa using h)
    cases b <;> simp [restS, numS] <;> omega
  | _, [], _ :: _, h => by simp at h
  | _, _ :: _, [], h => by simp at h
theorem rest_all : ∀ (cs : List Cm), restS cs (cs.map fun _ => false) = cs
  | [] => rfl
  | c :: cs => by simp [restS, rest_all cs]
theorem num_none : ∀ (q : Nat) (cs : List Cm), numS q (cs.map fun _ => false) = []
  | _, [] => rfl
  | q, c :: cs => by simp [numS, num_none (q + 1) cs]
theorem rest_none : ∀ (cs : List Cm), restS cs (cs.map fun _ => true) = []
  | [] => rfl
  | c :: cs => by simp [restS, rest_none cs]
theorem num_nil : ∀ {q : Nat} {cs : List Cm} {bs : List Bool}, bs.length = cs.length → numS q bs = [] → bs = cs.map fun _ => false
  | _, [], [], _, _ => rfl
  | q, c :: cs, b :: bs, h, hn => by
    cases b with
    | true => simp [numS] at hn
    | false =>
      simp only [numS, Bool.false_eq_true, if_false] at hn
      simp [num_nil (q := q + 1) (cs := cs) (bs := bs) (by simpa using h) hn]
  | _, [], _ :: _, h, _ => by simp at h
  | _, _ :: _, [], h, _ => by simp at h
theorem rest_mem : ∀ {cs : List Cm} {bs : List Bool} {c : Cm}, c ∈ restS cs bs → c ∈ cs
  | x :: cs, b :: bs, c, h => by
    cases b with
    | true =>
      simp only [restS, if_true] at h
      exact List.mem_cons_of_mem _ (rest_mem h)
    | false =>
      simp only [restS, Bool.false_eq_true, if_false, List.mem_cons] at h
      rcases h with rfl | h
      · exact List.mem_cons_self
      · exact List.mem_cons_of_mem _ (rest_mem h)
theorem num_rise : ∀ {q : Nat} {bs : List Bool} {i : Nat}, i + 1 < (numS q bs).length → ld (numS q bs) i < ld (numS q bs) (i + 1)
  | q, b :: bs, i, h => by
    cases b with
    | false =>
      simp only [numS, Bool.false_eq_true, if_false] at h ⊢
      exact num_rise h
    | true =>
      simp only [numS, if_true, List.length_cons] at h ⊢
      cases i with
      | zero =>
        have hx : ld (numS (q + 1) bs) 0 ∈ numS (q + 1) bs := by
          have : ld (numS (q + 1) bs) 0 = (numS (q + 1) bs)[0]'(by omega) := by simp [ld, show 0 < (numS (q + 1) bs).length by omega]
          rw [this]
          exact List.getElem_mem _
        have := (numS_ge hx).1
        simp only [ld, List.getElem?_cons_zero, List.getElem?_cons_succ, Option.getD_some] at this ⊢
        omega
      | succ i =>
        have := num_rise (q := q + 1) (bs := bs) (i := i) (by omega)
        simpa [ld] using this
/-- The doubtful comparisons. -/
def doubtL (cs : List Cm) : List Int := (lookF cs 0 wideD [] ([], cs.length)).1
theorem poss_wide : possD wideD = true := possD_iff.2 fun a ha => by simp [wideD]
theorem doubt_spec (cs : List Cm) : ∃ b, b.length = cs.length ∧ doubtL cs = numS 0 b ∧ (distO (restS cs b)).isSome = true ∧ ∀ bs, bs.length = cs.length → (distO (restS cs bs)).isSome = true → lessL (numS 0 bs) (doubtL cs) = false := by
  have hall : okS wideD cs (cs.map fun _ => true) = true := by
    rw [okS_lay poss_wide (by simp), rest_none]
    rfl
  rcases look_best cs 0 wideD [] [] cs.length with ⟨-, h⟩ | ⟨b, h1, h2, h3, h4⟩
  · have := h _ hall
    have := numS_len 0 (cs.map fun _ => true)
    simp at this
    simp at *
    omega
  · have hl := okS_len h1
    have hD : doubtL cs = numS 0 b := by
      unfold doubtL
      rw [h2]
      simp
    refine ⟨b, hl, hD, by rw [← h1, okS_lay poss_wide hl]; rfl, fun bs hbl hbs => ?_⟩
    rw [hD]
    exact h4 bs (by rw [okS_lay poss_wide hbl]; exact hbs)
end Go.Proofs.Ytplmlmmjfkbabaa
namespace Go.Proofs.Ytplmlmmjfkbabaa
open Go.RowKit Go.Shelf
attribute [local irreducible] arrV wpQuiet mat shl

section
variable {P : Program} {ops : Array Oper} {Q : Exit → Act → World → Prop}
/-- The last operation: a call that may write what S leaves free. -/
def LastC (P : Program) (ops : Array Oper) (S : World → Prop) (Q : Exit → Act → World → Prop) (i : Nat) (a : Act) (w : World) : Prop :=
  ∃ o f args, ops[i]? = some o ∧ Region.wanted o (yielded ops a.tmps) = true ∧ (execOp a.eval o).run P w = .ok (.enter f args) w ∧
    Calls P f args w fun e w2 => ∃ v, e = .returned v ∧ S w2 ∧ Q .normal (a.put o.dst v) w2
theorem walk_last {S : World → Prop} (hSg : ∀ w w', S w → Below w.heap.size w w' → S w') (hs : Region.noSelect ops = true) (hQ : ∀ c a d v w, Q (.panic c) (a.put d v) w → Q (.panic c) a w) (z : Nat) :
    ∀ (σ : List (Bool × Nat)) (L : Array Bool) (a : Act) (w : World), chainB ops [z] σ L = true → S w →
      Walk P ops S (fun a' w' => S w' → LastC P ops S Q z a' w') σ a w →
      wpAnyH P .any ops Q S (σ.length + 1) L a w
  | [], L, a, w, hB, hS, hW => by
    simp only [chainB, tailB, Bool.and_eq_true] at hB
    obtain ⟨o, f, args, ho, hw, hrun, hc⟩ := hW w (Below.refl _ _) hS
    rw [show ([] : List (Bool × Nat)).length + 1 = 0 + 1 from rfl]
    refine wpAnyH_all (eq_of_beq hB.1) (by simp) fun j hj => ?_
    obtain rfl : j = z := by simpa using hj
    unfold wpOp
    simp only [ho]
    rw [if_pos hw]
    refine .inl ?_
    unfold Oper.wp
    rw [hrun]
    refine hc.mono ?_
    rintro e w2 ⟨v, rfl, hS2, hq⟩
    exact ⟨hS2, wpAnyH_done (by have h9 := hB.2; unfold setL at h9; simpa using h9) hq _⟩
  | (false, i) :: σ, L, a, w, hB, hS, hW => by
    simp only [chainB, Bool.and_eq_true] at hB
    obtain ⟨⟨hf, hr⟩, hB'⟩ := hB
    obtain ⟨o, v, ho, hy, hw⟩ := hW
    have ih := walk_last hSg hs hQ z σ (setL L i) (a.put o.dst v) w hB' hS hw
    have := wpAnyH_take (md := .any) (Q := Q) (S := S) (fuel := σ.length + 1) (listed := L) (w := w) ho hs hf hr (fun c a w h => hQ c a _ _ w h) hy hS ih
    rw [show ((false, i) :: σ).length + 1 = σ.length + 1 + 1 by simp]
    exact this
  | (true, i) :: σ, L, a, w, hB, hS, hW => by
    simp only [chainB, Bool.and_eq_true] at hB
    obtain ⟨hr, hB'⟩ := hB
    obtain ⟨o, f, args, ho, hw, hrun, hc⟩ := hW
    rw [show ((true, i) :: σ).length + 1 = σ.length + 1 + 1 by simp]
    refine wpAnyH_all (eq_of_beq hr) (by simp) fun j hj => ?_
    obtain rfl : j = i := by simpa using hj
    unfold wpOp
    simp only [ho]
    rw [if_pos hw]
    refine .inl ?_
    unfold Oper.wp
    rw [hrun w hS]
    refine (hc w (Below.refl _ _)).mono ?_
    rintro e w2 ⟨v, rfl, hb2, hw2⟩
    exact ⟨hSg _ _ hS hb2, walk_last hSg hs hQ z σ (setL L j) (a.put o.dst v) w2 hB' (hSg _ _ hS hb2) hw2⟩
theorem wp_region_last (S : World → Prop) {id : Nat} {a : Act} {w : World} (hSg : ∀ w w', S w → Below w.heap.size w w' → S w') (hS0 : S { w with drawn := w.drawn + 1 }) (hm : P.follows .mixedOrders = true) (hQ : ∀ c a d v w, Q (.panic c) (a.put d v) w → Q (.panic c) a w)
    (σ : List (Bool × Nat)) (z : Nat)
    (hB : (Region.noSelect ops && chainB ops [z] σ (Array.replicate ops.size false) && (ops.size == σ.length + 1)) = true)
    (h : Walk P ops S (fun a' w' => S w' → LastC P ops S Q z a' w') σ a { w with drawn := w.drawn + 1 }) :
    (Code.region id ops true).wp P Q a w := by
  simp only [Bool.and_eq_true] at hB
  obtain ⟨⟨hs, hf⟩, hz⟩ := hB
  have hz' : ops.size = σ.length + 1 := by simpa using hz
  refine wp_region_held (S := S) hm ?_
  have := walk_last (Q := Q) (P := P) (ops := ops) hSg hs hQ z σ (Array.replicate ops.size false) a { w with drawn := w.drawn + 1 } hf hS0 h
  rw [← hz'] at this
  exact this
end
theorem own_cells {w : World} {base : Nat} {v : Value} {xs : List Int} (h : w.ownsRow base 3 1 v xs.length (xs.map iV)) :
    ∃ a cap, v = .slice a xs.length cap ∧ (a = none → xs.length = 0) ∧ (0 < xs.length → ∃ b off, a = some ⟨b, off, none⟩ ∧ ∀ j u, (xs.map iV)[j]? = some u → w.cell? ⟨b, off + j, none⟩ = some u) := by
  obtain ⟨a, cap, rfl⟩ := own_shape h
  exact ⟨a, cap, rfl, ints_cells (own_ints (l := xs) (by simpa using h))⟩
theorem nil_yes (w : World) : (binOp .eql 50 (.slice none 0 0) (.slice none 0 0)).run Try.prog w = .ok (.bool true) w := by kernel_rfl
theorem nil_no (ad : Addr) (n c : Nat) (w : World) : (binOp .eql 50 (.slice (some ad) n c) (.slice none 0 0)).run Try.prog w = .ok (.bool false) w := by kernel_rfl
set_option maxRecDepth 100000 in
set_option maxHeartbeats 1000000 in
theorem clone_any (B : Nat) (v : Value) (xs : List Int) (w : World) (hl : xs.length ≤ 100) (h : w.ownsRow B 3 1 v xs.length (xs.map iV)) :
    Calls Try.prog 86 #[v] w fun e w' => (∃ r, e = .returned r ∧ w'.ownsRow w.heap.size 3 1 r xs.length (xs.map iV)) ∧ Below w.heap.size w w' := by
  obtain ⟨a, cap, rfl, h0, hc⟩ := own_cells h
  cases a with
  | none =>
    have hz := h0 rfl
    obtain rfl := List.eq_nil_of_length_eq_zero hz
    rcases h.2 with ⟨hv, -⟩ | ⟨g, c, cur, hv, -⟩
    · cases hv
      clear h h0 hc hz
      have q1 := nil_yes
      go_enter Try.func86, Try.ntmps86
      go_wp2
      go_ret
      exact ⟨⟨_, rfl, World.ownsRow_nil _ _ _ _⟩, Below.refl _ _⟩
    · cases hv
  | some ad =>
    have hb1 := box_below w (.cells #[] 3)
    have ho1 := act_empty 3 1 w.heap.size w (Nat.le_refl _)
    have hca : 0 < xs.length → ∃ b off, (some ad : Option Addr) = some ⟨b, off, none⟩ ∧ ∀ j u, (xs.map iV)[j]? = some u → (w.alloc (.cells #[] 3)).cell? ⟨b, off + j, none⟩ = some u := fun hp => by
      obtain ⟨b, off, e, hcc⟩ := hc hp
      exact ⟨b, off, e, fun j u hj => by
        have hx := hcc j u hj
        exact (hb1.cell (p := ⟨b, off + j, none⟩) (block_lt_of_cell hx)).trans hx⟩
    obtain ⟨ov, W3, hr3, ho3, hb3, -, -, -⟩ := act_app2 el50 w.heap.size 0 (.slice (some ⟨w.heap.size, 0, none⟩) 0 0) [] (some ad) xs.length cap (xs.map iV) (w.alloc (.cells #[] 3)) (fun k => k < (w.alloc (.cells #[] 3)).heap.size) 50 (by simp [maxLen]; omega) (by omega) ho1 (by simp) (by simp) (fun h => by cases h) hca (by simp [iV, Value.oneCell']) (fun k hk => by simp [Value.ownBlock] at hk; subst hk; simp) (fun k h => h)
    rw [Nat.zero_add, List.nil_append] at ho3
    have HR := Lib.hid hr3
    have HO := Lib.hid ho3
    have HB := Lib.hid (hb1.trans hb3)
    clear h h0 hc hca hr3 ho3 hb3 ho1 hb1
    have q1 := nil_no ad xs.length cap
    go_enter Try.func86, Try.ntmps86
    go_wp2_with (first
      | (refine wpList_append_by (v := ov) (W' := W3) (y := .slice (some ⟨w.heap.size, 0, none⟩) 0 0) (z := .slice (some ad) xs.length cap) rfl (.tmp 5) (.tmp 6) 50 50 50 rfl rfl rfl rfl HR.out ?_)
      | fail)
    go_ret
    exact ⟨⟨_, rfl, HO.out⟩, HB.out⟩
end Go.Proofs.Ytplmlmmjfkbabaa
namespace Go.Proofs.Ytplmlmmjfkbabaa
open Go.RowKit Go.Shelf
attribute [local irreducible] arrV wpQuiet mat shl

def pz (k : Nat) : Value := .pointer (some ⟨k, 0, none⟩)
def closV (z : Nat) : Value := .func (.func 85) #[] #[pz (z + 1), pz (z + 3), pz z, pz (z + 2), pz (z + 4)]
/-- What may change: the three variables, and the row of the list of those left out. -/
def TS (z : Nat) (sl : Value) : Nat → Prop := fun k => k = z + 1 ∨ k = z + 2 ∨ k = z + 3 ∨ sl.ownBlock = some k
structure LookW (z : Nat) (n : Int) (av : Value) (cs : List Cm) (W : World) (outL f : List Int) (m : Int) (sl fv : Value) : Prop where
  ha : W.heap[z]? = some (.cells #[.int .i64 n, av] 31 (0, 0))
  ho : W.heap[z + 1]? = some (.cells #[sl] 50 (0, 0))
  hf : W.heap[z + 2]? = some (.cells #[fv] 50 (0, 0))
  hm : W.heap[z + 3]? = some (.cells #[.int .i64 m] 3 (0, 0))
  hl : W.heap[z + 4]? = some (.cells #[closV z] 132 (0, 0))
  out : W.ownsRow (z + 5) 3 1 sl outL.length (outL.map iV)
  few : W.ownsRow (z + 5) 3 1 fv f.length (f.map iV)
  apart : ∀ k, sl.ownBlock = some k → fv.ownBlock ≠ some k
  cms : CmsV z W av cs
theorem own_put {w : World} {base e sz n b j : Nat} {v u : Value} {xs : List Value} (h : w.ownsRow base e sz v n xs) (hb : b < base) : (w.setCell ⟨b, j, none⟩ u).ownsRow base e sz v n xs :=
  own_same h fun g hg _ => heap_setCell_other w ⟨b, j, none⟩ g u (by show g ≠ b; omega)
theorem cms_put {m b j : Nat} {w : World} {v u : Value} {cs : List Cm} (h : CmsV m w v cs) (hb : m ≤ b) : CmsV m (w.setCell ⟨b, j, none⟩ u) v cs :=
  h.same fun k hk => heap_setCell_other w ⟨b, j, none⟩ k u (by show k ≠ b; omega)
theorem LookW.below {z : Nat} {n : Int} {av : Value} {cs : List Cm} {W W' : World} {outL f : List Int} {m : Int} {sl fv : Value} (h : LookW z n av cs W outL f m sl fv) (hb : Below W.heap.size W W') : LookW z n av cs W' outL f m sl fv :=
  ⟨(hb.block _ (lt_of_block h.ha)).trans h.ha, (hb.block _ (lt_of_block h.ho)).trans h.ho, (hb.block _ (lt_of_block h.hf)).trans h.hf, (hb.block _ (lt_of_block h.hm)).trans h.hm, (hb.block _ (lt_of_block h.hl)).trans h.hl, row_kept h.out hb, row_kept h.few hb, h.apart, h.cms.same fun k hk => hb.block k (Nat.lt_trans hk (lt_of_block h.ha))⟩
theorem LookW.push {z : Nat} {n : Int} {av : Value} {cs : List Cm} {W w' : World} {outL f : List Int} {m q : Int} {sl fv : Value} {g c : Nat} (h : LookW z n av cs W outL f m sl fv)
    (ho : w'.ownsRow (z + 5) 3 1 (.slice (some ⟨g, 0, none⟩) (outL.length + 1) c) (outL.length + 1) (outL.map iV ++ [.int .i64 q])) (hg : Grew (z + 5) W w' sl) (hgr : sl.ownBlock = some g ∨ W.heap.size ≤ g) :
    LookW z n av cs (w'.setCell ⟨z + 1, 0, none⟩ (.slice (some ⟨g, 0, none⟩) (outL.length + 1) c)) (outL ++ [q]) f m (.slice (some ⟨g, 0, none⟩) (outL.length + 1) c) fv ∧
    But (TS z sl) W (w'.setCell ⟨z + 1, 0, none⟩ (.slice (some ⟨g, 0, none⟩) (outL.length + 1) c)) := by
  have hlow : ∀ k, k < z + 5 → w'.heap[k]? = W.heap[k]? := fun k hk => hg.below.block k hk
  have hset : ∀ k, k ≠ z + 1 → (w'.setCell ⟨z + 1, 0, none⟩ (.slice (some ⟨g, 0, none⟩) (outL.length + 1) c)).heap[k]? = w'.heap[k]? := fun k hk => heap_setCell_other w' ⟨z + 1, 0, none⟩ k _ hk
  have hcell := heap_setCell_same w' (z + 1) 0 _ 50 (.slice (some ⟨g, 0, none⟩) (outL.length + 1) c) ((hlow _ (by omega)).trans h.ho)
  have hgw : g < w'.heap.size := (own_lt ho rfl).2
  have hfew : w'.ownsRow (z + 5) 3 1 fv f.length (f.map iV) := by
    refine ⟨h.few.1, ?_⟩
    rcases h.few.2 with h2 | ⟨k, c', cur, rfl, hbk, hk, hr⟩
    · exact .inl h2
    · exact .inr ⟨k, c', cur, rfl, hbk, (hg.block k (lt_of_block hk) (fun e => h.apart k e rfl)).trans hk, hr⟩
  refine ⟨⟨(hset _ (by omega)).trans ((hlow _ (by omega)).trans h.ha), by simpa using hcell, (hset _ (by omega)).trans ((hlow _ (by omega)).trans h.hf), (hset _ (by omega)).trans ((hlow _ (by omega)).trans h.hm), (hset _ (by omega)).trans ((hlow _ (by omega)).trans h.hl),
    own_put (by simpa [iV] using ho) (by omega), own_put hfew (by omega), fun k hk => ?_, cms_put (h.cms.same fun k hk => hlow k (by omega)) (by omega)⟩, ?_⟩
  · simp only [Value.ownBlock, Option.some.injEq] at hk
    subst hk
    rcases hgr with e | e
    · exact h.apart _ e
    · intro e2
      have := (own_lt h.few e2).2
      omega
  · refine ⟨hg.below.os, hg.below.tape, hg.below.output, ?_, fun k hk hn => ?_⟩
    · have := hg.below.size
      simpa [World.setCell] using this
    · rw [hset k (fun e => hn (.inl e))]
      exact hg.block k hk (fun e => hn (.inr (.inr (.inr e))))
theorem LookW.pop {z : Nat} {n : Int} {av : Value} {cs : List Cm} {W : World} {outL f : List Int} {m q : Int} {ad : Option Addr} {c : Nat} {fv : Value} (h : LookW z n av cs W (outL ++ [q]) f m (.slice ad (outL.length + 1) c) fv) :
    LookW z n av cs (W.setCell ⟨z + 1, 0, none⟩ (.slice ad outL.length c)) outL f m (.slice ad outL.length c) fv := by
  have hset : ∀ k, k ≠ z + 1 → (W.setCell ⟨z + 1, 0, none⟩ (.slice ad outL.length c)).heap[k]? = W.heap[k]? := fun k hk => heap_setCell_other W ⟨z + 1, 0, none⟩ k _ hk
  have hcell := heap_setCell_same W (z + 1) 0 _ 50 (.slice ad outL.length c) h.ho
  refine ⟨(hset _ (by omega)).trans h.ha, by simpa using hcell, (hset _ (by omega)).trans h.hf, (hset _ (by omega)).trans h.hm, (hset _ (by omega)).trans h.hl, own_put ?_ (by omega), own_put h.few (by omega), fun k hk => h.apart k ?_, cms_put h.cms (by omega)⟩
  · refine ⟨by simp, ?_⟩
    rcases h.out.2 with ⟨hv, h0⟩ | ⟨g, c', cur, hv, hbk, hk, hn, hc, hs, ht⟩
    · simp at h0
    · simp only [Value.slice.injEq] at hv
      obtain ⟨rfl, -, rfl⟩ := hv
      refine .inr ⟨g, c, cur, rfl, hbk, hk, ?_, hc, hs, ?_⟩
      · simp only [List.length_append, List.length_cons, List.length_nil] at hn; omega
      · have := congrArg (List.take outL.length) ht
        simp only [List.map_append, List.length_append, List.length_cons, List.length_nil, Nat.mul_one, Nat.zero_add] at this
        rw [List.take_take, Nat.min_eq_left (by omega), List.take_append_of_le_length (by simp)] at this
        rw [List.take_of_length_le (by simp : (outL.map iV).length ≤ outL.length)] at this
        simpa using this
  · cases ad with
    | none => simp [Value.ownBlock] at hk
    | some x => simpa [Value.ownBlock] using hk
theorem LookW.found {z : Nat} {n : Int} {av : Value} {cs : List Cm} {W W' : World} {outL f : List Int} {m : Int} {sl fv r : Value} (h : LookW z n av cs W outL f m sl fv) (hb : Below W.heap.size W W')
    (hr : W'.ownsRow W.heap.size 3 1 r outL.length (outL.map iV)) :
    LookW z n av cs ((W'.setCell ⟨z + 2, 0, none⟩ r).setCell ⟨z + 3, 0, none⟩ (.int .i64 outL.length)) outL outL outL.length sl r ∧ But (TS z sl) W ((W'.setCell ⟨z + 2, 0, none⟩ r).setCell ⟨z + 3, 0, none⟩ (.int .i64 outL.length)) := by
  have hz := lt_of_block h.hl
  have h' := h.below hb
  have s1 : ∀ k, k ≠ z + 2 → (W'.setCell ⟨z + 2, 0, none⟩ r).heap[k]? = W'.heap[k]? := fun k hk => heap_setCell_other W' ⟨z + 2, 0, none⟩ k _ hk
  have s2 : ∀ k, k ≠ z + 3 → ((W'.setCell ⟨z + 2, 0, none⟩ r).setCell ⟨z + 3, 0, none⟩ (.int .i64 outL.length)).heap[k]? = (W'.setCell ⟨z + 2, 0, none⟩ r).heap[k]? := fun k hk => heap_setCell_other _ ⟨z + 3, 0, none⟩ k _ hk
  have c1 := heap_setCell_same W' (z + 2) 0 _ 50 r h'.hf
  have c2 := heap_setCell_same (W'.setCell ⟨z + 2, 0, none⟩ r) (z + 3) 0 _ 3 (.int .i64 outL.length) ((s1 _ (by omega)).trans h'.hm)
  have hrr : W'.ownsRow (z + 5) 3 1 r outL.length (outL.map iV) := ownsRow_mono (by omega) hr
  refine ⟨⟨(s2 _ (by omega)).trans ((s1 _ (by omega)).trans h'.ha), (s2 _ (by omega)).trans ((s1 _ (by omega)).trans h'.ho), (s2 _ (by omega)).trans (by simpa using c1), by simpa using c2, (s2 _ (by omega)).trans ((s1 _ (by omega)).trans h'.hl),
    own_put (own_put h'.out (by omega)) (by omega), own_put (own_put hrr (by omega)) (by omega), fun k hk e => ?_, cms_put (cms_put h'.cms (by omega)) (by omega)⟩, ?_⟩
  · have a1 := (own_lt h.out hk).2
    have a2 := (own_lt hr e).1
    omega
  · refine ⟨hb.os, hb.tape, hb.output, ?_, fun k hk hn => ?_⟩
    · have := hb.size
      simpa [World.setCell] using this
    · rw [s2 k (fun e => hn (.inr (.inr (.inl e)))), s1 k (fun e => hn (.inr (.inl e)))]
      exact hb.block k hk
end Go.Proofs.Ytplmlmmjfkbabaa
