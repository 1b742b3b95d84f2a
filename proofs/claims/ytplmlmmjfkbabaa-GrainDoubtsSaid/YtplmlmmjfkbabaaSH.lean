/- The doubtful comparisons, as plain lists: what the search for the fewest finds. No condition. -/
import Derived.Test.YtplmlmmjfkbabaaRCJ
import Derived.Test.YtplmlmmjfkbabaaK
namespace Go.Proofs.Ytplmlmmjfkbabaa

def lexB : List Int → List Int → Bool
  | a :: l, b :: m => if a = b then lexB l m else decide (a < b)
  | _, _ => false
def lessL (a b : List Int) : Bool := if a.length = b.length then lexB a b else decide (a.length < b.length)
theorem lex_at : ∀ {a b : List Int} {q : Nat}, (∀ j, j < q → ld a j = ld b j) → q < a.length → q < b.length → ld a q ≠ ld b q → lexB a b = decide (ld a q < ld b q)
  | x :: a, y :: b, 0, _, _, _, hne => by
    simp [ld] at hne ⊢
    rw [lexB, if_neg hne]
  | x :: a, y :: b, q + 1, h, h1, h2, hne => by
    have h0 := h 0 (by omega)
    simp [ld] at h0
    rw [lexB, if_pos h0]
    have := lex_at (a := a) (b := b) (q := q) (fun j hj => by simpa [ld] using h (j + 1) (by omega)) (by simpa using h1) (by simpa using h2) (by simpa [ld] using hne)
    have u1 : ld (x :: a) (q + 1) = ld a q := by simp [ld]
    have u2 : ld (y :: b) (q + 1) = ld b q := by simp [ld]
    rw [u1, u2]
    exact this
  | [], _, q, _, h1, _, _ => by simp at h1
  | _ :: _, [], q, _, _, h2, _ => by simp at h2
theorem lex_eq : ∀ {a b : List Int}, a.length = b.length → (∀ j, j < a.length → ld a j = ld b j) → lexB a b = false
  | [], _, _, _ => by simp [lexB]
  | _ :: _, [], h, _ => by simp at h
  | x :: a, y :: b, h, hj => by
    have h0 := hj 0 (by simp)
    simp [ld] at h0
    rw [lexB, if_pos h0]
    exact lex_eq (by simpa using h) fun j hj' => by simpa [ld] using hj (j + 1) (by simpa using hj')
theorem lex_total : ∀ {a b : List Int}, a.length = b.length → lexB a b = false → lexB b a = false → a = b
  | [], [], _, _, _ => rfl
  | [], _ :: _, h, _, _ => by simp at h
  | _ :: _, [], h, _, _ => by simp at h
  | x :: a, y :: b, h, h1, h2 => by
    unfold lexB at h1 h2
    by_cases e : x = y
    · subst e
      rw [if_pos rfl] at h1 h2
      rw [lex_total (by simpa using h) h1 h2]
    · rw [if_neg e] at h1
      rw [if_neg (Ne.symm e)] at h2
      simp only [decide_eq_false_iff_not] at h1 h2
      omega
theorem less_total {a b : List Int} (h1 : lessL a b = false) (h2 : lessL b a = false) : a = b := by
  unfold lessL at h1 h2
  by_cases e : a.length = b.length
  · rw [if_pos e] at h1
    rw [if_pos e.symm] at h2
    exact lex_total e h1 h2
  · rw [if_neg e] at h1
    rw [if_neg (Ne.symm e)] at h2
    simp only [decide_eq_false_iff_not] at h1 h2
    omega
theorem lex_irrefl : ∀ (a : List Int), lexB a a = false
  | [] => rfl
  | x :: a => by rw [lexB, if_pos rfl]; exact lex_irrefl a
theorem less_def (a b : List Int) : lessL a b = false ↔ b.length ≤ a.length ∧ (a.length = b.length → lexB a b = false) := by
  unfold lessL
  by_cases e : a.length = b.length
  · rw [if_pos e]
    exact ⟨fun h => ⟨by omega, fun _ => h⟩, fun h => h.2 e⟩
  · rw [if_neg e, decide_eq_false_iff_not]
    exact ⟨fun h => ⟨by omega, fun h2 => absurd h2 e⟩, fun h => by have := h.1; omega⟩
/-- The search: each comparison is kept, then left out. -/
def lookF : List Cm → Nat → Dm → List Int → List Int × Int → List Int × Int
  | [], _, d, out, st => if possD d = true ∧ (out.length : Int) ≤ st.2 then (out, out.length) else st
  | c :: cs, q, d, out, st => if possD d = true ∧ (out.length : Int) ≤ st.2 then lookF cs (q + 1) d (out ++ [(q : Int)]) (lookF cs (q + 1) (stepD d c) out st) else st
/-- Which comparisons are left out: is the rest possible? -/
def okS : Dm → List Cm → List Bool → Bool
  | d, [], [] => possD d
  | d, c :: cs, b :: bs => possD d && okS (if b then d else stepD d c) cs bs
  | _, _, _ => false
def numS : Nat → List Bool → List Int
  | _, [] => []
  | q, b :: bs => if b then (q : Int) :: numS (q + 1) bs else numS (q + 1) bs
def restS : List Cm → List Bool → List Cm
  | c :: cs, b :: bs => if b then restS cs bs else c :: restS cs bs
  | _, _ => []
theorem okS_len : ∀ {d : Dm} {cs : List Cm} {bs : List Bool}, okS d cs bs = true → bs.length = cs.length
  | _, [], [], _ => rfl
  | d, c :: cs, b :: bs, h => by
    simp only [okS, Bool.and_eq_true] at h
    simp [okS_len h.2]
  | _, [], _ :: _, h => by simp [okS] at h
  | _, _ :: _, [], h => by simp [okS] at h
theorem okS_poss : ∀ {d : Dm} {cs : List Cm} {bs : List Bool}, okS d cs bs = true → possD d = true
  | _, [], [], h => by simpa [okS] using h
  | d, c :: cs, b :: bs, h => by
    simp only [okS, Bool.and_eq_true] at h
    exact h.1
  | _, [], _ :: _, h => by simp [okS] at h
  | _, _ :: _, [], h => by simp [okS] at h
theorem okS_lay : ∀ {d : Dm} {cs : List Cm} {bs : List Bool}, possD d = true → bs.length = cs.length → okS d cs bs = (layD (restS cs bs) d).isSome
  | d, [], [], h, _ => by simp [okS, restS, layD, h]
  | d, c :: cs, b :: bs, h, hl => by
    have hl' : bs.length = cs.length := by simpa using hl
    simp only [okS, h, Bool.true_and]
    cases b with
    | true => simpa [restS] using okS_lay h hl'
    | false =>
      simp only [restS, Bool.false_eq_true, if_false, layD]
      by_cases hp : possD (stepD d c) = true
      · rw [if_pos hp]
        exact okS_lay hp hl'
      · rw [if_neg hp]
        cases ho : okS (stepD d c) cs bs with
        | false => rfl
        | true => exact absurd (okS_poss ho) hp
  | _, [], _ :: _, _, h => by simp at h
  | _, _ :: _, [], _, h => by simp at h
theorem numS_ge : ∀ {q : Nat} {bs : List Bool} {x : Int}, x ∈ numS q bs → (q : Int) ≤ x ∧ x < q + bs.length
  | q, b :: bs, x, h => by
    have ih : x ∈ numS (q + 1) bs → (q : Int) ≤ x ∧ x < q + (b :: bs).length := fun h => by
      have := numS_ge h
      simp only [List.length_cons]
      omega
    cases b with
    | true =>
      simp only [numS, if_true, List.mem_cons] at h
      rcases h with rfl | h
      · simp; omega
      · exact ih h
    | false =>
      simp only [numS, Bool.false_eq_true, if_false] at h
      exact ih h
theorem numS_len : ∀ (q : Nat) (bs : List Bool), (numS q bs).length ≤ bs.length
  | _, [] => by simp [numS]
  | q, b :: bs => by
    have := numS_len (q + 1) bs
    cases b <;> simp [numS] <;> omega
/-- What the search leaves behind. -/
def BestS (cs : List Cm) (q : Nat) (d : Dm) (out f : List Int) (m : Int) (st : List Int × Int) : Prop :=
  (st = (f, m) ∧ ∀ bs, okS d cs bs = true → m < out.length + (numS q bs).length) ∨
  ∃ b, okS d cs b = true ∧ st = (out ++ numS q b, ((out.length + (numS q b).length : Nat) : Int)) ∧ ((out.length + (numS q b).length : Nat) : Int) ≤ m ∧ ∀ bs, okS d cs bs = true → lessL (numS q bs) (numS q b) = false
theorem lex_head {q : Nat} {bs : List Bool} {l : List Int} : lexB (numS (q + 1) bs) ((q : Int) :: l) = false := by
  cases h : numS (q + 1) bs with
  | nil => rfl
  | cons x r =>
    have := numS_ge (q := q + 1) (bs := bs) (x := x) (by rw [h]; simp)
    unfold lexB
    rw [if_neg (by omega)]
    exact decide_eq_false (by omega)
theorem look_best : ∀ (cs : List Cm) (q : Nat) (d : Dm) (out f : List Int) (m : Int), BestS cs q d out f m (lookF cs q d out (f, m))
  | [], q, d, out, f, m => by
    unfold lookF
    by_cases h : possD d = true ∧ (out.length : Int) ≤ m
    · rw [if_pos h]
      refine .inr ⟨[], by simpa [okS] using h.1, by simp [numS], by simpa [numS] using h.2, fun bs hb => ?_⟩
      match bs, hb with
      | [], _ => rfl
      | _ :: _, hb => simp [okS] at hb
    · rw [if_neg h]
      refine .inl ⟨rfl, fun bs hb => ?_⟩
      match bs, hb with
      | [], hb =>
        simp only [okS] at hb
        simp only [numS, List.length_nil]
        by_cases h2 : (out.length : Int) ≤ m
        · exact absurd ⟨hb, h2⟩ h
        · omega
      | _ :: _, hb => simp [okS] at hb
  | c :: cs, q, d, out, f, m => by
    unfold lookF
    by_cases h : possD d = true ∧ (out.length : Int) ≤ m
    · rw [if_pos h]
      have hp := h.1
      have i1 := look_best cs (q + 1) (stepD d c) out f m
      obtain ⟨⟨f1, m1⟩, h1⟩ : ∃ st, st = lookF cs (q + 1) (stepD d c) out (f, m) := ⟨_, rfl⟩
      rw [← h1] at i1 ⊢
      have i2 := look_best cs (q + 1) d (out ++ [(q : Int)]) f1 m1
      have e : (out ++ [(q : Int)]).length = out.length + 1 := by simp
      unfold BestS at i1 i2
      rw [e] at i2
      rcases i2 with ⟨e2, n2⟩ | ⟨b2, o2, e2, le2, n2⟩
      · rcases i1 with ⟨e1, n1⟩ | ⟨b1, o1, e1, le1, n1⟩
        · cases e1
          refine .inl ⟨e2, fun bs hb => ?_⟩
          match bs, hb with
          | true :: bs, hb =>
            simp only [okS, hp, Bool.true_and, if_true] at hb
            have := n2 bs hb
            simp only [numS, if_true, List.length_cons]
            omega
          | false :: bs, hb =>
            simp only [okS, hp, Bool.true_and, Bool.false_eq_true, if_false] at hb
            have := n1 bs hb
            simpa only [numS, Bool.false_eq_true, if_false] using this
        · cases e1
          refine .inr ⟨false :: b1, by simp [okS, hp, o1], by rw [e2]; simp [numS], by simpa [numS] using le1, fun bs hb => ?_⟩
          match bs, hb with
          | true :: bs, hb =>
            simp only [okS, hp, Bool.true_and, if_true] at hb
            have := n2 bs hb
            simp only [numS, if_true, Bool.false_eq_true, if_false]
            exact (less_def _ _).2 ⟨by simp only [List.length_cons]; omega, fun h => by simp only [List.length_cons] at h; omega⟩
          | false :: bs, hb =>
            simp only [okS, hp, Bool.true_and, Bool.false_eq_true, if_false] at hb
            simpa only [numS, Bool.false_eq_true, if_false] using n1 bs hb
      · have hle : m1 ≤ m := by
          rcases i1 with ⟨e1, -⟩ | ⟨b1, -, e1, le1, -⟩
          · cases e1
            exact Int.le_refl _
          · cases e1
            exact le1
        refine .inr ⟨true :: b2, by simp [okS, hp, o2], by rw [e2]; simp [numS]; omega, by simp only [numS, if_true, List.length_cons]; omega, fun bs hb => ?_⟩
        match bs, hb with
        | true :: bs, hb =>
          simp only [okS, hp, Bool.true_and, if_true] at hb
          have := (less_def _ _).1 (n2 bs hb)
          simp only [numS, if_true]
          refine (less_def _ _).2 ⟨by simp only [List.length_cons]; omega, fun h => ?_⟩
          rw [lexB, if_pos rfl]
          exact this.2 (by simpa using h)
        | false :: bs, hb =>
          simp only [okS, hp, Bool.true_and, Bool.false_eq_true, if_false] at hb
          simp only [numS, if_true, Bool.false_eq_true, if_false]
          refine (less_def _ _).2 ⟨?_, fun _ => lex_head⟩
          simp only [List.length_cons]
          rcases i1 with ⟨e1, n1⟩ | ⟨b1, o1, e1, le1, n1⟩
          · cases e1
            have := n1 bs hb
            omega
          · cases e1
            have := ((less_def _ _).1 (n1 bs hb)).1
            omega
    · rw [if_neg h]
      refine .inl ⟨rfl, fun bs hb => ?_⟩
      have hp := okS_poss hb
      by_cases h2 : (out.length : Int) ≤ m
      · exact absurd ⟨hp, h2⟩ h
      · omega
/-- Those that a list of numbers leaves out. -/
def bitsF (nums : List Int) : Nat → List Cm → List Bool
  | _, [] => []
  | q, _ :: cs => nums.contains (q : Int) :: bitsF nums (q + 1) cs
theorem bitsF_len (nums : List Int) : ∀ (q : Nat) (cs : List Cm), (bitsF nums q cs).length = cs.length
  | _, [] => rfl
  | q, _ :: cs => by simp [bitsF, bitsF_len nums (q + 1) cs]
theorem bits_num : ∀ {q : Nat} {cs : List Cm} {bs : List Bool} {nums : List Int}, bs.length = cs.length → (∀ x : Int, (q : Int) ≤ x → (x ∈ nums ↔ x ∈ numS q bs)) → bitsF nums q cs = bs
  | _, [], [], _, _, _ => rfl
  | q, c :: cs, b :: bs, nums, hl, h => by
    have ih := bits_num (q := q + 1) (cs := cs) (bs := bs) (nums := nums) (by simpa using hl) fun x hx => by
      rw [h x (by omega)]
      cases b with
      | true =>
        simp only [numS, if_true, List.mem_cons]
        exact ⟨fun h => h.elim (fun e => by omega) id, .inr⟩
      | false => simp only [numS, Bool.false_eq_true, if_false]
    simp only [bitsF, ih, List.cons.injEq, and_true]
    have hq := h q (Int.le_refl _)
    cases b with
    | true =>
      simp only [numS, if_true, List.mem_cons, true_or, iff_true] at hq
      simpa using hq
    | false =>
      simp only [numS, Bool.false_eq_true, if_false] at hq
      have : ¬ (q : Int) ∈ nums := fun hm => by
        have := numS_ge (hq.1 hm)
        omega
      simpa using this
  | _, [], _ :: _, _, h, _ => by simp at h
  | _, _ :: _, [], _, h, _ => by simp at h
theorem rest_len : ∀ {q : Nat} {cs : List Cm} {bs : List Bool}, bs.length = cs.length → (restS cs bs).length + (numS q bs).length = cs.length
  | _, [], [], _ => rfl
  | q, c :: cs, b :: bs, h => by
    have := rest_len (q := q + 1) (cs := cs) (bs := bs) (by simpa using h)
    cases b <;> simp [restS, numS] <;> omega
  | _, [], _ :: _, h => by simp at h
  | _, _ :: _, [], h => by simp at h
theorem rest_all : ∀ (cs : List Cm), restS cs (cs.map fun _ => false) = cs
  | [] => rfl
  | c :: cs => by simp [restS, rest_all cs]
theorem num_none : ∀ (q : Nat) (cs : List Cm), numS q (cs.map fun _ => false) = []
  | _, [] => rfl
  | q, c :: cs => by simp [numS, num_none (q + 1) cs]
theorem rest_none : ∀ (cs : List Cm), restS cs (cs.map fun _ => true) = []
  | [] => rfl
  | c :: cs => by simp [restS, rest_none cs]
theorem num_nil : ∀ {q : Nat} {cs : List Cm} {bs : List Bool}, bs.length = cs.length → numS q bs = [] → bs = cs.map fun _ => false
  | _, [], [], _, _ => rfl
  | q, c :: cs, b :: bs, h, hn => by
    cases b with
    | true => simp [numS] at hn
    | false =>
      simp only [numS, Bool.false_eq_true, if_false] at hn
      simp [num_nil (q := q + 1) (cs := cs) (bs := bs) (by simpa using h) hn]
  | _, [], _ :: _, h, _ => by simp at h
  | _, _ :: _, [], h, _ => by simp at h
theorem rest_mem : ∀ {cs : List Cm} {bs : List Bool} {c : Cm}, c ∈ restS cs bs → c ∈ cs
  | x :: cs, b :: bs, c, h => by
    cases b with
    | true =>
      simp only [restS, if_true] at h
      exact List.mem_cons_of_mem _ (rest_mem h)
    | false =>
      simp only [restS, Bool.false_eq_true, if_false, List.mem_cons] at h
      rcases h with rfl | h
      · exact List.mem_cons_self
      · exact List.mem_cons_of_mem _ (rest_mem h)
theorem num_rise : ∀ {q : Nat} {bs : List Bool} {i : Nat}, i + 1 < (numS q bs).length → ld (numS q bs) i < ld (numS q bs) (i + 1)
  | q, b :: bs, i, h => by
    cases b with
    | false =>
      simp only [numS, Bool.false_eq_true, if_false] at h ⊢
      exact num_rise h
    | true =>
      simp only [numS, if_true, List.length_cons] at h ⊢
      cases i with
      | zero =>
        have hx : ld (numS (q + 1) bs) 0 ∈ numS (q + 1) bs := by
          have : ld (numS (q + 1) bs) 0 = (numS (q + 1) bs)[0]'(by omega) := by simp [ld, show 0 < (numS (q + 1) bs).length by omega]
          rw [this]
          exact List.getElem_mem _
        have := (numS_ge hx).1
        simp only [ld, List.getElem?_cons_zero, List.getElem?_cons_succ, Option.getD_some] at this ⊢
        omega
      | succ i =>
        have := num_rise (q := q + 1) (bs := bs) (i := i) (by omega)
        simpa [ld] using this
/-- The doubtful comparisons. -/
def doubtL (cs : List Cm) : List Int := (lookF cs 0 wideD [] ([], cs.length)).1
theorem poss_wide : possD wideD = true := possD_iff.2 fun a ha => by simp [wideD]
theorem doubt_spec (cs : List Cm) : ∃ b, b.length = cs.length ∧ doubtL cs = numS 0 b ∧ (distO (restS cs b)).isSome = true ∧ ∀ bs, bs.length = cs.length → (distO (restS cs bs)).isSome = true → lessL (numS 0 bs) (doubtL cs) = false := by
  have hall : okS wideD cs (cs.map fun _ => true) = true := by
    rw [okS_lay poss_wide (by simp), rest_none]
    rfl
  rcases look_best cs 0 wideD [] [] cs.length with ⟨-, h⟩ | ⟨b, h1, h2, h3, h4⟩
  · have := h _ hall
    have := numS_len 0 (cs.map fun _ => true)
    simp at this
    simp at *
    omega
  · have hl := okS_len h1
    have hD : doubtL cs = numS 0 b := by
      unfold doubtL
      rw [h2]
      simp
    refine ⟨b, hl, hD, by rw [← h1, okS_lay poss_wide hl]; rfl, fun bs hbl hbs => ?_⟩
    rw [hD]
    exact h4 bs (by rw [okS_lay poss_wide hbl]; exact hbs)
end Go.Proofs.Ytplmlmmjfkbabaa
