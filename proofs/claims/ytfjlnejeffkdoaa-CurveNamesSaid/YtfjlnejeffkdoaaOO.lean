/- What is read in a truth by a rule with a greater drop and a greater offset: plain numbers; and the law's 'later'. -/
import Derived.Test.YtfjlnejeffkdoaaKK
namespace Go.Proofs.Ytfjlnejeffkdoaa
open Go.RowKit Go.Shelf
attribute [local irreducible] arrV wpQuiet

theorem fst_later {A B : Nat → Bool} {n : Nat} (h : ∀ i, i < n → A i = true → B i = true) : fst A n < 0 ∨ 0 ≤ fst B n ∧ fst B n ≤ fst A n := by
  rcases fst_cases A n with ⟨e, _⟩ | ⟨k, hk, e, hA, _⟩
  · exact .inl (by omega)
  · rcases fst_cases B n with ⟨_, hn⟩ | ⟨j, hj, e2, _, hno⟩
    · have := hn k hk
      rw [h k hk hA] at this
      cases this
    · refine .inr ⟨by omega, ?_⟩
      rcases Nat.lt_or_ge k j with hlt | hge
      · have := hno k hlt
        rw [h k hk hA] at this
        cases this
      · omega

/-- What CurveRules asks of what is read by the two rules. -/
structure Lat (x y : Rs) : Prop where
  st : y.st = x.st
  pk : y.pk = x.pk
  wk : y.wk = x.wk
  ya : y.ya < 0 ∨ 0 ≤ x.ya ∧ x.ya ≤ y.ya
  ma : y.ma < 0 ∨ 0 ≤ x.ma ∧ x.ma ≤ y.ma

theorem lat_read {ps : List Pt} {r s : Rl} (t : List Int) (hd : r.d ≤ s.d) (hk : s.k = r.k) (hk0 : 0 ≤ r.k) (ho : r.o ≤ s.o) : Lat (readR ps r t) (readR ps s t) := by
  refine ⟨rfl, rfl, rfl, ?_, ?_⟩
  · exact fst_later (A := dropB s.d t) (B := dropB r.d t) fun i _ h => by
      simp only [dropB, decide_eq_true_eq] at h ⊢
      omega
  · exact fst_later (A := meetB ps s t) (B := meetB ps r t) fun i _ h => by
      have h1 : ld t i ≤ s.k * ((pt ps i).s - s.o) := of_decide_eq_true h
      rw [hk] at h1
      have h2 : ld t i ≤ r.k * ((pt ps i).s - r.o) := Int.le_trans h1 (Int.mul_le_mul_of_nonneg_left (show (pt ps i).s - s.o ≤ (pt ps i).s - r.o by omega) hk0)
      exact decide_eq_true h2

set_option maxHeartbeats 400000 in
theorem later_yes (n m : Int) (w : World) (h : n < 0 ∨ 0 ≤ m ∧ m ≤ n) : Calls Try.prog 45 #[.int .i64 n, .int .i64 m] w fun e w' => e = .returned (.bool true) ∧ Below w.heap.size w w' := by
  rcases Int.lt_or_le n 0 with h0 | h0
  · go_enter Try.func45, Try.ntmps45
    go_wp2
    go_ret
    exact ⟨rfl, Below.refl _ _⟩
  · obtain ⟨h1, h2⟩ : 0 ≤ m ∧ m ≤ n := by omega
    go_enter Try.func45, Try.ntmps45
    go_wp2
    go_ret
    exact ⟨rfl, Below.refl _ _⟩

theorem boxes3 (w : World) (A B C : Obj) : (((w.alloc A).alloc B).alloc C).heap[w.heap.size]? = some A ∧ (((w.alloc A).alloc B).alloc C).heap[w.heap.size + 1]? = some B ∧ (((w.alloc A).alloc B).alloc C).heap[w.heap.size + 1 + 1]? = some C := by
  obtain ⟨h0, h1⟩ := box2 w A B
  have h2 := heap_alloc_new ((w.alloc A).alloc B) C
  simp only [World.size_alloc] at h2
  exact ⟨by rw [heap_alloc_low _ _ _ (by simp; omega)]; exact h0, by rw [heap_alloc_low _ _ _ (by simp)]; exact h1, h2⟩

/-- The blocks of the law: the curve, the rule, the other rule. -/
def Three (w : World) (sl : Value) (d k o : Int) (w' : World) : Prop :=
  w'.heap[w.heap.size]? = some (.cells #[sl] 24 (0, 0)) ∧ w'.heap[w.heap.size + 1]? = some (.cells #[.int .i64 d, .int .i64 k, .int .i64 o] 26 (0, 0)) ∧
  (∃ x y, w'.heap[w.heap.size + 1 + 1]? = some (.cells #[x, .int .i64 k, y] 26 (0, 0))) ∧ Below w.heap.size w w'
theorem Three.grown {w : World} {sl : Value} {d k o : Int} {w1 w2 : World} (h : Three w sl d k o w1) (hb : Below w1.heap.size w1 w2) : Three w sl d k o w2 :=
  ⟨(hb.block _ (lt_of_block h.1)).trans h.1, (hb.block _ (lt_of_block h.2.1)).trans h.2.1, h.2.2.1.elim fun x hx => hx.elim fun y hy => ⟨x, y, (hb.block _ (lt_of_block hy)).trans hy⟩, grow_to h.2.2.2 hb⟩
theorem Three.set {w : World} {sl : Value} {d k o : Int} {w1 : World} (h : Three w sl d k o w1) (v : Value) : Three w sl d k o (w1.setCell ⟨w.heap.size + 1 + 1, 0, none⟩ v) ∧ Three w sl d k o (w1.setCell ⟨w.heap.size + 1 + 1, 2, none⟩ v) := by
  obtain ⟨h1, h2, ⟨x, y, h3⟩, h4⟩ := h
  have o1 : ∀ j k, k ≠ w.heap.size + 1 + 1 → (w1.setCell ⟨w.heap.size + 1 + 1, j, none⟩ v).heap[k]? = w1.heap[k]? := fun j k hk => heap_setCell_other _ ⟨w.heap.size + 1 + 1, j, none⟩ k v hk
  have a0 := heap_setCell_same w1 (w.heap.size + 1 + 1) 0 _ 26 v h3
  have a2 := heap_setCell_same w1 (w.heap.size + 1 + 1) 2 _ 26 v h3
  exact ⟨⟨(o1 0 _ (by omega)).trans h1, (o1 0 _ (by omega)).trans h2, ⟨v, y, by simpa using a0⟩, h4.setCell (p := ⟨w.heap.size + 1 + 1, 0, none⟩) (by show w.heap.size ≤ w.heap.size + 1 + 1; omega) v⟩,
    ⟨(o1 2 _ (by omega)).trans h1, (o1 2 _ (by omega)).trans h2, ⟨x, v, by simpa using a2⟩, h4.setCell (p := ⟨w.heap.size + 1 + 1, 2, none⟩) (by show w.heap.size ≤ w.heap.size + 1 + 1; omega) v⟩⟩

set_option maxRecDepth 100000 in
set_option maxHeartbeats 1000000 in
theorem rules_no (sl wl : Value) (d k o a b : Int) (w : World) (ha : 0 ≤ a ∧ a < 256) (hb : 0 ≤ b ∧ b < 256) (HR : ∀ W, Below w.heap.size w W → Calls Try.prog 41 #[.agg #[sl], .agg #[.int .i64 d, .int .i64 k, .int .i64 o]] W fun e w' => e = .returned (.bool false) ∧ Below W.heap.size W w') :
    Calls Try.prog 11 #[.agg #[sl], .agg #[.int .i64 d, .int .i64 k, .int .i64 o], wl, .int .u8 a, .int .u8 b] w fun e w' => e = .returned (.bool true) ∧ Below w.heap.size w w' := by
  have HRR := Lib.hid HR
  have HA := Lib.hid awake_any
  obtain ⟨x1, x2, x3⟩ := boxes3 w (.cells #[sl] 24) (.cells #[.int .i64 d, .int .i64 k, .int .i64 o] 26) (.cells #[.int .i64 d, .int .i64 k, .int .i64 o] 26)
  have hS0 : Three w sl d k o _ := ⟨x1, x2, ⟨_, _, x3⟩, below3 w _ _ _⟩
  have HS0 := Lib.hid hS0
  clear HR x1 x2 x3 hS0
  go_enter Try.func11, Try.ntmps11
  go_wp2_with fail
  generalize World.alloc (World.alloc (World.alloc w _) _) _ = W1 at *
  refine wp_region_noPanic ?_
  refine wp_region_chain (Three w sl d k o) (fun w1 w2 h hb => h.grown hb) (HS0.out.grown (below_drawn _)) (by kernel_rfl) (fun _ _ _ _ _ h => h)
    [(false, 0), (false, 1), (false, 2), (false, 3), (false, 4), (false, 5), (false, 6), (false, 7), (false, 8), (false, 9), (false, 10), (false, 11), (false, 12)] [13, 14, 15] (by kernel_rfl) ?_
  iterate 13
    (refine Walk.takes rfl rfl ?_; apply Exists.intro; refine ⟨fun w' hS => ?_, ?_⟩; (obtain ⟨-, e1, -⟩ := hS; have u0 := cell_of_row w' (w.heap.size + 1) 0 _ _ _ e1; have u2 := cell_of_row w' (w.heap.size + 1) 2 _ _ _ e1; clear e1; simp at u0 u2; go_simp; with_reducible rfl); simp only [List.getElem_toArray, List.getElem_cons_succ, List.getElem_cons_zero, Act.put, List.setIfInBounds_toArray, List.set_cons_zero, List.set_cons_succ])
  refine Walk.fin ?_
  rintro w4 _ hT
  try simp only [List.getElem_toArray, List.getElem_cons_succ, List.getElem_cons_zero, Act.put, List.setIfInBounds_toArray, List.set_cons_zero, List.set_cons_succ]
  obtain ⟨x, y, e3⟩ := hT.2.2.1
  have hc0 := cell_of_row w4 (w.heap.size + 1 + 1) 0 _ _ _ e3
  have hf0 := frozen_of_row w4 (w.heap.size + 1 + 1) 0 _ _ e3
  simp at hc0
  clear e3
  refine Tail.skip rfl rfl (by go_simp; with_reducible rfl) (hT.set _).1 ?_
  replace hT := (hT.set (.int .i64 (min 100000 (IntKind.i64.wrap (d + IntKind.i64.wrap a))))).1
  clear hc0 hf0
  generalize World.setCell w4 _ _ = w5 at *
  simp only [List.getElem_toArray, List.getElem_cons_succ, List.getElem_cons_zero, Act.put, List.setIfInBounds_toArray, List.set_cons_zero, List.set_cons_succ]
  (refine Tail.value rfl rfl (by go_simp; with_reducible rfl) ?_; simp only [List.getElem_toArray, List.getElem_cons_succ, List.getElem_cons_zero, Act.put, List.setIfInBounds_toArray, List.set_cons_zero, List.set_cons_succ])
  obtain ⟨x, y, e3⟩ := hT.2.2.1
  have hc2 := cell_of_row w5 (w.heap.size + 1 + 1) 2 _ _ _ e3
  have hf2 := frozen_of_row w5 (w.heap.size + 1 + 1) 2 _ _ e3
  simp at hc2
  clear e3
  refine Tail.skip rfl rfl (by go_simp; with_reducible rfl) (hT.set _).2 (Tail.done (NoPanic.normal ?_))
  replace hT := (hT.set (.int .i64 (min 1000 (IntKind.i64.wrap (o + IntKind.i64.wrap b))))).2
  clear hc2 hf2
  generalize World.setCell w5 _ _ = w6 at *
  simp only [List.getElem_toArray, List.getElem_cons_succ, List.getElem_cons_zero, Act.put, List.setIfInBounds_toArray, List.set_cons_zero, List.set_cons_succ]
  obtain ⟨e1, e2, -, hbw⟩ := hT
  have c0 := cell_of_row w6 w.heap.size 0 _ _ _ e1
  have d0 := cell_of_row w6 (w.heap.size + 1) 0 _ _ _ e2
  have d1 := cell_of_row w6 (w.heap.size + 1) 1 _ _ _ e2
  have d2 := cell_of_row w6 (w.heap.size + 1) 2 _ _ _ e2
  simp at c0 d0 d1 d2
  clear e1 e2
  have HBW := Lib.hid hbw
  clear hbw
  go_wp2_with fail
  refine (HRR.out _ HBW.out).mono ?_
  rintro e w7 ⟨rfl, hb7⟩
  have hbw := below_to HBW.out hb7
  clear hb7 c0 d0 d1 d2
  go_wp2_with fail
  refine (HA.out _).mono ?_
  rintro e w8 ⟨rfl, hb8⟩
  have hbw2 := below_to hbw hb8
  clear hb8 hbw
  go_wp2
  go_ret
  exact ⟨rfl, hbw2⟩

end Go.Proofs.Ytfjlnejeffkdoaa
