/- A region whose head is taken, of which then one load and one call may come in either order, and a tail behind both; and the law's copy of a material. Condition: at most a thousand ranges. -/
import Derived.Test.YtfijaafkagcmmaaR4
namespace Go.Proofs.Ytfijaafkagcmmaa
open Go.RowKit Go.Shelf

section
variable {P : Program} {ops : Array Oper} {Q : Exit → Act → World → Prop}

def CallTail (P : Program) (S : World → Prop) (oj : Oper) (F : Act → World → Prop) (a : Act) (w : World) : Prop :=
  ∃ f args, (execOp a.eval oj).run P w = .ok (.enter f args) w ∧ Calls P f args w fun e w2 => ∃ u, e = .returned u ∧ S w2 ∧ F (a.put oj.dst u) w2
def Beside (P : Program) (ops : Array Oper) (S : World → Prop) (Q : Exit → Act → World → Prop) (i j k : Nat) (τ : List Nat) (a : Act) (w : World) : Prop :=
  ∃ oi oj, ops[i]? = some oi ∧ ops[j]? = some oj ∧ oi.guard = none ∧ oj.guard = none ∧
    (∃ v, (execOp a.eval oi).run P w = .ok (.value v) w ∧ CallTail P S oj (fun a' w' => Tail P ops S Q (k :: τ) a' w') (a.put oi.dst v) w) ∧
    CallTail P S oj (fun a' w' => Tail P ops S Q (i :: k :: τ) a' w' ∧ Tail P ops S Q (k :: i :: τ) a' w') a w
/-- All of σ first, then the load i beside the call j and k behind it, then τ. -/
def besideB (ops : Array Oper) (i j k : Nat) (τ : List Nat) : List (Bool × Nat) → Array Bool → Bool
  | [], L => (Region.ready .any ops L == [i, j]) && (Region.ready .any ops (setL L i) == [j]) && (Region.ready .any ops (setL L j) == [i, k]) && tailB ops (k :: τ) (setL (setL L i) j) && tailB ops (k :: τ) (setL (setL L j) i) && tailB ops (i :: τ) (setL (setL L j) k)
  | (false, m) :: σ, L => (Region.free .any ops L m) && ((Region.ready .any ops L).contains m) && besideB ops i j k τ σ (setL L m)
  | (true, _) :: _, _ => false

theorem step_call {S : World → Prop} {m j : Nat} {L : Array Bool} {a : Act} {w : World} {oj : Oper} {F : Act → World → Prop} (ho : ops[j]? = some oj) (hg : oj.guard = none) (h : CallTail P S oj F a w)
    (hF : ∀ a' w', S w' → F a' w' → wpAnyH P .any ops Q S m (setL L j) a' w') : wpOp P ops Q j (fun a' w' => S w' ∧ wpAnyH P .any ops Q S m (L.setIfInBounds j true) a' w') a w := by
  obtain ⟨f, args, hr, hc⟩ := h
  unfold wpOp
  simp only [ho]
  rw [if_pos (by simp [Region.wanted, hg])]
  refine .inl ?_
  unfold Oper.wp
  rw [hr]
  refine hc.mono ?_
  rintro e w2 ⟨u, rfl, hS, h⟩
  exact ⟨hS, hF _ _ hS h⟩
theorem step_value {S : World → Prop} {m i : Nat} {L : Array Bool} {a : Act} {w : World} {oi : Oper} {v : Value} (ho : ops[i]? = some oi) (hg : oi.guard = none) (h : (execOp a.eval oi).run P w = .ok (.value v) w) (hS : S w)
    (hF : wpAnyH P .any ops Q S m (setL L i) (a.put oi.dst v) w) : wpOp P ops Q i (fun a' w' => S w' ∧ wpAnyH P .any ops Q S m (L.setIfInBounds i true) a' w') a w := by
  unfold wpOp
  simp only [ho]
  rw [if_pos (by simp [Region.wanted, hg])]
  refine .inl ?_
  unfold Oper.wp
  rw [h]
  exact ⟨hS, hF⟩

theorem walk_beside {S : World → Prop} (hs : Region.noSelect ops = true) (hQ : ∀ c a d v w, Q (.panic c) (a.put d v) w → Q (.panic c) a w) (i j k : Nat) (τ : List Nat) :
    ∀ (σ : List (Bool × Nat)) (L : Array Bool) (a : Act) (w : World), besideB ops i j k τ σ L = true → S w →
      Walk P ops S (fun a' w' => S w' → Beside P ops S Q i j k τ a' w') σ a w →
      wpAnyH P .any ops Q S (σ.length + τ.length + 3) L a w
  | [], L, a, w, hB, hS, hW => by
    simp only [besideB, Bool.and_eq_true] at hB
    obtain ⟨⟨⟨⟨⟨hr, hri⟩, hrj⟩, h1⟩, h2⟩, h3⟩ := hB
    obtain ⟨oi, oj, hoi, hoj, hgi, hgj, ⟨v, hv, hc⟩, hc2⟩ := hW w (Below.refl _ _) hS
    rw [show ([] : List (Bool × Nat)).length + τ.length + 3 = (k :: τ).length + 1 + 1 by simp]
    refine wpAnyH_all (eq_of_beq hr) (by simp) fun m hm => ?_
    rcases (by simpa using hm : m = i ∨ m = j) with rfl | rfl
    · refine step_value hoi hgi hv hS ?_
      refine wpAnyH_all (eq_of_beq hri) (by simp) fun m hm => ?_
      obtain rfl : m = j := by simpa using hm
      exact step_call hoj hgj hc fun a' w' hS' hT => tail_any (k :: τ) _ _ _ h1 hS' hT
    · refine step_call hoj hgj hc2 fun a' w' hS' hT => ?_
      refine wpAnyH_all (eq_of_beq hrj) (by simp) fun n hn => ?_
      rcases (by simpa using hn : n = i ∨ n = k) with rfl | rfl
      · exact tail_step (k :: τ) n _ _ _ h2 hS' hT.1
      · exact tail_step (i :: τ) n _ _ _ h3 hS' hT.2
  | (false, m) :: σ, L, a, w, hB, hS, hW => by
    simp only [besideB, Bool.and_eq_true] at hB
    obtain ⟨⟨hf, hr⟩, hB'⟩ := hB
    obtain ⟨o, v, ho, hy, hw⟩ := hW
    have ih := walk_beside hs hQ i j k τ σ (setL L m) (a.put o.dst v) w hB' hS hw
    have := wpAnyH_take (md := .any) (Q := Q) (S := S) (fuel := σ.length + τ.length + 3) (listed := L) (w := w) ho hs hf hr (fun c a w h => hQ c a _ _ w h) hy hS ih
    rw [show ((false, m) :: σ).length + τ.length + 3 = σ.length + τ.length + 3 + 1 by simp; omega]
    exact this
  | (true, _) :: _, _, _, _, hB, _, _ => by simp [besideB] at hB

theorem wp_region_beside (S : World → Prop) {id : Nat} {a : Act} {w : World} (hS0 : S { w with drawn := w.drawn + 1 }) (hm : P.follows .mixedOrders = true) (hQ : ∀ c a d v w, Q (.panic c) (a.put d v) w → Q (.panic c) a w)
    (σ : List (Bool × Nat)) (i j k : Nat) (τ : List Nat)
    (hB : (Region.noSelect ops && besideB ops i j k τ σ (Array.replicate ops.size false) && (ops.size == σ.length + τ.length + 3)) = true)
    (h : Walk P ops S (fun a' w' => S w' → Beside P ops S Q i j k τ a' w') σ a { w with drawn := w.drawn + 1 }) :
    (Code.region id ops true).wp P Q a w := by
  simp only [Bool.and_eq_true] at hB
  obtain ⟨⟨hs, hf⟩, hz⟩ := hB
  have hz' : ops.size = σ.length + τ.length + 3 := by simpa using hz
  refine wp_region_held (S := S) hm ?_
  have := walk_beside (Q := Q) (P := P) (ops := ops) hs hQ i j k τ σ (Array.replicate ops.size false) a { w with drawn := w.drawn + 1 } hf hS0 h
  rw [← hz'] at this
  exact this
end

theorem flatR_take {ms : List Rg} {q : Nat} (h : q < ms.length) : flatR (ms.take (q + 1)) = flatR (ms.take q) ++ [.int .i64 (rg ms q).lo, .int .i64 (rg ms q).hi] := by
  have e : rg ms q = ms[q] := by simp [rg, h]
  rw [take_snoc h, e]
  simp only [flatR, List.flatMap_append, List.flatMap_cons, List.flatMap_nil, List.append_nil]

/-- What lies while the material is copied. -/
structure MatS (s0 : Nat) (A : Value) (ms : List Rg) (q : Nat) (v : Value) (w : World) : Prop where
  x0 : w.heap[s0]? = some (.cells #[A] 24 (0, 0))
  x1 : w.heap[s0 + 1]? = some (.cells #[.slice none 0 0] 33 (0, 0))
  x2 : w.heap[s0 + 1 + 1]? = some (.cells #[v] 33 (0, 0))
  own : w.ownsRow (s0 + 3) 50 2 v q (flatR (ms.take q))
  sz : s0 + 3 ≤ w.heap.size
theorem MatS.below {s0 : Nat} {A : Value} {ms : List Rg} {q : Nat} {v : Value} {w w' : World} (h : MatS s0 A ms q v w) (hb : Below w.heap.size w w') : MatS s0 A ms q v w' :=
  ⟨(hb.block _ (lt_of_block h.x0)).trans h.x0, (hb.block _ (lt_of_block h.x1)).trans h.x1, (hb.block _ (lt_of_block h.x2)).trans h.x2,
    row_same h.own fun _ _ hk => hb.block _ (lt_of_block hk), Nat.le_trans h.sz hb.size⟩
theorem MatS.grew {s0 : Nat} {A : Value} {ms : List Rg} {q g c : Nat} {v : Value} {w w' : World} (h : MatS s0 A ms q v w) (hg : Grew (s0 + 3) w w' v) (ho : w'.ownsRow (s0 + 3) 50 2 (.slice (some ⟨g, 0, none⟩) (q + 1) c) (q + 1) (flatR (ms.take (q + 1)))) :
    w'.heap[s0]? = some (.cells #[A] 24 (0, 0)) ∧ w'.heap[s0 + 1 + 1]? = some (.cells #[v] 33 (0, 0)) ∧ MatS s0 A ms (q + 1) (.slice (some ⟨g, 0, none⟩) (q + 1) c) (w'.setCell ⟨s0 + 1 + 1, 0, none⟩ (.slice (some ⟨g, 0, none⟩) (q + 1) c)) := by
  have hne : ∀ k, k < s0 + 3 → v.ownBlock ≠ some k := fun k hk e => by have := (own_lt h.own e).1; omega
  have e0 := (hg.block s0 (by have := h.sz; omega) (hne _ (by omega))).trans h.x0
  have e1 := (hg.block (s0 + 1) (by have := h.sz; omega) (hne _ (by omega))).trans h.x1
  have e2 := (hg.block (s0 + 1 + 1) (by have := h.sz; omega) (hne _ (by omega))).trans h.x2
  refine ⟨e0, e2, ?_, ?_, ?_, ?_, ?_⟩
  · exact (heap_setCell_other w' ⟨s0 + 1 + 1, 0, none⟩ s0 _ (by show s0 ≠ s0 + 1 + 1; omega)).trans e0
  · exact (heap_setCell_other w' ⟨s0 + 1 + 1, 0, none⟩ (s0 + 1) _ (by show s0 + 1 ≠ s0 + 1 + 1; omega)).trans e1
  · have := heap_setCell_same w' (s0 + 1 + 1) 0 _ 33 (.slice (some ⟨g, 0, none⟩) (q + 1) c) e2
    simpa using this
  · refine own_same ho fun k hk => heap_setCell_other w' ⟨s0 + 1 + 1, 0, none⟩ k _ ?_
    have := (own_lt ho hk).1
    show k ≠ s0 + 1 + 1
    omega
  · have h1 := hg.below.size
    have h2 := h.sz
    simp [World.setCell]
    omega

set_option maxRecDepth 100000 in
set_option maxHeartbeats 4000000 in
theorem Material_any (n : Nat) (mv : Value) (ms : List Rg) (w : World) (hl : ms.length ≤ 1000) (hV : RgsV n w mv ms) (hn : n ≤ w.heap.size) :
    Calls Try.prog 19 #[.agg #[mv]] w fun e w' => (∃ v', e = .returned (.agg #[v']) ∧ RgsV w'.heap.size w' v' ms) ∧ Below w.heap.size w w' := by
  obtain ⟨a, cap, rfl, hp⟩ := hV
  have HP := Lib.hid hp
  clear hp
  obtain ⟨x0, x1, x2⟩ := box3 w (.cells #[.slice a ms.length cap] 24) (.cells #[.slice none 0 0] 33) (.cells #[.slice none 0 0] 33)
  have HB3 := Lib.hid (below3 w (.cells #[.slice a ms.length cap] 24) (.cells #[.slice none 0 0] 33) (.cells #[.slice none 0 0] 33))
  have HM : Hid (MatS w.heap.size (.slice a ms.length cap) ms 0 (.slice none 0 0) (((w.alloc (.cells #[.slice a ms.length cap] 24)).alloc (.cells #[.slice none 0 0] 33)).alloc (.cells #[.slice none 0 0] 33))) := Lib.hid ⟨x0, x1, x2, World.ownsRow_nil _ _ _ _, by simp⟩
  clear x0 x1 x2
  go_enter Try.func19, Try.ntmps19
  go_wp2
  go_loopw [4] (fun i wr => ∃ (q : Nat) (v : Value), q ≤ ms.length ∧ i = .int .i64 q ∧ Hid (MatS w.heap.size (.slice a ms.length cap) ms q v wr) ∧ Hid (Below w.heap.size w wr)) (fun i _ => ms.length - (intOf i).toNat)
  case atStart => exact ⟨0, .slice none 0 0, Nat.zero_le _, rfl, HM, HB3⟩
  case round =>
    obtain ⟨q, v, hq, rfl, hm, hb⟩ := hrel
    have c0 := cell_of_row wr w.heap.size 0 _ _ _ hm.out.x0
    simp at c0
    have l0 := lt_of_block hm.out.x0
    obtain ⟨va, vc, rfl⟩ := own_shape hm.out.own
    by_cases hlt : q < ms.length
    · obtain ⟨b, off, rfl, hbn, hc⟩ := HP.out (by omega)
      have hltb : b < w.heap.size := by omega
      have p1 := (hb.out.cell (p := ⟨b, off + q * 2, none⟩) hltb).trans (hc q hlt).1
      have p2 := (hb.out.cell (p := ⟨b, off + q * 2 + 1, none⟩) hltb).trans (hc q hlt).2
      have PP := Lib.hid (And.intro p1 p2)
      clear hc p1 p2
      have hqn : (q : Int) < ms.length := by omega
      have hw9 : IntKind.i64.wrap ((q : Int) + 1) = (q : Int) + 1 := IntWalk.i64_in _ (by omega)
      have PT := Lib.hid (flatR_take hlt)
      have TO := Lib.hid (to_any (rg ms q).lo (rg ms q).hi)
      generalize (rg ms q).lo = lo at *
      generalize (rg ms q).hi = hi at *
      have hsz := hm.out.sz
      go_wp2
      have HC : Hid (∀ w1, (Below w.heap.size wr w1 ∧ w1.heap[w.heap.size]? = wr.heap[w.heap.size]?) → w1.cell? ⟨w.heap.size, 0, none⟩ = some (.slice (some ⟨b, off, none⟩) ms.length cap) ∧ w1.cell? ⟨b, off + q * 2, none⟩ = some (.int .i64 lo) ∧ w1.cell? ⟨b, off + q * 2 + 1, none⟩ = some (.int .i64 hi)) := Lib.hid fun w1 hS =>
        ⟨cell_of_row w1 w.heap.size 0 _ _ _ (hS.2.trans hm.out.x0), (hS.1.cell (p := ⟨b, off + q * 2, none⟩) hltb).trans PP.out.1, (hS.1.cell (p := ⟨b, off + q * 2 + 1, none⟩) hltb).trans PP.out.2⟩
      have HS : Hid (∀ w1, Below wr.heap.size wr w1 → Below w.heap.size wr w1 ∧ w1.heap[w.heap.size]? = wr.heap[w.heap.size]?) := Lib.hid fun w1 h => ⟨h.mono (by omega), h.block _ (by omega)⟩
      clear c0 l0
      refine wp_region_noPanic ?_
      refine wp_region_beside (fun w1 => Below w.heap.size wr w1 ∧ w1.heap[w.heap.size]? = wr.heap[w.heap.size]?) (HS.out _ (below_drawn _)) (by kernel_rfl) (fun _ _ _ _ _ h => h)
        [(false, 0), (false, 2), (false, 3), (false, 4), (false, 5), (false, 6)] 1 7 8 [9, 10, 11] (by kernel_rfl) ?_
      iterate 6
        (refine Walk.takes rfl rfl ?_; apply Exists.intro; refine ⟨fun w1 hS => ?_, ?_⟩; (obtain ⟨d0, d1, d2⟩ := HC.out w1 hS; go_simp; with_reducible rfl); simp only [List.getElem_toArray, List.getElem_cons_succ, List.getElem_cons_zero, Act.put, List.setIfInBounds_toArray, List.set_cons_zero, List.set_cons_succ])
      refine Walk.fin ?_
      rintro w4 hb4 hS4
      have K4 : Below wr.heap.size wr w4 := (below_drawn wr).trans hb4
      have M4 := Lib.hid (hm.out.below K4)
      have cv := cell_of_row w4 (w.heap.size + 1 + 1) 0 _ _ _ M4.out.x2
      simp at cv
      have lv := lt_of_block M4.out.x2
      clear hS4 hb4
      refine ⟨_, _, rfl, rfl, rfl, rfl, ⟨_, by go_simp; with_reducible rfl, ?_⟩, ?_⟩
      · simp only [List.getElem_toArray, List.getElem_cons_succ, List.getElem_cons_zero, Act.put, List.setIfInBounds_toArray, List.set_cons_zero, List.set_cons_succ]
        refine ⟨_, _, by go_simp; first | done | exact ⟨rfl, rfl⟩ | with_reducible rfl, (TO.out w4).mono ?_⟩
        rintro e w5 ⟨rfl, hb5⟩
        have K5 := Lib.hid (below_to K4 hb5)
        have M5 := Lib.hid (M4.out.below hb5)
        have cv5 := cell_of_row w5 (w.heap.size + 1 + 1) 0 _ _ _ M5.out.x2
        simp at cv5
        have lv5 := lt_of_block M5.out.x2
        have HS8 : Hid (Below w.heap.size wr (w5.alloc (.cells #[.int .i64 lo, .int .i64 hi] 50 (0, 0))) ∧ (w5.alloc (.cells #[.int .i64 lo, .int .i64 hi] 50 (0, 0))).heap[w.heap.size]? = wr.heap[w.heap.size]?) := Lib.hid (HS.out _ (below_to K5.out (box_below w5 _)))
        have cv8 : (w5.alloc (.cells #[.int .i64 lo, .int .i64 hi] 50 (0, 0))).cell? ⟨w.heap.size + 1 + 1, 0, none⟩ = some (.slice va q vc) := ((box_below w5 _).cell (p := ⟨w.heap.size + 1 + 1, 0, none⟩) lv5).trans cv5
        have lv8 : w.heap.size + 1 + 1 < (w5.alloc (.cells #[.int .i64 lo, .int .i64 hi] 50 (0, 0))).heap.size := by simp; omega
        clear cv lv
        refine ⟨_, rfl, HS.out _ K5.out, ?_⟩
        simp only [List.getElem_toArray, List.getElem_cons_succ, List.getElem_cons_zero, Act.put, List.setIfInBounds_toArray, List.set_cons_zero, List.set_cons_succ]
        refine Tail.grows rfl rfl (exec_buildSlice 31 50 1 _ rfl el31.u #[.int .i64 lo, .int .i64 hi] (by kernel_rfl)) (HS8.out) ?_
        simp only [List.getElem_toArray, List.getElem_cons_succ, List.getElem_cons_zero, Act.put, List.setIfInBounds_toArray, List.set_cons_zero, List.set_cons_succ]
        refine Tail.app el31 rfl rfl (.tmp 13) (.tmp 20) rfl (w.heap.size + 3) q _ (flatR (List.take q ms)) #[.int .i64 lo, .int .i64 hi] rfl (by intro u hu; simp at hu; rcases hu with rfl | rfl <;> rfl) rfl rfl M5.out.own (by have := M5.out.sz; omega) (by omega) ?_
        rintro g6 c6 w6 own6 hg6 -
        rw [← PT.out] at own6
        obtain ⟨z0, z2, z3⟩ := M5.out.grew hg6 own6
        have hb6 := K5.out.mono (show w.heap.size ≤ wr.heap.size by omega) |>.trans (hg6.below.mono (by omega))
        refine ⟨⟨hb6, z0.trans hm.out.x0.symm⟩, ?_⟩
        simp only [List.getElem_toArray, List.getElem_cons_succ, List.getElem_cons_zero, Act.put, List.setIfInBounds_toArray, List.set_cons_zero, List.set_cons_succ]
        refine Tail.value rfl rfl rfl ?_
        simp only [List.getElem_toArray, List.getElem_cons_succ, List.getElem_cons_zero, Act.put, List.setIfInBounds_toArray, List.set_cons_zero, List.set_cons_succ]
        have c6c := cell_of_row w6 (w.heap.size + 1 + 1) 0 _ _ _ z2
        have f6c := frozen_of_row w6 (w.heap.size + 1 + 1) 0 _ _ z2
        have l6c := lt_of_block z2
        simp at c6c
        have hb7 := hb6.setCell (p := ⟨w.heap.size + 1 + 1, 0, none⟩) (by show w.heap.size ≤ w.heap.size + 1 + 1; omega) (.slice (some ⟨g6, 0, none⟩) (q + 1) c6)
        refine Tail.skip rfl rfl (by go_simp; first | done | with_reducible rfl) ⟨hb7, z3.x0.trans hm.out.x0.symm⟩ ?_
        simp only [List.getElem_toArray, List.getElem_cons_succ, List.getElem_cons_zero, Act.put, List.setIfInBounds_toArray, List.set_cons_zero, List.set_cons_succ]
        refine Tail.done (NoPanic.normal ?_)
        have HM7 := Lib.hid z3
        have HB7 := Lib.hid (hb.out.trans hb7)
        clear hb7 z3 c6c f6c l6c hb6 z0 z2 hg6 own6
        generalize World.setCell w6 _ _ = w7 at *
        go_wp2
        go_roundw
        case rel => exact ⟨q + 1, _, by omega, by simp, HM7, HB7⟩
        case measure => simp [intOf] <;> omega
      · refine ⟨_, _, by go_simp; first | done | exact ⟨rfl, rfl⟩ | with_reducible rfl, (TO.out w4).mono ?_⟩
        rintro e w5 ⟨rfl, hb5⟩
        have K5 := Lib.hid (below_to K4 hb5)
        have M5 := Lib.hid (M4.out.below hb5)
        have cv5 := cell_of_row w5 (w.heap.size + 1 + 1) 0 _ _ _ M5.out.x2
        simp at cv5
        have lv5 := lt_of_block M5.out.x2
        have HS8 : Hid (Below w.heap.size wr (w5.alloc (.cells #[.int .i64 lo, .int .i64 hi] 50 (0, 0))) ∧ (w5.alloc (.cells #[.int .i64 lo, .int .i64 hi] 50 (0, 0))).heap[w.heap.size]? = wr.heap[w.heap.size]?) := Lib.hid (HS.out _ (below_to K5.out (box_below w5 _)))
        have cv8 : (w5.alloc (.cells #[.int .i64 lo, .int .i64 hi] 50 (0, 0))).cell? ⟨w.heap.size + 1 + 1, 0, none⟩ = some (.slice va q vc) := ((box_below w5 _).cell (p := ⟨w.heap.size + 1 + 1, 0, none⟩) lv5).trans cv5
        have lv8 : w.heap.size + 1 + 1 < (w5.alloc (.cells #[.int .i64 lo, .int .i64 hi] 50 (0, 0))).heap.size := by simp; omega
        clear cv lv
        refine ⟨_, rfl, HS.out _ K5.out, ?_, ?_⟩
        · simp only [List.getElem_toArray, List.getElem_cons_succ, List.getElem_cons_zero, Act.put, List.setIfInBounds_toArray, List.set_cons_zero, List.set_cons_succ]
          refine Tail.value rfl rfl (by go_simp; first | done | with_reducible rfl) ?_
          simp only [List.getElem_toArray, List.getElem_cons_succ, List.getElem_cons_zero, Act.put, List.setIfInBounds_toArray, List.set_cons_zero, List.set_cons_succ]
          refine Tail.grows rfl rfl (exec_buildSlice 31 50 1 _ rfl el31.u #[.int .i64 lo, .int .i64 hi] (by kernel_rfl)) (HS8.out) ?_
          simp only [List.getElem_toArray, List.getElem_cons_succ, List.getElem_cons_zero, Act.put, List.setIfInBounds_toArray, List.set_cons_zero, List.set_cons_succ]
          refine Tail.app el31 rfl rfl (.tmp 13) (.tmp 20) rfl (w.heap.size + 3) q _ (flatR (List.take q ms)) #[.int .i64 lo, .int .i64 hi] rfl (by intro u hu; simp at hu; rcases hu with rfl | rfl <;> rfl) rfl rfl M5.out.own (by have := M5.out.sz; omega) (by omega) ?_
          rintro g6 c6 w6 own6 hg6 -
          rw [← PT.out] at own6
          obtain ⟨z0, z2, z3⟩ := M5.out.grew hg6 own6
          have hb6 := K5.out.mono (show w.heap.size ≤ wr.heap.size by omega) |>.trans (hg6.below.mono (by omega))
          refine ⟨⟨hb6, z0.trans hm.out.x0.symm⟩, ?_⟩
          simp only [List.getElem_toArray, List.getElem_cons_succ, List.getElem_cons_zero, Act.put, List.setIfInBounds_toArray, List.set_cons_zero, List.set_cons_succ]
          refine Tail.value rfl rfl rfl ?_
          simp only [List.getElem_toArray, List.getElem_cons_succ, List.getElem_cons_zero, Act.put, List.setIfInBounds_toArray, List.set_cons_zero, List.set_cons_succ]
          have c6c := cell_of_row w6 (w.heap.size + 1 + 1) 0 _ _ _ z2
          have f6c := frozen_of_row w6 (w.heap.size + 1 + 1) 0 _ _ z2
          have l6c := lt_of_block z2
          simp at c6c
          have hb7 := hb6.setCell (p := ⟨w.heap.size + 1 + 1, 0, none⟩) (by show w.heap.size ≤ w.heap.size + 1 + 1; omega) (.slice (some ⟨g6, 0, none⟩) (q + 1) c6)
          refine Tail.skip rfl rfl (by go_simp; first | done | with_reducible rfl) ⟨hb7, z3.x0.trans hm.out.x0.symm⟩ ?_
          simp only [List.getElem_toArray, List.getElem_cons_succ, List.getElem_cons_zero, Act.put, List.setIfInBounds_toArray, List.set_cons_zero, List.set_cons_succ]
          refine Tail.done (NoPanic.normal ?_)
          have HM7 := Lib.hid z3
          have HB7 := Lib.hid (hb.out.trans hb7)
          clear hb7 z3 c6c f6c l6c hb6 z0 z2 hg6 own6
          generalize World.setCell w6 _ _ = w7 at *
          go_wp2
          go_roundw
          case rel => exact ⟨q + 1, _, by omega, by simp, HM7, HB7⟩
          case measure => simp [intOf] <;> omega
        · simp only [List.getElem_toArray, List.getElem_cons_succ, List.getElem_cons_zero, Act.put, List.setIfInBounds_toArray, List.set_cons_zero, List.set_cons_succ]
          refine Tail.grows rfl rfl (exec_buildSlice 31 50 1 _ rfl el31.u #[.int .i64 lo, .int .i64 hi] (by kernel_rfl)) (HS8.out) ?_
          simp only [List.getElem_toArray, List.getElem_cons_succ, List.getElem_cons_zero, Act.put, List.setIfInBounds_toArray, List.set_cons_zero, List.set_cons_succ]
          refine Tail.value rfl rfl (by go_simp; first | done | with_reducible rfl) ?_
          simp only [List.getElem_toArray, List.getElem_cons_succ, List.getElem_cons_zero, Act.put, List.setIfInBounds_toArray, List.set_cons_zero, List.set_cons_succ]
          refine Tail.app el31 rfl rfl (.tmp 13) (.tmp 20) rfl (w.heap.size + 3) q _ (flatR (List.take q ms)) #[.int .i64 lo, .int .i64 hi] rfl (by intro u hu; simp at hu; rcases hu with rfl | rfl <;> rfl) rfl rfl M5.out.own (by have := M5.out.sz; omega) (by omega) ?_
          rintro g6 c6 w6 own6 hg6 -
          rw [← PT.out] at own6
          obtain ⟨z0, z2, z3⟩ := M5.out.grew hg6 own6
          have hb6 := K5.out.mono (show w.heap.size ≤ wr.heap.size by omega) |>.trans (hg6.below.mono (by omega))
          refine ⟨⟨hb6, z0.trans hm.out.x0.symm⟩, ?_⟩
          simp only [List.getElem_toArray, List.getElem_cons_succ, List.getElem_cons_zero, Act.put, List.setIfInBounds_toArray, List.set_cons_zero, List.set_cons_succ]
          refine Tail.value rfl rfl rfl ?_
          simp only [List.getElem_toArray, List.getElem_cons_succ, List.getElem_cons_zero, Act.put, List.setIfInBounds_toArray, List.set_cons_zero, List.set_cons_succ]
          have c6c := cell_of_row w6 (w.heap.size + 1 + 1) 0 _ _ _ z2
          have f6c := frozen_of_row w6 (w.heap.size + 1 + 1) 0 _ _ z2
          have l6c := lt_of_block z2
          simp at c6c
          have hb7 := hb6.setCell (p := ⟨w.heap.size + 1 + 1, 0, none⟩) (by show w.heap.size ≤ w.heap.size + 1 + 1; omega) (.slice (some ⟨g6, 0, none⟩) (q + 1) c6)
          refine Tail.skip rfl rfl (by go_simp; first | done | with_reducible rfl) ⟨hb7, z3.x0.trans hm.out.x0.symm⟩ ?_
          simp only [List.getElem_toArray, List.getElem_cons_succ, List.getElem_cons_zero, Act.put, List.setIfInBounds_toArray, List.set_cons_zero, List.set_cons_succ]
          refine Tail.done (NoPanic.normal ?_)
          have HM7 := Lib.hid z3
          have HB7 := Lib.hid (hb.out.trans hb7)
          clear hb7 z3 c6c f6c l6c hb6 z0 z2 hg6 own6
          generalize World.setCell w6 _ _ = w7 at *
          go_wp2
          go_roundw
          case rel => exact ⟨q + 1, _, by omega, by simp, HM7, HB7⟩
          case measure => simp [intOf] <;> omega
    · obtain rfl : q = ms.length := by omega
      have c2 := cell_of_row wr (w.heap.size + 1 + 1) 0 _ _ _ hm.out.x2
      simp at c2
      have l2 := lt_of_block hm.out.x2
      have c1 := cell_of_row wr (w.heap.size + 1) 0 _ _ _ hm.out.x1
      simp at c1
      have l1 := lt_of_block hm.out.x1
      have f1 := frozen_of_row wr (w.heap.size + 1) 0 _ _ hm.out.x1
      have hown := hm.out.own
      rw [List.take_length] at hown
      have HO := Lib.hid hown
      clear hown
      go_wp2
      have hfin := own_rgs (own_same HO.out (W' := wr.setCell ⟨w.heap.size + 1, 0, none⟩ (.slice va ms.length vc)) fun k hk => heap_setCell_other wr ⟨w.heap.size + 1, 0, none⟩ k _ (by
        have := (own_lt HO.out hk).1
        show k ≠ w.heap.size + 1
        omega))
      refine bodyPost_ret (v := .agg #[.slice va ms.length vc]) ?_ rfl ⟨⟨_, rfl, hfin⟩, hb.out.setCell (p := ⟨w.heap.size + 1, 0, none⟩) (by show w.heap.size ≤ w.heap.size + 1; omega) _⟩
      simp [results, Try.results19, go_sem, *]
end Go.Proofs.Ytfijaafkagcmmaa
