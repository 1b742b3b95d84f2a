/- The search for the fewest runs: its contract. Condition: the map as without has made it, at most six runs. The doubtful runs: contracts. Condition: a valid room. -/
import Derived.Test.YtfijaafkagcmmaaK5J
import Derived.BigRegion
namespace Go.Proofs.Ytfijaafkagcmmaa
open Go.RowKit Go.Shelf
attribute [local irreducible] arrV wpQuiet

def allowS (E : List (List Int × (Nat → Bool))) (out : Nat → Bool) : Bool := E.any fun p => withinS p.2 out
def firstF {α : Type} (f : Nat → Option α) (n from_ : Nat) : Option α := (List.range' from_ (n - from_)).findSome? f
def findP (al : (Nat → Bool) → Bool) (n : Nat) : Nat → (Nat → Bool) → Nat → Option (Nat → Bool)
  | 0, out, _ => if al out = true then some out else none
  | more + 1, out, from_ => firstF (fun run => findP al n more (withS out run) (run + 1)) n from_
theorem first_none {α : Type} {f : Nat → Option α} {n from_ : Nat} (h : ∀ r, from_ ≤ r → r < n → f r = none) : firstF f n from_ = none := by
  unfold firstF
  rw [List.findSome?_eq_none_iff]
  intro r hr
  rw [List.mem_range'_1] at hr
  exact h r hr.1 (by omega)
theorem first_some {α : Type} {f : Nat → Option α} {n from_ q : Nat} {g : α} (h1 : from_ ≤ q) (h2 : q < n) (h : ∀ r, from_ ≤ r → r < q → f r = none) (hq : f q = some g) : firstF f n from_ = some g := by
  unfold firstF
  have e : List.range' from_ (n - from_) = List.range' from_ (q - from_) ++ List.range' q (n - q) := by
    rw [show n - from_ = (q - from_) + (n - q) by omega, ← List.range'_append, show from_ + 1 * (q - from_) = q by omega]
  rw [e, List.findSome?_append]
  have e0 : (List.range' from_ (q - from_)).findSome? f = none := by
    rw [List.findSome?_eq_none_iff]
    intro r hr
    rw [List.mem_range'_1] at hr
    exact h r hr.1 (by omega)
  rw [e0, show n - q = (n - q - 1) + 1 by omega, List.range'_succ, List.findSome?_cons, hq]
  rfl

/-- What the search reads: which rates are allowed, the room, itself. -/
structure Env (w : World) (A Rm Fd Bm cm n : Nat) (rm : Value) (ra : Option Addr) (rc : Nat) (E : List (List Int × (Nat → Bool))) : Prop where
  a : w.heap[A]? = some (.cells #[.func (.func 107) #[] #[.pointer (some ⟨Bm, 0, none⟩)]] 134 (0, 0))
  r : w.heap[Rm]? = some (.cells #[rm, .slice ra n rc] 100 (0, 0))
  f : w.heap[Fd]? = some (.cells #[.func (.func 93) #[] #[.pointer (some ⟨A, 0, none⟩), .pointer (some ⟨Rm, 0, none⟩), .pointer (some ⟨Fd, 0, none⟩)]] 136 (0, 0))
  b : w.heap[Bm]? = some (.cells #[.map (some cm)] 145 (0, 0))
  m : MapIs w cm E
theorem Env.below {w w' : World} {A Rm Fd Bm cm n : Nat} {rm : Value} {ra : Option Addr} {rc : Nat} {E : List (List Int × (Nat → Bool))} (h : Env w A Rm Fd Bm cm n rm ra rc E) (hb : Below w.heap.size w w') : Env w' A Rm Fd Bm cm n rm ra rc E :=
  ⟨(hb.block _ (lt_of_block h.a)).trans h.a, (hb.block _ (lt_of_block h.r)).trans h.r, (hb.block _ (lt_of_block h.f)).trans h.f, (hb.block _ (lt_of_block h.b)).trans h.b, h.m.same (hb.block _ (by
    obtain ⟨es, clock, h1, _⟩ := h.m
    exact (Array.getElem?_eq_some_iff.1 h1).1))⟩

theorem s138 : (Try.prog.info? 138).map (·.size) = some 6 := by kernel_rfl
set_option maxRecDepth 100000 in
set_option maxHeartbeats 4000000 in
theorem find_any (A Rm Fd Bm cm n : Nat) (rm : Value) (ra : Option Addr) (rc : Nat) (E : List (List Int × (Nat → Bool))) (hn : n ≤ 6) : ∀ (more : Nat) (out : Nat → Bool) (from_ : Nat) (w : World), more ≤ 6 → from_ ≤ 7 → Env w A Rm Fd Bm cm n rm ra rc E →
    Calls Try.prog 93 #[bV out, .int .i64 from_, .int .i64 more, .pointer (some ⟨A, 0, none⟩), .pointer (some ⟨Rm, 0, none⟩), .pointer (some ⟨Fd, 0, none⟩)] w fun e w' =>
      (∃ g, e = .returned (.tuple #[bV g, .bool (findP (allowS E) n more out from_).isSome]) ∧ ∀ s, findP (allowS E) n more out from_ = some s → g = s) ∧ Below w.heap.size w w' := by
  intro more
  induction more with
  | zero =>
    intro out from_ w _ _ hE
    obtain ⟨y0, y1⟩ := box2 w (.cells #[.bool (out 0), .bool (out 1), .bool (out 2), .bool (out 3), .bool (out 4), .bool (out 5)] 138) (.cells #[.bool false, .bool false, .bool false, .bool false, .bool false, .bool false] 138)
    have hbb := below2 w (.cells #[.bool (out 0), .bool (out 1), .bool (out 2), .bool (out 3), .bool (out 4), .bool (out 5)] 138) (.cells #[.bool false, .bool false, .bool false, .bool false, .bool false, .bool false] 138)
    have HAL := Lib.hid fun w' (h : Below w.heap.size w w') => areAllowed_any Bm cm E out w' (hE.below h).b (hE.below h).m
    have HZ : Hid (findP (allowS E) n 0 out from_ = if allowS E out = true then some out else none) := Lib.hid rfl
    have hEW := hE.below hbb
    change Hid (∀ w', _ → Calls Try.prog 107 _ w' fun e w'_1 => e = .returned (.bool (allowS E out)) ∧ _) at HAL
    have Y0 := Lib.hid y0
    have Y1 := Lib.hid y1
    have HB := Lib.hid hbb
    have HEA := Lib.hid hEW.a
    have hAl := lt_of_block hE.a
    clear y0 y1 hbb hEW hE
    generalize allowS E out = z at *
    unfold bV at HAL
    unfold bV
    go_enter Try.func93, Try.ntmps93
    go_wp2
    generalize World.alloc (World.alloc w _) _ = W at *
    have HC : Hid (∀ w', But (fun k => k = w.heap.size + 1) W w' → w'.cell? ⟨w.heap.size, 0, none⟩ = some (.bool (out 0)) ∧ w'.cell? ⟨w.heap.size, 1, none⟩ = some (.bool (out 1)) ∧ w'.cell? ⟨w.heap.size, 2, none⟩ = some (.bool (out 2)) ∧ w'.cell? ⟨w.heap.size, 3, none⟩ = some (.bool (out 3)) ∧ w'.cell? ⟨w.heap.size, 4, none⟩ = some (.bool (out 4)) ∧ w'.cell? ⟨w.heap.size, 5, none⟩ = some (.bool (out 5)) ∧ w'.cell? ⟨A, 0, none⟩ = some (.func (.func 107) #[] #[.pointer (some ⟨Bm, 0, none⟩)])) := Lib.hid fun w' h => by
      have z0 := (h.block _ (lt_of_block Y0.out) (by omega)).trans Y0.out
      have z1 := (h.block _ (lt_of_block HEA.out) (by omega)).trans HEA.out
      have b := bits z0
      exact ⟨b 0 (by decide), b 1 (by decide), b 2 (by decide), b 3 (by decide), b 4 (by decide), b 5 (by decide), cell_of_row w' A 0 _ _ _ z1⟩
    refine wp_region_noPanic ?_
    refine wp_region_chain (fun w' => But (fun k => k = w.heap.size + 1) W w') (fun _ _ h hb => h.trans (But.of_below hb)) (But.of_below (below_drawn W)) (by kernel_rfl) (fun _ _ _ _ _ h => h)
      [(false, 0), (false, 1), (false, 2), (true, 3)] [4, 5] (by kernel_rfl) ?_
    iterate 3
      (refine Walk.takes rfl rfl ?_; apply Exists.intro; refine ⟨fun w2 hS => ?_, ?_⟩; (obtain ⟨d0, d1, d2, d3, d4, d5, d6⟩ := HC.out w2 hS; clear hS; go_simp; with_reducible rfl); simp only [List.getElem_toArray, List.getElem_cons_succ, List.getElem_cons_zero, Act.put, List.setIfInBounds_toArray, List.set_cons_zero, List.set_cons_succ])
    refine Walk.calls rfl rfl ?_; apply Exists.intro; apply Exists.intro; refine ⟨fun w2 hS => ?_, fun v1 hb1 => ?_⟩
    · clear hS
      go_simp
      exact ⟨rfl, rfl⟩
    have hb1' := grow_to (below_drawn W) hb1
    refine (HAL.out v1 (below_to HB.out hb1')).mono ?_
    rintro e v2 ⟨rfl, hb2⟩
    refine ⟨_, rfl, hb2, ?_⟩
    simp only [List.getElem_toArray, List.getElem_cons_succ, List.getElem_cons_zero, Act.put, List.setIfInBounds_toArray, List.set_cons_zero, List.set_cons_succ]
    refine Walk.fin fun v3 hb3 hS3 => ?_
    have hb4 := grow_to (grow_to hb1' hb2) hb3
    have h1 := (hb4.block _ (lt_of_block Y1.out)).trans Y1.out
    have hsz : (Try.prog.info? 138).map (·.size) = some 6 := s138
    have n1 := set_whole (w.heap.size + 1) 138 v3 #[.bool false, .bool false, .bool false, .bool false, .bool false, .bool false] #[.bool (out 0), .bool (out 1), .bool (out 2), .bool (out 3), .bool (out 4), .bool (out 5)] rfl h1
    have n2 : Below w.heap.size w (v3.setCells (w.heap.size + 1) 0 [.bool (out 0), .bool (out 1), .bool (out 2), .bool (out 3), .bool (out 4), .bool (out 5)]) := below_cells (b := w.heap.size + 1) (by omega) _ 0 v3 (below_to HB.out hb4)
    have n3 : But (fun k => k = w.heap.size + 1) W (v3.setCells (w.heap.size + 1) 0 [.bool (out 0), .bool (out 1), .bool (out 2), .bool (out 3), .bool (out 4), .bool (out 5)]) := hS3.trans (But.setCells (T := fun k => k = w.heap.size + 1) rfl _ 0 _)
    refine Tail.skip rfl rfl (exec_store_row 138 (.tmp 9) (.tmp 14) rfl (w.heap.size + 1) 0 #[.bool (out 0), .bool (out 1), .bool (out 2), .bool (out 3), .bool (out 4), .bool (out 5)] rfl rfl (there_block h1 (Nat.le_refl _)) hsz (by simp [Value.oneCell'])) n3 ?_
    simp only [List.getElem_toArray, List.getElem_cons_succ, List.getElem_cons_zero, Act.put, List.setIfInBounds_toArray, List.set_cons_zero, List.set_cons_succ]
    have N1 := Lib.hid n1
    change Hid ((World.setCells _ _ _ _).heap[_]? = _) at N1
    have N2 := Lib.hid n2
    clear n1 n2 n3 h1 hsz hb4 hb3 hS3 hb2 hb1 hb1'
    generalize World.setCells _ _ _ _ = W9 at *
    refine Tail.value rfl rfl (by go_simp; with_reducible rfl) (Tail.done (NoPanic.normal ?_))
    simp only [List.getElem_toArray, List.getElem_cons_succ, List.getElem_cons_zero, Act.put, List.setIfInBounds_toArray, List.set_cons_zero, List.set_cons_succ]
    have e0 := cell_of_row W9 (w.heap.size + 1) 0 _ _ _ N1.out
    have e1 := cell_of_row W9 (w.heap.size + 1) 1 _ _ _ N1.out
    have e2 := cell_of_row W9 (w.heap.size + 1) 2 _ _ _ N1.out
    have e3 := cell_of_row W9 (w.heap.size + 1) 3 _ _ _ N1.out
    have e4 := cell_of_row W9 (w.heap.size + 1) 4 _ _ _ N1.out
    have e5 := cell_of_row W9 (w.heap.size + 1) 5 _ _ _ N1.out
    simp only [List.getElem?_toArray, List.getElem?_cons_zero, List.getElem?_cons_succ] at e0 e1 e2 e3 e4 e5
    go_wp2
    refine bodyPost_ret (v := .tuple #[bV out, .bool z]) ?_ rfl ⟨⟨out, ?_, ?_⟩, N2.out⟩
    · unfold bV
      simp [results, Try.results93, go_sem, *]
    · rw [HZ.out]
      cases z <;> rfl
    · intro s hs
      rw [HZ.out] at hs
      cases z with
      | false => simp at hs
      | true => simpa using hs
  | succ more ih =>
    intro out from_ w hm hf hE
    obtain ⟨y0, y1⟩ := box2 w (.cells #[.bool (out 0), .bool (out 1), .bool (out 2), .bool (out 3), .bool (out 4), .bool (out 5)] 138) (.cells #[.bool false, .bool false, .bool false, .bool false, .bool false, .bool false] 138)
    have hbb := below2 w (.cells #[.bool (out 0), .bool (out 1), .bool (out 2), .bool (out 3), .bool (out 4), .bool (out 5)] 138) (.cells #[.bool false, .bool false, .bool false, .bool false, .bool false, .bool false] 138)
    have HENV := Lib.hid fun w' (h : Below w.heap.size w w') => hE.below h
    have HIH := Lib.hid fun q (hq : q < n) w' (h : Below w.heap.size w w') => ih (withS out q) (q + 1) w' (by omega) (by omega) (hE.below h)
    have HWA : Hid (∀ q w', q < n → Calls Try.prog 94 #[.agg #[.bool (out 0), .bool (out 1), .bool (out 2), .bool (out 3), .bool (out 4), .bool (out 5)], .int .i64 (q : Nat)] w' fun e w'' => e = .returned (bV (withS out q)) ∧ Below w'.heap.size w' w'') := Lib.hid fun q w' hq => with_any out q (by omega) w'
    have HF0 := Lib.hid fun h => @first_none _ (fun run => findP (allowS E) n more (withS out run) (run + 1)) n from_ h
    have HF1 := Lib.hid fun q g h1 h2 h hq => @first_some _ (fun run => findP (allowS E) n more (withS out run) (run + 1)) n from_ q g h1 h2 h hq
    have HZ : Hid (findP (allowS E) n (more + 1) out from_ = firstF (fun run => findP (allowS E) n more (withS out run) (run + 1)) n from_) := Lib.hid rfl
    have hAl := lt_of_block hE.a
    have hRl := lt_of_block hE.r
    have hFl := lt_of_block hE.f
    have Y0 := Lib.hid y0
    have Y1 : Hid (∃ g : Nat → Bool, _ = some (Obj.cells #[.bool (g 0), .bool (g 1), .bool (g 2), .bool (g 3), .bool (g 4), .bool (g 5)] 138 (0, 0))) := Lib.hid ⟨fun _ => false, y1⟩
    have HB := Lib.hid hbb
    obtain ⟨M, hM⟩ : ∃ M : Int, ((more + 1 : Nat) : Int) = M := ⟨_, rfl⟩
    have hM0 : (M == 0) = false := by rw [beq_eq_false_iff_ne]; omega
    have hMw : IntKind.i64.wrap (M - 1) = more := by rw [IntWalk.i64_in _ (by omega)]; omega
    rw [hM]
    clear y0 y1 hbb hE ih hM
    unfold bV
    go_enter Try.func93, Try.ntmps93
    go_wp2
    generalize World.alloc (World.alloc w _) _ = W at *
    go_loopw [11] (fun i wr => ∃ q : Nat, from_ ≤ q ∧ (q ≤ n ∨ q = from_) ∧ i = .int .i64 q ∧ Hid (wr.heap[w.heap.size]? = some (.cells #[.bool (out 0), .bool (out 1), .bool (out 2), .bool (out 3), .bool (out 4), .bool (out 5)] 138 (0, 0))) ∧ Hid (∃ g : Nat → Bool, wr.heap[w.heap.size + 1]? = some (.cells #[.bool (g 0), .bool (g 1), .bool (g 2), .bool (g 3), .bool (g 4), .bool (g 5)] 138 (0, 0))) ∧ Hid (Below w.heap.size w wr) ∧ Hid (∀ r, from_ ≤ r → r < q → findP (allowS E) n more (withS out r) (r + 1) = none)) (fun i _ => n - (intOf i).toNat)
    case atStart => exact ⟨from_, Nat.le_refl _, .inr rfl, rfl, Y0, Y1, HB, Lib.hid (fun r h1 h2 => by omega)⟩
    case round =>
      clear Y0 Y1 HB
      obtain ⟨q, hq0, hq1, rfl, Y0, Y1, HB, HNO⟩ := hrel
      have HEW := Lib.hid (HENV.out wr HB.out)
      have cr := cell_of_row wr Rm 1 _ _ _ HEW.out.r
      simp only [List.getElem?_toArray, List.getElem?_cons_zero, List.getElem?_cons_succ] at cr
      have lr := lt_of_block HEW.out.r
      by_cases hlt : q < n
      · have hqn : (q : Int) < n := by omega
        have hwq : IntKind.i64.wrap ((q : Int) + 1) = ((q + 1 : Nat) : Int) := by rw [IntWalk.i64_in _ (by omega)]; omega
        have HIQ := Lib.hid (HIH.out q hlt)
        have HWQ := Lib.hid fun w' => HWA.out q w' hlt
        have HNQ : Hid (findP (allowS E) n more (withS out q) (q + 1) = none → ∀ r, from_ ≤ r → r < q + 1 → findP (allowS E) n more (withS out r) (r + 1) = none) := Lib.hid fun h r h1 h2 => by
          by_cases e : r = q
          · rw [e]; exact h
          · exact HNO.out r h1 (by omega)
        have HYQ := Lib.hid fun g => HF1.out q g hq0 hlt HNO.out
        have HC : Hid (∀ w', But (fun k => k = w.heap.size + 1) wr w' → w'.cell? ⟨w.heap.size, 0, none⟩ = some (.bool (out 0)) ∧ w'.cell? ⟨w.heap.size, 1, none⟩ = some (.bool (out 1)) ∧ w'.cell? ⟨w.heap.size, 2, none⟩ = some (.bool (out 2)) ∧ w'.cell? ⟨w.heap.size, 3, none⟩ = some (.bool (out 3)) ∧ w'.cell? ⟨w.heap.size, 4, none⟩ = some (.bool (out 4)) ∧ w'.cell? ⟨w.heap.size, 5, none⟩ = some (.bool (out 5)) ∧ w'.cell? ⟨Fd, 0, none⟩ = some (.func (.func 93) #[] #[.pointer (some ⟨A, 0, none⟩), .pointer (some ⟨Rm, 0, none⟩), .pointer (some ⟨Fd, 0, none⟩)])) := Lib.hid fun w' h => by
          have z0 := (h.block _ (lt_of_block Y0.out) (by omega)).trans Y0.out
          have z1 := (h.block _ (lt_of_block HEW.out.f) (by omega)).trans HEW.out.f
          have b := bits z0
          exact ⟨b 0 (by decide), b 1 (by decide), b 2 (by decide), b 3 (by decide), b 4 (by decide), b 5 (by decide), cell_of_row w' Fd 0 _ _ _ z1⟩
        clear HIH HWA HF0 HF1 HNO HENV
        go_wp2_with fail
        refine wp_region_noPanic ?_
        refine wp_region_chain (fun w' => But (fun k => k = w.heap.size + 1) wr w') (fun _ _ h hb => h.trans (But.of_below hb)) (But.of_below (below_drawn wr)) (by kernel_rfl) (fun _ _ _ _ _ h => h)
          [(false, 0), (false, 1), (false, 2), (false, 4), (false, 5), (false, 6), (false, 7), (true, 3), (true, 8), (false, 9), (false, 10), (false, 11)] [12, 13] (by kernel_rfl) ?_
        iterate 7
          (refine Walk.takes rfl rfl ?_; apply Exists.intro; refine ⟨fun w2 hS => ?_, ?_⟩; (obtain ⟨d0, d1, d2, d3, d4, d5, d6⟩ := HC.out w2 hS; clear hS; go_simp; with_reducible rfl); simp only [List.getElem_toArray, List.getElem_cons_succ, List.getElem_cons_zero, Act.put, List.setIfInBounds_toArray, List.set_cons_zero, List.set_cons_succ])
        refine Walk.calls rfl rfl ?_; apply Exists.intro; apply Exists.intro; refine ⟨fun w2 hS => ?_, fun v1 hb1 => ?_⟩
        · clear hS
          go_simp
          exact ⟨rfl, rfl⟩
        have hb1' := grow_to (below_drawn wr) hb1
        refine (HWQ.out v1).mono ?_
        rintro e v2 ⟨rfl, hb2⟩
        refine ⟨_, rfl, hb2, ?_⟩
        simp only [List.getElem_toArray, List.getElem_cons_succ, List.getElem_cons_zero, Act.put, List.setIfInBounds_toArray, List.set_cons_zero, List.set_cons_succ]
        have hb2' := grow_to hb1' hb2
        refine Walk.calls rfl rfl ?_; apply Exists.intro; apply Exists.intro; refine ⟨fun w2 hS => ?_, fun v3 hb3 => ?_⟩
        · clear hS
          go_simp
          exact ⟨rfl, rfl⟩
        have hb3' := grow_to hb2' hb3
        refine (HIQ.out v3 (below_to HB.out hb3')).mono ?_
        rintro e v4 ⟨⟨g, rfl, hg⟩, hb4⟩
        refine ⟨_, rfl, hb4, ?_⟩
        simp only [List.getElem_toArray, List.getElem_cons_succ, List.getElem_cons_zero, Act.put, List.setIfInBounds_toArray, List.set_cons_zero, List.set_cons_succ]
        have hb4' := grow_to hb3' hb4
        obtain ⟨z, hz⟩ : ∃ z, (findP (allowS E) n more (withS out q) (q + 1)).isSome = z := ⟨_, rfl⟩
        rw [hz]
        iterate 3
          (refine Walk.takes rfl rfl ?_; apply Exists.intro; refine ⟨fun w2 hS => ?_, ?_⟩; (clear hS; go_simp; with_reducible rfl); simp only [List.getElem_toArray, List.getElem_cons_succ, List.getElem_cons_zero, Act.put, List.setIfInBounds_toArray, List.set_cons_zero, List.set_cons_succ])
        refine Walk.fin fun v5 hb5 hS5 => ?_
        have hb6 := grow_to hb4' hb5
        obtain ⟨g0, hg0⟩ := Y1.out
        have h1 := (hb6.block _ (lt_of_block hg0)).trans hg0
        have n1 := set_whole (w.heap.size + 1) 138 v5 #[.bool (g0 0), .bool (g0 1), .bool (g0 2), .bool (g0 3), .bool (g0 4), .bool (g0 5)] #[.bool (g 0), .bool (g 1), .bool (g 2), .bool (g 3), .bool (g 4), .bool (g 5)] rfl h1
        have n2 : Below w.heap.size w (v5.setCells (w.heap.size + 1) 0 [.bool (g 0), .bool (g 1), .bool (g 2), .bool (g 3), .bool (g 4), .bool (g 5)]) := below_cells (b := w.heap.size + 1) (by omega) _ 0 v5 (below_to HB.out hb6)
        have n3 : But (fun k => k = w.heap.size + 1) wr (v5.setCells (w.heap.size + 1) 0 [.bool (g 0), .bool (g 1), .bool (g 2), .bool (g 3), .bool (g 4), .bool (g 5)]) := hS5.trans (But.setCells (T := fun k => k = w.heap.size + 1) rfl _ 0 _)
        have n4 := (n3.block _ (lt_of_block Y0.out) (by omega)).trans Y0.out
        refine Tail.skip rfl rfl (exec_store_row 138 (.tmp 9) (.tmp 36) rfl (w.heap.size + 1) 0 #[.bool (g 0), .bool (g 1), .bool (g 2), .bool (g 3), .bool (g 4), .bool (g 5)] rfl rfl (there_block h1 (Nat.le_refl _)) s138 (by simp [Value.oneCell'])) n3 ?_
        simp only [List.getElem_toArray, List.getElem_cons_succ, List.getElem_cons_zero, Act.put, List.setIfInBounds_toArray, List.set_cons_zero, List.set_cons_succ]
        have N1 := Lib.hid n1
        change Hid ((World.setCells _ _ _ _).heap[_]? = _) at N1
        have N2 := Lib.hid n2
        have N4 := Lib.hid n4
        clear n1 n2 n3 n4 h1 hg0 hb6 hb5 hS5 hb4 hb4' hb3 hb3' hb2 hb2' hb1 hb1' HC HWQ HIQ Y0 Y1 HB HEW cr lr
        generalize World.setCells _ _ _ _ = W9 at *
        refine Tail.value rfl rfl (by go_simp; with_reducible rfl) (Tail.done (NoPanic.normal ?_))
        simp only [List.getElem_toArray, List.getElem_cons_succ, List.getElem_cons_zero, Act.put, List.setIfInBounds_toArray, List.set_cons_zero, List.set_cons_succ]
        cases z with
        | false =>
          have HN9 := Lib.hid (HNQ.out (Option.isNone_iff_eq_none.1 (by simpa using hz)))
          clear hz HNQ HYQ hg
          go_wp2
          go_roundw
          case rel => exact ⟨q + 1, by omega, by omega, by simp, N4, Lib.hid ⟨g, N1.out⟩, N2, HN9⟩
          case measure => simp [intOf]; omega
        | true =>
          obtain ⟨s0, hs0⟩ := Option.isSome_iff_exists.1 hz
          have hgs := hg s0 hs0
          subst hgs
          have HY9 := Lib.hid (HYQ.out g hs0)
          clear hz HNQ HYQ hg hs0
          have e0 := cell_of_row W9 (w.heap.size + 1) 0 _ _ _ N1.out
          have e1 := cell_of_row W9 (w.heap.size + 1) 1 _ _ _ N1.out
          have e2 := cell_of_row W9 (w.heap.size + 1) 2 _ _ _ N1.out
          have e3 := cell_of_row W9 (w.heap.size + 1) 3 _ _ _ N1.out
          have e4 := cell_of_row W9 (w.heap.size + 1) 4 _ _ _ N1.out
          have e5 := cell_of_row W9 (w.heap.size + 1) 5 _ _ _ N1.out
          simp only [List.getElem?_toArray, List.getElem?_cons_zero, List.getElem?_cons_succ] at e0 e1 e2 e3 e4 e5
          have fe0 := frozen_of_row W9 (w.heap.size + 1) 0 _ _ N1.out
          have fe1 := frozen_of_row W9 (w.heap.size + 1) 1 _ _ N1.out
          have fe2 := frozen_of_row W9 (w.heap.size + 1) 2 _ _ N1.out
          have fe3 := frozen_of_row W9 (w.heap.size + 1) 3 _ _ N1.out
          have fe4 := frozen_of_row W9 (w.heap.size + 1) 4 _ _ N1.out
          have fe5 := frozen_of_row W9 (w.heap.size + 1) 5 _ _ N1.out
          have l9 := lt_of_block N1.out
          go_wp2
          refine bodyPost_ret (v := .tuple #[bV g, .bool true]) ?_ rfl ⟨⟨g, ?_, ?_⟩, ?_⟩
          · unfold bV
            simp [results, Try.results93, go_sem, *]
          · rw [HZ.out, HY9.out]
            rfl
          · intro s hs
            rw [HZ.out, HY9.out] at hs
            exact Option.some.inj hs
          · exact ((((((N2.out).setCell (p := ⟨w.heap.size + 1, 0, none⟩) (Nat.le_succ _) _).setCell (p := ⟨w.heap.size + 1, 1, none⟩) (Nat.le_succ _) _).setCell (p := ⟨w.heap.size + 1, 2, none⟩) (Nat.le_succ _) _).setCell (p := ⟨w.heap.size + 1, 3, none⟩) (Nat.le_succ _) _).setCell (p := ⟨w.heap.size + 1, 4, none⟩) (Nat.le_succ _) _).setCell (p := ⟨w.heap.size + 1, 5, none⟩) (Nat.le_succ _) _
      · have HN9 := Lib.hid (HF0.out fun r h1 h2 => HNO.out r h1 (by omega))
        have hqn : ¬ (q : Int) < n := by omega
        have hqd : decide ((q : Int) < n) = false := decide_eq_false hqn
        obtain ⟨g0, hg0⟩ := Y1.out
        have N1 := Lib.hid hg0
        have e0 := cell_of_row wr (w.heap.size + 1) 0 _ _ _ N1.out
        have e1 := cell_of_row wr (w.heap.size + 1) 1 _ _ _ N1.out
        have e2 := cell_of_row wr (w.heap.size + 1) 2 _ _ _ N1.out
        have e3 := cell_of_row wr (w.heap.size + 1) 3 _ _ _ N1.out
        have e4 := cell_of_row wr (w.heap.size + 1) 4 _ _ _ N1.out
        have e5 := cell_of_row wr (w.heap.size + 1) 5 _ _ _ N1.out
        simp only [List.getElem?_toArray, List.getElem?_cons_zero, List.getElem?_cons_succ] at e0 e1 e2 e3 e4 e5
        have fe0 := frozen_of_row wr (w.heap.size + 1) 0 _ _ N1.out
        have fe1 := frozen_of_row wr (w.heap.size + 1) 1 _ _ N1.out
        have fe2 := frozen_of_row wr (w.heap.size + 1) 2 _ _ N1.out
        have fe3 := frozen_of_row wr (w.heap.size + 1) 3 _ _ N1.out
        have fe4 := frozen_of_row wr (w.heap.size + 1) 4 _ _ N1.out
        have fe5 := frozen_of_row wr (w.heap.size + 1) 5 _ _ N1.out
        have l9 := lt_of_block N1.out
        clear HIH HWA HF0 HF1 HNO HENV hg0 Y1
        go_wp2
        refine bodyPost_ret (v := .tuple #[bV (fun _ => false), .bool false]) ?_ rfl ⟨⟨fun _ => false, ?_, ?_⟩, ?_⟩
        · unfold bV
          simp [results, Try.results93, go_sem, *]
        · rw [HZ.out, HN9.out]
          rfl
        · intro s hs
          rw [HZ.out, HN9.out] at hs
          cases hs
        · exact ((((((HB.out).setCell (p := ⟨w.heap.size + 1, 0, none⟩) (Nat.le_succ _) _).setCell (p := ⟨w.heap.size + 1, 1, none⟩) (Nat.le_succ _) _).setCell (p := ⟨w.heap.size + 1, 2, none⟩) (Nat.le_succ _) _).setCell (p := ⟨w.heap.size + 1, 3, none⟩) (Nat.le_succ _) _).setCell (p := ⟨w.heap.size + 1, 4, none⟩) (Nat.le_succ _) _).setCell (p := ⟨w.heap.size + 1, 5, none⟩) (Nat.le_succ _) _
end Go.Proofs.Ytfijaafkagcmmaa
namespace Go.Proofs.Ytfijaafkagcmmaa
open Go.RowKit Go.Shelf
attribute [local irreducible] arrV wpQuiet

def doubtP (al : (Nat → Bool) → Bool) (n : Nat) : Option (Nat → Bool) := firstF (fun many => findP al n many (fun _ => false) 0) (n + 1) 0
def alS (ms : List Rg) (rs : List Rn) : (Nat → Bool) → Bool := allowS (mapE rs (allL ms))

set_option maxRecDepth 100000 in
set_option maxHeartbeats 4000000 in
theorem doubtful_any (n : Nat) (mv rv : Value) (ms : List Rg) (rs : List Rn) (s : Nat → Bool) (w : World) (hK : RoomOk ms rs) (hV : RoomV n w mv rv ms rs) (hs : doubtP (alS ms rs) rs.length = some s) :
    Calls Try.prog 70 #[.agg #[mv, rv]] w fun e w' => (∃ v, e = .returned v ∧ IntsV w'.heap.size w' v (listS s 6)) ∧ Below w.heap.size w w' := by
  have hn := hV.lt
  have hl6 := hK.len
  have HWO := Lib.hid fun w' (h : Below w.heap.size w w') => without_any n mv rv ms rs w' hK (hV.below h)
  have HNONE : Hid (¬ ∀ r, 0 ≤ r → r < rs.length + 1 → findP (alS ms rs) rs.length r (fun _ => false) 0 = none) := Lib.hid fun h => by
    have := first_none h
    unfold doubtP at hs
    rw [this] at hs
    cases hs
  have HSOME : Hid (∀ q g, q < rs.length + 1 → (∀ r, 0 ≤ r → r < q → findP (alS ms rs) rs.length r (fun _ => false) 0 = none) → findP (alS ms rs) rs.length q (fun _ => false) 0 = some g → g = s) := Lib.hid fun q g h1 h2 h3 => by
    have := first_some (f := fun many => findP (alS ms rs) rs.length many (fun _ => false) 0) (Nat.zero_le q) h1 h2 h3
    unfold doubtP at hs
    rw [this] at hs
    exact Option.some.inj hs
  obtain ⟨am, capm, rfl, -⟩ := hV.m
  obtain ⟨ar, capr, rfl, -⟩ := hV.r
  have HX := Lib.hid (heap_alloc_new w (.cells #[.slice am ms.length capm, .slice ar rs.length capr] 100))
  have HB := Lib.hid (box_below w (.cells #[.slice am ms.length capm, .slice ar rs.length capr] 100))
  have HFI : Hid (∀ A Fd Bm cm q w', q ≤ 6 → Env w' A w.heap.size Fd Bm cm rs.length (.slice am ms.length capm) ar capr (mapE rs (allL ms)) → Calls Try.prog 93 #[.agg #[.bool false, .bool false, .bool false, .bool false, .bool false, .bool false], .int .i64 0, .int .i64 (q : Nat), .pointer (some ⟨A, 0, none⟩), .pointer (some ⟨w.heap.size, 0, none⟩), .pointer (some ⟨Fd, 0, none⟩)] w' fun e w'' =>
      (∃ g, e = .returned (.tuple #[bV g, .bool (findP (alS ms rs) rs.length q (fun _ => false) 0).isSome]) ∧ ∀ s, findP (alS ms rs) rs.length q (fun _ => false) 0 = some s → g = s) ∧ Below w'.heap.size w' w'') := Lib.hid fun A Fd Bm cm q w' hq hE => find_any A w.heap.size Fd Bm cm rs.length (.slice am ms.length capm) ar capr (mapE rs (allL ms)) hl6 q (fun _ => false) 0 w' hq (by omega) hE
  clear hV hK hs
  go_enter Try.func70, Try.ntmps70
  go_wp2_with fail
  refine (HWO.out _ HB.out).mono ?_
  rintro e w1 ⟨⟨Bm, cm, rfl, hBm, hM, hB1, hB2⟩, hb⟩
  have X1 := Lib.hid ((hb.block _ (lt_of_block HX.out)).trans HX.out)
  have HB1 := Lib.hid (below_to HB.out hb)
  have hs1 := lt_of_block X1.out
  have HBM := Lib.hid hBm
  have HMM := Lib.hid hM
  clear hb HX HB hBm hM
  have c1 := cell_of_row w1 w.heap.size 1 _ _ _ X1.out
  simp only [List.getElem?_toArray, List.getElem?_cons_zero, List.getElem?_cons_succ] at c1
  have hwn : IntKind.i64.wrap ((rs.length : Int) + 1) = (rs.length : Int) + 1 := IntWalk.i64_in _ (by omega)
  obtain ⟨z0, z1⟩ := box2 w1 (.cells #[.func (.func 107) #[] #[.pointer (some ⟨Bm, 0, none⟩)]] 134) (.cells #[.func (.func 93) #[] #[.pointer (some ⟨w1.heap.size, 0, none⟩), .pointer (some ⟨w.heap.size, 0, none⟩), .pointer (some ⟨w1.heap.size + 1, 0, none⟩)]] 136)
  have hbb := below2 w1 (.cells #[.func (.func 107) #[] #[.pointer (some ⟨Bm, 0, none⟩)]] 134) (.cells #[.func (.func 93) #[] #[.pointer (some ⟨w1.heap.size, 0, none⟩), .pointer (some ⟨w.heap.size, 0, none⟩), .pointer (some ⟨w1.heap.size + 1, 0, none⟩)]] 136)
  have hE : Env ((w1.alloc (.cells #[.func (.func 107) #[] #[.pointer (some ⟨Bm, 0, none⟩)]] 134)).alloc (.cells #[.func (.func 93) #[] #[.pointer (some ⟨w1.heap.size, 0, none⟩), .pointer (some ⟨w.heap.size, 0, none⟩), .pointer (some ⟨w1.heap.size + 1, 0, none⟩)]] 136)) w1.heap.size w.heap.size (w1.heap.size + 1) Bm cm rs.length (.slice am ms.length capm) ar capr (mapE rs (allL ms)) :=
    ⟨z0, (hbb.block _ hs1).trans X1.out, z1, (hbb.block _ (lt_of_block HBM.out)).trans HBM.out, HMM.out.same (hbb.block _ (by
      obtain ⟨es, clock, h1, _⟩ := HMM.out
      exact (Array.getElem?_eq_some_iff.1 h1).1))⟩
  have HE := Lib.hid hE
  have HB2 := Lib.hid (below_to HB1.out hbb)
  clear hE z0 z1 hbb HBM HMM HB1 HWO hB1 hB2 X1
  go_wp2
  generalize World.alloc (World.alloc w1 _) _ = W at *
  go_loopw [15] (fun i wr => ∃ q : Nat, q ≤ rs.length + 1 ∧ i = .int .i64 q ∧ Hid (Env wr w1.heap.size w.heap.size (w1.heap.size + 1) Bm cm rs.length (.slice am ms.length capm) ar capr (mapE rs (allL ms))) ∧ Hid (Below w.heap.size w wr) ∧ Hid (∀ r, 0 ≤ r → r < q → findP (alS ms rs) rs.length r (fun _ => false) 0 = none)) (fun i _ => rs.length + 1 - (intOf i).toNat)
  case atStart => exact ⟨0, Nat.zero_le _, rfl, HE, HB2, Lib.hid (fun r h1 h2 => by omega)⟩
  case round =>
    clear HE HB2
    obtain ⟨q, hq, rfl, HE, HB, HNO⟩ := hrel
    by_cases hlt : q < rs.length + 1
    · have hqn : (q : Int) < (rs.length : Int) + 1 := by omega
      have hwq : IntKind.i64.wrap ((q : Int) + 1) = (q : Int) + 1 := IntWalk.i64_in _ (by omega)
      have cf := cell_of_row wr (w1.heap.size + 1) 0 _ _ _ HE.out.f
      simp only [List.getElem?_toArray, List.getElem?_cons_zero] at cf
      have lf := lt_of_block HE.out.f
      have HFQ := Lib.hid (HFI.out w1.heap.size (w1.heap.size + 1) Bm cm q wr (by omega) HE.out)
      have HNQ : Hid (findP (alS ms rs) rs.length q (fun _ => false) 0 = none → ∀ r, 0 ≤ r → r < q + 1 → findP (alS ms rs) rs.length r (fun _ => false) 0 = none) := Lib.hid fun h r h1 h2 => by
        by_cases e : r = q
        · rw [e]; exact h
        · exact HNO.out r h1 (by omega)
      have HYQ := Lib.hid fun g => HSOME.out q g hlt HNO.out
      clear HFI HNO HSOME HNONE
      go_wp2_with fail
      refine HFQ.out.mono ?_
      rintro e w3 ⟨⟨g, rfl, hg⟩, hb⟩
      have HE3 := Lib.hid (HE.out.below hb)
      have HB3 := Lib.hid (below_to HB.out hb)
      have HG := Lib.hid hg
      clear hb hg HE HB cf lf HFQ
      obtain ⟨z, hz⟩ : ∃ z, (findP (alS ms rs) rs.length q (fun _ => false) 0).isSome = z := ⟨_, rfl⟩
      rw [hz]
      have HLS := Lib.hid (listS_any g)
      unfold bV at HLS ⊢
      have hbz := box_below w3 (.cells #[.bool (g 0), .bool (g 1), .bool (g 2), .bool (g 3), .bool (g 4), .bool (g 5)] 138)
      have HE4 := Lib.hid (HE3.out.below hbz)
      have HB4 := Lib.hid (below_to HB3.out hbz)
      clear hbz HE3 HB3
      cases z with
      | false =>
        have HN9 := Lib.hid (HNQ.out (Option.isNone_iff_eq_none.1 (by simpa using hz)))
        clear hz HNQ HYQ HG HLS
        go_wp2
        go_roundw
        case rel => exact ⟨q + 1, by omega, by simp, HE4, HB4, HN9⟩
        case measure => simp [intOf]; omega
      | true =>
        obtain ⟨s0, hs0⟩ := Option.isSome_iff_exists.1 hz
        have hgs := HG.out s0 hs0
        have hss := HYQ.out s0 hs0
        subst hgs
        subst hss
        clear hz HNQ HYQ HG hs0
        go_wp2_with fail
        refine (HLS.out _).mono ?_
        rintro e w5 ⟨⟨v, rfl, hv⟩, hb5⟩
        have HV := Lib.hid hv
        have HB5 := Lib.hid (below_to HB4.out hb5)
        clear hv hb5 HLS HE4 HB4
        go_wp2
        go_ret
        exact ⟨⟨v, rfl, HV.out⟩, HB5.out⟩
    · exact (HNONE.out fun r h1 h2 => HNO.out r h1 (by omega)).elim

set_option maxRecDepth 100000 in
set_option maxHeartbeats 1000000 in
theorem Doubtful_ok (n : Nat) (mv rv : Value) (ms : List Rg) (rs : List Rn) (s : Nat → Bool) (w : World) (hK : RoomOk ms rs) (hV : RoomV n w mv rv ms rs) (hs : doubtP (alS ms rs) rs.length = some s) :
    Calls Try.prog 40 #[.agg #[mv], rv] w fun e w' => (∃ v, e = .returned (.tuple #[v, .int .i64 0]) ∧ IntsV w'.heap.size w' v (listS s 6)) ∧ Below w.heap.size w w' := by
  have HCK := Lib.hid fun w' (h : Below w.heap.size w w') => rcheck_ok n mv rv ms rs w' hK (hV.below h)
  have HDO := Lib.hid fun w' (h : Below w.heap.size w w') => doubtful_any n mv rv ms rs s w' hK (hV.below h) hs
  obtain ⟨am, capm, rfl, -⟩ := hV.m
  obtain ⟨ar, capr, rfl, -⟩ := hV.r
  have HX := Lib.hid (box2 w (.cells #[.slice am ms.length capm] 33) (.cells #[.slice am ms.length capm, .slice ar rs.length capr] 100)).2
  have HB := Lib.hid (below2 w (.cells #[.slice am ms.length capm] 33) (.cells #[.slice am ms.length capm, .slice ar rs.length capr] 100))
  clear hV hK hs
  go_enter Try.func40, Try.ntmps40
  go_wp2_with fail
  refine (HCK.out _ HB.out).mono ?_
  rintro e w1 ⟨rfl, hb1⟩
  have HX1 := Lib.hid ((hb1.block _ (lt_of_block HX.out)).trans HX.out)
  have HB1 := Lib.hid (below_to HB.out hb1)
  have c0 := cell_of_row w1 (w.heap.size + 1) 0 _ _ _ HX1.out
  have c1 := cell_of_row w1 (w.heap.size + 1) 1 _ _ _ HX1.out
  simp only [List.getElem?_toArray, List.getElem?_cons_zero, List.getElem?_cons_succ] at c0 c1
  have l1 := lt_of_block HX1.out
  clear hb1
  go_wp2_with fail
  refine (HDO.out _ HB1.out).mono ?_
  rintro e w2 ⟨⟨v, rfl, hv⟩, hb2⟩
  have HB2 := Lib.hid (below_to HB1.out hb2)
  have HV := Lib.hid hv
  clear hb2 hv c0 c1 l1
  go_wp2
  go_ret2
  exact ⟨⟨v, rfl, HV.out⟩, HB2.out⟩
set_option maxRecDepth 100000 in
set_option maxHeartbeats 1000000 in
theorem Doubtful_err (n : Nat) (mv rv : Value) (ms : List Rg) (rs : List Rn) (w : World) (hL : Held ms rs) (hV : RoomV n w mv rv ms rs) (h : faultE ms rs ≠ 0) :
    Calls Try.prog 40 #[.agg #[mv], rv] w fun e w' => e = .returned (.tuple #[.slice none 0 0, .int .i64 (faultE ms rs)]) ∧ Below w.heap.size w w' := by
  have HCK := Lib.hid fun w' (h : Below w.heap.size w w') => rcheck_any n mv rv ms rs w' hL (hV.below h)
  obtain ⟨am, capm, rfl, -⟩ := hV.m
  obtain ⟨ar, capr, rfl, -⟩ := hV.r
  have HB := Lib.hid (below2 w (.cells #[.slice am ms.length capm] 33) (.cells #[.slice am ms.length capm, .slice ar rs.length capr] 100))
  clear hV hL
  generalize faultE ms rs = A at *
  have h1 : (A == 0) = false := by rw [beq_eq_false_iff_ne]; exact h
  have h2 : (A != 0) = true := by rw [bne_iff_ne]; exact h
  go_enter Try.func40, Try.ntmps40
  go_wp2_with fail
  refine (HCK.out _ HB.out).mono ?_
  rintro e w1 ⟨rfl, hb1⟩
  have HB1 := Lib.hid (below_to HB.out hb1)
  clear hb1
  go_wp2
  go_ret2
  exact ⟨rfl, HB1.out⟩
end Go.Proofs.Ytfijaafkagcmmaa
