/- The span of an iterator of numbers: its contract. -/
import Derived.Test.YtfjlnejeffkdoaaCC
namespace Go.Proofs.Ytfjlnejeffkdoaa
open Go.RowKit Go.Shelf
attribute [local irreducible] arrV
attribute [local go_sem] Oper.semAt_some

def spanV (ft fg : Nat) : Option (Int × Int) → Value
  | none => .tuple #[.agg #[.nilFunc, .nilFunc], .agg #[.int .i64 0, .int .i64 0], .int .i64 7]
  | some (lo, hi) => .tuple #[.agg #[.func (.func ft) #[] #[], .func (.func fg) #[] #[]], .agg #[.int .i64 lo, .int .i64 hi], .int .i64 0]

theorem allocs5 (w : World) (A B C D E : Obj) : let W := ((((w.alloc A).alloc B).alloc C).alloc D).alloc E
    W.heap[w.heap.size]? = some A ∧ W.heap[w.heap.size + 1]? = some B ∧ W.heap[w.heap.size + 1 + 1]? = some C ∧ W.heap[w.heap.size + 1 + 1 + 1]? = some D ∧ W.heap[w.heap.size + 1 + 1 + 1 + 1]? = some E ∧ Below w.heap.size w W ∧ W.heap.size = w.heap.size + 5 := by
  obtain ⟨h0, h1, h2⟩ := box3 w A B C
  have h3 := heap_alloc_new (((w.alloc A).alloc B).alloc C) D
  have h4 := heap_alloc_new ((((w.alloc A).alloc B).alloc C).alloc D) E
  simp only [World.size_alloc] at h3 h4
  refine ⟨?_, ?_, ?_, ?_, h4, ((below3 w A B C).alloc (by simp; omega) D).alloc (by simp; omega) E, by simp⟩
  · rw [heap_alloc_low _ _ _ (by simp <;> omega), heap_alloc_low _ _ _ (by simp <;> omega)]; exact h0
  · rw [heap_alloc_low _ _ _ (by simp <;> omega), heap_alloc_low _ _ _ (by simp <;> omega)]; exact h1
  · rw [heap_alloc_low _ _ _ (by simp <;> omega), heap_alloc_low _ _ _ (by simp <;> omega)]; exact h2
  · rw [heap_alloc_low _ _ _ (by simp <;> omega)]; exact h3

/-- The span so far, in the blocks behind H. -/
structure SpanAt (H : Nat) (o : Option (Int × Int)) (A : World) : Prop where
  s : A.heap[H + 1]? = some (.cells #[.int .i64 (o.getD (0, 0)).1, .int .i64 (o.getD (0, 0)).2] 51 (0, 0))
  m : A.heap[H + 1 + 1]? = some (.cells #[.bool o.isSome] 4 (0, 0))
  a : A.heap[H + 1 + 1 + 1]? = some (.cells #[.int .i64 (o.getD (0, 0)).1, .int .i64 (o.getD (0, 0)).2] 51 (0, 0))
  g : A.heap[H + 1 + 1 + 1 + 1]? = some (.cells #[.bool o.isSome] 4 (0, 0))
theorem SpanAt.keep {H : Nat} {o : Option (Int × Int)} {A B : World} (h : SpanAt H o A) (hb : ∀ k, H < k → k < H + 5 → B.heap[k]? = A.heap[k]?) : SpanAt H o B :=
  ⟨(hb _ (by omega) (by omega)).trans h.s, (hb _ (by omega) (by omega)).trans h.m, (hb _ (by omega) (by omega)).trans h.a, (hb _ (by omega) (by omega)).trans h.g⟩
theorem take_step (n : Int) (o : Option (Int × Int)) (H : Nat) (A : World) (h : SpanAt H o A) :
    Calls Try.prog 89 #[.int .i64 n, .pointer (some ⟨H + 1 + 1 + 1 + 1, 0, none⟩), .pointer (some ⟨H + 1 + 1 + 1, 0, none⟩)] A (Took (H + 1 + 1 + 1) (H + 1 + 1 + 1 + 1) ((bndStep o n).getD (0, 0)).1 ((bndStep o n).getD (0, 0)).2 A) := by
  cases o with
  | none => exact take_first n 0 0 _ _ A (by omega) h.a h.g
  | some x => exact take_next n x.1 x.2 _ _ A (by omega) h.a h.g
theorem bndStep_some (o : Option (Int × Int)) (n : Int) : (bndStep o n).isSome = true := by cases o <;> rfl

theorem span_end {w W9 : World} {D : Nat} {tmps : Array Value} {u0 u1 : Value} {x y : Int} {E : Int} {R : Value} {n : Nat} (h4 : tmps[4]? = some (.pointer (some ⟨w.heap.size + 1, 0, none⟩))) (h5 : tmps[5]? = some (.pointer (some ⟨w.heap.size + 1 + 1, 0, none⟩))) (h6 : tmps[6]? = some (.int .i64 E))
    (q1 : W9.heap[w.heap.size + 1]? = some (.cells #[u0, u1] 105 (0, 0))) (q2 : W9.heap[w.heap.size + 1 + 1]? = some (.cells #[.int .i64 x, .int .i64 y] 51 (0, 0))) (q3 : W9.heap[D]? = some (.deferred (some []))) (q4 : Below w.heap.size w W9) (hD : w.heap.size + 3 ≤ D)
    (hR : .tuple #[.agg #[u0, u1], .agg #[.int .i64 x, .int .i64 y], .int .i64 E] = R) :
    LeavesInM Fence.wide n Try.prog Try.f55 tmps (fun e w' => e = .returned R ∧ Below w.heap.size w w') [{ target := .collected D, args := #[] }] .returning W9 := by
  subst hR
  refine ⟨by simp, .inl ⟨_, _, rfl, run_takeDeferred q3, ?_⟩⟩
  have r1 := (World.putObj_heap_other (w := W9) (r := D) (o := .deferred none) (k := w.heap.size + 1) (by omega)).trans q1
  have r2 := (World.putObj_heap_other (w := W9) (r := D) (o := .deferred none) (k := w.heap.size + 1 + 1) (by omega)).trans q2
  have c0 := cell_of_row _ (w.heap.size + 1) 0 _ _ _ r1
  have c1 := cell_of_row _ (w.heap.size + 1) 1 _ _ _ r1
  have c2 := cell_of_row _ (w.heap.size + 1 + 1) 0 _ _ _ r2
  have c3 := cell_of_row _ (w.heap.size + 1 + 1) 1 _ _ _ r2
  simp at c0 c1 c2 c3
  refine ⟨_, ?_, rfl, ⟨q4.os, q4.tape, q4.output, by simpa using q4.size, fun k hk => (World.putObj_heap_other (by omega)).trans (q4.block k hk)⟩⟩
  simp [results, Try.results55, go_sem, *]

set_option maxRecDepth 100000 in
set_option maxHeartbeats 2000000 in
theorem spanOf_ok (ft fg b off cap : Nat) (kd : Int) (ps : List Pt) (r : Rl) (ts : List (List Int)) (fnd : Rs → Int × Int) (w : World) (F : Sane ps r) (HE : bothE ps r = 0) (HT : TruthsOf ps r b off cap ft ts) (HF : FoundBy fg fnd)
    (HK : ∀ w, Calls Try.prog 57 #[.int .u8 kd] w fun e w' => e = .returned (.tuple #[.agg #[.func (.func ft) #[] #[], .func (.func fg) #[] #[]], .bool true]) ∧ Below w.heap.size w w') (hp : PtsIn w b off ps) :
    Calls Try.prog 55 #[.agg #[.slice (some ⟨b, off, none⟩) ps.length cap, .int .i64 r.d, .int .i64 r.k, .int .i64 r.o], .int .u8 kd] w fun e w' => e = .returned (spanV ft fg (bnd (numsL ps r fnd ts))) ∧ Below w.heap.size w w' := by
  have hltb : b < w.heap.size := block_lt_of_cell (hp 0 F.pos).1
  refine (callsIn_wide (n := 0)).1 ?_
  refine callsIn_of_wp_marks Try.func55 rfl trivial ?_ rfl
  simp only [Try.ntmps55, List.size_toArray, List.length_cons, List.length_nil, Nat.reduceAdd, Nat.reduceSub, Array.replicate_succ, Array.replicate_zero, List.push_toArray, List.append_toArray, List.nil_append, List.cons_append]
  gi_wp2_with fail
  refine ⟨trivial, rfl, ?_⟩
  have hb0 := below3 w (.cells #[.slice (some ⟨b, off, none⟩) ps.length cap, .int .i64 r.d, .int .i64 r.k, .int .i64 r.o] 94) (.cells #[.nilFunc, .nilFunc] 105) (.cells #[.int .i64 0, .int .i64 0] 51)
  refine (callsIn_wide.2 (rcheck_pts b off cap ps r.d r.k r.o _ F.len F.pos (hp.below hb0 hltb))).mono ?_
  rw [show bothE ps ⟨r.d, r.k, r.o⟩ = 0 from HE]
  rintro e w1 ⟨rfl, hb1⟩
  obtain ⟨x0, x1, x2⟩ := box3 w (.cells #[.slice (some ⟨b, off, none⟩) ps.length cap, .int .i64 r.d, .int .i64 r.k, .int .i64 r.o] 94) (.cells #[.nilFunc, .nilFunc] 105) (.cells #[.int .i64 0, .int .i64 0] 51)
  have y0 := (hb1.block _ (by simp; omega)).trans x0
  have y1 := (hb1.block _ (by simp)).trans x1
  have y2 := (hb1.block _ (by simp)).trans x2
  have hs1 : w.heap.size + 3 ≤ w1.heap.size := by simpa using hb1.size
  have hbw1 := below_to hb0 hb1
  clear x0 x1 x2 hb0 hb1
  gi_wp2_with fail
  refine ⟨trivial, rfl, ?_⟩
  refine (callsIn_wide.2 (HK w1)).mono ?_
  rintro e w2 ⟨rfl, hb2⟩
  have z0 := (hb2.block _ (by omega)).trans y0
  have z1 := (hb2.block _ (by omega)).trans y1
  have z2 := (hb2.block _ (by omega)).trans y2
  have hs2 : w.heap.size + 3 ≤ w2.heap.size := Nat.le_trans hs1 hb2.size
  have hbw2 := below_to hbw1 hb2
  clear y0 y1 y2 hs1 hbw1 hb2 w1
  have c0 := cell_of_row w2 w.heap.size 0 _ _ _ z0
  have c1 := cell_of_row w2 w.heap.size 1 _ _ _ z0
  have c2 := cell_of_row w2 w.heap.size 2 _ _ _ z0
  have c3 := cell_of_row w2 w.heap.size 3 _ _ _ z0
  simp at c0 c1 c2 c3
  have h0 : w.heap.size < w2.heap.size := by omega
  have HBF := Lib.hid bounds_fn
  have HNF := Lib.hid numbers_fn
  gi_wp2_with fail
  refine ⟨trivial, rfl, ?_⟩
  refine (callsIn_wide.2 (HBF.out _)).mono ?_
  rintro e w3 ⟨rfl, hw3⟩
  obtain ⟨k0, k1, k2, k3, k4, hb3, hs3⟩ := allocs5 w2 (.cells #[.func (.func ft) #[] #[], .func (.func fg) #[] #[]] 105) (.cells #[.int .i64 0, .int .i64 0] 51) (.cells #[.bool false] 4) (.cells #[.int .i64 0, .int .i64 0] 51) (.cells #[.bool false] 4)
  rw [← hw3] at k0 k1 k2 k3 k4 hb3 hs3
  clear hw3 c0 c1 c2 c3 h0
  simp only [World.size_alloc]
  generalize w2.heap.size = H at *
  replace z0 := (hb3.block _ (by omega)).trans z0
  replace z1 := (hb3.block _ (by omega)).trans z1
  replace z2 := (hb3.block _ (by omega)).trans z2
  have hbw3 : Below w.heap.size w w3 := hbw2.trans (hb3.mono (by omega))
  have hs3' : H + 5 ≤ w3.heap.size := by omega
  clear hb3 hbw2 w2 hs3
  have c0 := cell_of_row w3 w.heap.size 0 _ _ _ z0
  have c1 := cell_of_row w3 w.heap.size 1 _ _ _ z0
  have c2 := cell_of_row w3 w.heap.size 2 _ _ _ z0
  have c3 := cell_of_row w3 w.heap.size 3 _ _ _ z0
  have d0 := cell_of_row w3 H 0 _ _ _ k0
  have d1 := cell_of_row w3 H 1 _ _ _ k0
  simp at c0 c1 c2 c3 d0 d1
  have h0 : w.heap.size < w3.heap.size := by omega
  have h1 : H < w3.heap.size := by omega
  gi_wp2_with fail
  refine ⟨trivial, rfl, ?_⟩
  refine (callsIn_wide.2 (HNF.out _ _ _ _ _ _ _)).mono ?_
  rintro e w4 ⟨rfl, hw4⟩
  simp only [World.size_alloc]
  obtain ⟨m0, m1, m2⟩ := box3 w3 (.cells #[.func (.func 89) #[] #[.pointer (some ⟨H + 1 + 1 + 1 + 1, 0, none⟩), .pointer (some ⟨H + 1 + 1 + 1, 0, none⟩)]] 130) (.cells #[.slice (some ⟨b, off, none⟩) ps.length cap, .int .i64 r.d, .int .i64 r.k, .int .i64 r.o] 94) (.cells #[.func (.func ft) #[] #[], .func (.func fg) #[] #[]] 105)
  have hb4 := below3 w3 (.cells #[.func (.func 89) #[] #[.pointer (some ⟨H + 1 + 1 + 1 + 1, 0, none⟩), .pointer (some ⟨H + 1 + 1 + 1, 0, none⟩)]] 130) (.cells #[.slice (some ⟨b, off, none⟩) ps.length cap, .int .i64 r.d, .int .i64 r.k, .int .i64 r.o] 94) (.cells #[.func (.func ft) #[] #[], .func (.func fg) #[] #[]] 105)
  rw [← hw4] at m0 m1 m2 hb4
  have hs4 : w3.heap.size + 3 = w4.heap.size := by rw [hw4]; simp
  clear hw4 c0 c1 c2 c3 d0 d1 h0 h1 z0
  generalize w3.heap.size = K at *
  replace z1 := (hb4.block _ (by omega)).trans z1
  replace z2 := (hb4.block _ (by omega)).trans z2
  have hSP : SpanAt H (bnd (numsL ps r fnd [])) w4 := ⟨(hb4.block _ (by omega)).trans k1, (hb4.block _ (by omega)).trans k2, (hb4.block _ (by omega)).trans k3, (hb4.block _ (by omega)).trans k4⟩
  replace k0 := (hb4.block _ (by omega)).trans k0
  have hbw4 : Below w.heap.size w w4 := hbw3.trans (hb4.mono (by omega))
  clear hb4 hbw3 k1 k2 k3 k4 w3
  have hpts := hp.below hbw4 hltb
  have hs4' : K + 3 ≤ w4.heap.size := by omega
  have hseq := numbers_seq ft fg (K + 1 + 1) (K + 1) b off cap ps r ts fnd (fun _ => True) w4 F HT HF (fun _ _ _ => trivial) ⟨m1, hpts⟩ m2
  have M0 := Lib.hid m0
  have Z1 := Lib.hid z1
  have Z2 := Lib.hid z2
  have K0 := Lib.hid k0
  have HSQ := Lib.hid hseq
  have HSP := Lib.hid hSP
  have HBW := Lib.hid hbw4
  clear m0 m1 m2 z1 z2 k0 hseq hpts hSP hs4 hbw4 HBF HNF
  gi_wp2
  refine wp_rangeT rfl (fun args w => enters_of Try.func90 (by kernel_rfl) rfl args w) HSQ.out (Below.refl _ w4) (fun _ => rfl) (fun k => H < k ∧ k < H + 5) ?tc ⟨by omega, by omega⟩ ?rr ?rs
    (fun pre A => SpanAt H (bnd pre) A) (fun _ _ _ => False) ?ir (fun _ _ _ _ h _ => h) ?ig ?ip (fun _ _ _ _ _ h _ => h) HSP.out
    (fun x a' _ => a' = { tmps := #[.agg #[.slice (some ⟨b, off, none⟩) ps.length cap, .int .i64 r.d, .int .i64 r.k, .int .i64 r.o], .int .u8 kd, .pointer (some ⟨w.heap.size, 0, none⟩), undef, .pointer (some ⟨w.heap.size + 1, 0, none⟩), .pointer (some ⟨w.heap.size + 1 + 1, 0, none⟩), .int .i64 0, .int .i64 0, .pointer (some ⟨H, 0, none⟩), .bool true,
      .pointer (some ⟨H + 1, 0, none⟩), .pointer (some ⟨H + 1 + 1, 0, none⟩), .pointer (some ⟨K, 0, none⟩), undef, .int .i64 x.2, .agg #[.slice (some ⟨b, off, none⟩) ps.length cap, .int .i64 r.d, .int .i64 r.k, .int .i64 r.o], .int .i64 0, .int .i64 0, .bool false, undef, undef, undef,
      .tuple #[.agg #[.func (.func ft) #[] #[], .func (.func fg) #[] #[]], .bool true], .int .u8 kd, .tuple #[.agg #[.func (.func ft) #[] #[], .func (.func fg) #[] #[]], .bool true], .agg #[.func (.func ft) #[] #[], .func (.func fg) #[] #[]], .bool true, .bool true, .bool false, undef, undef,
      .func (.func 89) #[] #[.pointer (some ⟨H + 1 + 1 + 1 + 1, 0, none⟩), .pointer (some ⟨H + 1 + 1 + 1, 0, none⟩)], .agg #[.slice (some ⟨b, off, none⟩) ps.length cap, .int .i64 r.d, .int .i64 r.k, .int .i64 r.o], .agg #[.func (.func ft) #[] #[], .func (.func fg) #[] #[]],
      .func (.func 90) #[] #[.pointer (some ⟨K + 1 + 1, 0, none⟩), .pointer (some ⟨K + 1, 0, none⟩)], .int .i64 x.1, .int .i64 x.2, undef, undef, undef, undef, undef, undef, undef, undef, undef], defers := [] }) (fun _ _ _ _ h => h) ?assign ?body ?done ?stop
  case tc =>
    rintro W1 hb1 hs1 k (⟨hk, hk'⟩ | hk | hk)
    · exact ⟨by omega, fun h => by rcases h with h | h | h <;> omega⟩
    · exact ⟨by omega, fun h => by rcases h with h | h | h <;> omega⟩
    · exact ⟨by omega, fun h => by rcases h with h | h | h <;> omega⟩
  case rr =>
    rintro A B k hR hk _
    exact hR.2 k (.inr hk)
  case rs =>
    rintro A B k hR hk _
    exact hR.2 k (.inr hk)
  case ir => exact fun s A B h hR => h.keep fun k h1 h2 => hR.2 k (.inl ⟨h1, h2⟩)
  case ig => exact fun s A B h hb => ⟨(hb.block _ (lt_of_block h.s)).trans h.s, (hb.block _ (lt_of_block h.m)).trans h.m, (hb.block _ (lt_of_block h.a)).trans h.a, (hb.block _ (lt_of_block h.g)).trans h.g⟩
  case ip => exact fun s A k o h hk => h.keep fun j h1 h2 => World.putObj_heap_other (by omega)
  case assign =>
    rintro l2 x A hx hA
    simp only [List.zip, List.foldl]
    gi_wp2
    exact ⟨trivial, Below.refl _ _⟩
  case body =>
    rintro l2 pre x a' A hx hI hb hs rfl
    have hKA : A.heap[K]? = some (.cells #[.func (.func 89) #[] #[.pointer (some ⟨H + 1 + 1 + 1 + 1, 0, none⟩), .pointer (some ⟨H + 1 + 1 + 1, 0, none⟩)]] 130 (0, 0)) := (hb.block K (by omega) (fun h => by rcases h with h | h | h <;> omega)).trans M0.out
    have t0 := cell_of_row A K 0 _ _ _ hKA
    simp at t0
    have hKl := lt_of_block hKA
    have hTS := Lib.hid (take_step x.2 (bnd pre) H A hI)
    have HI := Lib.hid hI
    clear hI hKA
    gi_wp2_with fail
    refine ⟨trivial, rfl, ?_⟩
    refine CallsIn.mono (CallsIn.inRound l2 ((callsIn_wide (n := 0)).2 hTS.out)) ?_
    rintro e w5 ⟨rfl, h5a, h5g, hb5⟩
    have h5s := (hb5.block (H + 1) (lt_of_block HI.out.s) (by omega)).trans HI.out.s
    have h5m := (hb5.block (H + 1 + 1) (lt_of_block HI.out.m) (by omega)).trans HI.out.m
    have s0 := cell_of_row w5 (H + 1) 0 _ _ _ h5s
    have s1 := cell_of_row w5 (H + 1) 1 _ _ _ h5s
    have m0 := cell_of_row w5 (H + 1 + 1) 0 _ _ _ h5m
    have sf0 := frozen_of_row w5 (H + 1) 0 _ _ h5s
    have sf1 := frozen_of_row w5 (H + 1) 1 _ _ h5s
    have mf0 := frozen_of_row w5 (H + 1 + 1) 0 _ _ h5m
    simp at s0 s1 m0
    have hsl := lt_of_block h5s
    have hml := lt_of_block h5m
    have H5a := Lib.hid h5a
    have H5g := Lib.hid h5g
    have H5s := Lib.hid h5s
    have H5m := Lib.hid h5m
    clear h5a h5g h5s h5m t0
    gi_wp2
    have q1 := heap_setCell_same w5 (H + 1) 0 _ 51 (.int .i64 ((bndStep (bnd pre) x.2).getD (0, 0)).1) H5s.out
    have q2 := heap_setCell_same _ (H + 1) 1 _ 51 (.int .i64 ((bndStep (bnd pre) x.2).getD (0, 0)).2) q1
    have o1 : ∀ (u v : Value) k, k ≠ H + 1 → ((w5.setCell ⟨H + 1, 0, none⟩ u).setCell ⟨H + 1, 1, none⟩ v).heap[k]? = w5.heap[k]? := fun u v k hk =>
      (heap_setCell_other _ ⟨H + 1, 1, none⟩ k v (by show k ≠ H + 1; omega)).trans (heap_setCell_other _ ⟨H + 1, 0, none⟩ k u (by show k ≠ H + 1; omega))
    refine ⟨?_, ?_⟩
    · refine (hb5.mono (fun k hk => ?_)).trans ((But.setCell _ _ ?_).trans ((But.setCell _ _ ?_).trans (But.setCell _ _ ?_)))
      · rcases hk with h | h <;> exact ⟨by omega, by omega⟩
      · exact ⟨by omega, by omega⟩
      · exact ⟨by omega, by omega⟩
      · exact ⟨by omega, by omega⟩
    · show SpanAt H (bnd (pre ++ [x])) _
      rw [bnd_snoc]
      exact {
        s := (heap_setCell_other _ ⟨H + 1 + 1, 0, none⟩ (H + 1) _ (by show H + 1 ≠ H + 1 + 1; omega)).trans q2
        m := by
          rw [bndStep_some]
          exact heap_setCell_same _ (H + 1 + 1) 0 _ 4 (.bool true) ((o1 _ _ _ (by omega)).trans H5m.out)
        a := ((heap_setCell_other _ ⟨H + 1 + 1, 0, none⟩ (H + 1 + 1 + 1) _ (by show H + 1 + 1 + 1 ≠ H + 1 + 1; omega)).trans (o1 _ _ _ (by omega))).trans H5a.out
        g := by
          rw [bndStep_some]
          exact ((heap_setCell_other _ ⟨H + 1 + 1, 0, none⟩ (H + 1 + 1 + 1 + 1) _ (by show H + 1 + 1 + 1 + 1 ≠ H + 1 + 1; omega)).trans (o1 _ _ _ (by omega))).trans H5g.out }
  case done =>
    rintro xs A rfl hI hb hK
    have hx1 := (hb.block (w.heap.size + 1) (by omega) (fun h => by rcases h with h | h | h <;> omega)).trans Z1.out
    have hx2 := (hb.block (w.heap.size + 1 + 1) (by omega) (fun h => by rcases h with h | h | h <;> omega)).trans Z2.out
    have hx8 := (hb.block H (by omega) (fun h => by rcases h with h | h | h <;> omega)).trans K0.out
    have m0 := cell_of_row A (H + 1 + 1) 0 _ _ _ hI.m
    simp at m0
    have hml := lt_of_block hI.m
    have r0 := cell_of_row A (w.heap.size + 1) 0 _ _ _ hx1
    have r1 := cell_of_row A (w.heap.size + 1) 1 _ _ _ hx1
    have r2 := cell_of_row A (w.heap.size + 1 + 1) 0 _ _ _ hx2
    have r3 := cell_of_row A (w.heap.size + 1 + 1) 1 _ _ _ hx2
    have rf0 := frozen_of_row A (w.heap.size + 1) 0 _ _ hx1
    have rf1 := frozen_of_row A (w.heap.size + 1) 1 _ _ hx1
    have rf2 := frozen_of_row A (w.heap.size + 1 + 1) 0 _ _ hx2
    have rf3 := frozen_of_row A (w.heap.size + 1 + 1) 1 _ _ hx2
    simp at r0 r1 r2 r3
    have hl1 := lt_of_block hx1
    have hl2 := lt_of_block hx2
    have hbA : Below w.heap.size w A := HBW.out.trans ⟨hb.os, hb.tape, hb.output, by have := hb.size; have := HBW.out.size; omega, fun k hk => hb.block k (by omega) (fun h => by rcases h with h | h | h <;> omega)⟩
    cases hbn : bnd (numsL ps r fnd ts) with
    | none =>
      rw [hbn] at m0 hI
      simp at m0
      have HBN := Lib.hid hbn
      clear hbn
      have HK' := Lib.hid hK
      have HI := Lib.hid hI
      have HX1 := Lib.hid hx1
      have HX2 := Lib.hid hx2
      have HBA := Lib.hid hbA
      clear hK hI hx1 hx2 hx8 hbA
      gi_wp2
      obtain ⟨q1, q2, q3, q4⟩ : ((((A.setCell ⟨w.heap.size + 1, 0, none⟩ .nilFunc).setCell ⟨w.heap.size + 1, 1, none⟩ .nilFunc).setCell ⟨w.heap.size + 1 + 1, 0, none⟩ (.int .i64 0)).setCell ⟨w.heap.size + 1 + 1, 1, none⟩ (.int .i64 0)).heap[w.heap.size + 1]? = some (.cells #[.nilFunc, .nilFunc] 105 (0, 0)) ∧
          ((((A.setCell ⟨w.heap.size + 1, 0, none⟩ .nilFunc).setCell ⟨w.heap.size + 1, 1, none⟩ .nilFunc).setCell ⟨w.heap.size + 1 + 1, 0, none⟩ (.int .i64 0)).setCell ⟨w.heap.size + 1 + 1, 1, none⟩ (.int .i64 0)).heap[w.heap.size + 1 + 1]? = some (.cells #[.int .i64 0, .int .i64 0] 51 (0, 0)) ∧
          ((((A.setCell ⟨w.heap.size + 1, 0, none⟩ .nilFunc).setCell ⟨w.heap.size + 1, 1, none⟩ .nilFunc).setCell ⟨w.heap.size + 1 + 1, 0, none⟩ (.int .i64 0)).setCell ⟨w.heap.size + 1 + 1, 1, none⟩ (.int .i64 0)).heap[w4.heap.size]? = some (.deferred (some [])) ∧
          Below w.heap.size w ((((A.setCell ⟨w.heap.size + 1, 0, none⟩ .nilFunc).setCell ⟨w.heap.size + 1, 1, none⟩ .nilFunc).setCell ⟨w.heap.size + 1 + 1, 0, none⟩ (.int .i64 0)).setCell ⟨w.heap.size + 1 + 1, 1, none⟩ (.int .i64 0)) := by
        have a1 := heap_setCell_same A (w.heap.size + 1) 0 _ 105 .nilFunc HX1.out
        have a2 := heap_setCell_same _ (w.heap.size + 1) 1 _ 105 .nilFunc a1
        have o1 : ∀ (u v : Value) k, k ≠ w.heap.size + 1 → ((A.setCell ⟨w.heap.size + 1, 0, none⟩ u).setCell ⟨w.heap.size + 1, 1, none⟩ v).heap[k]? = A.heap[k]? := fun u v k hk =>
          (heap_setCell_other _ ⟨w.heap.size + 1, 1, none⟩ k v (by show k ≠ w.heap.size + 1; omega)).trans (heap_setCell_other _ ⟨w.heap.size + 1, 0, none⟩ k u (by show k ≠ w.heap.size + 1; omega))
        have o2 : ∀ (W : World) (u v : Value) k, k ≠ w.heap.size + 1 + 1 → ((W.setCell ⟨w.heap.size + 1 + 1, 0, none⟩ u).setCell ⟨w.heap.size + 1 + 1, 1, none⟩ v).heap[k]? = W.heap[k]? := fun W u v k hk =>
          (heap_setCell_other _ ⟨w.heap.size + 1 + 1, 1, none⟩ k v (by show k ≠ w.heap.size + 1 + 1; omega)).trans (heap_setCell_other _ ⟨w.heap.size + 1 + 1, 0, none⟩ k u (by show k ≠ w.heap.size + 1 + 1; omega))
        refine ⟨(o2 _ _ _ _ (by omega)).trans a2, ?_, (o2 _ _ _ _ (by omega)).trans ((o1 _ _ _ (by omega)).trans HK'.out), ?_⟩
        · have a3 := heap_setCell_same _ (w.heap.size + 1 + 1) 0 _ 51 (.int .i64 0) ((o1 .nilFunc .nilFunc _ (by omega)).trans HX2.out)
          exact heap_setCell_same _ (w.heap.size + 1 + 1) 1 _ 51 (.int .i64 0) a3
        · exact (((HBA.out.setCell (p := ⟨w.heap.size + 1, 0, none⟩) (by show w.heap.size ≤ w.heap.size + 1; omega) _).setCell (p := ⟨w.heap.size + 1, 1, none⟩) (by show w.heap.size ≤ w.heap.size + 1; omega) _).setCell (p := ⟨w.heap.size + 1 + 1, 0, none⟩) (by show w.heap.size ≤ w.heap.size + 1 + 1; omega) _).setCell (p := ⟨w.heap.size + 1 + 1, 1, none⟩) (by show w.heap.size ≤ w.heap.size + 1 + 1; omega) _
      exact span_end rfl rfl rfl q1 q2 q3 q4 (by omega) (by rw [HBN.out]; rfl)
    | some o =>
      obtain ⟨lo, hi⟩ := o
      rw [hbn] at m0 hI
      simp at m0
      have HBN := Lib.hid hbn
      clear hbn
      have HK' := Lib.hid hK
      have HBA := Lib.hid hbA
      have hS0 : (A.heap[H]? = some (.cells #[.func (.func ft) #[] #[], .func (.func fg) #[] #[]] 105 (0, 0)) ∧ A.heap[H + 1]? = some (.cells #[.int .i64 lo, .int .i64 hi] 51 (0, 0)) ∧ (∃ x y, A.heap[w.heap.size + 1]? = some (.cells #[x, y] 105 (0, 0))) ∧
        (∃ x y, A.heap[w.heap.size + 1 + 1]? = some (.cells #[x, y] 51 (0, 0))) ∧ A.heap[w4.heap.size]? = some (.deferred (some [])) ∧ Below w.heap.size w A) := ⟨hx8, hI.s, ⟨_, _, hx1⟩, ⟨_, _, hx2⟩, hK, hbA⟩
      have HS0 := Lib.hid hS0
      clear hK hI hx1 hx2 hx8 hbA r0 r1 r2 r3 rf0 rf1 rf2 rf3 hS0
      gi_wp2_with fail
      refine wpIn_region_noPanic ?_
      refine wpIn_wide.2 ?_
      refine wp_region_chain (fun w' => w'.heap[H]? = some (.cells #[.func (.func ft) #[] #[], .func (.func fg) #[] #[]] 105 (0, 0)) ∧ w'.heap[H + 1]? = some (.cells #[.int .i64 lo, .int .i64 hi] 51 (0, 0)) ∧ (∃ x y, w'.heap[w.heap.size + 1]? = some (.cells #[x, y] 105 (0, 0))) ∧
        (∃ x y, w'.heap[w.heap.size + 1 + 1]? = some (.cells #[x, y] 51 (0, 0))) ∧ w'.heap[w4.heap.size]? = some (.deferred (some [])) ∧ Below w.heap.size w w')
        (fun w1 w2 h hb => ⟨(hb.block _ (lt_of_block h.1)).trans h.1, (hb.block _ (lt_of_block h.2.1)).trans h.2.1, h.2.2.1.elim fun x hx => hx.elim fun y hy => ⟨x, y, (hb.block _ (lt_of_block hy)).trans hy⟩,
          h.2.2.2.1.elim fun x hx => hx.elim fun y hy => ⟨x, y, (hb.block _ (lt_of_block hy)).trans hy⟩, (hb.block _ (lt_of_block h.2.2.2.2.1)).trans h.2.2.2.2.1, h.2.2.2.2.2.trans (hb.mono h.2.2.2.2.2.size)⟩) (by obtain ⟨a1, a2, a3, a4, a5, a6⟩ := HS0.out; exact ⟨a1, a2, a3, a4, a5, ⟨a6.os, a6.tape, a6.output, a6.size, a6.block⟩⟩) (by kernel_rfl) (fun _ _ _ _ _ h => h)
        [(false, 0), (false, 1)] [2, 3, 4] (by kernel_rfl) ?_
      iterate 2
        (refine Walk.takes rfl rfl ?_; apply Exists.intro; refine ⟨fun w2 hS => ?_, ?_⟩; (obtain ⟨e1, e2, -⟩ := hS; have u0 := cell_of_row w2 H 0 _ _ _ e1; have u1 := cell_of_row w2 H 1 _ _ _ e1; have u2 := cell_of_row w2 (H + 1) 0 _ _ _ e2; have u3 := cell_of_row w2 (H + 1) 1 _ _ _ e2; clear e1 e2; simp at u0 u1 u2 u3; go_simp; with_reducible rfl); simp only [List.getElem_toArray, List.getElem_cons_succ, List.getElem_cons_zero, Act.put, List.setIfInBounds_toArray, List.set_cons_zero, List.set_cons_succ])
      refine Walk.fin ?_
      rintro w5 hb5 ⟨e1, e2, ⟨x, y, e3⟩, ⟨x', y', e4⟩, e5, e6⟩
      have n1 := set_whole (w.heap.size + 1) 105 w5 #[x, y] #[.func (.func ft) #[] #[], .func (.func fg) #[] #[]] rfl e3
      have n2 := fun k hk => heap_cells (w.heap.size + 1) #[Value.func (.func ft) #[] #[], .func (.func fg) #[] #[]].toList 0 w5 k hk
      have n3 := below_cells (b := w.heap.size + 1) (by omega) #[Value.func (.func ft) #[] #[], .func (.func fg) #[] #[]].toList 0 w5 e6
      refine Tail.skip rfl rfl (exec_store_row 105 (.tmp 4) (.tmp 44) rfl (w.heap.size + 1) 0 #[.func (.func ft) #[] #[], .func (.func fg) #[] #[]] rfl rfl (there_block e3 (by simp)) (by kernel_rfl) (by simp [Value.oneCell'])) ?_ ?_
      · exact ⟨(n2 _ (by omega)).trans e1, (n2 _ (by omega)).trans e2, ⟨_, _, n1⟩, ⟨x', y', (n2 _ (by omega)).trans e4⟩, (n2 _ (by omega)).trans e5, n3⟩
      replace e4 := (n2 (w.heap.size + 1 + 1) (by omega)).trans e4
      replace e5 := (n2 w4.heap.size (by omega)).trans e5
      replace e1 := (n2 H (by omega)).trans e1
      replace e2 := (n2 (H + 1) (by omega)).trans e2
      simp only [List.getElem_toArray, List.getElem_cons_succ, List.getElem_cons_zero, Act.put]
      clear n2 e3 e6 hb5
      generalize w5.setCells (w.heap.size + 1) 0 #[Value.func (.func ft) #[] #[], .func (.func fg) #[] #[]].toList = w6 at *
      have p1 := set_whole (w.heap.size + 1 + 1) 51 w6 #[x', y'] #[.int .i64 lo, .int .i64 hi] rfl e4
      have p2 := fun k hk => heap_cells (w.heap.size + 1 + 1) #[Value.int .i64 lo, .int .i64 hi].toList 0 w6 k hk
      have p3 := below_cells (b := w.heap.size + 1 + 1) (by omega) #[Value.int .i64 lo, .int .i64 hi].toList 0 w6 n3
      refine Tail.skip rfl rfl (exec_store_row 51 (.tmp 5) (.tmp 45) rfl (w.heap.size + 1 + 1) 0 #[.int .i64 lo, .int .i64 hi] rfl rfl (there_block e4 (by simp)) (by kernel_rfl) (by simp [Value.oneCell'])) ?_ ?_
      · exact ⟨(p2 _ (by omega)).trans e1, (p2 _ (by omega)).trans e2, ⟨_, _, (p2 _ (by omega)).trans n1⟩, ⟨_, _, p1⟩, (p2 _ (by omega)).trans e5, p3⟩
      replace n1 := (p2 (w.heap.size + 1) (by omega)).trans n1
      replace e5 := (p2 w4.heap.size (by omega)).trans e5
      clear p2 e1 e2 e4 n3
      generalize w6.setCells (w.heap.size + 1 + 1) 0 #[Value.int .i64 lo, .int .i64 hi].toList = w7 at *
      have N1 := Lib.hid n1
      have P1 := Lib.hid p1
      have E5 := Lib.hid e5
      have P3 := Lib.hid p3
      clear n1 p1 e5 p3
      (refine Tail.value rfl rfl (by go_simp; with_reducible rfl) ?_; simp only [List.getElem_toArray, List.getElem_cons_succ, List.getElem_cons_zero, Act.put, List.setIfInBounds_toArray, List.set_cons_zero, List.set_cons_succ])
      refine Tail.done ?_
      gi_wp2
      exact span_end rfl rfl rfl N1.out P1.out E5.out P3.out (by omega) (by rw [HBN.out]; rfl)
  case stop => exact fun c pre A _ h _ _ => h.elim
end Go.Proofs.Ytfjlnejeffkdoaa
