/- Distances cut to what a comparison says: contract. Conditions: the comparison is valid, and nothing is great. -/
import Derived.Test.YtplmlmmjfkbabaaJ
namespace Go.Proofs.Ytplmlmmjfkbabaa
open Go.RowKit Go.Shelf
attribute [local irreducible] arrV wpQuiet mat
attribute [local go_sem] Oper.semAt_some

def Mid (d : Dm) : Prop := ∀ i j, i < 9 → j < 9 → -300 ≤ d i j ∧ d i j ≤ 300
def foldB (d : Dm) (bs : List Bd) : Dm := bs.foldl (fun d b => cutD d (pl b.f) (pl b.t) b.hi) d
theorem fold_step (d : Dm) (c : Cm) : foldB d (bdsL c) = stepD d c := rfl
theorem fold_snoc (d : Dm) (bs : List Bd) (b : Bd) : foldB d (bs ++ [b]) = cutD (foldB d bs) (pl b.f) (pl b.t) b.hi := by simp [foldB]
theorem pre_bds {c : Cm} {pre : List Bd} {b : Bd} (h : pre ++ [b] <+: bdsL c) : (pre = [] ∧ b = leftB c) ∨ (pre = [leftB c] ∧ b = rightB c) := by
  obtain ⟨t, h⟩ := h
  match pre, h with
  | [], h => simp [bdsL] at h; exact .inl ⟨rfl, h.1⟩
  | [x], h => simp [bdsL] at h; exact .inr ⟨by rw [h.1], h.2.1⟩
  | x :: y :: r, h => simp [bdsL] at h
structure BdOk (b : Bd) : Prop where
  f : -1 ≤ b.f ∧ b.f < 8
  t : -1 ≤ b.t ∧ b.t < 8
  hi : -100 ≤ b.hi ∧ b.hi ≤ 100
theorem fold_ok {n : Int} {c : Cm} {d : Dm} {pre : List Bd} {b : Bd} (hn : n ≤ 8) (hc : CmOk n c) (hd : Mid d) (h : pre ++ [b] <+: bdsL c) : SmallD (foldB d pre) ∧ BdOk b := by
  have := hc.l0; have := hc.ln; have := hc.r0; have := hc.rn; have := hc.lo; have := hc.le; have := hc.hi
  rcases pre_bds h with ⟨rfl, rfl⟩ | ⟨rfl, rfl⟩
  · exact ⟨fun i j hi hj => by have := hd i j hi hj; simp only [foldB, List.foldl_nil]; omega, ⟨by simp only [leftB]; omega, by simp only [leftB]; omega, by simp only [leftB]; omega⟩⟩
  · refine ⟨fun i j hi hj => ?_, ⟨by simp only [rightB]; omega, by simp only [rightB]; omega, by simp only [rightB]; omega⟩⟩
    obtain ⟨p1, p2, -⟩ := hc.pl hn
    have h1 := hd i j hi hj
    have h2 := hd i _ hi p2
    have h3 := hd _ j p1 hj
    obtain ⟨e1, e2, e3⟩ := cut_le d (pl c.r) (pl c.l) c.hi i j
    show -1000 ≤ cutD d (pl c.r) (pl c.l) c.hi i j ∧ cutD d (pl c.r) (pl c.l) c.hi i j ≤ 1000
    rcases e3 with e3 | e3 <;> omega

set_option maxHeartbeats 400000 in
theorem bounds_any (c : Cm) (hc : -100 ≤ c.lo ∧ c.lo ≤ 100 ∧ -100 ≤ c.hi ∧ c.hi ≤ 100) (w : World) :
    Calls Try.prog 89 #[.agg #[.int .i64 c.l, .int .i64 c.r, .int .i64 c.lo, .int .i64 c.hi]] w fun e w' => ∃ Bc, e = .returned (.func (.func 94) #[] #[.pointer (some ⟨Bc, 0, none⟩)]) ∧ Below w.heap.size w w' ∧ w.heap.size ≤ Bc ∧ Bc < w'.heap.size ∧
      SeqD Try.prog 94 #[.pointer (some ⟨Bc, 0, none⟩)] encB (fun _ => True) (fun k => k = Bc) (fun xs => xs = bdsL c) (fun pre => pre <+: bdsL c) w' := by
  have hb := box_below w (.cells #[.int .i64 c.l, .int .i64 c.r, .int .i64 c.lo, .int .i64 c.hi] 67)
  have hx := heap_alloc_new w (.cells #[.int .i64 c.l, .int .i64 c.r, .int .i64 c.lo, .int .i64 c.hi] 67)
  have hseq := Lib.hid (bounds_seq w.heap.size c _ hc hx)
  clear hx hc
  go_enter Try.func89, Try.ntmps89
  go_wp2
  go_ret
  exact ⟨w.heap.size, rfl, hb, Nat.le_refl _, by simp, hseq.out⟩

theorem with_end {w A : World} {D n' B2 : Nat} {tmps : Array Value} {d : Dm} (h2 : tmps.getD 4 undef = .pointer (some ⟨B2, 0, none⟩)) (hr : A.heap[B2]? = some (.cells (mat d) 83 (0, 0)))
    (hK : A.heap[D]? = some (.deferred (some []))) (hb : Below w.heap.size w A) (hD : w.heap.size < D) (hne : B2 ≠ D) :
    LeavesInM Fence.wide n' Try.prog Try.f71 tmps (fun e w' => e = .returned (.agg (mat d)) ∧ Below w.heap.size w w') [{ target := .collected D, args := #[] }] .returning A := by
  refine ⟨by simp, .inl ⟨_, _, rfl, run_takeDeferred hK, ?_⟩⟩
  have r1 := (World.putObj_heap_other (w := A) (r := D) (o := .deferred none) (k := B2) hne).trans hr
  exact ⟨.agg (mat d), results_mat rfl _ _ B2 83 d h2 r1, rfl, ⟨hb.os, hb.tape, hb.output, by simpa using hb.size, fun k hk => (World.putObj_heap_other (by omega)).trans (hb.block k hk)⟩⟩

set_option maxRecDepth 100000 in
set_option maxHeartbeats 4000000 in
theorem with_any (n : Int) (c : Cm) (d : Dm) (w : World) (hn : n ≤ 8) (hc : CmOk n c) (hd : Mid d) :
    Calls Try.prog 71 #[.agg (mat d), .agg #[.int .i64 c.l, .int .i64 c.r, .int .i64 c.lo, .int .i64 c.hi]] w fun e w' => e = .returned (.agg (mat (stepD d c))) ∧ Below w.heap.size w w' := by
  obtain ⟨W3, hW3⟩ : ∃ W3, ((w.alloc (.cells (mat d) 83)).alloc (.cells #[.int .i64 c.l, .int .i64 c.r, .int .i64 c.lo, .int .i64 c.hi] 67)).alloc (.cells Try.zeroCells83 83) = W3 := ⟨_, rfl⟩
  have hX := box3 w (.cells (mat d) 83) (.cells #[.int .i64 c.l, .int .i64 c.r, .int .i64 c.lo, .int .i64 c.hi] 67) (.cells Try.zeroCells83 83)
  have hB := below3 w (.cells (mat d) 83) (.cells #[.int .i64 c.l, .int .i64 c.r, .int .i64 c.lo, .int .i64 c.hi] 67) (.cells Try.zeroCells83 83)
  rw [hW3] at hX hB
  rw [zero83] at hX
  have HX := Lib.hid hX
  have HB := Lib.hid hB
  have HBO := Lib.hid (bounds_any c ⟨hc.lo, by have := hc.le; have := hc.hi; omega, by have := hc.le; have := hc.lo; omega, hc.hi⟩)
  have HWI := Lib.hid fun (e : Dm) (b : Bd) w (he : SmallD e) (hb : BdOk b) => within_any e b.f b.t b.lo b.hi w he hb.f hb.t hb.hi
  have HOK := Lib.hid fun pre b (h : pre ++ [b] <+: bdsL c) => fold_ok hn hc hd h
  clear hX hB hc hd
  refine (callsIn_wide (n := 0)).1 ?_
  refine callsIn_of_wp_marks Try.func71 rfl trivial ?_ rfl
  simp only [Try.ntmps71, List.size_toArray, List.length_cons, List.length_nil, Nat.reduceAdd, Nat.reduceSub, Array.replicate_succ, Array.replicate_zero, List.push_toArray, List.append_toArray, List.nil_append, List.cons_append]
  have c0 := cell_of_row W3 (w.heap.size + 1) 0 _ _ _ HX.out.2.1
  have c1 := cell_of_row W3 (w.heap.size + 1) 1 _ _ _ HX.out.2.1
  have c2 := cell_of_row W3 (w.heap.size + 1) 2 _ _ _ HX.out.2.1
  have c3 := cell_of_row W3 (w.heap.size + 1) 3 _ _ _ HX.out.2.1
  simp only [List.getElem?_toArray, List.getElem?_cons_zero, List.getElem?_cons_succ] at c0 c1 c2 c3
  have l0 := lt_of_block HX.out.2.1
  have l2 := lt_of_block HX.out.2.2
  gi_wp2_with fail
  refine ⟨trivial, rfl, ?_⟩
  refine (callsIn_wide.2 (HBO.out W3)).mono ?_
  rintro e w1 ⟨Bc, rfl, hb1, hm1, hm2, hseq⟩
  have hs1 := hb1.size
  have Z0 := Lib.hid ((hb1.block _ (lt_of_block HX.out.1)).trans HX.out.1)
  have Z2 := Lib.hid ((hb1.block _ (lt_of_block HX.out.2.2)).trans HX.out.2.2)
  have HB1 := Lib.hid (below_to HB.out hb1)
  have HSEQ := Lib.hid hseq
  clear hb1 hseq c0 c1 c2 c3 l0 hW3 HX HB
  gi_wp2
  refine wp_rangeD rfl (fun _ _ => rfl) HSEQ.out (Below.refl _ w1) (fun _ => rfl) (fun k => k = w.heap.size) ?t0 ?hc
    (fun T pre A => T w.heap.size ∧ A.heap[w.heap.size]? = some (.cells (mat (foldB d pre)) 83 (0, 0)))
    (fun _ _ _ _ => False)
    ?ir (fun _ _ _ _ _ h => h.elim) ⟨rfl, Z0.out⟩
    (fun b a' A => ∃ Bx, w1.heap.size + 2 ≤ Bx ∧ A.heap[Bx]? = some (.cells #[.int .i64 b.f, .int .i64 b.t, .int .i64 b.lo, .int .i64 b.hi] 119 (0, 0)) ∧ a' = { tmps := #[.agg (mat d), .agg #[.int .i64 c.l, .int .i64 c.r, .int .i64 c.lo, .int .i64 c.hi], .pointer (some ⟨w.heap.size, 0, none⟩), .pointer (some ⟨w.heap.size + 1, 0, none⟩), .pointer (some ⟨w.heap.size + 1 + 1, 0, none⟩), .pointer (some ⟨Bx, 0, none⟩), .agg #[.int .i64 c.l, .int .i64 c.r, .int .i64 c.lo, .int .i64 c.hi], .func (.func 94) #[] #[.pointer (some ⟨Bc, 0, none⟩)], bdV b, undef, undef, undef, undef], defers := [] })
    ?ax ?assign ?body ?done (fun _ _ _ _ _ h => h.elim)
  case t0 =>
    rintro k rfl
    exact ⟨by omega, by omega⟩
  case hc => exact fun k hk => by omega
  case ir => exact fun T s A B ⟨h1, h2⟩ hR => ⟨h1, (hR.2 _ h1).trans h2⟩
  case ax =>
    rintro b a' A o ⟨Bx, h1, h2, h3⟩
    exact ⟨Bx, h1, (World.putObj_heap_other (by omega)).trans h2, h3⟩
  case assign =>
    rintro l2 b A hb hA
    have hact : (#[8].zip (encB b)) = #[(8, bdV b)] := by simp [encB]
    rw [hact]
    simp only [List.foldl_toArray, Array.foldl_toList, List.foldl_cons, List.foldl_nil, List.setIfInBounds_toArray, List.set_cons_succ, List.set_cons_zero]
    unfold bdV
    gi_wp2
    exact ⟨⟨A.heap.size, by omega, heap_alloc_new _ _, rfl⟩, box_below _ _⟩
  case body =>
    rintro l2 T pre b a' A hb1 hSp ⟨hT, hx⟩ hOf hb hs2 ⟨Bx, hBx, hbx, rfl⟩
    obtain ⟨hsm, hbd⟩ := HOK.out pre b hSp
    have FS := Lib.hid (fold_snoc d pre b)
    have c0 := cell_of_row A Bx 0 _ _ _ hbx
    have c1 := cell_of_row A Bx 1 _ _ _ hbx
    have c2 := cell_of_row A Bx 2 _ _ _ hbx
    have c3 := cell_of_row A Bx 3 _ _ _ hbx
    simp only [List.getElem?_toArray, List.getElem?_cons_zero, List.getElem?_cons_succ] at c0 c1 c2 c3
    have lx := lt_of_block hbx
    have HXX := Lib.hid hx
    have HSM := Lib.hid hsm
    have HBD := Lib.hid hbd
    clear hsm hbd hSp hbx hx
    unfold bdV
    gi_wp2_with (first
      | (refine wpListIn_load_mat rfl (.tmp 2) rfl w.heap.size rfl 83 (foldB d pre) HXX.out ?_)
      | fail)
    refine ⟨trivial, rfl, ?_⟩
    refine CallsIn.mono (CallsIn.inRound l2 ((callsIn_wide (n := 0)).2 (HWI.out (foldB d pre) b A HSM.out HBD.out))) ?_
    rintro e v5 ⟨rfl, hb5⟩
    have hx5 := (hb5.block _ (lt_of_block HXX.out)).trans HXX.out
    rw [← FS.out]
    have hbt5 : But T A v5 := But.of_below hb5
    have HX5 := Lib.hid hx5
    have HBT5 := Lib.hid hbt5
    clear hx5 hbt5 hb5 c0 c1 c2 c3 lx
    gi_wp2_with (first
      | (refine wpListIn_store_mat rfl (.tmp 2) (.tmp 11) rfl w.heap.size rfl (foldB d (pre ++ [b])) rfl 83 (mat (foldB d pre)) (mat_size _) HX5.out ?_
         intro v6 hp6 hx6
         have HX6 := Lib.hid hx6
         have HBT6 := Lib.hid (hp6.but HBT5.out (.inl hT))
         clear hp6 hx6)
      | fail)
    exact ⟨HBT6.out, .inl hT, HX6.out⟩
  case done =>
    rintro T xs A rfl ⟨hT, hx⟩ hOf hb n0 n1 hKd
    rw [fold_step] at hx
    have hz := (hb.block (w.heap.size + 1 + 1) (by omega) (fun h => by rcases h with h | h | h <;> omega)).trans Z2.out
    have HZ := Lib.hid hz
    have HXX := Lib.hid hx
    have hbw : Below w.heap.size w A := ⟨hb.os.trans HB1.out.os, hb.tape.trans HB1.out.tape, hb.output.trans HB1.out.output, Nat.le_trans HB1.out.size hb.size, fun k hk => (hb.block k (by omega) (fun h => by rcases h with h | h | h <;> omega)).trans (HB1.out.block k hk)⟩
    have HBW := Lib.hid hbw
    clear hbw
    gi_wp2_with (first
      | (refine wpListIn_load_mat rfl (.tmp 2) rfl w.heap.size rfl 83 (stepD d c) HXX.out ?_)
      | (refine wpListIn_store_mat rfl (.tmp 4) (.tmp 12) rfl (w.heap.size + 1 + 1) rfl (stepD d c) rfl 83 _ (mat_size _) HZ.out ?_
         intro v6 hp6 hx6
         have HX6 := Lib.hid hx6
         have HB6 := Lib.hid (hp6.below HBW.out (by omega))
         have HK6 := Lib.hid ((hp6.other w1.heap.size (by omega)).trans hKd)
         clear hp6 hx6)
      | fail)
    exact with_end rfl HX6.out HK6.out HB6.out (by omega) (by omega)
end Go.Proofs.Ytplmlmmjfkbabaa
