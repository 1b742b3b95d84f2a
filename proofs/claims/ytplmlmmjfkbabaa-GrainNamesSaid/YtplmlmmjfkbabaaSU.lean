/- Which bound of a comparison leads to a picture. Condition: the comparison is in order. -/
import Derived.Test.YtplmlmmjfkbabaaAJ
namespace Go.Proofs.Ytplmlmmjfkbabaa
open Go.RowKit Go.Shelf
attribute [local irreducible] arrV wpQuiet mat
attribute [local go_sem] Oper.semAt_some

def leadO (c : Cm) (p : Int) : Option Bd := if c.l = p then some (leftB c) else if c.r = p then some (rightB c) else none
def bdC (o : Option Bd) : Array Value := match o with
  | some b => #[.int .i64 b.f, .int .i64 b.t, .int .i64 b.lo, .int .i64 b.hi]
  | none => #[.int .i64 0, .int .i64 0, .int .i64 0, .int .i64 0]
def leadV (o : Option Bd) : Value := .tuple #[.agg (bdC o), .bool o.isSome]
theorem lead_end {w A : World} {D n' : Nat} {tmps : Array Value} {o : Option Bd} (h4 : tmps[4]? = some (.pointer (some ⟨w.heap.size + 1 + 1, 0, none⟩))) (h5 : tmps[5]? = some (.pointer (some ⟨w.heap.size + 1 + 1 + 1, 0, none⟩)))
    (hr : A.heap[w.heap.size + 1 + 1]? = some (.cells (bdC o) 119 (0, 0))) (hr2 : A.heap[w.heap.size + 1 + 1 + 1]? = some (.cells #[.bool o.isSome] 4 (0, 0)))
    (hK : A.heap[D]? = some (.deferred (some []))) (hb : Below w.heap.size w A) (hD : w.heap.size + 1 + 1 + 1 < D) :
    LeavesInM Fence.wide n' Try.prog Try.f92 tmps (fun e w' => e = .returned (leadV o) ∧ Below w.heap.size w w') [{ target := .collected D, args := #[] }] .returning A := by
  refine ⟨by simp, .inl ⟨_, _, rfl, run_takeDeferred hK, ?_⟩⟩
  have r1 := (World.putObj_heap_other (w := A) (r := D) (o := .deferred none) (k := w.heap.size + 1 + 1) (by omega)).trans hr
  have r2 := (World.putObj_heap_other (w := A) (r := D) (o := .deferred none) (k := w.heap.size + 1 + 1 + 1) (by omega)).trans hr2
  have g0 := cell_of_row _ (w.heap.size + 1 + 1 + 1) 0 _ _ _ r2
  have hBel : Below w.heap.size w (A.putObj D (.deferred none)) := ⟨hb.os, hb.tape, hb.output, by simpa using hb.size, fun k hk => (World.putObj_heap_other (by omega)).trans (hb.block k hk)⟩
  refine ⟨leadV o, ?_, rfl, hBel⟩
  cases o with
  | none =>
    have e0 := cell_of_row _ (w.heap.size + 1 + 1) 0 _ _ _ r1
    have e1 := cell_of_row _ (w.heap.size + 1 + 1) 1 _ _ _ r1
    have e2 := cell_of_row _ (w.heap.size + 1 + 1) 2 _ _ _ r1
    have e3 := cell_of_row _ (w.heap.size + 1 + 1) 3 _ _ _ r1
    simp only [bdC, Option.isSome, List.getElem?_toArray, List.getElem?_cons_zero, List.getElem?_cons_succ] at g0 e0 e1 e2 e3
    simp [results, Try.results92, go_sem, leadV, bdC, *]
  | some b =>
    have e0 := cell_of_row _ (w.heap.size + 1 + 1) 0 _ _ _ r1
    have e1 := cell_of_row _ (w.heap.size + 1 + 1) 1 _ _ _ r1
    have e2 := cell_of_row _ (w.heap.size + 1 + 1) 2 _ _ _ r1
    have e3 := cell_of_row _ (w.heap.size + 1 + 1) 3 _ _ _ r1
    simp only [bdC, Option.isSome, List.getElem?_toArray, List.getElem?_cons_zero, List.getElem?_cons_succ] at g0 e0 e1 e2 e3
    simp [results, Try.results92, go_sem, leadV, bdC, *]
theorem lead_yes {c : Cm} {p : Int} {pre : List Bd} {b : Bd} (h : pre ++ [b] <+: bdsL c) (hn : ∀ x, x ∈ pre → x.t ≠ p) (hb : b.t = p) : leadO c p = some b := by
  rcases pre_bds h with ⟨rfl, rfl⟩ | ⟨rfl, rfl⟩
  · have : c.l = p := hb
    unfold leadO
    rw [if_pos this]
  · have h1 : c.l ≠ p := hn (leftB c) (by simp)
    have h2 : c.r = p := hb
    unfold leadO
    rw [if_neg h1, if_pos h2]
theorem lead_no {c : Cm} {p : Int} (hn : ∀ x, x ∈ bdsL c → x.t ≠ p) : leadO c p = none := by
  have h1 : c.l ≠ p := hn (leftB c) (by simp [bdsL])
  have h2 : c.r ≠ p := hn (rightB c) (by simp [bdsL])
  unfold leadO
  rw [if_neg h1, if_neg h2]
set_option maxRecDepth 100000 in
set_option maxHeartbeats 4000000 in
theorem leading_any (c : Cm) (p : Int) (w : World) (hc : -100 ≤ c.lo ∧ c.lo ≤ 100 ∧ -100 ≤ c.hi ∧ c.hi ≤ 100) :
    Calls Try.prog 92 #[.agg #[.int .i64 c.l, .int .i64 c.r, .int .i64 c.lo, .int .i64 c.hi], .int .i64 p] w fun e w' => e = .returned (leadV (leadO c p)) ∧ Below w.heap.size w w' := by
  have HBO := Lib.hid (bounds_any c hc)
  have HLY := Lib.hid fun pre b (h : pre ++ [b] <+: bdsL c) (hn : ∀ x, x ∈ pre → x.t ≠ p) (hb : b.t = p) => lead_yes h hn hb
  have HLN := Lib.hid (lead_no (c := c) (p := p))
  obtain ⟨O, hO⟩ : ∃ O, O = leadO c p := ⟨_, rfl⟩
  rw [← hO] at HLY HLN ⊢
  clear hO
  obtain ⟨W4, hW4⟩ : ∃ W4, (((w.alloc (.cells #[.int .i64 c.l, .int .i64 c.r, .int .i64 c.lo, .int .i64 c.hi] 67)).alloc (.cells #[.int .i64 p] 3)).alloc (.cells #[.int .i64 0, .int .i64 0, .int .i64 0, .int .i64 0] 119)).alloc (.cells #[.bool false] 4) = W4 := ⟨_, rfl⟩
  obtain ⟨x1, x2, x3⟩ := box3 w (.cells #[.int .i64 c.l, .int .i64 c.r, .int .i64 c.lo, .int .i64 c.hi] 67) (.cells #[.int .i64 p] 3) (.cells #[.int .i64 0, .int .i64 0, .int .i64 0, .int .i64 0] 119)
  have hb3 := below3 w (.cells #[.int .i64 c.l, .int .i64 c.r, .int .i64 c.lo, .int .i64 c.hi] 67) (.cells #[.int .i64 p] 3) (.cells #[.int .i64 0, .int .i64 0, .int .i64 0, .int .i64 0] 119)
  obtain ⟨W3, hW3⟩ : ∃ W3, ((w.alloc (.cells #[.int .i64 c.l, .int .i64 c.r, .int .i64 c.lo, .int .i64 c.hi] 67)).alloc (.cells #[.int .i64 p] 3)).alloc (.cells #[.int .i64 0, .int .i64 0, .int .i64 0, .int .i64 0] 119) = W3 := ⟨_, rfl⟩
  have hz3 : W3.heap.size = w.heap.size + 1 + 1 + 1 := by rw [← hW3]; simp
  rw [hW3] at hW4 x1 x2 x3 hb3
  have hb4 := box_below W3 (.cells #[.bool false] 4)
  have x4 := heap_alloc_new W3 (.cells #[.bool false] 4)
  rw [hW4] at hb4 x4
  rw [hz3] at x4
  have HX1 := Lib.hid ((hb4.block _ (lt_of_block x1)).trans x1)
  have HX2 := Lib.hid ((hb4.block _ (lt_of_block x2)).trans x2)
  have HX3 := Lib.hid ((hb4.block _ (lt_of_block x3)).trans x3)
  have HX4 := Lib.hid x4
  have HB := Lib.hid (below_to hb3 hb4)
  rw [← hW3] at hW4
  clear x1 x2 x3 x4 hb3 hb4 hz3 hW3 hc
  refine (callsIn_wide (n := 0)).1 ?_
  refine callsIn_of_wp_marks Try.func92 rfl trivial ?_ rfl
  simp only [Try.ntmps92, List.size_toArray, List.length_cons, List.length_nil, Nat.reduceAdd, Nat.reduceSub, Array.replicate_succ, Array.replicate_zero, List.push_toArray, List.append_toArray, List.nil_append, List.cons_append]
  have c0 := cell_of_row W4 w.heap.size 0 _ _ _ HX1.out
  have c1 := cell_of_row W4 w.heap.size 1 _ _ _ HX1.out
  have c2 := cell_of_row W4 w.heap.size 2 _ _ _ HX1.out
  have c3 := cell_of_row W4 w.heap.size 3 _ _ _ HX1.out
  simp only [List.getElem?_toArray, List.getElem?_cons_zero, List.getElem?_cons_succ] at c0 c1 c2 c3
  have l0 := lt_of_block HX1.out
  gi_wp2_with fail
  refine ⟨trivial, rfl, ?_⟩
  refine (callsIn_wide.2 (HBO.out W4)).mono ?_
  rintro e w1 ⟨Bc, rfl, hb1, hm1, hm2, hseq⟩
  have hs1 := hb1.size
  have Z2 := Lib.hid ((hb1.block _ (lt_of_block HX2.out)).trans HX2.out)
  have Z3 := Lib.hid ((hb1.block _ (lt_of_block HX3.out)).trans HX3.out)
  have Z4 := Lib.hid ((hb1.block _ (lt_of_block HX4.out)).trans HX4.out)
  have HB1 := Lib.hid (below_to HB.out hb1)
  have HSEQ := Lib.hid hseq
  have l4 := lt_of_block HX4.out
  clear hb1 hseq c0 c1 c2 c3 l0 hW4 HX1 HX2 HX3 HX4 HB
  gi_wp2
  refine wp_rangeD rfl (fun _ _ => rfl) HSEQ.out (Below.refl _ w1) (fun _ => rfl) (fun k => k = w.heap.size + 1 + 1 ∨ k = w.heap.size + 1 + 1 + 1) ?t0 ?hc
    (fun T pre A => T (w.heap.size + 1 + 1) ∧ T (w.heap.size + 1 + 1 + 1) ∧ (∀ b, b ∈ pre → b.t ≠ p) ∧ A.heap[w.heap.size + 1 + 1]? = some (.cells #[.int .i64 0, .int .i64 0, .int .i64 0, .int .i64 0] 119 (0, 0)) ∧ A.heap[w.heap.size + 1 + 1 + 1]? = some (.cells #[.bool false] 4 (0, 0)))
    (fun k T pre A => k = .ret ∧ T (w.heap.size + 1 + 1) ∧ T (w.heap.size + 1 + 1 + 1) ∧ (∃ b, O = some b ∧ A.heap[w.heap.size + 1 + 1]? = some (.cells #[.int .i64 b.f, .int .i64 b.t, .int .i64 b.lo, .int .i64 b.hi] 119 (0, 0))) ∧ A.heap[w.heap.size + 1 + 1 + 1]? = some (.cells #[.bool true] 4 (0, 0)))
    ?ir ?ixr ⟨.inl rfl, .inr rfl, fun b hb => by simp at hb, Z3.out, Z4.out⟩
    (fun b a' A => ∃ Bx, w1.heap.size + 2 ≤ Bx ∧ A.heap[Bx]? = some (.cells #[.int .i64 b.f, .int .i64 b.t, .int .i64 b.lo, .int .i64 b.hi] 119 (0, 0)) ∧ a' = { tmps := #[.agg #[.int .i64 c.l, .int .i64 c.r, .int .i64 c.lo, .int .i64 c.hi], .int .i64 p, .pointer (some ⟨w.heap.size, 0, none⟩), .pointer (some ⟨w.heap.size + 1, 0, none⟩), .pointer (some ⟨w.heap.size + 1 + 1, 0, none⟩), .pointer (some ⟨w.heap.size + 1 + 1 + 1, 0, none⟩), .pointer (some ⟨Bx, 0, none⟩), .agg #[.int .i64 c.l, .int .i64 c.r, .int .i64 c.lo, .int .i64 c.hi], .func (.func 94) #[] #[.pointer (some ⟨Bc, 0, none⟩)], bdV b, undef, undef, undef, undef, undef, undef, undef], defers := [] })
    ?ax ?assign ?body ?done ?stop
  case t0 =>
    rintro k (rfl | rfl)
    · exact ⟨by omega, by omega⟩
    · exact ⟨by omega, by omega⟩
  case hc => exact fun k hk => by omega
  case ir => exact fun T s A B ⟨h1, h2, h3, h4, h5⟩ hR => ⟨h1, h2, h3, (hR.2 _ h1).trans h4, (hR.2 _ h2).trans h5⟩
  case ixr => exact fun k T s A B ⟨h0, h1, h2, ⟨b, h3, h4⟩, h5⟩ hR => ⟨h0, h1, h2, ⟨b, h3, (hR.2 _ h1).trans h4⟩, (hR.2 _ h2).trans h5⟩
  case ax =>
    rintro b a' A o ⟨Bx, h1, h2, h3⟩
    exact ⟨Bx, h1, (World.putObj_heap_other (by omega)).trans h2, h3⟩
  case assign =>
    rintro l2 b A hb hA
    have hact : (#[9].zip (encB b)) = #[(9, bdV b)] := by simp [encB]
    rw [hact]
    simp only [List.foldl_toArray, Array.foldl_toList, List.foldl_cons, List.foldl_nil, List.setIfInBounds_toArray, List.set_cons_succ, List.set_cons_zero]
    unfold bdV
    gi_wp2
    exact ⟨⟨A.heap.size, by omega, heap_alloc_new _ _, rfl⟩, box_below _ _⟩
  case body =>
    rintro l2 T pre b a' A hb1 hSp ⟨hT, hT2, hpre, hx, hx2⟩ hOf hb hs2 ⟨Bx, hBx, hbx, rfl⟩
    have zz := (hb.block (w.heap.size + 1) (by omega) (fun h => by rcases h with (h | h) | h | h <;> omega)).trans Z2.out
    have c1 := cell_of_row A Bx 1 _ _ _ hbx
    have k0 := cell_of_row A (w.heap.size + 1) 0 _ _ _ zz
    simp only [List.getElem?_toArray, List.getElem?_cons_zero, List.getElem?_cons_succ] at c1 k0
    have lx := lt_of_block hbx
    have lk := lt_of_block zz
    unfold bdV
    by_cases he : b.t = p
    · have HBY := Lib.hid (HLY.out pre b hSp hpre he)
      have e1 : (b.t == p) = true := by simp [he]
      have c0 := cell_of_row A Bx 0 _ _ _ hbx
      have c2 := cell_of_row A Bx 2 _ _ _ hbx
      have c3 := cell_of_row A Bx 3 _ _ _ hbx
      simp only [List.getElem?_toArray, List.getElem?_cons_zero, List.getElem?_cons_succ] at c0 c2 c3
      have HX2 := Lib.hid hx2
      have HXX := Lib.hid hx
      clear hx hx2 hpre he zz hbx
      gi_wp2_with (first
        | (refine wpListIn_store_gen rfl 119 (.tmp 4) (.tmp 15) rfl (w.heap.size + 1 + 1) 0 #[.int .i64 b.f, .int .i64 b.t, .int .i64 b.lo, .int .i64 b.hi] rfl rfl (there_block HXX.out (by simp)) (by kernel_rfl) (by simp [Value.oneCell']) ?_
           intro w2 hw2
           have hp2 : Put (w.heap.size + 1 + 1) A w2 := by rw [hw2]; exact put_cells _ _ _ _
           have y1 : w2.heap[w.heap.size + 1 + 1]? = some (.cells #[.int .i64 b.f, .int .i64 b.t, .int .i64 b.lo, .int .i64 b.hi] 119 (0, 0)) := by
             rw [hw2]
             exact set_whole (w.heap.size + 1 + 1) 119 A #[.int .i64 0, .int .i64 0, .int .i64 0, .int .i64 0] #[.int .i64 b.f, .int .i64 b.t, .int .i64 b.lo, .int .i64 b.hi] rfl HXX.out
           have y2 := (hp2.other (w.heap.size + 1 + 1 + 1) (by omega)).trans HX2.out
           have HBT := Lib.hid (hp2.but (But.refl T A) (.inl hT))
           have HY1 := Lib.hid y1
           have HY2 := Lib.hid y2
           have m0 := cell_of_row w2 (w.heap.size + 1 + 1 + 1) 0 _ _ _ y2
           have mf := frozen_of_row w2 (w.heap.size + 1 + 1 + 1) 0 _ _ y2
           simp only [List.getElem?_toArray, List.getElem?_cons_zero, List.getElem?_cons_succ] at m0
           have ml := lt_of_block y2
           clear hw2 hp2 y1 y2)
        | fail)
      exact ⟨HBT.out.trans (But.setCell _ _ hT2), rfl, .inl hT, .inl hT2, ⟨b, HBY.out, (heap_setCell_other w2 ⟨w.heap.size + 1 + 1 + 1, 0, none⟩ (w.heap.size + 1 + 1) (.bool true) (by show w.heap.size + 1 + 1 ≠ w.heap.size + 1 + 1 + 1; omega)).trans HY1.out⟩, by simpa using heap_setCell_same w2 (w.heap.size + 1 + 1 + 1) 0 _ 4 (.bool true) HY2.out⟩
    · have e1 : (b.t == p) = false := by simp [he]
      have HXX := Lib.hid hx
      have HX2 := Lib.hid hx2
      have HPRE : Hid (∀ x, x ∈ pre ++ [b] → x.t ≠ p) := Lib.hid fun x hm => (List.mem_append.1 hm).elim (hpre x) fun h => by rw [List.mem_singleton.1 h]; exact he
      clear hx hx2 hpre he
      gi_wp2
      exact ⟨But.refl _ _, .inl hT, .inl hT2, HPRE.out, HXX.out, HX2.out⟩
  case done =>
    rintro T xs A rfl ⟨hT, hT2, hpre, hx, hx2⟩ hOf hb n0 n1 hKd
    have hbw : Below w.heap.size w A := ⟨hb.os.trans HB1.out.os, hb.tape.trans HB1.out.tape, hb.output.trans HB1.out.output, Nat.le_trans HB1.out.size hb.size, fun k hk => (hb.block k (by omega) (fun h => by rcases h with (h | h) | h | h <;> omega)).trans (HB1.out.block k hk)⟩
    have HBW := Lib.hid hbw
    have HX2 := Lib.hid hx2
    have HXX := Lib.hid hx
    have HNO := Lib.hid (HLN.out hpre)
    clear hbw hx hx2 hpre
    gi_wp2_with (first
      | (refine wpListIn_store_gen rfl 119 (.tmp 4) (.tmp 16) rfl (w.heap.size + 1 + 1) 0 #[.int .i64 0, .int .i64 0, .int .i64 0, .int .i64 0] rfl rfl (there_block HXX.out (by simp)) (by kernel_rfl) (by simp [Value.oneCell']) ?_
         intro w2 hw2
         have hp2 : Put (w.heap.size + 1 + 1) A w2 := by rw [hw2]; exact put_cells _ _ _ _
         have y1 : w2.heap[w.heap.size + 1 + 1]? = some (.cells #[.int .i64 0, .int .i64 0, .int .i64 0, .int .i64 0] 119 (0, 0)) := by rw [hw2]; exact set_whole _ _ _ _ _ rfl HXX.out
         have y2 := (hp2.other (w.heap.size + 1 + 1 + 1) (by omega)).trans HX2.out
         have HB2 := Lib.hid (hp2.below HBW.out (by omega))
         have HK2 := Lib.hid ((hp2.other w1.heap.size (by omega)).trans hKd)
         have HY1 := Lib.hid y1
         have HY2 := Lib.hid y2
         have m0 := cell_of_row w2 (w.heap.size + 1 + 1 + 1) 0 _ _ _ y2
         have mf := frozen_of_row w2 (w.heap.size + 1 + 1 + 1) 0 _ _ y2
         simp only [List.getElem?_toArray, List.getElem?_cons_zero, List.getElem?_cons_succ] at m0
         have ml := lt_of_block y2
         clear hw2 hp2 y1 y2)
      | fail)
    obtain rfl := HNO.out
    exact lead_end (o := none) rfl rfl ((heap_setCell_other w2 ⟨w.heap.size + 1 + 1 + 1, 0, none⟩ (w.heap.size + 1 + 1) (.bool false) (by show w.heap.size + 1 + 1 ≠ w.heap.size + 1 + 1 + 1; omega)).trans HY1.out) (by simpa using heap_setCell_same w2 (w.heap.size + 1 + 1 + 1) 0 _ 4 (.bool false) HY2.out)
      ((heap_setCell_other w2 ⟨w.heap.size + 1 + 1 + 1, 0, none⟩ w1.heap.size (.bool false) (by show w1.heap.size ≠ w.heap.size + 1 + 1 + 1; omega)).trans HK2.out) (HB2.out.setCell (p := ⟨w.heap.size + 1 + 1 + 1, 0, none⟩) (by show w.heap.size ≤ w.heap.size + 1 + 1 + 1; omega) _) (by omega)
  case stop =>
    rintro k T pre A hpf ⟨rfl, hT, hT2, ⟨b, hl, h4⟩, h5⟩ hOf hb n0 n1 hK
    have hbw : Below w.heap.size w A := ⟨hb.os.trans HB1.out.os, hb.tape.trans HB1.out.tape, hb.output.trans HB1.out.output, Nat.le_trans HB1.out.size hb.size, fun k hk => (hb.block k (by omega) (fun h => by rcases h with (h | h) | h | h <;> omega)).trans (HB1.out.block k hk)⟩
    subst hl
    gi_wp2
    exact lead_end (o := some b) rfl rfl h4 h5 hK hbw (by omega)
end Go.Proofs.Ytplmlmmjfkbabaa
