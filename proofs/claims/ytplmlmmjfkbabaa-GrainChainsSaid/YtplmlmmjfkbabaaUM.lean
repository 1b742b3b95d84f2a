/- What a chain tells of a picture, by the reference: the recursion. Condition: a valid album, and a picture, not Chart. -/
import Derived.Test.YtplmlmmjfkbabaaSX
import Derived.BigRegion
import Derived.BigQuiet
namespace Go.Proofs.Ytplmlmmjfkbabaa
open Go.RowKit Go.Shelf
attribute [local irreducible] arrV wpQuiet mat shl

theorem set_pair43 {w : World} {b : Nat} {u v u' v' : Value} {t : TypeId} (h : w.heap[b]? = some (.cells #[u, v] t (0, 0))) : (w.setCells b 0 [u', v']).heap[b]? = some (.cells #[u', v'] t (0, 0)) := by
  have := set_list b t [u', v'] [] [u, v] [] w rfl (by simpa using h)
  simpa using this
theorem wpList_store43 {ops : Array Oper} {rest : List Oper} {o : Oper} {a : Act} {Q : Exit → Act → World → Prop} {w : World} (hgd : o.guard = none) (x y : Operand) (ho : o.op = .store 43 x y) (g : Nat) (hx : a.eval x = .pointer (some ⟨g, 0, none⟩))
    (u1 u2 : Value) (x1 x2 : Int) (hy : a.eval y = .agg #[.int .i64 x1, .int .i64 x2]) (hg : w.heap[g]? = some (.cells #[u1, u2] 43 (0, 0)))
    (h : ∀ w2, Put g w w2 → w2.heap[g]? = some (.cells #[.int .i64 x1, .int .i64 x2] 43 (0, 0)) → wpList Try.prog ops Q rest (a.put o.dst undef) w2) : wpList Try.prog ops Q (o :: rest) a w :=
  wpList_store_mid hgd 43 x y ho g 0 #[.int .i64 x1, .int .i64 x2] hx hy (there_block hg (by simp)) (by kernel_rfl) (by simp [Value.oneCell']) (h _ (put_cells _ _ _ _) (set_pair43 hg))
theorem Tail.put43 {ops : Array Oper} {S : World → Prop} {Q : Exit → Act → World → Prop} {τ : List Nat} {i : Nat} {o : Oper} {a : Act} {w : World} (hoi : ops[i]? = some o) (hw : Region.wanted o (yielded ops a.tmps) = true) (x y : Operand) (ho : o.op = .store 43 x y) (g : Nat) (hx : a.eval x = .pointer (some ⟨g, 0, none⟩))
    (u1 u2 : Value) (x1 x2 : Int) (hy : a.eval y = .agg #[.int .i64 x1, .int .i64 x2]) (hg : w.heap[g]? = some (.cells #[u1, u2] 43 (0, 0)))
    (h : ∀ w2, Put g w w2 → w2.heap[g]? = some (.cells #[.int .i64 x1, .int .i64 x2] 43 (0, 0)) → S w2 ∧ Tail Try.prog ops S Q τ (a.put o.dst undef) w2) : Tail Try.prog ops S Q (i :: τ) a w :=
  have h2 := h _ (put_cells g 0 [.int .i64 x1, .int .i64 x2] w) (set_pair43 hg)
  Tail.skip hoi hw (exec_store_row 43 x y ho g 0 #[.int .i64 x1, .int .i64 x2] hx hy (there_block hg (by simp)) (by kernel_rfl) (by simp [Value.oneCell'])) h2.1 h2.2
theorem wpList_is {P : Program} {ops : Array Oper} {rest : List Oper} {o : Oper} {a : Act} {Q : Exit → Act → World → Prop} {w : World} (hgd : o.guard = none) (v : Value) (hr : (execOp a.eval o).run P w = .ok (.value v) w) (h : wpList P ops Q rest (a.put o.dst v) w) : wpList P ops Q (o :: rest) a w := by
  refine wpList_plain hgd fun K hK => ?_
  unfold Oper.wp
  rw [hr]
  exact hK _ _ h
theorem rtell_end {w2 : World} {D : Nat} {tmps : Array Value} {lo hi : Int} {b : Bool} (h6 : tmps[6]? = some (.pointer (some ⟨D, 0, none⟩))) (h7 : tmps[7]? = some (.bool b))
    (hr : w2.heap[D]? = some (.cells #[.int .i64 lo, .int .i64 hi] 43 (0, 0))) : (results Try.f38 tmps).run Try.prog w2 = .ok (.tuple #[.agg #[.int .i64 lo, .int .i64 hi], .bool b]) w2 := by
  have e0 := cell_of_row _ D 0 _ _ _ hr
  have e1 := cell_of_row _ D 1 _ _ _ hr
  simp only [List.getElem?_toArray, List.getElem?_cons_zero, List.getElem?_cons_succ] at e0 e1
  simp [results, Try.results38, go_sem, *]
theorem tell_chart (cs : List Cm) (l : List Int) : tellR cs l (-1) = if l = [] then some ⟨0, 0⟩ else none := by
  cases l with
  | nil => unfold tellR; rw [if_pos rfl, if_pos rfl]
  | cons x l => unfold tellR; rw [if_pos rfl, if_neg (by simp)]
/-- All but the result's cell is kept, which stays a range. -/
def KeepR (D : Nat) (u w' : World) : Prop := But (fun k => k = D) u w' ∧ ∃ c1 c2, w'.heap[D]? = some (.cells #[c1, c2] 43 (0, 0))
theorem KeepR.grow {D : Nat} {u w1 w2 : World} (h : KeepR D u w1) (hb : Below w1.heap.size w1 w2) : KeepR D u w2 := by
  obtain ⟨h1, c1, c2, e⟩ := h
  exact ⟨h1.trans (But.of_below hb), c1, c2, (hb.block _ (lt_of_block e)).trans e⟩
theorem KeepR.put {D : Nat} {u w1 w2 : World} {x1 x2 : Int} (h : KeepR D u w1) (hp : Put D w1 w2) (hx : w2.heap[D]? = some (.cells #[.int .i64 x1, .int .i64 x2] 43 (0, 0))) : KeepR D u w2 := ⟨hp.but h.1 (.inl rfl), _, _, hx⟩
theorem KeepR.below {D m : Nat} {w u w' : World} (h : KeepR D u w') (hB : Below m w u) (hD : m ≤ D) (hm : m ≤ w.heap.size) : Below m w w' :=
  ⟨h.1.os.trans hB.os, h.1.tape.trans hB.tape, h.1.output.trans hB.output, Nat.le_trans hB.size h.1.size, fun k hk => (h.1.block k (Nat.lt_of_lt_of_le hk (Nat.le_trans hm hB.size)) (by omega)).trans (hB.block k hk)⟩
set_option maxRecDepth 100000 in
set_option maxHeartbeats 8000000 in
theorem refTells_any (m : Nat) (n : Int) (v : Value) (cs : List Cm) (hA : AlbOk n cs) : ∀ (K : Nat) (xs : List Int) (a : Option Addr) (cap : Nat) (p : Int) (w : World), xs.length = K → K ≤ 1000 → K ≤ cap → 0 ≤ p → CmsV m w v cs → IntsV m w (.slice a xs.length cap) xs → m ≤ w.heap.size →
    Calls Try.prog 38 #[.agg #[.int .i64 n, v], .int .i64 p, .slice a K cap] w fun e w' => TellV (tellR cs xs.reverse p) (100 * (K + 1)) e ∧ Below w.heap.size w w' := by
  intro K
  induction K with
  | zero =>
    intro xs a cap p w hK hK1 hcap hp0 hV hX hm
    obtain rfl : xs = [] := List.length_eq_zero_iff.1 hK
    have h1 := box2 w (.cells #[.int .i64 n, v] 24) (.cells #[.int .i64 0, .int .i64 0] 43)
    have HX2 := Lib.hid h1.2
    have HB := Lib.hid (below2 w (.cells #[.int .i64 n, v] 24) (.cells #[.int .i64 0, .int .i64 0] 43))
    clear h1 hX hV
    go_enter Try.func38, Try.ntmps38
    obtain ⟨W2, hW2⟩ : ∃ W2, (w.alloc (.cells #[.int .i64 n, v] 24)).alloc (.cells #[.int .i64 0, .int .i64 0] 43) = W2 := ⟨_, rfl⟩
    rw [hW2] at HX2 HB
    go_wp2_with (first
      | (refine wpList_store43 rfl (.tmp 6) (.tmp 18) rfl (w.heap.size + 1) rfl _ _ 0 100 rfl HX2.out ?_
         intro w2 hp2 hg2
         have HP2 := Lib.hid hp2
         have HG2 := Lib.hid hg2
         clear hp2 hg2)
      | fail)
    have hT : tellR cs ([] : List Int).reverse p = some ⟨0, 100⟩ := by show tellR cs [] p = _; unfold tellR; rw [if_neg (by omega)]
    rw [hT]
    refine ⟨rfl, _, rtell_end rfl rfl HG2.out, ⟨0, 100, rfl, fun r hr => ?_, by omega, by omega, by omega, by omega⟩, HP2.out.below HB.out (by omega)⟩
    cases hr
    exact ⟨rfl, rfl⟩
  | succ K ih =>
    intro xs a cap p w hK hK1 hcap hp0 hV hX hm
    have HIH := Lib.hid ih
    clear ih
    have HRV := Lib.hid (rev_snoc hK)
    have hlt : (xs.take K).length = K := by rw [List.length_take]; omega
    have HLT := Lib.hid hlt
    have HPT : Hid (IntsV m w (.slice a (xs.take K).length cap) (xs.take K)) := Lib.hid (by rw [hlt]; exact ints_part hK hX)
    have hnil : (xs.take K).reverse = [] ↔ K = 0 := by
      rw [List.reverse_eq_nil_iff, ← List.length_eq_zero_iff, hlt]
    clear hlt
    have HVV := Lib.hid hV
    obtain ⟨bx, ox, cx, e, hbx0, hcx⟩ := ints_get hX (k := K) (by omega)
    cases e
    obtain ⟨x, hx⟩ : ∃ x, x = ld xs (xs.length - 1) := ⟨_, rfl⟩
    rw [show K = xs.length - 1 by omega, ← hx, show xs.length - 1 = K by omega] at hcx
    rw [← hx] at HRV
    have HOK := Lib.hid hA
    have HIN := Lib.hid fun w => In_any x 0 ((cs.length : Int) - 1) w
    have h1 := box2 w (.cells #[.int .i64 n, v] 24) (.cells #[.int .i64 0, .int .i64 0] 43)
    have HX1 := Lib.hid h1.1
    have HX2 := Lib.hid h1.2
    have HB := Lib.hid (below2 w (.cells #[.int .i64 n, v] 24) (.cells #[.int .i64 0, .int .i64 0] 43))
    obtain ⟨ca, ccap, rfl, hcp⟩ := hV
    have HCP := Lib.hid hcp
    have hcx2 := (HB.out.cell (p := ⟨bx, ox + K, none⟩) (Nat.lt_of_lt_of_le hbx0 hm)).trans hcx
    have hlx : bx < w.heap.size + 2 := by omega
    clear h1 hX hx hA hcp hcx
    have hwk : IntKind.i64.wrap (((K + 1 : Nat) : Int) - 1) = (K : Int) := by rw [show ((K + 1 : Nat) : Int) - 1 = K by omega]; exact IntWalk.i64_in _ (by omega)
    have hwk2 : IntKind.i64.wrap ((K : Int) + 1 - 1) = (K : Int) := by rw [show (K : Int) + 1 - 1 = K by omega]; exact IntWalk.i64_in _ (by omega)
    have hwk3 : IntKind.i64.wrap (K : Int) = (K : Int) := IntWalk.i64_in _ (by omega)
    have hl12 := HOK.out.len
    have hwl : IntKind.i64.wrap ((cs.length : Int) - 1) = (cs.length : Int) - 1 := IntWalk.i64_in _ (by omega)
    have hz : (((K + 1 : Nat) : Int) == 0) = false := by simp; omega
    have hz2 : ((K : Int) + 1 == 0) = false := by rw [beq_eq_false_iff_ne]; omega
    clear hK
    go_enter Try.func38, Try.ntmps38
    obtain ⟨W2, hW2⟩ : ∃ W2, (w.alloc (.cells #[.int .i64 n, .slice ca cs.length ccap] 24)).alloc (.cells #[.int .i64 0, .int .i64 0] 43) = W2 := ⟨_, rfl⟩
    have hzW : W2.heap.size = w.heap.size + 2 := by rw [← hW2]; simp
    rw [hW2] at HX1 HX2 HB hcx2
    rw [← hzW] at hlx
    have c0 := cell_of_row W2 w.heap.size 0 _ _ _ HX1.out
    have c1 := cell_of_row W2 w.heap.size 1 _ _ _ HX1.out
    simp only [List.getElem?_toArray, List.getElem?_cons_zero, List.getElem?_cons_succ] at c0 c1
    have lc := lt_of_block HX1.out
    have hKc : (K : Int) < (K + 1 : Nat) := by omega
    have hKc2 : (K : Int) < (K : Int) + 1 := by omega
    go_wp2_with fail
    clear c0 c1 lc
    clear hcx2 hlx hz hz2 hwl hKc hKc2
    refine (HIN.out W2).mono ?_
    rintro e W3 ⟨rfl, hb⟩
    replace HX1 := Lib.hid ((hb.block _ (lt_of_block HX1.out)).trans HX1.out)
    replace HX2 := Lib.hid ((hb.block _ (lt_of_block HX2.out)).trans HX2.out)
    replace HB := Lib.hid (below_to HB.out hb)
    clear hb
    by_cases hxin : 0 ≤ x ∧ x < cs.length
    · obtain ⟨q, rfl⟩ : ∃ q : Nat, x = (q : Int) := ⟨x.toNat, by omega⟩
      have hq : q < cs.length := by omega
      have hqI : (q : Int) < cs.length := by omega
      have hib : hasB 0 ((cs.length : Int) - 1) (q : Int) = true := by simp only [hasB, decide_eq_true_eq]; omega
      rw [hib]
      have hlast : lastO cs (q : Int) p = leadO (cm cs q) p := by
        unfold lastO
        rw [if_pos hxin]
        rfl
      have HT : Hid (tellR cs xs.reverse p = match leadO (cm cs q) p with | none => none | some b => (tellR cs (xs.take K).reverse b.f).map fun r => ⟨max (r.lo + b.lo) 0, min (r.hi + b.hi) 100⟩) := Lib.hid (by
        rw [HRV.out]
        conv => lhs; unfold tellR
        rw [if_neg (by omega), hlast]
        cases leadO (cm cs q) p <;> rfl)
      have hck := HOK.out.cm _ (cm_mem hq)
      have HCK := Lib.hid hck
      obtain ⟨b, off, rfl, hbn, hcc⟩ := HCP.out (by omega)
      obtain ⟨h1, h2, h3, h4⟩ := hcc q hq
      have hbw : b < w.heap.size := Nat.lt_of_lt_of_le hbn hm
      have p1 := (HB.out.cell (p := ⟨b, off + q * 4, none⟩) hbw).trans h1
      have p2 := (HB.out.cell (p := ⟨b, off + q * 4 + 1, none⟩) hbw).trans h2
      have p3 := (HB.out.cell (p := ⟨b, off + q * 4 + 2, none⟩) hbw).trans h3
      have p4 := (HB.out.cell (p := ⟨b, off + q * 4 + 3, none⟩) hbw).trans h4
      have lb : b < W3.heap.size := Nat.lt_of_lt_of_le hbw HB.out.size
      clear hib hlast hcc h1 h2 h3 h4 hck HIN hxin
      generalize cm cs q = C at *
      obtain ⟨cl, cr, clo, chi⟩ := C
      simp only at p1 p2 p3 p4
      have c0 := cell_of_row W3 w.heap.size 0 _ _ _ HX1.out
      have c1 := cell_of_row W3 w.heap.size 1 _ _ _ HX1.out
      simp only [List.getElem?_toArray, List.getElem?_cons_zero, List.getElem?_cons_succ] at c0 c1
      have lc := lt_of_block HX1.out
      have hk0 : 0 ≤ cl := HCK.out.l0
      have hk1 : -1 ≤ cr := HCK.out.r0
      have hk2 : -100 ≤ clo ∧ clo ≤ 100 := ⟨HCK.out.lo, Int.le_trans HCK.out.le HCK.out.hi⟩
      have hk3 : -100 ≤ chi ∧ chi ≤ 100 := ⟨Int.le_trans HCK.out.lo HCK.out.le, HCK.out.hi⟩
      have hkn : cl ≠ cr := HCK.out.ne
      by_cases hr : cr < 0
      · obtain rfl : cr = -1 := by omega
        have hrt : decide ((-1 : Int) < 0) = true := rfl
        go_wp2_with (first
          | (refine wpList_is rfl (.slice (some ⟨bx, ox, none⟩) K cap) (exec_part50 (.tmp 38) (.tmp 41) rfl rfl (by first | rfl | (simp only [Act.eval]; first | exact congrArg (Value.int IntKind.i64) hwk | exact congrArg (Value.int IntKind.i64) hwk2 | exact congrArg (Value.int IntKind.i64) hwk3)) (show K ≤ cap by omega)) ?_)
          | fail)
        clear c0 c1 lc
        clear p1 p2 p3 p4 lb
        have hB2 : w.heap.size + 1 < W3.heap.size := lt_of_block HX2.out
        have hbx := box_below W3 (.cells #[.int .i64 cl, .int .i64 (-1), .int .i64 clo, .int .i64 chi] 73)
        have hnx := heap_alloc_new W3 (.cells #[.int .i64 cl, .int .i64 (-1), .int .i64 clo, .int .i64 chi] 73)
        replace HX1 := Lib.hid ((hbx.block _ (lt_of_block HX1.out)).trans HX1.out)
        replace HX2 := Lib.hid ((hbx.block _ (lt_of_block HX2.out)).trans HX2.out)
        replace HB := Lib.hid (below_to HB.out hbx)
        have HX3 := Lib.hid hnx
        clear hbx hnx
        generalize World.alloc W3 _ = u1 at *
        generalize W3.heap.size = B2 at *
        obtain ⟨Z, hZ⟩ : ∃ Z, (cl == p) = Z := ⟨_, rfl⟩
        have HS : Hid ((tellR cs xs.reverse p).isSome = (Z && (K == 0)) ∧ ∀ r, tellR cs xs.reverse p = some r → max clo 0 = r.lo ∧ min chi 100 = r.hi) := Lib.hid (by
          rw [HT.out]
          unfold leadO
          by_cases hcl : cl = p
          · have hz1 : Z = true := by rw [← hZ]; simp [hcl]
            rw [if_pos hcl, hz1]
            show (Option.map _ (tellR cs (xs.take K).reverse (-1))).isSome = _ ∧ ∀ r, Option.map _ (tellR cs (xs.take K).reverse (-1)) = some r → _
            rw [tell_chart]
            by_cases hk0' : K = 0
            · rw [if_pos (hnil.2 hk0')]
              refine ⟨by simp [hk0'], fun r hr => ?_⟩
              cases hr
              exact ⟨by show max clo 0 = max (0 + clo) 0; rw [Int.zero_add], by show min chi 100 = min (0 + chi) 100; rw [Int.zero_add]⟩
            · rw [if_neg (fun h => hk0' (hnil.1 h))]
              refine ⟨by simp [hk0'], fun r hr => (by cases hr)⟩
          · have hz1 : Z = false := by rw [← hZ]; simp [hcl]
            rw [if_neg hcl, if_neg (by show (-1 : Int) ≠ p; omega), hz1]
            exact ⟨rfl, fun r hr => (by cases hr)⟩)
        have HC : Hid (∀ w', KeepR (w.heap.size + 1) u1 w' → w'.cell? ⟨B2, 0, none⟩ = some (.int .i64 cl) ∧ w'.cell? ⟨B2, 2, none⟩ = some (.int .i64 clo) ∧ w'.cell? ⟨B2, 3, none⟩ = some (.int .i64 chi)) := Lib.hid fun w' hS => by
          have h1 := (hS.1.block _ (lt_of_block HX3.out) (by omega)).trans HX3.out
          exact ⟨cell_of_row w' _ 0 _ _ _ h1, cell_of_row w' _ 2 _ _ _ h1, cell_of_row w' _ 3 _ _ _ h1⟩
        obtain ⟨Y, hY⟩ : ∃ Y, ((K : Int) == 0) = Y := ⟨_, rfl⟩
        have hYK : (K == 0) = Y := by rw [← hY, Bool.eq_iff_iff, beq_iff_eq, beq_iff_eq]; omega
        rw [hYK] at HS
        clear hnil HT hYK
        cases Z with
        | false =>
          refine wp_region_noPanic ?_
          refine wp_region_acts (KeepR (w.heap.size + 1) u1) (fun _ _ h hb => h.grow hb) ⟨But.of_below (below_drawn _), _, _, HX2.out⟩ (by kernel_rfl) (fun _ _ _ _ _ h => h)
            [.take 0, .take 1, .take 2, .take 3, .take 4, .take 5, .take 7, .take 8, .take 9, .take 10, .call 6, .take 11, .take 12, .take 13, .take 14, .take 15] [16, 17] (by decide +kernel) ?_
          iterate 10
            (refine GWalk.takes rfl rfl ?_; apply Exists.intro; refine ⟨fun w' hS => ?_, ?_⟩; (obtain ⟨z1, z2, z3⟩ := HC.out w' hS; clear hS; go_simp; with_reducible rfl); simp only [List.getElem_toArray, List.getElem_cons_succ, List.getElem_cons_zero, Act.put, List.setIfInBounds_toArray, List.set_cons_zero, List.set_cons_succ])
          refine GWalk.calls rfl rfl ?_; apply Exists.intro; apply Exists.intro; refine ⟨fun w' hS => ?_, fun v1 hb hS hO => ?_⟩; (clear hS; go_simp; exact ⟨rfl, rfl⟩)
          refine (rcut_any clo chi 0 100 v1).mono ?_
          rintro e v2 ⟨rfl, hb2⟩
          refine ⟨_, rfl, hb2, hS.grow hb2, ?_⟩
          simp only [List.getElem_toArray, List.getElem_cons_succ, List.getElem_cons_zero, Act.put, List.setIfInBounds_toArray, List.set_cons_zero, List.set_cons_succ]
          clear hb hS hO hb2
          iterate 1
            (refine GWalk.takes rfl rfl ?_; apply Exists.intro; refine ⟨fun w' hS => ?_, ?_⟩; (obtain ⟨z1, z2, z3⟩ := HC.out w' hS; clear hS; go_simp; with_reducible rfl); simp only [List.getElem_toArray, List.getElem_cons_succ, List.getElem_cons_zero, Act.put, List.setIfInBounds_toArray, List.set_cons_zero, List.set_cons_succ])
          iterate 3
            (refine ⟨_, undef, rfl, .inr ⟨rfl, rfl⟩, ?_⟩; simp only [List.getElem_toArray, List.getElem_cons_succ, List.getElem_cons_zero, Act.put, List.setIfInBounds_toArray, List.set_cons_zero, List.set_cons_succ])
          iterate 1
            (refine GWalk.takes rfl rfl ?_; apply Exists.intro; refine ⟨fun w' hS => ?_, ?_⟩; (obtain ⟨z1, z2, z3⟩ := HC.out w' hS; clear hS; go_simp; with_reducible rfl); simp only [List.getElem_toArray, List.getElem_cons_succ, List.getElem_cons_zero, Act.put, List.setIfInBounds_toArray, List.set_cons_zero, List.set_cons_succ])
          refine GWalk.fin fun v4 hb4 hS4 => ?_
          obtain ⟨y1, y2, hx4⟩ := hS4.2
          refine Tail.put43 rfl rfl (.tmp 6) (.tmp 52) rfl (w.heap.size + 1) rfl _ _ (max clo 0) (min chi 100) rfl hx4 fun v5 hp5 hx5 => ⟨hS4.put hp5 hx5, ?_⟩
          simp only [List.getElem_toArray, List.getElem_cons_succ, List.getElem_cons_zero, Act.put, List.setIfInBounds_toArray, List.set_cons_zero, List.set_cons_succ]
          refine Tail.value rfl rfl (by go_simp; with_reducible rfl) (Tail.done (NoPanic.normal ?_))
          simp only [List.getElem_toArray, List.getElem_cons_succ, List.getElem_cons_zero, Act.put, List.setIfInBounds_toArray, List.set_cons_zero, List.set_cons_succ]
          have HX5 := Lib.hid hx5
          have HB5 := Lib.hid ((hS4.put hp5 hx5).below HB.out (Nat.le_succ _) (Nat.le_refl _))
          clear hb4 hS4 hx4 hp5 hx5
          go_wp2
          obtain ⟨hs1, hs2⟩ := HS.out
          refine ⟨rfl, _, rtell_end rfl (by simp; rfl) HX5.out, ⟨_, _, by rw [hs1]; simp, hs2, by omega, by omega, by omega, by omega⟩, HB5.out⟩
        | true =>
          refine wp_region_noPanic ?_
          refine wp_region_acts (KeepR (w.heap.size + 1) u1) (fun _ _ h hb => h.grow hb) ⟨But.of_below (below_drawn _), _, _, HX2.out⟩ (by kernel_rfl) (fun _ _ _ _ _ h => h)
            [.take 0, .take 1, .take 2, .take 3, .take 4, .take 5, .take 7, .take 8, .take 9, .take 10, .call 6, .take 11, .take 12, .take 13, .take 14, .take 15] [16, 17] (by decide +kernel) ?_
          iterate 10
            (refine GWalk.takes rfl rfl ?_; apply Exists.intro; refine ⟨fun w' hS => ?_, ?_⟩; (obtain ⟨z1, z2, z3⟩ := HC.out w' hS; clear hS; go_simp; with_reducible rfl); simp only [List.getElem_toArray, List.getElem_cons_succ, List.getElem_cons_zero, Act.put, List.setIfInBounds_toArray, List.set_cons_zero, List.set_cons_succ])
          refine GWalk.calls rfl rfl ?_; apply Exists.intro; apply Exists.intro; refine ⟨fun w' hS => ?_, fun v1 hb hS hO => ?_⟩; (clear hS; go_simp; exact ⟨rfl, rfl⟩)
          refine (rcut_any clo chi 0 100 v1).mono ?_
          rintro e v2 ⟨rfl, hb2⟩
          refine ⟨_, rfl, hb2, hS.grow hb2, ?_⟩
          simp only [List.getElem_toArray, List.getElem_cons_succ, List.getElem_cons_zero, Act.put, List.setIfInBounds_toArray, List.set_cons_zero, List.set_cons_succ]
          clear hb hS hO hb2
          iterate 1
            (refine GWalk.takes rfl rfl ?_; apply Exists.intro; refine ⟨fun w' hS => ?_, ?_⟩; (obtain ⟨z1, z2, z3⟩ := HC.out w' hS; clear hS; go_simp; with_reducible rfl); simp only [List.getElem_toArray, List.getElem_cons_succ, List.getElem_cons_zero, Act.put, List.setIfInBounds_toArray, List.set_cons_zero, List.set_cons_succ])
          iterate 3
            (refine GWalk.takes rfl rfl ?_; apply Exists.intro; refine ⟨fun w' hS => ?_, ?_⟩; (obtain ⟨z1, z2, z3⟩ := HC.out w' hS; clear hS; go_simp; with_reducible rfl); simp only [List.getElem_toArray, List.getElem_cons_succ, List.getElem_cons_zero, Act.put, List.setIfInBounds_toArray, List.set_cons_zero, List.set_cons_succ])
          iterate 1
            (refine GWalk.takes rfl rfl ?_; apply Exists.intro; refine ⟨fun w' hS => ?_, ?_⟩; (obtain ⟨z1, z2, z3⟩ := HC.out w' hS; clear hS; go_simp; with_reducible rfl); simp only [List.getElem_toArray, List.getElem_cons_succ, List.getElem_cons_zero, Act.put, List.setIfInBounds_toArray, List.set_cons_zero, List.set_cons_succ])
          refine GWalk.fin fun v4 hb4 hS4 => ?_
          obtain ⟨y1, y2, hx4⟩ := hS4.2
          refine Tail.put43 rfl rfl (.tmp 6) (.tmp 52) rfl (w.heap.size + 1) rfl _ _ (max clo 0) (min chi 100) rfl hx4 fun v5 hp5 hx5 => ⟨hS4.put hp5 hx5, ?_⟩
          simp only [List.getElem_toArray, List.getElem_cons_succ, List.getElem_cons_zero, Act.put, List.setIfInBounds_toArray, List.set_cons_zero, List.set_cons_succ]
          refine Tail.value rfl rfl (by go_simp; with_reducible rfl) (Tail.done (NoPanic.normal ?_))
          simp only [List.getElem_toArray, List.getElem_cons_succ, List.getElem_cons_zero, Act.put, List.setIfInBounds_toArray, List.set_cons_zero, List.set_cons_succ]
          have HX5 := Lib.hid hx5
          have HB5 := Lib.hid ((hS4.put hp5 hx5).below HB.out (Nat.le_succ _) (Nat.le_refl _))
          clear hb4 hS4 hx4 hp5 hx5
          go_wp2
          obtain ⟨hs1, hs2⟩ := HS.out
          refine ⟨rfl, _, rtell_end rfl (by simp; rfl) HX5.out, ⟨_, _, by rw [hs1]; simp, hs2, by omega, by omega, by omega, by omega⟩, HB5.out⟩
      · have hrf : decide (cr < 0) = false := decide_eq_false hr
        by_cases hcl : cl = p
        · have e1 : (p == cl) = true := by simp [hcl]
          have HT2 : Hid (tellR cs xs.reverse p = (tellR cs (xs.take K).reverse cr).map fun r => ⟨max (r.lo + clo) 0, min (r.hi + chi) 100⟩) := Lib.hid (by
            rw [HT.out]
            unfold leadO
            rw [if_pos hcl]
            rfl)
          clear HT
          clear hcl
          go_wp2_with (first
            | (refine wpList_is rfl (.slice (some ⟨bx, ox, none⟩) K cap) (exec_part50 (.tmp 38) (.tmp 41) rfl rfl (by first | rfl | (simp only [Act.eval]; first | exact congrArg (Value.int IntKind.i64) hwk | exact congrArg (Value.int IntKind.i64) hwk2 | exact congrArg (Value.int IntKind.i64) hwk3)) (show K ≤ cap by omega)) ?_)
            | fail)
          clear c0 c1 lc
          clear p1 p2 p3 p4 lb
          have hB2 : w.heap.size + 1 < W3.heap.size := lt_of_block HX2.out
          have hbx := box_below W3 (.cells #[.int .i64 cl, .int .i64 cr, .int .i64 clo, .int .i64 chi] 73)
          have hnx := heap_alloc_new W3 (.cells #[.int .i64 cl, .int .i64 cr, .int .i64 clo, .int .i64 chi] 73)
          replace HX1 := Lib.hid ((hbx.block _ (lt_of_block HX1.out)).trans HX1.out)
          replace HX2 := Lib.hid ((hbx.block _ (lt_of_block HX2.out)).trans HX2.out)
          replace HB := Lib.hid (below_to HB.out hbx)
          have HX3 := Lib.hid hnx
          clear hbx hnx
          generalize World.alloc W3 _ = u2 at *
          generalize W3.heap.size = B2 at *
          have HMM := Lib.hid (Nat.le_trans hm HB.out.size)
          refine (HIH.out (xs.take K) (some ⟨bx, ox, none⟩) cap cr u2 HLT.out (by omega) (by omega) (by omega) (HVV.out.same (.below hm HB.out)) (HPT.out.same (.below hm HB.out)) HMM.out).mono ?_
          rintro e u3 ⟨⟨lo, hi, rfl, hIs⟩, hb⟩
          replace HX1 := Lib.hid ((hb.block _ (lt_of_block HX1.out)).trans HX1.out)
          replace HX2 := Lib.hid ((hb.block _ (lt_of_block HX2.out)).trans HX2.out)
          replace HB := Lib.hid (below_to HB.out hb)
          replace HX3 := Lib.hid ((hb.block _ (lt_of_block HX3.out)).trans HX3.out)
          clear hb
          obtain ⟨o2, ho2⟩ : ∃ o2, o2 = tellR cs (xs.take K).reverse cr := ⟨_, rfl⟩
          rw [← ho2] at hIs HT2 ⊢
          obtain ⟨hI1, hI2, hI3, hI4, hI5⟩ := hIs
          have HI1 := Lib.hid hI1
          clear HIH HPT HVV ho2 hI1
          have w1 : IntKind.i64.wrap (lo + clo) = lo + clo := IntWalk.i64_in _ (by omega)
          have w2 : IntKind.i64.wrap (hi + chi) = hi + chi := IntWalk.i64_in _ (by omega)
          have HTI : Hid (TellIs (o2.map fun r => ⟨max (r.lo + clo) 0, min (r.hi + chi) 100⟩) (100 * ((K + 1 : Nat) + 1)) (max (lo + clo) 0) (min (hi + chi) 100)) := Lib.hid ⟨fun r hr => by
            obtain ⟨r0, h0, rfl⟩ := Option.map_eq_some_iff.1 hr
            obtain ⟨e1, e2⟩ := HI1.out r0 h0
            rw [e1, e2]
            exact ⟨rfl, rfl⟩, by omega, by omega, by omega, by omega⟩
          clear hI2 hI3 hI4 hI5
          have c0 := cell_of_row u3 B2 0 _ _ _ HX3.out
          have c1 := cell_of_row u3 B2 1 _ _ _ HX3.out
          have c2 := cell_of_row u3 B2 2 _ _ _ HX3.out
          have c3 := cell_of_row u3 B2 3 _ _ _ HX3.out
          simp only [List.getElem?_toArray, List.getElem?_cons_zero, List.getElem?_cons_succ] at c0 c1 c2 c3
          have lc := lt_of_block HX3.out
          go_wp2_with fail
          clear c0 c1 c2 c3 lc
          have hbx := box_below u3 (.cells #[.int .i64 lo, .int .i64 hi] 43)
          have hnx := heap_alloc_new u3 (.cells #[.int .i64 lo, .int .i64 hi] 43)
          replace HX1 := Lib.hid ((hbx.block _ (lt_of_block HX1.out)).trans HX1.out)
          replace HX2 := Lib.hid ((hbx.block _ (lt_of_block HX2.out)).trans HX2.out)
          replace HB := Lib.hid (below_to HB.out hbx)
          replace HX3 := Lib.hid ((hbx.block _ (lt_of_block HX3.out)).trans HX3.out)
          have HX4 := Lib.hid hnx
          clear hbx hnx
          generalize World.alloc u3 _ = u4 at *
          generalize u3.heap.size = B3 at *
          refine (rcut_any (lo + clo) (hi + chi) 0 100 u4).mono ?_
          rintro e u5 ⟨rfl, hb⟩
          replace HX1 := Lib.hid ((hb.block _ (lt_of_block HX1.out)).trans HX1.out)
          replace HX2 := Lib.hid ((hb.block _ (lt_of_block HX2.out)).trans HX2.out)
          replace HB := Lib.hid (below_to HB.out hb)
          replace HX3 := Lib.hid ((hb.block _ (lt_of_block HX3.out)).trans HX3.out)
          replace HX4 := Lib.hid ((hb.block _ (lt_of_block HX4.out)).trans HX4.out)
          clear hb
          go_wp2_with (first
            | (refine wpList_store43 rfl (.tmp 6) (.tmp 87) rfl (w.heap.size + 1) rfl _ _ (max (lo + clo) 0) (min (hi + chi) 100) rfl HX2.out ?_
               intro w2 hp2 hg2
               have HP2 := Lib.hid hp2
               have HG2 := Lib.hid hg2
               clear hp2 hg2)
            | fail)
          rw [HT2.out]
          refine ⟨rfl, _, rtell_end rfl (by simp; rfl) HG2.out, ⟨_, _, by simp, HTI.out⟩, HP2.out.below HB.out (by omega)⟩
        · have e1 : (p == cl) = false := by rw [beq_eq_false_iff_ne]; exact fun h => hcl h.symm
          by_cases hcr : cr = p
          · have e2 : (p == cr) = true := by simp [hcr]
            have HT2 : Hid (tellR cs xs.reverse p = (tellR cs (xs.take K).reverse cl).map fun r => ⟨max (r.lo + -chi) 0, min (r.hi + -clo) 100⟩) := Lib.hid (by
              rw [HT.out]
              unfold leadO
              rw [if_neg hcl, if_pos hcr]
              rfl)
            clear HT
            clear hcl hcr
            go_wp2_with (first
              | (refine wpList_is rfl (.slice (some ⟨bx, ox, none⟩) K cap) (exec_part50 (.tmp 38) (.tmp 41) rfl rfl (by first | rfl | (simp only [Act.eval]; first | exact congrArg (Value.int IntKind.i64) hwk | exact congrArg (Value.int IntKind.i64) hwk2 | exact congrArg (Value.int IntKind.i64) hwk3)) (show K ≤ cap by omega)) ?_)
              | fail)
            clear c0 c1 lc
            clear p1 p2 p3 p4 lb
            have hB2 : w.heap.size + 1 < W3.heap.size := lt_of_block HX2.out
            have hbx := box_below W3 (.cells #[.int .i64 cl, .int .i64 cr, .int .i64 clo, .int .i64 chi] 73)
            have hnx := heap_alloc_new W3 (.cells #[.int .i64 cl, .int .i64 cr, .int .i64 clo, .int .i64 chi] 73)
            replace HX1 := Lib.hid ((hbx.block _ (lt_of_block HX1.out)).trans HX1.out)
            replace HX2 := Lib.hid ((hbx.block _ (lt_of_block HX2.out)).trans HX2.out)
            replace HB := Lib.hid (below_to HB.out hbx)
            have HX3 := Lib.hid hnx
            clear hbx hnx
            generalize World.alloc W3 _ = u6 at *
            generalize W3.heap.size = B2 at *
            have HMM := Lib.hid (Nat.le_trans hm HB.out.size)
            refine (HIH.out (xs.take K) (some ⟨bx, ox, none⟩) cap cl u6 HLT.out (by omega) (by omega) (by omega) (HVV.out.same (.below hm HB.out)) (HPT.out.same (.below hm HB.out)) HMM.out).mono ?_
            rintro e u7 ⟨⟨lo, hi, rfl, hIs⟩, hb⟩
            replace HX1 := Lib.hid ((hb.block _ (lt_of_block HX1.out)).trans HX1.out)
            replace HX2 := Lib.hid ((hb.block _ (lt_of_block HX2.out)).trans HX2.out)
            replace HB := Lib.hid (below_to HB.out hb)
            replace HX3 := Lib.hid ((hb.block _ (lt_of_block HX3.out)).trans HX3.out)
            clear hb
            obtain ⟨o2, ho2⟩ : ∃ o2, o2 = tellR cs (xs.take K).reverse cl := ⟨_, rfl⟩
            rw [← ho2] at hIs HT2 ⊢
            obtain ⟨hI1, hI2, hI3, hI4, hI5⟩ := hIs
            have HI1 := Lib.hid hI1
            clear HIH HPT HVV ho2 hI1
            have w1 : IntKind.i64.wrap (lo - chi) = lo - chi := IntWalk.i64_in _ (by omega)
            have w2 : IntKind.i64.wrap (hi - clo) = hi - clo := IntWalk.i64_in _ (by omega)
            have HTI : Hid (TellIs (o2.map fun r => ⟨max (r.lo + -chi) 0, min (r.hi + -clo) 100⟩) (100 * ((K + 1 : Nat) + 1)) (max (lo - chi) 0) (min (hi - clo) 100)) := Lib.hid ⟨fun r hr => by
              obtain ⟨r0, h0, rfl⟩ := Option.map_eq_some_iff.1 hr
              obtain ⟨e1, e2⟩ := HI1.out r0 h0
              rw [e1, e2]
              exact ⟨rfl, rfl⟩, by omega, by omega, by omega, by omega⟩
            clear hI2 hI3 hI4 hI5
            have c0 := cell_of_row u7 B2 0 _ _ _ HX3.out
            have c1 := cell_of_row u7 B2 1 _ _ _ HX3.out
            have c2 := cell_of_row u7 B2 2 _ _ _ HX3.out
            have c3 := cell_of_row u7 B2 3 _ _ _ HX3.out
            simp only [List.getElem?_toArray, List.getElem?_cons_zero, List.getElem?_cons_succ] at c0 c1 c2 c3
            have lc := lt_of_block HX3.out
            go_wp2_with fail
            clear c0 c1 c2 c3 lc
            have hbx := box_below u7 (.cells #[.int .i64 lo, .int .i64 hi] 43)
            have hnx := heap_alloc_new u7 (.cells #[.int .i64 lo, .int .i64 hi] 43)
            replace HX1 := Lib.hid ((hbx.block _ (lt_of_block HX1.out)).trans HX1.out)
            replace HX2 := Lib.hid ((hbx.block _ (lt_of_block HX2.out)).trans HX2.out)
            replace HB := Lib.hid (below_to HB.out hbx)
            replace HX3 := Lib.hid ((hbx.block _ (lt_of_block HX3.out)).trans HX3.out)
            have HX4 := Lib.hid hnx
            clear hbx hnx
            generalize World.alloc u7 _ = u8 at *
            generalize u7.heap.size = B3 at *
            refine (rcut_any (lo - chi) (hi - clo) 0 100 u8).mono ?_
            rintro e u9 ⟨rfl, hb⟩
            replace HX1 := Lib.hid ((hb.block _ (lt_of_block HX1.out)).trans HX1.out)
            replace HX2 := Lib.hid ((hb.block _ (lt_of_block HX2.out)).trans HX2.out)
            replace HB := Lib.hid (below_to HB.out hb)
            replace HX3 := Lib.hid ((hb.block _ (lt_of_block HX3.out)).trans HX3.out)
            replace HX4 := Lib.hid ((hb.block _ (lt_of_block HX4.out)).trans HX4.out)
            clear hb
            go_wp2_with (first
              | (refine wpList_store43 rfl (.tmp 6) (.tmp 113) rfl (w.heap.size + 1) rfl _ _ (max (lo - chi) 0) (min (hi - clo) 100) rfl HX2.out ?_
                 intro w2 hp2 hg2
                 have HP2 := Lib.hid hp2
                 have HG2 := Lib.hid hg2
                 clear hp2 hg2)
              | fail)
            rw [HT2.out]
            refine ⟨rfl, _, rtell_end rfl (by simp; rfl) HG2.out, ⟨_, _, by simp, HTI.out⟩, HP2.out.below HB.out (by omega)⟩
          · have e2 : (p == cr) = false := by rw [beq_eq_false_iff_ne]; exact fun h => hcr h.symm
            have HT2 : Hid (tellR cs xs.reverse p = none) := Lib.hid (by
              rw [HT.out]
              unfold leadO
              rw [if_neg hcl, if_neg hcr])
            clear HT
            have hbx := box_below W3 (.cells #[.int .i64 cl, .int .i64 cr, .int .i64 clo, .int .i64 chi] 73)
            have HY2 := Lib.hid ((hbx.block _ (lt_of_block HX2.out)).trans HX2.out)
            have HYB := Lib.hid (below_to HB.out hbx)
            clear hbx
            go_wp2_with (first
              | (refine wpList_is rfl (.slice (some ⟨bx, ox, none⟩) K cap) (exec_part50 (.tmp 38) (.tmp 41) rfl rfl (by first | rfl | (simp only [Act.eval]; first | exact congrArg (Value.int IntKind.i64) hwk | exact congrArg (Value.int IntKind.i64) hwk2 | exact congrArg (Value.int IntKind.i64) hwk3)) (show K ≤ cap by omega)) ?_)
              | (refine wpList_store43 rfl (.tmp 6) (.tmp 115) rfl (w.heap.size + 1) rfl _ _ 0 0 rfl (by exact HY2.out) ?_
                 intro w2 hp2 hg2
                 have HP2 := Lib.hid hp2
                 have HG2 := Lib.hid hg2
                 clear hp2 hg2)
              | fail)
            rw [HT2.out]
            exact ⟨rfl, _, rtell_end rfl rfl HG2.out, ⟨0, 0, rfl, tell_no (by omega)⟩, HP2.out.below HYB.out (by omega)⟩
    · have hib : hasB 0 ((cs.length : Int) - 1) x = false := by rw [Bool.eq_false_iff]; intro h; simp only [hasB, decide_eq_true_eq] at h; omega
      rw [hib]
      clear hib
      go_wp2_with (first
        | (refine wpList_store43 rfl (.tmp 6) (.tmp 32) rfl (w.heap.size + 1) rfl _ _ (0) (0) rfl HX2.out ?_
           intro w2 hp2 hg2
           have HP2 := Lib.hid hp2
           have HG2 := Lib.hid hg2
           clear hp2 hg2)
        | fail)
      have hT : tellR cs xs.reverse p = none := by
        rw [HRV.out]
        unfold tellR lastO
        rw [if_neg (by omega), if_neg hxin]
      rw [hT]
      exact ⟨rfl, _, rtell_end rfl rfl HG2.out, ⟨0, 0, rfl, tell_no (by omega)⟩, HP2.out.below HB.out (by omega)⟩
end Go.Proofs.Ytplmlmmjfkbabaa
