/- The court: what is remembered of who explains the round: contracts. Condition: the round is valid. -/
import Derived.Test.YtpdkgnfblnblbaaMP
import Derived.Test.YtpdkgnfblnblbaaQC
namespace Go.Proofs.Ytpdkgnfblnblbaa
open Go.RowKit Go.Shelf
attribute [local irreducible] arrV wpQuiet
theorem exec_look {a : Act} {o : Oper} {w : World} (m x : Operand) (ho : o.op = Op.lookup 90 m x true) (cm : Nat) (E : MpE) (hm : a.eval m = .map (some cm)) (hM : MapE w cm E) (p : K6) (hx : a.eval x = ofV p) :
    (execOp a.eval o).run Try.prog w = .ok (.value (.tuple #[.bool ((findE p E).getD false), .bool (findE p E).isSome])) w := by
  have hrun := look_st hM p
  have hx' : a.eval x = ofV p := hx
  simp [execOp, ho, hm, hx', hrun, Result.andThen, yV]
theorem wpList_look {ops : Array Oper} {rest : List Oper} {o : Oper} {a : Act} {Q : Exit → Act → World → Prop} {w : World} (hgd : o.guard = none) (m x : Operand) (ho : o.op = Op.lookup 90 m x true) (cm : Nat) (E : MpE) (hm : a.eval m = .map (some cm)) (hM : MapE w cm E) (p : K6) (hx : a.eval x = ofV p)
    (r : Option Bool) (hf : findE p E = r) (hK : wpList Try.prog ops Q rest (a.put o.dst (.tuple #[.bool (r.getD false), .bool r.isSome])) w) : wpList Try.prog ops Q (o :: rest) a w := by
  have hr := exec_look m x ho cm E hm hM p hx
  rw [hf] at hr
  refine wpList_plain hgd fun K hk => ?_
  unfold Oper.wp
  rw [hr]
  exact hk _ _ hK
theorem wpList_put {ops : Array Oper} {rest : List Oper} {o : Oper} {a : Act} {Q : Exit → Act → World → Prop} {w : World} (hgd : o.guard = none) (m x v : Operand) (ho : o.op = Op.mapUpdate 90 m x v)
    (cm : Nat) (E : MpE) (hm : a.eval m = .map (some cm)) (hM : MapE w cm E) (p : K6) (n : Bool) (hx : a.eval x = ofV p) (hv : a.eval v = .bool n)
    (hK : ∀ o' w', w' = w.putObj cm o' → MapE w' cm (putE p n E) → wpList Try.prog ops Q rest (a.put o.dst undef) w') : wpList Try.prog ops Q (o :: rest) a w := by
  refine wpList_plain hgd fun K' hK' => ?_
  obtain ⟨w', hrun, h1, o', h2⟩ := put_st hM p n
  have hv' : a.eval v = yV n := hv
  unfold Oper.wp
  simp [execOp, ho, hm, hx, hv', hrun, Result.andThen]
  exact hK' _ _ (hK o' w' h2 h1)
theorem expl_ext {R : Rd} {o o' : Nat → Bool} (h : ∀ k, k < R.labs.length → o k = o' k) : explB R o = explB R o' := by
  have hv := val_ext h
  have hl : ∀ k, lotsF R o k = lotsF R o' k := fun k => by simp only [lotsF, funext fun ls => funext fun s => show lotStep R o ls s = lotStep R o' ls s by simp only [lotStep, hv]]
  simp only [explB, hv, hl]
/-- The map keeps right answers. -/
def CMap (w : World) (bm : Nat) (R : Rd) : Prop := ∃ E, MapE w bm E ∧ ∀ (o : Nat → Bool) b, findE (k6 o) E = some b → explB R o = b
theorem CMap.block {w w' : World} {bm : Nat} {R : Rd} (h : CMap w bm R) (hb : w'.heap[bm]? = w.heap[bm]?) : CMap w' bm R := by
  obtain ⟨E, h1, h2⟩ := h
  exact ⟨E, h1.block hb, h2⟩
theorem CMap.lt {w : World} {bm : Nat} {R : Rd} (h : CMap w bm R) : bm < w.heap.size := by
  obtain ⟨E, h1, h2⟩ := h
  exact h1.lt
theorem cmap_put {R : Rd} (hR : R.labs.length ≤ 6) {E : MpE} (h : ∀ (o : Nat → Bool) b, findE (k6 o) E = some b → explB R o = b) (o : Nat → Bool) : ∀ (o2 : Nat → Bool) b, findE (k6 o2) (putE (k6 o) (explB R o) E) = some b → explB R o2 = b := by
  intro o2 b hf
  rw [find_put] at hf
  split at hf
  · rename_i e
    cases hf
    exact expl_ext fun k hk => k6_ext e k (by omega)
  · exact h o2 b hf

set_option maxRecDepth 100000 in
set_option maxHeartbeats 2000000 in
theorem explain_any (n bm : Nat) (p : Rp) (R : Rd) (o : Nat → Bool) (w : World) (hR : RdOk R) (hV : RdV n w p R) (hn : n ≤ bm) (hM : CMap w bm R) :
    Calls Try.prog 68 #[.agg #[.slice p.la R.lots.length p.lc, .slice p.sa R.smp.length p.sc, .int .i64 R.sp, .slice p.ba R.labs.length p.bc, .map (some bm)], .agg #[.bool (o 0), .bool (o 1), .bool (o 2), .bool (o 3), .bool (o 4), .bool (o 5)]] w fun e w' => e = .returned (.bool (explB R o)) ∧ But (fun k => k = bm) w w' ∧ CMap w' bm R := by
  have hlt := hM.lt
  have HSP := Lib.hid fun w' (h : Below w.heap.size w w') => spans_any n p R o w' hR (hV.same (.below (by omega) h)) (Nat.le_trans (by omega) h.size)
  have HX := Lib.hid (box2 w (.cells #[.slice p.la R.lots.length p.lc, .slice p.sa R.smp.length p.sc, .int .i64 R.sp, .slice p.ba R.labs.length p.bc, .map (some bm)] 92) (.cells #[.bool (o 0), .bool (o 1), .bool (o 2), .bool (o 3), .bool (o 4), .bool (o 5)] 81))
  have HB := Lib.hid (below2 w (.cells #[.slice p.la R.lots.length p.lc, .slice p.sa R.smp.length p.sc, .int .i64 R.sp, .slice p.ba R.labs.length p.bc, .map (some bm)] 92) (.cells #[.bool (o 0), .bool (o 1), .bool (o 2), .bool (o 3), .bool (o 4), .bool (o 5)] 81))
  obtain ⟨E, hme, hright⟩ := hM
  have HME := Lib.hid (hme.block (HB.out.block _ hlt))
  have HRT := Lib.hid hright
  have HPUT := Lib.hid (cmap_put hR.k6 hright o)
  clear hR hV hme hright
  go_enter Try.func68, Try.ntmps68
  obtain ⟨r, hr⟩ : ∃ r, findE (k6 o) E = r := ⟨_, rfl⟩
  have HR := Lib.hid hr
  clear hr
  cases r with
  | some b =>
    have HE := Lib.hid (HRT.out o b HR.out)
    go_wp2_with (first
      | (refine wpList_look rfl (.tmp 9) (.tmp 10) rfl bm E rfl HME.out (k6 o) rfl (some b) HR.out ?_
         simp only [Option.getD_some, Option.isSome_some])
      | fail)
    go_ret
    exact ⟨by rw [HE.out]; rfl, But.of_below HB.out, E, HME.out, HRT.out⟩
  | none =>
    go_wp2_with (first
      | (refine wpList_look rfl (.tmp 9) (.tmp 10) rfl bm E rfl HME.out (k6 o) rfl none HR.out ?_
         simp only [Option.getD_none, Option.isSome_none])
      | fail)
    generalize World.alloc (World.alloc w _) _ = W at *
    refine (HSP.out W HB.out).mono ?_
    rintro e W1 ⟨⟨a, c, k, rfl, -, -⟩, hb⟩
    replace HME := Lib.hid (HME.out.block (hb.block _ HME.out.lt))
    have HX1 := Lib.hid ((hb.block _ (lt_of_block HX.out.1)).trans HX.out.1)
    have HX2 := Lib.hid ((hb.block _ (lt_of_block HX.out.2)).trans HX.out.2)
    replace HB := Lib.hid (below_to HB.out hb)
    clear hb HSP HX
    have a0 := cell_of_row W1 w.heap.size 0 _ _ _ HX1.out
    have a1 := cell_of_row W1 w.heap.size 1 _ _ _ HX1.out
    have a2 := cell_of_row W1 w.heap.size 2 _ _ _ HX1.out
    have a3 := cell_of_row W1 w.heap.size 3 _ _ _ HX1.out
    have a4 := cell_of_row W1 w.heap.size 4 _ _ _ HX1.out
    simp only [List.getElem?_toArray, List.getElem?_cons_zero, List.getElem?_cons_succ] at a0 a1 a2 a3 a4
    have c0 := cell_of_row W1 (w.heap.size + 1) 0 _ _ _ HX2.out
    have c1 := cell_of_row W1 (w.heap.size + 1) 1 _ _ _ HX2.out
    have c2 := cell_of_row W1 (w.heap.size + 1) 2 _ _ _ HX2.out
    have c3 := cell_of_row W1 (w.heap.size + 1) 3 _ _ _ HX2.out
    have c4 := cell_of_row W1 (w.heap.size + 1) 4 _ _ _ HX2.out
    have c5 := cell_of_row W1 (w.heap.size + 1) 5 _ _ _ HX2.out
    simp only [List.getElem?_toArray, List.getElem?_cons_zero, List.getElem?_cons_succ] at c0 c1 c2 c3 c4 c5
    have l1 := lt_of_block HX1.out
    have l2 := lt_of_block HX2.out
    go_wp2_with (first
      | (refine wpList_put rfl (.tmp 25) (.tmp 26) (.tmp 27) rfl bm E rfl HME.out (k6 o) (explB R o) rfl rfl ?_
         intro o9 w9 hw9 hm9
         have HM9 := Lib.hid hm9
         have HW9 : Hid (But (fun k => k = bm) w w9) := Lib.hid (by rw [hw9]; exact (But.of_below HB.out).trans (But.putObj _ _ rfl))
         clear hw9 hm9)
      | fail)
    go_ret
    exact ⟨rfl, HW9.out, _, HM9.out, HPUT.out⟩
end Go.Proofs.Ytpdkgnfblnblbaa
