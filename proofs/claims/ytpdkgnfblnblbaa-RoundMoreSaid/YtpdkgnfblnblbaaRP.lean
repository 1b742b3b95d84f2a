/- A list of lots of any value: contract. Condition: one to four of them. -/
import Derived.Test.YtpdkgnfblnblbaaWT
import Derived.Test.YtpdkgnfblnblbaaS2
namespace Go.Proofs.Ytpdkgnfblnblbaa
open Go.RowKit Go.Shelf
attribute [local irreducible] arrV wpQuiet
set_option maxRecDepth 100000 in
set_option maxHeartbeats 2000000 in
theorem mul_any (c : Nat) (hc : c = 1 ∨ c = 2 ∨ c = 3 ∨ c = 4) (w : World) : Calls Try.prog 95 #[.int .u64 1, .int .u64 c] w fun e w' => e = .returned (.tuple #[.int .u64 0, .int .u64 c]) ∧ Below w.heap.size w w' := by
  have HB := Lib.hid (Below.refl w.heap.size w)
  rcases hc with rfl | rfl | rfl | rfl
  · go_enter Try.func95, Try.ntmps95
    go_wp2
    go_ret2
    exact ⟨rfl, HB.out⟩
  · go_enter Try.func95, Try.ntmps95
    go_wp2
    go_ret2
    exact ⟨rfl, HB.out⟩
  · go_enter Try.func95, Try.ntmps95
    go_wp2
    go_ret2
    exact ⟨rfl, HB.out⟩
  · go_enter Try.func95, Try.ntmps95
    go_wp2
    go_ret2
    exact ⟨rfl, HB.out⟩

theorem run_copy46 (w : World) (ty : TypeId) (b o dLen dCap b2 o2 sLen sCap k : Nat) (cs : List Value) (hk : Nat.min sLen dLen = k) (hl : cs.length = k * 2)
    (hsrc : ∀ j v, cs[j]? = some v → w.cell? ⟨b2, o2 + j, none⟩ = some v) (hc : ∀ j, j < cs.length → (w.cell? ⟨b, o + j, none⟩).isSome = true) (hf : ∀ j, j < cs.length → w.frozen? ⟨b, o + j, none⟩ = false) (h1 : ∀ v ∈ cs, v.oneCell' = true) :
    (Builtin.copy_ #[31, 31] ty #[.slice (some ⟨b, o, none⟩) dLen dCap, .slice (some ⟨b2, o2, none⟩) sLen sCap]).run Try.prog w = .ok (goInt k) (w.setCells b o cs) := by
  obtain ⟨i, z, hi, hz, hs, hby, hzs⟩ := el31.i
  have hld := run_loadCells_list (P := Try.prog) w ⟨b2, o2, none⟩ cs (fun j v h => by rw [Addr.add_lit]; exact hsrc j v h)
  have hst := run_storeCells_cells (P := Try.prog) b o cs 0 w (by simpa using hc) (by simpa using hf) h1
  rw [hl] at hld
  simp [Builtin.copy_, run_underlying el31.u, Builtin.lenOf, Builtin.firstCells, sizeOf, typeInfo, hi, hs, hk, hld, hst]
/-- So many elements of any value, then nothing. -/
def fillI (c q : Nat) : List Int := (List.range (2 * c)).map fun j => if j < 2 * q ∧ j % 2 = 1 then 1000 else 0
def oddI (k : Nat) : List Int := (List.range (2 * k)).map fun j => if j % 2 = 1 then 1000 else 0
theorem fill_stepB : ((List.range 5).all fun c => (List.range 5).all fun q => (List.range 5).all fun k => decide (c < q + k) || (decide ((fillI c q).take (2 * q) ++ oddI k ++ (fillI c q).drop (2 * q + 2 * k) = fillI c (q + k)) && (decide (q < k) || decide ((fillI c q).take (2 * k) = oddI k)))) = true := by decide
theorem fill_step (c : Nat) (hc : c < 5) (q : Nat) (hq : q < 5) (k : Nat) (hk : k < 5) (h : q + k ≤ c) : (fillI c q).take (2 * q) ++ oddI k ++ (fillI c q).drop (2 * q + 2 * k) = fillI c (q + k) ∧ (k ≤ q → (fillI c q).take (2 * k) = oddI k) := by
  have h1 := List.all_eq_true.1 (List.all_eq_true.1 (List.all_eq_true.1 fill_stepB c (by simpa using hc)) q (by simpa using hq)) k (by simpa using hk)
  rw [Bool.or_eq_true, Bool.and_eq_true, Bool.or_eq_true, decide_eq_true_eq, decide_eq_true_eq, decide_eq_true_eq, decide_eq_true_eq] at h1
  rcases h1 with h1 | h1
  · omega
  · exact ⟨h1.1, fun h2 => h1.2.elim (fun h3 => by omega) id⟩
theorem fill_all : ∀ c, c < 5 → fillI c c = (List.replicate c [(0 : Int), 1000]).flatten := by decide
theorem fill_len (c q : Nat) : (fillI c q).length = 2 * c := by simp [fillI]
theorem odd_len (k : Nat) : (oddI k).length = 2 * k := by simp [oddI]
theorem flat_rep (c : Nat) : flatR (List.replicate c ⟨0, 1000⟩) = ((List.replicate c [(0 : Int), 1000]).flatten).map iV := by
  induction c with
  | zero => rfl
  | succ c ih => rw [List.replicate_succ, List.replicate_succ, List.flatten_cons, List.map_append, ← ih]; rfl
theorem made46 (c : Nat) (hc : c = 1 ∨ c = 2 ∨ c = 3 ∨ c = 4) (w : World) : (Instr.makeSlice 31 (.int .i64 c) (.int .i64 c)).run Try.prog w = .ok (.slice (some ⟨w.heap.size, 0, none⟩) c c) (w.alloc (.cells ((fillI c 0).map iV).toArray 46)) := by
  rcases hc with rfl | rfl | rfl | rfl <;> kernel_rfl
/-- A copy within such a row, or into it. -/
theorem fill_copy {w : World} {B c q k : Nat} (ty : TypeId) (g o2 dCap sLen sCap : Nat) (hc4 : c ≤ 4) (hq : q ≤ 4) (hk : k ≤ 4) (hqk : q + k ≤ c) (hmin : Nat.min sLen (c - q) = k) (hB : w.heap[B]? = some (.cells ((fillI c q).map iV).toArray 46 (0, 0)))
    (hsrc : ∀ j v, ((oddI k).map iV)[j]? = some v → w.cell? ⟨g, o2 + j, none⟩ = some v) :
    ∃ w', (Builtin.copy_ #[31, 31] ty #[.slice (some ⟨B, q * 2, none⟩) (c - q) dCap, .slice (some ⟨g, o2, none⟩) sLen sCap]).run Try.prog w = .ok (goInt k) w' ∧ w'.heap[B]? = some (.cells ((fillI c (q + k)).map iV).toArray 46 (0, 0)) ∧ Put B w w' := by
  have hlen : ((fillI c q).map iV).length = 2 * c := by rw [List.length_map, fill_len]
  have hol : ((oddI k).map iV).length = k * 2 := by rw [List.length_map, odd_len]; omega
  refine ⟨_, run_copy46 w ty B (q * 2) (c - q) dCap g o2 sLen sCap k ((oddI k).map iV) hmin hol hsrc (fun j hj => ?_) (fun j hj => frozen_of_row w B _ _ _ hB) (fun v hv => ?_), ?_, put_cells _ _ _ _⟩
  · rw [cell_of_row w B _ _ _ _ hB]
    rw [hol] at hj
    simp [fill_len]
    omega
  · obtain ⟨a, _, rfl⟩ := List.mem_map.1 hv
    rfl
  · have hst := (fill_step c (by omega) q (by omega) k (by omega) hqk).1
    have hsplit : (fillI c q).map iV = ((fillI c q).take (2 * q)).map iV ++ (((fillI c q).drop (2 * q)).take (2 * k)).map iV ++ ((fillI c q).drop (2 * q + 2 * k)).map iV := by
      rw [← List.map_append, ← List.map_append, ← List.drop_drop, List.append_assoc, List.take_append_drop, List.take_append_drop]
    have hm : ((((fillI c q).drop (2 * q)).take (2 * k)).map iV).length = ((oddI k).map iV).length := by
      rw [List.length_map, List.length_take, List.length_drop, fill_len, hol]
      omega
    have hp : (((fillI c q).take (2 * q)).map iV).length = q * 2 := by
      rw [List.length_map, List.length_take, fill_len]
      omega
    have := set_list B 46 ((oddI k).map iV) (((fillI c q).take (2 * q)).map iV) ((((fillI c q).drop (2 * q)).take (2 * k)).map iV) (((fillI c q).drop (2 * q + 2 * k)).map iV) w hm (by rw [← hsplit]; exact hB)
    rw [hp, ← List.map_append, ← List.map_append, hst] at this
    exact this

theorem exec_copyR {o : Oper} {a : Act} {w w' : World} (d s : Operand) (ho : o.op = .call { callee := .builtin .copy, args := #[d, s], argTypes := #[31, 31] }) (v u : Value) (hd : a.eval d = v) (hs : a.eval s = u) {v' : Value}
    (hr : (Builtin.copy_ #[31, 31] o.type #[v, u]).run Try.prog w = .ok v' w') : (execOp a.eval o).run Try.prog w = .ok (.value v') w' := by
  simp [execOp, ho, resolve, invoke, builtin, hd, hs, hr, Result.andThen]
theorem wpList_copyR {ops : Array Oper} {rest : List Oper} {o : Oper} {a : Act} {Q : Exit → Act → World → Prop} {w w' : World} (hgd : o.guard = none) (d s : Operand) (ho : o.op = .call { callee := .builtin .copy, args := #[d, s], argTypes := #[31, 31] })
    (v u : Value) (hd : a.eval d = v) (hs : a.eval s = u) {v' : Value} (hr : (Builtin.copy_ #[31, 31] o.type #[v, u]).run Try.prog w = .ok v' w') (h : wpList Try.prog ops Q rest (a.put o.dst v') w') : wpList Try.prog ops Q (o :: rest) a w := by
  refine wpList_plain hgd fun K hK => ?_
  unfold Oper.wp
  rw [exec_copyR d s ho v u hd hs hr]
  exact hK _ _ h

set_option maxRecDepth 100000 in
set_option maxHeartbeats 2000000 in
theorem repeat_any (c g : Nat) (hc : c = 1 ∨ c = 2 ∨ c = 3 ∨ c = 4) (w : World) (hg : w.heap[g]? = some (.cells #[.int .i64 0, .int .i64 1000] 46 (0, 0))) :
    Calls Try.prog 87 #[.slice (some ⟨g, 0, none⟩) 1 1, .int .i64 c] w fun e w' => (∃ v, e = .returned v ∧ w'.ownsRow w.heap.size 46 2 v c (flatR (List.replicate c ⟨0, 1000⟩))) ∧ Below w.heap.size w w' := by
  have HB := Lib.hid (Below.refl w.heap.size w)
  have HM := Lib.hid (mul_any c hc)
  have HMK := Lib.hid (made46 c hc)
  have HG := Lib.hid hg
  have hc4 : c ≤ 4 := by omega
  have hc0 : 0 < c := by omega
  have hcn : ¬ (c : Int) < 0 := by omega
  have hci : (0 : Int) < c := by omega
  have hw1 : IntKind.u64.wrap (c : Int) = (c : Int) := by rcases hc with rfl | rfl | rfl | rfl <;> rfl
  have hw2 : IntKind.i64.wrap (c : Int) = (c : Int) := IntWalk.i64_in _ (by omega)
  clear hg hc
  go_enter Try.func87, Try.ntmps87
  go_wp2_with fail
  refine (HM.out _).mono ?_
  rintro e w1 ⟨rfl, hb⟩
  replace HG := Lib.hid ((hb.block _ (lt_of_block HG.out)).trans HG.out)
  replace HB := Lib.hid (below_to HB.out hb)
  clear hb
  have hmk := HMK.out
  have hcb : ¬ (9223372036854775807 : Int) < (c : Int) := by omega
  have hcb2 : decide ((9223372036854775807 : Int) < (c : Int)) = false := decide_eq_false hcb
  obtain ⟨wz, hwz, hz1, hz2⟩ : ∃ wz, (Builtin.copy_ #[31, 31] 3 #[.slice (some ⟨w1.heap.size, 0, none⟩) c c, .slice (some ⟨g, 0, none⟩) 1 1]).run Try.prog (w1.alloc (.cells ((fillI c 0).map iV).toArray 46)) = .ok (goInt 1) wz ∧ wz.heap[w1.heap.size]? = some (.cells ((fillI c 1).map iV).toArray 46 (0, 0)) ∧ Put w1.heap.size (w1.alloc (.cells ((fillI c 0).map iV).toArray 46)) wz := by
    have := fill_copy (w := w1.alloc (.cells ((fillI c 0).map iV).toArray 46)) (B := w1.heap.size) (c := c) (q := 0) (k := 1) 3 g 0 c 1 1 hc4 (by omega) (by omega) (by omega) (by show Nat.min 1 (c - 0) = 1; rw [Nat.sub_zero]; exact Nat.min_eq_left hc0) (heap_alloc_new _ _) (fun j v h => by
      have hg2 := (heap_alloc_low w1 (.cells ((fillI c 0).map iV).toArray 46) g (lt_of_block HG.out)).trans HG.out
      rw [Nat.zero_add, cell_of_row _ g j _ _ _ hg2]
      have e : (oddI 1).map iV = [.int .i64 0, .int .i64 1000] := rfl
      rw [e] at h
      simpa using h)
    simpa using this
  have HZR := Lib.hid hwz
  have HZ1 := Lib.hid hz1
  have HB2 := Lib.hid (hz2.below ((box_below w1 (.cells ((fillI c 0).map iV).toArray 46)) |> below_to HB.out) (by have := HB.out.size; omega))
  have hB1 : w.heap.size ≤ w1.heap.size := HB.out.size
  clear hwz hz1 hz2 HG HMK HM
  go_wp2_with (first
    | (refine wpList_copyR rfl (.tmp 31) (.tmp 32) rfl _ _ rfl rfl HZR.out ?_)
    | fail)
  generalize w1.heap.size = B at *
  have HFA := Lib.hid (fill_all c (by omega))
  have HFR := Lib.hid (flat_rep c)
  go_loopw [8] (fun x wr => ∃ q : Nat, 1 ≤ q ∧ q ≤ c ∧ x = .int .i64 q ∧ Hid (wr.heap[B]? = some (.cells ((fillI c q).map iV).toArray 46 (0, 0))) ∧ Hid (Below w.heap.size w wr)) (fun x _ => c - (intOf x).toNat)
  case atStart => exact ⟨1, Nat.le_refl _, hc0, rfl, HZ1, HB2⟩
  case round =>
    clear HZ1 HB2
    obtain ⟨q, hq1, hqc, rfl, HX, HB⟩ := hrel
    by_cases hlt : q < c
    · have hqn : (q : Int) < c := by omega
      have hq0 : (0 : Int) ≤ q := by omega
      have hqle : (q : Int) ≤ c := by omega
      have hne : ¬ c = q := by omega
      have hne2 : ¬ (c : Int) = q := by omega
      obtain ⟨k, hk⟩ : ∃ k, Nat.min q (c - q) = k := ⟨_, rfl⟩
      have hkb : 1 ≤ k ∧ k ≤ q ∧ q + k ≤ c := by
        have h1 : Nat.min q (c - q) = min q (c - q) := rfl
        omega
      have hwk : IntKind.i64.wrap ((q : Int) + k) = (q : Int) + k := IntWalk.i64_in _ (by omega)
      have HKB := Lib.hid hkb
      have hgk : goInt k = .int .i64 k := rfl
      obtain ⟨wz, hz0, hz1, hz2⟩ := fill_copy (w := { wr with drawn := wr.drawn + 1 }) (B := B) (c := c) (q := q) (k := k) 3 B 0 (c - q) q c hc4 (by omega) (by omega) hkb.2.2 hk HX.out (fun j v h => by
        have hb : (({ wr with drawn := wr.drawn + 1 } : World).heap)[B]? = some (.cells ((fillI c q).map iV).toArray 46 (0, 0)) := HX.out
        rw [Nat.zero_add, cell_of_row _ B j _ _ _ hb, List.getElem?_toArray]
        have hst := (fill_step c (by omega) q (by omega) k (by omega) hkb.2.2).2 hkb.2.1
        rw [← hst, List.map_take] at h
        have hjl : j < 2 * k := by
          have := (List.getElem?_eq_some_iff.1 h).1
          simp at this
          omega
        rwa [List.getElem?_take_of_lt hjl] at h)
      have HZR := Lib.hid hz0
      have HZ1 := Lib.hid hz1
      have hbw : Below w.heap.size w wz := hz2.below (HB.out.trans ((below_drawn wr).mono HB.out.size)) hB1
      have hbt : But (fun x => x = B) wr wz := (But.of_below (below_drawn wr)).trans ⟨hz2.os, hz2.tape, hz2.output, by rw [hz2.size]; exact Nat.le_refl _, fun x _ hx => hz2.other x hx⟩
      have HBW := Lib.hid hbw
      have HBT := Lib.hid hbt
      clear hz0 hz1 hz2 hk hkb hbw hbt HX HB
      go_wp2_with fail
      refine wp_region_noPanic ?_
      refine wp_region_walkT (fun w' => But (fun x => x = B) wr w') 8 [(0, 0), (0, 1), (0, 2), (0, 3), (0, 4), (0, 5), (0, 6), (2, 7)] (But.of_below (below_drawn _)) (by decide +kernel) (fun _ _ _ _ _ h => h) (by decide +kernel) ?_
      iterate 7
        (refine WalkT.takes rfl rfl ?_; apply Exists.intro; refine ⟨fun w' hS => ?_, ?_⟩; (clear hS; go_simp; with_reducible rfl); simp only [List.getElem_toArray, List.getElem_cons_succ, List.getElem_cons_zero, Act.put, List.setIfInBounds_toArray, List.set_cons_zero, List.set_cons_succ])
      refine WalkT.acts rfl rfl (exec_copyR (.tmp 41) (.tmp 44) rfl _ _ rfl rfl HZR.out) HBT.out ?_
      simp only [List.getElem_toArray, List.getElem_cons_succ, List.getElem_cons_zero, Act.put, List.setIfInBounds_toArray, List.set_cons_zero, List.set_cons_succ]
      refine WalkT.fin ?_
      simp only [List.drop_succ_cons, List.drop_zero, hgk]
      refine wpList_is rfl (.int .i64 ((q : Int) + k)) (by go_simp) ?_
      simp only [List.getElem_toArray, List.getElem_cons_succ, List.getElem_cons_zero, Act.put, List.setIfInBounds_toArray, List.set_cons_zero, List.set_cons_succ]
      refine wpList_is rfl (.int .i64 ((q : Int) + k)) (by go_simp) ?_
      simp only [List.getElem_toArray, List.getElem_cons_succ, List.getElem_cons_zero, Act.put, List.setIfInBounds_toArray, List.set_cons_zero, List.set_cons_succ]
      simp only [wpList]
      refine NoPanic.normal ?_
      have hkb2 := HKB.out
      clear hgk hwk HZR HBT
      go_wp2
      go_roundw
      case rel => exact ⟨q + k, by omega, by omega, by simp, HZ1, HBW⟩
      case measure => simp [intOf]; omega
    · obtain rfl : q = c := by omega
      have HO : Hid (wr.ownsRow w.heap.size 46 2 (.slice (some ⟨B, 0, none⟩) q q) q (flatR (List.replicate q ⟨0, 1000⟩))) := Lib.hid (by
        rw [HFR.out, ← HFA.out]
        exact ⟨by rw [List.length_map, fill_len]; omega, .inr ⟨B, q, _, rfl, hB1, HX.out, Nat.le_refl _, by simp [maxLen]; omega, by simp [fill_len]; omega, by show List.take (q * 2) (List.map iV (fillI q q)) = _; exact List.take_of_length_le (by rw [List.length_map, fill_len]; omega)⟩⟩)
      go_wp2
      go_ret
      exact ⟨⟨_, rfl, HO.out⟩, HB.out⟩
end Go.Proofs.Ytpdkgnfblnblbaa
