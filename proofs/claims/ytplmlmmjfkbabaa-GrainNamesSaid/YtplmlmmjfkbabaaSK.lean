/- The search for the doubtful comparisons, walked. No condition. -/
import Derived.Test.YtplmlmmjfkbabaaSJJ
import Derived.BigRegion
import Derived.BigQuiet
namespace Go.Proofs.Ytplmlmmjfkbabaa
open Go.RowKit Go.Shelf
attribute [local irreducible] arrV wpQuiet mat shl

def LookP (z : Nat) (n : Int) (av : Value) (cs : List Cm) (W : World) (sl : Value) (outL : List Int) (st : List Int × Int) (W' : World) : Prop :=
  ∃ sl' fv', LookW z n av cs W' outL st.1 st.2 sl' fv' ∧ But (TS z sl) W W' ∧ ∀ k, sl'.ownBlock = some k → sl.ownBlock = some k ∨ W.heap.size ≤ k
theorem look_stop {cs : List Cm} {q : Nat} {d : Dm} {out : List Int} {st : List Int × Int} (h : ¬ (possD d = true ∧ (out.length : Int) ≤ st.2)) : lookF cs q d out st = st := by
  cases cs with
  | nil => unfold lookF; rw [if_neg h]
  | cons c cs => unfold lookF; rw [if_neg h]
theorem exec_load_mat {a : Act} {o : Oper} {w : World} (x : Operand) (ho : o.op = .load 83 x) {g : Nat} {t : TypeId} {d : Dm} (hx : a.eval x = .pointer (some ⟨g, 0, none⟩)) (hg : w.heap[g]? = some (.cells (mat d) t (0, 0))) :
    (execOp a.eval o).run Try.prog w = .ok (.value (.agg (mat d))) w :=
  exec_load_row 83 x ho g 0 hx (mat d).toList _ (range_block (l := (mat d).toList) (by simpa using hg)) u83 rfl (by rw [Array.length_toList, mat_size]; exact s83) _ (by simp)
theorem own_cap {w : World} {base e sz n c : Nat} {a : Option Addr} {xs : List Value} (h : w.ownsRow base e sz (.slice a n c) n xs) : n ≤ c := by
  rcases h.2 with ⟨hv, h0⟩ | ⟨g, c', cur, hv, _, _, hn, _⟩
  · cases hv; exact Nat.le_refl _
  · cases hv; exact hn
theorem But.step {T T' : Nat → Prop} {A B C : World} (h : But T A B) (k : But T' B C) (hT : ∀ i, i < A.heap.size → T' i → T i) : But T A C :=
  ⟨k.os.trans h.os, k.tape.trans h.tape, k.output.trans h.output, Nat.le_trans h.size k.size, fun i hi hn => (k.block i (Nat.lt_of_lt_of_le hi h.size) (fun ht => hn (hT i hi ht))).trans (h.block i hi hn)⟩
set_option maxRecDepth 100000 in
set_option maxHeartbeats 8000000 in
theorem look_any (z : Nat) (n : Int) (av : Value) (cs : List Cm) (hA : AlbOk n cs) : ∀ (rest : List Cm) (q : Nat) (d : Dm) (outL f : List Int) (m : Int) (W : World) (sl fv : Value), rest = cs.drop q → q ≤ cs.length → (possD d = true → ∃ pre, Canon pre d) → outL.length ≤ q →
    LookW z n av cs W outL f m sl fv →
    Calls Try.prog 85 #[.int .i64 q, .agg (mat d), pz (z + 1), pz (z + 3), pz z, pz (z + 2), pz (z + 4)] W fun e W' => e = .returned (.tuple #[]) ∧ LookP z n av cs W sl outL (lookF rest q d outL (f, m)) W' := by
  intro rest
  induction rest with
  | nil =>
    intro q d outL f m W sl fv hrest hq hcan hol hLW
    have hl12 := hA.len
    have hql : q = cs.length := by
      rcases Nat.lt_or_ge q cs.length with h | h
      · have := congrArg List.length hrest
        simp at this
        omega
      · omega
    have HLW := Lib.hid (hLW.below (box_below W (.cells (mat d) 83)))
    have H8 := Lib.hid (heap_alloc_new W (.cells (mat d) 83))
    have HBT : Hid (But (TS z sl) W (W.alloc (.cells (mat d) 83))) := Lib.hid (But.of_below (box_below W (.cells (mat d) 83)))
    have E0 : Hid (¬ (possD d = true ∧ (outL.length : Int) ≤ m) → lookF [] q d outL (f, m) = (f, m)) := Lib.hid fun h => look_stop h
    have E1 : Hid (possD d = true → (outL.length : Int) ≤ m → lookF [] q d outL (f, m) = (outL, (outL.length : Int))) := Lib.hid fun h1 h2 => by
      unfold lookF
      rw [if_pos ⟨h1, h2⟩]
    obtain ⟨ST, hST⟩ : ∃ st, st = lookF [] q d outL (f, m) := ⟨_, rfl⟩
    rw [← hST] at E0 E1 ⊢
    have HSL : Hid (∀ k, sl.ownBlock = some k → k < W.heap.size) := Lib.hid fun k hk => (own_lt hLW.out hk).2
    clear hcan hLW hrest hST hA
    unfold pz
    go_enter Try.func85, Try.ntmps85
    go_wp2_with (first
      | (refine wpList_load_mat rfl (.tmp 8) rfl W.heap.size rfl 83 d H8.out ?_)
      | fail)
    generalize W.alloc _ = W1 at *
    refine (isPossible_any d W1).mono ?_
    rintro e W2 ⟨rfl, hb⟩
    replace HLW := Lib.hid (HLW.out.below hb)
    replace HBT := Lib.hid (HBT.out.trans (But.of_below hb))
    clear hb H8
    cases hp : possD d with
    | false =>
      have EE := Lib.hid (E0.out (by simp [hp]))
      clear hp
      go_wp2
      refine bodyPost_ret (results_none rfl _ _ _) rfl ?_
      exact ⟨rfl, sl, fv, by rw [EE.out]; exact HLW.out, HBT.out, fun k hk => .inl hk⟩
    | true =>
      obtain ⟨sa, sc, hsl⟩ := own_shape HLW.out.out
      subst hsl
      have c1 := cell_of_row W2 (z + 1) 0 _ _ _ HLW.out.ho
      have c3 := cell_of_row W2 (z + 3) 0 _ _ _ HLW.out.hm
      obtain ⟨ca, ccap, hav, -⟩ := HLW.out.cms
      subst hav
      have c4 := cell_of_row W2 z 1 _ _ _ HLW.out.ha
      simp only [List.getElem?_toArray, List.getElem?_cons_zero, List.getElem?_cons_succ] at c1 c3 c4
      have l1 := lt_of_block HLW.out.ho
      have l3 := lt_of_block HLW.out.hm
      have l4 := lt_of_block HLW.out.ha
      by_cases hm : (outL.length : Int) ≤ m
      · have hm1 : decide (m < (outL.length : Int)) = false := decide_eq_false (by omega)
        have EE := Lib.hid (E1.out hp hm)
        have hq1 : ((q : Int) == cs.length) = true := by simp; omega
        clear hm E0 E1
        have HC1 : Hid (∀ w', But (fun k => k = z + 2 ∨ k = z + 3) W2 w' → w'.cell? ⟨z + 1, 0, none⟩ = some (.slice sa outL.length sc) ∧ z + 1 < w'.heap.size) := Lib.hid fun w' hS => by
          have y := (hS.block _ (lt_of_block HLW.out.ho) (by omega)).trans HLW.out.ho
          exact ⟨cell_of_row w' _ 0 _ _ _ y, lt_of_block y⟩
        go_wp2_with fail
        refine wp_region_noPanic ?_
        refine wp_region_acts (fun w' => But (fun k => k = z + 2 ∨ k = z + 3) W2 w') (fun _ _ h hb => h.trans (But.of_below hb)) (But.of_below (below_drawn _)) (by decide +kernel) (fun _ _ _ _ _ h => h)
          [.take 0, .take 2, .take 3, .call 1] [4, 5] (by decide +kernel) ?_
        clear c1 c3 c4 l1 l3 l4
        iterate 3
          (refine GWalk.takes rfl rfl ?_; apply Exists.intro; refine ⟨fun w' hS => ?_, ?_⟩; (obtain ⟨z1, z2⟩ := HC1.out w' hS; clear hS; go_simp; with_reducible rfl); simp only [List.getElem_toArray, List.getElem_cons_succ, List.getElem_cons_zero, Act.put, List.setIfInBounds_toArray, List.set_cons_zero, List.set_cons_succ])
        refine GWalk.calls rfl rfl ?_; apply Exists.intro; apply Exists.intro; refine ⟨fun w' hS => ?_, fun v1 hb hS hO => ?_⟩; (obtain ⟨z1, z2⟩ := HC1.out w' hS; clear hS; go_simp; exact ⟨rfl, rfl⟩)
        have hA1 := grow_to (below_drawn W2) hb
        refine (clone_any (z + 5) _ outL v1 (by omega) (row_kept HLW.out.out hA1)).mono ?_
        rintro e v2 ⟨⟨r, rfl, ho⟩, hb2⟩
        refine ⟨_, rfl, hb2, hS.trans (But.of_below hb2), ?_⟩
        simp only [List.getElem_toArray, List.getElem_cons_succ, List.getElem_cons_zero, Act.put, List.setIfInBounds_toArray, List.set_cons_zero, List.set_cons_succ]
        have hA2 := grow_to hA1 hb2
        have ho2 := ownsRow_mono hA1.size ho
        clear hb hS hO hb2 ho hA1
        refine GWalk.fin fun v3 hb5 hS5 => ?_
        have hA3 := grow_to hA2 hb5
        have ho3 := row_kept ho2 hb5
        clear hb5 hA2 ho2
        obtain ⟨ra, rc, rfl⟩ := own_shape ho3
        have hL3 := HLW.out.below hA3
        obtain ⟨hF, hFB⟩ := HLW.out.found hA3 ho3
        have k2 := cell_of_row v3 (z + 2) 0 _ _ _ hL3.hf
        have fz2 := frozen_of_row v3 (z + 2) 0 _ _ hL3.hf
        simp only [List.getElem?_toArray, List.getElem?_cons_zero, List.getElem?_cons_succ] at k2
        refine Tail.skip rfl rfl (exec_store_one 50 (.tmp 5) (.tmp 26) rfl rfl rfl k2 fz2 (by kernel_rfl)) (hS5.trans (But.setCell _ _ (.inl rfl))) ?_
        simp only [List.getElem_toArray, List.getElem_cons_succ, List.getElem_cons_zero, Act.put, List.setIfInBounds_toArray, List.set_cons_zero, List.set_cons_succ]
        have y3 := (heap_setCell_other v3 ⟨z + 2, 0, none⟩ (z + 3) (.slice ra outL.length rc) (by show z + 3 ≠ z + 2; omega)).trans hL3.hm
        have k3 := cell_of_row (v3.setCell ⟨z + 2, 0, none⟩ (.slice ra outL.length rc)) (z + 3) 0 _ _ _ y3
        have fz3 := frozen_of_row (v3.setCell ⟨z + 2, 0, none⟩ (.slice ra outL.length rc)) (z + 3) 0 _ _ y3
        simp only [List.getElem?_toArray, List.getElem?_cons_zero, List.getElem?_cons_succ] at k3
        refine Tail.skip rfl rfl (exec_store_int 3 (.tmp 3) (.tmp 28) rfl rfl rfl k3 fz3 (by kernel_rfl)) ((hS5.trans (But.setCell _ _ (.inl rfl))).trans (But.setCell _ _ (.inr rfl))) (Tail.done (NoPanic.normal ?_))
        simp only [List.getElem_toArray, List.getElem_cons_succ, List.getElem_cons_zero, Act.put, List.setIfInBounds_toArray, List.set_cons_zero, List.set_cons_succ]
        have HF := Lib.hid hF
        have HFB := Lib.hid (HBT.out.trans hFB)
        clear hF hFB k2 fz2 k3 fz3 y3 hL3 ho3 hA3 hS5
        go_wp2
        refine bodyPost_ret (results_none rfl _ _ _) rfl ?_
        exact ⟨rfl, _, _, by rw [EE.out]; exact HF.out, HFB.out, fun k hk => .inl hk⟩
      · have hm1 : decide (m < (outL.length : Int)) = true := decide_eq_true (by omega)
        have EE := Lib.hid (E0.out (fun h => hm h.2))
        clear hp hm
        go_wp2
        refine bodyPost_ret (results_none rfl _ _ _) rfl ?_
        exact ⟨rfl, _, fv, by rw [EE.out]; exact HLW.out, HBT.out, fun k hk => .inl hk⟩
  | cons c rest ih =>
    intro q d outL f m W sl fv hrest hq hcan hol hLW
    have hql : q < cs.length := by
      rcases Nat.lt_or_ge q cs.length with h | h
      · exact h
      · rw [List.drop_eq_nil_of_le h] at hrest
        cases hrest
    have hl12 := hA.len
    have hc1 : cm cs q = c ∧ rest = cs.drop (q + 1) := by
      have e := List.drop_eq_getElem_cons hql
      rw [e] at hrest
      cases hrest
      exact ⟨by simp [cm, hql], rfl⟩
    have HC := Lib.hid hc1
    have HIH := Lib.hid ih
    have HOK := Lib.hid hA
    have HCAN := Lib.hid hcan
    have HLW := Lib.hid (hLW.below (box_below W (.cells (mat d) 83)))
    have H8 := Lib.hid (heap_alloc_new W (.cells (mat d) 83))
    have HBT : Hid (But (TS z sl) W (W.alloc (.cells (mat d) 83))) := Lib.hid (But.of_below (box_below W (.cells (mat d) 83)))
    have HSL : Hid (∀ k, sl.ownBlock = some k → k < W.heap.size) := Lib.hid fun k hk => (own_lt hLW.out hk).2
    have HZ : Hid (z + 4 < W.heap.size) := Lib.hid (lt_of_block hLW.hl)
    have HNE : Hid (¬ TS z sl W.heap.size) := Lib.hid (by
      rintro (h | h | h | h)
      · have := HZ.out; omega
      · have := HZ.out; omega
      · have := HZ.out; omega
      · have := HSL.out _ h; omega)
    have E0 : Hid (¬ (possD d = true ∧ (outL.length : Int) ≤ m) → lookF (c :: rest) q d outL (f, m) = (f, m)) := Lib.hid fun h => look_stop h
    have E1 : Hid (possD d = true → (outL.length : Int) ≤ m → lookF (c :: rest) q d outL (f, m) = lookF rest (q + 1) d (outL ++ [(q : Int)]) (lookF rest (q + 1) (stepD d c) outL (f, m))) := Lib.hid fun h1 h2 => by
      conv => lhs; unfold lookF
      rw [if_pos ⟨h1, h2⟩]
    obtain ⟨ST, hST⟩ : ∃ st, st = lookF (c :: rest) q d outL (f, m) := ⟨_, rfl⟩
    rw [← hST] at E0 E1 ⊢
    clear ih hcan hLW hrest hc1 hST hA
    unfold pz
    go_enter Try.func85, Try.ntmps85
    go_wp2_with (first
      | (refine wpList_load_mat rfl (.tmp 8) rfl W.heap.size rfl 83 d H8.out ?_)
      | fail)
    generalize W.alloc _ = W1 at *
    refine (isPossible_any d W1).mono ?_
    rintro e W2 ⟨rfl, hb⟩
    replace HLW := Lib.hid (HLW.out.below hb)
    replace H8 := Lib.hid ((hb.block _ (lt_of_block H8.out)).trans H8.out)
    replace HBT := Lib.hid (HBT.out.trans (But.of_below hb))
    clear hb
    cases hp : possD d with
    | false =>
      have EE := Lib.hid (E0.out (by simp [hp]))
      clear hp
      go_wp2
      refine bodyPost_ret (results_none rfl _ _ _) rfl ?_
      exact ⟨rfl, sl, fv, by rw [EE.out]; exact HLW.out, HBT.out, fun k hk => .inl hk⟩
    | true =>
      obtain ⟨sa, sc, hsl⟩ := own_shape HLW.out.out
      subst hsl
      have c1 := cell_of_row W2 (z + 1) 0 _ _ _ HLW.out.ho
      have c3 := cell_of_row W2 (z + 3) 0 _ _ _ HLW.out.hm
      obtain ⟨ca, ccap, hav, hcp⟩ := HLW.out.cms
      subst hav
      have c4 := cell_of_row W2 z 1 _ _ _ HLW.out.ha
      simp only [List.getElem?_toArray, List.getElem?_cons_zero, List.getElem?_cons_succ] at c1 c3 c4
      have l1 := lt_of_block HLW.out.ho
      have l3 := lt_of_block HLW.out.hm
      have l4 := lt_of_block HLW.out.ha
      have HCP := Lib.hid hcp
      clear hcp
      by_cases hm : (outL.length : Int) ≤ m
      · have hm1 : decide (m < (outL.length : Int)) = false := decide_eq_false (by omega)
        have EE := Lib.hid (E1.out hp hm)
        have hq1 : ((q : Int) == cs.length) = false := by simp; omega
        have hwq : IntKind.i64.wrap ((q : Int) + 1) = (q : Int) + 1 := IntWalk.i64_in _ (by omega)
        have hqi : (q : Int) < cs.length := by omega
        obtain ⟨pre, hpre⟩ := HCAN.out hp
        have HPRE := Lib.hid hpre
        have HMID : Hid (Mid d) := Lib.hid fun i j hi hj => by have := hpre.bound hi hj; omega
        clear hpre hm E0 E1 HCAN
        go_wp2_with fail
        obtain ⟨rfl, hrest⟩ := HC.out
        have HOKC := Lib.hid (HOK.out.cm _ (cm_mem hql))
        obtain ⟨cb, coff, rfl, hcb, hcc⟩ := HCP.out (by omega)
        obtain ⟨d1, d2, d3, d4⟩ := hcc q hql
        have HCC : Hid (∀ w', But (TS z (.slice sa outL.length sc)) W2 w' → w'.heap[W.heap.size]? = some (.cells (mat d) 83 (0, 0)) ∧ w'.cell? ⟨z + 4, 0, none⟩ = some (closV z) ∧ w'.cell? ⟨z, 1, none⟩ = some (.slice (some ⟨cb, coff, none⟩) cs.length ccap) ∧ w'.cell? ⟨cb, coff + q * 4, none⟩ = some (.int .i64 (cm cs q).l) ∧ w'.cell? ⟨cb, coff + q * 4 + 1, none⟩ = some (.int .i64 (cm cs q).r) ∧ w'.cell? ⟨cb, coff + q * 4 + 2, none⟩ = some (.int .i64 (cm cs q).lo) ∧ w'.cell? ⟨cb, coff + q * 4 + 3, none⟩ = some (.int .i64 (cm cs q).hi) ∧ cb < w'.heap.size ∧ z < w'.heap.size ∧ z + 4 < w'.heap.size) := Lib.hid fun w' hS => by
          have nt : ∀ k, k < z + 5 → k ≠ z + 1 → k ≠ z + 2 → k ≠ z + 3 → ¬ TS z (.slice sa outL.length sc) k := fun k hk n1 n2 n3 h => by
            rcases h with h | h | h | h
            · exact n1 h
            · exact n2 h
            · exact n3 h
            · have := (own_lt HLW.out.out h).1
              omega
          have y1 := (hS.block _ (lt_of_block H8.out) HNE.out).trans H8.out
          have y2 := (hS.block _ (lt_of_block HLW.out.hl) (nt (z + 4) (by omega) (by omega) (by omega) (by omega))).trans HLW.out.hl
          have y3 := (hS.block _ (lt_of_block HLW.out.ha) (nt z (by omega) (by omega) (by omega) (by omega))).trans HLW.out.ha
          have hcn := nt cb (by omega) (by omega) (by omega) (by omega)
          exact ⟨y1, cell_of_row w' _ 0 _ _ _ y2, cell_of_row w' _ 1 _ _ _ y3, hS.cell hcn d1, hS.cell hcn d2, hS.cell hcn d3, hS.cell hcn d4, by have := lt_of_block y3; omega, lt_of_block y3, lt_of_block y2⟩
        clear c1 c3 c4 l1 l3 l4 hcb hcc d1 d2 d3 d4 hm1 hq1
        refine wp_region_noPanic ?_
        refine wp_region_last (fun w' => But (TS z (.slice sa outL.length sc)) W2 w') (fun _ _ h hb => h.trans (But.of_below hb)) (But.of_below (below_drawn _)) (by decide +kernel) (fun _ _ _ _ _ h => h)
          [(false, 0), (false, 1), (false, 2), (false, 3), (false, 4), (false, 5), (false, 6), (false, 7), (false, 8), (true, 9)] 10 (by decide +kernel) ?_
        iterate 3
          (refine Walk.takes rfl rfl ?_; apply Exists.intro; refine ⟨fun w' hS => ?_, ?_⟩; (obtain ⟨-, z2, z3, z4, z5, z6, z7, z8, z9, z10⟩ := HCC.out w' hS; clear hS; go_simp; with_reducible rfl); simp only [List.getElem_toArray, List.getElem_cons_succ, List.getElem_cons_zero, Act.put, List.setIfInBounds_toArray, List.set_cons_zero, List.set_cons_succ])
        refine Walk.takes rfl rfl ⟨_, fun w' hS => exec_load_mat (.tmp 8) rfl rfl (HCC.out w' hS).1, ?_⟩
        simp only [List.getElem_toArray, List.getElem_cons_succ, List.getElem_cons_zero, Act.put, List.setIfInBounds_toArray, List.set_cons_zero, List.set_cons_succ]
        iterate 5
          (refine Walk.takes rfl rfl ?_; apply Exists.intro; refine ⟨fun w' hS => ?_, ?_⟩; (obtain ⟨-, z2, z3, z4, z5, z6, z7, z8, z9, z10⟩ := HCC.out w' hS; clear hS; go_simp; with_reducible rfl); simp only [List.getElem_toArray, List.getElem_cons_succ, List.getElem_cons_zero, Act.put, List.setIfInBounds_toArray, List.set_cons_zero, List.set_cons_succ])
        refine Walk.calls rfl rfl ?_; apply Exists.intro; apply Exists.intro; refine ⟨fun w' hS => ?_, fun v1 hb => ?_⟩; (clear hS; go_simp; exact ⟨rfl, rfl⟩)
        refine (with_any n (cm cs q) d v1 HOK.out.n8 HOKC.out HMID.out).mono ?_
        rintro e v2 ⟨rfl, hb2⟩
        refine ⟨_, rfl, hb2, ?_⟩
        simp only [List.getElem_toArray, List.getElem_cons_succ, List.getElem_cons_zero, Act.put, List.setIfInBounds_toArray, List.set_cons_zero, List.set_cons_succ]
        have hA2 := grow_to (grow_to (below_drawn W2) hb) hb2
        clear hb hb2
        refine Walk.fin fun v3 hb3 hS3 => ?_
        have hA3 := grow_to hA2 hb3
        have hLW3 := HLW.out.below hA3
        clear hb3 hA2
        apply Exists.intro; apply Exists.intro; apply Exists.intro; refine ⟨rfl, rfl, (by go_simp; first | exact ⟨rfl, rfl⟩ | rfl), ?_⟩
        refine (HIH.out (q + 1) (stepD d (cm cs q)) outL f m v3 (.slice sa outL.length sc) fv hrest hql (fun hp2 => ⟨_, canon_step HPRE.out HOKC.out HOK.out.n8 hp2⟩) (by omega) hLW3).mono ?_
        rintro e w3 ⟨rfl, sl3, fv3, hL3, hB3, ho3⟩
        refine ⟨_, rfl, hS3.trans hB3, ?_⟩
        simp only [List.getElem_toArray, List.getElem_cons_succ, List.getElem_cons_zero, Act.put, List.setIfInBounds_toArray, List.set_cons_zero, List.set_cons_succ]
        refine NoPanic.normal ?_
        obtain ⟨ST1, hST1⟩ : ∃ st, st = lookF rest (q + 1) (stepD d (cm cs q)) outL (f, m) := ⟨_, rfl⟩
        rw [← hST1] at hL3 EE
        obtain ⟨sa3, sc3, hsl3⟩ := own_shape hL3.out
        subst hsl3
        have HL3 := Lib.hid hL3
        have HBT3 := Lib.hid ((HBT.out.trans (But.of_below hA3)).trans hB3)
        have H83 := Lib.hid ((hB3.block _ (lt_of_block ((hA3.block _ (lt_of_block H8.out)).trans H8.out)) HNE.out).trans ((hA3.block _ (lt_of_block H8.out)).trans H8.out))
        have HO3 : Hid (∀ k, (Value.slice sa3 outL.length sc3).ownBlock = some k → (Value.slice sa outL.length sc).ownBlock = some k ∨ W.heap.size < k) := Lib.hid fun k hk => (ho3 k hk).imp id fun h => by
          have := lt_of_block ((hA3.block _ (lt_of_block H8.out)).trans H8.out)
          omega
        have HWL : Hid (W.heap.size < w3.heap.size) := Lib.hid (lt_of_block H83.out)
        have HREST := Lib.hid hrest
        clear hL3 hB3 ho3 hS3 hA3 hLW3 HCC HLW H8 HBT hST1 hrest
        have c1 := cell_of_row w3 (z + 1) 0 _ _ _ HL3.out.ho
        simp only [List.getElem?_toArray, List.getElem?_cons_zero, List.getElem?_cons_succ] at c1
        have l1 := lt_of_block HL3.out.ho
        have hb5 : z + 5 ≤ w3.heap.size := lt_of_block HL3.out.hl
        go_wp2_with (first
          | (refine wpList_app el50 rfl (.tmp 40) (.tmp 42) rfl (z + 5) outL.length _ _ #[.int .i64 q] rfl (by intro u hu; simp at hu; rcases hu with rfl; rfl) rfl rfl HL3.out.out hb5 (by omega) ?_
             intro g c w4 hown hgr hgo
             have y1 := (hgr.below.block (z + 1) (by omega)).trans HL3.out.ho
             have c7 := cell_of_row w4 (z + 1) 0 _ _ _ y1
             have f7 := frozen_of_row w4 (z + 1) 0 _ _ y1
             simp only [List.getElem?_toArray, List.getElem?_cons_zero, List.getElem?_cons_succ] at c7
             have l7 := lt_of_block y1
             have y2 := (hgr.below.block (z + 4) (by omega)).trans HL3.out.hl
             have c8 := cell_of_row w4 (z + 4) 0 _ _ _ y2
             simp only [List.getElem?_toArray, List.getElem?_cons_zero, List.getElem?_cons_succ, closV, pz] at c8
             have l8 := lt_of_block y2
             have n8 : ¬ z + 4 = z + 1 := by omega
             have n9 : z + 4 ≠ z + 1 := by omega
             obtain ⟨hLP, hBP⟩ := HL3.out.push hown hgr hgo
             have HLP := Lib.hid hLP
             have HGO := Lib.hid hgo
             have H84 := Lib.hid ((hBP.block _ HWL.out (by
               rintro (h | h | h | h)
               · have := HZ.out; omega
               · have := HZ.out; omega
               · have := HZ.out; omega
               · rcases HO3.out _ h with h2 | h2
                 · exact HNE.out (.inr (.inr (.inr h2)))
                 · exact Nat.lt_irrefl _ h2)).trans H83.out)
             have HBP := Lib.hid hBP
             clear y1 y2 hown hgr hgo hLP hBP c1 l1
             skip)
          | (refine wpList_load_mat rfl (.tmp 8) rfl W.heap.size rfl 83 d H84.out ?_)
          | fail)
        clear c7 f7 l7 c8 l8 n8 n9
        refine (HIH.out (q + 1) d (outL ++ [(q : Int)]) ST1.1 ST1.2 _ (.slice (some ⟨g, 0, none⟩) (outL.length + 1) c) fv3 HREST.out hql (fun _ => ⟨_, HPRE.out⟩) (by simp; omega) HLP.out).mono ?_
        rintro e w6 ⟨rfl, sl6, fv6, hL6, hB6, ho6⟩
        rw [show (ST1.1, ST1.2) = ST1 from rfl, ← EE.out] at hL6
        obtain ⟨sa6, sc6, hsl6⟩ := own_shape hL6.out
        subst hsl6
        have hcap := own_cap hL6.out
        have hlen : (outL ++ [(q : Int)]).length = outL.length + 1 := by simp
        rw [hlen] at hL6 hcap ho6
        have HL6 := Lib.hid hL6
        have HB6 := Lib.hid ((HBT3.out.step HBP.out (fun i hi h => by
          rcases h with h | h | h | h
          · exact .inl h
          · exact .inr (.inl h)
          · exact .inr (.inr (.inl h))
          · rcases HO3.out _ h with h2 | h2
            · exact .inr (.inr (.inr h2))
            · omega)).step hB6 (fun i hi h => by
          rcases h with h | h | h | h
          · exact .inl h
          · exact .inr (.inl h)
          · exact .inr (.inr (.inl h))
          · simp only [Value.ownBlock, Option.some.injEq] at h
            subst h
            rcases HGO.out with h2 | h2
            · rcases HO3.out _ h2 with h3 | h3
              · exact .inr (.inr (.inr h3))
              · omega
            · have := HWL.out
              omega))
        have HO6 : Hid (∀ k, (Value.slice sa6 (outL.length + 1) sc6).ownBlock = some k → (Value.slice sa outL.length sc).ownBlock = some k ∨ W.heap.size ≤ k) := Lib.hid fun k hk => by
          rcases ho6 k hk with h | h
          · simp only [Value.ownBlock, Option.some.injEq] at h
            subst h
            rcases HGO.out with h2 | h2
            · exact (HO3.out _ h2).imp id Nat.le_of_lt
            · have := HWL.out
              exact .inr (by omega)
          · have := HBP.out.size
            have := HWL.out
            exact .inr (by omega)
        clear hL6 hB6 ho6 hlen
        have c1 := cell_of_row w6 (z + 1) 0 _ _ _ HL6.out.ho
        have f1 := frozen_of_row w6 (z + 1) 0 _ _ HL6.out.ho
        simp only [List.getElem?_toArray, List.getElem?_cons_zero, List.getElem?_cons_succ] at c1
        have l1 := lt_of_block HL6.out.ho
        have hw6 : IntKind.i64.wrap (outL.length : Int) = outL.length := IntWalk.i64_in _ (by omega)
        have hc6 : outL.length ≤ sc6 := by omega
        have hc7 : (outL.length : Int) ≤ sc6 := by omega
        go_wp2
        go_end0
        exact ⟨rfl, _, fv6, HL6.out.pop, HB6.out.trans (But.setCell _ _ (.inl rfl)), fun k hk => HO6.out k (by
          cases sa6 with
          | none => simp [Value.ownBlock] at hk
          | some x => simpa [Value.ownBlock] using hk)⟩
      · have hm1 : decide (m < (outL.length : Int)) = true := decide_eq_true (by omega)
        have EE := Lib.hid (E0.out (fun h => hm h.2))
        clear hp hm
        go_wp2
        refine bodyPost_ret (results_none rfl _ _ _) rfl ?_
        exact ⟨rfl, _, fv, by rw [EE.out]; exact HLW.out, HBT.out, fun k hk => .inl hk⟩
end Go.Proofs.Ytplmlmmjfkbabaa
