/- A round is copied for the program: contract. Condition: the round is valid. -/
import Derived.Test.YtpdkgnfblnblbaaLC
import Derived.Test.YtpdkgnfblnblbaaWT
namespace Go.Proofs.Ytpdkgnfblnblbaa
open Go.RowKit Go.Shelf
attribute [local irreducible] arrV wpQuiet
theorem own_cap8 {w : World} {base e sz n cap : Nat} {a : Option Addr} {xs : List Value} (h : w.ownsRow base e sz (.slice a n cap) n xs) : n ≤ cap := by
  rcases h.2 with ⟨hv, h0⟩ | ⟨g, cap', cur, hv, hbg, hg, hr⟩
  · cases hv; omega
  · cases hv; exact hr.1
theorem take_rg {l : List Rg} {q : Nat} (h : q < l.length) : l.take (q + 1) = l.take q ++ [rg l q] := by
  rw [List.take_succ_eq_append_getElem h]
  simp [rg, h]
/-- The row of laboratories, each with readings of its own. -/
def LabRow (base : Nat) (w : World) (rs : List Lb) (q : Nat) (xs : List Value) : Prop :=
  xs.length = q * 2 ∧ ∀ i, i < q → ∃ sv, xs[i * 2]? = some (.int .i64 (lb rs i).tol) ∧ xs[i * 2 + 1]? = some sv ∧ w.ownsRow base 3 1 sv (lb rs i).rs.length ((lb rs i).rs.map iV)
theorem LabRow.same {base : Nat} {w w' : World} {rs : List Lb} {q : Nat} {xs : List Value} (h : LabRow base w rs q xs) (hb : ∀ (k : Nat) (cur : Array Value), w.heap[k]? = some (.cells cur 3 (0, 0)) → w'.heap[k]? = w.heap[k]?) : LabRow base w' rs q xs :=
  ⟨h.1, fun i hi => by
    obtain ⟨sv, h1, h2, h4⟩ := h.2 i hi
    exact ⟨sv, h1, h2, row_same h4 hb⟩⟩
theorem LabRow.snoc {base : Nat} {w : World} {rs : List Lb} {q : Nat} {xs : List Value} {sv : Value} (h : LabRow base w rs q xs) (ho : w.ownsRow base 3 1 sv (lb rs q).rs.length ((lb rs q).rs.map iV)) :
    LabRow base w rs (q + 1) (xs ++ [.int .i64 (lb rs q).tol, sv]) := by
  have hl := h.1
  refine ⟨by simp [hl]; omega, fun i hi => ?_⟩
  by_cases e : i = q
  · subst e
    refine ⟨sv, ?_, ?_, ho⟩
    · rw [List.getElem?_append_right (by omega)]; simp [hl]
    · rw [List.getElem?_append_right (by omega)]; simp [hl]
  · obtain ⟨sv', h1, h2, h4⟩ := h.2 i (by omega)
    exact ⟨sv', (List.getElem?_append_left (by omega)).trans h1, (List.getElem?_append_left (by omega)).trans h2, h4⟩
theorem LabRow.labs {base : Nat} {w : World} {rs : List Lb} {v : Value} {xs : List Value} (h : LabRow base w rs rs.length xs) (ho : w.ownsRow base 60 2 v rs.length xs) : LabsV w.heap.size w v rs := by
  cases Nat.eq_zero_or_pos rs.length with
  | inl h0 =>
    rw [h0] at ho
    obtain ⟨a, cap, rfl⟩ := own_nil ho
    exact ⟨a, cap, by rw [h0], fun hp => by omega⟩
  | inr h0 =>
    obtain ⟨g, cap, rfl, hb, hg, hc⟩ := own_get ho h0
    refine ⟨_, cap, rfl, fun _ => ⟨g, 0, rfl, hg, fun i hi => ?_⟩⟩
    obtain ⟨sv, f1, f2, f4⟩ := h.2 i hi
    rw [Nat.zero_add]
    exact ⟨(hc _ (by omega)).trans f1, sv, (hc _ (by omega)).trans f2, own_ints f4⟩
/-- A row is left by a write into a block of another kind. -/
theorem put_tag {w w' : World} {g e' : Nat} {cs : Array Value} (hp : Put g w w') (hg : w.heap[g]? = some (.cells cs e' (0, 0))) {e : Nat} (he : e ≠ e') (k : Nat) (cur : Array Value) (hk : w.heap[k]? = some (.cells cur e (0, 0))) : w'.heap[k]? = w.heap[k]? :=
  hp.other k fun h => he (by subst h; exact tags_differ hk hg)

set_option maxRecDepth 100000 in
set_option maxHeartbeats 4000000 in
theorem Round_any (n : Nat) (p : Rp) (R : Rd) (w : World) (hR : RdOk R) (hV : RdV n w p R) (hn : n ≤ w.heap.size) :
    Calls Try.prog 20 #[rdV p R] w fun e w' => (∃ q : Rp, e = .returned (rdV q R) ∧ RdV w'.heap.size w' q R ∧ R.labs.length ≤ q.bc) ∧ Below w.heap.size w w' := by
  have HLS := Lib.hid fun w' (h : Below w.heap.size w w') => list_any n (smpV p R) R.smp w' (by have := hR.s8; omega) (hV.smp.same (.below hn h)) (Nat.le_trans hn h.size)
  have HLR := Lib.hid fun k (hk : k < R.labs.length) v w' (hv : IntsV n w v (lb R.labs k).rs) (h : Below w.heap.size w w') => list_any n v (lb R.labs k).rs w' (by have := hR.len _ (lb_mem hk); have := hR.s8; omega) (hv.same (.below hn h)) (Nat.le_trans hn h.size)
  obtain ⟨h1, h2, h3⟩ := hV
  obtain ⟨pla, plc, psa, psc, pba, pbc⟩ := p
  obtain ⟨xa, xc, e, hL⟩ := h1
  unfold lotsV at e
  obtain ⟨rfl, -, rfl⟩ : pla = xa ∧ True ∧ plc = xc := by cases e; exact ⟨rfl, trivial, rfl⟩
  clear e
  obtain ⟨za, zc, e, hB⟩ := h3
  unfold labsV at e
  obtain ⟨rfl, -, rfl⟩ : pba = za ∧ True ∧ pbc = zc := by cases e; exact ⟨rfl, trivial, rfl⟩
  clear e h2
  have HL := Lib.hid hL
  have HBL := Lib.hid hB
  have HN := Lib.hid hn
  have h4 := hR.l4
  have h6 := hR.k6
  have HX := Lib.hid (box2 w (.cells #[.slice pla R.lots.length plc, .slice psa R.smp.length psc, .int .i64 R.sp, .slice pba R.labs.length pbc] 26) (.cells #[.slice none 0 0, .slice none 0 0, .int .i64 0, .slice none 0 0] 34))
  have HB := Lib.hid (below2 w (.cells #[.slice pla R.lots.length plc, .slice psa R.smp.length psc, .int .i64 R.sp, .slice pba R.labs.length pbc] 26) (.cells #[.slice none 0 0, .slice none 0 0, .int .i64 0, .slice none 0 0] 34))
  have hWz : ((w.alloc (.cells #[.slice pla R.lots.length plc, .slice psa R.smp.length psc, .int .i64 R.sp, .slice pba R.labs.length pbc] 26)).alloc (.cells #[.slice none 0 0, .slice none 0 0, .int .i64 0, .slice none 0 0] 34)).heap.size = w.heap.size + 2 := by simp
  clear hL hB hn hR
  unfold rdV smpV at *
  go_enter Try.func20, Try.ntmps20
  go_wp2_with fail
  generalize World.alloc (World.alloc w _) _ = W at *
  have HC : Hid (∀ w', Below W.heap.size W w' → w'.cell? ⟨w.heap.size, 1, none⟩ = some (.slice psa R.smp.length psc) ∧ w'.cell? ⟨w.heap.size, 2, none⟩ = some (.int .i64 R.sp) ∧ w.heap.size < w'.heap.size) := Lib.hid fun w' hS => by
    have hx := (hS.block _ (lt_of_block HX.out.1)).trans HX.out.1
    exact ⟨cell_of_row w' _ 1 _ _ _ hx, cell_of_row w' _ 2 _ _ _ hx, lt_of_block hx⟩
  refine wp_region_noPanic (wp_region_acts (fun w' => Below W.heap.size W w') (fun _ _ h hb => grow_to h hb) (below_drawn _) (by decide +kernel) (fun _ _ _ _ _ h => h)
    [.take 0, .take 1, .take 3, .take 4, .float 6, .call 2, .take 5, .join] [7] (by decide +kernel) ?_)
  iterate 4
    (refine GWalk.takes rfl rfl ?_; apply Exists.intro; refine ⟨fun w' hS => ?_, ?_⟩; (obtain ⟨z1, z2, z3⟩ := HC.out w' hS; clear hS; go_simp; with_reducible rfl); simp only [List.getElem_toArray, List.getElem_cons_succ, List.getElem_cons_zero, Act.put, List.setIfInBounds_toArray, List.set_cons_zero, List.set_cons_succ])
  refine GWalk.floats (.cells #[.slice none 0 0, .slice none 0 0, .int .i64 0, .slice none 0 0] 34) (fun b => .pointer (some ⟨b, 0, none⟩)) rfl rfl rfl (fun w1 => by kernel_rfl) ?_
  simp only [List.nil_append, List.cons_append]
  refine GWalk.calls rfl rfl ?_; apply Exists.intro; apply Exists.intro; refine ⟨fun w' hS => ?_, fun v1 hb hS hO => ?_⟩; (clear hS; go_simp; exact ⟨rfl, rfl⟩)
  refine (HLS.out v1 (below_to HB.out hS)).mono ?_
  rintro e v2 ⟨⟨rv, rfl, ho⟩, hb2⟩
  refine ⟨_, rfl, hb2, grow_to hS hb2, ?_⟩
  obtain ⟨ra, rc, rfl⟩ := own_shape ho
  simp only [List.getElem_toArray, List.getElem_cons_succ, List.getElem_cons_zero, Act.put, List.setIfInBounds_toArray, List.set_cons_zero, List.set_cons_succ]
  have hS2 := grow_to hS hb2
  have ho2 := ownsRow_mono (b' := w.heap.size + 2) (by have := hS.size; omega) ho
  clear hb hb2 hS hO ho
  refine GWalk.takes rfl rfl ?_; apply Exists.intro; refine ⟨fun w' hS => ?_, ?_⟩; (clear hS; go_simp; with_reducible rfl); simp only [List.getElem_toArray, List.getElem_cons_succ, List.getElem_cons_zero, Act.put, List.setIfInBounds_toArray, List.set_cons_zero, List.set_cons_succ]
  refine GWalk.joins fun v3 bo hb hj1 hj2 hj3 hj4 => ?_
  simp only [List.getElem_toArray, List.getElem_cons_succ, List.getElem_cons_zero, Act.put, List.setIfInBounds_toArray, List.set_cons_zero, List.set_cons_succ]
  have hS3 := grow_to hS2 hb
  have ho3 := row_kept ho2 hb
  clear hb hS2 ho2
  refine GWalk.fin fun v4 hb4 hS4 => ?_
  have hx4 := (hb4.block _ (lt_of_block hj4)).trans hj4
  have ho4 := row_kept ho3 hb4
  have hp5 := put_cells bo 0 (#[.slice none 0 0, .slice ra R.smp.length rc, .int .i64 R.sp, .slice none 0 0] : Array Value).toList v4
  have hx5 := set_whole bo 34 v4 #[.slice none 0 0, .slice none 0 0, .int .i64 0, .slice none 0 0] #[.slice none 0 0, .slice ra R.smp.length rc, .int .i64 R.sp, .slice none 0 0] rfl hx4
  refine Tail.skip rfl rfl (exec_store_row 34 (.tmp 3) (.tmp 11) rfl bo 0 #[.slice none 0 0, .slice ra R.smp.length rc, .int .i64 R.sp, .slice none 0 0] rfl rfl (there_block hx4 (by simp)) (by kernel_rfl) (by simp [Value.oneCell'])) (hp5.below hS4 hj1) ?_
  refine Tail.done (NoPanic.normal ?_)
  simp only [List.getElem_toArray, List.getElem_cons_succ, List.getElem_cons_zero, Act.put, List.setIfInBounds_toArray, List.set_cons_zero, List.set_cons_succ]
  have ho5 := row_same ho4 (put_tag hp5 hx4 (e := 3) (by decide))
  have hS5 := hp5.below hS4 hj1
  generalize World.setCells v4 _ _ _ = W1 at *
  have HXA := Lib.hid ((hS5.block _ (lt_of_block HX.out.1)).trans HX.out.1)
  have HXB := Lib.hid ((hS5.block _ (lt_of_block HX.out.2)).trans HX.out.2)
  have HXO := Lib.hid hx5
  have HSO := Lib.hid ho5
  have HB1 := Lib.hid (below_to HB.out hS5)
  have hbo : w.heap.size + 2 ≤ bo := by omega
  clear hS5 ho5 hp5 hx5 hx4 ho4 hb4 hS4 hS3 ho3 hj1 hj2 hj3 hj4 HC HX HB HLS hWz
  go_wp2
  go_loopw [4] (fun i wr => ∃ (q : Nat) (s : Value), q ≤ R.lots.length ∧ i = .int .i64 q ∧ Hid (wr.heap[w.heap.size]? = some (.cells #[.slice pla R.lots.length plc, .slice psa R.smp.length psc, .int .i64 R.sp, .slice pba R.labs.length pbc] 26 (0, 0))) ∧ Hid (wr.heap[w.heap.size + 1]? = some (.cells #[.slice none 0 0, .slice none 0 0, .int .i64 0, .slice none 0 0] 34 (0, 0))) ∧ Hid (wr.heap[bo]? = some (.cells #[s, .slice ra R.smp.length rc, .int .i64 R.sp, .slice none 0 0] 34 (0, 0))) ∧ Hid (wr.ownsRow (w.heap.size + 2) 46 2 s q (flatR (R.lots.take q))) ∧ Hid (wr.ownsRow (w.heap.size + 2) 3 1 (.slice ra R.smp.length rc) R.smp.length (R.smp.map iV)) ∧ Hid (Below w.heap.size w wr)) (fun i _ => R.lots.length - (intOf i).toNat)
  case atStart => exact ⟨0, .slice none 0 0, Nat.zero_le _, rfl, HXA, HXB, HXO, Lib.hid (World.ownsRow_nil _ _ _ _), HSO, HB1⟩
  case round =>
    clear HXA HXB HXO HSO HB1
    obtain ⟨q, s, hq, rfl, HXA, HXB, HXO, HLO, HSO, HB⟩ := hrel
    have a0 := cell_of_row wr w.heap.size 0 _ _ _ HXA.out
    have a1 := cell_of_row wr w.heap.size 1 _ _ _ HXA.out
    have a2 := cell_of_row wr w.heap.size 2 _ _ _ HXA.out
    have a3 := cell_of_row wr w.heap.size 3 _ _ _ HXA.out
    simp only [List.getElem?_toArray, List.getElem?_cons_zero, List.getElem?_cons_succ] at a0 a1 a2 a3
    have la := lt_of_block HXA.out
    by_cases hlt : q < R.lots.length
    · have hqn : (q : Int) < R.lots.length := by omega
      have hwk : IntKind.i64.wrap ((q : Int) + 1) = (q : Int) + 1 := IntWalk.i64_in _ (by omega)
      obtain ⟨b, off, rfl, hbn, hc⟩ := HL.out (by omega)
      have hnn := HN.out
      have p1 := (HB.out.cell (p := ⟨b, off + q * 2, none⟩) (show b < w.heap.size by omega)).trans (hc q hlt).1
      have p2 := (HB.out.cell (p := ⟨b, off + q * 2 + 1, none⟩) (show b < w.heap.size by omega)).trans (hc q hlt).2
      have HTK := Lib.hid (take_rg hlt)
      obtain ⟨sa, sc, rfl⟩ := own_shape HLO.out
      generalize (rg R.lots q) = g at *
      obtain ⟨lo, hi⟩ := g
      simp only at p1 p2
      have lb' := block_lt_of_cell p1
      have hbw : b < w.heap.size := by omega
      clear hc hbn
      go_wp2_with fail
      have hsb : ∀ k, (Value.slice sa q sc).ownBlock = some k → w.heap.size + 2 ≤ k ∧ k < wr.heap.size := fun k hk => own_lt HLO.out hk
      have hsb2 : ∀ k, (Value.slice sa q sc).ownBlock = some k → k ≠ bo := fun k hk e => by
        obtain ⟨cur, hc⟩ := own_tag HLO.out hk
        rw [e] at hc
        exact absurd (tags_differ hc HXO.out) (by decide)
      have lp2 := block_lt_of_cell p2
      have HC : Hid (∀ w', But (fun k => (Value.slice sa q sc).ownBlock = some k) wr w' → w'.cell? ⟨bo, 0, none⟩ = some (.slice sa q sc) ∧ w'.cell? ⟨w.heap.size, 0, none⟩ = some (.slice (some ⟨b, off, none⟩) R.lots.length plc) ∧ w'.cell? ⟨b, off + q * 2, none⟩ = some (.int .i64 lo) ∧ w'.cell? ⟨b, off + q * 2 + 1, none⟩ = some (.int .i64 hi) ∧ w.heap.size < w'.heap.size ∧ b < w'.heap.size ∧ bo < w'.heap.size) := Lib.hid fun w' hS => by
        have hxo := (hS.block _ (lt_of_block HXO.out) (fun e => hsb2 _ e rfl)).trans HXO.out
        have hxa := (hS.block _ la (fun e => by have := hsb _ e; omega)).trans HXA.out
        have hbb := hS.block b lb' (fun e => by have := hsb _ e; omega)
        exact ⟨cell_of_row w' _ 0 _ _ _ hxo, cell_of_row w' _ 0 _ _ _ hxa, (World.cell?_of_block (w := wr) hbb).trans p1, (World.cell?_of_block (w := wr) hbb).trans p2, lt_of_block hxa, Nat.lt_of_lt_of_le lb' hS.size, lt_of_block hxo⟩
      refine wp_region_noPanic ?_
      refine wp_region_walkT (fun w' => But (fun k => (Value.slice sa q sc).ownBlock = some k) wr w') 18 [(0, 0), (0, 1), (0, 2), (0, 3), (0, 4), (0, 5), (0, 6), (0, 7), (0, 8), (0, 9), (0, 10), (0, 11), (0, 12), (0, 13), (0, 14), (2, 15), (2, 16), (0, 17)] (But.of_below (below_drawn _)) (by decide +kernel) (fun _ _ _ _ _ h => h) (by decide +kernel) ?_
      iterate 15
        (refine WalkT.takes rfl rfl ?_; apply Exists.intro; refine ⟨fun w' hS => ?_, ?_⟩; (obtain ⟨z1, z2, z3, z4, z5, z6, z7⟩ := HC.out w' hS; clear hS; go_simp; with_reducible rfl); simp only [List.getElem_toArray, List.getElem_cons_succ, List.getElem_cons_zero, Act.put, List.setIfInBounds_toArray, List.set_cons_zero, List.set_cons_succ])
      obtain ⟨wd, hwd⟩ : ∃ wd, wd = { wr with drawn := wr.drawn + 1 } := ⟨_, rfl⟩
      rw [← hwd]
      have hbd : Below wr.heap.size wr wd := by rw [hwd]; exact below_drawn wr
      clear hwd
      have hba := box_below wd (.cells #[.int .i64 lo, .int .i64 hi] 46)
      have hb2 : Below wr.heap.size wr (wd.alloc (.cells #[.int .i64 lo, .int .i64 hi] 46)) := grow_to hbd hba
      refine WalkT.acts rfl rfl (exec_buildSlice 31 46 1 _ rfl el31.u #[.int .i64 lo, .int .i64 hi] (by kernel_rfl)) (But.of_below hb2) ?_
      simp only [List.getElem_toArray, List.getElem_cons_succ, List.getElem_cons_zero, Act.put, List.setIfInBounds_toArray, List.set_cons_zero, List.set_cons_succ]
      have hlo2 := row_kept HLO.out hb2
      have hx2 := heap_alloc_new wd (.cells #[.int .i64 lo, .int .i64 hi] 46)
      obtain ⟨s2, w2, hr2, ho2, hbb2, -, -, hg2⟩ := act_app2 el31 (w.heap.size + 2) q (.slice sa q sc) (flatR (R.lots.take q)) (some ⟨wd.heap.size, 0, none⟩) 1 1 [.int .i64 lo, .int .i64 hi] (wd.alloc (.cells #[.int .i64 lo, .int .i64 hi] 46)) (fun k => (Value.slice sa q sc).ownBlock = some k) 31 (by unfold maxLen; omega) (by omega) hlo2 (by have := hb2.size; have := HB.out.size; have := lt_of_block HXO.out; omega) rfl (by simp) (fun _ => ⟨_, 0, rfl, fun j u hj => by
        rw [Nat.zero_add]
        have hj2 : j < 2 := by
          have := (List.getElem?_eq_some_iff.1 hj).1
          simpa using this
        rcases j with _ | _ | j
        · exact (cell_of_row _ _ 0 _ _ _ hx2).trans (by simpa using hj)
        · exact (cell_of_row _ _ 1 _ _ _ hx2).trans (by simpa using hj)
        · omega⟩) (by simp [Value.oneCell']) (fun k h => h) (fun k h => (own_lt hlo2 h).2)
      have hbt2 : But (fun k => (Value.slice sa q sc).ownBlock = some k) wr w2 := (But.of_below hb2).trans ⟨hg2.os, hg2.tape, hg2.output, hg2.size, fun k hk hn => hg2.block k hk fun e => hn e.symm⟩
      refine WalkT.acts rfl rfl (exec_append (.tmp 20) (.tmp 34) rfl rfl rfl hr2) hbt2 ?_
      simp only [List.getElem_toArray, List.getElem_cons_succ, List.getElem_cons_zero, Act.put, List.setIfInBounds_toArray, List.set_cons_zero, List.set_cons_succ]
      refine WalkT.takes rfl rfl ?_; apply Exists.intro; refine ⟨fun w' hS => ?_, ?_⟩; (obtain ⟨z1, z2, z3, z4, z5, z6, z7⟩ := HC.out w' hS; clear hS; go_simp; with_reducible rfl); simp only [List.getElem_toArray, List.getElem_cons_succ, List.getElem_cons_zero, Act.put, List.setIfInBounds_toArray, List.set_cons_zero, List.set_cons_succ]
      refine WalkT.fin ?_
      simp only [List.drop_succ_cons, List.drop_zero]
      obtain ⟨ta, tc, rfl⟩ := own_shape ho2
      have hxo2 := (hbt2.block _ (lt_of_block HXO.out) (fun e => hsb2 _ e rfl)).trans HXO.out
      refine wpList_skip rfl (exec_store_one 31 (.tmp 36) (.tmp 35) rfl rfl rfl (cell_of_row w2 bo 0 _ _ _ hxo2) (frozen_of_row w2 bo 0 _ _ hxo2) (by kernel_rfl)) ?_
      simp only [List.getElem_toArray, List.getElem_cons_succ, List.getElem_cons_zero, Act.put, List.setIfInBounds_toArray, List.set_cons_zero, List.set_cons_succ]
      simp only [wpList]
      refine NoPanic.normal ?_
      have hp5 := put_cell bo 0 (.slice ta (q + 1) tc) w2
      have HXO5 := Lib.hid (heap_setCell_same w2 bo 0 _ 34 (.slice ta (q + 1) tc) hxo2)
      have HXA5 := Lib.hid ((hp5.other w.heap.size (by omega)).trans ((hbt2.block _ la (fun e => by have := hsb _ e; omega)).trans HXA.out))
      have HXB5 := Lib.hid ((hp5.other (w.heap.size + 1) (by omega)).trans ((hbt2.block _ (lt_of_block HXB.out) (fun e => by have := hsb _ e; omega)).trans HXB.out))
      have HLO5 := Lib.hid (row_same ho2 (put_tag hp5 hxo2 (e := 46) (by decide)))
      have HSO5 := Lib.hid (row_same (row_same HSO.out fun k cur hk => hbt2.block k (lt_of_block hk) fun e => by
        obtain ⟨cur', h'⟩ := own_tag HLO.out e
        exact absurd (tags_differ hk h') (by decide)) (put_tag hp5 hxo2 (e := 3) (by decide)))
      have HB5 : Hid (Below w.heap.size w (w2.setCell ⟨bo, 0, none⟩ (.slice ta (q + 1) tc))) := Lib.hid ((hp5.but ((But.of_below HB.out : But (fun k => (Value.slice sa q sc).ownBlock = some k) w wr).trans hbt2) (.inr (by omega))).below fun k hk ht => by have := hsb _ ht; omega)
      generalize World.setCell w2 _ _ = w3 at *
      clear hp5 hxo2 hbt2 hr2 ho2 hbb2 hg2 hx2 hlo2 hb2 hba hbd HC hsb hsb2 HXA HXB HXO HLO HSO HB a0 a1 a2 a3 la p1 p2 lb' lp2
      go_wp2
      go_roundw
      case rel =>
        refine ⟨q + 1, _, by omega, by simp, HXA5, HXB5, HXO5, Lib.hid ?_, HSO5, HB5⟩
        rw [HTK.out, flatR_snoc]
        exact HLO5.out
      case measure => simp [intOf]; omega
    · obtain rfl : q = R.lots.length := by omega
      rw [List.take_length] at HLO
      obtain ⟨sa, sc, rfl⟩ := own_shape HLO.out
      have HXA1 := HXA
      have HXB1 := HXB
      have HXO1 := HXO
      have HLO1 := HLO
      have HSO1 := HSO
      have HB1 := HB
      clear HXA HXB HXO HLO HSO HB hq hlt
      go_wp2
      go_loopw [5] (fun i wr => ∃ (q : Nat) (s : Value) (xs : List Value), q ≤ R.labs.length ∧ i = .int .i64 q ∧ Hid (wr.heap[w.heap.size]? = some (.cells #[.slice pla R.lots.length plc, .slice psa R.smp.length psc, .int .i64 R.sp, .slice pba R.labs.length pbc] 26 (0, 0))) ∧ Hid (wr.heap[w.heap.size + 1]? = some (.cells #[.slice none 0 0, .slice none 0 0, .int .i64 0, .slice none 0 0] 34 (0, 0))) ∧ Hid (wr.heap[bo]? = some (.cells #[.slice sa R.lots.length sc, .slice ra R.smp.length rc, .int .i64 R.sp, s] 34 (0, 0))) ∧ Hid (wr.ownsRow (w.heap.size + 2) 60 2 s q xs) ∧ Hid (LabRow (w.heap.size + 2) wr R.labs q xs) ∧ Hid (wr.ownsRow (w.heap.size + 2) 46 2 (.slice sa R.lots.length sc) R.lots.length (flatR R.lots)) ∧ Hid (wr.ownsRow (w.heap.size + 2) 3 1 (.slice ra R.smp.length rc) R.smp.length (R.smp.map iV)) ∧ Hid (Below w.heap.size w wr)) (fun i _ => R.labs.length - (intOf i).toNat)
      case atStart => exact ⟨0, .slice none 0 0, [], Nat.zero_le _, rfl, HXA1, HXB1, HXO1, Lib.hid (World.ownsRow_nil _ _ _ _), Lib.hid ⟨rfl, fun i hi => by omega⟩, HLO1, HSO1, HB1⟩
      case round =>
        clear HXA1 HXB1 HXO1 HLO1 HSO1 HB1 a0 a1 a2 a3 la
        obtain ⟨q, s, xs, hq, rfl, HXA, HXB, HXO, HLA, HRW, HLO, HSO, HB⟩ := hrel
        have a0 := cell_of_row wr w.heap.size 0 _ _ _ HXA.out
        have a1 := cell_of_row wr w.heap.size 1 _ _ _ HXA.out
        have a2 := cell_of_row wr w.heap.size 2 _ _ _ HXA.out
        have a3 := cell_of_row wr w.heap.size 3 _ _ _ HXA.out
        simp only [List.getElem?_toArray, List.getElem?_cons_zero, List.getElem?_cons_succ] at a0 a1 a2 a3
        have la := lt_of_block HXA.out
        by_cases hlt : q < R.labs.length
        · have hqn : (q : Int) < R.labs.length := by omega
          have hwk : IntKind.i64.wrap ((q : Int) + 1) = (q : Int) + 1 := IntWalk.i64_in _ (by omega)
          obtain ⟨b, off, rfl, hbn, hc⟩ := HBL.out (by omega)
          have hnn := HN.out
          obtain ⟨hc1, rr, hc2, hri⟩ := hc q hlt
          have p1 := (HB.out.cell (p := ⟨b, off + q * 2, none⟩) (show b < w.heap.size by omega)).trans hc1
          have p2 := (HB.out.cell (p := ⟨b, off + q * 2 + 1, none⟩) (show b < w.heap.size by omega)).trans hc2
          have HLRQ := Lib.hid (HLR.out q hlt rr)
          have HRI := Lib.hid hri
          have SN := Lib.hid fun w' xs sv => @LabRow.snoc (w.heap.size + 2) w' R.labs q xs sv
          obtain ⟨r2, c2, rfl, -⟩ := hri
          obtain ⟨sla, slc, rfl⟩ := own_shape HLA.out
          generalize (lb R.labs q).tol = tol at *
          generalize (lb R.labs q).rs = rs at *
          have lb' := block_lt_of_cell p1
          have hbw : b < w.heap.size := by omega
          clear hc hc1 hc2 hbn
          go_wp2_with fail
          have hsb : ∀ k, (Value.slice sla q slc).ownBlock = some k → w.heap.size + 2 ≤ k ∧ k < wr.heap.size := fun k hk => own_lt HLA.out hk
          have hsb2 : ∀ k, (Value.slice sla q slc).ownBlock = some k → k ≠ bo := fun k hk e => by
            obtain ⟨cur, hc⟩ := own_tag HLA.out hk
            rw [e] at hc
            exact absurd (tags_differ hc HXO.out) (by decide)
          have HC : Hid (∀ w', But (fun k => (Value.slice sla q slc).ownBlock = some k) wr w' → w'.cell? ⟨bo, 3, none⟩ = some (.slice sla q slc) ∧ w'.cell? ⟨w.heap.size, 3, none⟩ = some (.slice (some ⟨b, off, none⟩) R.labs.length pbc) ∧ w'.cell? ⟨b, off + q * 2, none⟩ = some (.int .i64 tol) ∧ w'.cell? ⟨b, off + q * 2 + 1, none⟩ = some (.slice r2 rs.length c2) ∧ w.heap.size < w'.heap.size ∧ b < w'.heap.size ∧ bo < w'.heap.size) := Lib.hid fun w' hS => by
            have hxo := (hS.block _ (lt_of_block HXO.out) (fun e => hsb2 _ e rfl)).trans HXO.out
            have hxa := (hS.block _ la (fun e => by have := hsb _ e; omega)).trans HXA.out
            have hbb := hS.block b lb' (fun e => by have := hsb _ e; omega)
            exact ⟨cell_of_row w' _ 3 _ _ _ hxo, cell_of_row w' _ 3 _ _ _ hxa, (World.cell?_of_block (w := wr) hbb).trans p1, (World.cell?_of_block (w := wr) hbb).trans p2, lt_of_block hxa, Nat.lt_of_lt_of_le lb' hS.size, lt_of_block hxo⟩
          refine wp_region_noPanic ?_
          refine wp_region_walkT (fun w' => But (fun k => (Value.slice sla q slc).ownBlock = some k) wr w') 19 [(0, 0), (0, 1), (0, 2), (0, 3), (0, 4), (0, 5), (0, 6), (0, 7), (0, 8), (0, 9), (0, 10), (0, 11), (0, 12), (0, 13), (1, 14), (0, 15), (2, 16), (2, 17), (0, 18)] (But.of_below (below_drawn _)) (by decide +kernel) (fun _ _ _ _ _ h => h) (by decide +kernel) ?_
          iterate 14
            (refine WalkT.takes rfl rfl ?_; apply Exists.intro; refine ⟨fun w' hS => ?_, ?_⟩; (obtain ⟨z1, z2, z3, z4, z5, z6, z7⟩ := HC.out w' hS; clear hS; go_simp; with_reducible rfl); simp only [List.getElem_toArray, List.getElem_cons_succ, List.getElem_cons_zero, Act.put, List.setIfInBounds_toArray, List.set_cons_zero, List.set_cons_succ])
          obtain ⟨wd, hwd⟩ : ∃ wd, wd = { wr with drawn := wr.drawn + 1 } := ⟨_, rfl⟩
          rw [← hwd]
          have hbd : Below wr.heap.size wr wd := by rw [hwd]; exact below_drawn wr
          clear hwd
          refine WalkT.calls rfl rfl ?_; apply Exists.intro; apply Exists.intro; refine ⟨(by go_simp; exact ⟨rfl, rfl⟩), ?_⟩
          refine (HLRQ.out wd HRI.out (below_to HB.out hbd)).mono ?_
          rintro e wc ⟨⟨rv, rfl, hoc⟩, hbc⟩
          have hbcc : Below wr.heap.size wr wc := grow_to hbd hbc
          refine ⟨_, rfl, But.of_below hbcc, ?_⟩
          obtain ⟨ua, uc, rfl⟩ := own_shape hoc
          simp only [List.getElem_toArray, List.getElem_cons_succ, List.getElem_cons_zero, Act.put, List.setIfInBounds_toArray, List.set_cons_zero, List.set_cons_succ]
          refine WalkT.takes rfl rfl ?_; apply Exists.intro; refine ⟨fun w' hS => ?_, ?_⟩; (clear hS; go_simp; with_reducible rfl); simp only [List.getElem_toArray, List.getElem_cons_succ, List.getElem_cons_zero, Act.put, List.setIfInBounds_toArray, List.set_cons_zero, List.set_cons_succ]
          have hba := box_below wc (.cells #[.int .i64 tol, .slice ua rs.length uc] 60)
          have hb2 : Below wr.heap.size wr (wc.alloc (.cells #[.int .i64 tol, .slice ua rs.length uc] 60)) := grow_to hbcc hba
          refine WalkT.acts rfl rfl (exec_buildSlice 32 60 1 _ rfl el32.u #[.int .i64 tol, .slice ua rs.length uc] (by kernel_rfl)) (But.of_below hb2) ?_
          simp only [List.getElem_toArray, List.getElem_cons_succ, List.getElem_cons_zero, Act.put, List.setIfInBounds_toArray, List.set_cons_zero, List.set_cons_succ]
          have hla2 := row_kept HLA.out hb2
          have hx2 := heap_alloc_new wc (.cells #[.int .i64 tol, .slice ua rs.length uc] 60)
          obtain ⟨s2, w2, hr2, ho2, hbb2, -, -, hg2⟩ := act_app2 el32 (w.heap.size + 2) q (.slice sla q slc) xs (some ⟨wc.heap.size, 0, none⟩) 1 1 [.int .i64 tol, .slice ua rs.length uc] (wc.alloc (.cells #[.int .i64 tol, .slice ua rs.length uc] 60)) (fun k => (Value.slice sla q slc).ownBlock = some k) 32 (by unfold maxLen; omega) (by omega) hla2 (by have := hb2.size; have := HB.out.size; have := lt_of_block HXO.out; omega) rfl (by simp) (fun _ => ⟨_, 0, rfl, fun j u hj => by
            rw [Nat.zero_add]
            have hj2 : j < 2 := by
              have := (List.getElem?_eq_some_iff.1 hj).1
              simpa using this
            rcases j with _ | _ | j
            · exact (cell_of_row _ _ 0 _ _ _ hx2).trans (by simpa using hj)
            · exact (cell_of_row _ _ 1 _ _ _ hx2).trans (by simpa using hj)
            · omega⟩) (by simp [Value.oneCell']) (fun k h => h) (fun k h => (own_lt hla2 h).2)
          have hg3 : But (fun k => (Value.slice sla q slc).ownBlock = some k) (wc.alloc (.cells #[.int .i64 tol, .slice ua rs.length uc] 60)) w2 := ⟨hg2.os, hg2.tape, hg2.output, hg2.size, fun k hk hn => hg2.block k hk fun e => hn e.symm⟩
          have hbt2 : But (fun k => (Value.slice sla q slc).ownBlock = some k) wr w2 := (But.of_below hb2).trans hg3
          refine WalkT.acts rfl rfl (exec_append (.tmp 45) (.tmp 60) rfl rfl rfl hr2) hbt2 ?_
          simp only [List.getElem_toArray, List.getElem_cons_succ, List.getElem_cons_zero, Act.put, List.setIfInBounds_toArray, List.set_cons_zero, List.set_cons_succ]
          refine WalkT.takes rfl rfl ?_; apply Exists.intro; refine ⟨fun w' hS => ?_, ?_⟩; (obtain ⟨z1, z2, z3, z4, z5, z6, z7⟩ := HC.out w' hS; clear hS; go_simp; with_reducible rfl); simp only [List.getElem_toArray, List.getElem_cons_succ, List.getElem_cons_zero, Act.put, List.setIfInBounds_toArray, List.set_cons_zero, List.set_cons_succ]
          refine WalkT.fin ?_
          simp only [List.drop_succ_cons, List.drop_zero]
          obtain ⟨ta, tc, rfl⟩ := own_shape ho2
          have hxo2 := (hbt2.block _ (lt_of_block HXO.out) (fun e => hsb2 _ e rfl)).trans HXO.out
          refine wpList_skip rfl (exec_store_one 32 (.tmp 62) (.tmp 61) rfl rfl rfl (cell_of_row w2 bo 3 _ _ _ hxo2) (frozen_of_row w2 bo 3 _ _ hxo2) (by kernel_rfl)) ?_
          simp only [List.getElem_toArray, List.getElem_cons_succ, List.getElem_cons_zero, Act.put, List.setIfInBounds_toArray, List.set_cons_zero, List.set_cons_succ]
          simp only [wpList]
          refine NoPanic.normal ?_
          have hp5 := put_cell bo 3 (.slice ta (q + 1) tc) w2
          have hown : ∀ (k : Nat) (cur : Array Value) (e' : TypeId), e' ≠ 60 → wr.heap[k]? = some (.cells cur e' (0, 0)) → w2.heap[k]? = wr.heap[k]? := fun k cur e' he hk => hbt2.block k (lt_of_block hk) fun e => by
            obtain ⟨cur', h'⟩ := own_tag HLA.out e
            exact he (tags_differ hk h')
          have hown2 : ∀ (k : Nat) (cur : Array Value) (e' : TypeId), e' ≠ 60 → wc.heap[k]? = some (.cells cur e' (0, 0)) → w2.heap[k]? = wc.heap[k]? := fun k cur e' he hk => (hg3.block k (by have := lt_of_block hk; simp; omega) fun e => by
            obtain ⟨cur', h'⟩ := own_tag hla2 e
            exact he (tags_differ ((hba.block k (lt_of_block hk)).trans hk) h')).trans (hba.block k (lt_of_block hk))
          have HXO5 := Lib.hid (heap_setCell_same w2 bo 3 _ 34 (.slice ta (q + 1) tc) hxo2)
          have HXA5 := Lib.hid ((hp5.other w.heap.size (by omega)).trans ((hown _ _ _ (by decide) HXA.out).trans HXA.out))
          have HXB5 := Lib.hid ((hp5.other (w.heap.size + 1) (by omega)).trans ((hown _ _ _ (by decide) HXB.out).trans HXB.out))
          have HLA5 := Lib.hid (row_same ho2 (put_tag hp5 hxo2 (e := 60) (by decide)))
          have HLO5 := Lib.hid (row_same (row_same HLO.out fun k cur hk => hown k cur _ (by decide) hk) (put_tag hp5 hxo2 (e := 46) (by decide)))
          have HSO5 := Lib.hid (row_same (row_same HSO.out fun k cur hk => hown k cur _ (by decide) hk) (put_tag hp5 hxo2 (e := 3) (by decide)))
          have HRW5 := Lib.hid ((SN.out w2 xs (.slice ua rs.length uc) (HRW.out.same fun k cur hk => hown k cur _ (by decide) hk) (row_same (ownsRow_mono (by have := hbd.size; have := HB.out.size; have := lt_of_block HXO.out; omega) hoc) fun k cur hk => hown2 k cur _ (by decide) hk)).same (put_tag hp5 hxo2 (e := 3) (by decide)))
          have HB5 : Hid (Below w.heap.size w (w2.setCell ⟨bo, 3, none⟩ (.slice ta (q + 1) tc))) := Lib.hid ((hp5.but ((But.of_below HB.out : But (fun k => (Value.slice sla q slc).ownBlock = some k) w wr).trans hbt2) (.inr (by omega))).below fun k hk ht => by have := hsb _ ht; omega)
          generalize World.setCell w2 _ _ = w3 at *
          clear hown hown2 hp5 hxo2 hbt2 hg3 hr2 ho2 hbb2 hg2 hx2 hla2 hb2 hba hbd hbc hbcc hoc HC hsb hsb2 HXA HXB HXO HLO HSO HLA HRW HB a0 a1 a2 a3 la p1 p2 lb'
          go_wp2
          go_roundw
          case rel => exact ⟨q + 1, _, _, by omega, by simp, HXA5, HXB5, HXO5, HLA5, HRW5, HLO5, HSO5, HB5⟩
          case measure => simp [intOf]; omega
        · obtain rfl : q = R.labs.length := by omega
          obtain ⟨sla, slc, rfl⟩ := own_shape HLA.out
          have b0 := cell_of_row wr bo 0 _ _ _ HXO.out
          have b1 := cell_of_row wr bo 1 _ _ _ HXO.out
          have b2 := cell_of_row wr bo 2 _ _ _ HXO.out
          have b3 := cell_of_row wr bo 3 _ _ _ HXO.out
          simp only [List.getElem?_toArray, List.getElem?_cons_zero, List.getElem?_cons_succ] at b0 b1 b2 b3
          have lbo := lt_of_block HXO.out
          go_wp2_with (first
            | (refine wpList_store_mid rfl 34 (.tmp 2) (.tmp 63) rfl (w.heap.size + 1) 0 #[.slice sa R.lots.length sc, .slice ra R.smp.length rc, .int .i64 R.sp, .slice sla R.labs.length slc] rfl rfl (there_block HXB.out (n := 4) (by simp)) (by kernel_rfl) (by simp [Value.oneCell']) ?_)
            | fail)
          have hp6 : Put (w.heap.size + 1) wr (wr.setCells (w.heap.size + 1) 0 [.slice sa R.lots.length sc, .slice ra R.smp.length rc, .int .i64 R.sp, .slice sla R.labs.length slc]) := put_cells _ _ _ _
          have hx6 : (wr.setCells (w.heap.size + 1) 0 [.slice sa R.lots.length sc, .slice ra R.smp.length rc, .int .i64 R.sp, .slice sla R.labs.length slc]).heap[w.heap.size + 1]? = some (.cells #[.slice sa R.lots.length sc, .slice ra R.smp.length rc, .int .i64 R.sp, .slice sla R.labs.length slc] 34 (0, 0)) := set_whole (w.heap.size + 1) 34 wr #[.slice none 0 0, .slice none 0 0, .int .i64 0, .slice none 0 0] #[.slice sa R.lots.length sc, .slice ra R.smp.length rc, .int .i64 R.sp, .slice sla R.labs.length slc] rfl HXB.out
          generalize World.setCells wr _ _ _ = w6 at *
          have hb6 := hp6.below HB.out (by omega)
          have ho1 := row_same HLO.out (put_tag hp6 HXB.out (e := 46) (by decide))
          have ho2 := row_same HSO.out (put_tag hp6 HXB.out (e := 3) (by decide))
          have ho3 := row_same HLA.out (put_tag hp6 HXB.out (e := 60) (by decide))
          have ho4 := HRW.out.same (put_tag hp6 HXB.out (e := 3) (by decide))
          have r0 := cell_of_row w6 _ 0 _ _ _ hx6
          have r1 := cell_of_row w6 _ 1 _ _ _ hx6
          have r2 := cell_of_row w6 _ 2 _ _ _ hx6
          have r3 := cell_of_row w6 _ 3 _ _ _ hx6
          simp only [List.getElem?_toArray, List.getElem?_cons_zero, List.getElem?_cons_succ] at r0 r1 r2 r3
          refine bodyPost_ret (v := .agg #[.slice sa R.lots.length sc, .slice ra R.smp.length rc, .int .i64 R.sp, .slice sla R.labs.length slc]) ?_ rfl ⟨⟨⟨sa, sc, ra, rc, sla, slc⟩, rfl, ⟨own_rgs ho1, own_ints ho2, ho4.labs ho3⟩, own_cap8 ho3⟩, hb6⟩
          simp [results, Try.results20, go_sem, r0, r1, r2, r3]
end Go.Proofs.Ytpdkgnfblnblbaa
