/- Whether grades fit, by the program; grades that reach an end. No condition. -/
import Derived.Test.YtplmlmmjfkbabaaSA
import Derived.BigRegion
import Derived.BigQuiet
namespace Go.Proofs.Ytplmlmmjfkbabaa
open Go.RowKit
attribute [local irreducible] arrV wpQuiet mat shl

theorem ofL_in {gs : List Int} {p : Int} (h : ∀ g, g ∈ gs → 0 ≤ g ∧ g ≤ 100) : 0 ≤ ofL gs p ∧ ofL gs p ≤ 100 := by
  unfold ofL ld
  split
  · omega
  · cases e : gs[p.toNat]? with
    | none => simp
    | some x =>
      have := h x (List.mem_of_getElem? e)
      simpa [e] using this
set_option maxRecDepth 100000 in
set_option maxHeartbeats 2000000 in
theorem agrees_any (m : Nat) (v : Value) (gs : List Int) (c : Cm) (w : World) (hl : gs.length ≤ maxLen) (hV : IntsV m w v gs) (hm : m ≤ w.heap.size) (h1 : 0 ≤ c.l ∧ c.l < gs.length) (h2 : c.r = -1 ∨ (0 ≤ c.r ∧ c.r < gs.length)) (hg : ∀ g, g ∈ gs → 0 ≤ g ∧ g ≤ 100) :
    Calls Try.prog 77 #[v, .agg #[.int .i64 c.l, .int .i64 c.r, .int .i64 c.lo, .int .i64 c.hi]] w fun e w' => e = .returned (.bool (agreeB gs c)) ∧ Below w.heap.size w w' := by
  have HOL := Lib.hid fun w' (h : Below w.heap.size w w') => of_any m v gs c.l w' hl (hV.same (.below hm h)) (.inr h1)
  have HOR := Lib.hid fun w' (h : Below w.heap.size w w') => of_any m v gs c.r w' hl (hV.same (.below hm h)) h2
  have b1 := ofL_in (p := c.l) hg
  have b2 := ofL_in (p := c.r) hg
  have hw : IntKind.i64.wrap (ofL gs c.l - ofL gs c.r) = ofL gs c.l - ofL gs c.r := IntWalk.i64_in _ (by omega)
  have HAG : Hid (agreeB gs c = hasB c.lo c.hi (ofL gs c.l - ofL gs c.r)) := Lib.hid rfl
  have HX := Lib.hid (heap_alloc_new w (.cells #[.int .i64 c.l, .int .i64 c.r, .int .i64 c.lo, .int .i64 c.hi] 67))
  have HB := Lib.hid (box_below w (.cells #[.int .i64 c.l, .int .i64 c.r, .int .i64 c.lo, .int .i64 c.hi] 67))
  obtain ⟨a, cap, rfl, -⟩ := hV
  clear b1 b2 h1 h2 hg
  generalize ofL gs c.l = OL at *
  generalize ofL gs c.r = OR at *
  generalize agreeB gs c = A at *
  go_enter Try.func77, Try.ntmps77
  go_wp2_with fail
  generalize w.alloc _ = W at *
  have HC : Hid (∀ w', Below W.heap.size W w' → w'.cell? ⟨w.heap.size, 0, none⟩ = some (.int .i64 c.l) ∧ w'.cell? ⟨w.heap.size, 1, none⟩ = some (.int .i64 c.r) ∧ w'.cell? ⟨w.heap.size, 2, none⟩ = some (.int .i64 c.lo) ∧ w'.cell? ⟨w.heap.size, 3, none⟩ = some (.int .i64 c.hi) ∧ w.heap.size < w'.heap.size) := Lib.hid fun w' hS => by
    have h := (hS.block _ (lt_of_block HX.out)).trans HX.out
    exact ⟨cell_of_row w' w.heap.size 0 _ _ _ h, cell_of_row w' w.heap.size 1 _ _ _ h, cell_of_row w' w.heap.size 2 _ _ _ h, cell_of_row w' w.heap.size 3 _ _ _ h, lt_of_block h⟩
  refine wp_region_noPanic ?_
  refine wp_region_acts (fun w' => Below W.heap.size W w') (fun _ _ h hb => below_to h hb) (below_drawn _) (by decide +kernel) (fun _ _ _ _ _ h => h)
    [.take 0, .take 1, .take 2, .take 3, .take 4, .take 5, .take 6, .take 7, .take 9, .take 10, .take 11, .call 8, .call 12, .take 13, .call 14] [15] (by decide +kernel) ?_
  iterate 11
    (refine GWalk.takes rfl rfl ?_; apply Exists.intro; refine ⟨fun w' hS => ?_, ?_⟩; (obtain ⟨z1, z2, z3, z4, z5⟩ := HC.out w' hS; clear hS; go_simp; with_reducible rfl); simp only [List.getElem_toArray, List.getElem_cons_succ, List.getElem_cons_zero, Act.put, List.setIfInBounds_toArray, List.set_cons_zero, List.set_cons_succ])
  refine GWalk.calls rfl rfl ?_; apply Exists.intro; apply Exists.intro; refine ⟨fun w' hS => ?_, fun v1 hb hS hO => ?_⟩; (clear hS; go_simp; exact ⟨rfl, rfl⟩)
  refine (HOL.out v1 (below_to HB.out hS)).mono ?_
  rintro e v2 ⟨rfl, hb2⟩
  refine ⟨_, rfl, hb2, below_to hS hb2, ?_⟩
  simp only [List.getElem_toArray, List.getElem_cons_succ, List.getElem_cons_zero, Act.put, List.setIfInBounds_toArray, List.set_cons_zero, List.set_cons_succ]
  clear hb hS hO hb2
  refine GWalk.calls rfl rfl ?_; apply Exists.intro; apply Exists.intro; refine ⟨fun w' hS => ?_, fun v1 hb hS hO => ?_⟩; (clear hS; go_simp; exact ⟨rfl, rfl⟩)
  refine (HOR.out v1 (below_to HB.out hS)).mono ?_
  rintro e v2 ⟨rfl, hb2⟩
  refine ⟨_, rfl, hb2, below_to hS hb2, ?_⟩
  simp only [List.getElem_toArray, List.getElem_cons_succ, List.getElem_cons_zero, Act.put, List.setIfInBounds_toArray, List.set_cons_zero, List.set_cons_succ]
  clear hb hS hO hb2
  iterate 1
    (refine GWalk.takes rfl rfl ?_; apply Exists.intro; refine ⟨fun w' hS => ?_, ?_⟩; (obtain ⟨z1, z2, z3, z4, z5⟩ := HC.out w' hS; clear hS; go_simp; with_reducible rfl); simp only [List.getElem_toArray, List.getElem_cons_succ, List.getElem_cons_zero, Act.put, List.setIfInBounds_toArray, List.set_cons_zero, List.set_cons_succ])
  refine GWalk.calls rfl rfl ?_; apply Exists.intro; apply Exists.intro; refine ⟨fun w' hS => ?_, fun v1 hb hS hO => ?_⟩; (clear hS; go_simp; exact ⟨rfl, rfl⟩)
  refine (has_any c.lo c.hi (OL - OR) v1).mono ?_
  rintro e v2 ⟨rfl, hb2⟩
  refine ⟨_, rfl, hb2, below_to hS hb2, ?_⟩
  simp only [List.getElem_toArray, List.getElem_cons_succ, List.getElem_cons_zero, Act.put, List.setIfInBounds_toArray, List.set_cons_zero, List.set_cons_succ]
  have HS := Lib.hid (below_to HB.out (below_to hS hb2))
  clear hb hS hO hb2
  refine GWalk.fin fun v3 hb3 hS3 => ?_
  have HF := Lib.hid (below_to HS.out hb3)
  clear hb3 hS3 HS HC
  refine Tail.value rfl rfl (by go_simp; with_reducible rfl) ?_
  simp only [List.getElem_toArray, List.getElem_cons_succ, List.getElem_cons_zero, Act.put, List.setIfInBounds_toArray, List.set_cons_zero, List.set_cons_succ]
  refine Tail.done (NoPanic.normal ?_)
  go_wp2
  go_ret
  exact ⟨by rw [HAG.out]; rfl, HF.out⟩
theorem all_cmB (B : Cm → Bool) (cs : List Cm) : allN (fun q => B (cm cs q)) cs.length = cs.all B := by
  rw [Bool.eq_iff_iff, allN_iff, List.all_eq_true]
  constructor
  · intro h c hc
    obtain ⟨j, hj, rfl⟩ := List.getElem_of_mem hc
    have := h j hj
    simpa [cm, hj] using this
  · intro h j hj
    have : cm cs j = cs[j] := by simp [cm, hj]
    rw [this]
    exact h _ (List.getElem_mem hj)
theorem all_intB (B : Int → Bool) (gs : List Int) : allN (fun q => B (ld gs q)) gs.length = gs.all B := by
  rw [Bool.eq_iff_iff, allN_iff, List.all_eq_true]
  constructor
  · intro h c hc
    obtain ⟨j, hj, rfl⟩ := List.getElem_of_mem hc
    have := h j hj
    simpa [ld, hj] using this
  · intro h j hj
    have : ld gs j = gs[j] := by simp [ld, hj]
    rw [this]
    exact h _ (List.getElem_mem hj)
set_option maxRecDepth 100000 in
set_option maxHeartbeats 1000000 in
theorem fits_any (m : Nat) (n : Int) (v gv : Value) (cs : List Cm) (gs : List Int) (w : World) (hA : AlbOk n cs) (hn : (gs.length : Int) = n) (hg : ∀ g, g ∈ gs → 0 ≤ g ∧ g ≤ 100) (hV : CmsV m w v cs) (hG : IntsV m w gv gs) (hm : m ≤ w.heap.size) :
    Calls Try.prog 58 #[.agg #[.int .i64 n, v], gv] w fun e w' => e = .returned (.bool (cs.all (agreeB gs))) ∧ Below w.heap.size w w' := by
  have h8 := hA.n8
  have hgl : gs.length ≤ maxLen := Nat.le_trans (show gs.length ≤ 8 by omega) (by simp [maxLen])
  have HE := Lib.hid fun w' (h : Below w.heap.size w w') => each_cm m 77 #[gv] v cs (fun q => agreeB gs (cm cs q)) w' hA.maxLen (hV.same (.below hm h)) (Nat.le_trans hm h.size) (fun _ _ => rfl)
    (fun q w2 hq hs hm2 => by
      have hc := hA.cm _ (cm_mem hq)
      exact agrees_any m gv gs (cm cs q) w2 hgl ((hG.same (.below hm h)).same hs) hm2 (by have := hc.l0; have := hc.ln; omega) (by have := hc.r0; have := hc.rn; omega) hg)
  rw [all_cmB] at HE
  obtain ⟨a, cap, rfl, -⟩ := hV
  obtain ⟨ga, gcap, rfl, -⟩ := hG
  have HX := Lib.hid (heap_alloc_new w (.cells #[.int .i64 n, .slice a cs.length cap] 31))
  have HB := Lib.hid (box_below w (.cells #[.int .i64 n, .slice a cs.length cap] 31))
  generalize cs.all (agreeB gs) = Z at *
  clear hA hn hg hgl
  go_enter Try.func58, Try.ntmps58
  go_wp2_with fail
  refine (HE.out _ HB.out).mono ?_
  rintro e w1 ⟨rfl, hb1⟩
  have HB1 := Lib.hid (below_to HB.out hb1)
  clear hb1
  go_wp2
  go_ret
  exact ⟨rfl, HB1.out⟩
/-- Whether grades fit an album that is valid. -/
def fitB (n : Int) (cs : List Cm) (gs : List Int) : Bool := decide ((gs.length : Int) = n) && (gs.all (hasB 0 100) && cs.all (agreeB gs))
def proveB (n : Int) (cs : List Cm) (gs : List Int) : Bool := decide (faultA n cs = 0) && fitB n cs gs
theorem hasB_all {gs : List Int} (h : gs.all (hasB 0 100) = true) : ∀ g, g ∈ gs → 0 ≤ g ∧ g ≤ 100 := fun g hg => by
  have := List.all_eq_true.1 h g hg
  simpa [hasB] using this
set_option maxRecDepth 100000 in
set_option maxHeartbeats 4000000 in
theorem ProveFit_any (m : Nat) (n : Int) (v gv : Value) (cs : List Cm) (gs : List Int) (w : World) (hl : cs.length ≤ maxLen) (hgl : gs.length ≤ maxLen) (hV : CmsV m w v cs) (hG : IntsV m w gv gs) (hm : m ≤ w.heap.size) :
    Calls Try.prog 30 #[.agg #[.int .i64 n, v], gv] w fun e w' => e = .returned (.bool (proveB n cs gs)) ∧ Below w.heap.size w w' := by
  have HCK := Lib.hid fun w' (h : Below w.heap.size w w') => check_any m n v cs w' hl (hV.same (.below hm h)) (Nat.le_trans hm h.size)
  have HEA := Lib.hid fun w' (h : Below w.heap.size w w') => each_int m 57 #[.agg #[.int .i64 0, .int .i64 100]] gv gs (fun q => hasB 0 100 (ld gs q)) w' hgl (hG.same (.below hm h)) (Nat.le_trans hm h.size) (fun _ _ => rfl) (fun q w2 _ _ _ => has_any 0 100 (ld gs q) w2)
  rw [all_intB] at HEA
  have HFT := Lib.hid fun (hA : AlbOk n cs) (hn : (gs.length : Int) = n) (hg : gs.all (hasB 0 100) = true) w' (h : Below w.heap.size w w') => fits_any m n v gv cs gs w' hA hn (hasB_all hg) (hV.same (.below hm h)) (hG.same (.below hm h)) (Nat.le_trans hm h.size)
  have E0 : Hid (faultA n cs ≠ 0 → proveB n cs gs = false) := Lib.hid fun h => by simp [proveB, h]
  have E1 : Hid ((gs.length : Int) ≠ n → proveB n cs gs = false) := Lib.hid fun h => by simp [proveB, fitB, h]
  have E2 : Hid (gs.all (hasB 0 100) = false → proveB n cs gs = false) := Lib.hid fun h => by simp only [proveB, fitB, h, Bool.false_and, Bool.and_false]
  have E3 : Hid (faultA n cs = 0 → (gs.length : Int) = n → gs.all (hasB 0 100) = true → proveB n cs gs = cs.all (agreeB gs)) := Lib.hid fun h1 h2 h3 => by simp only [proveB, fitB, h1, h2, h3, decide_true, Bool.true_and]
  have HFO := Lib.hid fun (h : faultA n cs = 0) => fault_ok h
  obtain ⟨a, cap, rfl, -⟩ := hV
  obtain ⟨ga, gcap, rfl, -⟩ := hG
  have HX := Lib.hid (heap_alloc_new w (.cells #[.int .i64 n, .slice a cs.length cap] 31))
  have HB := Lib.hid (box_below w (.cells #[.int .i64 n, .slice a cs.length cap] 31))
  generalize proveB n cs gs = Z at *
  generalize faultA n cs = F at *
  go_enter Try.func30, Try.ntmps30
  go_wp2_with fail
  refine (HCK.out _ HB.out).mono ?_
  rintro e w1 ⟨rfl, hb1⟩
  replace HX := Lib.hid ((hb1.block _ (lt_of_block HX.out)).trans HX.out)
  replace HB := Lib.hid (below_to HB.out hb1)
  clear hb1
  by_cases hF : F = 0
  · subst hF
    have c0 := cell_of_row w1 w.heap.size 0 _ _ _ HX.out
    have c1 := cell_of_row w1 w.heap.size 1 _ _ _ HX.out
    simp only [List.getElem?_toArray, List.getElem?_cons_zero, List.getElem?_cons_succ] at c0 c1
    have l1 := lt_of_block HX.out
    by_cases hn : (gs.length : Int) = n
    · have hn1 : ((gs.length : Int) == n) = true := by simp [hn]
      go_wp2_with fail
      refine (everyGrade_any w1).mono ?_
      rintro e w2 ⟨rfl, hb1⟩
      replace HX := Lib.hid ((hb1.block _ (lt_of_block HX.out)).trans HX.out)
      replace HB := Lib.hid (below_to HB.out hb1)
      clear hb1 c0 c1 l1
      go_wp2_with fail
      refine (HEA.out _ HB.out).mono ?_
      rintro e w3 ⟨rfl, hb1⟩
      replace HX := Lib.hid ((hb1.block _ (lt_of_block HX.out)).trans HX.out)
      replace HB := Lib.hid (below_to HB.out hb1)
      clear hb1
      cases hz : gs.all (hasB 0 100) with
      | false =>
        have EE := Lib.hid (E2.out hz)
        clear hz
        go_wp2
        go_ret
        exact ⟨by rw [EE.out]; rfl, HB.out⟩
      | true =>
        have EE := Lib.hid (E3.out trivial hn hz)
        have HFX := Lib.hid (HFT.out (HFO.out trivial) hn hz)
        clear hz hn hn1
        have c0 := cell_of_row w3 w.heap.size 0 _ _ _ HX.out
        have c1 := cell_of_row w3 w.heap.size 1 _ _ _ HX.out
        simp only [List.getElem?_toArray, List.getElem?_cons_zero, List.getElem?_cons_succ] at c0 c1
        have l1 := lt_of_block HX.out
        go_wp2_with fail
        refine (HFX.out _ HB.out).mono ?_
        rintro e w4 ⟨rfl, hb1⟩
        replace HB := Lib.hid (below_to HB.out hb1)
        clear hb1 c0 c1 l1
        generalize cs.all (agreeB gs) = Y at *
        go_wp2
        go_ret
        exact ⟨by rw [EE.out]; rfl, HB.out⟩
    · have hn1 : ((gs.length : Int) == n) = false := by simp [hn]
      have EE := Lib.hid (E1.out hn)
      clear hn
      go_wp2
      go_ret
      exact ⟨by rw [EE.out]; rfl, HB.out⟩
  · have h1 : (F == 0) = false := by simp [hF]
    have EE := Lib.hid (E0.out hF)
    clear hF
    go_wp2
    go_ret
    exact ⟨by rw [EE.out]; rfl, HB.out⟩
end Go.Proofs.Ytplmlmmjfkbabaa
