/- Lists that are tested by a function: contracts. Condition: the function's own contract. -/
import Derived.Test.YtpdkgnfblnblbaaS2
namespace Go.Proofs.Ytpdkgnfblnblbaa
open Go.RowKit Go.Shelf
attribute [local irreducible] arrV wpQuiet
def allN (B : Nat → Bool) (n : Nat) : Bool := (List.range n).all B
theorem allN_yes {B : Nat → Bool} {n : Nat} (h : ∀ j, j < n → B j = true) : allN B n = true := by simpa [allN] using h
theorem allN_no {B : Nat → Bool} {n j : Nat} (hj : j < n) (h : B j = false) : allN B n = false := by
  rw [Bool.eq_false_iff]
  intro hn
  have := List.all_eq_true.1 hn j (by simpa using hj)
  rw [h] at this
  exact Bool.noConfusion this
theorem allN_iff {B : Nat → Bool} {n : Nat} : allN B n = true ↔ ∀ j, j < n → B j = true := by simp [allN]
set_option maxRecDepth 100000 in
set_option maxHeartbeats 1000000 in
theorem each_int (n gf : Nat) (pre : Array Value) (v : Value) (cs : List Int) (B : Nat → Bool) (w : World) (hl : cs.length ≤ maxLen) (hV : IntsV n w v cs) (hn : n ≤ w.heap.size)
    (hec : ∀ args w, (callFunc gf args).run Try.prog w = .ok (.enter gf args) w)
    (hB : ∀ q w', q < cs.length → Same n w w' → n ≤ w'.heap.size → Calls Try.prog gf (pre ++ #[.int .i64 (ld cs q)]) w' fun e w'' => e = .returned (.bool (B q)) ∧ Below w'.heap.size w' w'') :
    Calls Try.prog 58 #[v, .func (.func gf) pre #[]] w fun e w' => e = .returned (.bool (allN B cs.length)) ∧ Below w.heap.size w w' := by
  obtain ⟨a, cap, rfl, hp⟩ := hV
  unfold maxLen at hl
  have HP := Lib.hid hp
  have HB := Lib.hid hB
  have HA := Lib.hid (@allN_yes B cs.length)
  have HN := Lib.hid (fun j => @allN_no B cs.length j)
  clear hp hB
  go_enter Try.func58, Try.ntmps58
  go_wp2
  go_loopw [9] (fun i wr => ∃ q : Nat, q ≤ cs.length ∧ i = .int .i64 q ∧ Hid (∀ j, j < q → B j = true) ∧ Hid (Below w.heap.size w wr)) (fun i _ => cs.length - (intOf i).toNat)
  case atStart => exact ⟨0, Nat.zero_le _, rfl, Lib.hid (fun j hj => by omega), Lib.hid (Below.refl _ _)⟩
  case round =>
    obtain ⟨q, hq, rfl, hg, hb⟩ := hrel
    by_cases hlt : q < cs.length
    · obtain ⟨b, off, rfl, hbn, hc⟩ := HP.out (by omega)
      have h1 := hc q hlt
      have hltb : b < w.heap.size := by omega
      have p1 := (hb.out.cell (p := ⟨b, off + q, none⟩) hltb).trans h1
      have hqn : (q : Int) < cs.length := by omega
      have hw9 : IntKind.i64.wrap ((q : Int) + 1) = (q : Int) + 1 := IntWalk.i64_in _ (by omega)
      have hb2 := hb.out
      have Hv := Lib.hid (HB.out q _ hlt (.below hn hb2) (by have := hb2.size; omega))
      have HB2 := Lib.hid hb2
      clear hc h1 hb2 hb
      cases hgk : B q with
      | true =>
        rw [hgk] at Hv
        have hg' : Hid (∀ j, j < q + 1 → B j = true) := Lib.hid fun j hj => by
          by_cases e : j = q
          · rw [e]; exact hgk
          · exact hg.out j (by omega)
        clear hgk
        go_wp2_with fail
        refine (Hv.out).mono ?_
        rintro e w1 ⟨rfl, hb1⟩
        go_wp2
        go_roundw
        case rel => exact ⟨q + 1, by omega, by simp, hg', Lib.hid (below_to HB2.out hb1)⟩
        case measure => simp [intOf]; omega
      | false =>
        rw [hgk] at Hv
        have HF := Lib.hid (HN.out q hlt hgk)
        clear hgk
        go_wp2_with fail
        refine (Hv.out).mono ?_
        rintro e w1 ⟨rfl, hb1⟩
        go_wp2
        go_ret
        exact ⟨by rw [HF.out]; rfl, below_to HB2.out hb1⟩
    · obtain rfl : q = cs.length := by omega
      have HT := Lib.hid (HA.out hg.out)
      go_wp2
      go_ret
      exact ⟨by rw [HT.out]; rfl, hb.out⟩
set_option maxRecDepth 100000 in
set_option maxHeartbeats 1000000 in
theorem each_rg (n gf : Nat) (pre : Array Value) (v : Value) (cs : List Rg) (B : Nat → Bool) (w : World) (hl : cs.length ≤ maxLen) (hV : RgsV n w v cs) (hn : n ≤ w.heap.size)
    (hec : ∀ args w, (callFunc gf args).run Try.prog w = .ok (.enter gf args) w)
    (hB : ∀ q w', q < cs.length → Same n w w' → n ≤ w'.heap.size → Calls Try.prog gf (pre ++ #[.agg #[.int .i64 (rg cs q).lo, .int .i64 (rg cs q).hi]]) w' fun e w'' => e = .returned (.bool (B q)) ∧ Below w'.heap.size w' w'') :
    Calls Try.prog 63 #[v, .func (.func gf) pre #[]] w fun e w' => e = .returned (.bool (allN B cs.length)) ∧ Below w.heap.size w w' := by
  obtain ⟨a, cap, rfl, hp⟩ := hV
  unfold maxLen at hl
  have HP := Lib.hid hp
  have HB := Lib.hid hB
  have HA := Lib.hid (@allN_yes B cs.length)
  have HN := Lib.hid (fun j => @allN_no B cs.length j)
  clear hp hB
  go_enter Try.func63, Try.ntmps63
  go_wp2
  go_loopw [9] (fun i wr => ∃ q : Nat, q ≤ cs.length ∧ i = .int .i64 q ∧ Hid (∀ j, j < q → B j = true) ∧ Hid (Below w.heap.size w wr)) (fun i _ => cs.length - (intOf i).toNat)
  case atStart => exact ⟨0, Nat.zero_le _, rfl, Lib.hid (fun j hj => by omega), Lib.hid (Below.refl _ _)⟩
  case round =>
    obtain ⟨q, hq, rfl, hg, hb⟩ := hrel
    by_cases hlt : q < cs.length
    · obtain ⟨b, off, rfl, hbn, hc⟩ := HP.out (by omega)
      obtain ⟨h1, h2⟩ := hc q hlt
      have hltb : b < w.heap.size := by omega
      have p1 := (hb.out.cell (p := ⟨b, off + q * 2, none⟩) hltb).trans h1
      have p2 := (hb.out.cell (p := ⟨b, off + q * 2 + 1, none⟩) hltb).trans h2
      have hqn : (q : Int) < cs.length := by omega
      have hw9 : IntKind.i64.wrap ((q : Int) + 1) = (q : Int) + 1 := IntWalk.i64_in _ (by omega)
      have hb2 := (below_to hb.out (box_below wr (.cells #[.int .i64 (rg cs q).lo, .int .i64 (rg cs q).hi] 46)))
      have Hv := Lib.hid (HB.out q _ hlt (.below hn hb2) (by have := hb2.size; omega))
      have HB2 := Lib.hid hb2
      clear hc h1 h2 hb2 hb
      cases hgk : B q with
      | true =>
        rw [hgk] at Hv
        have hg' : Hid (∀ j, j < q + 1 → B j = true) := Lib.hid fun j hj => by
          by_cases e : j = q
          · rw [e]; exact hgk
          · exact hg.out j (by omega)
        clear hgk
        go_wp2_with fail
        refine (Hv.out).mono ?_
        rintro e w1 ⟨rfl, hb1⟩
        go_wp2
        go_roundw
        case rel => exact ⟨q + 1, by omega, by simp, hg', Lib.hid (below_to HB2.out hb1)⟩
        case measure => simp [intOf]; omega
      | false =>
        rw [hgk] at Hv
        have HF := Lib.hid (HN.out q hlt hgk)
        clear hgk
        go_wp2_with fail
        refine (Hv.out).mono ?_
        rintro e w1 ⟨rfl, hb1⟩
        go_wp2
        go_ret
        exact ⟨by rw [HF.out]; rfl, below_to HB2.out hb1⟩
    · obtain rfl : q = cs.length := by omega
      have HT := Lib.hid (HA.out hg.out)
      go_wp2
      go_ret
      exact ⟨by rw [HT.out]; rfl, hb.out⟩
set_option maxRecDepth 100000 in
set_option maxHeartbeats 1000000 in
theorem each_lab (n gf : Nat) (pre : Array Value) (v : Value) (cs : List Lb) (B : Nat → Bool) (w : World) (hl : cs.length ≤ maxLen) (hV : LabsV n w v cs) (hn : n ≤ w.heap.size)
    (hec : ∀ args w, (callFunc gf args).run Try.prog w = .ok (.enter gf args) w)
    (hB : ∀ q r w', q < cs.length → Same n w w' → n ≤ w'.heap.size → IntsV n w' r (lb cs q).rs → Calls Try.prog gf (pre ++ #[.agg #[.int .i64 (lb cs q).tol, r]]) w' fun e w'' => e = .returned (.bool (B q)) ∧ Below w'.heap.size w' w'') :
    Calls Try.prog 80 #[v, .func (.func gf) pre #[]] w fun e w' => e = .returned (.bool (allN B cs.length)) ∧ Below w.heap.size w w' := by
  obtain ⟨a, cap, rfl, hp⟩ := hV
  unfold maxLen at hl
  have HP := Lib.hid hp
  have HB := Lib.hid hB
  have HA := Lib.hid (@allN_yes B cs.length)
  have HN := Lib.hid (fun j => @allN_no B cs.length j)
  clear hp hB
  go_enter Try.func80, Try.ntmps80
  go_wp2
  go_loopw [9] (fun i wr => ∃ q : Nat, q ≤ cs.length ∧ i = .int .i64 q ∧ Hid (∀ j, j < q → B j = true) ∧ Hid (Below w.heap.size w wr)) (fun i _ => cs.length - (intOf i).toNat)
  case atStart => exact ⟨0, Nat.zero_le _, rfl, Lib.hid (fun j hj => by omega), Lib.hid (Below.refl _ _)⟩
  case round =>
    obtain ⟨q, hq, rfl, hg, hb⟩ := hrel
    by_cases hlt : q < cs.length
    · obtain ⟨b, off, rfl, hbn, hc⟩ := HP.out (by omega)
      obtain ⟨h1, r, h2, h3⟩ := hc q hlt
      have hltb : b < w.heap.size := by omega
      have p1 := (hb.out.cell (p := ⟨b, off + q * 2, none⟩) hltb).trans h1
      have p2 := (hb.out.cell (p := ⟨b, off + q * 2 + 1, none⟩) hltb).trans h2
      have hqn : (q : Int) < cs.length := by omega
      have hw9 : IntKind.i64.wrap ((q : Int) + 1) = (q : Int) + 1 := IntWalk.i64_in _ (by omega)
      have h4 := h3
      obtain ⟨ra, rc, rfl, -⟩ := h4
      have hb2 := (below_to hb.out (box_below wr (.cells #[.int .i64 (lb cs q).tol, .slice ra (lb cs q).rs.length rc] 60)))
      have Hv := Lib.hid (HB.out q _ _ hlt (.below hn hb2) (by have := hb2.size; omega) (h3.same (.below hn hb2)))
      have HB2 := Lib.hid hb2
      clear hc h1 h2 h3 hb2 hb
      cases hgk : B q with
      | true =>
        rw [hgk] at Hv
        have hg' : Hid (∀ j, j < q + 1 → B j = true) := Lib.hid fun j hj => by
          by_cases e : j = q
          · rw [e]; exact hgk
          · exact hg.out j (by omega)
        clear hgk
        go_wp2_with fail
        refine (Hv.out).mono ?_
        rintro e w1 ⟨rfl, hb1⟩
        go_wp2
        go_roundw
        case rel => exact ⟨q + 1, by omega, by simp, hg', Lib.hid (below_to HB2.out hb1)⟩
        case measure => simp [intOf]; omega
      | false =>
        rw [hgk] at Hv
        have HF := Lib.hid (HN.out q hlt hgk)
        clear hgk
        go_wp2_with fail
        refine (Hv.out).mono ?_
        rintro e w1 ⟨rfl, hb1⟩
        go_wp2
        go_ret
        exact ⟨by rw [HF.out]; rfl, below_to HB2.out hb1⟩
    · obtain rfl : q = cs.length := by omega
      have HT := Lib.hid (HA.out hg.out)
      go_wp2
      go_ret
      exact ⟨by rw [HT.out]; rfl, hb.out⟩
theorem allN_ints (B : Int → Bool) (cs : List Int) : allN (fun q => B (ld cs q)) cs.length = cs.all B := by
  rw [Bool.eq_iff_iff, allN_iff, List.all_eq_true]
  constructor
  · intro h c hc
    obtain ⟨j, hj, rfl⟩ := List.getElem_of_mem hc
    have := h j hj
    simpa [ld, hj] using this
  · intro h j hj
    exact h _ (ld_mem hj)
theorem allN_rgs (B : Rg → Bool) (cs : List Rg) : allN (fun q => B (rg cs q)) cs.length = cs.all B := by
  rw [Bool.eq_iff_iff, allN_iff, List.all_eq_true]
  constructor
  · intro h c hc
    obtain ⟨j, hj, rfl⟩ := List.getElem_of_mem hc
    have := h j hj
    simpa [rg, hj] using this
  · intro h j hj
    exact h _ (rg_mem hj)
theorem allN_labs (B : Lb → Bool) (cs : List Lb) : allN (fun q => B (lb cs q)) cs.length = cs.all B := by
  rw [Bool.eq_iff_iff, allN_iff, List.all_eq_true]
  constructor
  · intro h c hc
    obtain ⟨j, hj, rfl⟩ := List.getElem_of_mem hc
    have := h j hj
    simpa [lb, hj] using this
  · intro h j hj
    exact h _ (lb_mem hj)
end Go.Proofs.Ytpdkgnfblnblbaa
