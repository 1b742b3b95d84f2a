/- Lists that are tested by a function, and which albums a program takes: contracts. Conditions: the function's own contract. -/
import Derived.Test.YtplmlmmjfkbabaaE
namespace Go.Proofs.Ytplmlmmjfkbabaa
open Go.RowKit Go.Shelf
attribute [local irreducible] arrV wpQuiet

def allN (B : Nat → Bool) (n : Nat) : Bool := (List.range n).all B
theorem allN_yes {B : Nat → Bool} {n : Nat} (h : ∀ j, j < n → B j = true) : allN B n = true := by simpa [allN] using h
theorem allN_no {B : Nat → Bool} {n j : Nat} (hj : j < n) (h : B j = false) : allN B n = false := by
  rw [Bool.eq_false_iff]
  intro hn
  have := List.all_eq_true.1 hn j (by simpa using hj)
  rw [h] at this
  exact Bool.noConfusion this
theorem allN_iff {B : Nat → Bool} {n : Nat} : allN B n = true ↔ ∀ j, j < n → B j = true := by simp [allN]

set_option maxRecDepth 100000 in
set_option maxHeartbeats 1000000 in
theorem each_cm (n gf : Nat) (pre : Array Value) (v : Value) (cs : List Cm) (B : Nat → Bool) (w : World) (hl : cs.length ≤ maxLen) (hV : CmsV n w v cs) (hn : n ≤ w.heap.size)
    (hec : ∀ args w, (callFunc gf args).run Try.prog w = .ok (.enter gf args) w)
    (hB : ∀ q w', q < cs.length → Same n w w' → n ≤ w'.heap.size → Calls Try.prog gf (pre ++ #[.agg #[.int .i64 (cm cs q).l, .int .i64 (cm cs q).r, .int .i64 (cm cs q).lo, .int .i64 (cm cs q).hi]]) w' fun e w'' => e = .returned (.bool (B q)) ∧ Below w'.heap.size w' w'') :
    Calls Try.prog 67 #[v, .func (.func gf) pre #[]] w fun e w' => e = .returned (.bool (allN B cs.length)) ∧ Below w.heap.size w w' := by
  obtain ⟨a, cap, rfl, hp⟩ := hV
  unfold maxLen at hl
  have HP := Lib.hid hp
  have HB := Lib.hid hB
  have HA := Lib.hid (@allN_yes B cs.length)
  have HN := Lib.hid (fun j => @allN_no B cs.length j)
  clear hp hB
  go_enter Try.func67, Try.ntmps67
  go_wp2
  go_loopw [9] (fun i wr => ∃ q : Nat, q ≤ cs.length ∧ i = .int .i64 q ∧ Hid (∀ j, j < q → B j = true) ∧ Hid (Below w.heap.size w wr)) (fun i _ => cs.length - (intOf i).toNat)
  case atStart => exact ⟨0, Nat.zero_le _, rfl, Lib.hid (fun j hj => by omega), Lib.hid (Below.refl _ _)⟩
  case round =>
    obtain ⟨q, hq, rfl, hg, hb⟩ := hrel
    by_cases hlt : q < cs.length
    · obtain ⟨b, off, rfl, hbn, hc⟩ := HP.out (by omega)
      obtain ⟨h1, h2, h3, h4⟩ := hc q hlt
      have hltb : b < w.heap.size := by omega
      have p1 := (hb.out.cell (p := ⟨b, off + q * 4, none⟩) hltb).trans h1
      have p2 := (hb.out.cell (p := ⟨b, off + q * 4 + 1, none⟩) hltb).trans h2
      have p3 := (hb.out.cell (p := ⟨b, off + q * 4 + 2, none⟩) hltb).trans h3
      have p4 := (hb.out.cell (p := ⟨b, off + q * 4 + 3, none⟩) hltb).trans h4
      have hqn : (q : Int) < cs.length := by omega
      have hw9 : IntKind.i64.wrap ((q : Int) + 1) = (q : Int) + 1 := IntWalk.i64_in _ (by omega)
      have hb2 := (below_to hb.out (box_below wr (.cells #[.int .i64 (cm cs q).l, .int .i64 (cm cs q).r, .int .i64 (cm cs q).lo, .int .i64 (cm cs q).hi] 67)))
      have Hv := Lib.hid (HB.out q _ hlt (.below hn hb2) (by have := hb2.size; omega))
      have HB2 := Lib.hid hb2
      clear hc h1 h2 h3 h4 hb2 hb
      cases hgk : B q with
      | true =>
        rw [hgk] at Hv
        have hg' : Hid (∀ j, j < q + 1 → B j = true) := Lib.hid fun j hj => by
          by_cases e : j = q
          · rw [e]; exact hgk
          · exact hg.out j (by omega)
        clear hgk
        go_wp2_with fail
        refine (Hv.out).mono ?_
        rintro e w1 ⟨rfl, hb1⟩
        go_wp2
        go_roundw
        case rel => exact ⟨q + 1, by omega, by simp, hg', Lib.hid (below_to HB2.out hb1)⟩
        case measure => simp [intOf]; omega
      | false =>
        rw [hgk] at Hv
        have HF := Lib.hid (HN.out q hlt hgk)
        clear hgk
        go_wp2_with fail
        refine (Hv.out).mono ?_
        rintro e w1 ⟨rfl, hb1⟩
        go_wp2
        go_ret
        exact ⟨by rw [HF.out]; rfl, below_to HB2.out hb1⟩
    · obtain rfl : q = cs.length := by omega
      have HT := Lib.hid (HA.out hg.out)
      go_wp2
      go_ret
      exact ⟨by rw [HT.out]; rfl, hb.out⟩

set_option maxRecDepth 100000 in
set_option maxHeartbeats 1000000 in
theorem each_int (n gf : Nat) (pre : Array Value) (v : Value) (cs : List Int) (B : Nat → Bool) (w : World) (hl : cs.length ≤ maxLen) (hV : IntsV n w v cs) (hn : n ≤ w.heap.size)
    (hec : ∀ args w, (callFunc gf args).run Try.prog w = .ok (.enter gf args) w)
    (hB : ∀ q w', q < cs.length → Same n w w' → n ≤ w'.heap.size → Calls Try.prog gf (pre ++ #[.int .i64 (ld cs q)]) w' fun e w'' => e = .returned (.bool (B q)) ∧ Below w'.heap.size w' w'') :
    Calls Try.prog 55 #[v, .func (.func gf) pre #[]] w fun e w' => e = .returned (.bool (allN B cs.length)) ∧ Below w.heap.size w w' := by
  obtain ⟨a, cap, rfl, hp⟩ := hV
  unfold maxLen at hl
  have HP := Lib.hid hp
  have HB := Lib.hid hB
  have HA := Lib.hid (@allN_yes B cs.length)
  have HN := Lib.hid (fun j => @allN_no B cs.length j)
  clear hp hB
  go_enter Try.func55, Try.ntmps55
  go_wp2
  go_loopw [9] (fun i wr => ∃ q : Nat, q ≤ cs.length ∧ i = .int .i64 q ∧ Hid (∀ j, j < q → B j = true) ∧ Hid (Below w.heap.size w wr)) (fun i _ => cs.length - (intOf i).toNat)
  case atStart => exact ⟨0, Nat.zero_le _, rfl, Lib.hid (fun j hj => by omega), Lib.hid (Below.refl _ _)⟩
  case round =>
    obtain ⟨q, hq, rfl, hg, hb⟩ := hrel
    by_cases hlt : q < cs.length
    · obtain ⟨b, off, rfl, hbn, hc⟩ := HP.out (by omega)
      have h1 := hc q hlt
      have hltb : b < w.heap.size := by omega
      have p1 := (hb.out.cell (p := ⟨b, off + q, none⟩) hltb).trans h1
      have hqn : (q : Int) < cs.length := by omega
      have hw9 : IntKind.i64.wrap ((q : Int) + 1) = (q : Int) + 1 := IntWalk.i64_in _ (by omega)
      have hb2 := hb.out
      have Hv := Lib.hid (HB.out q _ hlt (.below hn hb2) (by have := hb2.size; omega))
      have HB2 := Lib.hid hb2
      clear hc h1 hb2 hb
      cases hgk : B q with
      | true =>
        rw [hgk] at Hv
        have hg' : Hid (∀ j, j < q + 1 → B j = true) := Lib.hid fun j hj => by
          by_cases e : j = q
          · rw [e]; exact hgk
          · exact hg.out j (by omega)
        clear hgk
        go_wp2_with fail
        refine (Hv.out).mono ?_
        rintro e w1 ⟨rfl, hb1⟩
        go_wp2
        go_roundw
        case rel => exact ⟨q + 1, by omega, by simp, hg', Lib.hid (below_to HB2.out hb1)⟩
        case measure => simp [intOf]; omega
      | false =>
        rw [hgk] at Hv
        have HF := Lib.hid (HN.out q hlt hgk)
        clear hgk
        go_wp2_with fail
        refine (Hv.out).mono ?_
        rintro e w1 ⟨rfl, hb1⟩
        go_wp2
        go_ret
        exact ⟨by rw [HF.out]; rfl, below_to HB2.out hb1⟩
    · obtain rfl : q = cs.length := by omega
      have HT := Lib.hid (HA.out hg.out)
      go_wp2
      go_ret
      exact ⟨by rw [HT.out]; rfl, hb.out⟩


theorem all_cm (n : Int) (cs : List Cm) : allN (fun q => cmB n (cm cs q)) cs.length = cs.all (cmB n) := by
  rw [Bool.eq_iff_iff, allN_iff, List.all_eq_true]
  constructor
  · intro h c hc
    obtain ⟨j, hj, rfl⟩ := List.getElem_of_mem hc
    have := h j hj
    simpa [cm, hj] using this
  · intro h j hj
    exact h _ (cm_mem hj)
end Go.Proofs.Ytplmlmmjfkbabaa
