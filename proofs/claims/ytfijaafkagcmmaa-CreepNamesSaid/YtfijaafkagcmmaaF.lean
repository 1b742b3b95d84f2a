/- Lists that are tested by a function: contracts. Conditions: the function's own contract. -/
import Derived.Test.YtfijaafkagcmmaaE
namespace Go.Proofs.Ytfijaafkagcmmaa
open Go.RowKit Go.Shelf
attribute [local irreducible] arrV

def allN (B : Nat → Bool) (n : Nat) : Bool := (List.range n).all B
theorem allN_yes {B : Nat → Bool} {n : Nat} (h : ∀ j, j < n → B j = true) : allN B n = true := by simpa [allN] using h
theorem allN_no {B : Nat → Bool} {n j : Nat} (hj : j < n) (h : B j = false) : allN B n = false := by
  rw [Bool.eq_false_iff]
  intro hn
  have := List.all_eq_true.1 hn j (by simpa using hj)
  rw [h] at this
  exact Bool.noConfusion this
theorem allN_iff {B : Nat → Bool} {n : Nat} : allN B n = true ↔ ∀ j, j < n → B j = true := by simp [allN]

set_option maxRecDepth 100000 in
set_option maxHeartbeats 1000000 in
theorem each_run (n gf : Nat) (pre : Array Value) (v : Value) (rs : List Rn) (B : Nat → Bool) (w : World) (hl : rs.length ≤ maxLen) (hV : RunsV n w v rs) (hn : n ≤ w.heap.size)
    (hec : ∀ args w, (callFunc gf args).run Try.prog w = .ok (.enter gf args) w)
    (hB : ∀ q sv w', q < rs.length → SegsV n w' sv (rn rs q).ss → Same n w w' → n ≤ w'.heap.size → Calls Try.prog gf (pre ++ #[.agg #[sv, .int .i64 (rn rs q).seen.lo, .int .i64 (rn rs q).seen.hi]]) w' fun e w'' => e = .returned (.bool (B q)) ∧ Below w'.heap.size w' w'') :
    Calls Try.prog 55 #[v, .func (.func gf) pre #[]] w fun e w' => e = .returned (.bool (allN B rs.length)) ∧ Below w.heap.size w w' := by
  obtain ⟨a, cap, rfl, hp⟩ := hV
  unfold maxLen at hl
  have HP := Lib.hid hp
  have HB := Lib.hid hB
  have HA := Lib.hid (@allN_yes B rs.length)
  have HN := Lib.hid (fun j => @allN_no B rs.length j)
  clear hp hB
  go_enter Try.func55, Try.ntmps55
  go_wp2
  go_loopw [9] (fun i wr => ∃ q : Nat, q ≤ rs.length ∧ i = .int .i64 q ∧ Hid (∀ j, j < q → B j = true) ∧ Hid (Below w.heap.size w wr)) (fun i _ => rs.length - (intOf i).toNat)
  case atStart => exact ⟨0, Nat.zero_le _, rfl, Lib.hid (fun j hj => by omega), Lib.hid (Below.refl _ _)⟩
  case round =>
    obtain ⟨q, hq, rfl, hg, hb⟩ := hrel
    by_cases hlt : q < rs.length
    · obtain ⟨b, off, rfl, hbn, hc⟩ := HP.out (by omega)
      obtain ⟨sv, h1, h2, h3, h4⟩ := hc q hlt
      have hltb : b < w.heap.size := by omega
      have p1 := (hb.out.cell (p := ⟨b, off + q * 3, none⟩) hltb).trans h1
      have p2 := (hb.out.cell (p := ⟨b, off + q * 3 + 1, none⟩) hltb).trans h2
      have p3 := (hb.out.cell (p := ⟨b, off + q * 3 + 2, none⟩) hltb).trans h3
      have h4' := h4
      obtain ⟨sa, cs, rfl, -⟩ := h4'
      have hqn : (q : Int) < rs.length := by omega
      have hw9 : IntKind.i64.wrap ((q : Int) + 1) = (q : Int) + 1 := IntWalk.i64_in _ (by omega)
      have hb2 := (below_to hb.out (box_below wr (.cells #[.slice sa (rn rs q).ss.length cs, .int .i64 (rn rs q).seen.lo, .int .i64 (rn rs q).seen.hi] 78)))
      have Hv := Lib.hid (HB.out q _ _ hlt (h4.same (.below hn hb2)) (.below hn hb2) (by have := hb2.size; omega))
      have HB2 := Lib.hid hb2
      clear hc h1 h2 h3 h4 hb2 hb
      cases hgk : B q with
      | true =>
        rw [hgk] at Hv
        have hg' : Hid (∀ j, j < q + 1 → B j = true) := Lib.hid fun j hj => by
          by_cases e : j = q
          · rw [e]; exact hgk
          · exact hg.out j (by omega)
        clear hgk
        go_wp2_with fail
        refine (Hv.out).mono ?_
        rintro e w1 ⟨rfl, hb1⟩
        go_wp2
        go_roundw
        case rel => exact ⟨q + 1, by omega, by simp, hg', Lib.hid (below_to HB2.out hb1)⟩
        case measure => simp [intOf]; omega
      | false =>
        rw [hgk] at Hv
        have HF := Lib.hid (HN.out q hlt hgk)
        clear hgk
        go_wp2_with fail
        refine (Hv.out).mono ?_
        rintro e w1 ⟨rfl, hb1⟩
        go_wp2
        go_ret
        exact ⟨by rw [HF.out]; rfl, below_to HB2.out hb1⟩
    · obtain rfl : q = rs.length := by omega
      have HT := Lib.hid (HA.out hg.out)
      go_wp2
      go_ret
      exact ⟨by rw [HT.out]; rfl, hb.out⟩

set_option maxRecDepth 100000 in
set_option maxHeartbeats 1000000 in
theorem each_seg (n gf : Nat) (pre : Array Value) (v : Value) (ss : List Sg) (B : Nat → Bool) (w : World) (hl : ss.length ≤ maxLen) (hV : SegsV n w v ss) (hn : n ≤ w.heap.size)
    (hec : ∀ args w, (callFunc gf args).run Try.prog w = .ok (.enter gf args) w)
    (hB : ∀ q w', q < ss.length → Same n w w' → n ≤ w'.heap.size → Calls Try.prog gf (pre ++ #[.agg #[.int .i64 (sg ss q).b, .int .i64 (sg ss q).h.lo, .int .i64 (sg ss q).h.hi]]) w' fun e w'' => e = .returned (.bool (B q)) ∧ Below w'.heap.size w' w'') :
    Calls Try.prog 80 #[v, .func (.func gf) pre #[]] w fun e w' => e = .returned (.bool (allN B ss.length)) ∧ Below w.heap.size w w' := by
  obtain ⟨a, cap, rfl, hp⟩ := hV
  unfold maxLen at hl
  have HP := Lib.hid hp
  have HB := Lib.hid hB
  have HA := Lib.hid (@allN_yes B ss.length)
  have HN := Lib.hid (fun j => @allN_no B ss.length j)
  clear hp hB
  go_enter Try.func80, Try.ntmps80
  go_wp2
  go_loopw [9] (fun i wr => ∃ q : Nat, q ≤ ss.length ∧ i = .int .i64 q ∧ Hid (∀ j, j < q → B j = true) ∧ Hid (Below w.heap.size w wr)) (fun i _ => ss.length - (intOf i).toNat)
  case atStart => exact ⟨0, Nat.zero_le _, rfl, Lib.hid (fun j hj => by omega), Lib.hid (Below.refl _ _)⟩
  case round =>
    obtain ⟨q, hq, rfl, hg, hb⟩ := hrel
    by_cases hlt : q < ss.length
    · obtain ⟨b, off, rfl, hbn, hc⟩ := HP.out (by omega)
      obtain ⟨h1, h2, h3⟩ := hc q hlt
      have hltb : b < w.heap.size := by omega
      have p1 := (hb.out.cell (p := ⟨b, off + q * 3, none⟩) hltb).trans h1
      have p2 := (hb.out.cell (p := ⟨b, off + q * 3 + 1, none⟩) hltb).trans h2
      have p3 := (hb.out.cell (p := ⟨b, off + q * 3 + 2, none⟩) hltb).trans h3
      have hqn : (q : Int) < ss.length := by omega
      have hw9 : IntKind.i64.wrap ((q : Int) + 1) = (q : Int) + 1 := IntWalk.i64_in _ (by omega)
      have hb2 := (below_to hb.out (box_below wr (.cells #[.int .i64 (sg ss q).b, .int .i64 (sg ss q).h.lo, .int .i64 (sg ss q).h.hi] 76)))
      have Hv := Lib.hid (HB.out q _ hlt (.below hn hb2) (by have := hb2.size; omega))
      have HB2 := Lib.hid hb2
      clear hc h1 h2 h3 hb2 hb
      cases hgk : B q with
      | true =>
        rw [hgk] at Hv
        have hg' : Hid (∀ j, j < q + 1 → B j = true) := Lib.hid fun j hj => by
          by_cases e : j = q
          · rw [e]; exact hgk
          · exact hg.out j (by omega)
        clear hgk
        go_wp2_with fail
        refine (Hv.out).mono ?_
        rintro e w1 ⟨rfl, hb1⟩
        go_wp2
        go_roundw
        case rel => exact ⟨q + 1, by omega, by simp, hg', Lib.hid (below_to HB2.out hb1)⟩
        case measure => simp [intOf]; omega
      | false =>
        rw [hgk] at Hv
        have HF := Lib.hid (HN.out q hlt hgk)
        clear hgk
        go_wp2_with fail
        refine (Hv.out).mono ?_
        rintro e w1 ⟨rfl, hb1⟩
        go_wp2
        go_ret
        exact ⟨by rw [HF.out]; rfl, below_to HB2.out hb1⟩
    · obtain rfl : q = ss.length := by omega
      have HT := Lib.hid (HA.out hg.out)
      go_wp2
      go_ret
      exact ⟨by rw [HT.out]; rfl, hb.out⟩

set_option maxRecDepth 100000 in
set_option maxHeartbeats 1000000 in
theorem each_rg (n gf : Nat) (pre : Array Value) (v : Value) (ms : List Rg) (B : Nat → Bool) (w : World) (hl : ms.length ≤ maxLen) (hV : RgsV n w v ms) (hn : n ≤ w.heap.size)
    (hec : ∀ args w, (callFunc gf args).run Try.prog w = .ok (.enter gf args) w)
    (hB : ∀ q w', q < ms.length → Same n w w' → n ≤ w'.heap.size → Calls Try.prog gf (pre ++ #[.agg #[.int .i64 (rg ms q).lo, .int .i64 (rg ms q).hi]]) w' fun e w'' => e = .returned (.bool (B q)) ∧ Below w'.heap.size w' w'') :
    Calls Try.prog 96 #[v, .func (.func gf) pre #[]] w fun e w' => e = .returned (.bool (allN B ms.length)) ∧ Below w.heap.size w w' := by
  obtain ⟨a, cap, rfl, hp⟩ := hV
  unfold maxLen at hl
  have HP := Lib.hid hp
  have HB := Lib.hid hB
  have HA := Lib.hid (@allN_yes B ms.length)
  have HN := Lib.hid (fun j => @allN_no B ms.length j)
  clear hp hB
  go_enter Try.func96, Try.ntmps96
  go_wp2
  go_loopw [9] (fun i wr => ∃ q : Nat, q ≤ ms.length ∧ i = .int .i64 q ∧ Hid (∀ j, j < q → B j = true) ∧ Hid (Below w.heap.size w wr)) (fun i _ => ms.length - (intOf i).toNat)
  case atStart => exact ⟨0, Nat.zero_le _, rfl, Lib.hid (fun j hj => by omega), Lib.hid (Below.refl _ _)⟩
  case round =>
    obtain ⟨q, hq, rfl, hg, hb⟩ := hrel
    by_cases hlt : q < ms.length
    · obtain ⟨b, off, rfl, hbn, hc⟩ := HP.out (by omega)
      obtain ⟨h1, h2⟩ := hc q hlt
      have hltb : b < w.heap.size := by omega
      have p1 := (hb.out.cell (p := ⟨b, off + q * 2, none⟩) hltb).trans h1
      have p2 := (hb.out.cell (p := ⟨b, off + q * 2 + 1, none⟩) hltb).trans h2
      have hqn : (q : Int) < ms.length := by omega
      have hw9 : IntKind.i64.wrap ((q : Int) + 1) = (q : Int) + 1 := IntWalk.i64_in _ (by omega)
      have hb2 := (below_to hb.out (box_below wr (.cells #[.int .i64 (rg ms q).lo, .int .i64 (rg ms q).hi] 50)))
      have Hv := Lib.hid (HB.out q _ hlt (.below hn hb2) (by have := hb2.size; omega))
      have HB2 := Lib.hid hb2
      clear hc h1 h2 hb2 hb
      cases hgk : B q with
      | true =>
        rw [hgk] at Hv
        have hg' : Hid (∀ j, j < q + 1 → B j = true) := Lib.hid fun j hj => by
          by_cases e : j = q
          · rw [e]; exact hgk
          · exact hg.out j (by omega)
        clear hgk
        go_wp2_with fail
        refine (Hv.out).mono ?_
        rintro e w1 ⟨rfl, hb1⟩
        go_wp2
        go_roundw
        case rel => exact ⟨q + 1, by omega, by simp, hg', Lib.hid (below_to HB2.out hb1)⟩
        case measure => simp [intOf]; omega
      | false =>
        rw [hgk] at Hv
        have HF := Lib.hid (HN.out q hlt hgk)
        clear hgk
        go_wp2_with fail
        refine (Hv.out).mono ?_
        rintro e w1 ⟨rfl, hb1⟩
        go_wp2
        go_ret
        exact ⟨by rw [HF.out]; rfl, below_to HB2.out hb1⟩
    · obtain rfl : q = ms.length := by omega
      have HT := Lib.hid (HA.out hg.out)
      go_wp2
      go_ret
      exact ⟨by rw [HT.out]; rfl, hb.out⟩

end Go.Proofs.Ytfijaafkagcmmaa
