/- Lists that are tested by a function, and which albums a program takes: contracts. Conditions: the function's own contract. The error of an album, and of pictures: contracts. Condition: lists are no longer than any machine's. -/
import Derived.Test.YtplmlmmjfkbabaaE
namespace Go.Proofs.Ytplmlmmjfkbabaa
open Go.RowKit Go.Shelf
attribute [local irreducible] arrV wpQuiet

def allN (B : Nat → Bool) (n : Nat) : Bool := (List.range n).all B
theorem allN_yes {B : Nat → Bool} {n : Nat} (h : ∀ j, j < n → B j = true) : allN B n = true := by simpa [allN] using h
theorem allN_no {B : Nat → Bool} {n j : Nat} (hj : j < n) (h : B j = false) : allN B n = false := by
  rw [Bool.eq_false_iff]
  intro hn
  have := List.all_eq_true.1 hn j (by simpa using hj)
  rw [h] at this
  exact Bool.noConfusion this
theorem allN_iff {B : Nat → Bool} {n : Nat} : allN B n = true ↔ ∀ j, j < n → B j = true := by simp [allN]

set_option maxRecDepth 100000 in
set_option maxHeartbeats 1000000 in
theorem each_cm (n gf : Nat) (pre : Array Value) (v : Value) (cs : List Cm) (B : Nat → Bool) (w : World) (hl : cs.length ≤ maxLen) (hV : CmsV n w v cs) (hn : n ≤ w.heap.size)
    (hec : ∀ args w, (callFunc gf args).run Try.prog w = .ok (.enter gf args) w)
    (hB : ∀ q w', q < cs.length → Same n w w' → n ≤ w'.heap.size → Calls Try.prog gf (pre ++ #[.agg #[.int .i64 (cm cs q).l, .int .i64 (cm cs q).r, .int .i64 (cm cs q).lo, .int .i64 (cm cs q).hi]]) w' fun e w'' => e = .returned (.bool (B q)) ∧ Below w'.heap.size w' w'') :
    Calls Try.prog 67 #[v, .func (.func gf) pre #[]] w fun e w' => e = .returned (.bool (allN B cs.length)) ∧ Below w.heap.size w w' := by
  obtain ⟨a, cap, rfl, hp⟩ := hV
  unfold maxLen at hl
  have HP := Lib.hid hp
  have HB := Lib.hid hB
  have HA := Lib.hid (@allN_yes B cs.length)
  have HN := Lib.hid (fun j => @allN_no B cs.length j)
  clear hp hB
  go_enter Try.func67, Try.ntmps67
  go_wp2
  go_loopw [9] (fun i wr => ∃ q : Nat, q ≤ cs.length ∧ i = .int .i64 q ∧ Hid (∀ j, j < q → B j = true) ∧ Hid (Below w.heap.size w wr)) (fun i _ => cs.length - (intOf i).toNat)
  case atStart => exact ⟨0, Nat.zero_le _, rfl, Lib.hid (fun j hj => by omega), Lib.hid (Below.refl _ _)⟩
  case round =>
    obtain ⟨q, hq, rfl, hg, hb⟩ := hrel
    by_cases hlt : q < cs.length
    · obtain ⟨b, off, rfl, hbn, hc⟩ := HP.out (by omega)
      obtain ⟨h1, h2, h3, h4⟩ := hc q hlt
      have hltb : b < w.heap.size := by omega
      have p1 := (hb.out.cell (p := ⟨b, off + q * 4, none⟩) hltb).trans h1
      have p2 := (hb.out.cell (p := ⟨b, off + q * 4 + 1, none⟩) hltb).trans h2
      have p3 := (hb.out.cell (p := ⟨b, off + q * 4 + 2, none⟩) hltb).trans h3
      have p4 := (hb.out.cell (p := ⟨b, off + q * 4 + 3, none⟩) hltb).trans h4
      have hqn : (q : Int) < cs.length := by omega
      have hw9 : IntKind.i64.wrap ((q : Int) + 1) = (q : Int) + 1 := IntWalk.i64_in _ (by omega)
      have hb2 := (below_to hb.out (box_below wr (.cells #[.int .i64 (cm cs q).l, .int .i64 (cm cs q).r, .int .i64 (cm cs q).lo, .int .i64 (cm cs q).hi] 67)))
      have Hv := Lib.hid (HB.out q _ hlt (.below hn hb2) (by have := hb2.size; omega))
      have HB2 := Lib.hid hb2
      clear hc h1 h2 h3 h4 hb2 hb
      cases hgk : B q with
      | true =>
        rw [hgk] at Hv
        have hg' : Hid (∀ j, j < q + 1 → B j = true) := Lib.hid fun j hj => by
          by_cases e : j = q
          · rw [e]; exact hgk
          · exact hg.out j (by omega)
        clear hgk
        go_wp2_with fail
        refine (Hv.out).mono ?_
        rintro e w1 ⟨rfl, hb1⟩
        go_wp2
        go_roundw
        case rel => exact ⟨q + 1, by omega, by simp, hg', Lib.hid (below_to HB2.out hb1)⟩
        case measure => simp [intOf]; omega
      | false =>
        rw [hgk] at Hv
        have HF := Lib.hid (HN.out q hlt hgk)
        clear hgk
        go_wp2_with fail
        refine (Hv.out).mono ?_
        rintro e w1 ⟨rfl, hb1⟩
        go_wp2
        go_ret
        exact ⟨by rw [HF.out]; rfl, below_to HB2.out hb1⟩
    · obtain rfl : q = cs.length := by omega
      have HT := Lib.hid (HA.out hg.out)
      go_wp2
      go_ret
      exact ⟨by rw [HT.out]; rfl, hb.out⟩

set_option maxRecDepth 100000 in
set_option maxHeartbeats 1000000 in
theorem each_int (n gf : Nat) (pre : Array Value) (v : Value) (cs : List Int) (B : Nat → Bool) (w : World) (hl : cs.length ≤ maxLen) (hV : IntsV n w v cs) (hn : n ≤ w.heap.size)
    (hec : ∀ args w, (callFunc gf args).run Try.prog w = .ok (.enter gf args) w)
    (hB : ∀ q w', q < cs.length → Same n w w' → n ≤ w'.heap.size → Calls Try.prog gf (pre ++ #[.int .i64 (ld cs q)]) w' fun e w'' => e = .returned (.bool (B q)) ∧ Below w'.heap.size w' w'') :
    Calls Try.prog 55 #[v, .func (.func gf) pre #[]] w fun e w' => e = .returned (.bool (allN B cs.length)) ∧ Below w.heap.size w w' := by
  obtain ⟨a, cap, rfl, hp⟩ := hV
  unfold maxLen at hl
  have HP := Lib.hid hp
  have HB := Lib.hid hB
  have HA := Lib.hid (@allN_yes B cs.length)
  have HN := Lib.hid (fun j => @allN_no B cs.length j)
  clear hp hB
  go_enter Try.func55, Try.ntmps55
  go_wp2
  go_loopw [9] (fun i wr => ∃ q : Nat, q ≤ cs.length ∧ i = .int .i64 q ∧ Hid (∀ j, j < q → B j = true) ∧ Hid (Below w.heap.size w wr)) (fun i _ => cs.length - (intOf i).toNat)
  case atStart => exact ⟨0, Nat.zero_le _, rfl, Lib.hid (fun j hj => by omega), Lib.hid (Below.refl _ _)⟩
  case round =>
    obtain ⟨q, hq, rfl, hg, hb⟩ := hrel
    by_cases hlt : q < cs.length
    · obtain ⟨b, off, rfl, hbn, hc⟩ := HP.out (by omega)
      have h1 := hc q hlt
      have hltb : b < w.heap.size := by omega
      have p1 := (hb.out.cell (p := ⟨b, off + q, none⟩) hltb).trans h1
      have hqn : (q : Int) < cs.length := by omega
      have hw9 : IntKind.i64.wrap ((q : Int) + 1) = (q : Int) + 1 := IntWalk.i64_in _ (by omega)
      have hb2 := hb.out
      have Hv := Lib.hid (HB.out q _ hlt (.below hn hb2) (by have := hb2.size; omega))
      have HB2 := Lib.hid hb2
      clear hc h1 hb2 hb
      cases hgk : B q with
      | true =>
        rw [hgk] at Hv
        have hg' : Hid (∀ j, j < q + 1 → B j = true) := Lib.hid fun j hj => by
          by_cases e : j = q
          · rw [e]; exact hgk
          · exact hg.out j (by omega)
        clear hgk
        go_wp2_with fail
        refine (Hv.out).mono ?_
        rintro e w1 ⟨rfl, hb1⟩
        go_wp2
        go_roundw
        case rel => exact ⟨q + 1, by omega, by simp, hg', Lib.hid (below_to HB2.out hb1)⟩
        case measure => simp [intOf]; omega
      | false =>
        rw [hgk] at Hv
        have HF := Lib.hid (HN.out q hlt hgk)
        clear hgk
        go_wp2_with fail
        refine (Hv.out).mono ?_
        rintro e w1 ⟨rfl, hb1⟩
        go_wp2
        go_ret
        exact ⟨by rw [HF.out]; rfl, below_to HB2.out hb1⟩
    · obtain rfl : q = cs.length := by omega
      have HT := Lib.hid (HA.out hg.out)
      go_wp2
      go_ret
      exact ⟨by rw [HT.out]; rfl, hb.out⟩


theorem all_cm (n : Int) (cs : List Cm) : allN (fun q => cmB n (cm cs q)) cs.length = cs.all (cmB n) := by
  rw [Bool.eq_iff_iff, allN_iff, List.all_eq_true]
  constructor
  · intro h c hc
    obtain ⟨j, hj, rfl⟩ := List.getElem_of_mem hc
    have := h j hj
    simpa [cm, hj] using this
  · intro h j hj
    exact h _ (cm_mem hj)
end Go.Proofs.Ytplmlmmjfkbabaa
namespace Go.Proofs.Ytplmlmmjfkbabaa
open Go.RowKit Go.Shelf
attribute [local irreducible] arrV wpQuiet

set_option maxRecDepth 100000 in
set_option maxHeartbeats 2000000 in
theorem check_any (m : Nat) (n : Int) (v : Value) (cs : List Cm) (w : World) (hl : cs.length ≤ maxLen) (hV : CmsV m w v cs) (hm : m ≤ w.heap.size) :
    Calls Try.prog 46 #[.agg #[.int .i64 n, v]] w fun e w' => e = .returned (.int .i64 (faultA n cs)) ∧ Below w.heap.size w w' := by
  have HE := Lib.hid fun w' (h : Below w.heap.size w w') => each_cm m 68 #[.agg #[.int .i64 n, v]] v cs (fun q => cmB n (cm cs q)) w' hl (hV.same (.below hm h)) (Nat.le_trans hm h.size) (fun _ _ => rfl)
    (fun q w2 _ _ _ => isComparison_any n _ _ _ _ v (by obtain ⟨a, c, rfl, -⟩ := hV; rfl) w2)
  have e3 : 12 < cs.length → faultA n cs = 3 := fun h => by unfold faultA; rw [if_pos h]
  have e1 : ¬ 12 < cs.length → (n < 0 ∨ 8 < n) → faultA n cs = 1 := fun h h2 => by unfold faultA; rw [if_neg h, if_pos (h2.elim .inl fun h => .inr (.inl h))]
  have e2 : ¬ 12 < cs.length → ¬ n < 0 → ¬ 8 < n → faultA n cs = if cs.all (cmB n) = true then 0 else 1 := fun h h1 h2 => by
    unfold faultA
    rw [if_neg h]
    cases hz : cs.all (cmB n) <;> simp [h1, h2]
  rw [all_cm] at HE
  obtain ⟨a, cap, rfl, -⟩ := hV
  have HX := Lib.hid (heap_alloc_new w (.cells #[.int .i64 n, .slice a cs.length cap] 31))
  have HB := Lib.hid (box_below w (.cells #[.int .i64 n, .slice a cs.length cap] 31))
  unfold maxLen at hl
  generalize faultA n cs = F at *
  generalize cs.all (cmB n) = Z at *
  have E1 := Lib.hid e1
  have E2 := Lib.hid e2
  have E3 := Lib.hid e3
  clear e1 e2 e3
  by_cases hc : 12 < cs.length
  · have hc1 : decide ((12 : Int) < cs.length) = true := decide_eq_true (by omega)
    have EF := Lib.hid (E3.out hc)
    go_enter Try.func46, Try.ntmps46
    go_wp2
    go_ret
    exact ⟨by rw [EF.out]; rfl, HB.out⟩
  · have hc1 : decide ((12 : Int) < cs.length) = false := decide_eq_false (by omega)
    by_cases h1 : n < 0
    · have EF := Lib.hid (E1.out hc (.inl h1))
      have h1' : decide (n < 0) = true := decide_eq_true h1
      clear hc
      go_enter Try.func46, Try.ntmps46
      go_wp2
      go_ret
      exact ⟨by rw [EF.out]; rfl, HB.out⟩
    · have h1' : decide (n < 0) = false := decide_eq_false h1
      by_cases h2 : 8 < n
      · have EF := Lib.hid (E1.out hc (.inr h2))
        have h2' : decide (8 < n) = true := decide_eq_true h2
        clear hc
        go_enter Try.func46, Try.ntmps46
        go_wp2
        go_ret
        exact ⟨by rw [EF.out]; rfl, HB.out⟩
      · have EF := Lib.hid (E2.out hc h1 h2)
        have h2' : decide (8 < n) = false := decide_eq_false h2
        clear hc h1 h2
        go_enter Try.func46, Try.ntmps46
        go_wp2_with fail
        refine (HE.out _ HB.out).mono ?_
        rintro e w1 ⟨rfl, hb1⟩
        have HB1 := Lib.hid (below_to HB.out hb1)
        clear hb1
        cases Z with
        | false =>
          go_wp2
          go_ret
          exact ⟨by rw [EF.out]; rfl, HB1.out⟩
        | true =>
          go_wp2
          go_ret
          exact ⟨by rw [EF.out]; rfl, HB1.out⟩

def picsB (n : Int) (ps : List Int) : Bool := allN (fun q => picB n (ld ps q)) ps.length
def askE (n : Int) (cs : List Cm) (ps : List Int) : Int := if faultA n cs ≠ 0 then faultA n cs else if picsB n ps = true then 0 else 2

set_option maxRecDepth 100000 in
set_option maxHeartbeats 2000000 in
theorem checkPictures_any (m : Nat) (n : Int) (v pv : Value) (cs : List Cm) (ps : List Int) (w : World) (hl : cs.length ≤ maxLen) (hp : ps.length ≤ maxLen) (hV : CmsV m w v cs) (hP : IntsV m w pv ps) (hm : m ≤ w.heap.size) :
    Calls Try.prog 69 #[.agg #[.int .i64 n, v], pv] w fun e w' => e = .returned (.int .i64 (askE n cs ps)) ∧ Below w.heap.size w w' := by
  have HC := Lib.hid fun w' (h : Below w.heap.size w w') => check_any m n v cs w' hl (hV.same (.below hm h)) (Nat.le_trans hm h.size)
  have HE := Lib.hid fun w' (h : Below w.heap.size w w') => each_int m 87 #[.agg #[.int .i64 n, v]] pv ps (fun q => picB n (ld ps q)) w' hp (hP.same (.below hm h)) (Nat.le_trans hm h.size) (fun _ _ => rfl)
    (fun q w2 _ _ _ => hasPicture_any n _ v (by obtain ⟨a, c, rfl, -⟩ := hV; rfl) w2)
  have e1 : faultA n cs ≠ 0 → askE n cs ps = faultA n cs := fun h => if_pos h
  have e2 : faultA n cs = 0 → askE n cs ps = if picsB n ps = true then 0 else 2 := fun h => if_neg (fun h2 => h2 h)
  have e3 : allN (fun q => picB n (ld ps q)) ps.length = picsB n ps := rfl
  rw [e3] at HE
  have HF := Lib.hid (fault_cases n cs)
  obtain ⟨a, cap, rfl, -⟩ := hV
  obtain ⟨pa, pcap, rfl, -⟩ := hP
  have HX := Lib.hid (heap_alloc_new w (.cells #[.int .i64 n, .slice a cs.length cap] 31))
  have HB := Lib.hid (box_below w (.cells #[.int .i64 n, .slice a cs.length cap] 31))
  generalize faultA n cs = F at *
  generalize askE n cs ps = A at *
  generalize picsB n ps = Z at *
  have E1 := Lib.hid e1
  have E2 := Lib.hid e2
  clear e1 e2 e3
  go_enter Try.func69, Try.ntmps69
  go_wp2_with fail
  refine (HC.out _ HB.out).mono ?_
  rintro e w1 ⟨rfl, hb1⟩
  have HX1 := Lib.hid ((hb1.block _ (lt_of_block HX.out)).trans HX.out)
  have HB1 := Lib.hid (below_to HB.out hb1)
  clear hb1 HX
  have c0 := cell_of_row w1 w.heap.size 0 _ _ _ HX1.out
  have c1 := cell_of_row w1 w.heap.size 1 _ _ _ HX1.out
  simp only [List.getElem?_toArray, List.getElem?_cons_zero, List.getElem?_cons_succ] at c0 c1
  have l0 := lt_of_block HX1.out
  by_cases hf : F = 0
  · have EA := Lib.hid (E2.out hf)
    subst hf
    go_wp2_with fail
    refine (HE.out _ HB1.out).mono ?_
    rintro e w2 ⟨rfl, hb2⟩
    have HB2 := Lib.hid (below_to HB1.out hb2)
    clear hb2
    cases Z with
    | false =>
      go_wp2
      go_ret
      exact ⟨by rw [EA.out]; rfl, HB2.out⟩
    | true =>
      go_wp2
      go_ret
      exact ⟨by rw [EA.out]; rfl, HB2.out⟩
  · have EA := Lib.hid (E1.out hf)
    have hf1 : (F != 0) = true := by simp [hf]
    have hf2 : (F == 0) = false := by simp [hf]
    clear hf
    go_wp2
    go_ret
    exact ⟨by rw [EA.out]; rfl, HB1.out⟩
end Go.Proofs.Ytplmlmmjfkbabaa
