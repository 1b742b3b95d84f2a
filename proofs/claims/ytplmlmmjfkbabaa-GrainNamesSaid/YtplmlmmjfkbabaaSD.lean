/- Whether grades fit, by the reference. No condition. -/
import Derived.Test.YtplmlmmjfkbabaaSC
namespace Go.Proofs.Ytplmlmmjfkbabaa
open Go.RowKit Go.Shelf
attribute [local irreducible] arrV wpQuiet mat shl

theorem ofL_nat (gs : List Int) (P : Nat) : ofL gs P = ld gs P := by
  unfold ofL
  rw [if_neg (by omega)]
  rfl
theorem ld_in {gs : List Int} {q : Nat} (h : q < gs.length) : ld gs q ∈ gs := by
  have : ld gs q = gs[q] := by simp [ld, h]
  rw [this]
  exact List.getElem_mem h
theorem all_yes {gs : List Int} {B : Int → Bool} (h : ∀ j, j < gs.length → B (ld gs j) = true) : gs.all B = true := by
  rw [← all_intB]
  exact allN_yes h
theorem all_no {gs : List Int} {B : Int → Bool} {j : Nat} (hj : j < gs.length) (h : B (ld gs j) = false) : gs.all B = false := by
  rw [← all_intB B gs]
  exact allN_no hj h
theorem allC_yes {cs : List Cm} {B : Cm → Bool} (h : ∀ j, j < cs.length → B (cm cs j) = true) : cs.all B = true := by
  rw [← all_cmB]
  exact allN_yes h
theorem allC_no {cs : List Cm} {B : Cm → Bool} {j : Nat} (hj : j < cs.length) (h : B (cm cs j) = false) : cs.all B = false := by
  rw [← all_cmB B cs]
  exact allN_no hj h
set_option maxRecDepth 100000 in
set_option maxHeartbeats 8000000 in
theorem refFits_any (m : Nat) (N : Nat) (v gv : Value) (cs : List Cm) (gs : List Int) (w : World) (hA : AlbOk N cs) (hgl : gs.length ≤ maxLen) (hV : CmsV m w v cs) (hG : IntsV m w gv gs) (hm : m ≤ w.heap.size) :
    Calls Try.prog 32 #[.agg #[.int .i64 N, v], gv] w fun e w' => e = .returned (.bool (fitB N cs gs)) ∧ Below w.heap.size w w' := by
  have h8 := hA.n8
  have HOK := Lib.hid hA
  have E1 : Hid ((gs.length : Int) ≠ N → fitB N cs gs = false) := Lib.hid fun h => by simp only [fitB, h, decide_false, Bool.false_and]
  have E2 : Hid (∀ j, j < gs.length → hasB 0 100 (ld gs j) = false → fitB N cs gs = false) := Lib.hid fun j hj h => by simp only [fitB, all_no hj h, Bool.false_and, Bool.and_false]
  have E3 : Hid (∀ j, j < cs.length → agreeB gs (cm cs j) = false → fitB N cs gs = false) := Lib.hid fun j hj h => by simp only [fitB, allC_no hj h, Bool.and_false]
  have E4 : Hid ((gs.length : Int) = N → (∀ j, j < gs.length → hasB 0 100 (ld gs j) = true) → (∀ j, j < cs.length → agreeB gs (cm cs j) = true) → fitB N cs gs = true) := Lib.hid fun h1 h2 h3 => by simp only [fitB, h1, all_yes h2, allC_yes h3, decide_true, Bool.and_self]
  generalize fitB N cs gs = Z at *
  obtain ⟨a, cap, rfl, hp⟩ := hV
  obtain ⟨ga, gcap, rfl, hq⟩ := hG
  have HP := Lib.hid hp
  have HQ := Lib.hid hq
  have HX := Lib.hid (heap_alloc_new w (.cells #[.int .i64 N, .slice a cs.length cap] 24))
  have HB := Lib.hid (box_below w (.cells #[.int .i64 N, .slice a cs.length cap] 24))
  unfold maxLen at hgl
  have hcl := hA.len
  clear hp hq hA
  by_cases hn : (gs.length : Int) = N
  · have hn1 : ((gs.length : Int) != N) = false := by simp [hn]
    have HN := Lib.hid hn
    clear hn
    go_enter Try.func32, Try.ntmps32
    go_wp2_with fail
    generalize w.alloc _ = W at *
    go_loopw [5] (fun i wr => ∃ q : Nat, q ≤ gs.length ∧ i = .int .i64 q ∧ Hid (∀ j, j < q → hasB 0 100 (ld gs j) = true) ∧ Hid (wr.heap[w.heap.size]? = some (.cells #[.int .i64 N, .slice a cs.length cap] 24 (0, 0))) ∧ Hid (Below w.heap.size w wr)) (fun i _ => gs.length - (intOf i).toNat)
    case atStart => exact ⟨0, Nat.zero_le _, rfl, Lib.hid (fun j h => absurd h (Nat.not_lt_zero j)), HX, HB⟩
    case round =>
      clear HX HB
      obtain ⟨q, hq, rfl, HY, HX, HB⟩ := hrel
      by_cases hlt : q < gs.length
      · have hqn : (q : Int) < gs.length := by omega
        have hwq : IntKind.i64.wrap ((q : Int) + 1) = (q : Int) + 1 := IntWalk.i64_in _ (by omega)
        obtain ⟨bl, off, rfl, hbl, hc⟩ := HQ.out (by omega)
        have p1 := (HB.out.cell (p := ⟨bl, off + q, none⟩) (show bl < w.heap.size by omega)).trans (hc q hlt)
        have HE2 := Lib.hid (E2.out q hlt)
        have HY2 := Lib.hid fun (h : hasB 0 100 (ld gs q) = true) j (hj : j < q + 1) => show hasB 0 100 (ld gs j) = true from (Nat.lt_or_ge j q).elim (HY.out j) fun h2 => by rw [show j = q by omega]; exact h
        generalize ld gs q = X at *
        clear hc
        go_wp2_with fail
        refine (In_any X 0 100 wr).mono ?_
        rintro e w1 ⟨rfl, hb⟩
        have HX1 := Lib.hid ((hb.block _ (lt_of_block HX.out)).trans HX.out)
        have HB1 := Lib.hid (below_to HB.out hb)
        clear hb HX HB p1
        cases hz : hasB 0 100 X with
        | false =>
          have EE := Lib.hid (HE2.out hz)
          clear hz
          go_wp2
          go_ret
          exact ⟨by rw [EE.out]; rfl, HB1.out⟩
        | true =>
          have HY3 := Lib.hid (HY2.out hz)
          clear hz HY2 HY HE2
          go_wp2_with fail
          go_roundw
          case rel => exact ⟨q + 1, by omega, by simp, HY3, HX1, HB1⟩
          case measure => simp [intOf] <;> omega
      · obtain rfl : q = gs.length := by omega
        rename World => W5
        have HGI : Hid (∀ g, g ∈ gs → 0 ≤ g ∧ g ≤ 100) := Lib.hid (hasB_all (all_yes HY.out))
        go_wp2_with fail
        go_loopw [6] (fun i wr => ∃ q : Nat, q ≤ cs.length ∧ i = .int .i64 q ∧ Hid (∀ j, j < q → agreeB gs (cm cs j) = true) ∧ Hid (wr.heap[w.heap.size]? = some (.cells #[.int .i64 N, .slice a cs.length cap] 24 (0, 0))) ∧ Hid (Below w.heap.size w wr)) (fun i _ => cs.length - (intOf i).toNat)
        case atStart => exact ⟨0, Nat.zero_le _, rfl, Lib.hid (fun j h => absurd h (Nat.not_lt_zero j)), HX, HB⟩
        case round =>
          clear HX HB
          obtain ⟨q, hq, rfl, HA, HX, HB⟩ := hrel
          have c0 := cell_of_row wr w.heap.size 0 _ _ _ HX.out
          have c1 := cell_of_row wr w.heap.size 1 _ _ _ HX.out
          simp only [List.getElem?_toArray, List.getElem?_cons_zero, List.getElem?_cons_succ] at c0 c1
          have lc := lt_of_block HX.out
          by_cases hlt : q < cs.length
          · have hqn : (q : Int) < cs.length := by omega
            have hwq : IntKind.i64.wrap ((q : Int) + 1) = (q : Int) + 1 := IntWalk.i64_in _ (by omega)
            obtain ⟨bl, off, rfl, hbl, hc⟩ := HP.out (by omega)
            obtain ⟨d1, d2, d3, d4⟩ := hc q hlt
            have HOKC := Lib.hid (HOK.out.cm _ (cm_mem hlt))
            have HE3 := Lib.hid (E3.out q hlt)
            have HA2 := Lib.hid fun (h : agreeB gs (cm cs q) = true) j (hj : j < q + 1) => show agreeB gs (cm cs j) = true from (Nat.lt_or_ge j q).elim (HA.out j) fun h2 => by rw [show j = q by omega]; exact h
            obtain ⟨⟨l, r, lo, hi⟩, hcc⟩ : ∃ c, c = cm cs q := ⟨_, rfl⟩
            rw [← hcc] at d1 d2 d3 d4 HOKC HE3 HA2
            have o1 := HOKC.out.l0
            have o2 := HOKC.out.ln
            have o3 := HOKC.out.r0
            have o4 := HOKC.out.rn
            have o5 := HN.out
            simp only at d1 d2 d3 d4 o1 o2 o3 o4
            obtain ⟨L, rfl⟩ : ∃ L : Nat, l = L := ⟨l.toNat, by omega⟩
            have hL : L < gs.length := by omega
            obtain ⟨gl, goff, rfl, hgl2, hgc⟩ := HQ.out (by omega)
            have p1 := (HB.out.cell (p := ⟨bl, off + q * 4, none⟩) (show bl < w.heap.size by omega)).trans d1
            have p2 := (HB.out.cell (p := ⟨bl, off + q * 4 + 1, none⟩) (show bl < w.heap.size by omega)).trans d2
            have p3 := (HB.out.cell (p := ⟨bl, off + q * 4 + 2, none⟩) (show bl < w.heap.size by omega)).trans d3
            have p4 := (HB.out.cell (p := ⟨bl, off + q * 4 + 3, none⟩) (show bl < w.heap.size by omega)).trans d4
            have g1 := (HB.out.cell (p := ⟨gl, goff + L, none⟩) (show gl < w.heap.size by omega)).trans (hgc L hL)
            have lw := HB.out.size
            have lb : bl < wr.heap.size := by omega
            have lg : gl < wr.heap.size := by omega
            have lg2 : gl < wr.heap.size + 1 := by omega
            have hLi : (L : Int) < gs.length := by omega
            have b1 := HGI.out _ (ld_in hL)
            obtain ⟨OL, hOL⟩ : ∃ x, x = ld gs L := ⟨_, rfl⟩
            rw [← hOL] at g1 b1
            clear hcc d1 d2 d3 d4 hc
            by_cases hr : 0 ≤ r
            · obtain ⟨R, rfl⟩ : ∃ R : Nat, r = R := ⟨r.toNat, by omega⟩
              have hR : R < gs.length := by omega
              have g2 := (HB.out.cell (p := ⟨gl, goff + R, none⟩) (show gl < w.heap.size by omega)).trans (hgc R hR)
              have hRi : (R : Int) < gs.length := by omega
              have b2 := HGI.out _ (ld_in hR)
              obtain ⟨OR, hOR⟩ : ∃ x, x = ld gs R := ⟨_, rfl⟩
              rw [← hOR] at g2 b2
              have HAG : Hid (agreeB gs ⟨L, R, lo, hi⟩ = hasB lo hi (OL - OR)) := Lib.hid (by unfold agreeB; simp only; rw [ofL_nat, ofL_nat, hOL, hOR])
              rw [HAG.out] at HE3 HA2
              have hw1 : IntKind.i64.wrap (OL - OR) = OL - OR := IntWalk.i64_in _ (by omega)
              have ew : decide ((0 : Int) ≤ R) = true := decide_eq_true hr
              clear hOL hOR hgc b1 b2 o1 o2 o3 o4 o5 hL hR HOKC HAG hr hgl2 hbl
              go_wp2_with fail
              have hbx := box_below wr (.cells #[.int .i64 L, .int .i64 R, .int .i64 lo, .int .i64 hi] 73)
              have HX1 := Lib.hid ((hbx.block _ (lt_of_block HX.out)).trans HX.out)
              have HB1 := Lib.hid (below_to HB.out hbx)
              clear hbx HX HB c0 c1 lc p1 p2 p3 p4 g1 g2 lw lb lg lg2
              generalize World.alloc wr _ = W6 at *
              refine (In_any (OL - OR) lo hi W6).mono ?_
              rintro e W7 ⟨rfl, hb⟩
              have HX2 := Lib.hid ((hb.block _ (lt_of_block HX1.out)).trans HX1.out)
              have HB2 := Lib.hid (below_to HB1.out hb)
              clear hb HX1 HB1
              cases hz : hasB lo hi (OL - OR) with
              | false =>
                have EE := Lib.hid (HE3.out hz)
                clear hz
                go_wp2
                go_ret
                exact ⟨by rw [EE.out]; rfl, HB2.out⟩
              | true =>
                have HA3 := Lib.hid (HA2.out hz)
                clear hz HA2 HA HE3
                go_wp2_with fail
                go_roundw
                case rel => exact ⟨q + 1, by omega, by simp, HA3, HX2, HB2⟩
                case measure => simp [intOf] <;> omega
            · obtain rfl : r = -1 := by omega
              have HAG : Hid (agreeB gs ⟨L, -1, lo, hi⟩ = hasB lo hi OL) := Lib.hid (by unfold agreeB; simp only; rw [ofL_nat, ← hOL]; simp [ofL])
              rw [HAG.out] at HE3 HA2
              have ew : decide ((0 : Int) ≤ -1) = false := by decide
              clear hOL hgc b1 o1 o2 o3 o4 o5 hL HOKC HAG hr hgl2 hbl
              go_wp2_with fail
              have hbx := box_below wr (.cells #[.int .i64 L, .int .i64 (-1), .int .i64 lo, .int .i64 hi] 73)
              have HX1 := Lib.hid ((hbx.block _ (lt_of_block HX.out)).trans HX.out)
              have HB1 := Lib.hid (below_to HB.out hbx)
              clear hbx HX HB c0 c1 lc p1 p2 p3 p4 g1 lw lb lg lg2
              generalize World.alloc wr _ = W6 at *
              refine (In_any (OL) lo hi W6).mono ?_
              rintro e W7 ⟨rfl, hb⟩
              have HX2 := Lib.hid ((hb.block _ (lt_of_block HX1.out)).trans HX1.out)
              have HB2 := Lib.hid (below_to HB1.out hb)
              clear hb HX1 HB1
              cases hz : hasB lo hi (OL) with
              | false =>
                have EE := Lib.hid (HE3.out hz)
                clear hz
                go_wp2
                go_ret
                exact ⟨by rw [EE.out]; rfl, HB2.out⟩
              | true =>
                have HA3 := Lib.hid (HA2.out hz)
                clear hz HA2 HA HE3
                go_wp2_with fail
                go_roundw
                case rel => exact ⟨q + 1, by omega, by simp, HA3, HX2, HB2⟩
                case measure => simp [intOf] <;> omega
          · obtain rfl : q = cs.length := by omega
            have EE := Lib.hid (E4.out HN.out HY.out HA.out)
            go_wp2
            go_ret
            exact ⟨by rw [EE.out]; rfl, HB.out⟩
  · have hn1 : ((gs.length : Int) != N) = true := by simp [hn]
    have EE := Lib.hid (E1.out hn)
    clear hn
    go_enter Try.func32, Try.ntmps32
    go_wp2
    go_ret
    exact ⟨by rw [EE.out]; rfl, HB.out⟩
end Go.Proofs.Ytplmlmmjfkbabaa
