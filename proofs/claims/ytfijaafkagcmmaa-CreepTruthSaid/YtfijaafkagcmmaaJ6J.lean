/- Are rates some of a material, by the reference: its contract. Condition: lists no longer than any machine's. The law CreepStretches, walked. No condition. The law CreepAllows, walked. No condition. -/
import Derived.Test.YtfijaafkagcmmaaJ2J
import Derived.Test.YtfijaafkagcmmaaC1J
import Derived.BigRegion
import Derived.StillTailTactics
namespace Go.Proofs.Ytfijaafkagcmmaa
open Go.RowKit Go.Shelf
attribute [local irreducible] arrV wpQuiet

theorem are_no {ms : List Rg} {x : List Int} {q : Nat} (h : q < ms.length) (h2 : hasB (rg ms q).lo (rg ms q).hi (ld x q) = false) : areB ms x = false := by
  have : hasesB ms x = false := allN_no (j := q) h h2
  simp [areB, this]
theorem are_drop {ms : List Rg} {x : List Int} {q : Nat} (h : q + 1 < x.length) (h2 : ld x (q + 1) < ld x q) : areB ms x = false := by
  simp [areB, sort_no h h2]
theorem are_yes {ms : List Rg} {x : List Int} (h : x.length = ms.length) (h1 : ∀ j, j < ms.length → hasB (rg ms j).lo (rg ms j).hi (ld x j) = true) (h2 : ∀ j, j + 1 < ms.length → ld x j ≤ ld x (j + 1)) : areB ms x = true := by
  have e1 : hasesB ms x = true := allN_yes h1
  have e2 : sortB x = true := sort_yes fun i hi => h2 i (by omega)
  simp [areB, e1, e2, h]

set_option maxRecDepth 100000 in
set_option maxHeartbeats 4000000 in
theorem AreRates_any (n : Nat) (mv xv : Value) (ms : List Rg) (x : List Int) (w : World) (hl : ms.length ≤ 1000) (hlx : x.length ≤ 1000) (hV : RgsV n w mv ms) (hX : IntsV n w xv x) (hn : n ≤ w.heap.size) :
    Calls Try.prog 25 #[.agg #[mv], xv] w fun e w' => e = .returned (.bool (areB ms x)) ∧ Below w.heap.size w w' := by
  obtain ⟨am, capm, rfl, hp⟩ := hV
  obtain ⟨xa, xcap, rfl, -, hxp⟩ := hX
  have HP := Lib.hid hp
  have HXP := Lib.hid hxp
  have HX := Lib.hid (heap_alloc_new w (.cells #[.slice am ms.length capm] 24))
  have HB := Lib.hid (box_below w (.cells #[.slice am ms.length capm] 24))
  have HN := Lib.hid fun q => @are_no ms x q
  have HD := Lib.hid fun q => @are_drop ms x q
  have HY := Lib.hid (@are_yes ms x)
  have HL : Hid (areB ms x = true → x.length = ms.length) := Lib.hid fun h => by
    simp only [areB, Bool.and_eq_true, decide_eq_true_eq] at h
    exact h.1
  generalize areB ms x = A at *
  clear hp hxp
  go_enter Try.func25, Try.ntmps25
  by_cases hle : x.length = ms.length
  · have HLE := Lib.hid hle
    rw [hle] at HXP hlx ⊢
    have hne : ((ms.length : Int) != ms.length) = false := by simp
    clear hle HL
    go_wp2
    generalize World.alloc w _ = W at *
    go_loopw [5] (fun i wr => ∃ k : Int, 0 ≤ k ∧ k ≤ ms.length ∧ i = .int .i64 k ∧ Hid (∀ j : Nat, (j : Int) < k → hasB (rg ms j).lo (rg ms j).hi (ld x j) = true) ∧ Hid (∀ j : Nat, (j : Int) + 1 < k → ld x j ≤ ld x (j + 1)) ∧ Hid (wr.heap[w.heap.size]? = some (.cells #[.slice am ms.length capm] 24 (0, 0))) ∧ Hid (Below w.heap.size w wr)) (fun i _ => ms.length - (intOf i).toNat)
    case atStart => exact ⟨0, by omega, by omega, rfl, Lib.hid (fun j hj => by omega), Lib.hid (fun j hj => by omega), HX, HB⟩
    case round =>
      clear HX HB
      obtain ⟨k, hk0, hk, rfl, hg, hs, hx, hb⟩ := hrel
      by_cases hlt : k < ms.length
      · have hbx : ∃ b off, xa = some ⟨b, off, none⟩ ∧ b < w.heap.size ∧ ∀ i, i < ms.length → w.cell? ⟨b, off + i, none⟩ = some (.int .i64 (ld x i)) := by
          obtain ⟨b, off, e, h1, h2⟩ := HXP.out (by omega)
          exact ⟨b, off, e, by omega, h2⟩
        obtain ⟨b, off, rfl, hbn, hc⟩ := HP.out (by omega)
        obtain ⟨xb, xoff, rfl, hltx, hxc⟩ := hbx
        have hltb : b < w.heap.size := by omega
        have c0 := cell_of_row wr w.heap.size 0 _ _ _ hx.out
        simp at c0
        have g0 := cell_regrown c0
        have ls0 := lt_of_block hx.out
        have lsb : b < wr.heap.size := by have := hb.out.size; omega
        have lsx : xb < wr.heap.size := by have := hb.out.size; omega
        have HWK : Hid (IntKind.i64.wrap (k + 1) = k + 1) := Lib.hid (IntWalk.i64_in _ (by omega))
        by_cases hk1 : 0 < k
        · obtain ⟨p, hq⟩ : ∃ p : Nat, k = (p : Int) + 1 := ⟨(k - 1).toNat, by omega⟩
          subst hq
          have p1 := (hb.out.cell (p := ⟨b, off + (p + 1) * 2, none⟩) hltb).trans (hc (p + 1) (by omega)).1
          have p2 := (hb.out.cell (p := ⟨b, off + (p + 1) * 2 + 1, none⟩) hltb).trans (hc (p + 1) (by omega)).2
          have p3 := (hb.out.cell (p := ⟨xb, xoff + (p + 1), none⟩) hltx).trans (hxc (p + 1) (by omega))
          have p4 := (hb.out.cell (p := ⟨xb, xoff + p, none⟩) hltx).trans (hxc p (by omega))
          have HAS := Lib.hid (In_any (ld x (p + 1)) (rg ms (p + 1)).lo (rg ms (p + 1)).hi)
          have HNQ := Lib.hid (HN.out (p + 1) (by omega))
          have HDQ := Lib.hid (HD.out p (by rw [HLE.out]; omega))
          have HGQ : Hid (hasB (rg ms (p + 1)).lo (rg ms (p + 1)).hi (ld x (p + 1)) = true → ∀ j : Nat, (j : Int) < (p : Int) + 1 + 1 → hasB (rg ms j).lo (rg ms j).hi (ld x j) = true) := Lib.hid fun h j hj => by
            by_cases e : j = p + 1
            · rw [e]; exact h
            · exact hg.out j (by omega)
          have HSQ : Hid (ld x p ≤ ld x (p + 1) → ∀ j : Nat, (j : Int) + 1 < (p : Int) + 1 + 1 → ld x j ≤ ld x (j + 1)) := Lib.hid fun h j hj => by
            by_cases e : j = p
            · rw [e]; exact h
            · exact hs.out j (by omega)
          have hpn : (p : Int) < ms.length := by omega
          have HW1 : Hid (IntKind.i64.wrap (p : Int) = (p : Int)) := Lib.hid (IntWalk.i64_in _ (by omega))
          have HWQ : Hid (wrap64 (p : Int) = (p : Int)) := Lib.hid (IntWalk.wrap64_in _ (by omega))
          have HKT : Hid (((p : Int) + 1).toNat = p + 1) := Lib.hid (by omega)
          have HPN2 : Hid ((p : Int) + 1 + 1 ≤ ms.length) := Lib.hid (by omega)
          have HM2 : Hid (ms.length - ((p : Int) + 1 + 1).toNat < ms.length - ((p : Int) + 1).toNat) := Lib.hid (by omega)
          generalize hasB (rg ms (p + 1)).lo (rg ms (p + 1)).hi (ld x (p + 1)) = z at *
          generalize (rg ms (p + 1)).lo = lo at *
          generalize (rg ms (p + 1)).hi = hi at *
          generalize ld x (p + 1) = x1 at *
          generalize ld x p = x0 at *
          have g1 := cell_regrown p1
          have g2 := cell_regrown p2
          have g3 := cell_regrown p3
          have g4 := cell_regrown p4
          clear hc hxc hg hs c0 p1 p2 p3 p4
          have hwk := HWK.out
          have hw1 := HW1.out
          have hwq := HWQ.out
          have hkt := HKT.out
          go_wp2_with fail
          cases z with
          | false =>
            have HZ := Lib.hid (HNQ.out rfl)
            clear HGQ HNQ HSQ HDQ
            refine wp_region_quiet_below (by kernel_rfl) (by kernel_rfl) ?_
            repeat (quiet_step (with_reducible exact Calls.regrown_of (HAS.out _)))
            refine wpQuiet_nil ?_
            intro _ hw'
            obtain ⟨⟨dq, osq⟩, hw''⟩ := hw'
            subst hw''
            have hbr := Lib.hid (below_to hb.out (below_regrown wr dq osq))
            clear g0 g1 g2 g3 g4 hx hb
            go_wp2
            go_ret
            exact ⟨by rw [HZ.out]; rfl, hbr.out⟩
          | true =>
            have HZ := Lib.hid (HGQ.out rfl)
            clear HGQ HNQ
            by_cases hxx : x1 < x0
            · have HZ2 := Lib.hid (HDQ.out hxx)
              have hd : decide (x1 < x0) = true := decide_eq_true hxx
              clear HSQ HDQ
              refine wp_region_quiet_below (by kernel_rfl) (by kernel_rfl) ?_
              repeat (quiet_step (with_reducible exact Calls.regrown_of (HAS.out _)))
              refine wpQuiet_nil ?_
              intro _ hw'
              obtain ⟨⟨dq, osq⟩, hw''⟩ := hw'
              subst hw''
              have hbr := Lib.hid (below_to hb.out (below_regrown wr dq osq))
              clear g0 g1 g2 g3 g4 hx hb
              go_wp2
              go_ret
              exact ⟨by rw [HZ2.out]; rfl, hbr.out⟩
            · have HZ2 := Lib.hid (HSQ.out (Int.not_lt.1 hxx))
              have hd : decide (x1 < x0) = false := decide_eq_false hxx
              clear HSQ HDQ
              refine wp_region_quiet_below (by kernel_rfl) (by kernel_rfl) ?_
              repeat (quiet_step (with_reducible exact Calls.regrown_of (HAS.out _)))
              refine wpQuiet_nil ?_
              intro _ hw'
              obtain ⟨⟨dq, osq⟩, hw''⟩ := hw'
              subst hw''
              have hxr := Lib.hid ((below_regrown wr dq osq).block _ (lt_of_block hx.out) |>.trans hx.out)
              have hbr := Lib.hid (below_to hb.out (below_regrown wr dq osq))
              clear g0 g1 g2 g3 g4 hx hb
              go_wp2
              go_roundw
              case rel => exact ⟨(p : Int) + 1 + 1, Int.le_trans hk0 (Int.le_add_of_nonneg_right (by decide)), HPN2.out, rfl, HZ, HZ2, hxr, hbr⟩
              case measure => exact HM2.out
        · obtain rfl : k = 0 := by omega
          have p1 := (hb.out.cell (p := ⟨b, off + 0 * 2, none⟩) hltb).trans (hc 0 (by omega)).1
          have p2 := (hb.out.cell (p := ⟨b, off + 0 * 2 + 1, none⟩) hltb).trans (hc 0 (by omega)).2
          have p3 := (hb.out.cell (p := ⟨xb, xoff + 0, none⟩) hltx).trans (hxc 0 (by omega))
          have HAS := Lib.hid (In_any (ld x 0) (rg ms 0).lo (rg ms 0).hi)
          have HNQ := Lib.hid (HN.out 0 (by omega))
          have HGQ : Hid (hasB (rg ms 0).lo (rg ms 0).hi (ld x 0) = true → ∀ j : Nat, (j : Int) < 1 → hasB (rg ms j).lo (rg ms j).hi (ld x j) = true) := Lib.hid fun h j hj => by
            obtain rfl : j = 0 := by omega
            exact h
          have hpn : (0 : Int) < ms.length := by omega
          have HPN1 : Hid ((1 : Int) ≤ ms.length) := Lib.hid (by omega)
          have HM1 : Hid (ms.length - (1 : Int).toNat < ms.length - (0 : Int).toNat) := Lib.hid (by show ms.length - 1 < ms.length - 0; omega)
          have HS1 : Hid (∀ j : Nat, (j : Int) + 1 < 1 → ld x j ≤ ld x (j + 1)) := Lib.hid (fun j hj => by omega)
          simp only [Nat.zero_mul, Nat.add_zero] at p1 p2 p3
          generalize hasB (rg ms 0).lo (rg ms 0).hi (ld x 0) = z at *
          generalize (rg ms 0).lo = lo at *
          generalize (rg ms 0).hi = hi at *
          generalize ld x 0 = x1 at *
          have g1 := cell_regrown p1
          have g2 := cell_regrown p2
          have g3 := cell_regrown p3
          clear hc hxc hg hs c0 p1 p2 p3
          have hwk := HWK.out
          go_wp2_with fail
          cases z with
          | false =>
            have HZ := Lib.hid (HNQ.out rfl)
            clear HGQ HNQ
            refine wp_region_quiet_below (by kernel_rfl) (by kernel_rfl) ?_
            repeat (quiet_step (with_reducible exact Calls.regrown_of (HAS.out _)))
            refine wpQuiet_nil ?_
            intro _ hw'
            obtain ⟨⟨dq, osq⟩, hw''⟩ := hw'
            subst hw''
            have hbr := Lib.hid (below_to hb.out (below_regrown wr dq osq))
            clear g0 g1 g2 g3 hx hb
            go_wp2
            go_ret
            exact ⟨by rw [HZ.out]; rfl, hbr.out⟩
          | true =>
            have HZ := Lib.hid (HGQ.out rfl)
            clear HGQ HNQ
            refine wp_region_quiet_below (by kernel_rfl) (by kernel_rfl) ?_
            repeat (quiet_step (with_reducible exact Calls.regrown_of (HAS.out _)))
            refine wpQuiet_nil ?_
            intro _ hw'
            obtain ⟨⟨dq, osq⟩, hw''⟩ := hw'
            subst hw''
            have hxr := Lib.hid ((below_regrown wr dq osq).block _ (lt_of_block hx.out) |>.trans hx.out)
            have hbr := Lib.hid (below_to hb.out (below_regrown wr dq osq))
            clear g0 g1 g2 g3 hx hb
            go_wp2
            go_roundw
            case rel => exact ⟨1, by decide, HPN1.out, rfl, HZ, HS1, hxr, hbr⟩
            case measure => exact HM1.out
      · obtain rfl : k = ms.length := by omega
        have HZ := Lib.hid (HY.out HLE.out (fun j hj => hg.out j (by omega)) (fun j hj => hs.out j (by omega)))
        go_wp2
        go_ret
        exact ⟨by rw [HZ.out]; rfl, hb.out⟩
  · have hne : ((x.length : Int) != ms.length) = true := by rw [bne_iff_ne]; omega
    have hne2 : ((x.length : Int) == ms.length) = false := by rw [beq_eq_false_iff_ne]; omega
    have HA : Hid (A = false) := Lib.hid (by
      cases A with
      | false => rfl
      | true => exact absurd (HL.out rfl) hle)
    go_wp2
    go_ret
    exact ⟨by rw [HA.out]; rfl, HB.out⟩
end Go.Proofs.Ytfijaafkagcmmaa
namespace Go.Proofs.Ytfijaafkagcmmaa
open Go.RowKit Go.Shelf
attribute [local irreducible] arrV wpQuiet

def sloT (LL : List (List Int)) (ss : List Sg) (i : Nat) : Int := ((LL.take i).map (loS ss)).foldl min (loS ss ((LL[0]?).getD []))
def shiT (LL : List (List Int)) (ss : List Sg) (i : Nat) : Int := ((LL.take i).map (hiS ss)).foldl max (hiS ss ((LL[0]?).getD []))
theorem sloT_step {LL : List (List Int)} {ss : List Sg} {i : Nat} {L : List Int} (h : LL[i]? = some L) : sloT LL ss (i + 1) = min (sloT LL ss i) (loS ss L) ∧ shiT LL ss (i + 1) = max (shiT LL ss i) (hiS ss L) := by
  unfold sloT shiT
  rw [List.take_add_one, h]
  simp [List.foldl_append]
theorem sloT_end {LL : List (List Int)} (h : LL ≠ []) (ss : List Sg) : sloT LL ss LL.length = (stretchL LL ss).lo ∧ shiT LL ss LL.length = (stretchL LL ss).hi := by
  cases LL with
  | nil => exact absurd rfl h
  | cons L LL =>
    unfold sloT shiT stretchL
    rw [List.take_of_length_le (Nat.le_refl _)]
    simp [leastL, greatL]
theorem plan_two {ms : List Rg} {rs : List Rn} {ss : List Sg} (ha : allowE ms rs = 0) (h : planE ms rs ss ≠ 0) : planE ms rs ss = 2 ∧ (segsB ms.length ss && decide ((ss.length : Int) ≤ 8)) = false := by
  unfold planE at h ⊢
  rw [if_pos ha] at h ⊢
  cases h1 : (segsB ms.length ss && decide ((ss.length : Int) ≤ 8)) <;> simp [h1] at h ⊢
theorem plan_allow {ms : List Rg} {rs : List Rn} {ss : List Sg} (ha : allowE ms rs ≠ 0) : planE ms rs ss = allowE ms rs := if_neg ha
theorem plan_zero {ms : List Rg} {rs : List Rn} {ss : List Sg} (h : planE ms rs ss = 0) : allowE ms rs = 0 ∧ (segsB ms.length ss && decide ((ss.length : Int) ≤ 8)) = true := by
  unfold planE at h
  by_cases ha : allowE ms rs = 0
  · rw [if_pos ha] at h
    cases h1 : (segsB ms.length ss && decide ((ss.length : Int) ≤ 8)) <;> simp [h1] at h ⊢
    exact ha
  · rw [if_neg ha] at h
    exact absurd h ha
theorem planB_ok {n : Nat} {ss : List Sg} (h : (segsB n ss && decide ((ss.length : Int) ≤ 8)) = true) : PlanOk n ss := by
  simp only [Bool.and_eq_true, decide_eq_true_eq] at h
  exact ⟨by omega, segsB_iff h.1⟩

set_option maxRecDepth 100000 in
set_option maxHeartbeats 8000000 in
theorem stretches_walk (mv rv pv : Value) (high : Bool) (ms : List Rg) (rs : List Rn) (ss : List Sg) (w : World) (hV : RgsV w.heap.size w mv ms) (hR : RunsV w.heap.size w rv rs) (hP : SegsV w.heap.size w pv ss) :
    Calls Try.prog 5 #[.agg #[mv], rv, pv, .bool high] w fun e w' => e = .returned (.bool true) ∧ Below w.heap.size w w' := by
  have HROOM : Hid (∀ w', Below w.heap.size w w' → RoomV w.heap.size w' mv rv ms rs) := Lib.hid fun w' h => ⟨h.size, hV.same (.below (Nat.le_refl _) h), hR.same (.below (Nat.le_refl _) h)⟩
  have HMA0 := Lib.hid fun (hl : ms.length ≤ 1000) w' (h : Below w.heap.size w w') => Material_any w.heap.size mv ms w' hl (hV.same (.below (Nat.le_refl _) h)) h.size
  have HRU0 := Lib.hid fun (hl : rs.length ≤ 1000) (hs : ∀ q, q ∈ rs → q.ss.length ≤ 1000) w' (h : Below w.heap.size w w') => Runs_any w.heap.size rv rs w' hl hs (hR.same (.below (Nat.le_refl _) h)) h.size
  have HPA0 := Lib.hid fun (hl : ss.length ≤ 1000) w' (h : Below w.heap.size w w') => Plan_any w.heap.size pv ss w' hl (hP.same (.below (Nat.le_refl _) h)) h.size
  have HPV := Lib.hid fun w' (h : Below w.heap.size w w') => hP.same (.below (n := w.heap.size) (Nat.le_refl _) h)
  have HRG := Lib.hid fun w' (h : Below w.heap.size w w') => hV.same (.below (n := w.heap.size) (Nat.le_refl _) h)
  have HRN := Lib.hid fun w' (h : Below w.heap.size w w') => hR.same (.below (n := w.heap.size) (Nat.le_refl _) h)
  obtain ⟨am, capm, rfl, -⟩ := hV
  obtain ⟨ap, capp, rfl, -⟩ := hP
  have HTH := Lib.hid fun w' (h : Below w.heap.size w w') => Thin_any w.heap.size am ms.length capm rv ap ss.length capp rs w' (hR.same (.below (Nat.le_refl _) h)) h.size
  obtain ⟨ar, capr, rfl, -⟩ := hR
  have HX := Lib.hid (heap_alloc_new w (.cells #[.slice am ms.length capm] 24))
  have HB := Lib.hid (box_below w (.cells #[.slice am ms.length capm] 24))
  have HA := Lib.hid awake_any
  have HHE := Lib.hid fun h => @thin_held ms.length ss.length ms rs rfl h
  have HHP := Lib.hid fun h => (@thin_all ms.length ss.length rs h).2.2.1
  generalize hz : thinB ms.length rs ss.length = z at *
  clear hz
  go_enter Try.func5, Try.ntmps5
  go_wp2_with fail
  refine (HTH.out _ HB.out).mono ?_
  rintro e u0 ⟨rfl, hb⟩
  have HXA := Lib.hid ((hb.block _ (lt_of_block HX.out)).trans HX.out)
  have HBA := Lib.hid (below_to HB.out hb)
  clear hb HX HB HTH
  cases z with
  | false =>
    go_wp2_with fail
    refine (HA.out u0).mono ?_
    rintro e u1 ⟨rfl, hb⟩
    have HBF := Lib.hid (below_to HBA.out hb)
    clear hb
    go_wp2
    go_ret
    exact ⟨rfl, HBF.out⟩
  | true =>
    have HH := Lib.hid (HHE.out (by trivial))
    have HPL := Lib.hid (HHP.out (by trivial))
    have HMA := Lib.hid (HMA0.out HH.out.m)
    have HRU := Lib.hid (HRU0.out HH.out.r HH.out.s)
    have HPA := Lib.hid (HPA0.out (by have := HPL.out; omega))
    clear HHE HHP HMA0 HRU0 HPA0
    by_cases hE : planE ms rs ss ≠ 0
    · have HE := Lib.hid hE
      clear hE
      have HMB : Hid (Calls Try.prog 17 #[] u0 fun e w' => e = .returned (.bool true) ∧ Below u0.heap.size u0 w') := Lib.hid (HA.out u0)
      clear HMB
      have c0 := cell_of_row u0 w.heap.size 0 _ _ _ HXA.out
      simp only [List.getElem?_toArray, List.getElem?_cons_zero] at c0
      have l0 := lt_of_block HXA.out
      go_wp2_with fail
      refine (HMA.out u0 HBA.out).mono ?_
      rintro e a1 ⟨⟨m6, rfl, hm6⟩, hb⟩
      replace HXA := Lib.hid ((hb.block _ (lt_of_block HXA.out)).trans HXA.out)
      replace HBA := Lib.hid (below_to HBA.out hb)
      clear hb
      have HM6 := Lib.hid hm6
      clear hm6 c0 l0
      go_wp2_with fail
      refine (HRU.out a1 HBA.out).mono ?_
      rintro e a2 ⟨⟨r7, rfl, hr7⟩, hb⟩
      replace HXA := Lib.hid ((hb.block _ (lt_of_block HXA.out)).trans HXA.out)
      replace HBA := Lib.hid (below_to HBA.out hb)
      replace HM6 := Lib.hid ((HM6.out.same (.below (Nat.le_refl _) hb)).up hb.size)
      clear hb
      have HV7 : Hid (RoomV a2.heap.size a2 m6 r7 ms rs) := Lib.hid ⟨Nat.le_refl _, HM6.out, hr7⟩
      clear hr7 HM6
      go_wp2_with fail
      refine (HPA.out a2 HBA.out).mono ?_
      rintro e a3 ⟨⟨p8, rfl, hp8⟩, hb⟩
      replace HXA := Lib.hid ((hb.block _ (lt_of_block HXA.out)).trans HXA.out)
      replace HBA := Lib.hid (below_to HBA.out hb)
      replace HV7 : Hid (RoomV _ _ _ _ _ _) := Lib.hid ⟨Nat.le_refl _, (HV7.out.below hb).m.up hb.size, (HV7.out.below hb).r.up hb.size⟩
      clear hb
      have HS8 := Lib.hid (own_segs (l := ss) hp8)
      clear hp8
      go_wp2_with fail
      have hst := Stretch_err a3.heap.size m6 r7 p8 ms rs ss a3 HH.out (by have := HPL.out; omega) HV7.out HS8.out HE.out
      refine (hst).mono ?_
      rintro e u1 ⟨rfl, hb⟩
      replace HXA := Lib.hid ((hb.block _ (lt_of_block HXA.out)).trans HXA.out)
      replace HBA := Lib.hid (below_to HBA.out hb)
      clear hb
      clear hst HV7 HS8
      have c0 := cell_of_row u1 w.heap.size 0 _ _ _ HXA.out
      simp only [List.getElem?_toArray, List.getElem?_cons_zero] at c0
      have l0 := lt_of_block HXA.out
      go_wp2_with fail
      have hbx := box_below u1 (.cells #[.int .i64 0, .int .i64 0] 50)
      have hnx := heap_alloc_new u1 (.cells #[.int .i64 0, .int .i64 0] 50)
      replace HXA := Lib.hid ((hbx.block _ (lt_of_block HXA.out)).trans HXA.out)
      replace HBA := Lib.hid (below_to HBA.out hbx)
      have BX := Lib.hid hnx
      clear hbx hnx
      generalize World.alloc u1 _ = u2 at *
      generalize u1.heap.size = bx at *
      clear c0 l0
      have c0 := cell_of_row u2 w.heap.size 0 _ _ _ HXA.out
      simp only [List.getElem?_toArray, List.getElem?_cons_zero] at c0
      have l0 := lt_of_block HXA.out
      go_wp2_with fail
      refine (HMA.out u2 HBA.out).mono ?_
      rintro e b1 ⟨⟨m6, rfl, hm6⟩, hb⟩
      replace HXA := Lib.hid ((hb.block _ (lt_of_block HXA.out)).trans HXA.out)
      replace HBA := Lib.hid (below_to HBA.out hb)
      replace BX := Lib.hid ((hb.block _ (lt_of_block BX.out)).trans BX.out)
      clear hb
      have HM6 := Lib.hid hm6
      clear hm6 c0 l0
      go_wp2_with fail
      refine (HRU.out b1 HBA.out).mono ?_
      rintro e b2 ⟨⟨r7, rfl, hr7⟩, hb⟩
      replace HXA := Lib.hid ((hb.block _ (lt_of_block HXA.out)).trans HXA.out)
      replace HBA := Lib.hid (below_to HBA.out hb)
      replace BX := Lib.hid ((hb.block _ (lt_of_block BX.out)).trans BX.out)
      replace HM6 := Lib.hid ((HM6.out.same (.below (Nat.le_refl _) hb)).up hb.size)
      clear hb
      have HV7 : Hid (RoomV b2.heap.size b2 m6 r7 ms rs) := Lib.hid ⟨Nat.le_refl _, HM6.out, hr7⟩
      clear hr7 HM6
      go_wp2_with fail
      refine (HPA.out b2 HBA.out).mono ?_
      rintro e b3 ⟨⟨p8, rfl, hp8⟩, hb⟩
      replace HXA := Lib.hid ((hb.block _ (lt_of_block HXA.out)).trans HXA.out)
      replace HBA := Lib.hid (below_to HBA.out hb)
      replace BX := Lib.hid ((hb.block _ (lt_of_block BX.out)).trans BX.out)
      replace HV7 : Hid (RoomV _ _ _ _ _ _) := Lib.hid ⟨Nat.le_refl _, (HV7.out.below hb).m.up hb.size, (HV7.out.below hb).r.up hb.size⟩
      clear hb
      have HS8 := Lib.hid (own_segs (l := ss) hp8)
      clear hp8
      go_wp2_with fail
      have hst := Shows_err b3.heap.size high m6 r7 p8 ms rs ss b3 HH.out (by have := HPL.out; omega) HV7.out HS8.out HE.out
      refine (hst).mono ?_
      rintro e u3 ⟨rfl, hb⟩
      replace HXA := Lib.hid ((hb.block _ (lt_of_block HXA.out)).trans HXA.out)
      replace HBA := Lib.hid (below_to HBA.out hb)
      replace BX := Lib.hid ((hb.block _ (lt_of_block BX.out)).trans BX.out)
      clear hb
      clear hst HV7 HS8
      have c0 := cell_of_row u3 w.heap.size 0 _ _ _ HXA.out
      simp only [List.getElem?_toArray, List.getElem?_cons_zero] at c0
      have l0 := lt_of_block HXA.out
      go_wp2_with fail
      have has := asked_any w.heap.size _ _ ms rs u3 HH.out (HROOM.out u3 HBA.out)
      refine (has).mono ?_
      rintro e u4 ⟨rfl, hb⟩
      replace HXA := Lib.hid ((hb.block _ (lt_of_block HXA.out)).trans HXA.out)
      replace HBA := Lib.hid (below_to HBA.out hb)
      replace BX := Lib.hid ((hb.block _ (lt_of_block BX.out)).trans BX.out)
      clear hb
      clear has c0 l0
      by_cases hA : allowE ms rs = 0
      · have hl2 := plan_two hA HE.out
        have HL2 := Lib.hid hl2.2
        rw [hA, hl2.1]
        clear hl2 hA HE
        have c0 := cell_of_row u4 w.heap.size 0 _ _ _ HXA.out
        simp only [List.getElem?_toArray, List.getElem?_cons_zero] at c0
        have l0 := lt_of_block HXA.out
        go_wp2_with fail
        have hip := IsPlan_any w.heap.size am ms.length capm (.slice ap ss.length capp) ss u4 (len_max HH.out.m) (len_max (by have := HPL.out; omega)) (HPV.out u4 HBA.out) HBA.out.size
        rw [HL2.out] at hip
        refine (hip).mono ?_
        rintro e u5 ⟨rfl, hb⟩
        replace HXA := Lib.hid ((hb.block _ (lt_of_block HXA.out)).trans HXA.out)
        replace HBA := Lib.hid (below_to HBA.out hb)
        replace BX := Lib.hid ((hb.block _ (lt_of_block BX.out)).trans BX.out)
        clear hb
        clear hip c0 l0
        have z0 := cell_of_row u5 bx 0 _ _ _ BX.out
        have z1 := cell_of_row u5 bx 1 _ _ _ BX.out
        simp only [List.getElem?_toArray, List.getElem?_cons_zero, List.getElem?_cons_succ] at z0 z1
        have lz := lt_of_block BX.out
        have hq := fun w => eqr50 0 0 0 0 w
        go_wp2_with fail
        refine (HA.out u5).mono ?_
        rintro e u9 ⟨rfl, hb⟩
        have HBF := Lib.hid (below_to HBA.out hb)
        clear hb
        go_wp2
        go_ret
        exact ⟨rfl, HBF.out⟩
      · rw [plan_allow hA]
        generalize allowE ms rs = E at *
        have h1 : (E == 0) = false := by rw [beq_eq_false_iff_ne]; exact hA
        have h2 : (E != 0) = true := by rw [bne_iff_ne]; exact hA
        clear HE
        have z0 := cell_of_row u4 bx 0 _ _ _ BX.out
        have z1 := cell_of_row u4 bx 1 _ _ _ BX.out
        simp only [List.getElem?_toArray, List.getElem?_cons_zero, List.getElem?_cons_succ] at z0 z1
        have lz := lt_of_block BX.out
        have hq := fun w => eqr50 0 0 0 0 w
        go_wp2_with fail
        refine (HA.out u4).mono ?_
        rintro e u9 ⟨rfl, hb⟩
        have HBF := Lib.hid (below_to HBA.out hb)
        clear hb
        go_wp2
        go_ret
        exact ⟨rfl, HBF.out⟩
    · have hz := plan_zero (Classical.not_not.1 hE)
      have HZ1 := Lib.hid hz.1
      have HZ2 := Lib.hid hz.2
      have HK := Lib.hid (allow_ok hz.1).1
      have HNE := Lib.hid (allow_ok hz.1).2
      have HPO := Lib.hid (planB_ok hz.2)
      clear hz hE
      obtain ⟨x0, E0L⟩ : ∃ x, Hid ((stretchL (okL ms rs) ss).lo = x) := ⟨_, Lib.hid rfl⟩
      obtain ⟨y0, E0H⟩ : ∃ x, Hid ((stretchL (okL ms rs) ss).hi = x) := ⟨_, Lib.hid rfl⟩
      have c0 := cell_of_row u0 w.heap.size 0 _ _ _ HXA.out
      simp only [List.getElem?_toArray, List.getElem?_cons_zero] at c0
      have l0 := lt_of_block HXA.out
      go_wp2_with fail
      refine (HMA.out u0 HBA.out).mono ?_
      rintro e a1 ⟨⟨m6, rfl, hm6⟩, hb⟩
      replace HXA := Lib.hid ((hb.block _ (lt_of_block HXA.out)).trans HXA.out)
      replace HBA := Lib.hid (below_to HBA.out hb)
      clear hb
      have HM6 := Lib.hid hm6
      clear hm6 c0 l0
      go_wp2_with fail
      refine (HRU.out a1 HBA.out).mono ?_
      rintro e a2 ⟨⟨r7, rfl, hr7⟩, hb⟩
      replace HXA := Lib.hid ((hb.block _ (lt_of_block HXA.out)).trans HXA.out)
      replace HBA := Lib.hid (below_to HBA.out hb)
      replace HM6 := Lib.hid ((HM6.out.same (.below (Nat.le_refl _) hb)).up hb.size)
      clear hb
      have HV7 : Hid (RoomV a2.heap.size a2 m6 r7 ms rs) := Lib.hid ⟨Nat.le_refl _, HM6.out, hr7⟩
      clear hr7 HM6
      go_wp2_with fail
      refine (HPA.out a2 HBA.out).mono ?_
      rintro e a3 ⟨⟨p8, rfl, hp8⟩, hb⟩
      replace HXA := Lib.hid ((hb.block _ (lt_of_block HXA.out)).trans HXA.out)
      replace HBA := Lib.hid (below_to HBA.out hb)
      replace HV7 : Hid (RoomV _ _ _ _ _ _) := Lib.hid ⟨Nat.le_refl _, (HV7.out.below hb).m.up hb.size, (HV7.out.below hb).r.up hb.size⟩
      clear hb
      have HS8 := Lib.hid (own_segs (l := ss) hp8)
      clear hp8
      go_wp2_with fail
      have hst := Stretch_ok a3.heap.size m6 r7 p8 ms rs ss a3 HK.out HV7.out HPO.out HS8.out HNE.out
      rw [E0L.out, E0H.out] at hst
      refine (hst).mono ?_
      rintro e u1 ⟨rfl, hb⟩
      replace HXA := Lib.hid ((hb.block _ (lt_of_block HXA.out)).trans HXA.out)
      replace HBA := Lib.hid (below_to HBA.out hb)
      clear hb
      clear hst HV7 HS8
      have c0 := cell_of_row u1 w.heap.size 0 _ _ _ HXA.out
      simp only [List.getElem?_toArray, List.getElem?_cons_zero] at c0
      have l0 := lt_of_block HXA.out
      go_wp2_with fail
      have hbx := box_below u1 (.cells #[.int .i64 x0, .int .i64 y0] 50)
      have hnx := heap_alloc_new u1 (.cells #[.int .i64 x0, .int .i64 y0] 50)
      replace HXA := Lib.hid ((hbx.block _ (lt_of_block HXA.out)).trans HXA.out)
      replace HBA := Lib.hid (below_to HBA.out hbx)
      have BX := Lib.hid hnx
      clear hbx hnx
      generalize World.alloc u1 _ = u2 at *
      generalize u1.heap.size = bx at *
      clear c0 l0
      have c0 := cell_of_row u2 w.heap.size 0 _ _ _ HXA.out
      simp only [List.getElem?_toArray, List.getElem?_cons_zero] at c0
      have l0 := lt_of_block HXA.out
      go_wp2_with fail
      refine (HMA.out u2 HBA.out).mono ?_
      rintro e b1 ⟨⟨m6, rfl, hm6⟩, hb⟩
      replace HXA := Lib.hid ((hb.block _ (lt_of_block HXA.out)).trans HXA.out)
      replace HBA := Lib.hid (below_to HBA.out hb)
      replace BX := Lib.hid ((hb.block _ (lt_of_block BX.out)).trans BX.out)
      clear hb
      have HM6 := Lib.hid hm6
      clear hm6 c0 l0
      go_wp2_with fail
      refine (HRU.out b1 HBA.out).mono ?_
      rintro e b2 ⟨⟨r7, rfl, hr7⟩, hb⟩
      replace HXA := Lib.hid ((hb.block _ (lt_of_block HXA.out)).trans HXA.out)
      replace HBA := Lib.hid (below_to HBA.out hb)
      replace BX := Lib.hid ((hb.block _ (lt_of_block BX.out)).trans BX.out)
      replace HM6 := Lib.hid ((HM6.out.same (.below (Nat.le_refl _) hb)).up hb.size)
      clear hb
      have HV7 : Hid (RoomV b2.heap.size b2 m6 r7 ms rs) := Lib.hid ⟨Nat.le_refl _, HM6.out, hr7⟩
      clear hr7 HM6
      go_wp2_with fail
      refine (HPA.out b2 HBA.out).mono ?_
      rintro e b3 ⟨⟨p8, rfl, hp8⟩, hb⟩
      replace HXA := Lib.hid ((hb.block _ (lt_of_block HXA.out)).trans HXA.out)
      replace HBA := Lib.hid (below_to HBA.out hb)
      replace BX := Lib.hid ((hb.block _ (lt_of_block BX.out)).trans BX.out)
      replace HV7 : Hid (RoomV _ _ _ _ _ _) := Lib.hid ⟨Nat.le_refl _, (HV7.out.below hb).m.up hb.size, (HV7.out.below hb).r.up hb.size⟩
      clear hb
      have HS8 := Lib.hid (own_segs (l := ss) hp8)
      clear hp8
      go_wp2_with fail
      have hst := Shows_ok b3.heap.size high m6 r7 p8 ms rs ss b3 HK.out HV7.out HPO.out HS8.out HNE.out
      refine (hst).mono ?_
      rintro e u3 ⟨⟨v0, X0, rfl, hi0, hf0⟩, hb⟩
      replace HXA := Lib.hid ((hb.block _ (lt_of_block HXA.out)).trans HXA.out)
      replace HBA := Lib.hid (below_to HBA.out hb)
      replace BX := Lib.hid ((hb.block _ (lt_of_block BX.out)).trans BX.out)
      clear hb
      clear hst HV7 HS8
      have HI0 := Lib.hid hi0
      have HF0 := Lib.hid hf0
      clear hi0 hf0
      obtain ⟨aX, cX, eX, -⟩ := HI0.out
      subst eX
      have c0 := cell_of_row u3 w.heap.size 0 _ _ _ HXA.out
      simp only [List.getElem?_toArray, List.getElem?_cons_zero] at c0
      have l0 := lt_of_block HXA.out
      go_wp2_with fail
      have has := asked_any w.heap.size _ _ ms rs u3 HH.out (HROOM.out u3 HBA.out)
      rw [HZ1.out] at has
      refine (has).mono ?_
      rintro e u4 ⟨rfl, hb⟩
      replace HXA := Lib.hid ((hb.block _ (lt_of_block HXA.out)).trans HXA.out)
      replace HBA := Lib.hid (below_to HBA.out hb)
      replace BX := Lib.hid ((hb.block _ (lt_of_block BX.out)).trans BX.out)
      replace HI0 := Lib.hid ((HI0.out.same (.below (Nat.le_refl _) hb)).up hb.size)
      clear hb
      clear has c0 l0
      have c0 := cell_of_row u4 w.heap.size 0 _ _ _ HXA.out
      simp only [List.getElem?_toArray, List.getElem?_cons_zero] at c0
      have l0 := lt_of_block HXA.out
      go_wp2_with fail
      have hip := IsPlan_any w.heap.size am ms.length capm (.slice ap ss.length capp) ss u4 (len_max HH.out.m) (len_max (by have := HPL.out; omega)) (HPV.out u4 HBA.out) HBA.out.size
      rw [HZ2.out] at hip
      refine (hip).mono ?_
      rintro e u5 ⟨rfl, hb⟩
      replace HXA := Lib.hid ((hb.block _ (lt_of_block HXA.out)).trans HXA.out)
      replace HBA := Lib.hid (below_to HBA.out hb)
      replace BX := Lib.hid ((hb.block _ (lt_of_block BX.out)).trans BX.out)
      replace HI0 := Lib.hid ((HI0.out.same (.below (Nat.le_refl _) hb)).up hb.size)
      clear hb
      clear hip c0 l0
      have c0 := cell_of_row u5 w.heap.size 0 _ _ _ HXA.out
      simp only [List.getElem?_toArray, List.getElem?_cons_zero] at c0
      have l0 := lt_of_block HXA.out
      go_wp2_with fail
      refine (Allowed_any w.heap.size _ _ ms rs u5 HK.out (HROOM.out u5 HBA.out)).mono ?_
      rintro e u6 ⟨v9, rfl, hl9, hb⟩
      replace HXA := Lib.hid ((hb.block _ (lt_of_block HXA.out)).trans HXA.out)
      replace HBA := Lib.hid (below_to HBA.out hb)
      replace BX := Lib.hid ((hb.block _ (lt_of_block BX.out)).trans BX.out)
      replace HI0 := Lib.hid ((HI0.out.same (.below (Nat.le_refl _) hb)).up hb.size)
      clear hb c0 l0
      obtain ⟨sa, cap9, rfl, -, -⟩ := hl9.form
      have HL9 := Lib.hid (hl9.mono (Nat.zero_le _))
      clear hl9
      have hlen := HK.out.mat.len
      have hone := HK.out.mat.one
      have HEL : Hid (∀ (k : Nat) (L : List Int), (okL ms rs)[k]? = some L → L.length = ms.length ∧ Rates L) := Lib.hid fun k L h => ⟨len_of (mem_okL.1 (List.mem_of_getElem? h)).1, ok_rates HK.out.mat (List.mem_of_getElem? h)⟩
      have HPOS := Lib.hid (List.length_pos_iff.2 HNE.out)
      have HBIG : Hid ((okL ms rs).length ≤ 9261) := Lib.hid (by have h1 := rest_len HK.out.mat.toRgsOk []; rw [restL_nil] at h1; exact Nat.le_trans (List.length_filter_le _ _) h1)
      have HQ0 := Lib.hid (mem_okL.1 HF0.out.1)
      have HX0 : Hid (X0.length = ms.length ∧ Rates X0) := Lib.hid ⟨len_of HQ0.out.1, rates_of HQ0.out.1 HK.out.mat.toRgsOk⟩
      have HARE := Lib.hid (mem_are HQ0.out.1)
      have HALL := Lib.hid HQ0.out.2
      have HRNS : Hid (∀ r, r ∈ rs → RnOk X0.length r) := Lib.hid fun r hr => by rw [HX0.out.1]; exact HK.out.rn r hr
      have HRL := Lib.hid HK.out.len
      have HEND := Lib.hid (sloT_end HNE.out ss)
      rw [E0L.out, E0H.out] at HEND
      have HOWN : Hid ((high = true → hiS ss X0 = y0) ∧ (high = false → loS ss X0 = x0)) := Lib.hid ⟨fun h => by subst h; rw [far_hi HF0.out, E0H.out], fun h => by subst h; rw [far_lo HF0.out, E0L.out]⟩
      generalize okL ms rs = LL at *
      clear HMA HRU HPA HQ0 HF0 HNE HZ1 HZ2 E0L E0H
      obtain ⟨L0, hL0⟩ : ∃ L, LL[0]? = some L := ⟨_, List.getElem?_eq_getElem HPOS.out⟩
      have HE0 := Lib.hid (HEL.out 0 L0 hL0)
      obtain ⟨g0, ug0, rfl, -, -⟩ := HL9.out.at_ hL0
      have HCL : Hid (∀ w', Below u6.heap.size u6 w' → ∀ i L, LL[i]? = some L → ∃ u, w'.cell? ⟨g0, i, none⟩ = some u ∧ IntsV w'.heap.size w' u L) := Lib.hid fun w' hw i L hLi => by
        obtain ⟨g', u9, e9, hc9, hN9⟩ := (HL9.out.below hw).at_ hLi
        cases e9
        exact ⟨u9, hc9, hN9.ints (by have := (HEL.out i L hLi).1; omega)⟩
      have HSTR : Hid (∀ w', Below u6.heap.size u6 w' → ∀ i L u, LL[i]? = some L → IntsV w'.heap.size w' u L → Calls Try.prog 34 #[.slice ap ss.length capp, u] w' fun e w'' => e = .returned (.agg #[.int .i64 (loS ss L), .int .i64 (hiS ss L)]) ∧ Below w'.heap.size w' w'') := Lib.hid fun w' hw i L u hLi hI => by
        have hE := HEL.out i L hLi
        have hbw := below_to HBA.out hw
        exact refStretch_any w'.heap.size (.slice ap ss.length capp) u ss L w' hE.2 (by rw [hE.1]; exact HPO.out) ((HPV.out w' hbw).up hbw.size) hI (Nat.le_refl _) (by rw [hE.1]; omega)
      obtain ⟨u0v, a0, hI0⟩ := HCL.out u6 (Below.refl _ _) 0 L0 hL0
      have ha0 := block_lt_of_cell a0
      have hpi : (0 : Int) < LL.length := by have := HPOS.out; omega
      have hT0 : loS ss L0 = sloT LL ss 0 ∧ hiS ss L0 = shiT LL ss 0 := by simp [sloT, shiT, hL0]
      have hst := HSTR.out u6 (Below.refl _ _) 0 L0 u0v hL0 hI0
      rw [hT0.1, hT0.2] at hst
      have HST := Lib.hid hst
      clear hst hT0 hI0 hL0
      go_wp2_with fail
      refine HST.out.mono ?_
      rintro e u7 ⟨rfl, hb⟩
      have HB66 := Lib.hid hb
      clear hb HST a0 ha0
      go_wp2_with fail
      have hbx := box_below u7 (.cells #[.int .i64 (sloT LL ss 0), .int .i64 (shiT LL ss 0)] 60)
      have hnx := heap_alloc_new u7 (.cells #[.int .i64 (sloT LL ss 0), .int .i64 (shiT LL ss 0)] 60)
      have hY6 : u6.heap.size ≤ u7.heap.size := HB66.out.size
      replace HB66 := Lib.hid (grow_to HB66.out hbx)
      have BY := Lib.hid hnx
      clear hbx hnx
      generalize World.alloc u7 _ = u8 at *
      generalize u7.heap.size = bY at *
      go_loopw [16] (fun i wr => ∃ (j : Nat), j ≤ LL.length ∧ i = .int .i64 j ∧ Hid (wr.heap[bY]? = some (.cells #[.int .i64 (sloT LL ss j), .int .i64 (shiT LL ss j)] 60 (0, 0))) ∧ Hid (Below u6.heap.size u6 wr)) (fun i _ => LL.length - (intOf i).toNat)
      case atStart => exact ⟨0, Nat.zero_le _, rfl, BY, HB66⟩
      case round =>
        clear BY HB66
        obtain ⟨j, hj, rfl, BY, HBJ⟩ := hrel
        have hz9 : LL.length ≤ 9261 := HBIG.out
        by_cases hjl : j < LL.length
        · have hjn : (j : Int) < LL.length := by omega
          have hwj : IntKind.i64.wrap ((j : Int) + 1) = (j : Int) + 1 := IntWalk.i64_in _ (by omega)
          have hL := List.getElem?_eq_getElem hjl
          obtain ⟨uv, d0, hI⟩ := HCL.out wr HBJ.out j _ hL
          have hst := HSTR.out wr HBJ.out j _ uv hL hI
          have hsp := sloT_step (ss := ss) hL
          generalize LL[j] = L at *
          have HST := Lib.hid hst
          have HSP := Lib.hid hsp
          have ld0 := block_lt_of_cell d0
          clear hst hsp hI hL
          go_wp2_with fail
          refine HST.out.mono ?_
          rintro e w1 ⟨rfl, hb1⟩
          replace BY := Lib.hid ((hb1.block _ (lt_of_block BY.out)).trans BY.out)
          replace HBJ := Lib.hid (grow_to HBJ.out hb1)
          clear hb1 HST d0 ld0
          generalize loS ss L = l at *
          generalize hiS ss L = h at *
          have k0 := cell_of_row w1 bY 0 _ _ _ BY.out
          have k1 := cell_of_row w1 bY 1 _ _ _ BY.out
          simp only [List.getElem?_toArray, List.getElem?_cons_zero, List.getElem?_cons_succ] at k0 k1
          have lk := lt_of_block BY.out
          have f0 := frozen_of_row w1 bY 0 _ _ BY.out
          have f1 := frozen_of_row w1 bY 1 _ _ BY.out
          have hz := put2 w1 bY _ _ (.int .i64 (min (sloT LL ss j) l)) (.int .i64 (max (shiT LL ss j) h)) _ BY.out
          have hzb := put2_below (b := bY) (.int .i64 (min (sloT LL ss j) l)) (.int .i64 (max (shiT LL ss j) h)) HBJ.out hY6
          have hb2 := box_below ((w1.setCell ⟨bY, 0, none⟩ (.int .i64 (min (sloT LL ss j) l))).setCell ⟨bY, 1, none⟩ (.int .i64 (max (shiT LL ss j) h))) (.cells #[.int .i64 l, .int .i64 h] 60)
          have HZ := Lib.hid ((hb2.block _ (lt_of_block hz)).trans hz)
          have HZB := Lib.hid (grow_to hzb hb2)
          clear hb2 hz hzb
          go_wp2
          go_roundw
          case rel => exact ⟨j + 1, by omega, by simp, by rw [HSP.out.1, HSP.out.2]; exact HZ, HZB⟩
          case measure => simp [intOf]; omega
        · obtain rfl : j = LL.length := by omega
          rw [HEND.out.1, HEND.out.2] at BY
          replace HXA := Lib.hid ((HBJ.out.block _ (lt_of_block HXA.out)).trans HXA.out)
          replace HBA := Lib.hid (below_to HBA.out HBJ.out)
          replace BX := Lib.hid ((HBJ.out.block _ (lt_of_block BX.out)).trans BX.out)
          replace HI0 := Lib.hid ((HI0.out.same (.below (Nat.le_refl _) HBJ.out)).up HBJ.out.size)
          clear HCL HSTR hjl hj hz9 HEND HBIG HPOS
          have c0 := cell_of_row wr w.heap.size 0 _ _ _ HXA.out
          simp only [List.getElem?_toArray, List.getElem?_cons_zero] at c0
          have l0 := lt_of_block HXA.out
          have z0 := cell_of_row wr bx 0 _ _ _ BX.out
          have z1 := cell_of_row wr bx 1 _ _ _ BX.out
          simp only [List.getElem?_toArray, List.getElem?_cons_zero, List.getElem?_cons_succ] at z0 z1
          have lz := lt_of_block BX.out
          have y0c := cell_of_row wr bY 0 _ _ _ BY.out
          have y1c := cell_of_row wr bY 1 _ _ _ BY.out
          simp only [List.getElem?_toArray, List.getElem?_cons_zero, List.getElem?_cons_succ] at y0c y1c
          have ly := lt_of_block BY.out
          have HTO := Lib.hid (to_any x0 y0)
          have HAR : Hid (∀ w', Below wr.heap.size wr w' → Calls Try.prog 25 #[.agg #[.slice am ms.length capm], .slice aX X0.length cX] w' fun e w'' => e = .returned (.bool true) ∧ Below w'.heap.size w' w'') := Lib.hid fun w' h => by
            have := AreRates_any wr.heap.size (.slice am ms.length capm) (.slice aX X0.length cX) ms X0 w' HH.out.m (by rw [HX0.out.1]; exact HH.out.m) ((HRG.out w' (below_to HBA.out h)).up HBA.out.size) (HI0.out.same (.below (Nat.le_refl _) h)) h.size
            rw [HARE.out] at this
            exact this
          have HRA : Hid (∀ w', Below wr.heap.size wr w' → Calls Try.prog 26 #[.slice ar rs.length capr, .slice aX X0.length cX] w' fun e w'' => e = .returned (.bool true) ∧ Below w'.heap.size w' w'') := Lib.hid fun w' h => by
            have := refAllows_any wr.heap.size (.slice ar rs.length capr) (.slice aX X0.length cX) rs X0 w' HRNS.out HRL.out HX0.out.2 (by rw [HX0.out.1]; exact HH.out.m) ((HRN.out w' (below_to HBA.out h)).up HBA.out.size) (HI0.out.same (.below (Nat.le_refl _) h)) h.size
            rw [HALL.out] at this
            exact this
          go_wp2_with fail
          have gc0 := cell_regrown c0
          have gz0 := cell_regrown z0
          have gz1 := cell_regrown z1
          have gy0c := cell_regrown y0c
          have gy1c := cell_regrown y1c
          have hq := fun w => neqr50 x0 y0 w
          clear c0 z0 z1 y0c y1c
          refine wp_region_quiet_below (by kernel_rfl) (by kernel_rfl) ?_
          repeat (quiet_step (first | with_reducible exact Calls.regrown_of (HTO.out _) | with_reducible exact Calls.regrown_of (HAR.out _ (below_regrown _ _ _)) | with_reducible exact Calls.regrown_of (HRA.out _ (below_regrown _ _ _))))
          refine wpQuiet_nil ?_
          intro _ hw'
          obtain ⟨⟨dq, osq⟩, hw''⟩ := hw'
          subst hw''
          have hbr := below_regrown wr dq osq
          replace HXA := Lib.hid ((hbr.block _ (lt_of_block HXA.out)).trans HXA.out)
          replace HBA := Lib.hid (below_to HBA.out hbr)
          replace BX := Lib.hid ((hbr.block _ (lt_of_block BX.out)).trans BX.out)
          replace HI0 := Lib.hid ((HI0.out.same (.below (Nat.le_refl _) hbr)).up hbr.size)
          replace BY := Lib.hid ((hbr.block _ (lt_of_block BY.out)).trans BY.out)
          clear hbr gc0 gz0 gz1 gy0c gy1c hq HTO HAR HRA l0 lz ly
          have hst := refStretch_any _ (.slice ap ss.length capp) (.slice aX X0.length cX) ss X0 _ HX0.out.2 (by rw [HX0.out.1]; exact HPO.out) ((HPV.out _ HBA.out).up HBA.out.size) HI0.out (Nat.le_refl _) (by rw [HX0.out.1]; exact HH.out.m)
          have HST := Lib.hid hst
          clear hst
          generalize hlo : loS ss X0 = xo at *
          generalize hhi : hiS ss X0 = yo at *
          clear hlo hhi
          cases high with
          | true =>
            have hown := HOWN.out.1 rfl
            subst hown
            clear HOWN
            go_wp2_with fail
            refine HST.out.mono ?_
            rintro e v1 ⟨rfl, hb⟩
            replace HXA := Lib.hid ((hb.block _ (lt_of_block HXA.out)).trans HXA.out)
            replace HBA := Lib.hid (below_to HBA.out hb)
            replace BX := Lib.hid ((hb.block _ (lt_of_block BX.out)).trans BX.out)
            replace HI0 := Lib.hid ((HI0.out.same (.below (Nat.le_refl _) hb)).up hb.size)
            replace BY := Lib.hid ((hb.block _ (lt_of_block BY.out)).trans BY.out)
            clear hb HST
            have y0c := cell_of_row v1 bY 0 _ _ _ BY.out
            have y1c := cell_of_row v1 bY 1 _ _ _ BY.out
            simp only [List.getElem?_toArray, List.getElem?_cons_zero, List.getElem?_cons_succ] at y0c y1c
            have ly := lt_of_block BY.out
            go_wp2_with fail
            refine (HA.out _).mono ?_
            rintro e v3 ⟨rfl, hb3⟩
            have HBF := Lib.hid (below_to HBA.out (grow_to (box_below v1 _) hb3))
            clear hb3
            go_wp2
            go_ret
            exact ⟨rfl, HBF.out⟩
          | false =>
            have hown := HOWN.out.2 rfl
            subst hown
            clear HOWN
            go_wp2_with fail
            refine HST.out.mono ?_
            rintro e v1 ⟨rfl, hb⟩
            replace HXA := Lib.hid ((hb.block _ (lt_of_block HXA.out)).trans HXA.out)
            replace HBA := Lib.hid (below_to HBA.out hb)
            replace BX := Lib.hid ((hb.block _ (lt_of_block BX.out)).trans BX.out)
            replace HI0 := Lib.hid ((HI0.out.same (.below (Nat.le_refl _) hb)).up hb.size)
            replace BY := Lib.hid ((hb.block _ (lt_of_block BY.out)).trans BY.out)
            clear hb HST
            have y0c := cell_of_row v1 bY 0 _ _ _ BY.out
            have y1c := cell_of_row v1 bY 1 _ _ _ BY.out
            simp only [List.getElem?_toArray, List.getElem?_cons_zero, List.getElem?_cons_succ] at y0c y1c
            have ly := lt_of_block BY.out
            go_wp2_with fail
            refine (HA.out _).mono ?_
            rintro e v3 ⟨rfl, hb3⟩
            have HBF := Lib.hid (below_to HBA.out (grow_to (box_below v1 _) hb3))
            clear hb3
            go_wp2
            go_ret
            exact ⟨rfl, HBF.out⟩
end Go.Proofs.Ytfijaafkagcmmaa
namespace Go.Proofs.Ytfijaafkagcmmaa
open Go.RowKit Go.Shelf
attribute [local irreducible] arrV wpQuiet

theorem app_nil (ty : Nat) (a : Option Addr) (cap : Nat) (W : World) : (Builtin.append_ #[26, 26] ty #[.slice none 0 0, .slice a 0 cap]).run Try.prog W = .ok (.slice none 0 0) W := by
  obtain ⟨i, z, hi, hz, hsz, hby, hzs⟩ := el26.i
  cases a with
  | none => simp [Builtin.append_, run_underlying Try.underlying26, sizeOf, typeInfo, hi, Builtin.lenOf, run_firstCells_none, Result.andThen]
  | some ad =>
    have h := run_firstCells_some (P := Try.prog) W i.size 0 ad 0 cap [] (by simp) (by simp)
    simp [Builtin.append_, run_underlying Try.underlying26, sizeOf, typeInfo, hi, Builtin.lenOf, h, Result.andThen]
set_option maxRecDepth 100000 in
set_option maxHeartbeats 1000000 in
theorem list_all (m : Nat) (z : Value) (t : List Int) (w : World) (hn : t.length ≤ 1000) (hz : IntsV m w z t) :
    Calls Try.prog 22 #[z] w fun e w' => (∃ v, e = .returned v ∧ IntsV w'.heap.size w' v t) ∧ Below w.heap.size w w' := by
  by_cases h0 : 0 < t.length
  · exact list_any m z t w h0 hn hz
  · obtain ⟨a, cap, rfl, -⟩ := hz
    have hl : t.length = 0 := by omega
    rw [hl]
    have HRUN := Lib.hid (app_nil 26 a cap w)
    clear hn h0
    go_enter Try.func22, Try.ntmps22
    go_wp2_with (first
      | (refine wpList_append_run (v := .slice none 0 0) (W' := w) (y := .slice none 0 0) (z := .slice a 0 cap) rfl (.const (.slice none 0 0)) (.tmp 3) 26 26 26 rfl rfl rfl rfl HRUN.out ?_)
      | fail)
    go_ret
    exact ⟨⟨_, rfl, none, 0, by rw [hl]; rfl, by omega, fun h => by omega⟩, Below.refl _ _⟩
theorem rate_zero {ms : List Rg} {rs : List Rn} {x : List Int} (h : rateE ms rs x = 0) : faultE ms rs = 0 ∧ areB ms x = true := by
  unfold rateE at h
  by_cases hf : faultE ms rs = 0
  · rw [if_pos hf] at h
    cases ha : areB ms x <;> simp [ha] at h ⊢
    exact hf
  · rw [if_neg hf] at h
    exact absurd h hf
theorem rate_two {ms : List Rg} {rs : List Rn} {x : List Int} (hf : faultE ms rs = 0) (h : rateE ms rs x ≠ 0) : rateE ms rs x = 2 ∧ areB ms x = false := by
  unfold rateE at h ⊢
  rw [if_pos hf] at h ⊢
  cases ha : areB ms x <;> simp [ha] at h ⊢
theorem rate_fault {ms : List Rg} {rs : List Rn} {x : List Int} (hf : faultE ms rs ≠ 0) : rateE ms rs x = faultE ms rs := if_neg hf

set_option maxRecDepth 100000 in
set_option maxHeartbeats 8000000 in
theorem allows_walk (mv rv xv : Value) (ms : List Rg) (rs : List Rn) (x : List Int) (w : World) (hV : RgsV w.heap.size w mv ms) (hR : RunsV w.heap.size w rv rs) (hXV : IntsV w.heap.size w xv x) :
    Calls Try.prog 3 #[.agg #[mv], rv, xv] w fun e w' => e = .returned (.bool true) ∧ Below w.heap.size w w' := by
  have HROOM : Hid (∀ w', Below w.heap.size w w' → RoomV w.heap.size w' mv rv ms rs) := Lib.hid fun w' h => ⟨h.size, hV.same (.below (Nat.le_refl _) h), hR.same (.below (Nat.le_refl _) h)⟩
  have HMA0 := Lib.hid fun (hl : ms.length ≤ 1000) w' (h : Below w.heap.size w w') => Material_any w.heap.size mv ms w' hl (hV.same (.below (Nat.le_refl _) h)) h.size
  have HRU0 := Lib.hid fun (hl : rs.length ≤ 1000) (hs : ∀ q, q ∈ rs → q.ss.length ≤ 1000) w' (h : Below w.heap.size w w') => Runs_any w.heap.size rv rs w' hl hs (hR.same (.below (Nat.le_refl _) h)) h.size
  have HLI0 := Lib.hid fun (hl : x.length ≤ 1000) w' (h : Below w.heap.size w w') => list_all w.heap.size xv x w' hl (hXV.same (.below (Nat.le_refl _) h))
  have HXV := Lib.hid fun w' (h : Below w.heap.size w w') => hXV.same (.below (n := w.heap.size) (Nat.le_refl _) h)
  have HRG := Lib.hid fun w' (h : Below w.heap.size w w') => hV.same (.below (n := w.heap.size) (Nat.le_refl _) h)
  have HRN := Lib.hid fun w' (h : Below w.heap.size w w') => hR.same (.below (n := w.heap.size) (Nat.le_refl _) h)
  obtain ⟨am, capm, rfl, -⟩ := hV
  obtain ⟨ax, capx, rfl, -⟩ := hXV
  have HTH := Lib.hid fun w' (h : Below w.heap.size w w') => Thin_any w.heap.size am ms.length capm rv none 0 0 rs w' (hR.same (.below (Nat.le_refl _) h)) h.size
  obtain ⟨ar, capr, rfl, -⟩ := hR
  have HX := Lib.hid (heap_alloc_new w (.cells #[.slice am ms.length capm] 24))
  have HB := Lib.hid (box_below w (.cells #[.slice am ms.length capm] 24))
  have HA := Lib.hid awake_any
  have HHE := Lib.hid fun h => @thin_held ms.length 0 ms rs rfl h
  generalize hz : thinB ms.length rs 0 = z at *
  clear hz
  go_enter Try.func3, Try.ntmps3
  go_wp2_with fail
  refine (HTH.out _ HB.out).mono ?_
  rintro e u0 ⟨rfl, hb⟩
  have HXA := Lib.hid ((hb.block _ (lt_of_block HX.out)).trans HX.out)
  have HBA := Lib.hid (below_to HB.out hb)
  clear hb HX HB HTH
  cases z with
  | false =>
    go_wp2_with fail
    refine (HA.out u0).mono ?_
    rintro e u1 ⟨rfl, hb⟩
    have HBF := Lib.hid (below_to HBA.out hb)
    clear hb
    go_wp2
    go_ret
    exact ⟨rfl, HBF.out⟩
  | true =>
    have HH := Lib.hid (HHE.out (by trivial))
    have HMA := Lib.hid (HMA0.out HH.out.m)
    have HRU := Lib.hid (HRU0.out HH.out.r HH.out.s)
    clear HHE HMA0 HRU0
    by_cases hl8 : (8 : Int) < x.length
    · have hd8 : decide ((8 : Int) < x.length) = true := decide_eq_true hl8
      go_wp2_with fail
      refine (HA.out u0).mono ?_
      rintro e u1 ⟨rfl, hb⟩
      have HBF := Lib.hid (below_to HBA.out hb)
      clear hb
      go_wp2
      go_ret
      exact ⟨rfl, HBF.out⟩
    · have hd8 : decide ((8 : Int) < x.length) = false := decide_eq_false hl8
      have HL8 : Hid (x.length ≤ 8) := Lib.hid (by omega)
      have HLI := Lib.hid (HLI0.out (by omega))
      clear hl8 HLI0
      have c0 := cell_of_row u0 w.heap.size 0 _ _ _ HXA.out
      simp only [List.getElem?_toArray, List.getElem?_cons_zero] at c0
      have l0 := lt_of_block HXA.out
      go_wp2_with fail
      refine (HMA.out u0 HBA.out).mono ?_
      rintro e u1 ⟨⟨m6, rfl, hm6⟩, hb⟩
      replace HXA := Lib.hid ((hb.block _ (lt_of_block HXA.out)).trans HXA.out)
      replace HBA := Lib.hid (below_to HBA.out hb)
      clear hb
      have HM6 := Lib.hid hm6
      clear hm6 c0 l0
      go_wp2_with fail
      have hcm := CheckMaterial_any u1.heap.size m6 ms u1 HH.out.m HM6.out (Nat.le_refl _)
      refine (hcm).mono ?_
      rintro e u2 ⟨rfl, hb⟩
      replace HXA := Lib.hid ((hb.block _ (lt_of_block HXA.out)).trans HXA.out)
      replace HBA := Lib.hid (below_to HBA.out hb)
      clear hb
      clear hcm HM6
      have c0 := cell_of_row u2 w.heap.size 0 _ _ _ HXA.out
      simp only [List.getElem?_toArray, List.getElem?_cons_zero] at c0
      have l0 := lt_of_block HXA.out
      go_wp2_with fail
      refine (HMA.out u2 HBA.out).mono ?_
      rintro e u3 ⟨⟨m6, rfl, hm6⟩, hb⟩
      replace HXA := Lib.hid ((hb.block _ (lt_of_block HXA.out)).trans HXA.out)
      replace HBA := Lib.hid (below_to HBA.out hb)
      clear hb
      have HM6 := Lib.hid hm6
      clear hm6 c0 l0
      go_wp2_with fail
      refine (HRU.out u3 HBA.out).mono ?_
      rintro e u4 ⟨⟨r7, rfl, hr7⟩, hb⟩
      replace HXA := Lib.hid ((hb.block _ (lt_of_block HXA.out)).trans HXA.out)
      replace HBA := Lib.hid (below_to HBA.out hb)
      replace HM6 := Lib.hid ((HM6.out.same (.below (Nat.le_refl _) hb)).up hb.size)
      clear hb
      have HV7 : Hid (RoomV u4.heap.size u4 m6 r7 ms rs) := Lib.hid ⟨Nat.le_refl _, HM6.out, hr7⟩
      clear hr7 HM6
      go_wp2_with fail
      refine (HLI.out u4 HBA.out).mono ?_
      rintro e u5 ⟨⟨x8, rfl, hx8⟩, hb⟩
      replace HXA := Lib.hid ((hb.block _ (lt_of_block HXA.out)).trans HXA.out)
      replace HBA := Lib.hid (below_to HBA.out hb)
      replace HV7 : Hid (RoomV _ _ _ _ _ _) := Lib.hid ⟨Nat.le_refl _, (HV7.out.below hb).m.up hb.size, (HV7.out.below hb).r.up hb.size⟩
      clear hb
      have HX8 := Lib.hid hx8
      clear hx8
      go_wp2_with fail
      obtain ⟨M, HM⟩ : ∃ M, Hid (matE ms = M) := ⟨_, Lib.hid rfl⟩
      rw [HM.out]
      by_cases hE : rateE ms rs x ≠ 0
      · have HE := Lib.hid hE
        clear hE
        have hal := Allows_err u5.heap.size m6 r7 x8 ms rs x u5 HH.out (by have := HL8.out; omega) HV7.out HX8.out HE.out
        refine (hal).mono ?_
        rintro e u6 ⟨rfl, hb⟩
        replace HXA := Lib.hid ((hb.block _ (lt_of_block HXA.out)).trans HXA.out)
        replace HBA := Lib.hid (below_to HBA.out hb)
        clear hb
        clear hal HV7 HX8
        by_cases hF : faultE ms rs = 0
        · have hl2 := rate_two hF HE.out
          rw [hl2.1]
          have HAR := Lib.hid hl2.2
          have HF := Lib.hid hF
          clear hl2 hF HE
          have c0 := cell_of_row u6 w.heap.size 0 _ _ _ HXA.out
          simp only [List.getElem?_toArray, List.getElem?_cons_zero] at c0
          have l0 := lt_of_block HXA.out
          go_wp2_with fail
          have hmf := MatFault_any w.heap.size _ ms u6 (len_max HH.out.m) (HRG.out u6 HBA.out) HBA.out.size
          rw [HM.out] at hmf
          refine (hmf).mono ?_
          rintro e u7 ⟨rfl, hb⟩
          replace HXA := Lib.hid ((hb.block _ (lt_of_block HXA.out)).trans HXA.out)
          replace HBA := Lib.hid (below_to HBA.out hb)
          clear hb
          clear hmf c0 l0
          have c0 := cell_of_row u7 w.heap.size 0 _ _ _ HXA.out
          simp only [List.getElem?_toArray, List.getElem?_cons_zero] at c0
          have l0 := lt_of_block HXA.out
          go_wp2_with fail
          have hfa := fault_any w.heap.size _ _ ms rs u7 (len_max HH.out.m) (len_max HH.out.r) (fun r hr => len_max (HH.out.s r hr)) (HRG.out u7 HBA.out) (HRN.out u7 HBA.out) HBA.out.size
          rw [HF.out] at hfa
          refine (hfa).mono ?_
          rintro e u8 ⟨rfl, hb⟩
          replace HXA := Lib.hid ((hb.block _ (lt_of_block HXA.out)).trans HXA.out)
          replace HBA := Lib.hid (below_to HBA.out hb)
          clear hb
          clear hfa c0 l0
          have c0 := cell_of_row u8 w.heap.size 0 _ _ _ HXA.out
          simp only [List.getElem?_toArray, List.getElem?_cons_zero] at c0
          have l0 := lt_of_block HXA.out
          go_wp2_with fail
          have har := AreRates_any w.heap.size _ _ ms x u8 HH.out.m (by have := HL8.out; omega) (HRG.out u8 HBA.out) (HXV.out u8 HBA.out) HBA.out.size
          rw [HAR.out] at har
          refine (har).mono ?_
          rintro e u9 ⟨rfl, hb⟩
          replace HXA := Lib.hid ((hb.block _ (lt_of_block HXA.out)).trans HXA.out)
          replace HBA := Lib.hid (below_to HBA.out hb)
          clear hb
          clear har c0 l0
          go_wp2_with fail
          refine (HA.out u9).mono ?_
          rintro e u10 ⟨rfl, hb⟩
          have HBF := Lib.hid (below_to HBA.out hb)
          clear hb
          go_wp2
          go_ret
          exact ⟨rfl, HBF.out⟩
        · rw [rate_fault hF]
          obtain ⟨E, HE2⟩ : ∃ E, Hid (faultE ms rs = E) := ⟨_, Lib.hid rfl⟩
          rw [HE2.out] at hF ⊢
          have h1 : (E == 0) = false := by rw [beq_eq_false_iff_ne]; exact hF
          have h2 : (E != 0) = true := by rw [bne_iff_ne]; exact hF
          clear HE
          have c0 := cell_of_row u6 w.heap.size 0 _ _ _ HXA.out
          simp only [List.getElem?_toArray, List.getElem?_cons_zero] at c0
          have l0 := lt_of_block HXA.out
          go_wp2_with fail
          have hmf := MatFault_any w.heap.size _ ms u6 (len_max HH.out.m) (HRG.out u6 HBA.out) HBA.out.size
          rw [HM.out] at hmf
          refine (hmf).mono ?_
          rintro e u7 ⟨rfl, hb⟩
          replace HXA := Lib.hid ((hb.block _ (lt_of_block HXA.out)).trans HXA.out)
          replace HBA := Lib.hid (below_to HBA.out hb)
          clear hb
          clear hmf c0 l0
          have c0 := cell_of_row u7 w.heap.size 0 _ _ _ HXA.out
          simp only [List.getElem?_toArray, List.getElem?_cons_zero] at c0
          have l0 := lt_of_block HXA.out
          go_wp2_with fail
          have hfa := fault_any w.heap.size _ _ ms rs u7 (len_max HH.out.m) (len_max HH.out.r) (fun r hr => len_max (HH.out.s r hr)) (HRG.out u7 HBA.out) (HRN.out u7 HBA.out) HBA.out.size
          rw [HE2.out] at hfa
          refine (hfa).mono ?_
          rintro e u8 ⟨rfl, hb⟩
          replace HXA := Lib.hid ((hb.block _ (lt_of_block HXA.out)).trans HXA.out)
          replace HBA := Lib.hid (below_to HBA.out hb)
          clear hb
          clear hfa c0 l0
          go_wp2_with fail
          refine (HA.out u8).mono ?_
          rintro e u10 ⟨rfl, hb⟩
          have HBF := Lib.hid (below_to HBA.out hb)
          clear hb
          go_wp2
          go_ret
          exact ⟨rfl, HBF.out⟩
      · have hz := rate_zero (Classical.not_not.1 hE)
        have HF := Lib.hid hz.1
        have HAR := Lib.hid hz.2
        have HK := Lib.hid (faultE_ok hz.1)
        have HMEM := Lib.hid (are_mem HK.out.mat.toRgsOk hz.2)
        clear hz hE
        have hal := Allows_ok u5.heap.size m6 r7 x8 ms rs x u5 HK.out HMEM.out HV7.out HX8.out
        obtain ⟨Z, HZ⟩ : ∃ Z, Hid (allB rs x = Z) := ⟨_, Lib.hid rfl⟩
        rw [HZ.out] at hal
        refine (hal).mono ?_
        rintro e u6 ⟨rfl, hb⟩
        replace HXA := Lib.hid ((hb.block _ (lt_of_block HXA.out)).trans HXA.out)
        replace HBA := Lib.hid (below_to HBA.out hb)
        clear hb
        clear hal HV7 HX8
        have c0 := cell_of_row u6 w.heap.size 0 _ _ _ HXA.out
        simp only [List.getElem?_toArray, List.getElem?_cons_zero] at c0
        have l0 := lt_of_block HXA.out
        go_wp2_with fail
        have hmf := MatFault_any w.heap.size _ ms u6 (len_max HH.out.m) (HRG.out u6 HBA.out) HBA.out.size
        rw [HM.out] at hmf
        refine (hmf).mono ?_
        rintro e u7 ⟨rfl, hb⟩
        replace HXA := Lib.hid ((hb.block _ (lt_of_block HXA.out)).trans HXA.out)
        replace HBA := Lib.hid (below_to HBA.out hb)
        clear hb
        clear hmf c0 l0
        have c0 := cell_of_row u7 w.heap.size 0 _ _ _ HXA.out
        simp only [List.getElem?_toArray, List.getElem?_cons_zero] at c0
        have l0 := lt_of_block HXA.out
        go_wp2_with fail
        have hfa := fault_any w.heap.size _ _ ms rs u7 (len_max HH.out.m) (len_max HH.out.r) (fun r hr => len_max (HH.out.s r hr)) (HRG.out u7 HBA.out) (HRN.out u7 HBA.out) HBA.out.size
        rw [HF.out] at hfa
        refine (hfa).mono ?_
        rintro e u8 ⟨rfl, hb⟩
        replace HXA := Lib.hid ((hb.block _ (lt_of_block HXA.out)).trans HXA.out)
        replace HBA := Lib.hid (below_to HBA.out hb)
        clear hb
        clear hfa c0 l0
        have c0 := cell_of_row u8 w.heap.size 0 _ _ _ HXA.out
        simp only [List.getElem?_toArray, List.getElem?_cons_zero] at c0
        have l0 := lt_of_block HXA.out
        go_wp2_with fail
        have har := AreRates_any w.heap.size _ _ ms x u8 HH.out.m (by have := HL8.out; omega) (HRG.out u8 HBA.out) (HXV.out u8 HBA.out) HBA.out.size
        rw [HAR.out] at har
        refine (har).mono ?_
        rintro e u9 ⟨rfl, hb⟩
        replace HXA := Lib.hid ((hb.block _ (lt_of_block HXA.out)).trans HXA.out)
        replace HBA := Lib.hid (below_to HBA.out hb)
        clear hb
        clear har c0 l0
        go_wp2_with fail
        have hra := refAllows_any w.heap.size _ _ rs x u9 (fun r hr => by rw [len_of HMEM.out]; exact HK.out.rn r hr) HK.out.len (rates_of HMEM.out HK.out.mat.toRgsOk) (by have := HL8.out; omega) (HRN.out u9 HBA.out) (HXV.out u9 HBA.out) HBA.out.size
        rw [HZ.out] at hra
        refine (hra).mono ?_
        rintro e u10 ⟨rfl, hb⟩
        replace HXA := Lib.hid ((hb.block _ (lt_of_block HXA.out)).trans HXA.out)
        replace HBA := Lib.hid (below_to HBA.out hb)
        clear hb
        clear hra
        go_wp2_with fail
        refine (HA.out u10).mono ?_
        rintro e u11 ⟨rfl, hb⟩
        have HBF := Lib.hid (below_to HBA.out hb)
        clear hb
        go_wp2
        go_ret
        exact ⟨rfl, HBF.out⟩
end Go.Proofs.Ytfijaafkagcmmaa
