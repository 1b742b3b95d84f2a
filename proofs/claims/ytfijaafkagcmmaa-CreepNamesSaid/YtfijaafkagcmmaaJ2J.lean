/- The rates that reach an end, where there is an error: a contract. Condition: lists no longer than any machine's. Which lists are rates of a material, and the program's check of it: contracts. Condition: lists no longer than any machine's. The check of rates, and Allows where there is an error: contracts. Condition: lists no longer than any machine's. -/
import Derived.Test.YtfijaafkagcmmaaI2J
namespace Go.Proofs.Ytfijaafkagcmmaa
open Go.RowKit Go.Shelf
attribute [local irreducible] arrV wpQuiet

set_option maxRecDepth 100000 in
set_option maxHeartbeats 1000000 in
theorem Shows_err (n : Nat) (high : Bool) (mv rv pv : Value) (ms : List Rg) (rs : List Rn) (ss : List Sg) (w : World) (hL : Held ms rs) (hp : ss.length ≤ 1000) (hV : RoomV n w mv rv ms rs) (hPV : SegsV n w pv ss) (h : planE ms rs ss ≠ 0) :
    Calls Try.prog 32 #[.agg #[mv], rv, pv, .bool high] w fun e w' => e = .returned (.tuple #[.slice none 0 0, .int .i64 (planE ms rs ss)]) ∧ Below w.heap.size w w' := by
  have hn := hV.lt
  have HCA := Lib.hid fun w' (h : Below w.heap.size w w') => checkPlan_any n mv rv pv ms rs ss w' hL hp (hV.below h) (hPV.same (.below hn h))
  obtain ⟨am, capm, rfl, -⟩ := hV.m
  obtain ⟨ar, capr, rfl, -⟩ := hV.r
  obtain ⟨ap, capp, rfl, -⟩ := hPV
  have HB := Lib.hid (below2 w (.cells #[.slice am ms.length capm] 33) (.cells #[.slice am ms.length capm, .slice ar rs.length capr] 100))
  clear hV hL hn hp
  generalize planE ms rs ss = A at *
  have h1 : (A == 0) = false := by rw [beq_eq_false_iff_ne]; exact h
  have h2 : (A != 0) = true := by rw [bne_iff_ne]; exact h
  go_enter Try.func32, Try.ntmps32
  go_wp2_with fail
  refine (HCA.out _ HB.out).mono ?_
  rintro e w1 ⟨rfl, hb1⟩
  have HB1 := Lib.hid (below_to HB.out hb1)
  clear hb1
  go_wp2
  go_ret2
  exact ⟨rfl, HB1.out⟩
end Go.Proofs.Ytfijaafkagcmmaa
namespace Go.Proofs.Ytfijaafkagcmmaa
open Go.RowKit Go.Shelf
attribute [local irreducible] arrV wpQuiet

def sortB (x : List Int) : Bool := allN (fun i => decide (ld x i ≤ ld x (i + 1))) (x.length - 1)
def hasesB (ms : List Rg) (x : List Int) : Bool := allN (fun i => hasB (rg ms i).lo (rg ms i).hi (ld x i)) ms.length
def areB (ms : List Rg) (x : List Int) : Bool := decide (x.length = ms.length) && (sortB x && hasesB ms x)
theorem sort_no {t : List Int} {q : Nat} (h : q + 1 < t.length) (h2 : ld t (q + 1) < ld t q) : sortB t = false :=
  allN_no (j := q) (by omega) (by simp; omega)
theorem sort_yes {t : List Int} (h : ∀ i, i + 1 < t.length → ld t i ≤ ld t (i + 1)) : sortB t = true :=
  allN_yes (fun j hj => by simpa using h j (by omega))
theorem sort_all {t : List Int} (h : sortB t = true) : ∀ i, i + 1 < t.length → ld t i ≤ ld t (i + 1) := fun i hi => by
  have := allN_iff.1 h i (by omega)
  simpa using this
theorem isRt_of : ∀ {ms : List Rg} {l : Int} {x : List Int}, x.length = ms.length → (∀ i, i < ms.length → (rg ms i).lo ≤ ld x i ∧ ld x i ≤ (rg ms i).hi) → (∀ i, i + 1 < x.length → ld x i ≤ ld x (i + 1)) → (0 < x.length → l ≤ ld x 0) → IsRt ms l x
  | [], _, [], _, _, _, _ => trivial
  | [], _, _ :: _, h, _, _, _ => by simp at h
  | _ :: _, _, [], h, _, _, _ => by simp at h
  | r :: ms, l, a :: x, h, hh, hs, hl => by
    have h0 := hh 0 (by simp)
    have hl0 := hl (by simp)
    simp [rg, ld] at h0 hl0
    refine ⟨hl0, h0.1, h0.2, isRt_of (by simpa using h) (fun i hi => ?_) (fun i hi => ?_) (fun hx => ?_)⟩
    · have := hh (i + 1) (by simpa using hi)
      simpa [rg, ld] using this
    · have := hs (i + 1) (by simpa using hi)
      simpa [ld] using this
    · have := hs 0 (by simpa using hx)
      simpa [ld] using this
theorem are_mem {ms : List Rg} {x : List Int} (hm : RgsOk ms) (h : areB ms x = true) : x ∈ allL ms := by
  simp only [areB, Bool.and_eq_true, decide_eq_true_eq] at h
  obtain ⟨h1, h2, h3⟩ := h
  have hh : ∀ i, i < ms.length → (rg ms i).lo ≤ ld x i ∧ ld x i ≤ (rg ms i).hi := fun i hi => by
    have := allN_iff.1 h3 i hi
    simpa [hasB] using this
  refine (mem_listsL ms 0 x).2 (isRt_of h1 hh (sort_all h2) fun h0 => ?_)
  have h5 : 0 < ms.length := by omega
  have h6 := hh 0 h5
  have h7 := (hm.rg _ (List.getElem_mem h5)).1
  simp only [rg, List.getElem?_eq_getElem h5, Option.getD_some] at h6
  omega
theorem mem_are {ms : List Rg} {x : List Int} (h : x ∈ allL ms) : areB ms x = true := by
  have hrt := (mem_listsL ms 0 x).1 h
  simp only [areB, Bool.and_eq_true, decide_eq_true_eq]
  exact ⟨len_of h, sort_yes fun i hi => hrt.rise i hi, allN_yes fun i hi => hrt.has i hi⟩

set_option maxRecDepth 100000 in
set_option maxHeartbeats 1000000 in
theorem sorted_any (n : Nat) (v : Value) (t : List Int) (w : World) (hl : t.length ≤ 1000) (hV : IntsV n w v t) (hn : n ≤ w.heap.size) :
    Calls Try.prog 100 #[v] w fun e w' => e = .returned (.bool (sortB t)) ∧ Below w.heap.size w w' := by
  obtain ⟨a, cap, rfl, -, hp⟩ := hV
  have HP := Lib.hid hp
  have HNO := Lib.hid fun q => @sort_no t q
  have HYES := Lib.hid (@sort_yes t)
  have hw0 : IntKind.i64.wrap ((t.length : Int) - 1) = (t.length : Int) - 1 := IntWalk.i64_in _ (by omega)
  clear hp
  generalize sortB t = sb at *
  go_enter Try.func100, Try.ntmps100
  go_wp2
  go_loopw [3] (fun i wr => ∃ k : Int, k < t.length ∧ i = .int .i64 k ∧ Hid (∀ i : Nat, k ≤ i → i + 1 < t.length → ld t i ≤ ld t (i + 1)) ∧ Hid (Below w.heap.size w wr)) (fun i _ => (intOf i).toNat)
  case atStart => exact ⟨(t.length : Int) - 1, by omega, rfl, Lib.hid (fun i h1 h2 => by omega), Lib.hid (Below.refl _ _)⟩
  case round =>
    obtain ⟨k, hk, rfl, hg, hb⟩ := hrel
    by_cases hlt : 0 < k
    · obtain ⟨b, off, rfl, hbn, hc⟩ := HP.out (by omega)
      have hltb : b < w.heap.size := by omega
      obtain ⟨q, hq⟩ : ∃ q : Nat, k = (q : Int) + 1 := ⟨(k - 1).toNat, by omega⟩
      subst hq
      have p1 := (hb.out.cell (p := ⟨b, off + (q + 1), none⟩) hltb).trans (hc (q + 1) (by omega))
      have p2 := (hb.out.cell (p := ⟨b, off + q, none⟩) hltb).trans (hc q (by omega))
      have HNQ := Lib.hid (HNO.out q (by omega))
      have HGQ : Hid (ld t q ≤ ld t (q + 1) → ∀ i : Nat, (q : Int) ≤ i → i + 1 < t.length → ld t i ≤ ld t (i + 1)) := Lib.hid fun h i h1 h2 => by
        by_cases e : i = q
        · rw [e]; exact h
        · exact hg.out i (by omega) h2
      have LS := Lib.hid (less_any (ld t (q + 1)) (ld t q))
      have hk0 : (0 : Int) ≤ (q : Int) + 1 := by omega
      have hkt : ((q : Int) + 1).toNat = q + 1 := by omega
      have hw1 : IntKind.i64.wrap (q : Int) = (q : Int) := IntWalk.i64_in _ (by omega)
      have hwq : wrap64 (q : Int) = (q : Int) := IntWalk.wrap64_in _ (by omega)
      have hqn : (q : Int) < t.length := by omega
      generalize ld t (q + 1) = x1 at *
      generalize ld t q = x0 at *
      clear hc hg
      go_wp2_with fail
      have g1 := cell_regrown p1
      have g2 := cell_regrown p2
      clear p1 p2
      by_cases hx : x1 < x0
      · have hd : decide (x1 < x0) = true := decide_eq_true hx
        rw [hd] at LS
        have HZ := Lib.hid (HNQ.out hx)
        clear hd hx HNQ HGQ
        refine wp_region_quiet_below (by kernel_rfl) (by kernel_rfl) ?_
        repeat (quiet_step (with_reducible exact Calls.regrown_of (LS.out _)))
        refine wpQuiet_nil ?_
        intro _ hw'
        obtain ⟨⟨dq, osq⟩, hw''⟩ := hw'
        subst hw''
        have hbr := Lib.hid (below_to hb.out (below_regrown wr dq osq))
        clear g1 g2 hb
        go_wp2
        go_ret
        exact ⟨by rw [HZ.out]; rfl, hbr.out⟩
      · have hd : decide (x1 < x0) = false := decide_eq_false hx
        rw [hd] at LS
        have HZ := Lib.hid (HGQ.out (by omega))
        clear hd hx HNQ HGQ
        refine wp_region_quiet_below (by kernel_rfl) (by kernel_rfl) ?_
        repeat (quiet_step (with_reducible exact Calls.regrown_of (LS.out _)))
        refine wpQuiet_nil ?_
        intro _ hw'
        obtain ⟨⟨dq, osq⟩, hw''⟩ := hw'
        subst hw''
        have hbr := Lib.hid (below_to hb.out (below_regrown wr dq osq))
        clear g1 g2 hb
        go_wp2
        go_roundw
        case rel => exact ⟨(q : Int), by omega, by simp, HZ, hbr⟩
        case measure => simp [intOf]
    · have HZ := Lib.hid (HYES.out fun i hi => hg.out i (by omega) hi)
      go_wp2
      go_ret
      exact ⟨by rw [HZ.out]; rfl, hb.out⟩

set_option maxRecDepth 100000 in
set_option maxHeartbeats 2000000 in
theorem isRates_any (n : Nat) (mv v : Value) (ms : List Rg) (x : List Int) (w : World) (hl : ms.length ≤ 1000) (hlx : x.length ≤ 1000) (hV : RgsV n w mv ms) (hX : IntsV n w v x) (hn : n ≤ w.heap.size) :
    Calls Try.prog 75 #[.agg #[mv], v] w fun e w' => e = .returned (.bool (areB ms x)) ∧ Below w.heap.size w w' := by
  have HSO := Lib.hid fun w' (h : Below w.heap.size w w') => sorted_any n v x w' hlx (hX.same (.below hn h)) (Nat.le_trans hn h.size)
  obtain ⟨am, capm, rfl, hp⟩ := hV
  obtain ⟨xa, xcap, rfl, -, hxp⟩ := hX
  have HP := Lib.hid hp
  have HXP := Lib.hid hxp
  have HX := Lib.hid (heap_alloc_new w (.cells #[.slice am ms.length capm] 33))
  have HB := Lib.hid (box_below w (.cells #[.slice am ms.length capm] 33))
  have HA0 : Hid (areB ms x = (decide (x.length = ms.length) && (sortB x && hasesB ms x))) := Lib.hid rfl
  have HHN := Lib.hid fun j (h : j < ms.length) => @allN_no (fun i => hasB (rg ms i).lo (rg ms i).hi (ld x i)) ms.length j h
  have HHY := Lib.hid (@allN_yes (fun i => hasB (rg ms i).lo (rg ms i).hi (ld x i)) ms.length)
  change Hid (∀ j, j < ms.length → _ → hasesB ms x = false) at HHN
  change Hid (_ → hasesB ms x = true) at HHY
  generalize areB ms x = A at *
  generalize hasesB ms x = H at *
  generalize sortB x = S at *
  clear hp hxp
  go_enter Try.func75, Try.ntmps75
  by_cases hle : x.length = ms.length
  · rw [hle] at HXP HSO HA0 hlx ⊢
    have hne : ((ms.length : Int) != ms.length) = false := by simp
    clear hle
    go_wp2_with fail
    refine (HSO.out _ HB.out).mono ?_
    rintro e w1 ⟨rfl, hb1⟩
    have HX1 := Lib.hid ((hb1.block _ (lt_of_block HX.out)).trans HX.out)
    have HB1 := Lib.hid (below_to HB.out hb1)
    have c0 := cell_of_row w1 w.heap.size 0 _ _ _ HX1.out
    simp at c0
    have l0 := lt_of_block HX1.out
    clear hb1
    cases S with
    | false =>
      go_wp2
      go_ret
      exact ⟨by rw [HA0.out]; simp, HB1.out⟩
    | true =>
      go_wp2
      clear c0 l0
      go_loopw [20] (fun i wr => ∃ q : Nat, q ≤ ms.length ∧ i = .int .i64 q ∧ Hid (∀ j, j < q → hasB (rg ms j).lo (rg ms j).hi (ld x j) = true) ∧ Hid (wr.heap[w.heap.size]? = some (.cells #[.slice am ms.length capm] 33 (0, 0))) ∧ Hid (Below w.heap.size w wr)) (fun i _ => ms.length - (intOf i).toNat)
      case atStart => exact ⟨0, Nat.zero_le _, rfl, Lib.hid (fun j hj => by omega), HX1, HB1⟩
      case round =>
        obtain ⟨q, hq, rfl, hg, hx, hb⟩ := hrel
        by_cases hlt : q < ms.length
        · obtain ⟨b, off, rfl, hbn, hc⟩ := HP.out (by omega)
          obtain ⟨xb, xoff, rfl, hxbn, hxc⟩ := HXP.out (by omega)
          have hltb : b < w.heap.size := by omega
          have hltx : xb < w.heap.size := by omega
          have c0 := cell_of_row wr w.heap.size 0 _ _ _ hx.out
          simp at c0
          have p1 := (hb.out.cell (p := ⟨b, off + q * 2, none⟩) hltb).trans (hc q hlt).1
          have p2 := (hb.out.cell (p := ⟨b, off + q * 2 + 1, none⟩) hltb).trans (hc q hlt).2
          have p3 := (hb.out.cell (p := ⟨xb, xoff + q, none⟩) hltx).trans (hxc q hlt)
          have HAS := Lib.hid (has_any (rg ms q).lo (rg ms q).hi (ld x q))
          have HNQ := Lib.hid (HHN.out q hlt)
          have HGQ : Hid (hasB (rg ms q).lo (rg ms q).hi (ld x q) = true → ∀ j, j < q + 1 → hasB (rg ms j).lo (rg ms j).hi (ld x j) = true) := Lib.hid fun h j hj => by
            by_cases e : j = q
            · rw [e]; exact h
            · exact hg.out j (by omega)
          have hqn : (q : Int) < ms.length := by omega
          have hw9 : IntKind.i64.wrap ((q : Int) + 1) = (q : Int) + 1 := IntWalk.i64_in _ (by omega)
          generalize hasB (rg ms q).lo (rg ms q).hi (ld x q) = z at *
          generalize (rg ms q).lo = lo at *
          generalize (rg ms q).hi = hi at *
          generalize ld x q = xq at *
          clear hc hxc hg
          go_wp2_with fail
          have g0 := cell_regrown c0
          have g1 := cell_regrown p1
          have g2 := cell_regrown p2
          have g3 := cell_regrown p3
          clear c0 p1 p2 p3
          cases z with
          | true =>
            have HZ := Lib.hid (HGQ.out rfl)
            clear HGQ HNQ
            refine wp_region_quiet_below (by kernel_rfl) (by kernel_rfl) ?_
            repeat (quiet_step (with_reducible exact Calls.regrown_of (HAS.out _)))
            refine wpQuiet_nil ?_
            intro _ hw'
            obtain ⟨⟨dq, osq⟩, hw''⟩ := hw'
            subst hw''
            have hxr := Lib.hid ((below_regrown wr dq osq).block _ (lt_of_block hx.out) |>.trans hx.out)
            have hbr := Lib.hid (below_to hb.out (below_regrown wr dq osq))
            clear g0 g1 g2 g3 hx hb
            go_wp2
            go_roundw
            case rel => exact ⟨q + 1, by omega, by simp, HZ, hxr, hbr⟩
            case measure => simp [intOf]; omega
          | false =>
            have HZ := Lib.hid (HNQ.out rfl)
            clear HGQ HNQ
            refine wp_region_quiet_below (by kernel_rfl) (by kernel_rfl) ?_
            repeat (quiet_step (with_reducible exact Calls.regrown_of (HAS.out _)))
            refine wpQuiet_nil ?_
            intro _ hw'
            obtain ⟨⟨dq, osq⟩, hw''⟩ := hw'
            subst hw''
            have hbr := Lib.hid (below_to hb.out (below_regrown wr dq osq))
            clear g0 g1 g2 g3 hx hb
            go_wp2
            go_ret
            exact ⟨by rw [HA0.out, HZ.out]; simp, hbr.out⟩
        · obtain rfl : q = ms.length := by omega
          have HZ := Lib.hid (HHY.out hg.out)
          go_wp2
          go_ret
          exact ⟨by rw [HA0.out, HZ.out]; simp, hb.out⟩
  · have hne : ((x.length : Int) != ms.length) = true := by rw [bne_iff_ne]; omega
    have hne2 : ((x.length : Int) == ms.length) = false := by rw [beq_eq_false_iff_ne]; omega
    go_wp2
    go_ret
    exact ⟨by rw [HA0.out, decide_eq_false hle]; simp, HB.out⟩
end Go.Proofs.Ytfijaafkagcmmaa
namespace Go.Proofs.Ytfijaafkagcmmaa
open Go.RowKit Go.Shelf
attribute [local irreducible] arrV wpQuiet

def rateE (ms : List Rg) (rs : List Rn) (x : List Int) : Int := if faultE ms rs = 0 then (if areB ms x = true then 0 else 2) else faultE ms rs

set_option maxRecDepth 100000 in
set_option maxHeartbeats 1000000 in
theorem checkRates_any (n : Nat) (mv rv v : Value) (ms : List Rg) (rs : List Rn) (x : List Int) (w : World) (hL : Held ms rs) (hlx : x.length ≤ 1000) (hV : RoomV n w mv rv ms rs) (hX : IntsV n w v x) :
    Calls Try.prog 54 #[.agg #[mv, rv], v] w fun e w' => e = .returned (.int .i64 (rateE ms rs x)) ∧ Below w.heap.size w w' := by
  have hn := hV.lt
  have HCK := Lib.hid fun w' (h : Below w.heap.size w w') => rcheck_any n mv rv ms rs w' hL (hV.below h)
  have HIR := Lib.hid fun w' (h : Below w.heap.size w w') => isRates_any n mv v ms x w' hL.m hlx (hV.m.same (.below hn h)) (hX.same (.below hn h)) (Nat.le_trans hn h.size)
  obtain ⟨am, capm, rfl, -⟩ := hV.m
  obtain ⟨ar, capr, rfl, -⟩ := hV.r
  obtain ⟨xa, xcap, rfl, -⟩ := hX
  have HX := Lib.hid (heap_alloc_new w (.cells #[.slice am ms.length capm, .slice ar rs.length capr] 100))
  have HB := Lib.hid (box_below w (.cells #[.slice am ms.length capm, .slice ar rs.length capr] 100))
  have HE : Hid (rateE ms rs x = if faultE ms rs = 0 then (if areB ms x = true then 0 else 2) else faultE ms rs) := Lib.hid rfl
  clear hV hL hn
  generalize rateE ms rs x = R at *
  generalize faultE ms rs = E at *
  generalize areB ms x = A at *
  go_enter Try.func54, Try.ntmps54
  go_wp2_with fail
  refine (HCK.out _ HB.out).mono ?_
  rintro e w1 ⟨rfl, hb1⟩
  obtain ⟨c0, c1, hx1⟩ := two_cells HX.out hb1
  have l0 := lt_of_block hx1
  have HB1 := Lib.hid (below_to HB.out hb1)
  clear hb1 hx1
  by_cases hE : E = 0
  · subst hE
    go_wp2_with fail
    refine (HIR.out _ HB1.out).mono ?_
    rintro e w2 ⟨rfl, hb2⟩
    have HB2 := Lib.hid (below_to HB1.out hb2)
    clear hb2 c0 c1 l0
    cases A with
    | true =>
      go_wp2
      go_ret
      exact ⟨by rw [HE.out]; simp, HB2.out⟩
    | false =>
      go_wp2
      go_ret
      exact ⟨by rw [HE.out]; simp, HB2.out⟩
  · have h1 : (E == 0) = false := by rw [beq_eq_false_iff_ne]; exact hE
    have h2 : (E != 0) = true := by rw [bne_iff_ne]; exact hE
    go_wp2
    go_ret
    exact ⟨by rw [HE.out, if_neg hE]; rfl, HB1.out⟩

set_option maxRecDepth 100000 in
set_option maxHeartbeats 1000000 in
theorem Allows_err (n : Nat) (mv rv v : Value) (ms : List Rg) (rs : List Rn) (x : List Int) (w : World) (hL : Held ms rs) (hlx : x.length ≤ 1000) (hV : RoomV n w mv rv ms rs) (hX : IntsV n w v x) (h : rateE ms rs x ≠ 0) :
    Calls Try.prog 20 #[.agg #[mv], rv, v] w fun e w' => e = .returned (.tuple #[.bool false, .int .i64 (rateE ms rs x)]) ∧ Below w.heap.size w w' := by
  have hn := hV.lt
  have HCR := Lib.hid fun w' (h : Below w.heap.size w w') => checkRates_any n mv rv v ms rs x w' hL hlx (hV.below h) (hX.same (.below hn h))
  obtain ⟨am, capm, rfl, -⟩ := hV.m
  obtain ⟨ar, capr, rfl, -⟩ := hV.r
  obtain ⟨xa, xcap, rfl, -⟩ := hX
  have HB := Lib.hid (below2 w (.cells #[.slice am ms.length capm] 33) (.cells #[.slice am ms.length capm, .slice ar rs.length capr] 100))
  clear hV hL hn
  generalize rateE ms rs x = A at *
  have h1 : (A == 0) = false := by rw [beq_eq_false_iff_ne]; exact h
  have h2 : (A != 0) = true := by rw [bne_iff_ne]; exact h
  go_enter Try.func20, Try.ntmps20
  go_wp2_with fail
  refine (HCR.out _ HB.out).mono ?_
  rintro e w1 ⟨rfl, hb1⟩
  have HB1 := Lib.hid (below_to HB.out hb1)
  clear hb1
  go_wp2
  go_ret2
  exact ⟨rfl, HB1.out⟩

set_option maxRecDepth 100000 in
set_option maxHeartbeats 400000 in
theorem CheckMaterial_any (n : Nat) (mv : Value) (ms : List Rg) (w : World) (hl : ms.length ≤ 1000) (hV : RgsV n w mv ms) (hn : n ≤ w.heap.size) :
    Calls Try.prog 18 #[.agg #[mv]] w fun e w' => e = .returned (.int .i64 (matE ms)) ∧ Below w.heap.size w w' := by
  have HM := Lib.hid fun w' (h : Below w.heap.size w w') => mcheck_any n mv ms w' (len_max hl) (hV.same (.below hn h)) (Nat.le_trans hn h.size)
  obtain ⟨am, capm, rfl, -⟩ := hV
  have HB := Lib.hid (box_below w (.cells #[.slice am ms.length capm] 33))
  go_enter Try.func18, Try.ntmps18
  go_wp2_with fail
  refine (HM.out _ HB.out).mono ?_
  rintro e w1 ⟨rfl, hb1⟩
  have HB1 := Lib.hid (below_to HB.out hb1)
  go_wp2
  go_ret
  exact ⟨rfl, HB1.out⟩
end Go.Proofs.Ytfijaafkagcmmaa
