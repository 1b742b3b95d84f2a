/- The spans of a round that is judged: contract. Condition: the round is valid. -/
import Derived.Test.YtpdkgnfblnblbaaN
namespace Go.Proofs.Ytpdkgnfblnblbaa
open Go.RowKit Go.Shelf
attribute [local irreducible] arrV wpQuiet
/-- Some samples have been held against what is left of their lots. -/
def mixL (R : Rd) (off : Nat → Bool) (q : Nat) : List Rg := (List.range R.smp.length).map fun s => if s < q then spanR R off s else valR R off s
theorem mix_len (R : Rd) (off : Nat → Bool) (q : Nat) : (mixL R off q).length = R.smp.length := by simp [mixL]
theorem mix_zero (R : Rd) (off : Nat → Bool) : mixL R off 0 = valsF R off R.smp.length := by simp [mixL, valsF]
theorem mix_all (R : Rd) (off : Nat → Bool) : mixL R off R.smp.length = spansL R off := by
  unfold mixL spansL
  refine List.map_congr_left fun s hs => ?_
  rw [if_pos (by simpa using hs)]
theorem mix_get {R : Rd} {off : Nat → Bool} {q : Nat} (h : q < R.smp.length) : rg (mixL R off q) q = valR R off q := by simp [rg, mixL, h]
theorem mix_succ {R : Rd} {off : Nat → Bool} {q : Nat} (h : q < R.smp.length) : mixL R off (q + 1) = (mixL R off q).set q (spanR R off q) := by
  refine List.ext_getElem? fun i => ?_
  rw [List.getElem?_set]
  simp only [mixL, List.getElem?_map, List.length_map, List.length_range]
  by_cases hi : i < R.smp.length
  · rw [List.getElem?_range hi]
    by_cases hq : q = i
    · subst hq
      simp [h]
    · rw [if_neg hq]
      have : (i < q + 1) ↔ (i < q) := by omega
      simp [this]
  · rw [List.getElem?_eq_none (by simpa using hi)]
    by_cases hq : q = i
    · omega
    · simp [hq]
theorem expl_parts {R : Rd} {off : Nat → Bool} (h : ∀ s, s < R.smp.length → okG (valR R off s) = true) : explB R off = (lotsF R off R.smp.length).all okG := by
  unfold explB
  have : (List.range R.smp.length).all (fun s => okG (valR R off s)) = true := List.all_eq_true.2 fun s hs => h s (by simpa using hs)
  rw [this, Bool.true_and]
theorem expl_none {R : Rd} {off : Nat → Bool} {s : Nat} (hs : s < R.smp.length) (h : okG (valR R off s) = false) : explB R off = false := by
  unfold explB
  have : (List.range R.smp.length).all (fun s => okG (valR R off s)) = false := by
    rw [Bool.eq_false_iff]
    intro ha
    have := List.all_eq_true.1 ha s (by simpa using hs)
    rw [h] at this
    cases this
  rw [this, Bool.false_and]
theorem lots_bd {R : Rd} (hR : RdOk R) {off : Nat → Bool} {l : Nat} (hl : l < R.lots.length) (h : okG (rg (lotsF R off R.smp.length) l) = true) : 0 ≤ (rg (lotsF R off R.smp.length) l).lo ∧ (rg (lotsF R off R.smp.length) l).lo ≤ (rg (lotsF R off R.smp.length) l).hi ∧ (rg (lotsF R off R.smp.length) l).hi ≤ 1000 := by
  have h0 : (rg (lotsF R off R.smp.length) l).lo ≤ (rg (lotsF R off R.smp.length) l).hi := of_decide_eq_true h
  have h1 := ((in_lots hR (Nat.le_refl _)).1 (show InR (rg (lotsF R off R.smp.length) l) _ from ⟨Int.le_refl _, h0⟩)).1
  have h2 := ((in_lots hR (Nat.le_refl _)).1 (show InR (rg (lotsF R off R.smp.length) l) _ from ⟨h0, Int.le_refl _⟩)).1
  have h3 := hR.lot _ (rg_mem hl)
  simp only [InR] at h1 h2
  omega

/-- The spans, if there is a truth. -/
def SpnP (R : Rd) (off : Nat → Bool) (w : World) (e : Ending) (w' : World) : Prop :=
  ∃ a c k, e = .returned (.tuple #[.slice a k c, .bool (explB R off)]) ∧ (explB R off = true → k = R.smp.length ∧ w'.ownsRow w.heap.size 46 2 (.slice a k c) k (flatR (spansL R off))) ∧ (explB R off = false → k = 0)

set_option maxRecDepth 100000 in
set_option maxHeartbeats 4000000 in
theorem spans_any (n : Nat) (p : Rp) (R : Rd) (off : Nat → Bool) (w : World) (hR : RdOk R) (hV : RdV n w p R) (hn : n ≤ w.heap.size) :
    Calls Try.prog 46 #[.agg #[.slice p.la R.lots.length p.lc, .slice p.sa R.smp.length p.sc, .int .i64 R.sp, .slice p.ba R.labs.length p.bc, .bool (off 0), .bool (off 1), .bool (off 2), .bool (off 3), .bool (off 4), .bool (off 5)]] w fun e w' => SpnP R off w e w' ∧ Below w.heap.size w w' := by
  have HNR := Lib.hid fun w' (h : Below w.heap.size w w') => narrow_any n p R off w' hR (hV.same (.below hn h)) (Nat.le_trans hn h.size)
  have HX := Lib.hid (heap_alloc_new w (.cells #[.slice p.la R.lots.length p.lc, .slice p.sa R.smp.length p.sc, .int .i64 R.sp, .slice p.ba R.labs.length p.bc, .bool (off 0), .bool (off 1), .bool (off 2), .bool (off 3), .bool (off 4), .bool (off 5)] 83))
  have HB := Lib.hid (box_below w (.cells #[.slice p.la R.lots.length p.lc, .slice p.sa R.smp.length p.sc, .int .i64 R.sp, .slice p.ba R.labs.length p.bc, .bool (off 0), .bool (off 1), .bool (off 2), .bool (off 3), .bool (off 4), .bool (off 5)] 83))
  have HV := Lib.hid hV
  have HOK := Lib.hid hR
  have HN := Lib.hid hn
  clear hR hV hn
  go_enter Try.func46, Try.ntmps46
  go_wp2_with fail
  generalize World.alloc w _ = W at *
  refine (HNR.out W HB.out).mono ?_
  rintro e W1 ⟨⟨gl, cl, sa, sc, k, rfl, hc⟩, hb⟩
  have hzw := lt_of_block HX.out
  replace HX := Lib.hid ((hb.block _ (lt_of_block HX.out)).trans HX.out)
  replace HB := Lib.hid (below_to HB.out hb)
  clear hb HNR
  have a0 := cell_of_row W1 w.heap.size 0 _ _ _ HX.out
  have a1 := cell_of_row W1 w.heap.size 1 _ _ _ HX.out
  have a2 := cell_of_row W1 w.heap.size 2 _ _ _ HX.out
  have a3 := cell_of_row W1 w.heap.size 3 _ _ _ HX.out
  simp only [List.getElem?_toArray, List.getElem?_cons_zero, List.getElem?_cons_succ] at a0 a1 a2 a3
  have la := lt_of_block HX.out
  rcases hc with ⟨rfl, hok, hgl, hlo, hso⟩ | ⟨hk, s, hs, hno⟩
  · have HE := Lib.hid (expl_parts hok)
    have hlr : RgsV W1.heap.size W1 (.slice (some ⟨gl, 0, none⟩) R.lots.length cl) (lotsF R off R.smp.length) := own_rgs (l := lotsF R off R.smp.length) (by rw [lotsF_len]; exact hlo)
    have HEA := Lib.hid (each_rg W1.heap.size 64 #[] _ (lotsF R off R.smp.length) (fun q => okG (rg (lotsF R off R.smp.length) q)) W1 (by rw [lotsF_len]; have := HOK.out.l4; unfold maxLen; omega) hlr (Nat.le_refl _) (fun _ _ => rfl) (fun q w2 _ _ _ => hasSome_any _ _ w2))
    rw [allN_rgs okG] at HEA
    have HLO := Lib.hid (ownsRow_mono (b := W.heap.size) (by omega : w.heap.size ≤ W.heap.size) hlo)
    have HSO := Lib.hid hso
    have HGW : Hid (w.heap.size < gl) := Lib.hid (by omega)
    have HALL := Lib.hid fun (h : (lotsF R off R.smp.length).all okG = true) => all_rg okG |>.1 h
    clear hok hgl hlo hso hlr
    rw [← HE.out] at HEA HALL
    obtain ⟨z, hz⟩ : ∃ z, explB R off = z := ⟨_, rfl⟩
    rw [hz] at HEA HALL
    have HZ := Lib.hid hz
    clear hz
    go_wp2_with fail
    refine HEA.out.mono ?_
    rintro e W2 ⟨rfl, hb⟩
    replace HX := Lib.hid ((hb.block _ (lt_of_block HX.out)).trans HX.out)
    replace HB := Lib.hid (below_to HB.out hb)
    replace HLO := Lib.hid (row_kept HLO.out hb)
    replace HSO := Lib.hid (row_kept HSO.out hb)
    clear hb HEA a0 a1 a2 a3 la
    cases z with
    | false =>
      go_wp2
      go_ret2
      exact ⟨⟨none, 0, 0, (by rw [HZ.out]; rfl), (fun h => by rw [HZ.out] at h; cases h), fun _ => rfl⟩, HB.out⟩
    | true =>
      replace HALL := Lib.hid (HALL.out (by trivial))
      have a0 := cell_of_row W2 w.heap.size 0 _ _ _ HX.out
      have a1 := cell_of_row W2 w.heap.size 1 _ _ _ HX.out
      have a2 := cell_of_row W2 w.heap.size 2 _ _ _ HX.out
      have a3 := cell_of_row W2 w.heap.size 3 _ _ _ HX.out
      simp only [List.getElem?_toArray, List.getElem?_cons_zero, List.getElem?_cons_succ] at a0 a1 a2 a3
      have la := lt_of_block HX.out
      have HSM : Hid (W2.ownsRow (gl + 1) 46 2 (.slice sa R.smp.length sc) R.smp.length (flatR (mixL R off 0))) := Lib.hid (by rw [mix_zero]; exact HSO.out)
      clear HSO
      have HMG := Lib.hid fun q h => @mix_get R off q h
      have HMS := Lib.hid fun q h => @mix_succ R off q h
      have HML := Lib.hid (mix_len R off)
      have HLL := Lib.hid (lotsF_len R off R.smp.length)
      have HLB := Lib.hid fun l (hl : l < R.lots.length) => lots_bd HOK.out (off := off) hl (HALL.out l (by rw [HLL.out]; exact hl))
      have hsmp := HV.out.smp
      obtain ⟨pla, plc, psa, psc, pba, pbc⟩ := p
      obtain ⟨sa', sc', hsv, hsp⟩ := hsmp
      unfold smpV at hsv
      simp only [Value.slice.injEq, true_and] at hsv
      obtain ⟨rfl, rfl⟩ := hsv
      have HSP := Lib.hid hsp
      clear hsp HALL HV
      go_wp2
      clear a0 a1 a2 a3 la
      go_loopw [29] (fun i wr => ∃ q : Nat, q ≤ R.smp.length ∧ i = .int .i64 q ∧ Hid (wr.heap[w.heap.size]? = some (.cells #[.slice pla R.lots.length plc, .slice psa R.smp.length psc, .int .i64 R.sp, .slice pba R.labs.length pbc, .bool (off 0), .bool (off 1), .bool (off 2), .bool (off 3), .bool (off 4), .bool (off 5)] 83 (0, 0))) ∧ Hid (wr.ownsRow w.heap.size 46 2 (.slice (some ⟨gl, 0, none⟩) R.lots.length cl) R.lots.length (flatR (lotsF R off R.smp.length))) ∧ Hid (wr.ownsRow (gl + 1) 46 2 (.slice sa R.smp.length sc) R.smp.length (flatR (mixL R off q))) ∧ Hid (Below w.heap.size w wr)) (fun i _ => R.smp.length - (intOf i).toNat)
      case atStart => exact ⟨0, Nat.zero_le _, rfl, HX, HLO, HSM, HB⟩
      case round =>
        clear HX HLO HSM HB
        obtain ⟨q, hq, rfl, HX, HLO, HSM, HB⟩ := hrel
        by_cases hlt : q < R.smp.length
        · have hqn : (q : Int) < R.smp.length := by omega
          have hw9 : IntKind.i64.wrap ((q : Int) + 1) = (q : Int) + 1 := IntWalk.i64_in _ (by have := HOK.out.s8; omega)
          obtain ⟨sb, so, hsab, hsbn, hsc⟩ := HSP.out (by omega)
          obtain ⟨hL1, hL2⟩ := HOK.out.lotN hlt
          have hnw := HN.out
          have p1 := (HB.out.cell (p := ⟨sb, so + q, none⟩) (show sb < w.heap.size by omega)).trans (hsc q hlt)
          rw [← hL2] at p1
          subst hsab
          obtain ⟨gs, cs, hge, hgs, hgsl, hsc2⟩ := own_get HSM.out (by omega)
          cases hge
          obtain ⟨g2, c2, hge, -, hgll, hlc2⟩ := own_get HLO.out (by omega)
          cases hge
          obtain ⟨f1, f2⟩ := flatR_get (mixL R off q) q (by rw [HML.out]; exact hlt)
          obtain ⟨f3, f4⟩ := flatR_get (lotsF R off R.smp.length) (lotN R q) (by rw [HLL.out]; exact hL1)
          rw [HMG.out q hlt] at f1 f2
          have p2 := (hsc2 (q * 2) (by omega)).trans f1
          have p3 := (hsc2 (q * 2 + 1) (by omega)).trans f2
          have p4 := (hlc2 (lotN R q * 2) (by omega)).trans f3
          have p5 := (hlc2 (lotN R q * 2 + 1) (by omega)).trans f4
          have hlb := HLB.out _ hL1
          have hsp := HOK.out.sp
          have hLn : (lotN R q : Int) < R.lots.length := by omega
          have HWI := Lib.hid fun w => wider_any (rg (lotsF R off R.smp.length) (lotN R q)).lo (rg (lotsF R off R.smp.length) (lotN R q)).hi R.sp w (IntWalk.i64_in _ (by omega)) (IntWalk.i64_in _ (by omega))
          have HCM := Lib.hid (common_any (valR R off q) (wid (rg (lotsF R off R.smp.length) (lotN R q)) R.sp))
          have HSPN : Hid (spanR R off q = ands (valR R off q) (wid (rg (lotsF R off R.smp.length) (lotN R q)) R.sp)) := Lib.hid rfl
          have hwid : wid (rg (lotsF R off R.smp.length) (lotN R q)) R.sp = ⟨(rg (lotsF R off R.smp.length) (lotN R q)).lo - R.sp, (rg (lotsF R off R.smp.length) (lotN R q)).hi + R.sp⟩ := rfl
          have HSTEP := Lib.hid (HMS.out q hlt)
          rw [← HSPN.out] at HCM
          rw [hwid] at HCM
          clear hsc hsbn hL2 hsc2 hlc2 f1 f2 f3 f4 hlb hsp hwid HSPN
          obtain ⟨nw, hnw2⟩ : ∃ nw, nw = spanR R off q := ⟨_, rfl⟩
          rw [← hnw2] at HCM HSTEP
          clear hnw2
          generalize (rg (lotsF R off R.smp.length) (lotN R q)).lo = xl at *
          generalize (rg (lotsF R off R.smp.length) (lotN R q)).hi = xh at *
          generalize (valR R off q).lo = vl at *
          generalize (valR R off q).hi = vh at *
          have HL1 := Lib.hid hL1
          obtain ⟨Ln, hLnn⟩ : ∃ Ln, Ln = lotN R q := ⟨_, rfl⟩
          rw [← hLnn] at p1 p4 p5 hLn hL1 HL1
          clear hLnn
          have k2 := cell_of_row wr w.heap.size 2 _ _ _ HX.out
          simp only [List.getElem?_toArray, List.getElem?_cons_zero, List.getElem?_cons_succ] at k2
          have r1 := cell_regrown p2
          have r2 := cell_regrown p3
          have r3 := cell_regrown p4
          have r4 := cell_regrown p5
          have r5 := cell_regrown k2
          clear p2 p3 p4 p5 k2
          go_wp2_with fail
          refine wp_region_below_tail 16 (by kernel_rfl) (by kernel_rfl) ?_
          repeat (quiet_step (first | with_reducible exact Calls.regrown_of (HWI.out _) | with_reducible exact Calls.regrown_of (HCM.out _)))
          refine wpQuiet_nil ?_
          intro A4 hb4
          simp only [List.drop_succ_cons, List.drop_zero]
          have hso4 := row_kept HSM.out hb4
          refine wpList_store_mid rfl 46 (.tmp 49) (.tmp 48) rfl gs (q * 2) #[.int .i64 nw.lo, .int .i64 nw.hi] rfl rfl (there_ownR hso4 hlt) (by kernel_rfl) (by simp [Value.oneCell']) ?_
          have hset := own_setR nw (HML.out q).symm hso4 hlt
          have hp := put_cells gs (q * 2) [.int .i64 nw.lo, .int .i64 nw.hi] A4
          have hA4 := hb4.size
          have lX := lt_of_block HX.out
          have hgw := HGW.out
          have HX5 := Lib.hid ((hp.other w.heap.size (by omega)).trans ((hb4.block _ (lt_of_block HX.out)).trans HX.out))
          have HLO5 := Lib.hid (own_at (row_kept HLO.out hb4) fun g hg => hp.other g (by simp [Value.ownBlock] at hg; omega))
          have HB5 := Lib.hid (hp.below (below_to HB.out hb4) (by omega))
          have HSM5 : Hid ((A4.setCells gs (q * 2) [.int .i64 nw.lo, .int .i64 nw.hi]).ownsRow (gl + 1) 46 2 (.slice (some ⟨gs, 0, none⟩) R.smp.length sc) R.smp.length (flatR (mixL R off (q + 1)))) := Lib.hid (by rw [HSTEP.out]; exact hset)
          clear hset hp hso4 hb4 r1 r2 r3 r4 r5
          generalize World.setCells A4 _ _ _ = A5 at *
          simp only [wpList]
          go_wp2
          go_roundw
          case rel => exact ⟨q + 1, by omega, by simp, HX5, HLO5, HSM5, HB5⟩
          case measure => simp [intOf]; omega
        · obtain rfl : q = R.smp.length := by omega
          have HSA : Hid (wr.ownsRow w.heap.size 46 2 (.slice sa R.smp.length sc) R.smp.length (flatR (spansL R off))) := Lib.hid (by rw [← mix_all]; exact ownsRow_mono (by have := HGW.out; omega) HSM.out)
          go_wp2
          go_ret2
          exact ⟨⟨sa, sc, _, (by rw [HZ.out]; rfl), (fun _ => ⟨rfl, HSA.out⟩), (fun h => by rw [HZ.out] at h; cases h)⟩, HB.out⟩
  · have HE := Lib.hid (expl_none hs hno)
    have hk1 : decide ((k : Int) < R.smp.length) = true := decide_eq_true (by omega)
    have hk2 : decide (k < R.smp.length) = true := decide_eq_true hk
    clear hk hno
    go_wp2
    go_ret2
    exact ⟨⟨none, 0, 0, (by rw [HE.out]; rfl), (fun h => by rw [HE.out] at h; cases h), fun _ => rfl⟩, HB.out⟩
end Go.Proofs.Ytpdkgnfblnblbaa
