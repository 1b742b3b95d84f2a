/- Grades by words, and an album whose comparisons say what is so. Condition: a valid album. -/
import Derived.Test.YtplmlmmjfkbabaaTCJ
namespace Go.Proofs.Ytplmlmmjfkbabaa
open Go.RowKit Go.Shelf
attribute [local irreducible] arrV wpQuiet mat shl

def gOf (x : List Int) (p : Int) : Int := if 0 ≤ p then ld x p.toNat else 0
def MadeC (cs out : List Cm) (x : List Int) : Prop := ∀ i, i < out.length → (cm out i).l = (cm cs i).l ∧ (cm out i).r = (cm cs i).r ∧ -100 ≤ (cm out i).lo ∧ (cm out i).lo ≤ gOf x (cm cs i).l - gOf x (cm cs i).r ∧ gOf x (cm cs i).l - gOf x (cm cs i).r ≤ (cm out i).hi ∧ (cm out i).hi ≤ 100
theorem flatC_app (l m : List Cm) : flatC (l ++ m) = flatC l ++ flatC m := by simp [flatC]
def GrOk (x : List Int) : Prop := ∀ j, j < x.length → 0 ≤ ld x j ∧ ld x j ≤ 100
theorem GrOk.snoc {x : List Int} {y : Int} (h : GrOk x) (hy : 0 ≤ y ∧ y ≤ 100) : GrOk (x ++ [y]) := fun j hj => by
  rcases Nat.lt_or_ge j x.length with h1 | h1
  · simp only [ld, List.getElem?_append_left h1]
    exact h j h1
  · obtain rfl : j = x.length := by simp at hj; omega
    simpa [ld] using hy
theorem GrOk.at {x : List Int} (h : GrOk x) {p : Int} (hp : p < x.length) : 0 ≤ gOf x p ∧ gOf x p ≤ 100 := by
  unfold gOf
  split
  · exact h _ (by omega)
  · omega
theorem ints_row {w : World} {base : Nat} {v : Value} {x : List Int} {k : Nat} (h : w.ownsRow base 3 1 v k (x.map iV)) (hx : x.length = k) {j : Nat} (hj : j < k) :
    ∃ g c, v = .slice (some ⟨g, 0, none⟩) k c ∧ base ≤ g ∧ g < w.heap.size ∧ w.cell? ⟨g, j, none⟩ = some (.int .i64 (ld x j)) := by
  obtain ⟨g, c, hv, hb, hg, hc⟩ := own_getR h (by omega)
  refine ⟨g, c, hv, hb, hg, ?_⟩
  rw [hc j (by omega)]
  have hj' : j < x.length := by omega
  simp [ld, hj', iV]
set_option maxRecDepth 100000 in
set_option maxHeartbeats 8000000 in
theorem Truly_any (m : Nat) (N : Nat) (cv wv : Value) (cs : List Cm) (w : World) (hA : AlbOk N cs) (hV : CmsV m w cv cs) (hW : WordsV m w wv) (hm : m ≤ w.heap.size) :
    Calls Try.prog 43 #[.agg #[.int .i64 N, cv], wv] w fun e w' => (∃ gv ov x out, e = .returned (.tuple #[gv, .agg #[.int .i64 N, ov]]) ∧ w'.ownsRow w.heap.size 3 1 gv N (x.map iV) ∧ x.length = N ∧ GrOk x ∧ w'.ownsRow w.heap.size 73 4 ov out.length (flatC out) ∧ out.length = cs.length ∧ MadeC cs out x) ∧ Below w.heap.size w w' := by
  have hN8 : N ≤ 8 := by have := hA.n8; omega
  have hl12 := hA.len
  have HOK := Lib.hid hA
  have HWD := Lib.hid fun A (hA : A ≤ 1000) w' (h : Below w.heap.size w w') => word_any m wv A w' hA (hW.same (.below hm h)) (Nat.le_trans hm h.size)
  obtain ⟨ca, ccap, rfl, hp⟩ := hV
  obtain ⟨aw, mw, capw, wd, rfl, -, -⟩ := hW
  have HP := Lib.hid hp
  have h1 := box2 w (.cells #[.int .i64 N, .slice ca cs.length ccap] 24) (.cells #[.int .i64 0, .slice none 0 0] 24)
  have HX := Lib.hid h1.1
  have HR := Lib.hid h1.2
  have HB := Lib.hid (below2 w (.cells #[.int .i64 N, .slice ca cs.length ccap] 24) (.cells #[.int .i64 0, .slice none 0 0] 24))
  clear hp hA h1
  go_enter Try.func43, Try.ntmps43
  go_wp2
  obtain ⟨W, hW⟩ : ∃ W, (w.alloc (.cells #[.int .i64 N, .slice ca cs.length ccap] 24)).alloc (.cells #[.int .i64 0, .slice none 0 0] 24) = W := ⟨_, rfl⟩
  rw [hW] at HX HR HB ⊢
  clear hW
  have hzW : w.heap.size + 2 ≤ W.heap.size := by have := lt_of_block HR.out; omega
  go_loopw [6, 7] (fun v i wr => ∃ k : Nat, k ≤ N ∧ i = .int .i64 k ∧ Hid (∃ x : List Int, x.length = k ∧ wr.ownsRow (w.heap.size + 2) 3 1 v k (x.map iV) ∧ GrOk x) ∧ Hid (wr.heap[w.heap.size]? = some (.cells #[.int .i64 N, .slice ca cs.length ccap] 24 (0, 0))) ∧ Hid (wr.heap[w.heap.size + 1]? = some (.cells #[.int .i64 0, .slice none 0 0] 24 (0, 0))) ∧ Hid (Below w.heap.size w wr)) (fun _ i _ => N - (intOf i).toNat)
  case atStart => exact ⟨0, Nat.zero_le _, rfl, Lib.hid ⟨[], rfl, World.ownsRow_nil _ _ _ _, fun j hj => by simp at hj⟩, HX, HR, HB⟩
  case round =>
    clear HX HR HB hzW
    obtain ⟨k, hk, rfl, HO, HX, HR, HB⟩ := hrel
    have c0 := cell_of_row wr w.heap.size 0 _ _ _ HX.out
    simp only [List.getElem?_toArray, List.getElem?_cons_zero] at c0
    have l0 := lt_of_block HX.out
    by_cases hlt : k < N
    · have hkn : (k : Int) < N := by omega
      have hwk : IntKind.i64.wrap ((k : Int) + 1) = (k : Int) + 1 := IntWalk.i64_in _ (by omega)
      go_wp2_with fail
      refine (HWD.out k (by omega) wr HB.out).mono ?_
      rintro e w1 ⟨⟨y, rfl, hy0, hy1⟩, hb1⟩
      have HX1 := Lib.hid ((hb1.block _ (lt_of_block HX.out)).trans HX.out)
      have HR1 := Lib.hid ((hb1.block _ (lt_of_block HR.out)).trans HR.out)
      have HB1 := Lib.hid (below_to HB.out hb1)
      have hz1 : w.heap.size + 2 ≤ w1.heap.size := by have := lt_of_block HR1.out; omega
      obtain ⟨x, hxl, hown, hxs⟩ := HO.out
      have HO1 := Lib.hid (own_same hown (fun g _ hg => hb1.block g hg))
      have HXS := Lib.hid hxs
      have HXL := Lib.hid hxl
      clear hb1 hown hxs hxl c0 l0 HO HX HR HB
      obtain ⟨r, hr⟩ : ∃ r, y.tmod 101 = r := ⟨_, rfl⟩
      have hrm : y % 101 = r := by rw [← hr, Int.tmod_eq_emod_of_nonneg hy0]
      have hr0 : 0 ≤ r ∧ r ≤ 100 := by omega
      have HR0 := Lib.hid hr0
      have hwr : IntKind.i64.wrap r = r := IntWalk.i64_in _ (by omega)
      clear hr0 hy1
      go_wp2_with (first
        | (refine wpList_app el50 rfl (.tmp 18) (.tmp 23) rfl (w.heap.size + 2) _ _ _ #[.int .i64 r] rfl (by intro u hu; simp at hu; subst hu; rfl) rfl rfl HO1.out (by omega) (by omega) ?_
           intro g1 c w' hown hgr _)
        | fail)
      go_roundw
      case rel =>
        refine ⟨k + 1, hlt, by simp, Lib.hid ⟨x ++ [r], by simp [HXL.out], ?_, HXS.out.snoc HR0.out⟩, Lib.hid ((hgr.below.block _ (by omega)).trans HX1.out), Lib.hid ((hgr.below.block _ (by omega)).trans HR1.out), Lib.hid (HB1.out.trans (hgr.below.mono (by omega)))⟩
        rw [List.map_append]
        exact hown
      case measure => simp [intOf]; omega
    · obtain rfl : N = k := by omega
      obtain ⟨x, hxl, hown, hxs⟩ := HO.out
      obtain ⟨oa, oc, rfl⟩ := own_shape hown
      have HGR := Lib.hid hown
      have HXS := Lib.hid hxs
      have HXL := Lib.hid hxl
      clear hown hxs hxl HO hlt
      rename World => wA
      have HZA : Hid (w.heap.size + 2 ≤ wA.heap.size) := Lib.hid (by have := lt_of_block HR.out; omega)
      have HN8 := Lib.hid (heap_alloc_new wA (.cells #[.int .i64 N, .slice none 0 0] 24))
      have HB8 := Lib.hid (box_below wA (.cells #[.int .i64 N, .slice none 0 0] 24))
      go_wp2
      go_loopw [9] (fun i w2 => ∃ q : Nat, q ≤ cs.length ∧ i = .int .i64 q ∧ Hid (∃ sv out, out.length = q ∧ w2.heap[wA.heap.size]? = some (.cells #[.int .i64 N, sv] 24 (0, 0)) ∧ w2.ownsRow (wA.heap.size + 1) 73 4 sv q (flatC out) ∧ MadeC cs out x) ∧ Hid (Below wA.heap.size wA w2)) (fun i _ => cs.length - (intOf i).toNat)
      case atStart => exact ⟨0, Nat.zero_le _, rfl, Lib.hid ⟨_, [], rfl, HN8.out, World.ownsRow_nil _ _ _ _, fun j hj => by simp at hj⟩, HB8⟩
      case round =>
        clear HN8 HB8 c0 l0
        obtain ⟨q, hq, rfl, HO, HBr⟩ := hrel
        have HX2 := Lib.hid ((HBr.out.block _ (lt_of_block HX.out)).trans HX.out)
        have HR2 := Lib.hid ((HBr.out.block _ (lt_of_block HR.out)).trans HR.out)
        have HG2 := Lib.hid (row_kept HGR.out HBr.out)
        have HBw := Lib.hid (below_to HB.out HBr.out)
        obtain ⟨sv, out, hol, hrow, hown, hmade⟩ := HO.out
        have HROW := Lib.hid hrow
        have HOWN := Lib.hid hown
        have HMD := Lib.hid hmade
        have HOL := Lib.hid hol
        clear HO hol hrow hown hmade
        have d1 := cell_of_row wr w.heap.size 1 _ _ _ HX2.out
        simp only [List.getElem?_toArray, List.getElem?_cons_zero, List.getElem?_cons_succ] at d1
        have e0 := lt_of_block HX2.out
        by_cases hlt : q < cs.length
        · have hqn : (q : Int) < cs.length := by omega
          have hwk : IntKind.i64.wrap ((q : Int) + 1) = (q : Int) + 1 := IntWalk.i64_in _ (by omega)
          obtain ⟨b, off, rfl, hbn, hcc⟩ := HP.out (by omega)
          obtain ⟨h1, h2, h3, h4⟩ := hcc q hlt
          have hltb : b < w.heap.size := by omega
          have p1 := (HBw.out.cell (p := ⟨b, off + q * 4, none⟩) hltb).trans h1
          have p2 := (HBw.out.cell (p := ⟨b, off + q * 4 + 1, none⟩) hltb).trans h2
          have p3 := (HBw.out.cell (p := ⟨b, off + q * 4 + 2, none⟩) hltb).trans h3
          have p4 := (HBw.out.cell (p := ⟨b, off + q * 4 + 3, none⟩) hltb).trans h4
          have lb : b < wr.heap.size := by omega
          have hck := HOK.out.cm _ (cm_mem hlt)
          have k1 := hck.l0
          have k2 := hck.ln
          have k3 := hck.r0
          have k4 := hck.rn
          have HMI : Hid (∀ lo hi, -100 ≤ lo → lo ≤ gOf x (cm cs q).l - gOf x (cm cs q).r → gOf x (cm cs q).l - gOf x (cm cs q).r ≤ hi → hi ≤ 100 → MadeC cs (out ++ [⟨(cm cs q).l, (cm cs q).r, lo, hi⟩]) x) := Lib.hid fun lo hi h1 h2 h3 h4 i hi2 => by
            rcases Nat.lt_or_ge i out.length with h5 | h5
            · have e : cm (out ++ [⟨(cm cs q).l, (cm cs q).r, lo, hi⟩]) i = cm out i := by simp only [cm, List.getElem?_append_left h5]
              rw [e]
              exact HMD.out i h5
            · obtain rfl : i = out.length := by simp at hi2; omega
              have e : cm (out ++ [⟨(cm cs q).l, (cm cs q).r, lo, hi⟩]) out.length = ⟨(cm cs q).l, (cm cs q).r, lo, hi⟩ := by simp [cm]
              rw [e, HOL.out]
              exact ⟨rfl, rfl, h1, h2, h3, h4⟩
          clear hcc h1 h2 h3 h4 hck
          generalize (cm cs q).l = cl at *
          generalize (cm cs q).r = cr at *
          generalize (cm cs q).lo = clo at *
          generalize (cm cs q).hi = chi at *
          obtain ⟨jl, rfl⟩ : ∃ j : Nat, cl = j := ⟨cl.toNat, by omega⟩
          have hjl : jl < N := by omega
          obtain ⟨g, gc, hgv, hgb, hgl, hcl⟩ := ints_row HG2.out HXL.out hjl
          cases hgv
          have hgl2 := (HXS.out jl (by rw [HXL.out]; exact hjl))
          have eL : gOf x (jl : Int) = ld x jl := by unfold gOf; rw [if_pos (by omega)]; rfl
          rw [eL] at HMI
          have hjn : (jl : Int) < N := by omega
          by_cases hr : 0 ≤ cr
          · obtain ⟨jr, rfl⟩ : ∃ j : Nat, cr = j := ⟨cr.toNat, by omega⟩
            have hjr : jr < N := by omega
            obtain ⟨g', gc', hgv, -, -, hcr⟩ := ints_row HG2.out HXL.out hjr
            cases hgv
            have hgr2 := (HXS.out jr (by rw [HXL.out]; exact hjr))
            have eR : gOf x (jr : Int) = ld x jr := by unfold gOf; rw [if_pos (by omega)]; rfl
            rw [eR] at HMI
            have hjrn : (jr : Int) < N := by omega
            generalize ld x jl = xl at *
            generalize ld x jr = xr at *
            have hw1 : IntKind.i64.wrap (xl - xr) = xl - xr := IntWalk.i64_in _ (by omega)
            have HV : Hid (-100 ≤ xl - xr ∧ xl - xr ≤ 100) := Lib.hid (by omega)
            have hwq1 : IntKind.i64.wrap (2 * (q : Int)) = 2 * (q : Int) := IntWalk.i64_in _ (by omega)
            have hwq2 : IntKind.i64.wrap (2 * (q : Int) + 5) = 2 * (q : Int) + 5 := IntWalk.i64_in _ (by omega)
            have hwq3 : IntKind.i64.wrap (3 * (q : Int)) = 3 * (q : Int) := IntWalk.i64_in _ (by omega)
            have hwq4 : IntKind.i64.wrap (3 * (q : Int) + 7) = 3 * (q : Int) + 7 := IntWalk.i64_in _ (by omega)
            go_wp2_with fail
            have hbx := box_below wr (.cells #[.int .i64 jl, .int .i64 jr, .int .i64 clo, .int .i64 chi] 73)
            have HNX := Lib.hid (heap_alloc_new wr (.cells #[.int .i64 jl, .int .i64 jr, .int .i64 clo, .int .i64 chi] 73))
            have HBA := Lib.hid (below_to HBr.out hbx)
            have HROA := Lib.hid ((hbx.block _ (lt_of_block HROW.out)).trans HROW.out)
            have HOWA := Lib.hid (row_kept HOWN.out hbx)
            have hwz : wA.heap.size < wr.heap.size := lt_of_block HROW.out
            have HNB : Hid (sv.ownBlock ≠ some wr.heap.size) := Lib.hid fun e => by have := (own_lt HOWN.out e).2; omega
            clear hbx p1 p2 p3 p4 d1 e0 hcl hcr HBr HROW HOWN HX2 HR2 HG2 HBw
            generalize World.alloc wr _ = w3 at *
            have hz3 : wr.heap.size < w3.heap.size := lt_of_block HNX.out
            generalize wr.heap.size = bx at *
            have hc1 := HWD.out (2 * q + 5) (by omega) w3 (below_to HB.out HBA.out)
            rw [show ((2 * q + 5 : Nat) : Int) = 2 * (q : Int) + 5 from by omega] at hc1
            refine hc1.mono ?_
            rintro e w4 ⟨⟨y, rfl, hy0, hy1⟩, hb4⟩
            have HNX4 := Lib.hid ((hb4.block _ (lt_of_block HNX.out)).trans HNX.out)
            have HBA4 := Lib.hid (below_to HBA.out hb4)
            have HRO4 := Lib.hid ((hb4.block _ (lt_of_block HROA.out)).trans HROA.out)
            have HOW4 := Lib.hid (row_kept HOWA.out hb4)
            obtain ⟨r1, hr1⟩ : ∃ r, y.tmod 9 = r := ⟨_, rfl⟩
            have hrm1 : y % 9 = r1 := by rw [← hr1, Int.tmod_eq_emod_of_nonneg hy0]
            have hr10 : 0 ≤ r1 ∧ r1 ≤ 8 := by omega
            have hwr1 : IntKind.i64.wrap r1 = r1 := IntWalk.i64_in _ (by omega)
            have hws1 : IntKind.i64.wrap ((xl - xr) - r1) = (xl - xr) - r1 := IntWalk.i64_in _ (by have := HV.out; omega)
            clear hb4 hc1 HNX HBA HROA HOWA
            go_wp2_with (first
              | (refine wpList_val rfl (.int .i64 (max (-100) (xl - xr - r1))) (exec_max (.const (.int .i64 (-100))) (.tmp 62) rfl _ _ rfl rfl) ?_)
              | fail)
            have hc1 := HWD.out (3 * q + 7) (by omega) w4 (below_to HB.out HBA4.out)
            rw [show ((3 * q + 7 : Nat) : Int) = 3 * (q : Int) + 7 from by omega] at hc1
            refine hc1.mono ?_
            rintro e w5 ⟨⟨z, rfl, hz0, hz1⟩, hb4⟩
            have HNX5 := Lib.hid ((hb4.block _ (lt_of_block HNX4.out)).trans HNX4.out)
            have HBA5 := Lib.hid (below_to HBA4.out hb4)
            have HRO5 := Lib.hid ((hb4.block _ (lt_of_block HRO4.out)).trans HRO4.out)
            have HOW5 := Lib.hid (row_kept HOW4.out hb4)
            obtain ⟨r2, hr2⟩ : ∃ r, z.tmod 9 = r := ⟨_, rfl⟩
            have hrm2 : z % 9 = r2 := by rw [← hr2, Int.tmod_eq_emod_of_nonneg hz0]
            have hr20 : 0 ≤ r2 ∧ r2 ≤ 8 := by omega
            have hwr2 : IntKind.i64.wrap r2 = r2 := IntWalk.i64_in _ (by omega)
            have hws2 : IntKind.i64.wrap ((xl - xr) + r2) = (xl - xr) + r2 := IntWalk.i64_in _ (by have := HV.out; omega)
            clear hb4 hc1 HNX4 HBA4 HRO4 HOW4 hy0 hy1 hz0 hz1 hrm1 hrm2
            have n2 := cell_of_row w5 bx 2 _ _ _ HNX5.out
            have n3 := cell_of_row w5 bx 3 _ _ _ HNX5.out
            simp only [List.getElem?_toArray, List.getElem?_cons_zero, List.getElem?_cons_succ] at n2 n3
            have nf2 := frozen_of_row w5 bx 2 _ _ HNX5.out
            have nf3 := frozen_of_row w5 bx 3 _ _ HNX5.out
            have ln := lt_of_block HNX5.out
            have o0 := cell_of_row w5 wA.heap.size 0 _ _ _ HRO5.out
            have o1 := cell_of_row w5 wA.heap.size 1 _ _ _ HRO5.out
            simp only [List.getElem?_toArray, List.getElem?_cons_zero, List.getElem?_cons_succ] at o0 o1
            have of1 := frozen_of_row w5 wA.heap.size 1 _ _ HRO5.out
            have lo := lt_of_block HRO5.out
            have HMJ := Lib.hid (show MadeC cs (out ++ [⟨(jl : Int), (jr : Int), (max (-100) (xl - xr - r1)), (min 100 (xl - xr + r2))⟩]) x from HMI.out (max (-100) (xl - xr - r1)) (min 100 (xl - xr + r2)) (by omega) (by have := HV.out; omega) (by have := HV.out; omega) (by omega))
            have z1 := heap_setCell_same w5 bx 2 _ 73 (.int .i64 (max (-100) (xl - xr - r1))) HNX5.out
            have z2 := heap_setCell_same _ bx 3 _ 73 (.int .i64 (min 100 (xl - xr + r2))) z1
            simp only [List.setIfInBounds_toArray, List.set_cons_succ, List.set_cons_zero] at z2
            have q0 := cell_of_row _ bx 0 _ _ _ z2
            have q1 := cell_of_row _ bx 1 _ _ _ z2
            have q2 := cell_of_row _ bx 2 _ _ _ z2
            have q3 := cell_of_row _ bx 3 _ _ _ z2
            simp only [List.getElem?_toArray, List.getElem?_cons_zero, List.getElem?_cons_succ] at q0 q1 q2 q3
            have hot1 : ∀ k, k ≠ bx → ((w5.setCell ⟨bx, 2, none⟩ (.int .i64 (max (-100) (xl - xr - r1)))).setCell ⟨bx, 3, none⟩ (.int .i64 (min 100 (xl - xr + r2)))).heap[k]? = w5.heap[k]? := fun k hk => (heap_setCell_other _ ⟨bx, 3, none⟩ k _ (by show k ≠ bx; exact hk)).trans (heap_setCell_other w5 ⟨bx, 2, none⟩ k _ (by show k ≠ bx; exact hk))
            have HO7 : Hid (((w5.setCell ⟨bx, 2, none⟩ (.int .i64 (max (-100) (xl - xr - r1)))).setCell ⟨bx, 3, none⟩ (.int .i64 (min 100 (xl - xr + r2)))).ownsRow (wA.heap.size + 1) 73 4 (sv) q (flatC out)) := Lib.hid (row_but HOW5.out HNB.out hot1)
            have HR7 : Hid (((w5.setCell ⟨bx, 2, none⟩ (.int .i64 (max (-100) (xl - xr - r1)))).setCell ⟨bx, 3, none⟩ (.int .i64 (min 100 (xl - xr + r2)))).heap[wA.heap.size]? = some (.cells #[.int .i64 N, sv] 24 (0, 0))) := Lib.hid ((hot1 _ (by omega)).trans HRO5.out)
            have HB7 : Hid (Below wA.heap.size wA ((w5.setCell ⟨bx, 2, none⟩ (.int .i64 (max (-100) (xl - xr - r1)))).setCell ⟨bx, 3, none⟩ (.int .i64 (min 100 (xl - xr + r2))))) := Lib.hid ((HBA5.out.setCell (p := ⟨bx, 2, none⟩) (by show wA.heap.size ≤ bx; omega) _).setCell (p := ⟨bx, 3, none⟩) (by show wA.heap.size ≤ bx; omega) _)
            have HS7 : Hid (wA.heap.size + 1 ≤ ((w5.setCell ⟨bx, 2, none⟩ (.int .i64 (max (-100) (xl - xr - r1)))).setCell ⟨bx, 3, none⟩ (.int .i64 (min 100 (xl - xr + r2)))).heap.size) := Lib.hid (by have := lt_of_block HR7.out; omega)
            have HSZ : Hid (((w5.setCell ⟨bx, 2, none⟩ (.int .i64 (max (-100) (xl - xr - r1)))).setCell ⟨bx, 3, none⟩ (.int .i64 (min 100 (xl - xr + r2)))).heap.size = w5.heap.size) := Lib.hid (by simp)
            clear hot1 z1 z2
            go_wp2_with (first
              | (refine wpList_val rfl (.int .i64 (min 100 (xl - xr + r2))) (exec_min (.const (.int .i64 100)) (.tmp 71) rfl _ _ rfl rfl) ?_)
              | (refine wpList_app el22 rfl (.tmp 76) (.tmp 78) rfl (wA.heap.size + 1) _ _ _ #[.int .i64 (jl : Int), .int .i64 ((jr : Int)), .int .i64 (max (-100) (xl - xr - r1)), .int .i64 (min 100 (xl - xr + r2))] rfl (by simp [Value.oneCell']) rfl (by first | rfl | (rw [HSZ.out]; rfl)) HO7.out HS7.out (by omega) ?_
                 intro g1 c w9 hown hgr _
                 have hr9 := (hgr.below.block _ (by omega)).trans HR7.out
                 have n1 := cell_of_row w9 wA.heap.size 1 _ _ _ hr9
                 simp only [List.getElem?_toArray, List.getElem?_cons_zero, List.getElem?_cons_succ] at n1
                 have nf1 := frozen_of_row w9 wA.heap.size 1 _ _ hr9
                 have nl := lt_of_block hr9
                 have HR9 := Lib.hid hr9
                 have HO9 := Lib.hid hown
                 have HB9 := Lib.hid (HB7.out.trans (hgr.below.mono (by omega)))
                 clear hr9 hown hgr)
              | fail)
            go_roundw
            case rel =>
              refine ⟨q + 1, hlt, by simp, Lib.hid ⟨_, out ++ [⟨(jl : Int), (jr : Int), (max (-100) (xl - xr - r1)), (min 100 (xl - xr + r2))⟩], by simp [HOL.out], by simpa using heap_setCell_same w9 wA.heap.size 1 _ 24 (.slice (some ⟨g1, 0, none⟩) (q + 1) c) HR9.out, ?_, HMJ.out⟩, Lib.hid (HB9.out.setCell (p := ⟨wA.heap.size, 1, none⟩) (by show wA.heap.size ≤ wA.heap.size; omega) _)⟩
              have h9 := row_but HO9.out (b := wA.heap.size) (fun e => by have := (own_lt HO9.out e).1; omega) (fun k hk => heap_setCell_other w9 ⟨wA.heap.size, 1, none⟩ k (.slice (some ⟨g1, 0, none⟩) (q + 1) c) hk)
              rw [flatC_app]
              exact h9
            case measure => simp [intOf]; omega
          · obtain rfl : cr = -1 := by omega
            have eR : gOf x (-1) = 0 := rfl
            rw [eR, Int.sub_zero] at HMI
            have hcr : True := trivial
            have hdr : decide ((0 : Int) ≤ -1) = false := rfl
            generalize ld x jl = xl at *
            have HV : Hid (-100 ≤ xl ∧ xl ≤ 100) := Lib.hid (by omega)
            have hwq1 : IntKind.i64.wrap (2 * (q : Int)) = 2 * (q : Int) := IntWalk.i64_in _ (by omega)
            have hwq2 : IntKind.i64.wrap (2 * (q : Int) + 5) = 2 * (q : Int) + 5 := IntWalk.i64_in _ (by omega)
            have hwq3 : IntKind.i64.wrap (3 * (q : Int)) = 3 * (q : Int) := IntWalk.i64_in _ (by omega)
            have hwq4 : IntKind.i64.wrap (3 * (q : Int) + 7) = 3 * (q : Int) + 7 := IntWalk.i64_in _ (by omega)
            go_wp2_with fail
            have hbx := box_below wr (.cells #[.int .i64 jl, .int .i64 (-1), .int .i64 clo, .int .i64 chi] 73)
            have HNX := Lib.hid (heap_alloc_new wr (.cells #[.int .i64 jl, .int .i64 (-1), .int .i64 clo, .int .i64 chi] 73))
            have HBA := Lib.hid (below_to HBr.out hbx)
            have HROA := Lib.hid ((hbx.block _ (lt_of_block HROW.out)).trans HROW.out)
            have HOWA := Lib.hid (row_kept HOWN.out hbx)
            have hwz : wA.heap.size < wr.heap.size := lt_of_block HROW.out
            have HNB : Hid (sv.ownBlock ≠ some wr.heap.size) := Lib.hid fun e => by have := (own_lt HOWN.out e).2; omega
            clear hbx p1 p2 p3 p4 d1 e0 hcl hcr HBr HROW HOWN HX2 HR2 HG2 HBw
            generalize World.alloc wr _ = w3 at *
            have hz3 : wr.heap.size < w3.heap.size := lt_of_block HNX.out
            generalize wr.heap.size = bx at *
            have hc1 := HWD.out (2 * q + 5) (by omega) w3 (below_to HB.out HBA.out)
            rw [show ((2 * q + 5 : Nat) : Int) = 2 * (q : Int) + 5 from by omega] at hc1
            refine hc1.mono ?_
            rintro e w4 ⟨⟨y, rfl, hy0, hy1⟩, hb4⟩
            have HNX4 := Lib.hid ((hb4.block _ (lt_of_block HNX.out)).trans HNX.out)
            have HBA4 := Lib.hid (below_to HBA.out hb4)
            have HRO4 := Lib.hid ((hb4.block _ (lt_of_block HROA.out)).trans HROA.out)
            have HOW4 := Lib.hid (row_kept HOWA.out hb4)
            obtain ⟨r1, hr1⟩ : ∃ r, y.tmod 9 = r := ⟨_, rfl⟩
            have hrm1 : y % 9 = r1 := by rw [← hr1, Int.tmod_eq_emod_of_nonneg hy0]
            have hr10 : 0 ≤ r1 ∧ r1 ≤ 8 := by omega
            have hwr1 : IntKind.i64.wrap r1 = r1 := IntWalk.i64_in _ (by omega)
            have hws1 : IntKind.i64.wrap ((xl) - r1) = (xl) - r1 := IntWalk.i64_in _ (by have := HV.out; omega)
            clear hb4 hc1 HNX HBA HROA HOWA
            go_wp2_with (first
              | (refine wpList_val rfl (.int .i64 (max (-100) (xl - r1))) (exec_max (.const (.int .i64 (-100))) (.tmp 62) rfl _ _ rfl rfl) ?_)
              | fail)
            have hc1 := HWD.out (3 * q + 7) (by omega) w4 (below_to HB.out HBA4.out)
            rw [show ((3 * q + 7 : Nat) : Int) = 3 * (q : Int) + 7 from by omega] at hc1
            refine hc1.mono ?_
            rintro e w5 ⟨⟨z, rfl, hz0, hz1⟩, hb4⟩
            have HNX5 := Lib.hid ((hb4.block _ (lt_of_block HNX4.out)).trans HNX4.out)
            have HBA5 := Lib.hid (below_to HBA4.out hb4)
            have HRO5 := Lib.hid ((hb4.block _ (lt_of_block HRO4.out)).trans HRO4.out)
            have HOW5 := Lib.hid (row_kept HOW4.out hb4)
            obtain ⟨r2, hr2⟩ : ∃ r, z.tmod 9 = r := ⟨_, rfl⟩
            have hrm2 : z % 9 = r2 := by rw [← hr2, Int.tmod_eq_emod_of_nonneg hz0]
            have hr20 : 0 ≤ r2 ∧ r2 ≤ 8 := by omega
            have hwr2 : IntKind.i64.wrap r2 = r2 := IntWalk.i64_in _ (by omega)
            have hws2 : IntKind.i64.wrap ((xl) + r2) = (xl) + r2 := IntWalk.i64_in _ (by have := HV.out; omega)
            clear hb4 hc1 HNX4 HBA4 HRO4 HOW4 hy0 hy1 hz0 hz1 hrm1 hrm2
            have n2 := cell_of_row w5 bx 2 _ _ _ HNX5.out
            have n3 := cell_of_row w5 bx 3 _ _ _ HNX5.out
            simp only [List.getElem?_toArray, List.getElem?_cons_zero, List.getElem?_cons_succ] at n2 n3
            have nf2 := frozen_of_row w5 bx 2 _ _ HNX5.out
            have nf3 := frozen_of_row w5 bx 3 _ _ HNX5.out
            have ln := lt_of_block HNX5.out
            have o0 := cell_of_row w5 wA.heap.size 0 _ _ _ HRO5.out
            have o1 := cell_of_row w5 wA.heap.size 1 _ _ _ HRO5.out
            simp only [List.getElem?_toArray, List.getElem?_cons_zero, List.getElem?_cons_succ] at o0 o1
            have of1 := frozen_of_row w5 wA.heap.size 1 _ _ HRO5.out
            have lo := lt_of_block HRO5.out
            have HMJ := Lib.hid (show MadeC cs (out ++ [⟨(jl : Int), (-1), (max (-100) (xl - r1)), (min 100 (xl + r2))⟩]) x from HMI.out (max (-100) (xl - r1)) (min 100 (xl + r2)) (by omega) (by have := HV.out; omega) (by have := HV.out; omega) (by omega))
            have z1 := heap_setCell_same w5 bx 2 _ 73 (.int .i64 (max (-100) (xl - r1))) HNX5.out
            have z2 := heap_setCell_same _ bx 3 _ 73 (.int .i64 (min 100 (xl + r2))) z1
            simp only [List.setIfInBounds_toArray, List.set_cons_succ, List.set_cons_zero] at z2
            have q0 := cell_of_row _ bx 0 _ _ _ z2
            have q1 := cell_of_row _ bx 1 _ _ _ z2
            have q2 := cell_of_row _ bx 2 _ _ _ z2
            have q3 := cell_of_row _ bx 3 _ _ _ z2
            simp only [List.getElem?_toArray, List.getElem?_cons_zero, List.getElem?_cons_succ] at q0 q1 q2 q3
            have hot1 : ∀ k, k ≠ bx → ((w5.setCell ⟨bx, 2, none⟩ (.int .i64 (max (-100) (xl - r1)))).setCell ⟨bx, 3, none⟩ (.int .i64 (min 100 (xl + r2)))).heap[k]? = w5.heap[k]? := fun k hk => (heap_setCell_other _ ⟨bx, 3, none⟩ k _ (by show k ≠ bx; exact hk)).trans (heap_setCell_other w5 ⟨bx, 2, none⟩ k _ (by show k ≠ bx; exact hk))
            have HO7 : Hid (((w5.setCell ⟨bx, 2, none⟩ (.int .i64 (max (-100) (xl - r1)))).setCell ⟨bx, 3, none⟩ (.int .i64 (min 100 (xl + r2)))).ownsRow (wA.heap.size + 1) 73 4 (sv) q (flatC out)) := Lib.hid (row_but HOW5.out HNB.out hot1)
            have HR7 : Hid (((w5.setCell ⟨bx, 2, none⟩ (.int .i64 (max (-100) (xl - r1)))).setCell ⟨bx, 3, none⟩ (.int .i64 (min 100 (xl + r2)))).heap[wA.heap.size]? = some (.cells #[.int .i64 N, sv] 24 (0, 0))) := Lib.hid ((hot1 _ (by omega)).trans HRO5.out)
            have HB7 : Hid (Below wA.heap.size wA ((w5.setCell ⟨bx, 2, none⟩ (.int .i64 (max (-100) (xl - r1)))).setCell ⟨bx, 3, none⟩ (.int .i64 (min 100 (xl + r2))))) := Lib.hid ((HBA5.out.setCell (p := ⟨bx, 2, none⟩) (by show wA.heap.size ≤ bx; omega) _).setCell (p := ⟨bx, 3, none⟩) (by show wA.heap.size ≤ bx; omega) _)
            have HS7 : Hid (wA.heap.size + 1 ≤ ((w5.setCell ⟨bx, 2, none⟩ (.int .i64 (max (-100) (xl - r1)))).setCell ⟨bx, 3, none⟩ (.int .i64 (min 100 (xl + r2)))).heap.size) := Lib.hid (by have := lt_of_block HR7.out; omega)
            have HSZ : Hid (((w5.setCell ⟨bx, 2, none⟩ (.int .i64 (max (-100) (xl - r1)))).setCell ⟨bx, 3, none⟩ (.int .i64 (min 100 (xl + r2)))).heap.size = w5.heap.size) := Lib.hid (by simp)
            clear hot1 z1 z2
            go_wp2_with (first
              | (refine wpList_val rfl (.int .i64 (min 100 (xl + r2))) (exec_min (.const (.int .i64 100)) (.tmp 71) rfl _ _ rfl rfl) ?_)
              | (refine wpList_app el22 rfl (.tmp 76) (.tmp 78) rfl (wA.heap.size + 1) _ _ _ #[.int .i64 (jl : Int), .int .i64 ((-1)), .int .i64 (max (-100) (xl - r1)), .int .i64 (min 100 (xl + r2))] rfl (by simp [Value.oneCell']) rfl (by first | rfl | (rw [HSZ.out]; rfl)) HO7.out HS7.out (by omega) ?_
                 intro g1 c w9 hown hgr _
                 have hr9 := (hgr.below.block _ (by omega)).trans HR7.out
                 have n1 := cell_of_row w9 wA.heap.size 1 _ _ _ hr9
                 simp only [List.getElem?_toArray, List.getElem?_cons_zero, List.getElem?_cons_succ] at n1
                 have nf1 := frozen_of_row w9 wA.heap.size 1 _ _ hr9
                 have nl := lt_of_block hr9
                 have HR9 := Lib.hid hr9
                 have HO9 := Lib.hid hown
                 have HB9 := Lib.hid (HB7.out.trans (hgr.below.mono (by omega)))
                 clear hr9 hown hgr)
              | fail)
            go_roundw
            case rel =>
              refine ⟨q + 1, hlt, by simp, Lib.hid ⟨_, out ++ [⟨(jl : Int), (-1), (max (-100) (xl - r1)), (min 100 (xl + r2))⟩], by simp [HOL.out], by simpa using heap_setCell_same w9 wA.heap.size 1 _ 24 (.slice (some ⟨g1, 0, none⟩) (q + 1) c) HR9.out, ?_, HMJ.out⟩, Lib.hid (HB9.out.setCell (p := ⟨wA.heap.size, 1, none⟩) (by show wA.heap.size ≤ wA.heap.size; omega) _)⟩
              have h9 := row_but HO9.out (b := wA.heap.size) (fun e => by have := (own_lt HO9.out e).1; omega) (fun k hk => heap_setCell_other w9 ⟨wA.heap.size, 1, none⟩ k (.slice (some ⟨g1, 0, none⟩) (q + 1) c) hk)
              rw [flatC_app]
              exact h9
            case measure => simp [intOf]; omega
        · obtain rfl : q = cs.length := by omega
          obtain ⟨sa, sc, rfl⟩ := own_shape HOWN.out
          have d0 := cell_of_row wr wA.heap.size 0 _ _ _ HROW.out
          have d2 := cell_of_row wr wA.heap.size 1 _ _ _ HROW.out
          simp only [List.getElem?_toArray, List.getElem?_cons_zero, List.getElem?_cons_succ] at d0 d2
          have l2 := lt_of_block HROW.out
          go_wp2_with fail
          go_still_tail 3, (by kernel_rfl)
          change wpList _ _ _ _ _ wr.drew
          have hb : Below wr.heap.size wr wr.drew := below_drawn wr
          replace HR2 := Lib.hid ((hb.block _ (lt_of_block HR2.out)).trans HR2.out)
          replace HG2 := Lib.hid (row_kept HG2.out hb)
          replace HOWN := Lib.hid (row_kept HOWN.out hb)
          replace HBw := Lib.hid (below_to HBw.out hb)
          have hwA : w.heap.size + 1 < wA.heap.size := lt_of_block HR.out
          clear hb d0 d1 d2 e0 l2 HROW HX2 HBr
          generalize wr.drew = W6 at *
          refine wpList_store_mid rfl 24 (.tmp 5) (.tmp 82) rfl (w.heap.size + 1) 0 #[.int .i64 N, .slice sa cs.length sc] rfl rfl (there_block HR2.out (by simp)) (by kernel_rfl) (by simp [Value.oneCell']) ?_
          have hot := (put_cells (w.heap.size + 1) 0 [.int .i64 N, .slice sa cs.length sc] W6).other
          have hbe := (put_cells (w.heap.size + 1) 0 [.int .i64 N, .slice sa cs.length sc] W6).below HBw.out (by omega)
          have y0 := set_pair (x := .int .i64 N) (y := .slice sa cs.length sc) HR2.out
          have y1 := row_but HOWN.out (b := w.heap.size + 1) (fun e => by have := (own_lt HOWN.out e).1; omega) hot
          have y2 := row_but HG2.out (b := w.heap.size + 1) (fun e => by have := (own_lt HG2.out e).1; omega) hot
          have HB9 := Lib.hid hbe
          have HR9 := Lib.hid y0
          have HO9 := Lib.hid y1
          have HG9 := Lib.hid y2
          clear hot y0 y1 y2 hbe
          simp only [Array.toList] at HR9 HB9 HO9 HG9 ⊢
          generalize World.setCells W6 _ _ _ = W9 at *
          have e0 := cell_of_row W9 (w.heap.size + 1) 0 _ _ _ HR9.out
          have e1 := cell_of_row W9 (w.heap.size + 1) 1 _ _ _ HR9.out
          simp only [List.getElem?_toArray, List.getElem?_cons_zero, List.getElem?_cons_succ] at e0 e1
          go_wp2
          refine bodyPost_ret (v := .tuple #[.slice oa N oc, .agg #[.int .i64 N, .slice sa cs.length sc]]) ?_ rfl ⟨⟨_, _, x, out, rfl, ownsRow_mono (by omega) HG9.out, HXL.out, HXS.out, by rw [HOL.out]; exact ownsRow_mono (by omega) HO9.out, HOL.out, HMD.out⟩, HB9.out⟩
          simp [results, Try.results43, go_sem, e0, e1]
end Go.Proofs.Ytplmlmmjfkbabaa
