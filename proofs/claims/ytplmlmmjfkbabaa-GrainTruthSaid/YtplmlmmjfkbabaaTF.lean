/- The law GrainTruth, walked. No condition. -/
import Derived.Test.YtplmlmmjfkbabaaTE
import Derived.Test.YtplmlmmjfkbabaaSC
import Derived.BigRegion
import Derived.BigQuiet
namespace Go.Proofs.Ytplmlmmjfkbabaa
open Go.RowKit Go.Shelf
attribute [local irreducible] arrV wpQuiet mat shl

theorem grs_get {m : Nat} {w : World} {v : Value} {d : Dm} {n k : Nat} (h : RgsV m w v (gradesL d n)) (hk : k < n) : ∃ b off cap, v = .slice (some ⟨b, off, none⟩) n cap ∧ b < m ∧ w.cell? ⟨b, off + k * 2, none⟩ = some (.int .i64 (rg (gradesL d n) k).lo) ∧ w.cell? ⟨b, off + k * 2 + 1, none⟩ = some (.int .i64 (rg (gradesL d n) k).hi) := by
  obtain ⟨a, cap, rfl, hp⟩ := h
  rw [grades_len] at hp ⊢
  obtain ⟨b, off, rfl, hb, hc⟩ := hp (by omega)
  exact ⟨b, off, cap, rfl, hb, hc k hk⟩
theorem finest_get {out : List Cm} {x : List Int} {d : Dm} (hc : Canon out d) (hf : Fits out (gN x)) (hN : x.length ≤ 8) {p : Nat} (hp : p < x.length) (hm : ∀ q, q < x.length → ld x q ≤ ld x p) : ∃ k, k < (intsL (finestL d x.length)).length ∧ ld (intsL (finestL d x.length)) k = p := by
  have h := truth_finest hc hf hN hp hm
  obtain ⟨k, hk, he⟩ := List.mem_iff_getElem.1 h
  refine ⟨k, by simpa [intsL] using hk, ?_⟩
  simp [ld, intsL, hk, he]
set_option maxRecDepth 100000 in
set_option maxHeartbeats 8000000 in
theorem truth_walk (n : Int) (v : Value) (cs : List Cm) (wv : Value) (cv : Value) (xs : List Int) (w : World) (hV : CmsV w.heap.size w v cs) (hW : WordsV w.heap.size w wv) (hX : IntsV w.heap.size w cv xs) :
    Calls Try.prog 10 #[.agg #[.int .i64 n, v], wv, cv] w fun e w' => e = .returned (.bool true) ∧ Below w.heap.size w w' := by
  have HRE := Lib.hid fun w' (h : Below w.heap.size w w') => ready_any w.heap.size n v cs w' (hV.same (.below (Nat.le_refl _) h)) h.size
  have HTR := Lib.hid fun (N : Nat) (hA : AlbOk N cs) w' (h : Below w.heap.size w w') => Truly_any w.heap.size N v wv cs w' hA (hV.same (.below (Nat.le_refl _) h)) (hW.same (.below (Nat.le_refl _) h)) h.size
  have HLI := Lib.hid fun (hl : xs.length ≤ 1000) w' (h : Below w.heap.size w w') => list_any w.heap.size cv xs w' hl (hX.same (.below (Nat.le_refl _) h)) h.size
  obtain ⟨a, cap, rfl, hp⟩ := hV
  obtain ⟨xa, xc, rfl, -⟩ := hX
  have HXA := Lib.hid (heap_alloc_new w (.cells #[.int .i64 n, .slice a cs.length cap] 24))
  have HBA := Lib.hid (box_below w (.cells #[.int .i64 n, .slice a cs.length cap] 24))
  clear hp
  go_enter Try.func10, Try.ntmps10
  go_wp2_with fail
  refine (HRE.out _ HBA.out).mono ?_
  rintro e u0 ⟨rfl, hb⟩
  replace HXA := Lib.hid ((hb.block _ (lt_of_block HXA.out)).trans HXA.out)
  replace HBA := Lib.hid (below_to HBA.out hb)
  clear hb
  cases hz : readyB n cs with
  | false =>
    go_wp2_with fail
    refine (awake_any u0).mono ?_
    rintro e u1 ⟨rfl, hb⟩
    have HBF := Lib.hid (below_to HBA.out hb)
    clear hb
    go_wp2
    go_ret
    exact ⟨rfl, HBF.out⟩
  | true =>
    have HOK := Lib.hid (readyB_ok hz)
    have hn0 := HOK.out.n0
    have hn8 := HOK.out.n8
    clear hz HRE
    have c0 := cell_of_row u0 w.heap.size 0 _ _ _ HXA.out
    have c1 := cell_of_row u0 w.heap.size 1 _ _ _ HXA.out
    simp only [List.getElem?_toArray, List.getElem?_cons_zero, List.getElem?_cons_succ] at c0 c1
    have lc := lt_of_block HXA.out
    by_cases hn : n = 0
    · have hz1 : (n == 0) = true := by simp [hn]
      clear hn
      go_wp2_with fail
      refine (awake_any u0).mono ?_
      rintro e u2 ⟨rfl, hb⟩
      have HBF := Lib.hid (below_to HBA.out hb)
      clear hb
      go_wp2
      go_ret
      exact ⟨rfl, HBF.out⟩
    · have hz1 : (n == 0) = false := by simp [hn]
      by_cases hxl : 25 < xs.length
      · have hz2 : decide ((25 : Int) < xs.length) = true := decide_eq_true (by omega)
        clear hn hxl
        go_wp2_with fail
        refine (awake_any u0).mono ?_
        rintro e u3 ⟨rfl, hb⟩
        have HBF := Lib.hid (below_to HBA.out hb)
        clear hb
        go_wp2
        go_ret
        exact ⟨rfl, HBF.out⟩
      · have hz2 : decide ((25 : Int) < xs.length) = false := decide_eq_false (by omega)
        have HLC := Lib.hid (HLI.out (by omega))
        clear HLI
        go_wp2_with fail
        clear c0 c1 lc hz1 hz2
        obtain ⟨N, rfl⟩ : ∃ N : Nat, n = (N : Int) := ⟨n.toNat, by omega⟩
        refine (HTR.out N HOK.out u0 HBA.out).mono ?_
        rintro e u1 ⟨⟨gv, ov, x, out, rfl, hgr, hxn, hgo, hov, hol, hmc⟩, hb⟩
        replace HXA := Lib.hid ((hb.block _ (lt_of_block HXA.out)).trans HXA.out)
        replace HBA := Lib.hid (below_to HBA.out hb)
        clear hb
        clear HTR
        subst hxn
        have HA := Lib.hid (made_ok HOK.out hol hmc)
        have HFI := Lib.hid (made_fits HOK.out hol hmc hgo)
        have HPR := Lib.hid (truth_prove HA.out HFI.out rfl hgo)
        obtain ⟨d, hd, hcn⟩ := truth_dist HA.out HFI.out
        have HD := Lib.hid hd
        have HCN := Lib.hid hcn
        have HDB := Lib.hid (truth_doubt hd)
        have HGV := Lib.hid (own_ints (l := x) hgr)
        have HOV := Lib.hid (own_cms (l := out) hov)
        obtain ⟨gb, gc, hgv, -⟩ := own_getR hgr (by omega)
        subst hgv
        obtain ⟨oa, oc, hovs⟩ := own_shape hov
        subst hovs
        have hol12 := HA.out.len
        have HGO := Lib.hid hgo
        have hx8 : x.length ≤ 8 := by omega
        have hx0 : 0 < x.length := by omega
        have HFG := Lib.hid fun p (hp : p < x.length) hm => finest_get HCN.out HFI.out hx8 hp hm
        have HTG := Lib.hid fun p (hp : p < x.length) => truth_grade HCN.out HFI.out hx8 hp
        have HTB := Lib.hid fun p q (hp : p < x.length) (hq : q < x.length) => truth_between HCN.out HFI.out hx8 hp hq
        have HTT := Lib.hid fun p r (hp : p < x.length) h => tell_has HA.out HFI.out xs.reverse (p : Nat) r (by omega) (by omega) h
        clear hgr hgo hov hol hmc hd hcn hn hxl hn0 hn8 HOK HFI HXA
        go_wp2_with fail
        have hbx := box_below u1 (.cells #[.int .i64 x.length, .slice oa out.length oc] 24)
        have hnx := heap_alloc_new u1 (.cells #[.int .i64 x.length, .slice oa out.length oc] 24)
        replace HBA := Lib.hid (below_to HBA.out hbx)
        replace HGV := Lib.hid ((HGV.out.same (.below (Nat.le_refl _) hbx)).up hbx.size)
        replace HOV := Lib.hid ((HOV.out.same (.below (Nat.le_refl _) hbx)).up hbx.size)
        have HO8 := Lib.hid hnx
        clear hbx hnx
        generalize World.alloc u1 _ = u2 at *
        generalize u1.heap.size = b8 at *
        have c0 := cell_of_row u2 b8 0 _ _ _ HO8.out
        have c1 := cell_of_row u2 b8 1 _ _ _ HO8.out
        simp only [List.getElem?_toArray, List.getElem?_cons_zero, List.getElem?_cons_succ] at c0 c1
        have lc := lt_of_block HO8.out
        go_wp2_with fail
        clear c0 c1 lc
        refine (Album_any u2.heap.size x.length (.slice oa out.length oc) out u2 (by omega) HOV.out (Nat.le_refl _)).mono ?_
        rintro e u3 ⟨⟨r1, rfl, ho⟩, hb⟩
        replace HBA := Lib.hid (below_to HBA.out hb)
        replace HGV := Lib.hid ((HGV.out.same (.below (Nat.le_refl _) hb)).up hb.size)
        replace HOV := Lib.hid ((HOV.out.same (.below (Nat.le_refl _) hb)).up hb.size)
        replace HO8 := Lib.hid ((hb.block _ (lt_of_block HO8.out)).trans HO8.out)
        clear hb
        have HV1 := Lib.hid (own_cms (l := out) ho)
        clear ho
        go_wp2_with fail
        refine (Grades_some HA.out HV1.out HD.out).mono ?_
        rintro e u4 ⟨⟨r2, rfl, hg⟩, hb⟩
        replace HBA := Lib.hid (below_to HBA.out hb)
        replace HGV := Lib.hid ((HGV.out.same (.below (Nat.le_refl _) hb)).up hb.size)
        replace HOV := Lib.hid ((HOV.out.same (.below (Nat.le_refl _) hb)).up hb.size)
        replace HO8 := Lib.hid ((hb.block _ (lt_of_block HO8.out)).trans HO8.out)
        replace HV1 := Lib.hid ((HV1.out.same (.below (Nat.le_refl _) hb)).up hb.size)
        clear hb
        clear HV1
        have HRV := Lib.hid hg
        clear hg
        obtain ⟨rb, roff, rc, hr2, -⟩ := grs_get HRV.out hx0
        subst hr2
        have c0 := cell_of_row u4 b8 0 _ _ _ HO8.out
        have c1 := cell_of_row u4 b8 1 _ _ _ HO8.out
        simp only [List.getElem?_toArray, List.getElem?_cons_zero, List.getElem?_cons_succ] at c0 c1
        have lc := lt_of_block HO8.out
        go_wp2_with fail
        clear c0 c1 lc
        refine (Album_any u4.heap.size x.length (.slice oa out.length oc) out u4 (by omega) HOV.out (Nat.le_refl _)).mono ?_
        rintro e u5 ⟨⟨r3, rfl, ho⟩, hb⟩
        replace HBA := Lib.hid (below_to HBA.out hb)
        replace HGV := Lib.hid ((HGV.out.same (.below (Nat.le_refl _) hb)).up hb.size)
        replace HOV := Lib.hid ((HOV.out.same (.below (Nat.le_refl _) hb)).up hb.size)
        replace HO8 := Lib.hid ((hb.block _ (lt_of_block HO8.out)).trans HO8.out)
        replace HRV := Lib.hid ((HRV.out.same (.below (Nat.le_refl _) hb)).up hb.size)
        clear hb
        have HV1 := Lib.hid (own_cms (l := out) ho)
        clear ho
        go_wp2_with fail
        refine (Finest_some HA.out hx0 HV1.out HD.out).mono ?_
        rintro e u6 ⟨⟨r4, rfl, hg⟩, hb⟩
        replace HBA := Lib.hid (below_to HBA.out hb)
        replace HGV := Lib.hid ((HGV.out.same (.below (Nat.le_refl _) hb)).up hb.size)
        replace HOV := Lib.hid ((HOV.out.same (.below (Nat.le_refl _) hb)).up hb.size)
        replace HO8 := Lib.hid ((hb.block _ (lt_of_block HO8.out)).trans HO8.out)
        replace HRV := Lib.hid ((HRV.out.same (.below (Nat.le_refl _) hb)).up hb.size)
        replace HV1 := Lib.hid ((HV1.out.same (.below (Nat.le_refl _) hb)).up hb.size)
        clear hb
        clear HV1
        have HLV := Lib.hid hg
        clear hg
        have HFLL : Hid ((intsL (finestL d x.length)).length ≤ 8) := Lib.hid (by
          unfold intsL finestL
          rw [List.length_map]
          exact Nat.le_trans (List.length_filter_le _ _) (by rw [List.length_range]; exact hx8))
        generalize intsL (finestL d x.length) = FL at *
        obtain ⟨la, lc2, rfl⟩ : ∃ a c, r4 = .slice a FL.length c := by obtain ⟨a, c, e, -⟩ := HLV.out; exact ⟨a, c, e⟩
        have c0 := cell_of_row u6 b8 0 _ _ _ HO8.out
        have c1 := cell_of_row u6 b8 1 _ _ _ HO8.out
        simp only [List.getElem?_toArray, List.getElem?_cons_zero, List.getElem?_cons_succ] at c0 c1
        have lc := lt_of_block HO8.out
        go_wp2_with fail
        clear c0 c1 lc
        refine (Album_any u6.heap.size x.length (.slice oa out.length oc) out u6 (by omega) HOV.out (Nat.le_refl _)).mono ?_
        rintro e u7 ⟨⟨r5, rfl, ho⟩, hb⟩
        replace HBA := Lib.hid (below_to HBA.out hb)
        replace HGV := Lib.hid ((HGV.out.same (.below (Nat.le_refl _) hb)).up hb.size)
        replace HOV := Lib.hid ((HOV.out.same (.below (Nat.le_refl _) hb)).up hb.size)
        replace HO8 := Lib.hid ((hb.block _ (lt_of_block HO8.out)).trans HO8.out)
        replace HRV := Lib.hid ((HRV.out.same (.below (Nat.le_refl _) hb)).up hb.size)
        replace HLV := Lib.hid ((HLV.out.same (.below (Nat.le_refl _) hb)).up hb.size)
        clear hb
        have HV1 := Lib.hid (own_cms (l := out) ho)
        clear ho
        go_wp2_with fail
        refine (Doubtful_any u7.heap.size x.length _ out u7 HA.out.maxLen HV1.out (Nat.le_refl _)).mono ?_
        rintro e u8 ⟨⟨r6, rfl, -, h1⟩, hb⟩
        replace HBA := Lib.hid (below_to HBA.out hb)
        replace HGV := Lib.hid ((HGV.out.same (.below (Nat.le_refl _) hb)).up hb.size)
        replace HOV := Lib.hid ((HOV.out.same (.below (Nat.le_refl _) hb)).up hb.size)
        replace HO8 := Lib.hid ((hb.block _ (lt_of_block HO8.out)).trans HO8.out)
        replace HRV := Lib.hid ((HRV.out.same (.below (Nat.le_refl _) hb)).up hb.size)
        replace HLV := Lib.hid ((HLV.out.same (.below (Nat.le_refl _) hb)).up hb.size)
        replace HV1 := Lib.hid ((HV1.out.same (.below (Nat.le_refl _) hb)).up hb.size)
        clear hb
        clear HV1
        have hde := h1 (fault_of HA.out)
        rw [HDB.out] at hde
        obtain ⟨da, dc, hdv⟩ := own_shape hde
        subst hdv
        rw [fault_of HA.out]
        clear h1 hde
        have hd0 : (([] : List Int).length : Int) = 0 := rfl
        have c0 := cell_of_row u8 b8 0 _ _ _ HO8.out
        have c1 := cell_of_row u8 b8 1 _ _ _ HO8.out
        simp only [List.getElem?_toArray, List.getElem?_cons_zero, List.getElem?_cons_succ] at c0 c1
        have lc := lt_of_block HO8.out
        go_wp2_with fail
        clear c0 c1 lc
        refine (Album_any u8.heap.size x.length (.slice oa out.length oc) out u8 (by omega) HOV.out (Nat.le_refl _)).mono ?_
        rintro e u9 ⟨⟨r7, rfl, ho⟩, hb⟩
        replace HBA := Lib.hid (below_to HBA.out hb)
        replace HGV := Lib.hid ((HGV.out.same (.below (Nat.le_refl _) hb)).up hb.size)
        replace HOV := Lib.hid ((HOV.out.same (.below (Nat.le_refl _) hb)).up hb.size)
        replace HO8 := Lib.hid ((hb.block _ (lt_of_block HO8.out)).trans HO8.out)
        replace HRV := Lib.hid ((HRV.out.same (.below (Nat.le_refl _) hb)).up hb.size)
        replace HLV := Lib.hid ((HLV.out.same (.below (Nat.le_refl _) hb)).up hb.size)
        clear hb
        have HV1 := Lib.hid (own_cms (l := out) ho)
        clear ho
        go_wp2_with fail
        refine (list_any u9.heap.size _ x u9 (by omega) HGV.out (Nat.le_refl _)).mono ?_
        rintro e u10 ⟨⟨r8, rfl, ho⟩, hb⟩
        replace HBA := Lib.hid (below_to HBA.out hb)
        replace HGV := Lib.hid ((HGV.out.same (.below (Nat.le_refl _) hb)).up hb.size)
        replace HOV := Lib.hid ((HOV.out.same (.below (Nat.le_refl _) hb)).up hb.size)
        replace HO8 := Lib.hid ((hb.block _ (lt_of_block HO8.out)).trans HO8.out)
        replace HRV := Lib.hid ((HRV.out.same (.below (Nat.le_refl _) hb)).up hb.size)
        replace HLV := Lib.hid ((HLV.out.same (.below (Nat.le_refl _) hb)).up hb.size)
        replace HV1 := Lib.hid ((HV1.out.same (.below (Nat.le_refl _) hb)).up hb.size)
        clear hb
        have HG8 := Lib.hid (own_ints (l := x) ho)
        clear ho
        go_wp2_with fail
        have hpf := ProveFit_any u10.heap.size x.length _ _ out x u10 HA.out.maxLen (by simp [maxLen]; omega) HV1.out HG8.out (Nat.le_refl _)
        rw [HPR.out] at hpf
        refine (hpf).mono ?_
        rintro e u11 ⟨rfl, hb⟩
        replace HBA := Lib.hid (below_to HBA.out hb)
        replace HGV := Lib.hid ((HGV.out.same (.below (Nat.le_refl _) hb)).up hb.size)
        replace HOV := Lib.hid ((HOV.out.same (.below (Nat.le_refl _) hb)).up hb.size)
        replace HO8 := Lib.hid ((hb.block _ (lt_of_block HO8.out)).trans HO8.out)
        replace HRV := Lib.hid ((HRV.out.same (.below (Nat.le_refl _) hb)).up hb.size)
        replace HLV := Lib.hid ((HLV.out.same (.below (Nat.le_refl _) hb)).up hb.size)
        replace HV1 := Lib.hid ((HV1.out.same (.below (Nat.le_refl _) hb)).up hb.size)
        replace HG8 := Lib.hid ((HG8.out.same (.below (Nat.le_refl _) hb)).up hb.size)
        clear hb
        clear hpf
        clear HV1
        clear HG8
        go_wp2_with fail
        generalize u11 = uA at *
        have HU0 := Lib.hid (Below.refl uA.heap.size uA)
        go_loopw [15, 16] (fun f i wr => ∃ (k fi : Nat), k ≤ x.length ∧ i = .int .i64 k ∧ f = .int .i64 fi ∧ Hid (fi < x.length ∧ ∀ j, j < k → ld x j ≤ ld x fi) ∧ Hid (Below uA.heap.size uA wr)) (fun _ i _ => x.length - (intOf i).toNat)
        case atStart => exact ⟨0, 0, Nat.zero_le _, rfl, rfl, Lib.hid ⟨hx0, fun j hj => absurd hj (Nat.not_lt_zero _)⟩, HU0⟩
        case round =>
          obtain ⟨k, fi, hk, rfl, rfl, HFK, HU⟩ := hrel
          clear HU0
          have hfi := HFK.out.1
          have hU := HU.out
          replace HBA := Lib.hid (below_to HBA.out hU)
          replace HGV := Lib.hid ((HGV.out.same (.below (Nat.le_refl _) hU)).up hU.size)
          replace HOV := Lib.hid ((HOV.out.same (.below (Nat.le_refl _) hU)).up hU.size)
          replace HO8 := Lib.hid ((hU.block _ (lt_of_block HO8.out)).trans HO8.out)
          replace HRV := Lib.hid ((HRV.out.same (.below (Nat.le_refl _) hU)).up hU.size)
          replace HLV := Lib.hid ((HLV.out.same (.below (Nat.le_refl _) hU)).up hU.size)
          clear hU
          generalize wr = q0 at *
          by_cases hkl : k < x.length
          · have hkn : (k : Int) < x.length := by omega
            have hfn : (fi : Int) < x.length := by omega
            have hwk : IntKind.i64.wrap ((k : Int) + 1) = (k : Int) + 1 := IntWalk.i64_in _ (by omega)
            obtain ⟨gb', go', gc', e, hgb, px⟩ := ints_at HGV.out hkl
            cases e
            obtain ⟨rb', ro', rc', e, hrb, pr0, pr1⟩ := grs_get HRV.out hkl
            cases e
            have htg := HTG.out k hkl
            have hxr := HGO.out k hkl
            generalize (rg (gradesL d x.length) k).lo = rlo at *
            generalize (rg (gradesL d x.length) k).hi = rhi at *
            obtain ⟨xk, hxk⟩ : ∃ y, ld x k = y := ⟨_, rfl⟩
            simp only [Nat.zero_add] at px
            rw [hxk] at px htg hxr
            have hf1 : decide (xk < rlo) = false := decide_eq_false (by omega)
            have hf2 : decide (rhi < xk) = false := decide_eq_false (by omega)
            have g1 := cell_regrown px
            have g2 := cell_regrown pr0
            have g3 := cell_regrown pr1
            clear htg
            go_wp2_with fail
            refine wp_region_quiet_below (by kernel_rfl) (by kernel_rfl) ?_
            repeat (quiet_step (fail))
            refine wpQuiet_nil ?_
            intro q1 hw'
            obtain ⟨⟨dq, osq⟩, hw''⟩ := hw'
            have hb := below_regrown q0 dq osq
            rw [← hw''] at hb
            clear hw'' dq osq g1 g2 g3 px pr0 pr1 hf1 hf2 hgb hrb
            replace HBA := Lib.hid (below_to HBA.out hb)
            replace HGV := Lib.hid ((HGV.out.same (.below (Nat.le_refl _) hb)).up hb.size)
            replace HOV := Lib.hid ((HOV.out.same (.below (Nat.le_refl _) hb)).up hb.size)
            replace HO8 := Lib.hid ((hb.block _ (lt_of_block HO8.out)).trans HO8.out)
            replace HRV := Lib.hid ((HRV.out.same (.below (Nat.le_refl _) hb)).up hb.size)
            replace HLV := Lib.hid ((HLV.out.same (.below (Nat.le_refl _) hb)).up hb.size)
            replace HU := Lib.hid (below_to HU.out hb)
            clear hb
            go_wp2_with fail
            have HU1 := Lib.hid (Below.refl q1.heap.size q1)
            go_loopw [17] (fun i w2 => ∃ q : Nat, q ≤ x.length ∧ i = .int .i64 q ∧ Hid (Below q1.heap.size q1 w2)) (fun i _ => x.length - (intOf i).toNat)
            case atStart => exact ⟨0, Nat.zero_le _, rfl, HU1⟩
            case round =>
              obtain ⟨q, hq, rfl, HW⟩ := hrel
              clear HU1
              have hU := HW.out
              replace HBA := Lib.hid (below_to HBA.out hU)
              replace HGV := Lib.hid ((HGV.out.same (.below (Nat.le_refl _) hU)).up hU.size)
              replace HOV := Lib.hid ((HOV.out.same (.below (Nat.le_refl _) hU)).up hU.size)
              replace HO8 := Lib.hid ((hU.block _ (lt_of_block HO8.out)).trans HO8.out)
              replace HRV := Lib.hid ((HRV.out.same (.below (Nat.le_refl _) hU)).up hU.size)
              replace HLV := Lib.hid ((HLV.out.same (.below (Nat.le_refl _) hU)).up hU.size)
              replace HU := Lib.hid (below_to HU.out hU)
              clear hU
              generalize wr = p0 at *
              by_cases hql : q < x.length
              · have hqn : (q : Int) < x.length := by omega
                have hwq : IntKind.i64.wrap ((q : Int) + 1) = (q : Int) + 1 := IntWalk.i64_in _ (by omega)
                have c0 := cell_of_row p0 b8 0 _ _ _ HO8.out
                have c1 := cell_of_row p0 b8 1 _ _ _ HO8.out
                simp only [List.getElem?_toArray, List.getElem?_cons_zero, List.getElem?_cons_succ] at c0 c1
                have lc := lt_of_block HO8.out
                go_wp2_with fail
                clear c0 c1 lc
                refine (Album_any p0.heap.size x.length (.slice oa out.length oc) out p0 (by omega) HOV.out (Nat.le_refl _)).mono ?_
                rintro e u12 ⟨⟨r9, rfl, ho⟩, hb⟩
                replace HBA := Lib.hid (below_to HBA.out hb)
                replace HGV := Lib.hid ((HGV.out.same (.below (Nat.le_refl _) hb)).up hb.size)
                replace HOV := Lib.hid ((HOV.out.same (.below (Nat.le_refl _) hb)).up hb.size)
                replace HO8 := Lib.hid ((hb.block _ (lt_of_block HO8.out)).trans HO8.out)
                replace HRV := Lib.hid ((HRV.out.same (.below (Nat.le_refl _) hb)).up hb.size)
                replace HLV := Lib.hid ((HLV.out.same (.below (Nat.le_refl _) hb)).up hb.size)
                replace HU := Lib.hid (below_to HU.out hb)
                replace HW := Lib.hid (below_to HW.out hb)
                clear hb
                have HV1 := Lib.hid (own_cms (l := out) ho)
                clear ho
                go_wp2_with fail
                have hbt := Between_some (p := (k : Int)) (q := (q : Int)) HA.out HV1.out ⟨by omega, hkn⟩ ⟨by omega, hqn⟩ HD.out
                have htb := HTB.out k q hkl hql
                generalize -d (pl (k : Int)) (pl (q : Int)) = X at *
                generalize d (pl (q : Int)) (pl (k : Int)) = Y at *
                refine (hbt).mono ?_
                rintro e u13 ⟨rfl, hb⟩
                replace HBA := Lib.hid (below_to HBA.out hb)
                replace HGV := Lib.hid ((HGV.out.same (.below (Nat.le_refl _) hb)).up hb.size)
                replace HOV := Lib.hid ((HOV.out.same (.below (Nat.le_refl _) hb)).up hb.size)
                replace HO8 := Lib.hid ((hb.block _ (lt_of_block HO8.out)).trans HO8.out)
                replace HRV := Lib.hid ((HRV.out.same (.below (Nat.le_refl _) hb)).up hb.size)
                replace HLV := Lib.hid ((HLV.out.same (.below (Nat.le_refl _) hb)).up hb.size)
                replace HU := Lib.hid (below_to HU.out hb)
                replace HW := Lib.hid (below_to HW.out hb)
                replace HV1 := Lib.hid ((HV1.out.same (.below (Nat.le_refl _) hb)).up hb.size)
                clear hb
                clear hbt
                clear HV1
                go_wp2_with fail
                have hbx := box_below u13 (.cells #[.int .i64 X, .int .i64 Y] 41)
                have hnx := heap_alloc_new u13 (.cells #[.int .i64 X, .int .i64 Y] 41)
                replace HBA := Lib.hid (below_to HBA.out hbx)
                replace HGV := Lib.hid ((HGV.out.same (.below (Nat.le_refl _) hbx)).up hbx.size)
                replace HOV := Lib.hid ((HOV.out.same (.below (Nat.le_refl _) hbx)).up hbx.size)
                replace HO8 := Lib.hid ((hbx.block _ (lt_of_block HO8.out)).trans HO8.out)
                replace HRV := Lib.hid ((HRV.out.same (.below (Nat.le_refl _) hbx)).up hbx.size)
                replace HLV := Lib.hid ((HLV.out.same (.below (Nat.le_refl _) hbx)).up hbx.size)
                replace HU := Lib.hid (below_to HU.out hbx)
                replace HW := Lib.hid (below_to HW.out hbx)
                have BB := Lib.hid hnx
                clear hbx hnx
                generalize World.alloc u13 _ = u14 at *
                generalize u13.heap.size = bb at *
                obtain ⟨gb', go', gc', e, hgb, px⟩ := ints_at HGV.out hkl
                cases e
                obtain ⟨gb', go', gc', e, -, py⟩ := ints_at HGV.out hql
                cases e
                have hyr := HGO.out q hql
                simp only [Nat.zero_add] at px py
                rw [hxk] at px htb
                generalize ld x q = xq at *
                have hwd : IntKind.i64.wrap (xk - xq) = xk - xq := IntWalk.i64_in _ (by omega)
                have hf1 : decide (xk - xq < X) = false := decide_eq_false (by omega)
                have hf2 : decide (Y < xk - xq) = false := decide_eq_false (by omega)
                have g1 := cell_regrown px
                have g2 := cell_regrown py
                clear htb
                refine wp_region_quiet_below (by kernel_rfl) (by kernel_rfl) ?_
                repeat (quiet_step (fail))
                refine wpQuiet_nil ?_
                intro p9 hw'
                obtain ⟨⟨dq, osq⟩, hw''⟩ := hw'
                have hb := below_regrown u14 dq osq
                rw [← hw''] at hb
                clear hw'' dq osq g1 g2 px py hwd hgb hyr
                replace HBA := Lib.hid (below_to HBA.out hb)
                replace HGV := Lib.hid ((HGV.out.same (.below (Nat.le_refl _) hb)).up hb.size)
                replace HOV := Lib.hid ((HOV.out.same (.below (Nat.le_refl _) hb)).up hb.size)
                replace HO8 := Lib.hid ((hb.block _ (lt_of_block HO8.out)).trans HO8.out)
                replace HRV := Lib.hid ((HRV.out.same (.below (Nat.le_refl _) hb)).up hb.size)
                replace HLV := Lib.hid ((HLV.out.same (.below (Nat.le_refl _) hb)).up hb.size)
                replace HU := Lib.hid (below_to HU.out hb)
                replace HW := Lib.hid (below_to HW.out hb)
                replace BB := Lib.hid ((hb.block _ (lt_of_block BB.out)).trans BB.out)
                clear hb
                have c0 := cell_of_row p9 bb 0 _ _ _ BB.out
                have c1 := cell_of_row p9 bb 1 _ _ _ BB.out
                simp only [List.getElem?_toArray, List.getElem?_cons_zero, List.getElem?_cons_succ] at c0 c1
                have lc := lt_of_block BB.out
                go_wp2_with fail
                go_roundw
                case rel => exact ⟨q + 1, by omega, by simp, HW⟩
                case measure => simp [intOf]; omega
              · obtain rfl : q = x.length := by omega
                clear hql hq HW
                generalize p0 = q2 at *
                go_wp2_with fail
                obtain ⟨gb', go', gc', e, hgb, px⟩ := ints_at HGV.out hkl
                cases e
                obtain ⟨gb', go', gc', e, -, py⟩ := ints_at HGV.out hfi
                cases e
                simp only [Nat.zero_add] at px py
                rw [hxk] at px
                have g1 := cell_regrown px
                have g2 := cell_regrown py
                obtain ⟨xf, hxf⟩ : ∃ y, ld x fi = y := ⟨_, rfl⟩
                rw [hxf] at py g2
                by_cases hgt : xf < xk
                · have hgt1 : decide (xf < xk) = true := decide_eq_true hgt
                  refine wp_region_quiet_below (by kernel_rfl) (by kernel_rfl) ?_
                  repeat (quiet_step (fail))
                  refine wpQuiet_nil ?_
                  intro q3 hw'
                  obtain ⟨⟨dq, osq⟩, hw''⟩ := hw'
                  have hb := below_regrown q2 dq osq
                  rw [← hw''] at hb
                  clear hw'' dq osq g1 g2 px py hgb
                  replace HBA := Lib.hid (below_to HBA.out hb)
                  replace HGV := Lib.hid ((HGV.out.same (.below (Nat.le_refl _) hb)).up hb.size)
                  replace HOV := Lib.hid ((HOV.out.same (.below (Nat.le_refl _) hb)).up hb.size)
                  replace HO8 := Lib.hid ((hb.block _ (lt_of_block HO8.out)).trans HO8.out)
                  replace HRV := Lib.hid ((HRV.out.same (.below (Nat.le_refl _) hb)).up hb.size)
                  replace HLV := Lib.hid ((HLV.out.same (.below (Nat.le_refl _) hb)).up hb.size)
                  replace HU := Lib.hid (below_to HU.out hb)
                  clear hb
                  replace HFK : Hid (k < x.length ∧ ∀ j, j < k + 1 → ld x j ≤ ld x k) := Lib.hid ⟨hkl, fun j hj => by
                    by_cases hjk : j = k
                    · rw [hjk]; exact Int.le_refl _
                    · have := HFK.out.2 j (by omega)
                      omega⟩
                  have c0 := cell_of_row q3 b8 0 _ _ _ HO8.out
                  have c1 := cell_of_row q3 b8 1 _ _ _ HO8.out
                  simp only [List.getElem?_toArray, List.getElem?_cons_zero, List.getElem?_cons_succ] at c0 c1
                  have lc := lt_of_block HO8.out
                  go_wp2_with fail
                  clear c0 c1 lc
                  refine (Album_any q3.heap.size x.length (.slice oa out.length oc) out q3 (by omega) HOV.out (Nat.le_refl _)).mono ?_
                  rintro e u15 ⟨⟨r10, rfl, ho⟩, hb⟩
                  replace HBA := Lib.hid (below_to HBA.out hb)
                  replace HGV := Lib.hid ((HGV.out.same (.below (Nat.le_refl _) hb)).up hb.size)
                  replace HOV := Lib.hid ((HOV.out.same (.below (Nat.le_refl _) hb)).up hb.size)
                  replace HO8 := Lib.hid ((hb.block _ (lt_of_block HO8.out)).trans HO8.out)
                  replace HRV := Lib.hid ((HRV.out.same (.below (Nat.le_refl _) hb)).up hb.size)
                  replace HLV := Lib.hid ((HLV.out.same (.below (Nat.le_refl _) hb)).up hb.size)
                  replace HU := Lib.hid (below_to HU.out hb)
                  clear hb
                  have HV1 := Lib.hid (own_cms (l := out) ho)
                  clear ho
                  go_wp2_with fail
                  refine (HLC.out u15 HBA.out).mono ?_
                  rintro e u16 ⟨⟨r11, rfl, ho⟩, hb⟩
                  replace HBA := Lib.hid (below_to HBA.out hb)
                  replace HGV := Lib.hid ((HGV.out.same (.below (Nat.le_refl _) hb)).up hb.size)
                  replace HOV := Lib.hid ((HOV.out.same (.below (Nat.le_refl _) hb)).up hb.size)
                  replace HO8 := Lib.hid ((hb.block _ (lt_of_block HO8.out)).trans HO8.out)
                  replace HRV := Lib.hid ((HRV.out.same (.below (Nat.le_refl _) hb)).up hb.size)
                  replace HLV := Lib.hid ((HLV.out.same (.below (Nat.le_refl _) hb)).up hb.size)
                  replace HU := Lib.hid (below_to HU.out hb)
                  replace HV1 := Lib.hid ((HV1.out.same (.below (Nat.le_refl _) hb)).up hb.size)
                  clear hb
                  obtain ⟨ta, tc, htv⟩ := own_shape ho
                  subst htv
                  have htc := own_cap ho
                  have HT1 := Lib.hid (own_ints (l := xs) ho)
                  clear ho
                  go_wp2_with fail
                  refine (Tells_any u16.heap.size x.length _ ta tc out (k : Int) xs u16 HA.out.maxLen htc HV1.out HT1.out (Nat.le_refl _)).mono ?_
                  rintro e u17 ⟨⟨lo, hi, rfl, ht1, -⟩, hb⟩
                  replace HBA := Lib.hid (below_to HBA.out hb)
                  replace HGV := Lib.hid ((HGV.out.same (.below (Nat.le_refl _) hb)).up hb.size)
                  replace HOV := Lib.hid ((HOV.out.same (.below (Nat.le_refl _) hb)).up hb.size)
                  replace HO8 := Lib.hid ((hb.block _ (lt_of_block HO8.out)).trans HO8.out)
                  replace HRV := Lib.hid ((HRV.out.same (.below (Nat.le_refl _) hb)).up hb.size)
                  replace HLV := Lib.hid ((HLV.out.same (.below (Nat.le_refl _) hb)).up hb.size)
                  replace HU := Lib.hid (below_to HU.out hb)
                  replace HV1 := Lib.hid ((HV1.out.same (.below (Nat.le_refl _) hb)).up hb.size)
                  replace HT1 := Lib.hid ((HT1.out.same (.below (Nat.le_refl _) hb)).up hb.size)
                  clear hb
                  clear HV1
                  clear HT1
                  have HT1 := Lib.hid ht1
                  clear ht1
                  go_wp2_with fail
                  have hbx := box_below u17 (.cells #[.int .i64 lo, .int .i64 hi] 41)
                  have hnx := heap_alloc_new u17 (.cells #[.int .i64 lo, .int .i64 hi] 41)
                  replace HBA := Lib.hid (below_to HBA.out hbx)
                  replace HGV := Lib.hid ((HGV.out.same (.below (Nat.le_refl _) hbx)).up hbx.size)
                  replace HOV := Lib.hid ((HOV.out.same (.below (Nat.le_refl _) hbx)).up hbx.size)
                  replace HO8 := Lib.hid ((hbx.block _ (lt_of_block HO8.out)).trans HO8.out)
                  replace HRV := Lib.hid ((HRV.out.same (.below (Nat.le_refl _) hbx)).up hbx.size)
                  replace HLV := Lib.hid ((HLV.out.same (.below (Nat.le_refl _) hbx)).up hbx.size)
                  replace HU := Lib.hid (below_to HU.out hbx)
                  have BT := Lib.hid hnx
                  clear hbx hnx
                  generalize World.alloc u17 _ = u18 at *
                  generalize u17.heap.size = bt at *
                  obtain ⟨gb', go', gc', e, hgb, px⟩ := ints_at HGV.out hkl
                  cases e
                  simp only [Nat.zero_add] at px
                  rw [hxk] at px
                  have c0 := cell_of_row u18 bt 0 _ _ _ BT.out
                  have c1 := cell_of_row u18 bt 1 _ _ _ BT.out
                  simp only [List.getElem?_toArray, List.getElem?_cons_zero, List.getElem?_cons_succ] at c0 c1
                  have lc := lt_of_block BT.out
                  have g1 := cell_regrown px
                  have g2 := cell_regrown c0
                  have g3 := cell_regrown c1
                  by_cases hte : tellE x.length out k xs = 0
                  · have hth := HTT.out k ⟨lo, hi⟩ hkl (HT1.out hte)
                    rw [gOf_nat, hxk] at hth
                    have hf1 : decide (xk < lo) = false := decide_eq_false (by have := hth.1; exact Int.not_lt.2 this)
                    have hf2 : decide (hi < xk) = false := decide_eq_false (by have := hth.2; exact Int.not_lt.2 this)
                    rw [hte]
                    clear hth
                    refine wp_region_quiet_below (by kernel_rfl) (by kernel_rfl) ?_
                    repeat (quiet_step (fail))
                    refine wpQuiet_nil ?_
                    intro q9 hw'
                    obtain ⟨⟨dq, osq⟩, hw''⟩ := hw'
                    have hb := below_regrown u18 dq osq
                    rw [← hw''] at hb
                    clear hw'' dq osq g1 g2 g3 px c0 c1 lc hgb hf1 hf2
                    replace HBA := Lib.hid (below_to HBA.out hb)
                    replace HGV := Lib.hid ((HGV.out.same (.below (Nat.le_refl _) hb)).up hb.size)
                    replace HOV := Lib.hid ((HOV.out.same (.below (Nat.le_refl _) hb)).up hb.size)
                    replace HO8 := Lib.hid ((hb.block _ (lt_of_block HO8.out)).trans HO8.out)
                    replace HRV := Lib.hid ((HRV.out.same (.below (Nat.le_refl _) hb)).up hb.size)
                    replace HLV := Lib.hid ((HLV.out.same (.below (Nat.le_refl _) hb)).up hb.size)
                    replace HU := Lib.hid (below_to HU.out hb)
                    replace BT := Lib.hid ((hb.block _ (lt_of_block BT.out)).trans BT.out)
                    clear hb
                    go_wp2_with fail
                    go_roundw
                    case rel => exact ⟨k + 1, k, by omega, by simp, rfl, HFK, HU⟩
                    case measure => simp [intOf]; omega
                  · have hf1 : (tellE x.length out k xs == 0) = false := beq_eq_false_iff_ne.2 hte
                    have hf2 : True := trivial
                    refine wp_region_quiet_below (by kernel_rfl) (by kernel_rfl) ?_
                    repeat (quiet_step (fail))
                    refine wpQuiet_nil ?_
                    intro q9 hw'
                    obtain ⟨⟨dq, osq⟩, hw''⟩ := hw'
                    have hb := below_regrown u18 dq osq
                    rw [← hw''] at hb
                    clear hw'' dq osq g1 g2 g3 px c0 c1 lc hgb hf1 hf2
                    replace HBA := Lib.hid (below_to HBA.out hb)
                    replace HGV := Lib.hid ((HGV.out.same (.below (Nat.le_refl _) hb)).up hb.size)
                    replace HOV := Lib.hid ((HOV.out.same (.below (Nat.le_refl _) hb)).up hb.size)
                    replace HO8 := Lib.hid ((hb.block _ (lt_of_block HO8.out)).trans HO8.out)
                    replace HRV := Lib.hid ((HRV.out.same (.below (Nat.le_refl _) hb)).up hb.size)
                    replace HLV := Lib.hid ((HLV.out.same (.below (Nat.le_refl _) hb)).up hb.size)
                    replace HU := Lib.hid (below_to HU.out hb)
                    replace BT := Lib.hid ((hb.block _ (lt_of_block BT.out)).trans BT.out)
                    clear hb
                    go_wp2_with fail
                    go_roundw
                    case rel => exact ⟨k + 1, k, by omega, by simp, rfl, HFK, HU⟩
                    case measure => simp [intOf]; omega
                · have hgt1 : decide (xf < xk) = false := decide_eq_false hgt
                  refine wp_region_quiet_below (by kernel_rfl) (by kernel_rfl) ?_
                  repeat (quiet_step (fail))
                  refine wpQuiet_nil ?_
                  intro q3 hw'
                  obtain ⟨⟨dq, osq⟩, hw''⟩ := hw'
                  have hb := below_regrown q2 dq osq
                  rw [← hw''] at hb
                  clear hw'' dq osq g1 g2 px py hgb
                  replace HBA := Lib.hid (below_to HBA.out hb)
                  replace HGV := Lib.hid ((HGV.out.same (.below (Nat.le_refl _) hb)).up hb.size)
                  replace HOV := Lib.hid ((HOV.out.same (.below (Nat.le_refl _) hb)).up hb.size)
                  replace HO8 := Lib.hid ((hb.block _ (lt_of_block HO8.out)).trans HO8.out)
                  replace HRV := Lib.hid ((HRV.out.same (.below (Nat.le_refl _) hb)).up hb.size)
                  replace HLV := Lib.hid ((HLV.out.same (.below (Nat.le_refl _) hb)).up hb.size)
                  replace HU := Lib.hid (below_to HU.out hb)
                  clear hb
                  replace HFK : Hid (fi < x.length ∧ ∀ j, j < k + 1 → ld x j ≤ ld x fi) := Lib.hid ⟨hfi, fun j hj => by
                    by_cases hjk : j = k
                    · rw [hjk]; omega
                    · exact HFK.out.2 j (by omega)⟩
                  have c0 := cell_of_row q3 b8 0 _ _ _ HO8.out
                  have c1 := cell_of_row q3 b8 1 _ _ _ HO8.out
                  simp only [List.getElem?_toArray, List.getElem?_cons_zero, List.getElem?_cons_succ] at c0 c1
                  have lc := lt_of_block HO8.out
                  go_wp2_with fail
                  clear c0 c1 lc
                  refine (Album_any q3.heap.size x.length (.slice oa out.length oc) out q3 (by omega) HOV.out (Nat.le_refl _)).mono ?_
                  rintro e u19 ⟨⟨r10, rfl, ho⟩, hb⟩
                  replace HBA := Lib.hid (below_to HBA.out hb)
                  replace HGV := Lib.hid ((HGV.out.same (.below (Nat.le_refl _) hb)).up hb.size)
                  replace HOV := Lib.hid ((HOV.out.same (.below (Nat.le_refl _) hb)).up hb.size)
                  replace HO8 := Lib.hid ((hb.block _ (lt_of_block HO8.out)).trans HO8.out)
                  replace HRV := Lib.hid ((HRV.out.same (.below (Nat.le_refl _) hb)).up hb.size)
                  replace HLV := Lib.hid ((HLV.out.same (.below (Nat.le_refl _) hb)).up hb.size)
                  replace HU := Lib.hid (below_to HU.out hb)
                  clear hb
                  have HV1 := Lib.hid (own_cms (l := out) ho)
                  clear ho
                  go_wp2_with fail
                  refine (HLC.out u19 HBA.out).mono ?_
                  rintro e u20 ⟨⟨r11, rfl, ho⟩, hb⟩
                  replace HBA := Lib.hid (below_to HBA.out hb)
                  replace HGV := Lib.hid ((HGV.out.same (.below (Nat.le_refl _) hb)).up hb.size)
                  replace HOV := Lib.hid ((HOV.out.same (.below (Nat.le_refl _) hb)).up hb.size)
                  replace HO8 := Lib.hid ((hb.block _ (lt_of_block HO8.out)).trans HO8.out)
                  replace HRV := Lib.hid ((HRV.out.same (.below (Nat.le_refl _) hb)).up hb.size)
                  replace HLV := Lib.hid ((HLV.out.same (.below (Nat.le_refl _) hb)).up hb.size)
                  replace HU := Lib.hid (below_to HU.out hb)
                  replace HV1 := Lib.hid ((HV1.out.same (.below (Nat.le_refl _) hb)).up hb.size)
                  clear hb
                  obtain ⟨ta, tc, htv⟩ := own_shape ho
                  subst htv
                  have htc := own_cap ho
                  have HT1 := Lib.hid (own_ints (l := xs) ho)
                  clear ho
                  go_wp2_with fail
                  refine (Tells_any u20.heap.size x.length _ ta tc out (k : Int) xs u20 HA.out.maxLen htc HV1.out HT1.out (Nat.le_refl _)).mono ?_
                  rintro e u21 ⟨⟨lo, hi, rfl, ht1, -⟩, hb⟩
                  replace HBA := Lib.hid (below_to HBA.out hb)
                  replace HGV := Lib.hid ((HGV.out.same (.below (Nat.le_refl _) hb)).up hb.size)
                  replace HOV := Lib.hid ((HOV.out.same (.below (Nat.le_refl _) hb)).up hb.size)
                  replace HO8 := Lib.hid ((hb.block _ (lt_of_block HO8.out)).trans HO8.out)
                  replace HRV := Lib.hid ((HRV.out.same (.below (Nat.le_refl _) hb)).up hb.size)
                  replace HLV := Lib.hid ((HLV.out.same (.below (Nat.le_refl _) hb)).up hb.size)
                  replace HU := Lib.hid (below_to HU.out hb)
                  replace HV1 := Lib.hid ((HV1.out.same (.below (Nat.le_refl _) hb)).up hb.size)
                  replace HT1 := Lib.hid ((HT1.out.same (.below (Nat.le_refl _) hb)).up hb.size)
                  clear hb
                  clear HV1
                  clear HT1
                  have HT1 := Lib.hid ht1
                  clear ht1
                  go_wp2_with fail
                  have hbx := box_below u21 (.cells #[.int .i64 lo, .int .i64 hi] 41)
                  have hnx := heap_alloc_new u21 (.cells #[.int .i64 lo, .int .i64 hi] 41)
                  replace HBA := Lib.hid (below_to HBA.out hbx)
                  replace HGV := Lib.hid ((HGV.out.same (.below (Nat.le_refl _) hbx)).up hbx.size)
                  replace HOV := Lib.hid ((HOV.out.same (.below (Nat.le_refl _) hbx)).up hbx.size)
                  replace HO8 := Lib.hid ((hbx.block _ (lt_of_block HO8.out)).trans HO8.out)
                  replace HRV := Lib.hid ((HRV.out.same (.below (Nat.le_refl _) hbx)).up hbx.size)
                  replace HLV := Lib.hid ((HLV.out.same (.below (Nat.le_refl _) hbx)).up hbx.size)
                  replace HU := Lib.hid (below_to HU.out hbx)
                  have BT := Lib.hid hnx
                  clear hbx hnx
                  generalize World.alloc u21 _ = u22 at *
                  generalize u21.heap.size = bt at *
                  obtain ⟨gb', go', gc', e, hgb, px⟩ := ints_at HGV.out hkl
                  cases e
                  simp only [Nat.zero_add] at px
                  rw [hxk] at px
                  have c0 := cell_of_row u22 bt 0 _ _ _ BT.out
                  have c1 := cell_of_row u22 bt 1 _ _ _ BT.out
                  simp only [List.getElem?_toArray, List.getElem?_cons_zero, List.getElem?_cons_succ] at c0 c1
                  have lc := lt_of_block BT.out
                  have g1 := cell_regrown px
                  have g2 := cell_regrown c0
                  have g3 := cell_regrown c1
                  by_cases hte : tellE x.length out k xs = 0
                  · have hth := HTT.out k ⟨lo, hi⟩ hkl (HT1.out hte)
                    rw [gOf_nat, hxk] at hth
                    have hf1 : decide (xk < lo) = false := decide_eq_false (by have := hth.1; exact Int.not_lt.2 this)
                    have hf2 : decide (hi < xk) = false := decide_eq_false (by have := hth.2; exact Int.not_lt.2 this)
                    rw [hte]
                    clear hth
                    refine wp_region_quiet_below (by kernel_rfl) (by kernel_rfl) ?_
                    repeat (quiet_step (fail))
                    refine wpQuiet_nil ?_
                    intro q9 hw'
                    obtain ⟨⟨dq, osq⟩, hw''⟩ := hw'
                    have hb := below_regrown u22 dq osq
                    rw [← hw''] at hb
                    clear hw'' dq osq g1 g2 g3 px c0 c1 lc hgb hf1 hf2
                    replace HBA := Lib.hid (below_to HBA.out hb)
                    replace HGV := Lib.hid ((HGV.out.same (.below (Nat.le_refl _) hb)).up hb.size)
                    replace HOV := Lib.hid ((HOV.out.same (.below (Nat.le_refl _) hb)).up hb.size)
                    replace HO8 := Lib.hid ((hb.block _ (lt_of_block HO8.out)).trans HO8.out)
                    replace HRV := Lib.hid ((HRV.out.same (.below (Nat.le_refl _) hb)).up hb.size)
                    replace HLV := Lib.hid ((HLV.out.same (.below (Nat.le_refl _) hb)).up hb.size)
                    replace HU := Lib.hid (below_to HU.out hb)
                    replace BT := Lib.hid ((hb.block _ (lt_of_block BT.out)).trans BT.out)
                    clear hb
                    go_wp2_with fail
                    go_roundw
                    case rel => exact ⟨k + 1, fi, by omega, by simp, rfl, HFK, HU⟩
                    case measure => simp [intOf]; omega
                  · have hf1 : (tellE x.length out k xs == 0) = false := beq_eq_false_iff_ne.2 hte
                    have hf2 : True := trivial
                    refine wp_region_quiet_below (by kernel_rfl) (by kernel_rfl) ?_
                    repeat (quiet_step (fail))
                    refine wpQuiet_nil ?_
                    intro q9 hw'
                    obtain ⟨⟨dq, osq⟩, hw''⟩ := hw'
                    have hb := below_regrown u22 dq osq
                    rw [← hw''] at hb
                    clear hw'' dq osq g1 g2 g3 px c0 c1 lc hgb hf1 hf2
                    replace HBA := Lib.hid (below_to HBA.out hb)
                    replace HGV := Lib.hid ((HGV.out.same (.below (Nat.le_refl _) hb)).up hb.size)
                    replace HOV := Lib.hid ((HOV.out.same (.below (Nat.le_refl _) hb)).up hb.size)
                    replace HO8 := Lib.hid ((hb.block _ (lt_of_block HO8.out)).trans HO8.out)
                    replace HRV := Lib.hid ((HRV.out.same (.below (Nat.le_refl _) hb)).up hb.size)
                    replace HLV := Lib.hid ((HLV.out.same (.below (Nat.le_refl _) hb)).up hb.size)
                    replace HU := Lib.hid (below_to HU.out hb)
                    replace BT := Lib.hid ((hb.block _ (lt_of_block BT.out)).trans BT.out)
                    clear hb
                    go_wp2_with fail
                    go_roundw
                    case rel => exact ⟨k + 1, fi, by omega, by simp, rfl, HFK, HU⟩
                    case measure => simp [intOf]; omega
          · obtain rfl : k = x.length := by omega
            obtain ⟨k0, hk0, hke⟩ := HFG.out fi hfi HFK.out.2
            clear HU hkl hk
            go_wp2_with fail
            have HU1 := Lib.hid (Below.refl q0.heap.size q0)
            go_loopw [23, 24] (fun b i w2 => ∃ (q : Nat) (B : Bool), q ≤ FL.length ∧ i = .int .i64 q ∧ b = .bool B ∧ Hid (∀ j, j < q → ld FL j = fi → B = true) ∧ Hid (Below q0.heap.size q0 w2)) (fun _ i _ => FL.length - (intOf i).toNat)
            case atStart => exact ⟨0, false, Nat.zero_le _, rfl, rfl, Lib.hid (fun j hj => absurd hj (Nat.not_lt_zero _)), HU1⟩
            case round =>
              obtain ⟨q, B, hq, rfl, rfl, HB, HW⟩ := hrel
              clear HU1
              have hU := HW.out
              replace HBA := Lib.hid (below_to HBA.out hU)
              replace HGV := Lib.hid ((HGV.out.same (.below (Nat.le_refl _) hU)).up hU.size)
              replace HOV := Lib.hid ((HOV.out.same (.below (Nat.le_refl _) hU)).up hU.size)
              replace HO8 := Lib.hid ((hU.block _ (lt_of_block HO8.out)).trans HO8.out)
              replace HRV := Lib.hid ((HRV.out.same (.below (Nat.le_refl _) hU)).up hU.size)
              replace HLV := Lib.hid ((HLV.out.same (.below (Nat.le_refl _) hU)).up hU.size)
              clear hU
              generalize wr = p0 at *
              by_cases hql : q < FL.length
              · have hqn : (q : Int) < FL.length := by omega
                have hwq : IntKind.i64.wrap ((q : Int) + 1) = (q : Int) + 1 := IntWalk.i64_in _ (by have := HFLL.out; omega)
                obtain ⟨lb', lo', lc', e, hlb, py⟩ := ints_at HLV.out hql
                cases e
                cases B with
                | true =>
                  go_wp2_with fail
                  go_roundw
                  case rel => exact ⟨q + 1, true, by omega, by simp, rfl, Lib.hid fun _ _ _ => rfl, HW⟩
                  case measure => simp [intOf]; omega
                | false =>
                  obtain ⟨y, hy⟩ : ∃ y, ld FL q = y := ⟨_, rfl⟩
                  rw [hy] at py
                  obtain ⟨C, hC⟩ : ∃ C, (y == (fi : Int)) = C := ⟨_, rfl⟩
                  go_wp2_with fail
                  go_roundw
                  case rel =>
                    refine ⟨q + 1, C, by omega, by simp, rfl, Lib.hid fun j hj he => ?_, HW⟩
                    by_cases hjq : j = q
                    · rw [hjq, hy] at he
                      rw [← hC, he]
                      exact beq_self_eq_true _
                    · exact absurd (HB.out j (by omega) he) (by decide)
                  case measure => simp [intOf]; omega
              · obtain rfl : q = FL.length := by omega
                obtain rfl : B = true := HB.out k0 hk0 hke
                clear HB HW
                go_wp2_with fail
                refine (awake_any p0).mono ?_
                rintro e v9 ⟨rfl, hb⟩
                have HBF := Lib.hid (below_to HBA.out hb)
                clear hb
                go_wp2
                go_ret
                exact ⟨rfl, HBF.out⟩
end Go.Proofs.Ytplmlmmjfkbabaa
