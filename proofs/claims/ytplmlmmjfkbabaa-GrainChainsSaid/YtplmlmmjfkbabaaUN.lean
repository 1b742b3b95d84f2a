/- The law GrainChains, walked. Condition: the chain's length is at most its capacity. -/
import Derived.Test.YtplmlmmjfkbabaaUJ
import Derived.Test.YtplmlmmjfkbabaaUM
import Derived.BigRegion
import Derived.BigQuiet
namespace Go.Proofs.Ytplmlmmjfkbabaa
open Go.RowKit Go.Shelf
attribute [local irreducible] arrV wpQuiet mat shl

theorem own_cap3 {w : World} {base e sz n c : Nat} {a : Option Addr} {xs : List Value} (h : w.ownsRow base e sz (.slice a n c) n xs) : n ≤ c := by
  rcases h.2 with ⟨hv, h0⟩ | ⟨g, c', cur, hv, _, _, hn, _⟩
  · cases hv; exact Nat.le_refl _
  · cases hv; exact hn
/-- What Chain returned: nothing, or a chain that tells the end. -/
def ChR (cs : List Cm) (p : Int) (hi : Bool) (Y : Int) (r : Value) (w : World) : Prop :=
  (Y ≠ 0 → r = .slice none 0 0) ∧ (Y = 0 → ∃ d, distO cs = some d ∧ ∃ ch : List Int, w.ownsRow 0 3 1 r ch.length (ch.map iV) ∧ (∃ q, tellR cs ch.reverse p = some q ∧ enR hi q = eD d hi p) ∧ ch.length ≤ 8)
theorem ChR.below {cs : List Cm} {p : Int} {hi : Bool} {Y : Int} {r : Value} {w w' : World} (h : ChR cs p hi Y r w) (hb : Below w.heap.size w w') : ChR cs p hi Y r w' :=
  ⟨h.1, fun hY => by
    obtain ⟨d, hd, ch, ho, h2⟩ := h.2 hY
    exact ⟨d, hd, ch, row_kept ho hb, h2⟩⟩
theorem ChR.put {cs : List Cm} {p : Int} {hi : Bool} {Y : Int} {r : Value} {w w' : World} {b : Nat} {cur : Array Value} (h : ChR cs p hi Y r w) (hp : Put b w w') (hg : w.heap[b]? = some (.cells cur 43 (0, 0))) : ChR cs p hi Y r w' :=
  ⟨h.1, fun hY => by
    obtain ⟨d, hd, ch, ho, h2⟩ := h.2 hY
    refine ⟨d, hd, ch, own_block_same ho fun g hgo => hp.other g fun e => ?_, h2⟩
    obtain ⟨c, e2⟩ := own_tag ho hgo
    rw [e, hg] at e2
    cases e2⟩
theorem tell_fault {n : Int} {cs : List Cm} {p : Int} {xs : List Int} (h : faultA n cs ≠ 0) : tellE n cs p xs = faultA n cs := by
  have h1 : askE n cs [p] = faultA n cs := if_pos h
  have h2 : chainE n cs p xs.length = faultA n cs := by unfold chainE; rw [h1]; exact if_pos h
  unfold tellE
  rw [h2]
  exact if_pos h
theorem tell_pic {n : Int} {cs : List Cm} {p : Int} {xs : List Int} (h : faultA n cs = 0) (hp : picsB n [p] = false) : tellE n cs p xs = 2 := by
  have h1 : askE n cs [p] = 2 := by unfold askE; rw [if_neg (fun h2 => h2 h), if_neg (by rw [hp]; decide)]
  have h2 : chainE n cs p xs.length = 2 := by unfold chainE; rw [h1]; rfl
  unfold tellE
  rw [h2]
  rfl
theorem tell_in {n : Int} {cs : List Cm} {p : Int} {xs : List Int} (h : faultA n cs = 0) (hp : picsB n [p] = true) : tellE n cs p xs = if 20 < xs.length then 3 else if (tellR cs xs.reverse p).isSome = true then 0 else 10 := by
  have h1 : askE n cs [p] = 0 := by unfold askE; rw [if_neg (fun h2 => h2 h), if_pos hp]
  have h2 : chainE n cs p xs.length = if 20 < xs.length then 3 else 0 := by unfold chainE; rw [h1]; rfl
  unfold tellE
  rw [h2]
  split
  · rfl
  · rfl
theorem pics_in2 {n p : Int} (h : picsB n [p] = true) : 0 ≤ p ∧ p < n := by
  rw [pics_one] at h
  simp only [hasB, decide_eq_true_eq] at h
  omega
theorem grs_get3 {m : Nat} {w : World} {v : Value} {d : Dm} {n k : Nat} (h : RgsV m w v (gradesL d n)) (hk : k < n) : ∃ b off cap, v = .slice (some ⟨b, off, none⟩) n cap ∧ b < m ∧ w.cell? ⟨b, off + k * 2, none⟩ = some (.int .i64 (-d (k + 1) 0)) ∧ w.cell? ⟨b, off + k * 2 + 1, none⟩ = some (.int .i64 (d 0 (k + 1))) := by
  obtain ⟨a, cap, rfl, hp⟩ := h
  rw [grades_len] at hp ⊢
  obtain ⟨b, off, rfl, hb, hc⟩ := hp (by omega)
  have h1 := hc k hk
  rw [grades_at hk] at h1
  exact ⟨b, off, cap, rfl, hb, h1⟩
theorem end_nat3 (d : Dm) (p : Nat) : eD d false (p : Int) = -d (p + 1) 0 ∧ eD d true (p : Int) = d 0 (p + 1) := by
  unfold eD
  rw [pl_nat]
  exact ⟨rfl, rfl⟩
set_option maxRecDepth 100000 in
set_option maxHeartbeats 16000000 in
theorem chains_walk (n : Int) (v : Value) (cs : List Cm) (p : Int) (xa : Option Addr) (xc : Nat) (xs : List Int) (hi : Bool) (w : World) (hV : CmsV w.heap.size w v cs) (hX : IntsV w.heap.size w (.slice xa xs.length xc) xs) (hcc : xs.length ≤ xc) :
    Calls Try.prog 7 #[.agg #[.int .i64 n, v], .int .i64 p, .slice xa xs.length xc, .bool hi] w fun e w' => e = .returned (.bool true) ∧ Below w.heap.size w w' := by
  have HAL0 := Lib.hid fun (hl : cs.length ≤ 1000) w' (h : Below w.heap.size w w') => Album_any w.heap.size n v cs w' hl (hV.same (.below (Nat.le_refl _) h)) h.size
  have HFA0 := Lib.hid fun (hl : cs.length ≤ maxLen) w' (h : Below w.heap.size w w') => fault_any w.heap.size n v cs w' hl (hV.same (.below (Nat.le_refl _) h)) h.size
  have HAS0 := Lib.hid fun (hl : cs.length ≤ maxLen) w' (h : Below w.heap.size w w') => asked_any n v cs p w' hl ((hV.same (.below (Nat.le_refl _) h)).up h.size)
  have HRG0 := Lib.hid fun (N : Nat) (hN : n = N) (hA : AlbOk n cs) w' (h : Below w.heap.size w w') => refGrades_any N v cs w' (hN ▸ hA) ((hV.same (.below (Nat.le_refl _) h)).up h.size)
  have HLI := Lib.hid fun (hl : xs.length ≤ 1000) w' (h : Below w.heap.size w w') => list_any w.heap.size (.slice xa xs.length xc) xs w' hl (hX.same (.below (Nat.le_refl _) h)) h.size
  have HRT := Lib.hid fun (hA : AlbOk n cs) (hl : xs.length ≤ 1000) (hp : 0 ≤ p) w' (h : Below w.heap.size w w') => refTells_any w.heap.size n v cs hA xs.length xs xa xc p w' rfl hl hcc hp (hV.same (.below (Nat.le_refl _) h)) (hX.same (.below (Nat.le_refl _) h)) h.size
  have HRC := Lib.hid fun (hA : AlbOk n cs) (ch : List Int) (ra : Option Addr) (rc : Nat) (hl : ch.length ≤ 1000) (hc : ch.length ≤ rc) (hp : 0 ≤ p) w' (h : Below w.heap.size w w') (hX : IntsV w'.heap.size w' (.slice ra ch.length rc) ch) => refTells_any w'.heap.size n v cs hA ch.length ch ra rc p w' rfl hl hc hp ((hV.same (.below (Nat.le_refl _) h)).up h.size) hX (Nat.le_refl _)
  obtain ⟨a, cap, rfl, hp⟩ := hV
  have HXA := Lib.hid (heap_alloc_new w (.cells #[.int .i64 n, .slice a cs.length cap] 24))
  have HBA := Lib.hid (box_below w (.cells #[.int .i64 n, .slice a cs.length cap] 24))
  clear hp hX
  go_enter Try.func7, Try.ntmps7
  go_wp2_with fail
  refine (Thin_any n a cs.length cap _).mono ?_
  rintro e u0 ⟨rfl, hb⟩
  replace HXA := Lib.hid ((hb.block _ (lt_of_block HXA.out)).trans HXA.out)
  replace HBA := Lib.hid (below_to HBA.out hb)
  clear hb
  by_cases ht : cs.length ≤ 16
  · have hth : decide (cs.length ≤ 16) = true := decide_eq_true ht
    by_cases hxl : 25 < xs.length
    · have hz2 : decide ((25 : Int) < xs.length) = true := decide_eq_true (by omega)
      clear hxl
      go_wp2_with fail
      refine (awake_any u0).mono ?_
      rintro e u1 ⟨rfl, hb⟩
      have HBF := Lib.hid (below_to HBA.out hb)
      clear hb
      go_wp2
      go_ret
      exact ⟨rfl, HBF.out⟩
    · have hz2 : decide ((25 : Int) < xs.length) = false := decide_eq_false (by omega)
      have HML : Hid (cs.length ≤ maxLen) := Lib.hid (by simp [maxLen]; omega)
      have HAL := Lib.hid (HAL0.out (by omega))
      have HFA := Lib.hid (HFA0.out HML.out)
      have HAS := Lib.hid (HAS0.out HML.out)
      have HLC := Lib.hid (HLI.out (by omega))
      have HX25 : Hid (xs.length ≤ 1000) := Lib.hid (by omega)
      clear ht hxl HAL0 HFA0 HAS0 HLI
      have c0 := cell_of_row u0 w.heap.size 0 _ _ _ HXA.out
      have c1 := cell_of_row u0 w.heap.size 1 _ _ _ HXA.out
      simp only [List.getElem?_toArray, List.getElem?_cons_zero, List.getElem?_cons_succ] at c0 c1
      have lc := lt_of_block HXA.out
      go_wp2_with fail
      clear c0 c1 lc
      clear hth hz2
      refine (HAL.out u0 HBA.out).mono ?_
      rintro e u2 ⟨⟨r1, rfl, ho⟩, hb⟩
      replace HXA := Lib.hid ((hb.block _ (lt_of_block HXA.out)).trans HXA.out)
      replace HBA := Lib.hid (below_to HBA.out hb)
      clear hb
      have HV1 := Lib.hid (own_cms (l := cs) ho)
      clear ho
      go_wp2_with fail
      refine (HLC.out u2 HBA.out).mono ?_
      rintro e u3 ⟨⟨r8, rfl, ho⟩, hb⟩
      replace HXA := Lib.hid ((hb.block _ (lt_of_block HXA.out)).trans HXA.out)
      replace HBA := Lib.hid (below_to HBA.out hb)
      replace HV1 := Lib.hid ((HV1.out.same (.below (Nat.le_refl _) hb)).up hb.size)
      clear hb
      obtain ⟨ta, tc, htv⟩ := own_shape ho
      subst htv
      have htc := own_cap3 ho
      have HT1 := Lib.hid (own_ints (l := xs) ho)
      clear ho
      go_wp2_with fail
      refine (Tells_any u3.heap.size n _ ta tc cs p xs u3 HML.out htc HV1.out HT1.out (Nat.le_refl _)).mono ?_
      rintro e u4 ⟨⟨lo, hj, rfl, ht1, ht2⟩, hb⟩
      replace HXA := Lib.hid ((hb.block _ (lt_of_block HXA.out)).trans HXA.out)
      replace HBA := Lib.hid (below_to HBA.out hb)
      replace HV1 := Lib.hid ((HV1.out.same (.below (Nat.le_refl _) hb)).up hb.size)
      replace HT1 := Lib.hid ((HT1.out.same (.below (Nat.le_refl _) hb)).up hb.size)
      clear hb
      clear HV1
      clear HT1
      have HT1 := Lib.hid ht1
      have HT2 := Lib.hid ht2
      clear ht1 ht2 htc
      have c0 := cell_of_row u4 w.heap.size 0 _ _ _ HXA.out
      have c1 := cell_of_row u4 w.heap.size 1 _ _ _ HXA.out
      simp only [List.getElem?_toArray, List.getElem?_cons_zero, List.getElem?_cons_succ] at c0 c1
      have lc := lt_of_block HXA.out
      go_wp2_with fail
      clear c0 c1 lc
      have hbx := box_below u4 (.cells #[.int .i64 lo, .int .i64 hj] 41)
      have hnx := heap_alloc_new u4 (.cells #[.int .i64 lo, .int .i64 hj] 41)
      replace HXA := Lib.hid ((hbx.block _ (lt_of_block HXA.out)).trans HXA.out)
      replace HBA := Lib.hid (below_to HBA.out hbx)
      have BT := Lib.hid hnx
      clear hbx hnx
      generalize World.alloc u4 _ = u5 at *
      generalize u4.heap.size = bT at *
      refine (HAL.out u5 HBA.out).mono ?_
      rintro e u6 ⟨⟨r2, rfl, ho⟩, hb⟩
      replace HXA := Lib.hid ((hb.block _ (lt_of_block HXA.out)).trans HXA.out)
      replace HBA := Lib.hid (below_to HBA.out hb)
      replace BT := Lib.hid ((hb.block _ (lt_of_block BT.out)).trans BT.out)
      clear hb
      have HV1 := Lib.hid (own_cms (l := cs) ho)
      clear ho
      go_wp2_with fail
      have hch := Chain_any u6.heap.size n _ cs p hi u6 HML.out HV1.out (Nat.le_refl _)
      refine hch.mono ?_
      rintro e u7 ⟨⟨r, rfl, hy1, hy2⟩, hb⟩
      replace HXA := Lib.hid ((hb.block _ (lt_of_block HXA.out)).trans HXA.out)
      replace HBA := Lib.hid (below_to HBA.out hb)
      replace BT := Lib.hid ((hb.block _ (lt_of_block BT.out)).trans BT.out)
      replace HV1 := Lib.hid ((HV1.out.same (.below (Nat.le_refl _) hb)).up hb.size)
      clear hb hch
      clear HV1
      have HCR : Hid (ChR cs p hi (layE n cs [p]) r u7) := Lib.hid ⟨hy1, fun h => by
        obtain ⟨d, hd, ch, ho, h2⟩ := hy2 h
        exact ⟨d, hd, ch, ownsRow_mono (Nat.zero_le _) ho, h2⟩⟩
      have HYK := Lib.hid fun (h : layE n cs [p] = 0) => ask_ok h
      obtain ⟨Y, hY⟩ : ∃ Y, layE n cs [p] = Y := ⟨_, rfl⟩
      rw [hY] at HCR HYK HAS ⊢
      clear hy1 hy2 hY
      have c0 := cell_of_row u7 w.heap.size 0 _ _ _ HXA.out
      have c1 := cell_of_row u7 w.heap.size 1 _ _ _ HXA.out
      simp only [List.getElem?_toArray, List.getElem?_cons_zero, List.getElem?_cons_succ] at c0 c1
      have lc := lt_of_block HXA.out
      go_wp2_with fail
      clear c0 c1 lc
      refine (HFA.out u7 HBA.out).mono ?_
      rintro e u8 ⟨rfl, hb⟩
      replace HCR := Lib.hid (HCR.out.below hb)
      replace HXA := Lib.hid ((hb.block _ (lt_of_block HXA.out)).trans HXA.out)
      replace HBA := Lib.hid (below_to HBA.out hb)
      replace BT := Lib.hid ((hb.block _ (lt_of_block BT.out)).trans BT.out)
      clear hb
      by_cases hf : faultA n cs = 0
      · have hn0 := (fault_ok hf).n0
        have hn8 := (fault_ok hf).n8
        have hwn : IntKind.i64.wrap (n - 1) = n - 1 := IntWalk.i64_in _ (by omega)
        have HF0 := Lib.hid hf
        rw [hf]
        clear hf
        have c0 := cell_of_row u8 w.heap.size 0 _ _ _ HXA.out
        have c1 := cell_of_row u8 w.heap.size 1 _ _ _ HXA.out
        simp only [List.getElem?_toArray, List.getElem?_cons_zero, List.getElem?_cons_succ] at c0 c1
        have lc := lt_of_block HXA.out
        go_wp2_with fail
        clear c0 c1 lc
        refine (In_any p 0 (n - 1) u8).mono ?_
        rintro e u9 ⟨rfl, hb⟩
        replace HCR := Lib.hid (HCR.out.below hb)
        replace HXA := Lib.hid ((hb.block _ (lt_of_block HXA.out)).trans HXA.out)
        replace HBA := Lib.hid (below_to HBA.out hb)
        replace BT := Lib.hid ((hb.block _ (lt_of_block BT.out)).trans BT.out)
        clear hb
        rw [← pics_one n p]
        cases hpp : picsB n [p] with
        | false =>
          have hE := tell_pic (xs := xs) HF0.out hpp
          obtain ⟨rfl, rfl⟩ := HT2.out (by rw [hE]; decide)
          rw [hE]
          clear hE hpp hwn hn0 hn8 HF0
          go_wp2_with fail
          have hbx := box_below u9 (.cells #[.int .i64 0, .int .i64 0] 43)
          have hnx := heap_alloc_new u9 (.cells #[.int .i64 0, .int .i64 0] 43)
          replace HCR := Lib.hid (HCR.out.below hbx)
          replace HXA := Lib.hid ((hbx.block _ (lt_of_block HXA.out)).trans HXA.out)
          replace HBA := Lib.hid (below_to HBA.out hbx)
          replace BT := Lib.hid ((hbx.block _ (lt_of_block BT.out)).trans BT.out)
          have BX := Lib.hid hnx
          clear hbx hnx
          generalize World.alloc u9 _ = u10 at *
          generalize u9.heap.size = bX at *
          have HC : Hid (∀ w', Below u10.heap.size u10 w' → w'.cell? ⟨bT, 0, none⟩ = some (.int .i64 (0)) ∧ w'.cell? ⟨bT, 1, none⟩ = some (.int .i64 (0)) ∧ w'.cell? ⟨bX, 0, none⟩ = some (.int .i64 (0)) ∧ w'.cell? ⟨bX, 1, none⟩ = some (.int .i64 (0)) ∧ bT < w'.heap.size) := Lib.hid fun w' hS => by
            have h1 := (hS.block _ (lt_of_block BT.out)).trans BT.out
            have h2 := (hS.block _ (lt_of_block BX.out)).trans BX.out
            exact ⟨cell_of_row w' _ 0 _ _ _ h1, cell_of_row w' _ 1 _ _ _ h1, cell_of_row w' _ 0 _ _ _ h2, cell_of_row w' _ 1 _ _ _ h2, lt_of_block h1⟩
          have q2 := fun w => neqr41 (0) (0) w
          refine wp_region_noPanic ?_
          refine wp_region_acts (fun w' => Below u10.heap.size u10 w') (fun _ _ h hb => below_to h hb) (below_drawn _) (by decide +kernel) (fun _ _ _ _ _ h => h)
            [.take 0, .take 1, .take 2, .take 3, .take 4, .take 5, .call 6, .take 7, .take 8] [] (by decide +kernel) ?_
          iterate 6
            (refine GWalk.takes rfl rfl ?_; apply Exists.intro; refine ⟨fun w' hS => ?_, ?_⟩; (obtain ⟨z1, z2, z3, z4, z5⟩ := HC.out w' hS; clear hS; go_simp; with_reducible rfl); simp only [List.getElem_toArray, List.getElem_cons_succ, List.getElem_cons_zero, Act.put, List.setIfInBounds_toArray, List.set_cons_zero, List.set_cons_succ])
          refine GWalk.calls rfl rfl ?_; apply Exists.intro; apply Exists.intro; refine ⟨fun w' hS => ?_, fun v1 hb hS hO => ?_⟩; (clear hS; go_simp; exact ⟨rfl, rfl⟩)
          refine (to_any (0) (0) v1).mono ?_
          rintro e v2 ⟨rfl, hb2⟩
          refine ⟨_, rfl, hb2, below_to hS hb2, ?_⟩
          simp only [List.getElem_toArray, List.getElem_cons_succ, List.getElem_cons_zero, Act.put, List.setIfInBounds_toArray, List.set_cons_zero, List.set_cons_succ]
          clear hb hO hS hb2
          iterate 2
            (refine GWalk.takes rfl rfl ?_; apply Exists.intro; refine ⟨fun w' hS => ?_, ?_⟩; (obtain ⟨z1, z2, z3, z4, z5⟩ := HC.out w' hS; clear hS; go_simp; with_reducible rfl); simp only [List.getElem_toArray, List.getElem_cons_succ, List.getElem_cons_zero, Act.put, List.setIfInBounds_toArray, List.set_cons_zero, List.set_cons_succ])
          refine GWalk.fin fun x0 hb5 hb => ?_
          clear hb5 HC
          replace HCR := Lib.hid (HCR.out.below hb)
          replace HXA := Lib.hid ((hb.block _ (lt_of_block HXA.out)).trans HXA.out)
          replace HBA := Lib.hid (below_to HBA.out hb)
          replace BT := Lib.hid ((hb.block _ (lt_of_block BT.out)).trans BT.out)
          replace BX := Lib.hid ((hb.block _ (lt_of_block BX.out)).trans BX.out)
          clear hb
          clear BX
          clear BT
          refine Tail.done (NoPanic.normal ?_)
          clear q2
          have c0 := cell_of_row x0 w.heap.size 0 _ _ _ HXA.out
          have c1 := cell_of_row x0 w.heap.size 1 _ _ _ HXA.out
          simp only [List.getElem?_toArray, List.getElem?_cons_zero, List.getElem?_cons_succ] at c0 c1
          have lc := lt_of_block HXA.out
          go_wp2_with fail
          clear c0 c1 lc
          refine (HAS.out x0 HBA.out).mono ?_
          rintro e x1 ⟨rfl, hb⟩
          replace HCR := Lib.hid (HCR.out.below hb)
          replace HXA := Lib.hid ((hb.block _ (lt_of_block HXA.out)).trans HXA.out)
          replace HBA := Lib.hid (below_to HBA.out hb)
          clear hb
          by_cases hY0 : Y = 0
          · subst hY0
            obtain ⟨d, hd, ch, ho, ⟨tq, htq, hen⟩, hcl⟩ := HCR.out.2 rfl
            have HD := Lib.hid hd
            obtain ⟨ra, rc, hrv⟩ := own_shape ho
            subst hrv
            have hrcc := own_cap3 ho
            have HRV := Lib.hid (own_ints (l := ch) ho)
            have HOK := Lib.hid (HYK.out rfl).1
            have hpn := pics_in2 (HYK.out rfl).2
            have hn0 := HOK.out.n0
            have hn8 := HOK.out.n8
            obtain ⟨N, rfl⟩ : ∃ N : Nat, n = (N : Int) := ⟨n.toNat, by omega⟩
            obtain ⟨P, rfl⟩ : ∃ P : Nat, p = (P : Int) := ⟨p.toNat, by omega⟩
            have hPN : P < N := by omega
            have hPI : (P : Int) < N := by omega
            clear ho hd HCR
            have c0 := cell_of_row x1 w.heap.size 0 _ _ _ HXA.out
            have c1 := cell_of_row x1 w.heap.size 1 _ _ _ HXA.out
            simp only [List.getElem?_toArray, List.getElem?_cons_zero, List.getElem?_cons_succ] at c0 c1
            have lc := lt_of_block HXA.out
            go_wp2_with fail
            clear c0 c1 lc
            have hrt := HRC.out HOK.out ch ra rc (by omega) hrcc (by omega) x1 HBA.out HRV.out
            rw [htq] at hrt
            refine hrt.mono ?_
            rintro e x2 ⟨⟨lo2, hi2, rfl, hIs⟩, hb⟩
            replace HXA := Lib.hid ((hb.block _ (lt_of_block HXA.out)).trans HXA.out)
            replace HBA := Lib.hid (below_to HBA.out hb)
            replace HRV := Lib.hid ((HRV.out.same (.below (Nat.le_refl _) hb)).up hb.size)
            clear hb hrt
            obtain ⟨he1, he2⟩ := hIs.1 tq rfl
            subst he1 he2
            clear hIs
            have c0 := cell_of_row x2 w.heap.size 0 _ _ _ HXA.out
            have c1 := cell_of_row x2 w.heap.size 1 _ _ _ HXA.out
            simp only [List.getElem?_toArray, List.getElem?_cons_zero, List.getElem?_cons_succ] at c0 c1
            have lc := lt_of_block HXA.out
            go_wp2_with fail
            clear c0 c1 lc
            have hbx := box_below x2 (.cells #[.int .i64 tq.lo, .int .i64 tq.hi] 43)
            have hnx := heap_alloc_new x2 (.cells #[.int .i64 tq.lo, .int .i64 tq.hi] 43)
            replace HXA := Lib.hid ((hbx.block _ (lt_of_block HXA.out)).trans HXA.out)
            replace HBA := Lib.hid (below_to HBA.out hbx)
            replace HRV := Lib.hid ((HRV.out.same (.below (Nat.le_refl _) hbx)).up hbx.size)
            have BY := Lib.hid hnx
            clear hbx hnx
            generalize World.alloc x2 _ = u51 at *
            generalize x2.heap.size = bY at *
            refine (HRG0.out N rfl HOK.out u51 HBA.out).mono ?_
            rintro e x3 ⟨hg, hb⟩
            replace HXA := Lib.hid ((hb.block _ (lt_of_block HXA.out)).trans HXA.out)
            replace HBA := Lib.hid (below_to HBA.out hb)
            replace HRV := Lib.hid ((HRV.out.same (.below (Nat.le_refl _) hb)).up hb.size)
            replace BY := Lib.hid ((hb.block _ (lt_of_block BY.out)).trans BY.out)
            clear hb
            rcases hg with ⟨d', r4, hd, rfl, ho⟩ | ⟨hd, rfl⟩
            rotate_left
            · rw [HD.out] at hd
              cases hd
            rw [HD.out] at hd
            cases hd
            have HGR := Lib.hid (own_rgs (l := gradesL d N) (by rw [grades_len]; exact ho))
            obtain ⟨zb, zo, zc, hzv, -, z0, z1⟩ := grs_get3 HGR.out hPN
            subst hzv
            have zl : zb < x3.heap.size := by have := z0; exact block_lt_of_cell this
            clear ho HGR
            have hq8 : decide ((ch.length : Int) ≤ 8) = true := decide_eq_true (by omega)
            cases hi with
            | false =>
              have hen2 : tq.lo = -d (P + 1) 0 := hen.trans (end_nat3 d P).1
              generalize -d (P + 1) 0 = EX at *
              have by0 := cell_of_row x3 bY 0 _ _ _ BY.out
              simp only [List.getElem?_toArray, List.getElem?_cons_zero, List.getElem?_cons_succ] at by0
              rw [hen2] at by0
              have hee : (EX == EX) = true := beq_self_eq_true EX
              have HC : Hid (∀ w', Below x3.heap.size x3 w' → w'.cell? ⟨bY, 0, none⟩ = some (.int .i64 EX) ∧ w'.cell? ⟨zb, zo + P * 2, none⟩ = some (.int .i64 EX) ∧ bY < w'.heap.size ∧ zb < w'.heap.size ∧ True) := Lib.hid fun w' hS => ⟨(hS.cell (p := ⟨bY, 0, none⟩) (lt_of_block BY.out)).trans by0, (hS.cell (p := ⟨zb, zo + P * 2, none⟩) zl).trans z0, Nat.lt_of_lt_of_le (lt_of_block BY.out) hS.size, Nat.lt_of_lt_of_le zl hS.size, trivial⟩
              clear by0 hen hen2 z0 z1
              go_wp2_with fail
              refine wp_region_noPanic ?_
              refine wp_region_acts (fun w' => Below x3.heap.size x3 w') (fun _ _ h hb => below_to h hb) (below_drawn _) (by decide +kernel) (fun _ _ _ _ _ h => h)
                [.take 0, .take 1, .take 2, .take 3, .take 4, .take 5, .take 6, .take 7, .take 8, .take 9, .take 10, .take 11, .take 12, .take 13, .take 14, .take 15, .take 16, .take 17, .take 18, .take 19, .take 20, .take 21, .take 22, .take 23, .take 24, .take 25, .take 26, .take 27, .take 28, .take 29, .take 30, .take 31, .take 32, .take 33, .take 34, .take 35, .take 36, .take 37, .call 38, .take 39] [40] (by decide +kernel) ?_
              iterate 13
                (refine GWalk.takes rfl rfl ?_; apply Exists.intro; refine ⟨fun w' hS => ?_, ?_⟩; (obtain ⟨z1, z2, z3, z4, z5⟩ := HC.out w' hS; clear hS; go_simp; with_reducible rfl); simp only [List.getElem_toArray, List.getElem_cons_succ, List.getElem_cons_zero, Act.put, List.setIfInBounds_toArray, List.set_cons_zero, List.set_cons_succ])
              iterate 8
                (refine ⟨_, undef, rfl, .inr ⟨rfl, rfl⟩, ?_⟩; simp only [List.getElem_toArray, List.getElem_cons_succ, List.getElem_cons_zero, Act.put, List.setIfInBounds_toArray, List.set_cons_zero, List.set_cons_succ])
              iterate 17
                (refine GWalk.takes rfl rfl ?_; apply Exists.intro; refine ⟨fun w' hS => ?_, ?_⟩; (obtain ⟨z1, z2, z3, z4, z5⟩ := HC.out w' hS; clear hS; go_simp; with_reducible rfl); simp only [List.getElem_toArray, List.getElem_cons_succ, List.getElem_cons_zero, Act.put, List.setIfInBounds_toArray, List.set_cons_zero, List.set_cons_succ])
              refine GWalk.calls rfl rfl ?_; apply Exists.intro; apply Exists.intro; refine ⟨fun w' hS => ?_, fun v1 hb hS hO => ?_⟩; (clear hS; go_simp; exact ⟨rfl, rfl⟩)
              refine (awake_any v1).mono ?_
              rintro e v2 ⟨rfl, hb2⟩
              refine ⟨_, rfl, hb2, below_to hS hb2, ?_⟩
              simp only [List.getElem_toArray, List.getElem_cons_succ, List.getElem_cons_zero, Act.put, List.setIfInBounds_toArray, List.set_cons_zero, List.set_cons_succ]
              clear hb hO hS hb2
              iterate 1
                (refine GWalk.takes rfl rfl ?_; apply Exists.intro; refine ⟨fun w' hS => ?_, ?_⟩; (clear hS; go_simp; with_reducible rfl); simp only [List.getElem_toArray, List.getElem_cons_succ, List.getElem_cons_zero, Act.put, List.setIfInBounds_toArray, List.set_cons_zero, List.set_cons_succ])
              refine GWalk.fin fun v5 hb5 hS5 => ?_
              refine Tail.value rfl rfl (by go_simp; with_reducible rfl) (Tail.done (NoPanic.normal ?_))
              simp only [List.getElem_toArray, List.getElem_cons_succ, List.getElem_cons_zero, Act.put, List.setIfInBounds_toArray, List.set_cons_zero, List.set_cons_succ]
              have HBF := Lib.hid (below_to HBA.out hS5)
              clear hb5 hS5
              go_wp2
              go_ret
              exact ⟨rfl, HBF.out⟩
            | true =>
              have hen2 : tq.hi = d 0 (P + 1) := hen.trans (end_nat3 d P).2
              generalize d 0 (P + 1) = EX at *
              have by0 := cell_of_row x3 bY 1 _ _ _ BY.out
              simp only [List.getElem?_toArray, List.getElem?_cons_zero, List.getElem?_cons_succ] at by0
              rw [hen2] at by0
              have hee : (EX == EX) = true := beq_self_eq_true EX
              have HC : Hid (∀ w', Below x3.heap.size x3 w' → w'.cell? ⟨bY, 1, none⟩ = some (.int .i64 EX) ∧ w'.cell? ⟨zb, zo + P * 2 + 1, none⟩ = some (.int .i64 EX) ∧ bY < w'.heap.size ∧ zb < w'.heap.size ∧ True) := Lib.hid fun w' hS => ⟨(hS.cell (p := ⟨bY, 1, none⟩) (lt_of_block BY.out)).trans by0, (hS.cell (p := ⟨zb, zo + P * 2 + 1, none⟩) zl).trans z1, Nat.lt_of_lt_of_le (lt_of_block BY.out) hS.size, Nat.lt_of_lt_of_le zl hS.size, trivial⟩
              clear by0 hen hen2 z0 z1
              go_wp2_with fail
              refine wp_region_noPanic ?_
              refine wp_region_acts (fun w' => Below x3.heap.size x3 w') (fun _ _ h hb => below_to h hb) (below_drawn _) (by decide +kernel) (fun _ _ _ _ _ h => h)
                [.take 0, .take 1, .take 2, .take 3, .take 4, .take 5, .take 6, .take 7, .take 8, .take 9, .take 10, .take 11, .take 12, .take 13, .take 14, .take 15, .take 16, .take 17, .take 18, .take 19, .take 20, .take 21, .take 22, .take 23, .take 24, .take 25, .take 26, .take 27, .take 28, .take 29, .take 30, .take 31, .take 32, .take 33, .take 34, .take 35, .take 36, .take 37, .call 38, .take 39] [40] (by decide +kernel) ?_
              iterate 23
                (refine GWalk.takes rfl rfl ?_; apply Exists.intro; refine ⟨fun w' hS => ?_, ?_⟩; (obtain ⟨z1, z2, z3, z4, z5⟩ := HC.out w' hS; clear hS; go_simp; with_reducible rfl); simp only [List.getElem_toArray, List.getElem_cons_succ, List.getElem_cons_zero, Act.put, List.setIfInBounds_toArray, List.set_cons_zero, List.set_cons_succ])
              iterate 12
                (refine ⟨_, undef, rfl, .inr ⟨rfl, rfl⟩, ?_⟩; simp only [List.getElem_toArray, List.getElem_cons_succ, List.getElem_cons_zero, Act.put, List.setIfInBounds_toArray, List.set_cons_zero, List.set_cons_succ])
              iterate 3
                (refine GWalk.takes rfl rfl ?_; apply Exists.intro; refine ⟨fun w' hS => ?_, ?_⟩; (obtain ⟨z1, z2, z3, z4, z5⟩ := HC.out w' hS; clear hS; go_simp; with_reducible rfl); simp only [List.getElem_toArray, List.getElem_cons_succ, List.getElem_cons_zero, Act.put, List.setIfInBounds_toArray, List.set_cons_zero, List.set_cons_succ])
              refine GWalk.calls rfl rfl ?_; apply Exists.intro; apply Exists.intro; refine ⟨fun w' hS => ?_, fun v1 hb hS hO => ?_⟩; (clear hS; go_simp; exact ⟨rfl, rfl⟩)
              refine (awake_any v1).mono ?_
              rintro e v2 ⟨rfl, hb2⟩
              refine ⟨_, rfl, hb2, below_to hS hb2, ?_⟩
              simp only [List.getElem_toArray, List.getElem_cons_succ, List.getElem_cons_zero, Act.put, List.setIfInBounds_toArray, List.set_cons_zero, List.set_cons_succ]
              clear hb hO hS hb2
              iterate 1
                (refine GWalk.takes rfl rfl ?_; apply Exists.intro; refine ⟨fun w' hS => ?_, ?_⟩; (clear hS; go_simp; with_reducible rfl); simp only [List.getElem_toArray, List.getElem_cons_succ, List.getElem_cons_zero, Act.put, List.setIfInBounds_toArray, List.set_cons_zero, List.set_cons_succ])
              refine GWalk.fin fun v5 hb5 hS5 => ?_
              refine Tail.value rfl rfl (by go_simp; with_reducible rfl) (Tail.done (NoPanic.normal ?_))
              simp only [List.getElem_toArray, List.getElem_cons_succ, List.getElem_cons_zero, Act.put, List.setIfInBounds_toArray, List.set_cons_zero, List.set_cons_succ]
              have HBF := Lib.hid (below_to HBA.out hS5)
              clear hb5 hS5
              go_wp2
              go_ret
              exact ⟨rfl, HBF.out⟩
          · obtain rfl := HCR.out.1 hY0
            have hy1 : (Y != 0) = true := by simp [hY0]
            have hy2 : (Y == Y) = true := beq_self_eq_true Y
            clear hY0 HCR
            go_wp2_with fail
            refine (awake_any x1).mono ?_
            rintro e v9 ⟨rfl, hb⟩
            have HBF := Lib.hid (below_to HBA.out hb)
            clear hb
            go_wp2
            go_ret
            exact ⟨rfl, HBF.out⟩
        | true =>
          have hE := tell_in (xs := xs) HF0.out hpp
          have hp0 := (pics_in2 hpp).1
          have HOK0 := Lib.hid (fault_ok HF0.out)
          clear hpp hwn hn0 hn8 HF0
          by_cases h20 : 20 < xs.length
          · have hz3 : decide ((20 : Int) < xs.length) = true := decide_eq_true (by omega)
            rw [if_pos h20] at hE
            obtain ⟨rfl, rfl⟩ := HT2.out (by rw [hE]; decide)
            rw [hE]
            clear hE h20 hp0
            go_wp2_with fail
            have hbx := box_below u9 (.cells #[.int .i64 0, .int .i64 0] 43)
            have hnx := heap_alloc_new u9 (.cells #[.int .i64 0, .int .i64 0] 43)
            replace HCR := Lib.hid (HCR.out.below hbx)
            replace HXA := Lib.hid ((hbx.block _ (lt_of_block HXA.out)).trans HXA.out)
            replace HBA := Lib.hid (below_to HBA.out hbx)
            replace BT := Lib.hid ((hbx.block _ (lt_of_block BT.out)).trans BT.out)
            have BX := Lib.hid hnx
            clear hbx hnx
            generalize World.alloc u9 _ = u10 at *
            generalize u9.heap.size = bX at *
            have HC : Hid (∀ w', Below u10.heap.size u10 w' → w'.cell? ⟨bT, 0, none⟩ = some (.int .i64 (0)) ∧ w'.cell? ⟨bT, 1, none⟩ = some (.int .i64 (0)) ∧ w'.cell? ⟨bX, 0, none⟩ = some (.int .i64 (0)) ∧ w'.cell? ⟨bX, 1, none⟩ = some (.int .i64 (0)) ∧ bT < w'.heap.size) := Lib.hid fun w' hS => by
              have h1 := (hS.block _ (lt_of_block BT.out)).trans BT.out
              have h2 := (hS.block _ (lt_of_block BX.out)).trans BX.out
              exact ⟨cell_of_row w' _ 0 _ _ _ h1, cell_of_row w' _ 1 _ _ _ h1, cell_of_row w' _ 0 _ _ _ h2, cell_of_row w' _ 1 _ _ _ h2, lt_of_block h1⟩
            have q2 := fun w => neqr41 (0) (0) w
            refine wp_region_noPanic ?_
            refine wp_region_acts (fun w' => Below u10.heap.size u10 w') (fun _ _ h hb => below_to h hb) (below_drawn _) (by decide +kernel) (fun _ _ _ _ _ h => h)
              [.take 0, .take 1, .take 2, .take 3, .take 4, .take 5, .call 6, .take 7, .take 8] [] (by decide +kernel) ?_
            iterate 6
              (refine GWalk.takes rfl rfl ?_; apply Exists.intro; refine ⟨fun w' hS => ?_, ?_⟩; (obtain ⟨z1, z2, z3, z4, z5⟩ := HC.out w' hS; clear hS; go_simp; with_reducible rfl); simp only [List.getElem_toArray, List.getElem_cons_succ, List.getElem_cons_zero, Act.put, List.setIfInBounds_toArray, List.set_cons_zero, List.set_cons_succ])
            refine GWalk.calls rfl rfl ?_; apply Exists.intro; apply Exists.intro; refine ⟨fun w' hS => ?_, fun v1 hb hS hO => ?_⟩; (clear hS; go_simp; exact ⟨rfl, rfl⟩)
            refine (to_any (0) (0) v1).mono ?_
            rintro e v2 ⟨rfl, hb2⟩
            refine ⟨_, rfl, hb2, below_to hS hb2, ?_⟩
            simp only [List.getElem_toArray, List.getElem_cons_succ, List.getElem_cons_zero, Act.put, List.setIfInBounds_toArray, List.set_cons_zero, List.set_cons_succ]
            clear hb hO hS hb2
            iterate 2
              (refine GWalk.takes rfl rfl ?_; apply Exists.intro; refine ⟨fun w' hS => ?_, ?_⟩; (obtain ⟨z1, z2, z3, z4, z5⟩ := HC.out w' hS; clear hS; go_simp; with_reducible rfl); simp only [List.getElem_toArray, List.getElem_cons_succ, List.getElem_cons_zero, Act.put, List.setIfInBounds_toArray, List.set_cons_zero, List.set_cons_succ])
            refine GWalk.fin fun x0 hb5 hb => ?_
            clear hb5 HC
            replace HCR := Lib.hid (HCR.out.below hb)
            replace HXA := Lib.hid ((hb.block _ (lt_of_block HXA.out)).trans HXA.out)
            replace HBA := Lib.hid (below_to HBA.out hb)
            replace BT := Lib.hid ((hb.block _ (lt_of_block BT.out)).trans BT.out)
            replace BX := Lib.hid ((hb.block _ (lt_of_block BX.out)).trans BX.out)
            clear hb
            clear BX
            clear BT
            refine Tail.done (NoPanic.normal ?_)
            clear q2
            have c0 := cell_of_row x0 w.heap.size 0 _ _ _ HXA.out
            have c1 := cell_of_row x0 w.heap.size 1 _ _ _ HXA.out
            simp only [List.getElem?_toArray, List.getElem?_cons_zero, List.getElem?_cons_succ] at c0 c1
            have lc := lt_of_block HXA.out
            go_wp2_with fail
            clear c0 c1 lc
            refine (HAS.out x0 HBA.out).mono ?_
            rintro e x1 ⟨rfl, hb⟩
            replace HCR := Lib.hid (HCR.out.below hb)
            replace HXA := Lib.hid ((hb.block _ (lt_of_block HXA.out)).trans HXA.out)
            replace HBA := Lib.hid (below_to HBA.out hb)
            clear hb
            by_cases hY0 : Y = 0
            · subst hY0
              obtain ⟨d, hd, ch, ho, ⟨tq, htq, hen⟩, hcl⟩ := HCR.out.2 rfl
              have HD := Lib.hid hd
              obtain ⟨ra, rc, hrv⟩ := own_shape ho
              subst hrv
              have hrcc := own_cap3 ho
              have HRV := Lib.hid (own_ints (l := ch) ho)
              have HOK := Lib.hid (HYK.out rfl).1
              have hpn := pics_in2 (HYK.out rfl).2
              have hn0 := HOK.out.n0
              have hn8 := HOK.out.n8
              obtain ⟨N, rfl⟩ : ∃ N : Nat, n = (N : Int) := ⟨n.toNat, by omega⟩
              obtain ⟨P, rfl⟩ : ∃ P : Nat, p = (P : Int) := ⟨p.toNat, by omega⟩
              have hPN : P < N := by omega
              have hPI : (P : Int) < N := by omega
              clear ho hd HCR
              have c0 := cell_of_row x1 w.heap.size 0 _ _ _ HXA.out
              have c1 := cell_of_row x1 w.heap.size 1 _ _ _ HXA.out
              simp only [List.getElem?_toArray, List.getElem?_cons_zero, List.getElem?_cons_succ] at c0 c1
              have lc := lt_of_block HXA.out
              go_wp2_with fail
              clear c0 c1 lc
              have hrt := HRC.out HOK.out ch ra rc (by omega) hrcc (by omega) x1 HBA.out HRV.out
              rw [htq] at hrt
              refine hrt.mono ?_
              rintro e x2 ⟨⟨lo2, hi2, rfl, hIs⟩, hb⟩
              replace HXA := Lib.hid ((hb.block _ (lt_of_block HXA.out)).trans HXA.out)
              replace HBA := Lib.hid (below_to HBA.out hb)
              replace HRV := Lib.hid ((HRV.out.same (.below (Nat.le_refl _) hb)).up hb.size)
              clear hb hrt
              obtain ⟨he1, he2⟩ := hIs.1 tq rfl
              subst he1 he2
              clear hIs
              have c0 := cell_of_row x2 w.heap.size 0 _ _ _ HXA.out
              have c1 := cell_of_row x2 w.heap.size 1 _ _ _ HXA.out
              simp only [List.getElem?_toArray, List.getElem?_cons_zero, List.getElem?_cons_succ] at c0 c1
              have lc := lt_of_block HXA.out
              go_wp2_with fail
              clear c0 c1 lc
              have hbx := box_below x2 (.cells #[.int .i64 tq.lo, .int .i64 tq.hi] 43)
              have hnx := heap_alloc_new x2 (.cells #[.int .i64 tq.lo, .int .i64 tq.hi] 43)
              replace HXA := Lib.hid ((hbx.block _ (lt_of_block HXA.out)).trans HXA.out)
              replace HBA := Lib.hid (below_to HBA.out hbx)
              replace HRV := Lib.hid ((HRV.out.same (.below (Nat.le_refl _) hbx)).up hbx.size)
              have BY := Lib.hid hnx
              clear hbx hnx
              generalize World.alloc x2 _ = u51 at *
              generalize x2.heap.size = bY at *
              refine (HRG0.out N rfl HOK.out u51 HBA.out).mono ?_
              rintro e x3 ⟨hg, hb⟩
              replace HXA := Lib.hid ((hb.block _ (lt_of_block HXA.out)).trans HXA.out)
              replace HBA := Lib.hid (below_to HBA.out hb)
              replace HRV := Lib.hid ((HRV.out.same (.below (Nat.le_refl _) hb)).up hb.size)
              replace BY := Lib.hid ((hb.block _ (lt_of_block BY.out)).trans BY.out)
              clear hb
              rcases hg with ⟨d', r4, hd, rfl, ho⟩ | ⟨hd, rfl⟩
              rotate_left
              · rw [HD.out] at hd
                cases hd
              rw [HD.out] at hd
              cases hd
              have HGR := Lib.hid (own_rgs (l := gradesL d N) (by rw [grades_len]; exact ho))
              obtain ⟨zb, zo, zc, hzv, -, z0, z1⟩ := grs_get3 HGR.out hPN
              subst hzv
              have zl : zb < x3.heap.size := by have := z0; exact block_lt_of_cell this
              clear ho HGR
              have hq8 : decide ((ch.length : Int) ≤ 8) = true := decide_eq_true (by omega)
              cases hi with
              | false =>
                have hen2 : tq.lo = -d (P + 1) 0 := hen.trans (end_nat3 d P).1
                generalize -d (P + 1) 0 = EX at *
                have by0 := cell_of_row x3 bY 0 _ _ _ BY.out
                simp only [List.getElem?_toArray, List.getElem?_cons_zero, List.getElem?_cons_succ] at by0
                rw [hen2] at by0
                have hee : (EX == EX) = true := beq_self_eq_true EX
                have HC : Hid (∀ w', Below x3.heap.size x3 w' → w'.cell? ⟨bY, 0, none⟩ = some (.int .i64 EX) ∧ w'.cell? ⟨zb, zo + P * 2, none⟩ = some (.int .i64 EX) ∧ bY < w'.heap.size ∧ zb < w'.heap.size ∧ True) := Lib.hid fun w' hS => ⟨(hS.cell (p := ⟨bY, 0, none⟩) (lt_of_block BY.out)).trans by0, (hS.cell (p := ⟨zb, zo + P * 2, none⟩) zl).trans z0, Nat.lt_of_lt_of_le (lt_of_block BY.out) hS.size, Nat.lt_of_lt_of_le zl hS.size, trivial⟩
                clear by0 hen hen2 z0 z1
                go_wp2_with fail
                refine wp_region_noPanic ?_
                refine wp_region_acts (fun w' => Below x3.heap.size x3 w') (fun _ _ h hb => below_to h hb) (below_drawn _) (by decide +kernel) (fun _ _ _ _ _ h => h)
                  [.take 0, .take 1, .take 2, .take 3, .take 4, .take 5, .take 6, .take 7, .take 8, .take 9, .take 10, .take 11, .take 12, .take 13, .take 14, .take 15, .take 16, .take 17, .take 18, .take 19, .take 20, .take 21, .take 22, .take 23, .take 24, .take 25, .take 26, .take 27, .take 28, .take 29, .take 30, .take 31, .take 32, .take 33, .take 34, .take 35, .take 36, .take 37, .call 38, .take 39] [40] (by decide +kernel) ?_
                iterate 13
                  (refine GWalk.takes rfl rfl ?_; apply Exists.intro; refine ⟨fun w' hS => ?_, ?_⟩; (obtain ⟨z1, z2, z3, z4, z5⟩ := HC.out w' hS; clear hS; go_simp; with_reducible rfl); simp only [List.getElem_toArray, List.getElem_cons_succ, List.getElem_cons_zero, Act.put, List.setIfInBounds_toArray, List.set_cons_zero, List.set_cons_succ])
                iterate 8
                  (refine ⟨_, undef, rfl, .inr ⟨rfl, rfl⟩, ?_⟩; simp only [List.getElem_toArray, List.getElem_cons_succ, List.getElem_cons_zero, Act.put, List.setIfInBounds_toArray, List.set_cons_zero, List.set_cons_succ])
                iterate 17
                  (refine GWalk.takes rfl rfl ?_; apply Exists.intro; refine ⟨fun w' hS => ?_, ?_⟩; (obtain ⟨z1, z2, z3, z4, z5⟩ := HC.out w' hS; clear hS; go_simp; with_reducible rfl); simp only [List.getElem_toArray, List.getElem_cons_succ, List.getElem_cons_zero, Act.put, List.setIfInBounds_toArray, List.set_cons_zero, List.set_cons_succ])
                refine GWalk.calls rfl rfl ?_; apply Exists.intro; apply Exists.intro; refine ⟨fun w' hS => ?_, fun v1 hb hS hO => ?_⟩; (clear hS; go_simp; exact ⟨rfl, rfl⟩)
                refine (awake_any v1).mono ?_
                rintro e v2 ⟨rfl, hb2⟩
                refine ⟨_, rfl, hb2, below_to hS hb2, ?_⟩
                simp only [List.getElem_toArray, List.getElem_cons_succ, List.getElem_cons_zero, Act.put, List.setIfInBounds_toArray, List.set_cons_zero, List.set_cons_succ]
                clear hb hO hS hb2
                iterate 1
                  (refine GWalk.takes rfl rfl ?_; apply Exists.intro; refine ⟨fun w' hS => ?_, ?_⟩; (clear hS; go_simp; with_reducible rfl); simp only [List.getElem_toArray, List.getElem_cons_succ, List.getElem_cons_zero, Act.put, List.setIfInBounds_toArray, List.set_cons_zero, List.set_cons_succ])
                refine GWalk.fin fun v5 hb5 hS5 => ?_
                refine Tail.value rfl rfl (by go_simp; with_reducible rfl) (Tail.done (NoPanic.normal ?_))
                simp only [List.getElem_toArray, List.getElem_cons_succ, List.getElem_cons_zero, Act.put, List.setIfInBounds_toArray, List.set_cons_zero, List.set_cons_succ]
                have HBF := Lib.hid (below_to HBA.out hS5)
                clear hb5 hS5
                go_wp2
                go_ret
                exact ⟨rfl, HBF.out⟩
              | true =>
                have hen2 : tq.hi = d 0 (P + 1) := hen.trans (end_nat3 d P).2
                generalize d 0 (P + 1) = EX at *
                have by0 := cell_of_row x3 bY 1 _ _ _ BY.out
                simp only [List.getElem?_toArray, List.getElem?_cons_zero, List.getElem?_cons_succ] at by0
                rw [hen2] at by0
                have hee : (EX == EX) = true := beq_self_eq_true EX
                have HC : Hid (∀ w', Below x3.heap.size x3 w' → w'.cell? ⟨bY, 1, none⟩ = some (.int .i64 EX) ∧ w'.cell? ⟨zb, zo + P * 2 + 1, none⟩ = some (.int .i64 EX) ∧ bY < w'.heap.size ∧ zb < w'.heap.size ∧ True) := Lib.hid fun w' hS => ⟨(hS.cell (p := ⟨bY, 1, none⟩) (lt_of_block BY.out)).trans by0, (hS.cell (p := ⟨zb, zo + P * 2 + 1, none⟩) zl).trans z1, Nat.lt_of_lt_of_le (lt_of_block BY.out) hS.size, Nat.lt_of_lt_of_le zl hS.size, trivial⟩
                clear by0 hen hen2 z0 z1
                go_wp2_with fail
                refine wp_region_noPanic ?_
                refine wp_region_acts (fun w' => Below x3.heap.size x3 w') (fun _ _ h hb => below_to h hb) (below_drawn _) (by decide +kernel) (fun _ _ _ _ _ h => h)
                  [.take 0, .take 1, .take 2, .take 3, .take 4, .take 5, .take 6, .take 7, .take 8, .take 9, .take 10, .take 11, .take 12, .take 13, .take 14, .take 15, .take 16, .take 17, .take 18, .take 19, .take 20, .take 21, .take 22, .take 23, .take 24, .take 25, .take 26, .take 27, .take 28, .take 29, .take 30, .take 31, .take 32, .take 33, .take 34, .take 35, .take 36, .take 37, .call 38, .take 39] [40] (by decide +kernel) ?_
                iterate 23
                  (refine GWalk.takes rfl rfl ?_; apply Exists.intro; refine ⟨fun w' hS => ?_, ?_⟩; (obtain ⟨z1, z2, z3, z4, z5⟩ := HC.out w' hS; clear hS; go_simp; with_reducible rfl); simp only [List.getElem_toArray, List.getElem_cons_succ, List.getElem_cons_zero, Act.put, List.setIfInBounds_toArray, List.set_cons_zero, List.set_cons_succ])
                iterate 12
                  (refine ⟨_, undef, rfl, .inr ⟨rfl, rfl⟩, ?_⟩; simp only [List.getElem_toArray, List.getElem_cons_succ, List.getElem_cons_zero, Act.put, List.setIfInBounds_toArray, List.set_cons_zero, List.set_cons_succ])
                iterate 3
                  (refine GWalk.takes rfl rfl ?_; apply Exists.intro; refine ⟨fun w' hS => ?_, ?_⟩; (obtain ⟨z1, z2, z3, z4, z5⟩ := HC.out w' hS; clear hS; go_simp; with_reducible rfl); simp only [List.getElem_toArray, List.getElem_cons_succ, List.getElem_cons_zero, Act.put, List.setIfInBounds_toArray, List.set_cons_zero, List.set_cons_succ])
                refine GWalk.calls rfl rfl ?_; apply Exists.intro; apply Exists.intro; refine ⟨fun w' hS => ?_, fun v1 hb hS hO => ?_⟩; (clear hS; go_simp; exact ⟨rfl, rfl⟩)
                refine (awake_any v1).mono ?_
                rintro e v2 ⟨rfl, hb2⟩
                refine ⟨_, rfl, hb2, below_to hS hb2, ?_⟩
                simp only [List.getElem_toArray, List.getElem_cons_succ, List.getElem_cons_zero, Act.put, List.setIfInBounds_toArray, List.set_cons_zero, List.set_cons_succ]
                clear hb hO hS hb2
                iterate 1
                  (refine GWalk.takes rfl rfl ?_; apply Exists.intro; refine ⟨fun w' hS => ?_, ?_⟩; (clear hS; go_simp; with_reducible rfl); simp only [List.getElem_toArray, List.getElem_cons_succ, List.getElem_cons_zero, Act.put, List.setIfInBounds_toArray, List.set_cons_zero, List.set_cons_succ])
                refine GWalk.fin fun v5 hb5 hS5 => ?_
                refine Tail.value rfl rfl (by go_simp; with_reducible rfl) (Tail.done (NoPanic.normal ?_))
                simp only [List.getElem_toArray, List.getElem_cons_succ, List.getElem_cons_zero, Act.put, List.setIfInBounds_toArray, List.set_cons_zero, List.set_cons_succ]
                have HBF := Lib.hid (below_to HBA.out hS5)
                clear hb5 hS5
                go_wp2
                go_ret
                exact ⟨rfl, HBF.out⟩
            · obtain rfl := HCR.out.1 hY0
              have hy1 : (Y != 0) = true := by simp [hY0]
              have hy2 : (Y == Y) = true := beq_self_eq_true Y
              clear hY0 HCR
              go_wp2_with fail
              refine (awake_any x1).mono ?_
              rintro e v9 ⟨rfl, hb⟩
              have HBF := Lib.hid (below_to HBA.out hb)
              clear hb
              go_wp2
              go_ret
              exact ⟨rfl, HBF.out⟩
          · have hz3 : decide ((20 : Int) < xs.length) = false := decide_eq_false (by omega)
            rw [if_neg h20] at hE
            have HEE := Lib.hid hE
            clear hE
            have hTX : bT < u9.heap.size := lt_of_block BT.out
            have hAX : w.heap.size < u9.heap.size := lt_of_block HXA.out
            have c0 := cell_of_row u9 w.heap.size 0 _ _ _ HXA.out
            have c1 := cell_of_row u9 w.heap.size 1 _ _ _ HXA.out
            simp only [List.getElem?_toArray, List.getElem?_cons_zero, List.getElem?_cons_succ] at c0 c1
            have lc := lt_of_block HXA.out
            go_wp2_with fail
            clear c0 c1 lc
            have hbx := box_below u9 (.cells #[.int .i64 0, .int .i64 0] 43)
            have hnx := heap_alloc_new u9 (.cells #[.int .i64 0, .int .i64 0] 43)
            replace HCR := Lib.hid (HCR.out.below hbx)
            replace HXA := Lib.hid ((hbx.block _ (lt_of_block HXA.out)).trans HXA.out)
            replace HBA := Lib.hid (below_to HBA.out hbx)
            replace BT := Lib.hid ((hbx.block _ (lt_of_block BT.out)).trans BT.out)
            have BX := Lib.hid hnx
            clear hbx hnx
            generalize World.alloc u9 _ = u10 at *
            generalize u9.heap.size = bX at *
            have hrt := HRT.out HOK0.out HX25.out hp0 u10 HBA.out
            obtain ⟨o2, ho2⟩ : ∃ o2, tellR cs xs.reverse p = o2 := ⟨_, rfl⟩
            have hE := HEE.out
            rw [ho2] at hrt hE HT1
            refine hrt.mono ?_
            rintro e u11 ⟨⟨lo2, hi2, rfl, hIs⟩, hb⟩
            replace HCR := Lib.hid (HCR.out.below hb)
            replace HXA := Lib.hid ((hb.block _ (lt_of_block HXA.out)).trans HXA.out)
            replace HBA := Lib.hid (below_to HBA.out hb)
            replace BT := Lib.hid ((hb.block _ (lt_of_block BT.out)).trans BT.out)
            replace BX := Lib.hid ((hb.block _ (lt_of_block BX.out)).trans BX.out)
            clear hb hrt ho2
            cases o2 with
            | none =>
              have hE2 : tellE n cs p xs = 10 := hE
              obtain ⟨rfl, rfl⟩ := HT2.out (by rw [hE2]; decide)
              rw [hE2]
              clear hE hE2 hp0 hIs h20
              go_wp2_with (first
                | (refine wpList_store43 rfl (.tmp 14) (.tmp 72) rfl bX rfl _ _ (lo2) (hi2) rfl BX.out ?_
                   intro y1 hp2 hg2
                   have JXA := Lib.hid ((hp2.other w.heap.size (by omega)).trans HXA.out)
                   have JBT := Lib.hid ((hp2.other bT (by omega)).trans BT.out)
                   have JBA := Lib.hid (hp2.below HBA.out (by omega))
                   have JCR := Lib.hid (HCR.out.put hp2 BX.out)
                   have JBX := Lib.hid hg2
                   clear hp2 hg2)
                | (refine wpList_store43 rfl (.tmp 14) (.tmp 76) rfl bX rfl _ _ (0) (0) rfl JBX.out ?_
                   intro y2 hp2 hg2
                   have LXA := Lib.hid ((hp2.other w.heap.size (by omega)).trans JXA.out)
                   have LBT := Lib.hid ((hp2.other bT (by omega)).trans JBT.out)
                   have LBA := Lib.hid (hp2.below JBA.out (by omega))
                   have LCR := Lib.hid (JCR.out.put hp2 JBX.out)
                   have LBX := Lib.hid hg2
                   clear hp2 hg2)
                | fail)
              clear JXA JBT JBA JCR JBX
              clear HXA BT HBA HCR BX
              have HXA := LXA
              have BT := LBT
              have HBA := LBA
              have HCR := LCR
              have BX := LBX
              clear LXA LBT LBA LCR LBX
              have HC : Hid (∀ w', Below y2.heap.size y2 w' → w'.cell? ⟨bT, 0, none⟩ = some (.int .i64 (0)) ∧ w'.cell? ⟨bT, 1, none⟩ = some (.int .i64 (0)) ∧ w'.cell? ⟨bX, 0, none⟩ = some (.int .i64 (0)) ∧ w'.cell? ⟨bX, 1, none⟩ = some (.int .i64 (0)) ∧ bT < w'.heap.size) := Lib.hid fun w' hS => by
                have h1 := (hS.block _ (lt_of_block BT.out)).trans BT.out
                have h2 := (hS.block _ (lt_of_block BX.out)).trans BX.out
                exact ⟨cell_of_row w' _ 0 _ _ _ h1, cell_of_row w' _ 1 _ _ _ h1, cell_of_row w' _ 0 _ _ _ h2, cell_of_row w' _ 1 _ _ _ h2, lt_of_block h1⟩
              have q2 := fun w => neqr41 (0) (0) w
              refine wp_region_noPanic ?_
              refine wp_region_acts (fun w' => Below y2.heap.size y2 w') (fun _ _ h hb => below_to h hb) (below_drawn _) (by decide +kernel) (fun _ _ _ _ _ h => h)
                [.take 0, .take 1, .take 2, .take 3, .take 4, .take 5, .call 6, .take 7, .take 8] [] (by decide +kernel) ?_
              iterate 6
                (refine GWalk.takes rfl rfl ?_; apply Exists.intro; refine ⟨fun w' hS => ?_, ?_⟩; (obtain ⟨z1, z2, z3, z4, z5⟩ := HC.out w' hS; clear hS; go_simp; with_reducible rfl); simp only [List.getElem_toArray, List.getElem_cons_succ, List.getElem_cons_zero, Act.put, List.setIfInBounds_toArray, List.set_cons_zero, List.set_cons_succ])
              refine GWalk.calls rfl rfl ?_; apply Exists.intro; apply Exists.intro; refine ⟨fun w' hS => ?_, fun v1 hb hS hO => ?_⟩; (clear hS; go_simp; exact ⟨rfl, rfl⟩)
              refine (to_any (0) (0) v1).mono ?_
              rintro e v2 ⟨rfl, hb2⟩
              refine ⟨_, rfl, hb2, below_to hS hb2, ?_⟩
              simp only [List.getElem_toArray, List.getElem_cons_succ, List.getElem_cons_zero, Act.put, List.setIfInBounds_toArray, List.set_cons_zero, List.set_cons_succ]
              clear hb hO hS hb2
              iterate 2
                (refine GWalk.takes rfl rfl ?_; apply Exists.intro; refine ⟨fun w' hS => ?_, ?_⟩; (obtain ⟨z1, z2, z3, z4, z5⟩ := HC.out w' hS; clear hS; go_simp; with_reducible rfl); simp only [List.getElem_toArray, List.getElem_cons_succ, List.getElem_cons_zero, Act.put, List.setIfInBounds_toArray, List.set_cons_zero, List.set_cons_succ])
              refine GWalk.fin fun x0 hb5 hb => ?_
              clear hb5 HC
              replace HCR := Lib.hid (HCR.out.below hb)
              replace HXA := Lib.hid ((hb.block _ (lt_of_block HXA.out)).trans HXA.out)
              replace HBA := Lib.hid (below_to HBA.out hb)
              replace BT := Lib.hid ((hb.block _ (lt_of_block BT.out)).trans BT.out)
              replace BX := Lib.hid ((hb.block _ (lt_of_block BX.out)).trans BX.out)
              clear hb
              clear BX
              clear BT
              refine Tail.done (NoPanic.normal ?_)
              clear q2
              have c0 := cell_of_row x0 w.heap.size 0 _ _ _ HXA.out
              have c1 := cell_of_row x0 w.heap.size 1 _ _ _ HXA.out
              simp only [List.getElem?_toArray, List.getElem?_cons_zero, List.getElem?_cons_succ] at c0 c1
              have lc := lt_of_block HXA.out
              go_wp2_with fail
              clear c0 c1 lc
              refine (HAS.out x0 HBA.out).mono ?_
              rintro e x1 ⟨rfl, hb⟩
              replace HCR := Lib.hid (HCR.out.below hb)
              replace HXA := Lib.hid ((hb.block _ (lt_of_block HXA.out)).trans HXA.out)
              replace HBA := Lib.hid (below_to HBA.out hb)
              clear hb
              by_cases hY0 : Y = 0
              · subst hY0
                obtain ⟨d, hd, ch, ho, ⟨tq, htq, hen⟩, hcl⟩ := HCR.out.2 rfl
                have HD := Lib.hid hd
                obtain ⟨ra, rc, hrv⟩ := own_shape ho
                subst hrv
                have hrcc := own_cap3 ho
                have HRV := Lib.hid (own_ints (l := ch) ho)
                have HOK := Lib.hid (HYK.out rfl).1
                have hpn := pics_in2 (HYK.out rfl).2
                have hn0 := HOK.out.n0
                have hn8 := HOK.out.n8
                obtain ⟨N, rfl⟩ : ∃ N : Nat, n = (N : Int) := ⟨n.toNat, by omega⟩
                obtain ⟨P, rfl⟩ : ∃ P : Nat, p = (P : Int) := ⟨p.toNat, by omega⟩
                have hPN : P < N := by omega
                have hPI : (P : Int) < N := by omega
                clear ho hd HCR
                have c0 := cell_of_row x1 w.heap.size 0 _ _ _ HXA.out
                have c1 := cell_of_row x1 w.heap.size 1 _ _ _ HXA.out
                simp only [List.getElem?_toArray, List.getElem?_cons_zero, List.getElem?_cons_succ] at c0 c1
                have lc := lt_of_block HXA.out
                go_wp2_with fail
                clear c0 c1 lc
                have hrt := HRC.out HOK.out ch ra rc (by omega) hrcc (by omega) x1 HBA.out HRV.out
                rw [htq] at hrt
                refine hrt.mono ?_
                rintro e x2 ⟨⟨lo2, hi2, rfl, hIs⟩, hb⟩
                replace HXA := Lib.hid ((hb.block _ (lt_of_block HXA.out)).trans HXA.out)
                replace HBA := Lib.hid (below_to HBA.out hb)
                replace HRV := Lib.hid ((HRV.out.same (.below (Nat.le_refl _) hb)).up hb.size)
                clear hb hrt
                obtain ⟨he1, he2⟩ := hIs.1 tq rfl
                subst he1 he2
                clear hIs
                have c0 := cell_of_row x2 w.heap.size 0 _ _ _ HXA.out
                have c1 := cell_of_row x2 w.heap.size 1 _ _ _ HXA.out
                simp only [List.getElem?_toArray, List.getElem?_cons_zero, List.getElem?_cons_succ] at c0 c1
                have lc := lt_of_block HXA.out
                go_wp2_with fail
                clear c0 c1 lc
                have hbx := box_below x2 (.cells #[.int .i64 tq.lo, .int .i64 tq.hi] 43)
                have hnx := heap_alloc_new x2 (.cells #[.int .i64 tq.lo, .int .i64 tq.hi] 43)
                replace HXA := Lib.hid ((hbx.block _ (lt_of_block HXA.out)).trans HXA.out)
                replace HBA := Lib.hid (below_to HBA.out hbx)
                replace HRV := Lib.hid ((HRV.out.same (.below (Nat.le_refl _) hbx)).up hbx.size)
                have BY := Lib.hid hnx
                clear hbx hnx
                generalize World.alloc x2 _ = u51 at *
                generalize x2.heap.size = bY at *
                refine (HRG0.out N rfl HOK.out u51 HBA.out).mono ?_
                rintro e x3 ⟨hg, hb⟩
                replace HXA := Lib.hid ((hb.block _ (lt_of_block HXA.out)).trans HXA.out)
                replace HBA := Lib.hid (below_to HBA.out hb)
                replace HRV := Lib.hid ((HRV.out.same (.below (Nat.le_refl _) hb)).up hb.size)
                replace BY := Lib.hid ((hb.block _ (lt_of_block BY.out)).trans BY.out)
                clear hb
                rcases hg with ⟨d', r4, hd, rfl, ho⟩ | ⟨hd, rfl⟩
                rotate_left
                · rw [HD.out] at hd
                  cases hd
                rw [HD.out] at hd
                cases hd
                have HGR := Lib.hid (own_rgs (l := gradesL d N) (by rw [grades_len]; exact ho))
                obtain ⟨zb, zo, zc, hzv, -, z0, z1⟩ := grs_get3 HGR.out hPN
                subst hzv
                have zl : zb < x3.heap.size := by have := z0; exact block_lt_of_cell this
                clear ho HGR
                have hq8 : decide ((ch.length : Int) ≤ 8) = true := decide_eq_true (by omega)
                cases hi with
                | false =>
                  have hen2 : tq.lo = -d (P + 1) 0 := hen.trans (end_nat3 d P).1
                  generalize -d (P + 1) 0 = EX at *
                  have by0 := cell_of_row x3 bY 0 _ _ _ BY.out
                  simp only [List.getElem?_toArray, List.getElem?_cons_zero, List.getElem?_cons_succ] at by0
                  rw [hen2] at by0
                  have hee : (EX == EX) = true := beq_self_eq_true EX
                  have HC : Hid (∀ w', Below x3.heap.size x3 w' → w'.cell? ⟨bY, 0, none⟩ = some (.int .i64 EX) ∧ w'.cell? ⟨zb, zo + P * 2, none⟩ = some (.int .i64 EX) ∧ bY < w'.heap.size ∧ zb < w'.heap.size ∧ True) := Lib.hid fun w' hS => ⟨(hS.cell (p := ⟨bY, 0, none⟩) (lt_of_block BY.out)).trans by0, (hS.cell (p := ⟨zb, zo + P * 2, none⟩) zl).trans z0, Nat.lt_of_lt_of_le (lt_of_block BY.out) hS.size, Nat.lt_of_lt_of_le zl hS.size, trivial⟩
                  clear by0 hen hen2 z0 z1
                  go_wp2_with fail
                  refine wp_region_noPanic ?_
                  refine wp_region_acts (fun w' => Below x3.heap.size x3 w') (fun _ _ h hb => below_to h hb) (below_drawn _) (by decide +kernel) (fun _ _ _ _ _ h => h)
                    [.take 0, .take 1, .take 2, .take 3, .take 4, .take 5, .take 6, .take 7, .take 8, .take 9, .take 10, .take 11, .take 12, .take 13, .take 14, .take 15, .take 16, .take 17, .take 18, .take 19, .take 20, .take 21, .take 22, .take 23, .take 24, .take 25, .take 26, .take 27, .take 28, .take 29, .take 30, .take 31, .take 32, .take 33, .take 34, .take 35, .take 36, .take 37, .call 38, .take 39] [40] (by decide +kernel) ?_
                  iterate 13
                    (refine GWalk.takes rfl rfl ?_; apply Exists.intro; refine ⟨fun w' hS => ?_, ?_⟩; (obtain ⟨z1, z2, z3, z4, z5⟩ := HC.out w' hS; clear hS; go_simp; with_reducible rfl); simp only [List.getElem_toArray, List.getElem_cons_succ, List.getElem_cons_zero, Act.put, List.setIfInBounds_toArray, List.set_cons_zero, List.set_cons_succ])
                  iterate 8
                    (refine ⟨_, undef, rfl, .inr ⟨rfl, rfl⟩, ?_⟩; simp only [List.getElem_toArray, List.getElem_cons_succ, List.getElem_cons_zero, Act.put, List.setIfInBounds_toArray, List.set_cons_zero, List.set_cons_succ])
                  iterate 17
                    (refine GWalk.takes rfl rfl ?_; apply Exists.intro; refine ⟨fun w' hS => ?_, ?_⟩; (obtain ⟨z1, z2, z3, z4, z5⟩ := HC.out w' hS; clear hS; go_simp; with_reducible rfl); simp only [List.getElem_toArray, List.getElem_cons_succ, List.getElem_cons_zero, Act.put, List.setIfInBounds_toArray, List.set_cons_zero, List.set_cons_succ])
                  refine GWalk.calls rfl rfl ?_; apply Exists.intro; apply Exists.intro; refine ⟨fun w' hS => ?_, fun v1 hb hS hO => ?_⟩; (clear hS; go_simp; exact ⟨rfl, rfl⟩)
                  refine (awake_any v1).mono ?_
                  rintro e v2 ⟨rfl, hb2⟩
                  refine ⟨_, rfl, hb2, below_to hS hb2, ?_⟩
                  simp only [List.getElem_toArray, List.getElem_cons_succ, List.getElem_cons_zero, Act.put, List.setIfInBounds_toArray, List.set_cons_zero, List.set_cons_succ]
                  clear hb hO hS hb2
                  iterate 1
                    (refine GWalk.takes rfl rfl ?_; apply Exists.intro; refine ⟨fun w' hS => ?_, ?_⟩; (clear hS; go_simp; with_reducible rfl); simp only [List.getElem_toArray, List.getElem_cons_succ, List.getElem_cons_zero, Act.put, List.setIfInBounds_toArray, List.set_cons_zero, List.set_cons_succ])
                  refine GWalk.fin fun v5 hb5 hS5 => ?_
                  refine Tail.value rfl rfl (by go_simp; with_reducible rfl) (Tail.done (NoPanic.normal ?_))
                  simp only [List.getElem_toArray, List.getElem_cons_succ, List.getElem_cons_zero, Act.put, List.setIfInBounds_toArray, List.set_cons_zero, List.set_cons_succ]
                  have HBF := Lib.hid (below_to HBA.out hS5)
                  clear hb5 hS5
                  go_wp2
                  go_ret
                  exact ⟨rfl, HBF.out⟩
                | true =>
                  have hen2 : tq.hi = d 0 (P + 1) := hen.trans (end_nat3 d P).2
                  generalize d 0 (P + 1) = EX at *
                  have by0 := cell_of_row x3 bY 1 _ _ _ BY.out
                  simp only [List.getElem?_toArray, List.getElem?_cons_zero, List.getElem?_cons_succ] at by0
                  rw [hen2] at by0
                  have hee : (EX == EX) = true := beq_self_eq_true EX
                  have HC : Hid (∀ w', Below x3.heap.size x3 w' → w'.cell? ⟨bY, 1, none⟩ = some (.int .i64 EX) ∧ w'.cell? ⟨zb, zo + P * 2 + 1, none⟩ = some (.int .i64 EX) ∧ bY < w'.heap.size ∧ zb < w'.heap.size ∧ True) := Lib.hid fun w' hS => ⟨(hS.cell (p := ⟨bY, 1, none⟩) (lt_of_block BY.out)).trans by0, (hS.cell (p := ⟨zb, zo + P * 2 + 1, none⟩) zl).trans z1, Nat.lt_of_lt_of_le (lt_of_block BY.out) hS.size, Nat.lt_of_lt_of_le zl hS.size, trivial⟩
                  clear by0 hen hen2 z0 z1
                  go_wp2_with fail
                  refine wp_region_noPanic ?_
                  refine wp_region_acts (fun w' => Below x3.heap.size x3 w') (fun _ _ h hb => below_to h hb) (below_drawn _) (by decide +kernel) (fun _ _ _ _ _ h => h)
                    [.take 0, .take 1, .take 2, .take 3, .take 4, .take 5, .take 6, .take 7, .take 8, .take 9, .take 10, .take 11, .take 12, .take 13, .take 14, .take 15, .take 16, .take 17, .take 18, .take 19, .take 20, .take 21, .take 22, .take 23, .take 24, .take 25, .take 26, .take 27, .take 28, .take 29, .take 30, .take 31, .take 32, .take 33, .take 34, .take 35, .take 36, .take 37, .call 38, .take 39] [40] (by decide +kernel) ?_
                  iterate 23
                    (refine GWalk.takes rfl rfl ?_; apply Exists.intro; refine ⟨fun w' hS => ?_, ?_⟩; (obtain ⟨z1, z2, z3, z4, z5⟩ := HC.out w' hS; clear hS; go_simp; with_reducible rfl); simp only [List.getElem_toArray, List.getElem_cons_succ, List.getElem_cons_zero, Act.put, List.setIfInBounds_toArray, List.set_cons_zero, List.set_cons_succ])
                  iterate 12
                    (refine ⟨_, undef, rfl, .inr ⟨rfl, rfl⟩, ?_⟩; simp only [List.getElem_toArray, List.getElem_cons_succ, List.getElem_cons_zero, Act.put, List.setIfInBounds_toArray, List.set_cons_zero, List.set_cons_succ])
                  iterate 3
                    (refine GWalk.takes rfl rfl ?_; apply Exists.intro; refine ⟨fun w' hS => ?_, ?_⟩; (obtain ⟨z1, z2, z3, z4, z5⟩ := HC.out w' hS; clear hS; go_simp; with_reducible rfl); simp only [List.getElem_toArray, List.getElem_cons_succ, List.getElem_cons_zero, Act.put, List.setIfInBounds_toArray, List.set_cons_zero, List.set_cons_succ])
                  refine GWalk.calls rfl rfl ?_; apply Exists.intro; apply Exists.intro; refine ⟨fun w' hS => ?_, fun v1 hb hS hO => ?_⟩; (clear hS; go_simp; exact ⟨rfl, rfl⟩)
                  refine (awake_any v1).mono ?_
                  rintro e v2 ⟨rfl, hb2⟩
                  refine ⟨_, rfl, hb2, below_to hS hb2, ?_⟩
                  simp only [List.getElem_toArray, List.getElem_cons_succ, List.getElem_cons_zero, Act.put, List.setIfInBounds_toArray, List.set_cons_zero, List.set_cons_succ]
                  clear hb hO hS hb2
                  iterate 1
                    (refine GWalk.takes rfl rfl ?_; apply Exists.intro; refine ⟨fun w' hS => ?_, ?_⟩; (clear hS; go_simp; with_reducible rfl); simp only [List.getElem_toArray, List.getElem_cons_succ, List.getElem_cons_zero, Act.put, List.setIfInBounds_toArray, List.set_cons_zero, List.set_cons_succ])
                  refine GWalk.fin fun v5 hb5 hS5 => ?_
                  refine Tail.value rfl rfl (by go_simp; with_reducible rfl) (Tail.done (NoPanic.normal ?_))
                  simp only [List.getElem_toArray, List.getElem_cons_succ, List.getElem_cons_zero, Act.put, List.setIfInBounds_toArray, List.set_cons_zero, List.set_cons_succ]
                  have HBF := Lib.hid (below_to HBA.out hS5)
                  clear hb5 hS5
                  go_wp2
                  go_ret
                  exact ⟨rfl, HBF.out⟩
              · obtain rfl := HCR.out.1 hY0
                have hy1 : (Y != 0) = true := by simp [hY0]
                have hy2 : (Y == Y) = true := beq_self_eq_true Y
                clear hY0 HCR
                go_wp2_with fail
                refine (awake_any x1).mono ?_
                rintro e v9 ⟨rfl, hb⟩
                have HBF := Lib.hid (below_to HBA.out hb)
                clear hb
                go_wp2
                go_ret
                exact ⟨rfl, HBF.out⟩
            | some q0 =>
              have hE2 : tellE n cs p xs = 0 := hE
              obtain ⟨hj1, hj2⟩ := hIs.1 q0 rfl
              subst hj1 hj2
              have hj3 := HT1.out hE2
              injection hj3 with hj3
              subst hj3
              rw [hE2]
              clear hE hE2 hp0 hIs h20
              go_wp2_with (first
                | (refine wpList_store43 rfl (.tmp 14) (.tmp 72) rfl bX rfl _ _ (lo) (hj) rfl BX.out ?_
                   intro y1 hp2 hg2
                   have JXA := Lib.hid ((hp2.other w.heap.size (by omega)).trans HXA.out)
                   have JBT := Lib.hid ((hp2.other bT (by omega)).trans BT.out)
                   have JBA := Lib.hid (hp2.below HBA.out (by omega))
                   have JCR := Lib.hid (HCR.out.put hp2 BX.out)
                   have JBX := Lib.hid hg2
                   clear hp2 hg2)
                | fail)
              clear HXA BT HBA HCR BX
              have HXA := JXA
              have BT := JBT
              have HBA := JBA
              have HCR := JCR
              have BX := JBX
              clear JXA JBT JBA JCR JBX
              have HC : Hid (∀ w', Below y1.heap.size y1 w' → w'.cell? ⟨bT, 0, none⟩ = some (.int .i64 (lo)) ∧ w'.cell? ⟨bT, 1, none⟩ = some (.int .i64 (hj)) ∧ w'.cell? ⟨bX, 0, none⟩ = some (.int .i64 (lo)) ∧ w'.cell? ⟨bX, 1, none⟩ = some (.int .i64 (hj)) ∧ bT < w'.heap.size) := Lib.hid fun w' hS => by
                have h1 := (hS.block _ (lt_of_block BT.out)).trans BT.out
                have h2 := (hS.block _ (lt_of_block BX.out)).trans BX.out
                exact ⟨cell_of_row w' _ 0 _ _ _ h1, cell_of_row w' _ 1 _ _ _ h1, cell_of_row w' _ 0 _ _ _ h2, cell_of_row w' _ 1 _ _ _ h2, lt_of_block h1⟩
              have q2 := fun w => neqr41 (lo) (hj) w
              refine wp_region_noPanic ?_
              refine wp_region_acts (fun w' => Below y1.heap.size y1 w') (fun _ _ h hb => below_to h hb) (below_drawn _) (by decide +kernel) (fun _ _ _ _ _ h => h)
                [.take 0, .take 1, .take 2, .take 3, .take 4, .take 5, .call 6, .take 7, .take 8] [] (by decide +kernel) ?_
              iterate 6
                (refine GWalk.takes rfl rfl ?_; apply Exists.intro; refine ⟨fun w' hS => ?_, ?_⟩; (obtain ⟨z1, z2, z3, z4, z5⟩ := HC.out w' hS; clear hS; go_simp; with_reducible rfl); simp only [List.getElem_toArray, List.getElem_cons_succ, List.getElem_cons_zero, Act.put, List.setIfInBounds_toArray, List.set_cons_zero, List.set_cons_succ])
              refine GWalk.calls rfl rfl ?_; apply Exists.intro; apply Exists.intro; refine ⟨fun w' hS => ?_, fun v1 hb hS hO => ?_⟩; (clear hS; go_simp; exact ⟨rfl, rfl⟩)
              refine (to_any (lo) (hj) v1).mono ?_
              rintro e v2 ⟨rfl, hb2⟩
              refine ⟨_, rfl, hb2, below_to hS hb2, ?_⟩
              simp only [List.getElem_toArray, List.getElem_cons_succ, List.getElem_cons_zero, Act.put, List.setIfInBounds_toArray, List.set_cons_zero, List.set_cons_succ]
              clear hb hO hS hb2
              iterate 2
                (refine GWalk.takes rfl rfl ?_; apply Exists.intro; refine ⟨fun w' hS => ?_, ?_⟩; (obtain ⟨z1, z2, z3, z4, z5⟩ := HC.out w' hS; clear hS; go_simp; with_reducible rfl); simp only [List.getElem_toArray, List.getElem_cons_succ, List.getElem_cons_zero, Act.put, List.setIfInBounds_toArray, List.set_cons_zero, List.set_cons_succ])
              refine GWalk.fin fun x0 hb5 hb => ?_
              clear hb5 HC
              replace HCR := Lib.hid (HCR.out.below hb)
              replace HXA := Lib.hid ((hb.block _ (lt_of_block HXA.out)).trans HXA.out)
              replace HBA := Lib.hid (below_to HBA.out hb)
              replace BT := Lib.hid ((hb.block _ (lt_of_block BT.out)).trans BT.out)
              replace BX := Lib.hid ((hb.block _ (lt_of_block BX.out)).trans BX.out)
              clear hb
              clear BX
              clear BT
              refine Tail.done (NoPanic.normal ?_)
              clear q2
              have c0 := cell_of_row x0 w.heap.size 0 _ _ _ HXA.out
              have c1 := cell_of_row x0 w.heap.size 1 _ _ _ HXA.out
              simp only [List.getElem?_toArray, List.getElem?_cons_zero, List.getElem?_cons_succ] at c0 c1
              have lc := lt_of_block HXA.out
              go_wp2_with fail
              clear c0 c1 lc
              refine (HAS.out x0 HBA.out).mono ?_
              rintro e x1 ⟨rfl, hb⟩
              replace HCR := Lib.hid (HCR.out.below hb)
              replace HXA := Lib.hid ((hb.block _ (lt_of_block HXA.out)).trans HXA.out)
              replace HBA := Lib.hid (below_to HBA.out hb)
              clear hb
              by_cases hY0 : Y = 0
              · subst hY0
                obtain ⟨d, hd, ch, ho, ⟨tq, htq, hen⟩, hcl⟩ := HCR.out.2 rfl
                have HD := Lib.hid hd
                obtain ⟨ra, rc, hrv⟩ := own_shape ho
                subst hrv
                have hrcc := own_cap3 ho
                have HRV := Lib.hid (own_ints (l := ch) ho)
                have HOK := Lib.hid (HYK.out rfl).1
                have hpn := pics_in2 (HYK.out rfl).2
                have hn0 := HOK.out.n0
                have hn8 := HOK.out.n8
                obtain ⟨N, rfl⟩ : ∃ N : Nat, n = (N : Int) := ⟨n.toNat, by omega⟩
                obtain ⟨P, rfl⟩ : ∃ P : Nat, p = (P : Int) := ⟨p.toNat, by omega⟩
                have hPN : P < N := by omega
                have hPI : (P : Int) < N := by omega
                clear ho hd HCR
                have c0 := cell_of_row x1 w.heap.size 0 _ _ _ HXA.out
                have c1 := cell_of_row x1 w.heap.size 1 _ _ _ HXA.out
                simp only [List.getElem?_toArray, List.getElem?_cons_zero, List.getElem?_cons_succ] at c0 c1
                have lc := lt_of_block HXA.out
                go_wp2_with fail
                clear c0 c1 lc
                have hrt := HRC.out HOK.out ch ra rc (by omega) hrcc (by omega) x1 HBA.out HRV.out
                rw [htq] at hrt
                refine hrt.mono ?_
                rintro e x2 ⟨⟨lo2, hi2, rfl, hIs⟩, hb⟩
                replace HXA := Lib.hid ((hb.block _ (lt_of_block HXA.out)).trans HXA.out)
                replace HBA := Lib.hid (below_to HBA.out hb)
                replace HRV := Lib.hid ((HRV.out.same (.below (Nat.le_refl _) hb)).up hb.size)
                clear hb hrt
                obtain ⟨he1, he2⟩ := hIs.1 tq rfl
                subst he1 he2
                clear hIs
                have c0 := cell_of_row x2 w.heap.size 0 _ _ _ HXA.out
                have c1 := cell_of_row x2 w.heap.size 1 _ _ _ HXA.out
                simp only [List.getElem?_toArray, List.getElem?_cons_zero, List.getElem?_cons_succ] at c0 c1
                have lc := lt_of_block HXA.out
                go_wp2_with fail
                clear c0 c1 lc
                have hbx := box_below x2 (.cells #[.int .i64 tq.lo, .int .i64 tq.hi] 43)
                have hnx := heap_alloc_new x2 (.cells #[.int .i64 tq.lo, .int .i64 tq.hi] 43)
                replace HXA := Lib.hid ((hbx.block _ (lt_of_block HXA.out)).trans HXA.out)
                replace HBA := Lib.hid (below_to HBA.out hbx)
                replace HRV := Lib.hid ((HRV.out.same (.below (Nat.le_refl _) hbx)).up hbx.size)
                have BY := Lib.hid hnx
                clear hbx hnx
                generalize World.alloc x2 _ = u51 at *
                generalize x2.heap.size = bY at *
                refine (HRG0.out N rfl HOK.out u51 HBA.out).mono ?_
                rintro e x3 ⟨hg, hb⟩
                replace HXA := Lib.hid ((hb.block _ (lt_of_block HXA.out)).trans HXA.out)
                replace HBA := Lib.hid (below_to HBA.out hb)
                replace HRV := Lib.hid ((HRV.out.same (.below (Nat.le_refl _) hb)).up hb.size)
                replace BY := Lib.hid ((hb.block _ (lt_of_block BY.out)).trans BY.out)
                clear hb
                rcases hg with ⟨d', r4, hd, rfl, ho⟩ | ⟨hd, rfl⟩
                rotate_left
                · rw [HD.out] at hd
                  cases hd
                rw [HD.out] at hd
                cases hd
                have HGR := Lib.hid (own_rgs (l := gradesL d N) (by rw [grades_len]; exact ho))
                obtain ⟨zb, zo, zc, hzv, -, z0, z1⟩ := grs_get3 HGR.out hPN
                subst hzv
                have zl : zb < x3.heap.size := by have := z0; exact block_lt_of_cell this
                clear ho HGR
                have hq8 : decide ((ch.length : Int) ≤ 8) = true := decide_eq_true (by omega)
                cases hi with
                | false =>
                  have hen2 : tq.lo = -d (P + 1) 0 := hen.trans (end_nat3 d P).1
                  generalize -d (P + 1) 0 = EX at *
                  have by0 := cell_of_row x3 bY 0 _ _ _ BY.out
                  simp only [List.getElem?_toArray, List.getElem?_cons_zero, List.getElem?_cons_succ] at by0
                  rw [hen2] at by0
                  have hee : (EX == EX) = true := beq_self_eq_true EX
                  have HC : Hid (∀ w', Below x3.heap.size x3 w' → w'.cell? ⟨bY, 0, none⟩ = some (.int .i64 EX) ∧ w'.cell? ⟨zb, zo + P * 2, none⟩ = some (.int .i64 EX) ∧ bY < w'.heap.size ∧ zb < w'.heap.size ∧ True) := Lib.hid fun w' hS => ⟨(hS.cell (p := ⟨bY, 0, none⟩) (lt_of_block BY.out)).trans by0, (hS.cell (p := ⟨zb, zo + P * 2, none⟩) zl).trans z0, Nat.lt_of_lt_of_le (lt_of_block BY.out) hS.size, Nat.lt_of_lt_of_le zl hS.size, trivial⟩
                  clear by0 hen hen2 z0 z1
                  go_wp2_with fail
                  refine wp_region_noPanic ?_
                  refine wp_region_acts (fun w' => Below x3.heap.size x3 w') (fun _ _ h hb => below_to h hb) (below_drawn _) (by decide +kernel) (fun _ _ _ _ _ h => h)
                    [.take 0, .take 1, .take 2, .take 3, .take 4, .take 5, .take 6, .take 7, .take 8, .take 9, .take 10, .take 11, .take 12, .take 13, .take 14, .take 15, .take 16, .take 17, .take 18, .take 19, .take 20, .take 21, .take 22, .take 23, .take 24, .take 25, .take 26, .take 27, .take 28, .take 29, .take 30, .take 31, .take 32, .take 33, .take 34, .take 35, .take 36, .take 37, .call 38, .take 39] [40] (by decide +kernel) ?_
                  iterate 13
                    (refine GWalk.takes rfl rfl ?_; apply Exists.intro; refine ⟨fun w' hS => ?_, ?_⟩; (obtain ⟨z1, z2, z3, z4, z5⟩ := HC.out w' hS; clear hS; go_simp; with_reducible rfl); simp only [List.getElem_toArray, List.getElem_cons_succ, List.getElem_cons_zero, Act.put, List.setIfInBounds_toArray, List.set_cons_zero, List.set_cons_succ])
                  iterate 8
                    (refine ⟨_, undef, rfl, .inr ⟨rfl, rfl⟩, ?_⟩; simp only [List.getElem_toArray, List.getElem_cons_succ, List.getElem_cons_zero, Act.put, List.setIfInBounds_toArray, List.set_cons_zero, List.set_cons_succ])
                  iterate 17
                    (refine GWalk.takes rfl rfl ?_; apply Exists.intro; refine ⟨fun w' hS => ?_, ?_⟩; (obtain ⟨z1, z2, z3, z4, z5⟩ := HC.out w' hS; clear hS; go_simp; with_reducible rfl); simp only [List.getElem_toArray, List.getElem_cons_succ, List.getElem_cons_zero, Act.put, List.setIfInBounds_toArray, List.set_cons_zero, List.set_cons_succ])
                  refine GWalk.calls rfl rfl ?_; apply Exists.intro; apply Exists.intro; refine ⟨fun w' hS => ?_, fun v1 hb hS hO => ?_⟩; (clear hS; go_simp; exact ⟨rfl, rfl⟩)
                  refine (awake_any v1).mono ?_
                  rintro e v2 ⟨rfl, hb2⟩
                  refine ⟨_, rfl, hb2, below_to hS hb2, ?_⟩
                  simp only [List.getElem_toArray, List.getElem_cons_succ, List.getElem_cons_zero, Act.put, List.setIfInBounds_toArray, List.set_cons_zero, List.set_cons_succ]
                  clear hb hO hS hb2
                  iterate 1
                    (refine GWalk.takes rfl rfl ?_; apply Exists.intro; refine ⟨fun w' hS => ?_, ?_⟩; (clear hS; go_simp; with_reducible rfl); simp only [List.getElem_toArray, List.getElem_cons_succ, List.getElem_cons_zero, Act.put, List.setIfInBounds_toArray, List.set_cons_zero, List.set_cons_succ])
                  refine GWalk.fin fun v5 hb5 hS5 => ?_
                  refine Tail.value rfl rfl (by go_simp; with_reducible rfl) (Tail.done (NoPanic.normal ?_))
                  simp only [List.getElem_toArray, List.getElem_cons_succ, List.getElem_cons_zero, Act.put, List.setIfInBounds_toArray, List.set_cons_zero, List.set_cons_succ]
                  have HBF := Lib.hid (below_to HBA.out hS5)
                  clear hb5 hS5
                  go_wp2
                  go_ret
                  exact ⟨rfl, HBF.out⟩
                | true =>
                  have hen2 : tq.hi = d 0 (P + 1) := hen.trans (end_nat3 d P).2
                  generalize d 0 (P + 1) = EX at *
                  have by0 := cell_of_row x3 bY 1 _ _ _ BY.out
                  simp only [List.getElem?_toArray, List.getElem?_cons_zero, List.getElem?_cons_succ] at by0
                  rw [hen2] at by0
                  have hee : (EX == EX) = true := beq_self_eq_true EX
                  have HC : Hid (∀ w', Below x3.heap.size x3 w' → w'.cell? ⟨bY, 1, none⟩ = some (.int .i64 EX) ∧ w'.cell? ⟨zb, zo + P * 2 + 1, none⟩ = some (.int .i64 EX) ∧ bY < w'.heap.size ∧ zb < w'.heap.size ∧ True) := Lib.hid fun w' hS => ⟨(hS.cell (p := ⟨bY, 1, none⟩) (lt_of_block BY.out)).trans by0, (hS.cell (p := ⟨zb, zo + P * 2 + 1, none⟩) zl).trans z1, Nat.lt_of_lt_of_le (lt_of_block BY.out) hS.size, Nat.lt_of_lt_of_le zl hS.size, trivial⟩
                  clear by0 hen hen2 z0 z1
                  go_wp2_with fail
                  refine wp_region_noPanic ?_
                  refine wp_region_acts (fun w' => Below x3.heap.size x3 w') (fun _ _ h hb => below_to h hb) (below_drawn _) (by decide +kernel) (fun _ _ _ _ _ h => h)
                    [.take 0, .take 1, .take 2, .take 3, .take 4, .take 5, .take 6, .take 7, .take 8, .take 9, .take 10, .take 11, .take 12, .take 13, .take 14, .take 15, .take 16, .take 17, .take 18, .take 19, .take 20, .take 21, .take 22, .take 23, .take 24, .take 25, .take 26, .take 27, .take 28, .take 29, .take 30, .take 31, .take 32, .take 33, .take 34, .take 35, .take 36, .take 37, .call 38, .take 39] [40] (by decide +kernel) ?_
                  iterate 23
                    (refine GWalk.takes rfl rfl ?_; apply Exists.intro; refine ⟨fun w' hS => ?_, ?_⟩; (obtain ⟨z1, z2, z3, z4, z5⟩ := HC.out w' hS; clear hS; go_simp; with_reducible rfl); simp only [List.getElem_toArray, List.getElem_cons_succ, List.getElem_cons_zero, Act.put, List.setIfInBounds_toArray, List.set_cons_zero, List.set_cons_succ])
                  iterate 12
                    (refine ⟨_, undef, rfl, .inr ⟨rfl, rfl⟩, ?_⟩; simp only [List.getElem_toArray, List.getElem_cons_succ, List.getElem_cons_zero, Act.put, List.setIfInBounds_toArray, List.set_cons_zero, List.set_cons_succ])
                  iterate 3
                    (refine GWalk.takes rfl rfl ?_; apply Exists.intro; refine ⟨fun w' hS => ?_, ?_⟩; (obtain ⟨z1, z2, z3, z4, z5⟩ := HC.out w' hS; clear hS; go_simp; with_reducible rfl); simp only [List.getElem_toArray, List.getElem_cons_succ, List.getElem_cons_zero, Act.put, List.setIfInBounds_toArray, List.set_cons_zero, List.set_cons_succ])
                  refine GWalk.calls rfl rfl ?_; apply Exists.intro; apply Exists.intro; refine ⟨fun w' hS => ?_, fun v1 hb hS hO => ?_⟩; (clear hS; go_simp; exact ⟨rfl, rfl⟩)
                  refine (awake_any v1).mono ?_
                  rintro e v2 ⟨rfl, hb2⟩
                  refine ⟨_, rfl, hb2, below_to hS hb2, ?_⟩
                  simp only [List.getElem_toArray, List.getElem_cons_succ, List.getElem_cons_zero, Act.put, List.setIfInBounds_toArray, List.set_cons_zero, List.set_cons_succ]
                  clear hb hO hS hb2
                  iterate 1
                    (refine GWalk.takes rfl rfl ?_; apply Exists.intro; refine ⟨fun w' hS => ?_, ?_⟩; (clear hS; go_simp; with_reducible rfl); simp only [List.getElem_toArray, List.getElem_cons_succ, List.getElem_cons_zero, Act.put, List.setIfInBounds_toArray, List.set_cons_zero, List.set_cons_succ])
                  refine GWalk.fin fun v5 hb5 hS5 => ?_
                  refine Tail.value rfl rfl (by go_simp; with_reducible rfl) (Tail.done (NoPanic.normal ?_))
                  simp only [List.getElem_toArray, List.getElem_cons_succ, List.getElem_cons_zero, Act.put, List.setIfInBounds_toArray, List.set_cons_zero, List.set_cons_succ]
                  have HBF := Lib.hid (below_to HBA.out hS5)
                  clear hb5 hS5
                  go_wp2
                  go_ret
                  exact ⟨rfl, HBF.out⟩
              · obtain rfl := HCR.out.1 hY0
                have hy1 : (Y != 0) = true := by simp [hY0]
                have hy2 : (Y == Y) = true := beq_self_eq_true Y
                clear hY0 HCR
                go_wp2_with fail
                refine (awake_any x1).mono ?_
                rintro e v9 ⟨rfl, hb⟩
                have HBF := Lib.hid (below_to HBA.out hb)
                clear hb
                go_wp2
                go_ret
                exact ⟨rfl, HBF.out⟩
      · have hE := tell_fault (p := p) (xs := xs) hf
        obtain ⟨rfl, rfl⟩ := HT2.out (by rw [hE]; exact hf)
        rw [hE]
        obtain ⟨F, hF⟩ : ∃ F, faultA n cs = F := ⟨_, rfl⟩
        rw [hF] at hf ⊢
        have hf1 : (F == 0) = false := by simp [hf]
        have hf2 : (F != F) = false := by simp
        clear hE hF hf
        go_wp2_with fail
        have hbx := box_below u8 (.cells #[.int .i64 0, .int .i64 0] 43)
        have hnx := heap_alloc_new u8 (.cells #[.int .i64 0, .int .i64 0] 43)
        replace HCR := Lib.hid (HCR.out.below hbx)
        replace HXA := Lib.hid ((hbx.block _ (lt_of_block HXA.out)).trans HXA.out)
        replace HBA := Lib.hid (below_to HBA.out hbx)
        replace BT := Lib.hid ((hbx.block _ (lt_of_block BT.out)).trans BT.out)
        have BX := Lib.hid hnx
        clear hbx hnx
        generalize World.alloc u8 _ = u9 at *
        generalize u8.heap.size = bX at *
        have HC : Hid (∀ w', Below u9.heap.size u9 w' → w'.cell? ⟨bT, 0, none⟩ = some (.int .i64 (0)) ∧ w'.cell? ⟨bT, 1, none⟩ = some (.int .i64 (0)) ∧ w'.cell? ⟨bX, 0, none⟩ = some (.int .i64 (0)) ∧ w'.cell? ⟨bX, 1, none⟩ = some (.int .i64 (0)) ∧ bT < w'.heap.size) := Lib.hid fun w' hS => by
          have h1 := (hS.block _ (lt_of_block BT.out)).trans BT.out
          have h2 := (hS.block _ (lt_of_block BX.out)).trans BX.out
          exact ⟨cell_of_row w' _ 0 _ _ _ h1, cell_of_row w' _ 1 _ _ _ h1, cell_of_row w' _ 0 _ _ _ h2, cell_of_row w' _ 1 _ _ _ h2, lt_of_block h1⟩
        have q2 := fun w => neqr41 (0) (0) w
        refine wp_region_noPanic ?_
        refine wp_region_acts (fun w' => Below u9.heap.size u9 w') (fun _ _ h hb => below_to h hb) (below_drawn _) (by decide +kernel) (fun _ _ _ _ _ h => h)
          [.take 0, .take 1, .take 2, .take 3, .take 4, .take 5, .call 6, .take 7, .take 8] [] (by decide +kernel) ?_
        iterate 6
          (refine GWalk.takes rfl rfl ?_; apply Exists.intro; refine ⟨fun w' hS => ?_, ?_⟩; (obtain ⟨z1, z2, z3, z4, z5⟩ := HC.out w' hS; clear hS; go_simp; with_reducible rfl); simp only [List.getElem_toArray, List.getElem_cons_succ, List.getElem_cons_zero, Act.put, List.setIfInBounds_toArray, List.set_cons_zero, List.set_cons_succ])
        refine GWalk.calls rfl rfl ?_; apply Exists.intro; apply Exists.intro; refine ⟨fun w' hS => ?_, fun v1 hb hS hO => ?_⟩; (clear hS; go_simp; exact ⟨rfl, rfl⟩)
        refine (to_any (0) (0) v1).mono ?_
        rintro e v2 ⟨rfl, hb2⟩
        refine ⟨_, rfl, hb2, below_to hS hb2, ?_⟩
        simp only [List.getElem_toArray, List.getElem_cons_succ, List.getElem_cons_zero, Act.put, List.setIfInBounds_toArray, List.set_cons_zero, List.set_cons_succ]
        clear hb hO hS hb2
        iterate 2
          (refine GWalk.takes rfl rfl ?_; apply Exists.intro; refine ⟨fun w' hS => ?_, ?_⟩; (obtain ⟨z1, z2, z3, z4, z5⟩ := HC.out w' hS; clear hS; go_simp; with_reducible rfl); simp only [List.getElem_toArray, List.getElem_cons_succ, List.getElem_cons_zero, Act.put, List.setIfInBounds_toArray, List.set_cons_zero, List.set_cons_succ])
        refine GWalk.fin fun x0 hb5 hb => ?_
        clear hb5 HC
        replace HCR := Lib.hid (HCR.out.below hb)
        replace HXA := Lib.hid ((hb.block _ (lt_of_block HXA.out)).trans HXA.out)
        replace HBA := Lib.hid (below_to HBA.out hb)
        replace BT := Lib.hid ((hb.block _ (lt_of_block BT.out)).trans BT.out)
        replace BX := Lib.hid ((hb.block _ (lt_of_block BX.out)).trans BX.out)
        clear hb
        clear BX
        clear BT
        refine Tail.done (NoPanic.normal ?_)
        clear q2
        have c0 := cell_of_row x0 w.heap.size 0 _ _ _ HXA.out
        have c1 := cell_of_row x0 w.heap.size 1 _ _ _ HXA.out
        simp only [List.getElem?_toArray, List.getElem?_cons_zero, List.getElem?_cons_succ] at c0 c1
        have lc := lt_of_block HXA.out
        go_wp2_with fail
        clear c0 c1 lc
        refine (HAS.out x0 HBA.out).mono ?_
        rintro e x1 ⟨rfl, hb⟩
        replace HCR := Lib.hid (HCR.out.below hb)
        replace HXA := Lib.hid ((hb.block _ (lt_of_block HXA.out)).trans HXA.out)
        replace HBA := Lib.hid (below_to HBA.out hb)
        clear hb
        by_cases hY0 : Y = 0
        · subst hY0
          obtain ⟨d, hd, ch, ho, ⟨tq, htq, hen⟩, hcl⟩ := HCR.out.2 rfl
          have HD := Lib.hid hd
          obtain ⟨ra, rc, hrv⟩ := own_shape ho
          subst hrv
          have hrcc := own_cap3 ho
          have HRV := Lib.hid (own_ints (l := ch) ho)
          have HOK := Lib.hid (HYK.out rfl).1
          have hpn := pics_in2 (HYK.out rfl).2
          have hn0 := HOK.out.n0
          have hn8 := HOK.out.n8
          obtain ⟨N, rfl⟩ : ∃ N : Nat, n = (N : Int) := ⟨n.toNat, by omega⟩
          obtain ⟨P, rfl⟩ : ∃ P : Nat, p = (P : Int) := ⟨p.toNat, by omega⟩
          have hPN : P < N := by omega
          have hPI : (P : Int) < N := by omega
          clear ho hd HCR
          have c0 := cell_of_row x1 w.heap.size 0 _ _ _ HXA.out
          have c1 := cell_of_row x1 w.heap.size 1 _ _ _ HXA.out
          simp only [List.getElem?_toArray, List.getElem?_cons_zero, List.getElem?_cons_succ] at c0 c1
          have lc := lt_of_block HXA.out
          go_wp2_with fail
          clear c0 c1 lc
          have hrt := HRC.out HOK.out ch ra rc (by omega) hrcc (by omega) x1 HBA.out HRV.out
          rw [htq] at hrt
          refine hrt.mono ?_
          rintro e x2 ⟨⟨lo2, hi2, rfl, hIs⟩, hb⟩
          replace HXA := Lib.hid ((hb.block _ (lt_of_block HXA.out)).trans HXA.out)
          replace HBA := Lib.hid (below_to HBA.out hb)
          replace HRV := Lib.hid ((HRV.out.same (.below (Nat.le_refl _) hb)).up hb.size)
          clear hb hrt
          obtain ⟨he1, he2⟩ := hIs.1 tq rfl
          subst he1 he2
          clear hIs
          have c0 := cell_of_row x2 w.heap.size 0 _ _ _ HXA.out
          have c1 := cell_of_row x2 w.heap.size 1 _ _ _ HXA.out
          simp only [List.getElem?_toArray, List.getElem?_cons_zero, List.getElem?_cons_succ] at c0 c1
          have lc := lt_of_block HXA.out
          go_wp2_with fail
          clear c0 c1 lc
          have hbx := box_below x2 (.cells #[.int .i64 tq.lo, .int .i64 tq.hi] 43)
          have hnx := heap_alloc_new x2 (.cells #[.int .i64 tq.lo, .int .i64 tq.hi] 43)
          replace HXA := Lib.hid ((hbx.block _ (lt_of_block HXA.out)).trans HXA.out)
          replace HBA := Lib.hid (below_to HBA.out hbx)
          replace HRV := Lib.hid ((HRV.out.same (.below (Nat.le_refl _) hbx)).up hbx.size)
          have BY := Lib.hid hnx
          clear hbx hnx
          generalize World.alloc x2 _ = u51 at *
          generalize x2.heap.size = bY at *
          refine (HRG0.out N rfl HOK.out u51 HBA.out).mono ?_
          rintro e x3 ⟨hg, hb⟩
          replace HXA := Lib.hid ((hb.block _ (lt_of_block HXA.out)).trans HXA.out)
          replace HBA := Lib.hid (below_to HBA.out hb)
          replace HRV := Lib.hid ((HRV.out.same (.below (Nat.le_refl _) hb)).up hb.size)
          replace BY := Lib.hid ((hb.block _ (lt_of_block BY.out)).trans BY.out)
          clear hb
          rcases hg with ⟨d', r4, hd, rfl, ho⟩ | ⟨hd, rfl⟩
          rotate_left
          · rw [HD.out] at hd
            cases hd
          rw [HD.out] at hd
          cases hd
          have HGR := Lib.hid (own_rgs (l := gradesL d N) (by rw [grades_len]; exact ho))
          obtain ⟨zb, zo, zc, hzv, -, z0, z1⟩ := grs_get3 HGR.out hPN
          subst hzv
          have zl : zb < x3.heap.size := by have := z0; exact block_lt_of_cell this
          clear ho HGR
          have hq8 : decide ((ch.length : Int) ≤ 8) = true := decide_eq_true (by omega)
          cases hi with
          | false =>
            have hen2 : tq.lo = -d (P + 1) 0 := hen.trans (end_nat3 d P).1
            generalize -d (P + 1) 0 = EX at *
            have by0 := cell_of_row x3 bY 0 _ _ _ BY.out
            simp only [List.getElem?_toArray, List.getElem?_cons_zero, List.getElem?_cons_succ] at by0
            rw [hen2] at by0
            have hee : (EX == EX) = true := beq_self_eq_true EX
            have HC : Hid (∀ w', Below x3.heap.size x3 w' → w'.cell? ⟨bY, 0, none⟩ = some (.int .i64 EX) ∧ w'.cell? ⟨zb, zo + P * 2, none⟩ = some (.int .i64 EX) ∧ bY < w'.heap.size ∧ zb < w'.heap.size ∧ True) := Lib.hid fun w' hS => ⟨(hS.cell (p := ⟨bY, 0, none⟩) (lt_of_block BY.out)).trans by0, (hS.cell (p := ⟨zb, zo + P * 2, none⟩) zl).trans z0, Nat.lt_of_lt_of_le (lt_of_block BY.out) hS.size, Nat.lt_of_lt_of_le zl hS.size, trivial⟩
            clear by0 hen hen2 z0 z1
            go_wp2_with fail
            refine wp_region_noPanic ?_
            refine wp_region_acts (fun w' => Below x3.heap.size x3 w') (fun _ _ h hb => below_to h hb) (below_drawn _) (by decide +kernel) (fun _ _ _ _ _ h => h)
              [.take 0, .take 1, .take 2, .take 3, .take 4, .take 5, .take 6, .take 7, .take 8, .take 9, .take 10, .take 11, .take 12, .take 13, .take 14, .take 15, .take 16, .take 17, .take 18, .take 19, .take 20, .take 21, .take 22, .take 23, .take 24, .take 25, .take 26, .take 27, .take 28, .take 29, .take 30, .take 31, .take 32, .take 33, .take 34, .take 35, .take 36, .take 37, .call 38, .take 39] [40] (by decide +kernel) ?_
            iterate 13
              (refine GWalk.takes rfl rfl ?_; apply Exists.intro; refine ⟨fun w' hS => ?_, ?_⟩; (obtain ⟨z1, z2, z3, z4, z5⟩ := HC.out w' hS; clear hS; go_simp; with_reducible rfl); simp only [List.getElem_toArray, List.getElem_cons_succ, List.getElem_cons_zero, Act.put, List.setIfInBounds_toArray, List.set_cons_zero, List.set_cons_succ])
            iterate 8
              (refine ⟨_, undef, rfl, .inr ⟨rfl, rfl⟩, ?_⟩; simp only [List.getElem_toArray, List.getElem_cons_succ, List.getElem_cons_zero, Act.put, List.setIfInBounds_toArray, List.set_cons_zero, List.set_cons_succ])
            iterate 17
              (refine GWalk.takes rfl rfl ?_; apply Exists.intro; refine ⟨fun w' hS => ?_, ?_⟩; (obtain ⟨z1, z2, z3, z4, z5⟩ := HC.out w' hS; clear hS; go_simp; with_reducible rfl); simp only [List.getElem_toArray, List.getElem_cons_succ, List.getElem_cons_zero, Act.put, List.setIfInBounds_toArray, List.set_cons_zero, List.set_cons_succ])
            refine GWalk.calls rfl rfl ?_; apply Exists.intro; apply Exists.intro; refine ⟨fun w' hS => ?_, fun v1 hb hS hO => ?_⟩; (clear hS; go_simp; exact ⟨rfl, rfl⟩)
            refine (awake_any v1).mono ?_
            rintro e v2 ⟨rfl, hb2⟩
            refine ⟨_, rfl, hb2, below_to hS hb2, ?_⟩
            simp only [List.getElem_toArray, List.getElem_cons_succ, List.getElem_cons_zero, Act.put, List.setIfInBounds_toArray, List.set_cons_zero, List.set_cons_succ]
            clear hb hO hS hb2
            iterate 1
              (refine GWalk.takes rfl rfl ?_; apply Exists.intro; refine ⟨fun w' hS => ?_, ?_⟩; (clear hS; go_simp; with_reducible rfl); simp only [List.getElem_toArray, List.getElem_cons_succ, List.getElem_cons_zero, Act.put, List.setIfInBounds_toArray, List.set_cons_zero, List.set_cons_succ])
            refine GWalk.fin fun v5 hb5 hS5 => ?_
            refine Tail.value rfl rfl (by go_simp; with_reducible rfl) (Tail.done (NoPanic.normal ?_))
            simp only [List.getElem_toArray, List.getElem_cons_succ, List.getElem_cons_zero, Act.put, List.setIfInBounds_toArray, List.set_cons_zero, List.set_cons_succ]
            have HBF := Lib.hid (below_to HBA.out hS5)
            clear hb5 hS5
            go_wp2
            go_ret
            exact ⟨rfl, HBF.out⟩
          | true =>
            have hen2 : tq.hi = d 0 (P + 1) := hen.trans (end_nat3 d P).2
            generalize d 0 (P + 1) = EX at *
            have by0 := cell_of_row x3 bY 1 _ _ _ BY.out
            simp only [List.getElem?_toArray, List.getElem?_cons_zero, List.getElem?_cons_succ] at by0
            rw [hen2] at by0
            have hee : (EX == EX) = true := beq_self_eq_true EX
            have HC : Hid (∀ w', Below x3.heap.size x3 w' → w'.cell? ⟨bY, 1, none⟩ = some (.int .i64 EX) ∧ w'.cell? ⟨zb, zo + P * 2 + 1, none⟩ = some (.int .i64 EX) ∧ bY < w'.heap.size ∧ zb < w'.heap.size ∧ True) := Lib.hid fun w' hS => ⟨(hS.cell (p := ⟨bY, 1, none⟩) (lt_of_block BY.out)).trans by0, (hS.cell (p := ⟨zb, zo + P * 2 + 1, none⟩) zl).trans z1, Nat.lt_of_lt_of_le (lt_of_block BY.out) hS.size, Nat.lt_of_lt_of_le zl hS.size, trivial⟩
            clear by0 hen hen2 z0 z1
            go_wp2_with fail
            refine wp_region_noPanic ?_
            refine wp_region_acts (fun w' => Below x3.heap.size x3 w') (fun _ _ h hb => below_to h hb) (below_drawn _) (by decide +kernel) (fun _ _ _ _ _ h => h)
              [.take 0, .take 1, .take 2, .take 3, .take 4, .take 5, .take 6, .take 7, .take 8, .take 9, .take 10, .take 11, .take 12, .take 13, .take 14, .take 15, .take 16, .take 17, .take 18, .take 19, .take 20, .take 21, .take 22, .take 23, .take 24, .take 25, .take 26, .take 27, .take 28, .take 29, .take 30, .take 31, .take 32, .take 33, .take 34, .take 35, .take 36, .take 37, .call 38, .take 39] [40] (by decide +kernel) ?_
            iterate 23
              (refine GWalk.takes rfl rfl ?_; apply Exists.intro; refine ⟨fun w' hS => ?_, ?_⟩; (obtain ⟨z1, z2, z3, z4, z5⟩ := HC.out w' hS; clear hS; go_simp; with_reducible rfl); simp only [List.getElem_toArray, List.getElem_cons_succ, List.getElem_cons_zero, Act.put, List.setIfInBounds_toArray, List.set_cons_zero, List.set_cons_succ])
            iterate 12
              (refine ⟨_, undef, rfl, .inr ⟨rfl, rfl⟩, ?_⟩; simp only [List.getElem_toArray, List.getElem_cons_succ, List.getElem_cons_zero, Act.put, List.setIfInBounds_toArray, List.set_cons_zero, List.set_cons_succ])
            iterate 3
              (refine GWalk.takes rfl rfl ?_; apply Exists.intro; refine ⟨fun w' hS => ?_, ?_⟩; (obtain ⟨z1, z2, z3, z4, z5⟩ := HC.out w' hS; clear hS; go_simp; with_reducible rfl); simp only [List.getElem_toArray, List.getElem_cons_succ, List.getElem_cons_zero, Act.put, List.setIfInBounds_toArray, List.set_cons_zero, List.set_cons_succ])
            refine GWalk.calls rfl rfl ?_; apply Exists.intro; apply Exists.intro; refine ⟨fun w' hS => ?_, fun v1 hb hS hO => ?_⟩; (clear hS; go_simp; exact ⟨rfl, rfl⟩)
            refine (awake_any v1).mono ?_
            rintro e v2 ⟨rfl, hb2⟩
            refine ⟨_, rfl, hb2, below_to hS hb2, ?_⟩
            simp only [List.getElem_toArray, List.getElem_cons_succ, List.getElem_cons_zero, Act.put, List.setIfInBounds_toArray, List.set_cons_zero, List.set_cons_succ]
            clear hb hO hS hb2
            iterate 1
              (refine GWalk.takes rfl rfl ?_; apply Exists.intro; refine ⟨fun w' hS => ?_, ?_⟩; (clear hS; go_simp; with_reducible rfl); simp only [List.getElem_toArray, List.getElem_cons_succ, List.getElem_cons_zero, Act.put, List.setIfInBounds_toArray, List.set_cons_zero, List.set_cons_succ])
            refine GWalk.fin fun v5 hb5 hS5 => ?_
            refine Tail.value rfl rfl (by go_simp; with_reducible rfl) (Tail.done (NoPanic.normal ?_))
            simp only [List.getElem_toArray, List.getElem_cons_succ, List.getElem_cons_zero, Act.put, List.setIfInBounds_toArray, List.set_cons_zero, List.set_cons_succ]
            have HBF := Lib.hid (below_to HBA.out hS5)
            clear hb5 hS5
            go_wp2
            go_ret
            exact ⟨rfl, HBF.out⟩
        · obtain rfl := HCR.out.1 hY0
          have hy1 : (Y != 0) = true := by simp [hY0]
          have hy2 : (Y == Y) = true := beq_self_eq_true Y
          clear hY0 HCR
          go_wp2_with fail
          refine (awake_any x1).mono ?_
          rintro e v9 ⟨rfl, hb⟩
          have HBF := Lib.hid (below_to HBA.out hb)
          clear hb
          go_wp2
          go_ret
          exact ⟨rfl, HBF.out⟩
  · have hth : decide (cs.length ≤ 16) = false := decide_eq_false ht
    clear ht
    go_wp2_with fail
    refine (awake_any u0).mono ?_
    rintro e u52 ⟨rfl, hb⟩
    have HBF := Lib.hid (below_to HBA.out hb)
    clear hb
    go_wp2
    go_ret
    exact ⟨rfl, HBF.out⟩
end Go.Proofs.Ytplmlmmjfkbabaa
