/- The law GrainEnds, walked. No condition. -/
import Derived.Test.YtplmlmmjfkbabaaUJ
import Derived.Test.YtplmlmmjfkbabaaSE
import Derived.BigRegion
import Derived.BigQuiet
namespace Go.Proofs.Ytplmlmmjfkbabaa
open Go.RowKit Go.Shelf
attribute [local irreducible] arrV wpQuiet mat shl
theorem own_cap2 {w : World} {base e sz n c : Nat} {a : Option Addr} {xs : List Value} (h : w.ownsRow base e sz (.slice a n c) n xs) : n ≤ c := by
  rcases h.2 with ⟨hv, h0⟩ | ⟨g, c', cur, hv, _, _, hn, _⟩
  · cases hv; exact Nat.le_refl _
  · cases hv; exact hn
theorem pics_ok {n p : Int} (h : 0 ≤ p ∧ p < n) : picsB n [p] = true := by
  rw [pics_one]
  simp only [hasB, decide_eq_true_eq]
  omega
theorem Shows_some {N : Nat} {v : Value} {cs : List Cm} {w : World} {d : Dm} {p : Int} (hi : Bool) (hA : AlbOk N cs) (hV : CmsV w.heap.size w v cs) (hp : 0 ≤ p ∧ p < N) (hd : distO cs = some d) :
    Calls Try.prog 29 #[.agg #[.int .i64 N, v], .int .i64 p, .bool hi] w fun e w' => (∃ r, e = .returned (.tuple #[r, .int .i64 0]) ∧ IntsV w'.heap.size w' r (endsL hi (gradesL d N))) ∧ Below w.heap.size w w' := by
  refine (Shows_any w.heap.size N v cs p hi w hA.maxLen hV (Nat.le_refl _)).mono ?_
  rintro e w' ⟨⟨r, rfl, -, h1⟩, hb⟩
  have hE := lay_some hA (pics_ok hp) hd
  obtain ⟨d', N', hd', hN, ho⟩ := h1 hE
  rw [hd] at hd'
  obtain rfl : d = d' := by injection hd'
  obtain rfl : N = N' := by omega
  exact ⟨⟨r, by rw [hE], own_ints (l := endsL hi (gradesL d N)) (by rw [ends_len]; exact ho)⟩, hb⟩
theorem Shows_none {n : Int} {v : Value} {cs : List Cm} {w : World} {p : Int} (hi : Bool) (hA : AlbOk n cs) (hV : CmsV w.heap.size w v cs) (hp : 0 ≤ p ∧ p < n) (hd : distO cs = none) :
    Calls Try.prog 29 #[.agg #[.int .i64 n, v], .int .i64 p, .bool hi] w fun e w' => e = .returned (.tuple #[.slice none 0 0, .int .i64 9]) ∧ Below w.heap.size w w' := by
  refine (Shows_any w.heap.size n v cs p hi w hA.maxLen hV (Nat.le_refl _)).mono ?_
  rintro e w' ⟨⟨r, rfl, h1, -⟩, hb⟩
  have hE := lay_none hA (pics_ok hp) hd
  obtain rfl := h1 (by rw [hE]; decide)
  exact ⟨by rw [hE], hb⟩
theorem Chain_some {N : Nat} {v : Value} {cs : List Cm} {w : World} {d : Dm} {p : Int} (hi : Bool) (hA : AlbOk N cs) (hV : CmsV w.heap.size w v cs) (hp : 0 ≤ p ∧ p < N) (hd : distO cs = some d) :
    Calls Try.prog 37 #[.agg #[.int .i64 N, v], .int .i64 p, .bool hi] w fun e w' => (∃ a c, ∃ ch : List Int, e = .returned (.tuple #[.slice a ch.length c, .int .i64 0]) ∧ IntsV w'.heap.size w' (.slice a ch.length c) ch ∧ (∃ q, tellR cs ch.reverse p = some q ∧ enR hi q = eD d hi p) ∧ ch.length ≤ 8) ∧ Below w.heap.size w w' := by
  refine (Chain_any w.heap.size N v cs p hi w hA.maxLen hV (Nat.le_refl _)).mono ?_
  rintro e w' ⟨⟨r, rfl, -, h1⟩, hb⟩
  have hE := lay_some hA (pics_ok hp) hd
  obtain ⟨d', hd', ch, ho, ht, hl⟩ := h1 hE
  rw [hd] at hd'
  obtain rfl : d = d' := by injection hd'
  obtain ⟨a, c, rfl⟩ := own_shape ho
  exact ⟨⟨a, c, ch, by rw [hE], own_ints (l := ch) ho, ht, hl⟩, hb⟩
theorem Chain_none {n : Int} {v : Value} {cs : List Cm} {w : World} {p : Int} (hi : Bool) (hA : AlbOk n cs) (hV : CmsV w.heap.size w v cs) (hp : 0 ≤ p ∧ p < n) (hd : distO cs = none) :
    Calls Try.prog 37 #[.agg #[.int .i64 n, v], .int .i64 p, .bool hi] w fun e w' => e = .returned (.tuple #[.slice none 0 0, .int .i64 9]) ∧ Below w.heap.size w w' := by
  refine (Chain_any w.heap.size n v cs p hi w hA.maxLen hV (Nat.le_refl _)).mono ?_
  rintro e w' ⟨⟨r, rfl, h1, -⟩, hb⟩
  have hE := lay_none hA (pics_ok hp) hd
  obtain rfl := h1 (by rw [hE]; decide)
  exact ⟨by rw [hE], hb⟩
theorem Tells_some {n : Int} {v : Value} {ca : Option Addr} {cc : Nat} {cs : List Cm} {p : Int} {xs : List Int} {w : World} {q : Rg} (hA : AlbOk n cs) (hV : CmsV w.heap.size w v cs) (hcc : xs.length ≤ cc) (hX : IntsV w.heap.size w (.slice ca xs.length cc) xs) (hp : 0 ≤ p ∧ p < n) (hl : xs.length ≤ 8) (ht : tellR cs xs.reverse p = some q) :
    Calls Try.prog 36 #[.agg #[.int .i64 n, v], .int .i64 p, .slice ca xs.length cc] w fun e w' => e = .returned (.tuple #[.agg #[.int .i64 q.lo, .int .i64 q.hi], .int .i64 0]) ∧ Below w.heap.size w w' := by
  have hE : tellE n cs p xs = 0 := by
    have h1 : chainE n cs p xs.length = 0 := by
      unfold chainE askE
      rw [fault_of hA, pics_ok hp]
      simp
      omega
    unfold tellE
    rw [if_neg (fun h => h h1), ht]
    rfl
  refine (Tells_any w.heap.size n v ca cc cs p xs w hA.maxLen hcc hV hX (Nat.le_refl _)).mono ?_
  rintro e w' ⟨⟨lo, hi, rfl, h1, -⟩, hb⟩
  have h2 := h1 hE
  rw [ht] at h2
  cases h2
  exact ⟨by rw [hE], hb⟩
theorem prove_ends {N : Nat} {cs : List Cm} {d : Dm} (hA : AlbOk N cs) (hC : Canon cs d) (b : Bool) : proveB N cs (endsL b (gradesL d N)) = true := by
  unfold proveB
  rw [fault_of hA, fit_ends hA hC b]
  rfl
theorem grs_get2 {m : Nat} {w : World} {v : Value} {d : Dm} {n k : Nat} (h : RgsV m w v (gradesL d n)) (hk : k < n) : ∃ b off cap, v = .slice (some ⟨b, off, none⟩) n cap ∧ b < m ∧ w.cell? ⟨b, off + k * 2, none⟩ = some (.int .i64 (-d (k + 1) 0)) ∧ w.cell? ⟨b, off + k * 2 + 1, none⟩ = some (.int .i64 (d 0 (k + 1))) := by
  obtain ⟨a, cap, rfl, hp⟩ := h
  rw [grades_len] at hp ⊢
  obtain ⟨b, off, rfl, hb, hc⟩ := hp (by omega)
  have h1 := hc k hk
  rw [grades_at hk] at h1
  exact ⟨b, off, cap, rfl, hb, h1⟩
theorem end_nat (d : Dm) (p : Nat) : eD d false (p : Int) = -d (p + 1) 0 ∧ eD d true (p : Int) = d 0 (p + 1) := by
  unfold eD
  rw [pl_nat]
  exact ⟨rfl, rfl⟩

set_option maxRecDepth 100000 in
set_option maxHeartbeats 8000000 in
theorem ends_walk (n : Int) (v : Value) (cs : List Cm) (x1 : Int) (w : World) (h1 : 0 ≤ x1 ∧ x1 < 256) (hV : CmsV w.heap.size w v cs) :
    Calls Try.prog 11 #[.agg #[.int .i64 n, v], .int .u8 x1] w fun e w' => e = .returned (.bool true) ∧ Below w.heap.size w w' := by
  have HRE := Lib.hid fun w' (h : Below w.heap.size w w') => ready_any w.heap.size n v cs w' (hV.same (.below (Nat.le_refl _) h)) h.size
  have HAL0 := Lib.hid fun (hl : cs.length ≤ 1000) w' (h : Below w.heap.size w w') => Album_any w.heap.size n v cs w' hl (hV.same (.below (Nat.le_refl _) h)) h.size
  obtain ⟨a, cap, rfl, hp⟩ := hV
  have HP := Lib.hid hp
  have HXA := Lib.hid (heap_alloc_new w (.cells #[.int .i64 n, .slice a cs.length cap] 24))
  have HBA := Lib.hid (box_below w (.cells #[.int .i64 n, .slice a cs.length cap] 24))
  clear hp
  go_enter Try.func11, Try.ntmps11
  go_wp2_with fail
  refine (HRE.out _ HBA.out).mono ?_
  rintro e u0 ⟨rfl, hb⟩
  replace HXA := Lib.hid ((hb.block _ (lt_of_block HXA.out)).trans HXA.out)
  replace HBA := Lib.hid (below_to HBA.out hb)
  clear hb
  cases hz : readyB n cs with
  | false =>
    go_wp2_with fail
    refine (awake_any u0).mono ?_
    rintro e u1 ⟨rfl, hb⟩
    have HBF := Lib.hid (below_to HBA.out hb)
    clear hb
    go_wp2
    go_ret
    exact ⟨rfl, HBF.out⟩
  | true =>
    have HOK := Lib.hid (readyB_ok hz)
    have hn0 := HOK.out.n0
    have hn8 := HOK.out.n8
    have HAL := Lib.hid (HAL0.out (by have := HOK.out.len; omega))
    clear hz HAL0 HRE
    have c0 := cell_of_row u0 w.heap.size 0 _ _ _ HXA.out
    have c1 := cell_of_row u0 w.heap.size 1 _ _ _ HXA.out
    simp only [List.getElem?_toArray, List.getElem?_cons_zero, List.getElem?_cons_succ] at c0 c1
    have lc := lt_of_block HXA.out
    by_cases hn : n = 0
    · have hz1 : (n == 0) = true := by simp [hn]
      clear hn
      go_wp2_with fail
      refine (awake_any u0).mono ?_
      rintro e u2 ⟨rfl, hb⟩
      have HBF := Lib.hid (below_to HBA.out hb)
      clear hb
      go_wp2
      go_ret
      exact ⟨rfl, HBF.out⟩
    · have hz1 : (n == 0) = false := by simp [hn]
      have hz2 : n ≠ 0 := hn
      obtain ⟨P0, hP⟩ : ∃ P, x1.tmod n = P := ⟨_, rfl⟩
      have hP2 : x1 % n = P0 := by rw [← hP, Int.tmod_eq_emod_of_nonneg h1.1]
      have hPB : 0 ≤ P0 ∧ P0 < n := by rw [← hP2]; exact ⟨Int.emod_nonneg _ hn, Int.emod_lt_of_pos _ (by omega)⟩
      obtain ⟨N, rfl⟩ : ∃ N : Nat, n = (N : Int) := ⟨n.toNat, by omega⟩
      obtain ⟨P, rfl⟩ : ∃ P : Nat, P0 = (P : Int) := ⟨P0.toNat, by omega⟩
      have hPN : P < N := by omega
      have hPI : (P : Int) < N := by omega
      have HPB : Hid (0 ≤ (P : Int) ∧ (P : Int) < N) := Lib.hid hPB
      have hw1 : IntKind.i64.wrap x1 = x1 := IntWalk.i64_in _ (by omega)
      have hp1 : IntKind.i64.wrap (P : Int) = P := IntWalk.i64_in _ (by omega)
      clear hn
      go_wp2_with fail
      clear c0 c1 lc
      clear hw1 hp1 hP2 hP hz1 hz2
      refine (HAL.out u0 HBA.out).mono ?_
      rintro e u1 ⟨⟨r1, rfl, ho⟩, hb⟩
      replace HXA := Lib.hid ((hb.block _ (lt_of_block HXA.out)).trans HXA.out)
      replace HBA := Lib.hid (below_to HBA.out hb)
      clear hb
      have HV1 := Lib.hid (own_cms (l := cs) ho)
      clear ho
      go_wp2_with fail
      cases hd : distO cs with
      | none =>
        have HD := Lib.hid hd
        clear hd
        refine (Grades_none HOK.out HV1.out HD.out).mono ?_
        rintro e u2 ⟨rfl, hb⟩
        replace HXA := Lib.hid ((hb.block _ (lt_of_block HXA.out)).trans HXA.out)
        replace HBA := Lib.hid (below_to HBA.out hb)
        replace HV1 := Lib.hid ((HV1.out.same (.below (Nat.le_refl _) hb)).up hb.size)
        clear hb
        clear HV1
        go_wp2_with fail
        generalize u2 = uA at *
        have HU0 := Lib.hid (Below.refl uA.heap.size uA)
        go_loopw [8] (fun i wr => ∃ k : Nat, k ≤ 2 ∧ i = .int .i64 k ∧ Hid (Below uA.heap.size uA wr)) (fun i _ => 2 - (intOf i).toNat)
        case atStart => exact ⟨0, by decide, rfl, HU0⟩
        case round =>
          obtain ⟨k, hk, rfl, HU⟩ := hrel
          clear HU0
          have hU := HU.out
          replace HXA := Lib.hid ((hU.block _ (lt_of_block HXA.out)).trans HXA.out)
          replace HBA := Lib.hid (below_to HBA.out hU)
          clear hU
          generalize wr = q0 at *
          match k, hk with
          | 0, _ =>
            have c0 := cell_of_row q0 w.heap.size 0 _ _ _ HXA.out
            have c1 := cell_of_row q0 w.heap.size 1 _ _ _ HXA.out
            simp only [List.getElem?_toArray, List.getElem?_cons_zero, List.getElem?_cons_succ] at c0 c1
            have lc := lt_of_block HXA.out
            go_wp2_with fail
            clear c0 c1 lc
            refine (HAL.out q0 HBA.out).mono ?_
            rintro e u3 ⟨⟨r1, rfl, ho⟩, hb⟩
            replace HXA := Lib.hid ((hb.block _ (lt_of_block HXA.out)).trans HXA.out)
            replace HBA := Lib.hid (below_to HBA.out hb)
            replace HU := Lib.hid (below_to HU.out hb)
            clear hb
            have HV1 := Lib.hid (own_cms (l := cs) ho)
            clear ho
            go_wp2_with fail
            refine (Shows_none false HOK.out HV1.out HPB.out HD.out).mono ?_
            rintro e u4 ⟨rfl, hb⟩
            replace HXA := Lib.hid ((hb.block _ (lt_of_block HXA.out)).trans HXA.out)
            replace HBA := Lib.hid (below_to HBA.out hb)
            replace HU := Lib.hid (below_to HU.out hb)
            replace HV1 := Lib.hid ((HV1.out.same (.below (Nat.le_refl _) hb)).up hb.size)
            clear hb
            clear HV1
            have c0 := cell_of_row u4 w.heap.size 0 _ _ _ HXA.out
            have c1 := cell_of_row u4 w.heap.size 1 _ _ _ HXA.out
            simp only [List.getElem?_toArray, List.getElem?_cons_zero, List.getElem?_cons_succ] at c0 c1
            have lc := lt_of_block HXA.out
            go_wp2_with fail
            clear c0 c1 lc
            refine (HAL.out u4 HBA.out).mono ?_
            rintro e u5 ⟨⟨r1, rfl, ho⟩, hb⟩
            replace HXA := Lib.hid ((hb.block _ (lt_of_block HXA.out)).trans HXA.out)
            replace HBA := Lib.hid (below_to HBA.out hb)
            replace HU := Lib.hid (below_to HU.out hb)
            clear hb
            have HV1 := Lib.hid (own_cms (l := cs) ho)
            clear ho
            go_wp2_with fail
            refine (Chain_none false HOK.out HV1.out HPB.out HD.out).mono ?_
            rintro e u6 ⟨rfl, hb⟩
            replace HXA := Lib.hid ((hb.block _ (lt_of_block HXA.out)).trans HXA.out)
            replace HBA := Lib.hid (below_to HBA.out hb)
            replace HU := Lib.hid (below_to HU.out hb)
            replace HV1 := Lib.hid ((HV1.out.same (.below (Nat.le_refl _) hb)).up hb.size)
            clear hb
            clear HV1
            go_wp2_with fail
            go_roundw
            case rel => exact ⟨1, by decide, rfl, HU⟩
            case measure => simp [intOf]
          | 1, _ =>
            have c0 := cell_of_row q0 w.heap.size 0 _ _ _ HXA.out
            have c1 := cell_of_row q0 w.heap.size 1 _ _ _ HXA.out
            simp only [List.getElem?_toArray, List.getElem?_cons_zero, List.getElem?_cons_succ] at c0 c1
            have lc := lt_of_block HXA.out
            go_wp2_with fail
            clear c0 c1 lc
            refine (HAL.out q0 HBA.out).mono ?_
            rintro e u7 ⟨⟨r1, rfl, ho⟩, hb⟩
            replace HXA := Lib.hid ((hb.block _ (lt_of_block HXA.out)).trans HXA.out)
            replace HBA := Lib.hid (below_to HBA.out hb)
            replace HU := Lib.hid (below_to HU.out hb)
            clear hb
            have HV1 := Lib.hid (own_cms (l := cs) ho)
            clear ho
            go_wp2_with fail
            refine (Shows_none true HOK.out HV1.out HPB.out HD.out).mono ?_
            rintro e u8 ⟨rfl, hb⟩
            replace HXA := Lib.hid ((hb.block _ (lt_of_block HXA.out)).trans HXA.out)
            replace HBA := Lib.hid (below_to HBA.out hb)
            replace HU := Lib.hid (below_to HU.out hb)
            replace HV1 := Lib.hid ((HV1.out.same (.below (Nat.le_refl _) hb)).up hb.size)
            clear hb
            clear HV1
            have c0 := cell_of_row u8 w.heap.size 0 _ _ _ HXA.out
            have c1 := cell_of_row u8 w.heap.size 1 _ _ _ HXA.out
            simp only [List.getElem?_toArray, List.getElem?_cons_zero, List.getElem?_cons_succ] at c0 c1
            have lc := lt_of_block HXA.out
            go_wp2_with fail
            clear c0 c1 lc
            refine (HAL.out u8 HBA.out).mono ?_
            rintro e u9 ⟨⟨r1, rfl, ho⟩, hb⟩
            replace HXA := Lib.hid ((hb.block _ (lt_of_block HXA.out)).trans HXA.out)
            replace HBA := Lib.hid (below_to HBA.out hb)
            replace HU := Lib.hid (below_to HU.out hb)
            clear hb
            have HV1 := Lib.hid (own_cms (l := cs) ho)
            clear ho
            go_wp2_with fail
            refine (Chain_none true HOK.out HV1.out HPB.out HD.out).mono ?_
            rintro e u10 ⟨rfl, hb⟩
            replace HXA := Lib.hid ((hb.block _ (lt_of_block HXA.out)).trans HXA.out)
            replace HBA := Lib.hid (below_to HBA.out hb)
            replace HU := Lib.hid (below_to HU.out hb)
            replace HV1 := Lib.hid ((HV1.out.same (.below (Nat.le_refl _) hb)).up hb.size)
            clear hb
            clear HV1
            go_wp2_with fail
            go_roundw
            case rel => exact ⟨2, by decide, rfl, HU⟩
            case measure => simp [intOf]
          | 2, _ =>
            go_wp2_with fail
            refine (awake_any q0).mono ?_
            rintro e v9 ⟨rfl, hb⟩
            have HBF := Lib.hid (below_to HBA.out hb)
            clear hb
            go_wp2
            go_ret
            exact ⟨rfl, HBF.out⟩
      | some d =>
        have HD := Lib.hid hd
        clear hd
        have HC := Lib.hid (dist_some HOK.out HD.out)
        refine (Grades_some HOK.out HV1.out HD.out).mono ?_
        rintro e u2 ⟨⟨rg0, rfl, hg⟩, hb⟩
        replace HXA := Lib.hid ((hb.block _ (lt_of_block HXA.out)).trans HXA.out)
        replace HBA := Lib.hid (below_to HBA.out hb)
        replace HV1 := Lib.hid ((HV1.out.same (.below (Nat.le_refl _) hb)).up hb.size)
        clear hb
        clear HV1
        have HRV := Lib.hid hg
        clear hg
        obtain ⟨rb, roff, rc, hr2, -⟩ := grs_get2 HRV.out hPN
        subst hr2
        go_wp2_with fail
        generalize u2 = uA at *
        have HU0 := Lib.hid (Below.refl uA.heap.size uA)
        go_loopw [8] (fun i wr => ∃ k : Nat, k ≤ 2 ∧ i = .int .i64 k ∧ Hid (Below uA.heap.size uA wr)) (fun i _ => 2 - (intOf i).toNat)
        case atStart => exact ⟨0, by decide, rfl, HU0⟩
        case round =>
          obtain ⟨k, hk, rfl, HU⟩ := hrel
          clear HU0
          have hU := HU.out
          replace HXA := Lib.hid ((hU.block _ (lt_of_block HXA.out)).trans HXA.out)
          replace HBA := Lib.hid (below_to HBA.out hU)
          replace HRV := Lib.hid ((HRV.out.same (.below (Nat.le_refl _) hU)).up hU.size)
          clear hU
          generalize wr = q0 at *
          match k, hk with
          | 0, _ =>
            have c0 := cell_of_row q0 w.heap.size 0 _ _ _ HXA.out
            have c1 := cell_of_row q0 w.heap.size 1 _ _ _ HXA.out
            simp only [List.getElem?_toArray, List.getElem?_cons_zero, List.getElem?_cons_succ] at c0 c1
            have lc := lt_of_block HXA.out
            go_wp2_with fail
            clear c0 c1 lc
            refine (HAL.out q0 HBA.out).mono ?_
            rintro e u3 ⟨⟨r1, rfl, ho⟩, hb⟩
            replace HXA := Lib.hid ((hb.block _ (lt_of_block HXA.out)).trans HXA.out)
            replace HBA := Lib.hid (below_to HBA.out hb)
            replace HRV := Lib.hid ((HRV.out.same (.below (Nat.le_refl _) hb)).up hb.size)
            replace HU := Lib.hid (below_to HU.out hb)
            clear hb
            have HV1 := Lib.hid (own_cms (l := cs) ho)
            clear ho
            go_wp2_with fail
            refine (Shows_some false HOK.out HV1.out HPB.out HD.out).mono ?_
            rintro e u4 ⟨⟨rl, rfl, hg⟩, hb⟩
            replace HXA := Lib.hid ((hb.block _ (lt_of_block HXA.out)).trans HXA.out)
            replace HBA := Lib.hid (below_to HBA.out hb)
            replace HRV := Lib.hid ((HRV.out.same (.below (Nat.le_refl _) hb)).up hb.size)
            replace HU := Lib.hid (below_to HU.out hb)
            replace HV1 := Lib.hid ((HV1.out.same (.below (Nat.le_refl _) hb)).up hb.size)
            clear hb
            clear HV1
            have HLV := Lib.hid hg
            clear hg
            obtain ⟨lb, loff, lc2, hr2, -⟩ := ints_get HLV.out (k := P) (by rw [ends_len]; exact hPN)
            rw [ends_len] at hr2
            subst hr2
            have c0 := cell_of_row u4 w.heap.size 0 _ _ _ HXA.out
            have c1 := cell_of_row u4 w.heap.size 1 _ _ _ HXA.out
            simp only [List.getElem?_toArray, List.getElem?_cons_zero, List.getElem?_cons_succ] at c0 c1
            have lc := lt_of_block HXA.out
            go_wp2_with fail
            clear c0 c1 lc
            refine (HAL.out u4 HBA.out).mono ?_
            rintro e u5 ⟨⟨r1, rfl, ho⟩, hb⟩
            replace HXA := Lib.hid ((hb.block _ (lt_of_block HXA.out)).trans HXA.out)
            replace HBA := Lib.hid (below_to HBA.out hb)
            replace HRV := Lib.hid ((HRV.out.same (.below (Nat.le_refl _) hb)).up hb.size)
            replace HU := Lib.hid (below_to HU.out hb)
            replace HLV := Lib.hid ((HLV.out.same (.below (Nat.le_refl _) hb)).up hb.size)
            clear hb
            have HV1 := Lib.hid (own_cms (l := cs) ho)
            clear ho
            go_wp2_with fail
            refine (Chain_some false HOK.out HV1.out HPB.out HD.out).mono ?_
            rintro e u6 ⟨⟨ca, cc, ch, rfl, hg, htl, hcl⟩, hb⟩
            replace HXA := Lib.hid ((hb.block _ (lt_of_block HXA.out)).trans HXA.out)
            replace HBA := Lib.hid (below_to HBA.out hb)
            replace HRV := Lib.hid ((HRV.out.same (.below (Nat.le_refl _) hb)).up hb.size)
            replace HU := Lib.hid (below_to HU.out hb)
            replace HLV := Lib.hid ((HLV.out.same (.below (Nat.le_refl _) hb)).up hb.size)
            replace HV1 := Lib.hid ((HV1.out.same (.below (Nat.le_refl _) hb)).up hb.size)
            clear hb
            clear HV1
            have HCV := Lib.hid hg
            clear hg
            obtain ⟨tq, htq, hen⟩ := htl
            have HTQ := Lib.hid htq
            clear htq
            have c0 := cell_of_row u6 w.heap.size 0 _ _ _ HXA.out
            have c1 := cell_of_row u6 w.heap.size 1 _ _ _ HXA.out
            simp only [List.getElem?_toArray, List.getElem?_cons_zero, List.getElem?_cons_succ] at c0 c1
            have lc := lt_of_block HXA.out
            go_wp2_with fail
            clear c0 c1 lc
            refine (HAL.out u6 HBA.out).mono ?_
            rintro e u7 ⟨⟨r1, rfl, ho⟩, hb⟩
            replace HXA := Lib.hid ((hb.block _ (lt_of_block HXA.out)).trans HXA.out)
            replace HBA := Lib.hid (below_to HBA.out hb)
            replace HRV := Lib.hid ((HRV.out.same (.below (Nat.le_refl _) hb)).up hb.size)
            replace HU := Lib.hid (below_to HU.out hb)
            replace HLV := Lib.hid ((HLV.out.same (.below (Nat.le_refl _) hb)).up hb.size)
            replace HCV := Lib.hid ((HCV.out.same (.below (Nat.le_refl _) hb)).up hb.size)
            clear hb
            have HV1 := Lib.hid (own_cms (l := cs) ho)
            clear ho
            go_wp2_with fail
            refine (list_any u7.heap.size _ ch u7 (by omega) HCV.out (Nat.le_refl _)).mono ?_
            rintro e u8 ⟨⟨r8, rfl, ho⟩, hb⟩
            replace HXA := Lib.hid ((hb.block _ (lt_of_block HXA.out)).trans HXA.out)
            replace HBA := Lib.hid (below_to HBA.out hb)
            replace HRV := Lib.hid ((HRV.out.same (.below (Nat.le_refl _) hb)).up hb.size)
            replace HU := Lib.hid (below_to HU.out hb)
            replace HLV := Lib.hid ((HLV.out.same (.below (Nat.le_refl _) hb)).up hb.size)
            replace HCV := Lib.hid ((HCV.out.same (.below (Nat.le_refl _) hb)).up hb.size)
            replace HV1 := Lib.hid ((HV1.out.same (.below (Nat.le_refl _) hb)).up hb.size)
            clear hb
            obtain ⟨ta, tc, htv⟩ := own_shape ho
            subst htv
            have htc := own_cap2 ho
            have HT1 := Lib.hid (own_ints (l := ch) ho)
            clear ho
            go_wp2_with fail
            refine (Tells_some HOK.out HV1.out htc HT1.out HPB.out hcl HTQ.out).mono ?_
            rintro e u9 ⟨rfl, hb⟩
            replace HXA := Lib.hid ((hb.block _ (lt_of_block HXA.out)).trans HXA.out)
            replace HBA := Lib.hid (below_to HBA.out hb)
            replace HRV := Lib.hid ((HRV.out.same (.below (Nat.le_refl _) hb)).up hb.size)
            replace HU := Lib.hid (below_to HU.out hb)
            replace HLV := Lib.hid ((HLV.out.same (.below (Nat.le_refl _) hb)).up hb.size)
            replace HCV := Lib.hid ((HCV.out.same (.below (Nat.le_refl _) hb)).up hb.size)
            replace HV1 := Lib.hid ((HV1.out.same (.below (Nat.le_refl _) hb)).up hb.size)
            replace HT1 := Lib.hid ((HT1.out.same (.below (Nat.le_refl _) hb)).up hb.size)
            clear hb
            clear HV1
            clear HT1
            have hc8 : decide ((8 : Int) < ch.length) = false := decide_eq_false (by omega)
            have c0 := cell_of_row u9 w.heap.size 0 _ _ _ HXA.out
            have c1 := cell_of_row u9 w.heap.size 1 _ _ _ HXA.out
            simp only [List.getElem?_toArray, List.getElem?_cons_zero, List.getElem?_cons_succ] at c0 c1
            have lc := lt_of_block HXA.out
            go_wp2_with fail
            clear c0 c1 lc
            have hbx := box_below u9 (.cells #[.int .i64 tq.lo, .int .i64 tq.hi] 41)
            have hnx := heap_alloc_new u9 (.cells #[.int .i64 tq.lo, .int .i64 tq.hi] 41)
            replace HXA := Lib.hid ((hbx.block _ (lt_of_block HXA.out)).trans HXA.out)
            replace HBA := Lib.hid (below_to HBA.out hbx)
            replace HRV := Lib.hid ((HRV.out.same (.below (Nat.le_refl _) hbx)).up hbx.size)
            replace HU := Lib.hid (below_to HU.out hbx)
            replace HLV := Lib.hid ((HLV.out.same (.below (Nat.le_refl _) hbx)).up hbx.size)
            replace HCV := Lib.hid ((HCV.out.same (.below (Nat.le_refl _) hbx)).up hbx.size)
            have BT := Lib.hid hnx
            clear hbx hnx
            generalize World.alloc u9 _ = u10 at *
            generalize u9.heap.size = bt at *
            refine (HAL.out u10 HBA.out).mono ?_
            rintro e u11 ⟨⟨r1, rfl, ho⟩, hb⟩
            replace HXA := Lib.hid ((hb.block _ (lt_of_block HXA.out)).trans HXA.out)
            replace HBA := Lib.hid (below_to HBA.out hb)
            replace HRV := Lib.hid ((HRV.out.same (.below (Nat.le_refl _) hb)).up hb.size)
            replace HU := Lib.hid (below_to HU.out hb)
            replace HLV := Lib.hid ((HLV.out.same (.below (Nat.le_refl _) hb)).up hb.size)
            replace HCV := Lib.hid ((HCV.out.same (.below (Nat.le_refl _) hb)).up hb.size)
            replace BT := Lib.hid ((hb.block _ (lt_of_block BT.out)).trans BT.out)
            clear hb
            have HV1 := Lib.hid (own_cms (l := cs) ho)
            clear ho
            go_wp2_with fail
            have hlv := list_any u11.heap.size (.slice (some ⟨lb, loff, none⟩) N lc2) (endsL false (gradesL d N)) u11 (by rw [ends_len]; omega) HLV.out (Nat.le_refl _)
            refine (hlv).mono ?_
            rintro e u12 ⟨⟨r9, rfl, ho⟩, hb⟩
            replace HXA := Lib.hid ((hb.block _ (lt_of_block HXA.out)).trans HXA.out)
            replace HBA := Lib.hid (below_to HBA.out hb)
            replace HRV := Lib.hid ((HRV.out.same (.below (Nat.le_refl _) hb)).up hb.size)
            replace HU := Lib.hid (below_to HU.out hb)
            replace HLV := Lib.hid ((HLV.out.same (.below (Nat.le_refl _) hb)).up hb.size)
            replace HCV := Lib.hid ((HCV.out.same (.below (Nat.le_refl _) hb)).up hb.size)
            replace BT := Lib.hid ((hb.block _ (lt_of_block BT.out)).trans BT.out)
            replace HV1 := Lib.hid ((HV1.out.same (.below (Nat.le_refl _) hb)).up hb.size)
            clear hb
            clear hlv
            have HG8 := Lib.hid (own_ints (l := endsL false (gradesL d N)) ho)
            clear ho
            go_wp2_with fail
            have hpf := ProveFit_any u12.heap.size N _ _ cs (endsL false (gradesL d N)) u12 HOK.out.maxLen (by rw [ends_len]; simp [maxLen]; omega) HV1.out HG8.out (Nat.le_refl _)
            rw [prove_ends HOK.out HC.out false] at hpf
            refine (hpf).mono ?_
            rintro e u13 ⟨rfl, hb⟩
            replace HXA := Lib.hid ((hb.block _ (lt_of_block HXA.out)).trans HXA.out)
            replace HBA := Lib.hid (below_to HBA.out hb)
            replace HRV := Lib.hid ((HRV.out.same (.below (Nat.le_refl _) hb)).up hb.size)
            replace HU := Lib.hid (below_to HU.out hb)
            replace HLV := Lib.hid ((HLV.out.same (.below (Nat.le_refl _) hb)).up hb.size)
            replace HCV := Lib.hid ((HCV.out.same (.below (Nat.le_refl _) hb)).up hb.size)
            replace BT := Lib.hid ((hb.block _ (lt_of_block BT.out)).trans BT.out)
            replace HV1 := Lib.hid ((HV1.out.same (.below (Nat.le_refl _) hb)).up hb.size)
            replace HG8 := Lib.hid ((HG8.out.same (.below (Nat.le_refl _) hb)).up hb.size)
            clear hb
            clear hpf
            clear HV1
            clear HG8
            go_wp2_with fail
            obtain ⟨gb', go', gc', e, hgb, px⟩ := ints_get HLV.out (k := P) (by rw [ends_len]; exact hPN)
            rw [ends_len] at e
            cases e
            obtain ⟨rb', ro', rc', e, hrb, pr0, pr1⟩ := grs_get2 HRV.out hPN
            cases e
            rw [ends_at hPN] at px
            have hen2 : tq.lo = -d (P + 1) 0 := hen.trans (end_nat d P).1
            simp only [Bool.false_eq_true, if_false] at px
            have c0 := cell_of_row u13 bt 0 _ _ _ BT.out
            have c1 := cell_of_row u13 bt 1 _ _ _ BT.out
            simp only [List.getElem?_toArray, List.getElem?_cons_zero, List.getElem?_cons_succ] at c0 c1
            have lc := lt_of_block BT.out
            rw [hen2] at c0
            clear hen hen2
            generalize -d (P + 1) 0 = dl at *
            generalize d 0 (P + 1) = dh at *
            have g1 := cell_regrown px
            have g2 := cell_regrown pr0
            have g3 := cell_regrown pr1
            have g4 := cell_regrown c0
            have g5 := cell_regrown c1
            refine wp_region_quiet_below (by kernel_rfl) (by kernel_rfl) ?_
            repeat (quiet_step (fail))
            refine wpQuiet_nil ?_
            intro q9 hw'
            obtain ⟨⟨dq, osq⟩, hw''⟩ := hw'
            have hb := below_regrown u13 dq osq
            rw [← hw''] at hb
            clear hw'' dq osq g1 g2 g3 g4 g5 px pr0 pr1 c0 c1 lc hgb hrb
            replace HXA := Lib.hid ((hb.block _ (lt_of_block HXA.out)).trans HXA.out)
            replace HBA := Lib.hid (below_to HBA.out hb)
            replace HRV := Lib.hid ((HRV.out.same (.below (Nat.le_refl _) hb)).up hb.size)
            replace HU := Lib.hid (below_to HU.out hb)
            replace HLV := Lib.hid ((HLV.out.same (.below (Nat.le_refl _) hb)).up hb.size)
            replace HCV := Lib.hid ((HCV.out.same (.below (Nat.le_refl _) hb)).up hb.size)
            replace BT := Lib.hid ((hb.block _ (lt_of_block BT.out)).trans BT.out)
            clear hb
            go_wp2_with fail
            go_roundw
            case rel => exact ⟨1, by decide, rfl, HU⟩
            case measure => simp [intOf]
          | 1, _ =>
            have c0 := cell_of_row q0 w.heap.size 0 _ _ _ HXA.out
            have c1 := cell_of_row q0 w.heap.size 1 _ _ _ HXA.out
            simp only [List.getElem?_toArray, List.getElem?_cons_zero, List.getElem?_cons_succ] at c0 c1
            have lc := lt_of_block HXA.out
            go_wp2_with fail
            clear c0 c1 lc
            refine (HAL.out q0 HBA.out).mono ?_
            rintro e u14 ⟨⟨r1, rfl, ho⟩, hb⟩
            replace HXA := Lib.hid ((hb.block _ (lt_of_block HXA.out)).trans HXA.out)
            replace HBA := Lib.hid (below_to HBA.out hb)
            replace HRV := Lib.hid ((HRV.out.same (.below (Nat.le_refl _) hb)).up hb.size)
            replace HU := Lib.hid (below_to HU.out hb)
            clear hb
            have HV1 := Lib.hid (own_cms (l := cs) ho)
            clear ho
            go_wp2_with fail
            refine (Shows_some true HOK.out HV1.out HPB.out HD.out).mono ?_
            rintro e u15 ⟨⟨rl, rfl, hg⟩, hb⟩
            replace HXA := Lib.hid ((hb.block _ (lt_of_block HXA.out)).trans HXA.out)
            replace HBA := Lib.hid (below_to HBA.out hb)
            replace HRV := Lib.hid ((HRV.out.same (.below (Nat.le_refl _) hb)).up hb.size)
            replace HU := Lib.hid (below_to HU.out hb)
            replace HV1 := Lib.hid ((HV1.out.same (.below (Nat.le_refl _) hb)).up hb.size)
            clear hb
            clear HV1
            have HLV := Lib.hid hg
            clear hg
            obtain ⟨lb, loff, lc2, hr2, -⟩ := ints_get HLV.out (k := P) (by rw [ends_len]; exact hPN)
            rw [ends_len] at hr2
            subst hr2
            have c0 := cell_of_row u15 w.heap.size 0 _ _ _ HXA.out
            have c1 := cell_of_row u15 w.heap.size 1 _ _ _ HXA.out
            simp only [List.getElem?_toArray, List.getElem?_cons_zero, List.getElem?_cons_succ] at c0 c1
            have lc := lt_of_block HXA.out
            go_wp2_with fail
            clear c0 c1 lc
            refine (HAL.out u15 HBA.out).mono ?_
            rintro e u16 ⟨⟨r1, rfl, ho⟩, hb⟩
            replace HXA := Lib.hid ((hb.block _ (lt_of_block HXA.out)).trans HXA.out)
            replace HBA := Lib.hid (below_to HBA.out hb)
            replace HRV := Lib.hid ((HRV.out.same (.below (Nat.le_refl _) hb)).up hb.size)
            replace HU := Lib.hid (below_to HU.out hb)
            replace HLV := Lib.hid ((HLV.out.same (.below (Nat.le_refl _) hb)).up hb.size)
            clear hb
            have HV1 := Lib.hid (own_cms (l := cs) ho)
            clear ho
            go_wp2_with fail
            refine (Chain_some true HOK.out HV1.out HPB.out HD.out).mono ?_
            rintro e u17 ⟨⟨ca, cc, ch, rfl, hg, htl, hcl⟩, hb⟩
            replace HXA := Lib.hid ((hb.block _ (lt_of_block HXA.out)).trans HXA.out)
            replace HBA := Lib.hid (below_to HBA.out hb)
            replace HRV := Lib.hid ((HRV.out.same (.below (Nat.le_refl _) hb)).up hb.size)
            replace HU := Lib.hid (below_to HU.out hb)
            replace HLV := Lib.hid ((HLV.out.same (.below (Nat.le_refl _) hb)).up hb.size)
            replace HV1 := Lib.hid ((HV1.out.same (.below (Nat.le_refl _) hb)).up hb.size)
            clear hb
            clear HV1
            have HCV := Lib.hid hg
            clear hg
            obtain ⟨tq, htq, hen⟩ := htl
            have HTQ := Lib.hid htq
            clear htq
            have c0 := cell_of_row u17 w.heap.size 0 _ _ _ HXA.out
            have c1 := cell_of_row u17 w.heap.size 1 _ _ _ HXA.out
            simp only [List.getElem?_toArray, List.getElem?_cons_zero, List.getElem?_cons_succ] at c0 c1
            have lc := lt_of_block HXA.out
            go_wp2_with fail
            clear c0 c1 lc
            refine (HAL.out u17 HBA.out).mono ?_
            rintro e u18 ⟨⟨r1, rfl, ho⟩, hb⟩
            replace HXA := Lib.hid ((hb.block _ (lt_of_block HXA.out)).trans HXA.out)
            replace HBA := Lib.hid (below_to HBA.out hb)
            replace HRV := Lib.hid ((HRV.out.same (.below (Nat.le_refl _) hb)).up hb.size)
            replace HU := Lib.hid (below_to HU.out hb)
            replace HLV := Lib.hid ((HLV.out.same (.below (Nat.le_refl _) hb)).up hb.size)
            replace HCV := Lib.hid ((HCV.out.same (.below (Nat.le_refl _) hb)).up hb.size)
            clear hb
            have HV1 := Lib.hid (own_cms (l := cs) ho)
            clear ho
            go_wp2_with fail
            refine (list_any u18.heap.size _ ch u18 (by omega) HCV.out (Nat.le_refl _)).mono ?_
            rintro e u19 ⟨⟨r8, rfl, ho⟩, hb⟩
            replace HXA := Lib.hid ((hb.block _ (lt_of_block HXA.out)).trans HXA.out)
            replace HBA := Lib.hid (below_to HBA.out hb)
            replace HRV := Lib.hid ((HRV.out.same (.below (Nat.le_refl _) hb)).up hb.size)
            replace HU := Lib.hid (below_to HU.out hb)
            replace HLV := Lib.hid ((HLV.out.same (.below (Nat.le_refl _) hb)).up hb.size)
            replace HCV := Lib.hid ((HCV.out.same (.below (Nat.le_refl _) hb)).up hb.size)
            replace HV1 := Lib.hid ((HV1.out.same (.below (Nat.le_refl _) hb)).up hb.size)
            clear hb
            obtain ⟨ta, tc, htv⟩ := own_shape ho
            subst htv
            have htc := own_cap2 ho
            have HT1 := Lib.hid (own_ints (l := ch) ho)
            clear ho
            go_wp2_with fail
            refine (Tells_some HOK.out HV1.out htc HT1.out HPB.out hcl HTQ.out).mono ?_
            rintro e u20 ⟨rfl, hb⟩
            replace HXA := Lib.hid ((hb.block _ (lt_of_block HXA.out)).trans HXA.out)
            replace HBA := Lib.hid (below_to HBA.out hb)
            replace HRV := Lib.hid ((HRV.out.same (.below (Nat.le_refl _) hb)).up hb.size)
            replace HU := Lib.hid (below_to HU.out hb)
            replace HLV := Lib.hid ((HLV.out.same (.below (Nat.le_refl _) hb)).up hb.size)
            replace HCV := Lib.hid ((HCV.out.same (.below (Nat.le_refl _) hb)).up hb.size)
            replace HV1 := Lib.hid ((HV1.out.same (.below (Nat.le_refl _) hb)).up hb.size)
            replace HT1 := Lib.hid ((HT1.out.same (.below (Nat.le_refl _) hb)).up hb.size)
            clear hb
            clear HV1
            clear HT1
            have hc8 : decide ((8 : Int) < ch.length) = false := decide_eq_false (by omega)
            have c0 := cell_of_row u20 w.heap.size 0 _ _ _ HXA.out
            have c1 := cell_of_row u20 w.heap.size 1 _ _ _ HXA.out
            simp only [List.getElem?_toArray, List.getElem?_cons_zero, List.getElem?_cons_succ] at c0 c1
            have lc := lt_of_block HXA.out
            go_wp2_with fail
            clear c0 c1 lc
            have hbx := box_below u20 (.cells #[.int .i64 tq.lo, .int .i64 tq.hi] 41)
            have hnx := heap_alloc_new u20 (.cells #[.int .i64 tq.lo, .int .i64 tq.hi] 41)
            replace HXA := Lib.hid ((hbx.block _ (lt_of_block HXA.out)).trans HXA.out)
            replace HBA := Lib.hid (below_to HBA.out hbx)
            replace HRV := Lib.hid ((HRV.out.same (.below (Nat.le_refl _) hbx)).up hbx.size)
            replace HU := Lib.hid (below_to HU.out hbx)
            replace HLV := Lib.hid ((HLV.out.same (.below (Nat.le_refl _) hbx)).up hbx.size)
            replace HCV := Lib.hid ((HCV.out.same (.below (Nat.le_refl _) hbx)).up hbx.size)
            have BT := Lib.hid hnx
            clear hbx hnx
            generalize World.alloc u20 _ = u21 at *
            generalize u20.heap.size = bt at *
            refine (HAL.out u21 HBA.out).mono ?_
            rintro e u22 ⟨⟨r1, rfl, ho⟩, hb⟩
            replace HXA := Lib.hid ((hb.block _ (lt_of_block HXA.out)).trans HXA.out)
            replace HBA := Lib.hid (below_to HBA.out hb)
            replace HRV := Lib.hid ((HRV.out.same (.below (Nat.le_refl _) hb)).up hb.size)
            replace HU := Lib.hid (below_to HU.out hb)
            replace HLV := Lib.hid ((HLV.out.same (.below (Nat.le_refl _) hb)).up hb.size)
            replace HCV := Lib.hid ((HCV.out.same (.below (Nat.le_refl _) hb)).up hb.size)
            replace BT := Lib.hid ((hb.block _ (lt_of_block BT.out)).trans BT.out)
            clear hb
            have HV1 := Lib.hid (own_cms (l := cs) ho)
            clear ho
            go_wp2_with fail
            have hlv := list_any u22.heap.size (.slice (some ⟨lb, loff, none⟩) N lc2) (endsL true (gradesL d N)) u22 (by rw [ends_len]; omega) HLV.out (Nat.le_refl _)
            refine (hlv).mono ?_
            rintro e u23 ⟨⟨r9, rfl, ho⟩, hb⟩
            replace HXA := Lib.hid ((hb.block _ (lt_of_block HXA.out)).trans HXA.out)
            replace HBA := Lib.hid (below_to HBA.out hb)
            replace HRV := Lib.hid ((HRV.out.same (.below (Nat.le_refl _) hb)).up hb.size)
            replace HU := Lib.hid (below_to HU.out hb)
            replace HLV := Lib.hid ((HLV.out.same (.below (Nat.le_refl _) hb)).up hb.size)
            replace HCV := Lib.hid ((HCV.out.same (.below (Nat.le_refl _) hb)).up hb.size)
            replace BT := Lib.hid ((hb.block _ (lt_of_block BT.out)).trans BT.out)
            replace HV1 := Lib.hid ((HV1.out.same (.below (Nat.le_refl _) hb)).up hb.size)
            clear hb
            clear hlv
            have HG8 := Lib.hid (own_ints (l := endsL true (gradesL d N)) ho)
            clear ho
            go_wp2_with fail
            have hpf := ProveFit_any u23.heap.size N _ _ cs (endsL true (gradesL d N)) u23 HOK.out.maxLen (by rw [ends_len]; simp [maxLen]; omega) HV1.out HG8.out (Nat.le_refl _)
            rw [prove_ends HOK.out HC.out true] at hpf
            refine (hpf).mono ?_
            rintro e u24 ⟨rfl, hb⟩
            replace HXA := Lib.hid ((hb.block _ (lt_of_block HXA.out)).trans HXA.out)
            replace HBA := Lib.hid (below_to HBA.out hb)
            replace HRV := Lib.hid ((HRV.out.same (.below (Nat.le_refl _) hb)).up hb.size)
            replace HU := Lib.hid (below_to HU.out hb)
            replace HLV := Lib.hid ((HLV.out.same (.below (Nat.le_refl _) hb)).up hb.size)
            replace HCV := Lib.hid ((HCV.out.same (.below (Nat.le_refl _) hb)).up hb.size)
            replace BT := Lib.hid ((hb.block _ (lt_of_block BT.out)).trans BT.out)
            replace HV1 := Lib.hid ((HV1.out.same (.below (Nat.le_refl _) hb)).up hb.size)
            replace HG8 := Lib.hid ((HG8.out.same (.below (Nat.le_refl _) hb)).up hb.size)
            clear hb
            clear hpf
            clear HV1
            clear HG8
            go_wp2_with fail
            obtain ⟨gb', go', gc', e, hgb, px⟩ := ints_get HLV.out (k := P) (by rw [ends_len]; exact hPN)
            rw [ends_len] at e
            cases e
            obtain ⟨rb', ro', rc', e, hrb, pr0, pr1⟩ := grs_get2 HRV.out hPN
            cases e
            rw [ends_at hPN] at px
            have hen2 : tq.hi = d 0 (P + 1) := hen.trans (end_nat d P).2
            simp only [if_true] at px
            have c0 := cell_of_row u24 bt 0 _ _ _ BT.out
            have c1 := cell_of_row u24 bt 1 _ _ _ BT.out
            simp only [List.getElem?_toArray, List.getElem?_cons_zero, List.getElem?_cons_succ] at c0 c1
            have lc := lt_of_block BT.out
            rw [hen2] at c1
            clear hen hen2
            generalize -d (P + 1) 0 = dl at *
            generalize d 0 (P + 1) = dh at *
            have g1 := cell_regrown px
            have g2 := cell_regrown pr0
            have g3 := cell_regrown pr1
            have g4 := cell_regrown c0
            have g5 := cell_regrown c1
            refine wp_region_quiet_below (by kernel_rfl) (by kernel_rfl) ?_
            repeat (quiet_step (fail))
            refine wpQuiet_nil ?_
            intro q9 hw'
            obtain ⟨⟨dq, osq⟩, hw''⟩ := hw'
            have hb := below_regrown u24 dq osq
            rw [← hw''] at hb
            clear hw'' dq osq g1 g2 g3 g4 g5 px pr0 pr1 c0 c1 lc hgb hrb
            replace HXA := Lib.hid ((hb.block _ (lt_of_block HXA.out)).trans HXA.out)
            replace HBA := Lib.hid (below_to HBA.out hb)
            replace HRV := Lib.hid ((HRV.out.same (.below (Nat.le_refl _) hb)).up hb.size)
            replace HU := Lib.hid (below_to HU.out hb)
            replace HLV := Lib.hid ((HLV.out.same (.below (Nat.le_refl _) hb)).up hb.size)
            replace HCV := Lib.hid ((HCV.out.same (.below (Nat.le_refl _) hb)).up hb.size)
            replace BT := Lib.hid ((hb.block _ (lt_of_block BT.out)).trans BT.out)
            clear hb
            go_wp2_with fail
            go_roundw
            case rel => exact ⟨2, by decide, rfl, HU⟩
            case measure => simp [intOf]
          | 2, _ =>
            go_wp2_with fail
            refine (awake_any q0).mono ?_
            rintro e v9 ⟨rfl, hb⟩
            have HBF := Lib.hid (below_to HBA.out hb)
            clear hb
            go_wp2
            go_ret
            exact ⟨rfl, HBF.out⟩
end Go.Proofs.Ytplmlmmjfkbabaa
