/- The least list of the fewest comparisons, as plain lists; which list is less, by the reference. No condition. The doubtful comparisons by the reference. Condition: a valid album of at most nine comparisons. -/
import Derived.Test.YtplmlmmjfkbabaaSN
namespace Go.Proofs.Ytplmlmmjfkbabaa
open Go.RowKit Go.Shelf
attribute [local irreducible] arrV wpQuiet mat shl

theorem lex_trans : ∀ {a b c : List Int}, lexB a b = true → lexB b c = true → lexB a c = true
  | x :: a, y :: b, z :: c, h1, h2 => by
    unfold lexB at h1 h2 ⊢
    by_cases e : x = y
    · subst e
      rw [if_pos rfl] at h1
      by_cases e2 : x = z
      · rw [if_pos e2] at h2 ⊢
        exact lex_trans h1 h2
      · rw [if_neg e2] at h2 ⊢
        exact h2
    · rw [if_neg e, decide_eq_true_eq] at h1
      by_cases e2 : y = z
      · subst e2
        rw [if_neg e, decide_eq_true_eq]
        exact h1
      · rw [if_neg e2, decide_eq_true_eq] at h2
        rw [if_neg (by omega), decide_eq_true_eq]
        omega
  | [], _, _, h1, _ => by simp [lexB] at h1
  | _ :: _, [], _, h1, _ => by simp [lexB] at h1
  | _ :: _, _ :: _, [], _, h2 => by simp [lexB] at h2
theorem less_trans {a b c : List Int} (h1 : lessL a b = true) (h2 : lessL b c = true) : lessL a c = true := by
  unfold lessL at h1 h2 ⊢
  by_cases e : a.length = b.length <;> by_cases e2 : b.length = c.length
  · rw [if_pos e] at h1
    rw [if_pos e2] at h2
    rw [if_pos (e.trans e2)]
    exact lex_trans h1 h2
  · rw [if_neg e2, decide_eq_true_eq] at h2
    rw [if_neg (by omega), decide_eq_true_eq]
    omega
  · rw [if_neg e, decide_eq_true_eq] at h1
    rw [if_neg (by omega), decide_eq_true_eq]
    omega
  · rw [if_neg e, decide_eq_true_eq] at h1
    rw [if_neg e2, decide_eq_true_eq] at h2
    rw [if_neg (by omega), decide_eq_true_eq]
    omega

def listS (f : Nat → Bool) (n : Nat) : List Int := ((List.range n).filter f).map (fun i : Nat => (i : Int))
theorem listS_yes {f : Nat → Bool} {k : Nat} (h : f k = true) : listS f (k + 1) = listS f k ++ [(k : Int)] := by
  simp [listS, List.range_succ, List.filter_append, h]
theorem listS_no {f : Nat → Bool} {k : Nat} (h : f k = false) : listS f (k + 1) = listS f k := by
  simp [listS, List.range_succ, List.filter_append, h]
theorem listS_len (f : Nat → Bool) (k : Nat) : (listS f k).length ≤ k := by
  have := List.length_filter_le f (List.range k)
  simpa [listS] using this

/-- The sets of comparisons, by bits; the best list so far, as the reference finds it. -/
def bitF (k : Nat) : Nat → Bool := fun i => decide (k / 2 ^ i % 2 = 1)
def bestT (al : List Int → Bool) (n : Nat) : Nat → List Int
  | 0 => listS (fun _ => true) n
  | k + 1 => if (lessL (listS (bitF k) n) (bestT al n k) && al (listS (bitF k) n)) = true then listS (bitF k) n else bestT al n k
theorem bitF_lt {k n : Nat} (h : k < 2 ^ n) {i : Nat} (hi : n ≤ i) : bitF k i = false := by
  unfold bitF
  have : k / 2 ^ i = 0 := Nat.div_eq_of_lt (Nat.lt_of_lt_of_le h (Nat.pow_le_pow_right (by decide) hi))
  rw [this]
  rfl
theorem bits_all (t : Nat → Bool) : ∀ n, ∃ k, k < 2 ^ n ∧ ∀ i, i < n → bitF k i = t i
  | 0 => ⟨0, by decide, fun i hi => by omega⟩
  | n + 1 => by
    obtain ⟨k, hk, hb⟩ := bits_all t n
    have e2 : 2 ^ (n + 1) = 2 ^ n + 2 ^ n := by rw [Nat.pow_succ]; omega
    refine ⟨k + (if t n = true then 2 ^ n else 0), by split <;> omega, fun i hi => ?_⟩
    by_cases hin : i = n
    · subst hin
      unfold bitF
      cases ht : t i with
      | true =>
        rw [if_pos rfl, Nat.add_div_right _ (Nat.two_pow_pos i), Nat.div_eq_of_lt hk]
        rfl
      | false =>
        rw [if_neg (by simp), Nat.add_zero, Nat.div_eq_of_lt hk]
        rfl
    · have hlt : i < n := by omega
      rw [← hb i hlt]
      unfold bitF
      split
      · congr 1
        have e3 : 2 ^ n = 2 ^ i * (2 * 2 ^ (n - i - 1)) := by rw [← Nat.pow_succ', ← Nat.pow_add]; congr 1; omega
        rw [e3, Nat.add_mul_div_left _ _ (Nat.two_pow_pos i), Nat.add_mul_mod_self_left]
      · rw [Nat.add_zero]
theorem listS_ext {s t : Nat → Bool} {n : Nat} (h : ∀ i, i < n → s i = t i) : listS s n = listS t n := by
  unfold listS
  congr 1
  exact List.filter_congr fun i hi => h i (List.mem_range.1 hi)
theorem best_inv {al : List Int → Bool} {n : Nat} (hfull : al (listS (fun _ => true) n) = true) : ∀ k, (∃ t, bestT al n k = listS t n) ∧ al (bestT al n k) = true ∧ ∀ j, j < k → al (listS (bitF j) n) = true → lessL (listS (bitF j) n) (bestT al n k) = false
  | 0 => ⟨⟨_, rfl⟩, hfull, fun j hj => by omega⟩
  | k + 1 => by
    obtain ⟨⟨t, h1⟩, h2, h3⟩ := best_inv hfull k
    have irr : ∀ a, lessL a a = false := fun a => by unfold lessL; rw [if_pos rfl]; exact lex_irrefl a
    unfold bestT
    by_cases hc : (lessL (listS (bitF k) n) (bestT al n k) && al (listS (bitF k) n)) = true
    · rw [if_pos hc]
      rw [Bool.and_eq_true] at hc
      refine ⟨⟨_, rfl⟩, hc.2, fun j hj ha => ?_⟩
      by_cases e : j = k
      · rw [e]; exact irr _
      · have h4 := h3 j (by omega) ha
        cases h5 : lessL (listS (bitF j) n) (listS (bitF k) n) with
        | false => rfl
        | true => rw [less_trans h5 hc.1] at h4; cases h4
    · rw [if_neg hc]
      refine ⟨⟨t, h1⟩, h2, fun j hj ha => ?_⟩
      by_cases e : j = k
      · subst e
        rw [ha, Bool.and_true] at hc
        simpa using hc
      · exact h3 j (by omega) ha
theorem numS_snoc : ∀ (q : Nat) (bs : List Bool) (b : Bool), numS q (bs ++ [b]) = numS q bs ++ if b = true then [((q + bs.length : Nat) : Int)] else []
  | q, [], b => by cases b <;> simp [numS]
  | q, x :: bs, b => by
    have := numS_snoc (q + 1) bs b
    have e : q + 1 + bs.length = q + (x :: bs).length := by simp; omega
    rw [e] at this
    cases x <;> simp [numS, this]
theorem numS_list (f : Nat → Bool) : ∀ n, numS 0 ((List.range n).map f) = listS f n
  | 0 => by simp [numS, listS]
  | n + 1 => by
    rw [List.range_succ, List.map_append, List.map_cons, List.map_nil, numS_snoc, numS_list f n]
    cases h : f n with
    | true => rw [listS_yes h]; simp
    | false => rw [listS_no h]; simp
theorem bits_list (bs : List Bool) : (List.range bs.length).map (fun i => bs[i]?.getD false) = bs := by
  refine List.ext_getElem (by simp) fun i h1 h2 => ?_
  simp [h2]
def alC (cs : List Cm) : List Int → Bool := fun l => (distO (woP cs l cs.length)).isSome
theorem alC_list (cs : List Cm) (f : Nat → Bool) : alC cs (listS f cs.length) = (distO (restS cs ((List.range cs.length).map f))).isSome := by
  unfold alC
  rw [woP_all, bits_num (q := 0) (cs := cs) (bs := (List.range cs.length).map f) (by simp) fun x _ => by rw [numS_list]]
theorem doubt_best (cs : List Cm) : doubtL cs = bestT (alC cs) cs.length (2 ^ cs.length) := by
  obtain ⟨b, hb, hD, hp, hmin⟩ := doubt_spec cs
  have hfull : alC cs (listS (fun _ => true) cs.length) = true := by
    rw [alC_list]
    have e : (List.range cs.length).map (fun _ => true) = cs.map fun _ => true := by
      refine List.ext_getElem (by simp) fun i h1 h2 => by simp
    rw [e, rest_none]
    rfl
  obtain ⟨⟨t, e1⟩, e2, e3⟩ := best_inv hfull (2 ^ cs.length)
  have hDl : doubtL cs = listS (fun i => b[i]?.getD false) cs.length := by
    rw [hD, ← numS_list, ← hb, bits_list]
  rw [e1] at e2 e3 ⊢
  obtain ⟨k, hk, hbk⟩ := bits_all (fun i => b[i]?.getD false) cs.length
  refine less_total ?_ ?_
  · have := e3 k hk (by rw [listS_ext hbk, alC_list, ← hb, bits_list]; exact hp)
    rw [listS_ext hbk, ← hDl] at this
    exact this
  · rw [alC_list] at e2
    have := hmin _ (by simp) e2
    rwa [numS_list] at this
set_option maxRecDepth 100000 in
set_option maxHeartbeats 2000000 in
theorem Less_any (n : Nat) (av bv : Value) (a b : List Int) (w : World) (hla : a.length ≤ 1000) (hlb : b.length ≤ 1000) (hA : IntsV n w av a) (hB : IntsV n w bv b) (hn : n ≤ w.heap.size) :
    Calls Try.prog 65 #[av, bv] w fun e w' => e = .returned (.bool (lessL a b)) ∧ Below w.heap.size w w' := by
  obtain ⟨a0, ac, rfl, hap⟩ := hA
  obtain ⟨b0, bc, rfl, hbp⟩ := hB
  have HAP := Lib.hid hap
  have HBP := Lib.hid hbp
  clear hap hbp
  by_cases hle : a.length = b.length
  · have HAT : Hid (∀ q, (∀ j, j < q → ld a j = ld b j) → q < a.length → ld a q ≠ ld b q → lessL a b = decide (ld a q < ld b q)) := Lib.hid fun q h1 h2 h3 => by
      unfold lessL
      rw [if_pos hle]
      exact lex_at h1 h2 (by omega) h3
    have HEQ : Hid ((∀ j, j < a.length → ld a j = ld b j) → lessL a b = false) := Lib.hid fun h => by
      unfold lessL
      rw [if_pos hle]
      exact lex_eq hle h
    rw [← hle] at HBP ⊢
    generalize lessL a b = Z at *
    have hee : ((a.length : Int) == a.length) = true := by simp
    clear hle hlb
    go_enter Try.func65, Try.ntmps65
    go_wp2
    go_loopw [5] (fun i wr => ∃ q : Nat, q ≤ a.length ∧ i = .int .i64 q ∧ Hid (Below w.heap.size w wr) ∧ Hid (∀ j, j < q → ld a j = ld b j)) (fun i _ => a.length - (intOf i).toNat)
    case atStart => exact ⟨0, Nat.zero_le _, rfl, Lib.hid (Below.refl _ _), Lib.hid (fun j hj => by omega)⟩
    case round =>
      obtain ⟨q, hq, rfl, HB, HS⟩ := hrel
      by_cases hlt : q < a.length
      · obtain ⟨xb, xo, rfl, hxb, hxc⟩ := HAP.out (by omega)
        obtain ⟨yb, yo, rfl, hyb, hyc⟩ := HBP.out (by omega)
        have p1 := (HB.out.cell (p := ⟨xb, xo + q, none⟩) (by show xb < w.heap.size; omega)).trans (hxc q hlt)
        have p2 := (HB.out.cell (p := ⟨yb, yo + q, none⟩) (by show yb < w.heap.size; omega)).trans (hyc q hlt)
        have hqn : (q : Int) < a.length := by omega
        have hwq : IntKind.i64.wrap ((q : Int) + 1) = (q : Int) + 1 := IntWalk.i64_in _ (by omega)
        have HSQ : Hid (ld a q = ld b q → ∀ j, j < q + 1 → ld a j = ld b j) := Lib.hid fun h j hj => by
          by_cases e : j = q
          · rw [e]; exact h
          · exact HS.out j (by omega)
        have HAQ := Lib.hid (HAT.out q HS.out hlt)
        generalize ld a q = x at *
        generalize ld b q = y at *
        have g1 := cell_regrown p1
        have g2 := cell_regrown p2
        clear hxc hyc p1 p2 HS
        go_wp2_with fail
        refine wp_region_quiet_below (by kernel_rfl) (by kernel_rfl) ?_
        repeat (quiet_step (fail))
        refine wpQuiet_nil ?_
        intro _ hw'
        obtain ⟨⟨dq, osq⟩, hw''⟩ := hw'
        subst hw''
        have hbr := Lib.hid (below_to HB.out (below_regrown wr dq osq))
        have k1 := g1 dq osq
        have k2 := g2 dq osq
        clear g1 g2 HB
        generalize Sort.grow (redrawn wr dq) osq = wx at *
        by_cases hxy : x = y
        · have HZ := Lib.hid (HSQ.out hxy)
          subst hxy
          have hxx : (x != x) = false := by simp
          clear k1 k2 HSQ HAQ
          go_wp2
          go_roundw
          case rel => exact ⟨q + 1, by omega, by simp, hbr, HZ⟩
          case measure => simp [intOf]; omega
        · have HZ := Lib.hid (HAQ.out hxy)
          have hxx : (x != y) = true := by rw [bne_iff_ne]; exact hxy
          have g1 := cell_regrown k1
          have g2 := cell_regrown k2
          clear k1 k2 HSQ HAQ
          go_wp2_with fail
          refine wp_region_quiet_below (by kernel_rfl) (by kernel_rfl) ?_
          repeat (quiet_step (fail))
          refine wpQuiet_nil ?_
          intro _ hw'
          obtain ⟨⟨dq2, osq2⟩, hw''⟩ := hw'
          subst hw''
          have hbr2 := Lib.hid (below_to hbr.out (below_regrown wx dq2 osq2))
          clear g1 g2
          go_wp2
          go_ret
          exact ⟨by rw [HZ.out]; rfl, hbr2.out⟩
      · obtain rfl : q = a.length := by omega
        have HZ := Lib.hid (HEQ.out HS.out)
        go_wp2
        go_ret
        exact ⟨by rw [HZ.out]; simp, HB.out⟩
  · have HZ : Hid (lessL a b = decide (a.length < b.length)) := Lib.hid (by
      unfold lessL
      rw [if_neg hle])
    have hee : ((a.length : Int) == b.length) = false := by rw [beq_eq_false_iff_ne]; omega
    generalize lessL a b = Z at *
    go_enter Try.func65, Try.ntmps65
    go_wp2
    go_loopw [5] (fun i wr => i = .int .i64 0 ∧ wr = w) (fun i _ => 0)
    case atStart => exact ⟨rfl, rfl⟩
    case round =>
      obtain ⟨rfl, rfl⟩ := hrel
      by_cases h0 : 0 < a.length
      · have h0i : (0 : Int) < a.length := by omega
        go_wp2
        go_ret
        exact ⟨by rw [HZ.out]; rfl, Below.refl _ _⟩
      · have h0i : ¬ (0 : Int) < a.length := by omega
        have h0d : decide ((0 : Int) < a.length) = false := decide_eq_false h0i
        go_wp2
        go_ret
        exact ⟨by rw [HZ.out]; rfl, Below.refl _ _⟩
end Go.Proofs.Ytplmlmmjfkbabaa
namespace Go.Proofs.Ytplmlmmjfkbabaa
open Go.RowKit Go.Shelf
attribute [local irreducible] arrV wpQuiet mat shl

theorem bestT_step (al : List Int → Bool) (n k : Nat) : bestT al n (k + 1) = if (lessL (listS (bitF k) n) (bestT al n k) && al (listS (bitF k) n)) = true then listS (bitF k) n else bestT al n k := rfl
theorem best_len (al : List Int → Bool) (n : Nat) : ∀ k, (bestT al n k).length ≤ n
  | 0 => listS_len _ _
  | k + 1 => by
    rw [bestT_step]
    split
    · exact listS_len _ _
    · exact best_len al n k
theorem bit_div (k q : Nat) : ((k : Int) / 2 ^ q).tmod 2 = ((k / 2 ^ q % 2 : Nat) : Int) := by
  rw [show (k : Int) / 2 ^ q = ((k / 2 ^ q : Nat) : Int) by simp]
  rfl
theorem bit_one {k q : Nat} (h : bitF k q = true) : k / 2 ^ q % 2 = 1 := by simpa [bitF] using h
theorem bit_nil {k q : Nat} (h : bitF k q = false) : k / 2 ^ q % 2 = 0 := by
  have : ¬ k / 2 ^ q % 2 = 1 := by simpa [bitF] using h
  omega
theorem ints_own {w : World} {base : Nat} {v : Value} {l : List Int} (h : w.ownsRow base 3 1 v l.length (l.map (Value.int .i64))) : IntsV w.heap.size w v l := own_ints (l := l) (show w.ownsRow base 3 1 v l.length (l.map iV) from h)
set_option maxRecDepth 100000 in
set_option maxHeartbeats 8000000 in
theorem refDoubtful_any (N : Nat) (v : Value) (cs : List Cm) (w : World) (hA : AlbOk N cs) (hl9 : cs.length ≤ 9) (hV : CmsV w.heap.size w v cs) :
    Calls Try.prog 40 #[.agg #[.int .i64 N, v]] w fun e w' => (∃ r, e = .returned r ∧ IntsV w'.heap.size w' r (doubtL cs)) ∧ Below w.heap.size w w' := by
  have HCV := Lib.hid fun w' (h : Below w.heap.size w w') => (hV.same (.below (Nat.le_refl _) h)).up h.size
  have HOK := Lib.hid hA
  have HDB := Lib.hid (doubt_best cs)
  obtain ⟨a, cap, rfl, -⟩ := hV
  have HX := Lib.hid (heap_alloc_new w (.cells #[.int .i64 N, .slice a cs.length cap] 24))
  have HB := Lib.hid (box_below w (.cells #[.int .i64 N, .slice a cs.length cap] 24))
  clear hA
  go_enter Try.func40, Try.ntmps40
  go_wp2_with fail
  generalize World.alloc w _ = W at *
  go_loopw [3, 4] (fun v i wr => ∃ q : Nat, q ≤ cs.length ∧ i = .int .i64 q ∧ Hid (wr.heap[w.heap.size]? = some (.cells #[.int .i64 N, .slice a cs.length cap] 24 (0, 0))) ∧ Hid (Below w.heap.size w wr) ∧ Hid (wr.ownsRow (w.heap.size + 1) 3 1 v (listS (fun _ => true) q).length ((listS (fun _ => true) q).map (Value.int .i64)))) (fun _ i _ => cs.length - (intOf i).toNat)
  case atStart => exact ⟨0, Nat.zero_le _, rfl, HX, HB, Lib.hid (World.ownsRow_nil _ _ _ _)⟩
  case round =>
    clear HX HB
    obtain ⟨q, hq, rfl, HX, HB, HO⟩ := hrel
    have c1 := cell_of_row wr w.heap.size 1 _ _ _ HX.out
    simp only [List.getElem?_toArray, List.getElem?_cons_zero, List.getElem?_cons_succ] at c1
    have l0 := lt_of_block HX.out
    by_cases hlt : q < cs.length
    · have hqn : (q : Int) < cs.length := by omega
      have hw9 : IntKind.i64.wrap ((q : Int) + 1) = (q : Int) + 1 := IntWalk.i64_in _ (by omega)
      have HE := Lib.hid (@listS_yes (fun _ => true) q rfl)
      have HLEN := Lib.hid (listS_len (fun _ => true) q)
      go_wp2_with (first
        | (refine wpList_app el50 rfl (.tmp 17) (.tmp 19) rfl (w.heap.size + 1) _ _ _ #[.int .i64 q] rfl (by intro u hu; simp at hu; subst hu; rfl) rfl rfl HO.out (by omega) (by have := HLEN.out; omega) ?_
           intro g c w' hown hgr _)
        | fail)
      go_roundw
      case rel =>
        refine ⟨q + 1, by omega, by simp, Lib.hid ((hgr.below.block _ (by omega)).trans HX.out), Lib.hid (HB.out.trans (hgr.below.mono (by omega))), Lib.hid ?_⟩
        rw [HE.out, List.length_append, List.map_append]
        exact hown
      case measure => simp [intOf] <;> omega
    · obtain rfl : q = cs.length := by omega
      have HBEST := Lib.hid (ints_own HO.out)
      change Hid (IntsV _ _ _ (bestT (alC cs) cs.length 0)) at HBEST
      clear HO
      generalize wr = wa at *
      have hp64 : (2 : Nat) ^ cs.length ≤ 512 := by
        have : (2 : Nat) ^ cs.length ≤ 2 ^ 9 := Nat.pow_le_pow_right (by decide) hl9
        simpa using this
      have hcu : IntKind.u64.wrap (cs.length : Int) = cs.length := by simp [IntKind.wrap, IntKind.signed, IntKind.bits]; omega
      have hs0 : (0 : Int) ≤ cs.length := by omega
      have hs64 : (cs.length : Int) ≤ 64 := by omega
      obtain ⟨P, hP⟩ : ∃ P : Nat, 2 ^ cs.length = P := ⟨_, rfl⟩
      have HP := Lib.hid hP
      have hPI : (2 : Int) ^ cs.length = (P : Int) := by rw [← hP]; simp
      rw [hP] at hp64
      have hshl : IntKind.i64.wrap ((2 : Int) ^ cs.length) = (P : Int) := by rw [hPI]; exact IntWalk.i64_in _ (by omega)
      have hshz : wrap64 ((2 : Int) ^ cs.length) = (P : Int) := by rw [hPI]; exact IntWalk.wrap64_in _ (by omega)
      clear hP hPI
      go_wp2_with fail
      clear c1 l0
      go_loopw [3, 5] (fun v i wr => ∃ k : Nat, k ≤ P ∧ i = .int .i64 k ∧ Hid (wr.heap[w.heap.size]? = some (.cells #[.int .i64 N, .slice a cs.length cap] 24 (0, 0))) ∧ Hid (Below w.heap.size w wr) ∧ Hid (IntsV wr.heap.size wr v (bestT (alC cs) cs.length k))) (fun _ i _ => P - (intOf i).toNat)
      case atStart => exact ⟨0, Nat.zero_le _, rfl, HX, HB, HBEST⟩
      case round =>
        clear HX HB HBEST
        obtain ⟨k, hk, rfl, HX, HB, HBEST⟩ := hrel
        have c1 := cell_of_row wr w.heap.size 1 _ _ _ HX.out
        simp only [List.getElem?_toArray, List.getElem?_cons_zero, List.getElem?_cons_succ] at c1
        have l0 := lt_of_block HX.out
        by_cases hkl : k < P
        · have hkn : (k : Int) < P := by omega
          generalize wr = wb at *
          go_wp2_with fail
          clear c1 l0
          go_loopw [6, 7] (fun v i wr => ∃ q : Nat, q ≤ cs.length ∧ i = .int .i64 q ∧ Hid (Below wb.heap.size wb wr) ∧ Hid (wr.ownsRow wb.heap.size 3 1 v (listS (bitF k) q).length ((listS (bitF k) q).map (Value.int .i64)))) (fun _ i _ => cs.length - (intOf i).toNat)
          case atStart => exact ⟨0, Nat.zero_le _, rfl, Lib.hid (Below.refl _ _), Lib.hid (World.ownsRow_nil _ _ _ _)⟩
          case round =>
            obtain ⟨q, hq, rfl, HB2, HO⟩ := hrel
            have HXR := Lib.hid ((HB2.out.block _ (lt_of_block HX.out)).trans HX.out)
            have c0 := cell_of_row wr w.heap.size 0 _ _ _ HXR.out
            have c1 := cell_of_row wr w.heap.size 1 _ _ _ HXR.out
            simp only [List.getElem?_toArray, List.getElem?_cons_zero, List.getElem?_cons_succ] at c0 c1
            have l0 := lt_of_block HXR.out
            by_cases hql : q < cs.length
            · have hqn : (q : Int) < cs.length := by omega
              have hqu : IntKind.u64.wrap (q : Int) = q := by simp [IntKind.wrap, IntKind.signed, IntKind.bits]; omega
              have hq0 : (0 : Int) ≤ q := by omega
              have hq64 : (q : Int) ≤ 64 := by omega
              have hdv := bit_div k q
              have HLY := Lib.hid fun h => @listS_yes (bitF k) q h
              have HLN := Lib.hid fun h => @listS_no (bitF k) q h
              have HLEN := Lib.hid (listS_len (bitF k) q)
              have hsz2 := HB2.out.size
              by_cases hbq : bitF k q = true
              · have htm : ((k : Int) / 2 ^ q).tmod 2 = 1 := by rw [hdv, bit_one hbq]; rfl
                have HE := Lib.hid (HLY.out hbq)
                clear HLY HLN hdv hbq
                go_wp2_with (first
                  | (refine wpList_app el50 rfl (.tmp 43) (.tmp 45) rfl wb.heap.size _ _ _ #[.int .i64 q] rfl (by intro u hu; simp at hu; subst hu; rfl) rfl rfl HO.out hsz2 (by have := HLEN.out; omega) ?_
                     intro g c w' hown hgr _)
                  | fail)
                go_roundw
                case rel =>
                  refine ⟨q + 1, by omega, by simp, Lib.hid (HB2.out.trans hgr.below), Lib.hid ?_⟩
                  rw [HE.out, List.length_append, List.map_append]
                  exact hown
                case measure => simp [intOf] <;> omega
              · have htm : ((k : Int) / 2 ^ q).tmod 2 = 0 := by rw [hdv, bit_nil (by simpa using hbq)]; rfl
                have HE := Lib.hid (HLN.out (by simpa using hbq))
                clear HLY HLN hdv hbq
                go_wp2_with fail
                go_roundw
                case rel => exact ⟨q + 1, by omega, by simp, HB2, by rw [HE.out]; exact HO⟩
                case measure => simp [intOf] <;> omega
            · obtain rfl : q = cs.length := by omega
              have HL := Lib.hid (ints_own HO.out)
              have HBST := Lib.hid ((HBEST.out.same (.below (Nat.le_refl _) HB2.out)).up HB2.out.size)
              have HBR := Lib.hid (below_to HB.out HB2.out)
              have HSTEP := Lib.hid (bestT_step (alC cs) cs.length k)
              have HLL := Lib.hid (listS_len (bitF k) cs.length)
              have HBL := Lib.hid (best_len (alC cs) cs.length k)
              have hwk : IntKind.i64.wrap ((k : Int) + 1) = (k : Int) + 1 := IntWalk.i64_in _ (by omega)
              clear HO HX HB HB2 HBEST
              generalize listS (bitF k) cs.length = l at *
              generalize hbk : bestT (alC cs) cs.length k = best at *
              clear hbk
              obtain ⟨la, lc, rfl⟩ : ∃ x y, u6 = .slice x l.length y := by obtain ⟨x, y, e, -⟩ := HL.out; exact ⟨x, y, e⟩
              obtain ⟨ba, bc, rfl⟩ : ∃ x y, u3 = .slice x best.length y := by obtain ⟨x, y, e, -⟩ := HBST.out; exact ⟨x, y, e⟩
              have HLE := Lib.hid (Less_any wr.heap.size (.slice la l.length lc) (.slice ba best.length bc) l best wr (by have := HLL.out; omega) (by have := HBL.out; omega) HL.out HBST.out (Nat.le_refl _))
              have HAL : Hid (alC cs l = (distO (woP cs l cs.length)).isSome) := Lib.hid rfl
              generalize lessL l best = z at *
              go_wp2_with fail
              refine HLE.out.mono ?_
              rintro e w2 ⟨rfl, hb⟩
              have HX2 := Lib.hid ((hb.block _ (lt_of_block HXR.out)).trans HXR.out)
              have HB2 := Lib.hid (below_to HBR.out hb)
              have HS2 := Lib.hid ((HBST.out.same (.below (Nat.le_refl _) hb)).up hb.size)
              have HL2 := Lib.hid ((HL.out.same (.below (Nat.le_refl _) hb)).up hb.size)
              clear hb c0 c1 l0 HXR HBR HBST HL HLE
              cases z with
              | false =>
                have HE : Hid (bestT (alC cs) cs.length (k + 1) = best) := Lib.hid (by rw [HSTEP.out, Bool.false_and, if_neg (by simp)])
                go_wp2_with fail
                go_roundw
                case rel => exact ⟨k + 1, by omega, by simp, HX2, HB2, by rw [HE.out]; exact HS2⟩
                case measure => simp [intOf] <;> omega
              | true =>
                have c0 := cell_of_row w2 w.heap.size 0 _ _ _ HX2.out
                have c1 := cell_of_row w2 w.heap.size 1 _ _ _ HX2.out
                simp only [List.getElem?_toArray, List.getElem?_cons_zero, List.getElem?_cons_succ] at c0 c1
                have l0 := lt_of_block HX2.out
                go_wp2_with fail
                refine (Without_any w2.heap.size N _ (.slice la l.length lc) cs l w2 (by omega) (by have := HLL.out; omega) (HCV.out w2 HB2.out) HL2.out (Nat.le_refl _)).mono ?_
                rintro e w3 ⟨⟨rw, rfl, ho⟩, hb⟩
                have HW3 := Lib.hid (own_cms (l := woP cs l cs.length) ho)
                have HX3 := Lib.hid ((hb.block _ (lt_of_block HX2.out)).trans HX2.out)
                have HB3 := Lib.hid (below_to HB2.out hb)
                have HS3 := Lib.hid ((HS2.out.same (.below (Nat.le_refl _) hb)).up hb.size)
                have HL3 := Lib.hid ((HL2.out.same (.below (Nat.le_refl _) hb)).up hb.size)
                clear hb ho c0 c1 l0 HX2 HB2 HS2 HL2
                go_wp2_with fail
                refine (refGrades_any N rw (woP cs l cs.length) w3 (wo_ok HOK.out l) HW3.out).mono ?_
                rintro e w4 ⟨hg, hb⟩
                have HX4 := Lib.hid ((hb.block _ (lt_of_block HX3.out)).trans HX3.out)
                have HB4 := Lib.hid (below_to HB3.out hb)
                have HS4 := Lib.hid ((HS3.out.same (.below (Nat.le_refl _) hb)).up hb.size)
                have HL4 := Lib.hid ((HL3.out.same (.below (Nat.le_refl _) hb)).up hb.size)
                clear hb HX3 HB3 HS3 HL3 HW3
                rcases hg with ⟨d, r, hd, rfl, -⟩ | ⟨hd, rfl⟩
                · have HE : Hid (bestT (alC cs) cs.length (k + 1) = l) := Lib.hid (by rw [HSTEP.out, HAL.out, hd]; simp)
                  clear hd
                  go_wp2_with fail
                  go_roundw
                  case rel => exact ⟨k + 1, by omega, by simp, HX4, HB4, by rw [HE.out]; exact HL4⟩
                  case measure => simp [intOf] <;> omega
                · have HE : Hid (bestT (alC cs) cs.length (k + 1) = best) := Lib.hid (by rw [HSTEP.out, HAL.out, hd]; simp)
                  clear hd
                  go_wp2_with fail
                  go_roundw
                  case rel => exact ⟨k + 1, by omega, by simp, HX4, HB4, by rw [HE.out]; exact HS4⟩
                  case measure => simp [intOf] <;> omega
        · obtain rfl : k = P := by omega
          have hkn : ¬ (k : Int) < k := by omega
          rw [← HP.out, ← HDB.out] at HBEST
          go_wp2_with fail
          go_ret
          exact ⟨⟨_, rfl, HBEST.out⟩, HB.out⟩
end Go.Proofs.Ytplmlmmjfkbabaa
