/- The least list of the fewest runs, as plain lists. No condition. Lists compared: contracts. Condition: lists no longer than a thousand. -/
import Derived.Test.YtfijaafkagcmmaaN3J
namespace Go.Proofs.Ytfijaafkagcmmaa
open Go.RowKit Go.Shelf
attribute [local irreducible] arrV wpQuiet

def lexB : List Int → List Int → Bool
  | a :: l, b :: m => if a = b then lexB l m else decide (a < b)
  | _, _ => false
def lessL (a b : List Int) : Bool := if a.length = b.length then lexB a b else decide (a.length < b.length)
theorem lex_at : ∀ {a b : List Int} {q : Nat}, (∀ j, j < q → ld a j = ld b j) → q < a.length → q < b.length → ld a q ≠ ld b q → lexB a b = decide (ld a q < ld b q)
  | x :: a, y :: b, 0, _, _, _, hne => by
    simp [ld] at hne ⊢
    rw [lexB, if_neg hne]
  | x :: a, y :: b, q + 1, h, h1, h2, hne => by
    have h0 := h 0 (by omega)
    simp [ld] at h0
    rw [lexB, if_pos h0]
    have := lex_at (a := a) (b := b) (q := q) (fun j hj => by simpa [ld] using h (j + 1) (by omega)) (by simpa using h1) (by simpa using h2) (by simpa [ld] using hne)
    have u1 : ld (x :: a) (q + 1) = ld a q := by simp [ld]
    have u2 : ld (y :: b) (q + 1) = ld b q := by simp [ld]
    rw [u1, u2]
    exact this
  | [], _, q, _, h1, _, _ => by simp at h1
  | _ :: _, [], q, _, _, h2, _ => by simp at h2
theorem lex_eq : ∀ {a b : List Int}, a.length = b.length → (∀ j, j < a.length → ld a j = ld b j) → lexB a b = false
  | [], _, _, _ => by simp [lexB]
  | _ :: _, [], h, _ => by simp at h
  | x :: a, y :: b, h, hj => by
    have h0 := hj 0 (by simp)
    simp [ld] at h0
    rw [lexB, if_pos h0]
    exact lex_eq (by simpa using h) fun j hj' => by simpa [ld] using hj (j + 1) (by simpa using hj')
theorem lex_total : ∀ {a b : List Int}, a.length = b.length → lexB a b = false → lexB b a = false → a = b
  | [], [], _, _, _ => rfl
  | [], _ :: _, h, _, _ => by simp at h
  | _ :: _, [], h, _, _ => by simp at h
  | x :: a, y :: b, h, h1, h2 => by
    unfold lexB at h1 h2
    by_cases e : x = y
    · subst e
      rw [if_pos rfl] at h1 h2
      rw [lex_total (by simpa using h) h1 h2]
    · rw [if_neg e] at h1
      rw [if_neg (Ne.symm e)] at h2
      simp only [decide_eq_false_iff_not] at h1 h2
      omega
theorem less_total {a b : List Int} (h1 : lessL a b = false) (h2 : lessL b a = false) : a = b := by
  unfold lessL at h1 h2
  by_cases e : a.length = b.length
  · rw [if_pos e] at h1
    rw [if_pos e.symm] at h2
    exact lex_total e h1 h2
  · rw [if_neg e] at h1
    rw [if_neg (Ne.symm e)] at h2
    simp only [decide_eq_false_iff_not] at h1 h2
    omega
theorem lex_irrefl : ∀ (a : List Int), lexB a a = false
  | [] => rfl
  | x :: a => by rw [lexB, if_pos rfl]; exact lex_irrefl a
theorem lex_trans : ∀ {a b c : List Int}, lexB a b = true → lexB b c = true → lexB a c = true
  | x :: a, y :: b, z :: c, h1, h2 => by
    unfold lexB at h1 h2 ⊢
    by_cases e : x = y
    · subst e
      rw [if_pos rfl] at h1
      by_cases e2 : x = z
      · rw [if_pos e2] at h2 ⊢
        exact lex_trans h1 h2
      · rw [if_neg e2] at h2 ⊢
        exact h2
    · rw [if_neg e, decide_eq_true_eq] at h1
      by_cases e2 : y = z
      · subst e2
        rw [if_neg e, decide_eq_true_eq]
        exact h1
      · rw [if_neg e2, decide_eq_true_eq] at h2
        rw [if_neg (by omega), decide_eq_true_eq]
        omega
  | [], _, _, h1, _ => by simp [lexB] at h1
  | _ :: _, [], _, h1, _ => by simp [lexB] at h1
  | _ :: _, _ :: _, [], _, h2 => by simp [lexB] at h2
theorem less_trans {a b c : List Int} (h1 : lessL a b = true) (h2 : lessL b c = true) : lessL a c = true := by
  unfold lessL at h1 h2 ⊢
  by_cases e : a.length = b.length <;> by_cases e2 : b.length = c.length
  · rw [if_pos e] at h1
    rw [if_pos e2] at h2
    rw [if_pos (e.trans e2)]
    exact lex_trans h1 h2
  · rw [if_neg e2, decide_eq_true_eq] at h2
    rw [if_neg (by omega), decide_eq_true_eq]
    omega
  · rw [if_neg e, decide_eq_true_eq] at h1
    rw [if_neg (by omega), decide_eq_true_eq]
    omega
  · rw [if_neg e, decide_eq_true_eq] at h1
    rw [if_neg e2, decide_eq_true_eq] at h2
    rw [if_neg (by omega), decide_eq_true_eq]
    omega

theorem rise_ext {n : Nat} : ∀ {l m : List Nat} {f : Nat}, Rise n f l → Rise n f m → (∀ a, a ∈ l ↔ a ∈ m) → l = m
  | [], [], _, _, _, _ => rfl
  | [], b :: m, _, _, _, h => by have := (h b).2 (by simp); simp at this
  | a :: l, [], _, _, _, h => by have := (h a).1 (by simp); simp at this
  | a :: l, b :: m, f, hl, hm, h => by
    have h1 := (h a).1 (by simp)
    have h2 := (h b).2 (by simp)
    have e : a = b := by
      rcases List.mem_cons.1 h1 with e | h1
      · exact e
      · rcases List.mem_cons.1 h2 with e | h2
        · exact e.symm
        · have := hm.2.2.mem a h1
          have := hl.2.2.mem b h2
          omega
    subst e
    rw [rise_ext hl.2.2 hm.2.2 fun x => ?_]
    constructor
    · intro hx
      rcases List.mem_cons.1 ((h x).1 (by simp [hx])) with e | hx'
      · subst e
        have := hl.2.2.mem x hx
        omega
      · exact hx'
    · intro hx
      rcases List.mem_cons.1 ((h x).2 (by simp [hx])) with e | hx'
      · subst e
        have := hm.2.2.mem x hx
        omega
      · exact hx'
theorem find_least {al : (Nat → Bool) → Bool} {n : Nat} {g : Nat → Bool} : ∀ (more : Nat) (out : Nat → Bool) (from_ : Nat), findP al n more out from_ = some g → ∃ l, l.length = more ∧ Rise n from_ l ∧ g = l.foldl withS out ∧ al g = true ∧
    ∀ m : List Nat, m.length = more → Rise n from_ m → al (m.foldl withS out) = true → lexB (m.map fun i : Nat => (i : Int)) (l.map fun i : Nat => (i : Int)) = false
  | 0, out, from_, h => by
    unfold findP at h
    by_cases ha : al out = true
    · rw [if_pos ha] at h
      cases h
      exact ⟨[], rfl, trivial, rfl, ha, fun m hm _ _ => by rw [List.eq_nil_of_length_eq_zero hm]; rfl⟩
    · rw [if_neg ha] at h
      cases h
  | more + 1, out, from_, h => by
    unfold findP at h
    obtain ⟨q, h1, h2, h3, h4⟩ := first_spec _ from_ rfl h
    obtain ⟨l, e1, e2, e3, e4, e5⟩ := find_least more _ _ h3
    refine ⟨q :: l, by simp [e1], ⟨h1, h2, e2⟩, by simpa using e3, e4, fun m hm hr ha => ?_⟩
    match m, hm, hr, ha with
    | a :: m, hm, hr, ha =>
      simp only [List.map_cons, lexB]
      by_cases e : a = q
      · subst e
        rw [if_pos rfl]
        exact e5 m (by simpa using hm) hr.2.2 (by simpa using ha)
      · rw [if_neg (by omega), decide_eq_false_iff_not]
        intro hlt
        have := find_none _ _ _ (h4 a hr.1 (by omega)) m (by simpa using hm) hr.2.2
        rw [List.foldl_cons] at ha
        rw [ha] at this
        cases this
theorem rise_set (n : Nat) (t : Nat → Bool) : Rise n 0 ((List.range n).filter t) := by
  have := rise_range (n := n) t n 0 (by omega)
  rwa [← List.range_eq_range'] at this
theorem doubt_least {al : (Nat → Bool) → Bool} {n : Nat} {s : Nat → Bool} (hdep : ∀ s t : Nat → Bool, (∀ i, i < n → s i = t i) → al s = al t) (hd : doubtP al n = some s) :
    al s = true ∧ (∀ i, s i = true → i < n) ∧ ∀ t, al t = true → lessL (listS t n) (listS s n) = false := by
  have hset : ∀ t : Nat → Bool, al (((List.range n).filter t).foldl withS (fun _ => false)) = al t := fun t => hdep _ _ fun i hi => by
    rw [fold_with, Bool.false_or, Bool.eq_iff_iff, decide_eq_true_eq, List.mem_filter, List.mem_range]
    exact ⟨fun h => h.2, fun h => ⟨hi, h⟩⟩
  obtain ⟨q, _, h2, h3, h4⟩ := first_spec _ 0 rfl hd
  obtain ⟨l, e1, e2, e3, e4, e5⟩ := find_least _ _ _ h3
  have hs : ∀ i, s i = true ↔ i ∈ l := fun i => by rw [e3, fold_with, Bool.false_or, decide_eq_true_eq]
  have hl : (List.range n).filter s = l := rise_ext (rise_set n s) e2 fun a => by
    rw [List.mem_filter, List.mem_range, hs]
    exact ⟨fun h => h.2, fun h => ⟨(e2.mem a h).2, h⟩⟩
  refine ⟨e4, fun i hi => (e2.mem i ((hs i).1 hi)).2, fun t ht => ?_⟩
  unfold lessL listS
  rw [hl, List.length_map, List.length_map, e1]
  by_cases e : ((List.range n).filter t).length = q
  · rw [if_pos e]
    exact e5 _ e (rise_set n t) (by rw [hset]; exact ht)
  · rw [if_neg e, decide_eq_false_iff_not]
    intro hlt
    have h5 := h4 _ (Nat.zero_le _) hlt
    have h6 := find_none _ _ _ h5 ((List.range n).filter t) rfl (rise_set n t)
    rw [hset, ht] at h6
    cases h6

/-- The sets of runs, by bits; the best list so far, as the reference finds it. -/
def bitF (k : Nat) : Nat → Bool := fun i => decide (k / 2 ^ i % 2 = 1)
def bestT (al : List Int → Bool) (n : Nat) : Nat → List Int
  | 0 => listS (fun _ => true) n
  | k + 1 => if (lessL (listS (bitF k) n) (bestT al n k) && al (listS (bitF k) n)) = true then listS (bitF k) n else bestT al n k
theorem bitF_lt {k n : Nat} (h : k < 2 ^ n) {i : Nat} (hi : n ≤ i) : bitF k i = false := by
  unfold bitF
  have : k / 2 ^ i = 0 := Nat.div_eq_of_lt (Nat.lt_of_lt_of_le h (Nat.pow_le_pow_right (by decide) hi))
  rw [this]
  rfl
theorem bits_all (t : Nat → Bool) : ∀ n, ∃ k, k < 2 ^ n ∧ ∀ i, i < n → bitF k i = t i
  | 0 => ⟨0, by decide, fun i hi => by omega⟩
  | n + 1 => by
    obtain ⟨k, hk, hb⟩ := bits_all t n
    have e2 : 2 ^ (n + 1) = 2 ^ n + 2 ^ n := by rw [Nat.pow_succ]; omega
    refine ⟨k + (if t n = true then 2 ^ n else 0), by split <;> omega, fun i hi => ?_⟩
    by_cases hin : i = n
    · subst hin
      unfold bitF
      cases ht : t i with
      | true =>
        rw [if_pos rfl, Nat.add_div_right _ (Nat.two_pow_pos i), Nat.div_eq_of_lt hk]
        rfl
      | false =>
        rw [if_neg (by simp), Nat.add_zero, Nat.div_eq_of_lt hk]
        rfl
    · have hlt : i < n := by omega
      rw [← hb i hlt]
      unfold bitF
      split
      · congr 1
        have e3 : 2 ^ n = 2 ^ i * (2 * 2 ^ (n - i - 1)) := by rw [← Nat.pow_succ', ← Nat.pow_add]; congr 1; omega
        rw [e3, Nat.add_mul_div_left _ _ (Nat.two_pow_pos i), Nat.add_mul_mod_self_left]
      · rw [Nat.add_zero]
theorem listS_ext {s t : Nat → Bool} {n : Nat} (h : ∀ i, i < n → s i = t i) : listS s n = listS t n := by
  unfold listS
  congr 1
  exact List.filter_congr fun i hi => h i (List.mem_range.1 hi)
theorem best_inv {al : List Int → Bool} {n : Nat} (hfull : al (listS (fun _ => true) n) = true) : ∀ k, (∃ t, bestT al n k = listS t n) ∧ al (bestT al n k) = true ∧ ∀ j, j < k → al (listS (bitF j) n) = true → lessL (listS (bitF j) n) (bestT al n k) = false
  | 0 => ⟨⟨_, rfl⟩, hfull, fun j hj => by omega⟩
  | k + 1 => by
    obtain ⟨⟨t, h1⟩, h2, h3⟩ := best_inv hfull k
    have irr : ∀ a, lessL a a = false := fun a => by unfold lessL; rw [if_pos rfl]; exact lex_irrefl a
    unfold bestT
    by_cases hc : (lessL (listS (bitF k) n) (bestT al n k) && al (listS (bitF k) n)) = true
    · rw [if_pos hc]
      rw [Bool.and_eq_true] at hc
      refine ⟨⟨_, rfl⟩, hc.2, fun j hj ha => ?_⟩
      by_cases e : j = k
      · rw [e]; exact irr _
      · have h4 := h3 j (by omega) ha
        cases h5 : lessL (listS (bitF j) n) (listS (bitF k) n) with
        | false => rfl
        | true => rw [less_trans h5 hc.1] at h4; cases h4
    · rw [if_neg hc]
      refine ⟨⟨t, h1⟩, h2, fun j hj ha => ?_⟩
      by_cases e : j = k
      · subst e
        rw [ha, Bool.and_true] at hc
        simpa using hc
      · exact h3 j (by omega) ha
theorem best_doubt {ms : List Rg} {rs : List Rn} {s : Nat → Bool} (hK : RoomOk ms rs) (hs : doubtP (alS ms rs) rs.length = some s) :
    listS s 6 = bestT (fun l => decide (okL ms (woT rs l rs.length) ≠ [])) rs.length (2 ^ rs.length) := by
  have hl := hK.len
  obtain ⟨h1, h2, h3⟩ := doubt_least (alS_dep hl) hs
  have hal : ∀ t : Nat → Bool, (okL ms (woT rs (listS t rs.length) rs.length) ≠ []) ↔ alS ms rs t = true := fun t => by
    rw [ok_wo hl]
    rw [alS_dep hl _ t fun i hi => by
      rw [Bool.eq_iff_iff, decide_eq_true_eq, listS_mem]
      exact ⟨fun h => h.2, fun h => ⟨hi, h⟩⟩]
  have e6 : listS s 6 = listS s rs.length := by
    unfold listS
    congr 1
    refine rise_ext (n := 6) (f := 0) (rise_set 6 s) (by
      have := rise_range (n := 6) s rs.length 0 (by omega)
      rwa [← List.range_eq_range'] at this) fun a => ?_
    rw [List.mem_filter, List.mem_filter, List.mem_range, List.mem_range]
    exact ⟨fun ⟨_, h⟩ => ⟨h2 a h, h⟩, fun ⟨h, h'⟩ => ⟨by omega, h'⟩⟩
  rw [e6]
  obtain ⟨⟨t, e1⟩, e2, e3⟩ := best_inv (al := fun l => decide (okL ms (woT rs l rs.length) ≠ [])) (n := rs.length) (by simpa using (hal _).2 (alS_full hK.mat hl)) (2 ^ rs.length)
  rw [e1] at e2 e3 ⊢
  obtain ⟨k, hk, hb⟩ := bits_all s rs.length
  refine less_total ?_ (h3 t ((hal t).1 (by simpa using e2)))
  have := e3 k hk (by rw [listS_ext hb]; simpa using (hal s).2 h1)
  rwa [listS_ext hb] at this
end Go.Proofs.Ytfijaafkagcmmaa
namespace Go.Proofs.Ytfijaafkagcmmaa
open Go.RowKit Go.Shelf
attribute [local irreducible] arrV wpQuiet

set_option maxRecDepth 100000 in
set_option maxHeartbeats 1000000 in
theorem ints_same (n : Nat) (av bv : Value) (a : List Int) (w : World) (hl : a.length ≤ 1000) (hA : IntsV n w av a) (hB : IntsV n w bv a) (hn : n ≤ w.heap.size) :
    Calls Try.prog 41 #[av, bv] w fun e w' => e = .returned (.bool true) ∧ Below w.heap.size w w' := by
  obtain ⟨a0, ac, rfl, -, hap⟩ := hA
  obtain ⟨b0, bc, rfl, -, hbp⟩ := hB
  have HAP := Lib.hid hap
  have HBP := Lib.hid hbp
  have hne : ((a.length : Int) != a.length) = false := by simp
  clear hap hbp
  go_enter Try.func41, Try.ntmps41
  go_wp2
  clear hne
  go_loopw [5] (fun i wr => ∃ q : Nat, q ≤ a.length ∧ i = .int .i64 q ∧ Hid (Below w.heap.size w wr)) (fun i _ => a.length - (intOf i).toNat)
  case atStart => exact ⟨0, Nat.zero_le _, rfl, Lib.hid (Below.refl _ _)⟩
  case round =>
    obtain ⟨q, hq, rfl, HB⟩ := hrel
    by_cases hlt : q < a.length
    · obtain ⟨xb, xo, rfl, hxb, hxc⟩ := HAP.out (by omega)
      obtain ⟨yb, yo, rfl, hyb, hyc⟩ := HBP.out (by omega)
      have p1 := (HB.out.cell (p := ⟨xb, xo + q, none⟩) (by show xb < w.heap.size; omega)).trans (hxc q hlt)
      have p2 := (HB.out.cell (p := ⟨yb, yo + q, none⟩) (by show yb < w.heap.size; omega)).trans (hyc q hlt)
      have hqn : (q : Int) < a.length := by omega
      have hwq : IntKind.i64.wrap ((q : Int) + 1) = (q : Int) + 1 := IntWalk.i64_in _ (by omega)
      generalize ld a q = x at *
      have g1 := cell_regrown p1
      have g2 := cell_regrown p2
      have hxx : (x != x) = false := by simp
      clear hxc hyc p1 p2
      go_wp2_with fail
      refine wp_region_quiet_below (by kernel_rfl) (by kernel_rfl) ?_
      repeat (quiet_step (fail))
      refine wpQuiet_nil ?_
      intro _ hw'
      obtain ⟨⟨dq, osq⟩, hw''⟩ := hw'
      subst hw''
      have hbr := Lib.hid (below_to HB.out (below_regrown wr dq osq))
      clear g1 g2 HB
      go_wp2
      go_roundw
      case rel => exact ⟨q + 1, by omega, by simp, hbr⟩
      case measure => simp [intOf]; omega
    · obtain rfl : q = a.length := by omega
      go_wp2
      go_ret
      exact ⟨rfl, HB.out⟩

set_option maxRecDepth 100000 in
set_option maxHeartbeats 2000000 in
theorem Less_any (n : Nat) (av bv : Value) (a b : List Int) (w : World) (hla : a.length ≤ 1000) (hlb : b.length ≤ 1000) (hA : IntsV n w av a) (hB : IntsV n w bv b) (hn : n ≤ w.heap.size) :
    Calls Try.prog 71 #[av, bv] w fun e w' => e = .returned (.bool (lessL a b)) ∧ Below w.heap.size w w' := by
  obtain ⟨a0, ac, rfl, -, hap⟩ := hA
  obtain ⟨b0, bc, rfl, -, hbp⟩ := hB
  have HAP := Lib.hid hap
  have HBP := Lib.hid hbp
  clear hap hbp
  by_cases hle : a.length = b.length
  · have HAT : Hid (∀ q, (∀ j, j < q → ld a j = ld b j) → q < a.length → ld a q ≠ ld b q → lessL a b = decide (ld a q < ld b q)) := Lib.hid fun q h1 h2 h3 => by
      unfold lessL
      rw [if_pos hle]
      exact lex_at h1 h2 (by omega) h3
    have HEQ : Hid ((∀ j, j < a.length → ld a j = ld b j) → lessL a b = false) := Lib.hid fun h => by
      unfold lessL
      rw [if_pos hle]
      exact lex_eq hle h
    rw [← hle] at HBP ⊢
    generalize lessL a b = Z at *
    have hee : ((a.length : Int) == a.length) = true := by simp
    clear hle hlb
    go_enter Try.func71, Try.ntmps71
    go_wp2
    go_loopw [5] (fun i wr => ∃ q : Nat, q ≤ a.length ∧ i = .int .i64 q ∧ Hid (Below w.heap.size w wr) ∧ Hid (∀ j, j < q → ld a j = ld b j)) (fun i _ => a.length - (intOf i).toNat)
    case atStart => exact ⟨0, Nat.zero_le _, rfl, Lib.hid (Below.refl _ _), Lib.hid (fun j hj => by omega)⟩
    case round =>
      obtain ⟨q, hq, rfl, HB, HS⟩ := hrel
      by_cases hlt : q < a.length
      · obtain ⟨xb, xo, rfl, hxb, hxc⟩ := HAP.out (by omega)
        obtain ⟨yb, yo, rfl, hyb, hyc⟩ := HBP.out (by omega)
        have p1 := (HB.out.cell (p := ⟨xb, xo + q, none⟩) (by show xb < w.heap.size; omega)).trans (hxc q hlt)
        have p2 := (HB.out.cell (p := ⟨yb, yo + q, none⟩) (by show yb < w.heap.size; omega)).trans (hyc q hlt)
        have hqn : (q : Int) < a.length := by omega
        have hwq : IntKind.i64.wrap ((q : Int) + 1) = (q : Int) + 1 := IntWalk.i64_in _ (by omega)
        have HSQ : Hid (ld a q = ld b q → ∀ j, j < q + 1 → ld a j = ld b j) := Lib.hid fun h j hj => by
          by_cases e : j = q
          · rw [e]; exact h
          · exact HS.out j (by omega)
        have HAQ := Lib.hid (HAT.out q HS.out hlt)
        generalize ld a q = x at *
        generalize ld b q = y at *
        have g1 := cell_regrown p1
        have g2 := cell_regrown p2
        clear hxc hyc p1 p2 HS
        go_wp2_with fail
        refine wp_region_quiet_below (by kernel_rfl) (by kernel_rfl) ?_
        repeat (quiet_step (fail))
        refine wpQuiet_nil ?_
        intro _ hw'
        obtain ⟨⟨dq, osq⟩, hw''⟩ := hw'
        subst hw''
        have hbr := Lib.hid (below_to HB.out (below_regrown wr dq osq))
        have k1 := g1 dq osq
        have k2 := g2 dq osq
        clear g1 g2 HB
        generalize Sort.grow (redrawn wr dq) osq = wx at *
        by_cases hxy : x = y
        · have HZ := Lib.hid (HSQ.out hxy)
          subst hxy
          have hxx : (x != x) = false := by simp
          clear k1 k2 HSQ HAQ
          go_wp2
          go_roundw
          case rel => exact ⟨q + 1, by omega, by simp, hbr, HZ⟩
          case measure => simp [intOf]; omega
        · have HZ := Lib.hid (HAQ.out hxy)
          have hxx : (x != y) = true := by rw [bne_iff_ne]; exact hxy
          have g1 := cell_regrown k1
          have g2 := cell_regrown k2
          clear k1 k2 HSQ HAQ
          go_wp2_with fail
          refine wp_region_quiet_below (by kernel_rfl) (by kernel_rfl) ?_
          repeat (quiet_step (fail))
          refine wpQuiet_nil ?_
          intro _ hw'
          obtain ⟨⟨dq2, osq2⟩, hw''⟩ := hw'
          subst hw''
          have hbr2 := Lib.hid (below_to hbr.out (below_regrown wx dq2 osq2))
          clear g1 g2
          go_wp2
          go_ret
          exact ⟨by rw [HZ.out]; rfl, hbr2.out⟩
      · obtain rfl : q = a.length := by omega
        have HZ := Lib.hid (HEQ.out HS.out)
        go_wp2
        go_ret
        exact ⟨by rw [HZ.out]; simp, HB.out⟩
  · have HZ : Hid (lessL a b = decide (a.length < b.length)) := Lib.hid (by
      unfold lessL
      rw [if_neg hle])
    have hee : ((a.length : Int) == b.length) = false := by rw [beq_eq_false_iff_ne]; omega
    generalize lessL a b = Z at *
    go_enter Try.func71, Try.ntmps71
    go_wp2
    go_loopw [5] (fun i wr => i = .int .i64 0 ∧ wr = w) (fun i _ => 0)
    case atStart => exact ⟨rfl, rfl⟩
    case round =>
      obtain ⟨rfl, rfl⟩ := hrel
      by_cases h0 : 0 < a.length
      · have h0i : (0 : Int) < a.length := by omega
        go_wp2
        go_ret
        exact ⟨by rw [HZ.out]; rfl, Below.refl _ _⟩
      · have h0i : ¬ (0 : Int) < a.length := by omega
        have h0d : decide ((0 : Int) < a.length) = false := decide_eq_false h0i
        go_wp2
        go_ret
        exact ⟨by rw [HZ.out]; rfl, Below.refl _ _⟩
end Go.Proofs.Ytfijaafkagcmmaa
