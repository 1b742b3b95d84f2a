/- Runs but those with some numbers, by the reference: its contract. Condition: a thousand runs and numbers at most. The fewest runs: what the search finds, as plain lists. No condition. -/
import Derived.Test.YtfijaafkagcmmaaF6J
import Derived.Test.YtfijaafkagcmmaaK7J
namespace Go.Proofs.Ytfijaafkagcmmaa
open Go.RowKit Go.Shelf
attribute [local irreducible] arrV wpQuiet

def keepT (x : List Int) (q k : Nat) : Bool := (x.take k).all fun a => a != (q : Int)
def woT (rs : List Rn) (x : List Int) (k : Nat) : List Rn := ((List.range k).filter fun i => keepT x i x.length).map (rn rs)
theorem keepT_step {x : List Int} {q k : Nat} (h : k < x.length) : keepT x q (k + 1) = (keepT x q k && (ld x k != (q : Int))) := by
  have e : ld x k = x[k] := by simp [ld, h]
  unfold keepT
  rw [List.take_add_one, List.getElem?_eq_getElem h, e, List.all_append]
  simp only [Option.toList, List.all_cons, List.all_nil, Bool.and_true]
theorem woT_yes {rs : List Rn} {x : List Int} {k : Nat} (h : keepT x k x.length = true) : woT rs x (k + 1) = woT rs x k ++ [rn rs k] := by
  simp [woT, List.range_succ, List.filter_append, h]
theorem woT_no {rs : List Rn} {x : List Int} {k : Nat} (h : keepT x k x.length = false) : woT rs x (k + 1) = woT rs x k := by
  simp [woT, List.range_succ, List.filter_append, h]
theorem woT_len (rs : List Rn) (x : List Int) (k : Nat) : (woT rs x k).length ≤ k := by
  have := List.length_filter_le (fun i => keepT x i x.length) (List.range k)
  simpa [woT] using this
theorem runx_snoc {m : Nat} {w : World} {rs : List Rn} {xs : List Value} {r : Rn} {sv : Value} (h : RunX m w rs xs) (hs : SegsV m w sv r.ss) : RunX m w (rs ++ [r]) (xs ++ [sv, .int .i64 r.seen.lo, .int .i64 r.seen.hi]) := by
  obtain ⟨h1, h2⟩ := h
  refine ⟨by simp [h1]; omega, fun i hi => ?_⟩
  simp only [List.length_append, List.length_cons, List.length_nil] at hi
  by_cases e : i < rs.length
  · obtain ⟨sv', a0, a1, a2, a3⟩ := h2 i e
    have er : rn (rs ++ [r]) i = rn rs i := by simp [rn, List.getElem?_append_left e]
    rw [er]
    refine ⟨sv', ?_, ?_, ?_, a3⟩
    · rw [List.getElem?_append_left (by omega)]; exact a0
    · rw [List.getElem?_append_left (by omega)]; exact a1
    · rw [List.getElem?_append_left (by omega)]; exact a2
  · obtain rfl : i = rs.length := by omega
    have er : rn (rs ++ [r]) rs.length = r := by simp [rn]
    rw [er]
    refine ⟨sv, ?_, ?_, ?_, hs⟩
    · rw [List.getElem?_append_right (by omega), h1]; simp
    · rw [List.getElem?_append_right (by omega), h1, show rs.length * 3 + 1 - rs.length * 3 = 1 by omega]; rfl
    · rw [List.getElem?_append_right (by omega), h1, show rs.length * 3 + 2 - rs.length * 3 = 2 by omega]; rfl

set_option maxRecDepth 100000 in
set_option maxHeartbeats 2000000 in
theorem Without_any (n m : Nat) (rv xv : Value) (rs : List Rn) (x : List Int) (w : World) (hl : rs.length ≤ 1000) (hx : x.length ≤ 1000) (hR : RunsV n w rv rs) (hX : IntsV m w xv x) (hn : n ≤ w.heap.size) (hm : m ≤ w.heap.size) :
    Calls Try.prog 52 #[rv, xv] w fun e w' => (∃ v, e = .returned v ∧ RunsV w'.heap.size w' v (woT rs x rs.length)) ∧ Below w.heap.size w w' := by
  obtain ⟨ra, rcap, rfl, hp⟩ := hR
  obtain ⟨xa, xcap, rfl, -, hxp⟩ := hX
  have HP := Lib.hid hp
  have HXP := Lib.hid hxp
  clear hp hxp
  go_enter Try.func52, Try.ntmps52
  go_wp2
  go_loopw [5, 6] (fun v i wr => ∃ q : Nat, q ≤ rs.length ∧ i = .int .i64 q ∧ Hid (Below w.heap.size w wr) ∧ Hid (∃ xs, RunX n wr (woT rs x q) xs ∧ wr.ownsRow w.heap.size 90 3 v (woT rs x q).length xs)) (fun _ i _ => rs.length - (intOf i).toNat)
  case atStart => exact ⟨0, Nat.zero_le _, rfl, Lib.hid (Below.refl _ _), Lib.hid ⟨[], ⟨rfl, fun i hi => by simp [woT] at hi⟩, World.ownsRow_nil _ _ _ _⟩⟩
  case round =>
    obtain ⟨q, hq, rfl, HB, HO⟩ := hrel
    by_cases hlt : q < rs.length
    · have hqn : (q : Int) < rs.length := by omega
      have hwq : IntKind.i64.wrap ((q : Int) + 1) = (q : Int) + 1 := IntWalk.i64_in _ (by omega)
      generalize wr = wa at *
      go_wp2
      go_loopw [7, 8] (fun z i wr => wr = wa ∧ ∃ k : Nat, k ≤ x.length ∧ i = .int .i64 k ∧ z = .bool (keepT x q k)) (fun _ i _ => x.length - (intOf i).toNat)
      case atStart => exact ⟨rfl, 0, Nat.zero_le _, rfl, rfl⟩
      case round =>
        obtain ⟨rfl, k, hk, rfl, rfl⟩ := hrel
        by_cases hkl : k < x.length
        · obtain ⟨xb, xoff, rfl, hxbn, hxc⟩ := HXP.out (by omega)
          have hltx : xb < w.heap.size := by omega
          have p3 := (HB.out.cell (p := ⟨xb, xoff + k, none⟩) hltx).trans (hxc k hkl)
          have lsx : xb < wr.heap.size := by have := HB.out.size; omega
          have hkn : (k : Int) < x.length := by omega
          have hwk : IntKind.i64.wrap ((k : Int) + 1) = (k : Int) + 1 := IntWalk.i64_in _ (by omega)
          have HST := Lib.hid (keepT_step (q := q) hkl)
          clear hxc
          generalize ld x k = xk at *
          generalize keepT x q k = z at *
          cases z with
          | false =>
            go_wp2
            go_roundw
            case rel => exact ⟨trivial, k + 1, by omega, by simp, by rw [HST.out]; simp⟩
            case measure => simp [intOf]; omega
          | true =>
            go_wp2
            go_roundw
            case rel => exact ⟨trivial, k + 1, by omega, by simp, by rw [HST.out]; simp⟩
            case measure => simp [intOf]; omega
        · obtain rfl : k = x.length := by omega
          have HY := Lib.hid fun h => @woT_yes rs x q h
          have HN := Lib.hid fun h => @woT_no rs x q h
          have HLEN := Lib.hid (woT_len rs x q)
          generalize keepT x q x.length = z at *
          cases z with
          | false =>
            have HE := Lib.hid (HN.out rfl)
            clear HY HN
            go_wp2
            go_roundw
            case rel => exact ⟨q + 1, by omega, by simp, HB, by rw [HE.out]; exact HO⟩
            case measure => simp [intOf]; omega
          | true =>
            have HE := Lib.hid (HY.out rfl)
            clear HY HN
            obtain ⟨xs, hxs, hown⟩ := HO.out
            obtain ⟨b2, off2, rfl, hbn2, hc2⟩ := HP.out (by omega)
            obtain ⟨sv, s1, s2, s3, s4⟩ := hc2 q hlt
            have s4' := s4
            obtain ⟨sa, scap, rfl, -⟩ := s4'
            have hltb2 : b2 < w.heap.size := by omega
            have u1 := (HB.out.cell (p := ⟨b2, off2 + q * 3, none⟩) hltb2).trans s1
            have u2 := (HB.out.cell (p := ⟨b2, off2 + q * 3 + 1, none⟩) hltb2).trans s2
            have u3 := (HB.out.cell (p := ⟨b2, off2 + q * 3 + 2, none⟩) hltb2).trans s3
            have lsb : b2 < wr.heap.size := by have := HB.out.size; omega
            have HS4 := Lib.hid (s4.same (.below hn HB.out))
            have HXS := Lib.hid hxs
            have HOWN := Lib.hid hown
            clear hc2 s1 s2 s3 s4 hxs hown HO
            have hsz : w.heap.size ≤ wr.heap.size := HB.out.size
            go_wp2_with (first
              | (refine wpList_app el25 rfl (.tmp 31) (.tmp 36) rfl w.heap.size _ _ _ #[.slice sa (rn rs q).ss.length scap, .int .i64 (rn rs q).seen.lo, .int .i64 (rn rs q).seen.hi] rfl (by intro u hu; simp at hu; rcases hu with rfl | rfl | rfl <;> rfl) rfl rfl HOWN.out hsz (by have := HLEN.out; omega) ?_
                 intro g c w' hown hgr _)
              | fail)
            go_roundw
            case rel =>
              have hb' : Below wr.heap.size wr w' ∨ True := .inr trivial
              have hsm : Same n wr w' := fun k hk => hgr.below.block k (by omega)
              refine ⟨q + 1, by omega, by simp, Lib.hid (HB.out.trans hgr.below), Lib.hid ?_⟩
              rw [HE.out, List.length_append]
              exact ⟨_, (runx_snoc HXS.out HS4.out).same hsm, hown⟩
            case measure => simp [intOf]; omega
    · obtain rfl : q = rs.length := by omega
      obtain ⟨xs, hxs, hown⟩ := HO.out
      have HRUN := Lib.hid (hxs.runs (Nat.le_trans hn HB.out.size) hown)
      go_wp2
      go_ret
      exact ⟨⟨_, rfl, HRUN.out⟩, HB.out⟩
end Go.Proofs.Ytfijaafkagcmmaa
namespace Go.Proofs.Ytfijaafkagcmmaa
open Go.RowKit Go.Shelf
attribute [local irreducible] arrV wpQuiet

theorem first_none' {α : Type} {f : Nat → Option α} {n from_ : Nat} (h : firstF f n from_ = none) : ∀ r, from_ ≤ r → r < n → f r = none := by
  unfold firstF at h
  rw [List.findSome?_eq_none_iff] at h
  intro r h1 h2
  exact h r (by rw [List.mem_range'_1]; omega)
theorem first_spec {α : Type} {f : Nat → Option α} {n : Nat} {g : α} : ∀ (k from_ : Nat), n - from_ = k → firstF f n from_ = some g → ∃ q, from_ ≤ q ∧ q < n ∧ f q = some g ∧ ∀ r, from_ ≤ r → r < q → f r = none
  | 0, from_, hk, h => by
    unfold firstF at h
    rw [hk] at h
    simp at h
  | k + 1, from_, hk, h => by
    cases hf : f from_ with
    | some g' =>
      have := first_some (f := f) (q := from_) (n := n) (Nat.le_refl from_) (by omega) (fun r h1 h2 => by omega) hf
      rw [this] at h
      cases h
      exact ⟨from_, Nat.le_refl _, by omega, hf, fun r h1 h2 => by omega⟩
    | none =>
      have e : firstF f n from_ = firstF f n (from_ + 1) := by
        unfold firstF
        rw [hk, List.range'_succ, List.findSome?_cons, hf, show n - (from_ + 1) = k by omega]
      rw [e] at h
      obtain ⟨q, h1, h2, h3, h4⟩ := first_spec k (from_ + 1) (by omega) h
      refine ⟨q, by omega, h2, h3, fun r h5 h6 => ?_⟩
      by_cases e : r = from_
      · rw [e]; exact hf
      · exact h4 r (by omega) h6

/-- Lists that rise strictly, from a number on. -/
def Rise (n : Nat) : Nat → List Nat → Prop
  | _, [] => True
  | from_, a :: l => from_ ≤ a ∧ a < n ∧ Rise n (a + 1) l
theorem find_spec {al : (Nat → Bool) → Bool} {n : Nat} {g : Nat → Bool} : ∀ (more : Nat) (out : Nat → Bool) (from_ : Nat), findP al n more out from_ = some g → ∃ l, l.length = more ∧ Rise n from_ l ∧ g = l.foldl withS out ∧ al g = true
  | 0, out, from_, h => by
    unfold findP at h
    by_cases ha : al out = true
    · rw [if_pos ha] at h
      cases h
      exact ⟨[], rfl, trivial, rfl, ha⟩
    · rw [if_neg ha] at h
      cases h
  | more + 1, out, from_, h => by
    unfold findP at h
    obtain ⟨q, h1, h2, h3, _⟩ := first_spec _ from_ rfl h
    obtain ⟨l, e1, e2, e3, e4⟩ := find_spec more _ _ h3
    exact ⟨q :: l, by simp [e1], ⟨h1, h2, e2⟩, by simpa using e3, e4⟩
theorem find_none {al : (Nat → Bool) → Bool} {n : Nat} : ∀ (more : Nat) (out : Nat → Bool) (from_ : Nat), findP al n more out from_ = none → ∀ l, l.length = more → Rise n from_ l → al (l.foldl withS out) = false
  | 0, out, from_, h, l, hl, _ => by
    obtain rfl := List.eq_nil_of_length_eq_zero hl
    unfold findP at h
    by_cases ha : al out = true
    · rw [if_pos ha] at h
      cases h
    · simpa using ha
  | more + 1, out, from_, h, l, hl, hr => by
    unfold findP at h
    match l, hl, hr with
    | a :: l, hl, hr =>
      have := first_none' h a hr.1 hr.2.1
      exact find_none more _ _ this l (by simpa using hl) hr.2.2
theorem fold_with (l : List Nat) : ∀ (out : Nat → Bool) (i : Nat), l.foldl withS out i = (out i || decide (i ∈ l)) := by
  induction l with
  | nil => intro out i; simp
  | cons a l ih =>
    intro out i
    rw [List.foldl_cons, ih]
    unfold withS
    rw [Bool.eq_iff_iff]
    simp only [Bool.or_eq_true, decide_eq_true_eq, List.mem_cons, beq_iff_eq]
    constructor
    · rintro ((h | h) | h)
      · exact .inl h
      · exact .inr (.inl h)
      · exact .inr (.inr h)
    · rintro (h | h | h)
      · exact .inl (.inl h)
      · exact .inl (.inr h)
      · exact .inr h
theorem Rise.mem {n : Nat} : ∀ {l : List Nat} {from_ : Nat}, Rise n from_ l → ∀ a, a ∈ l → from_ ≤ a ∧ a < n
  | [], _, _, a, h => by simp at h
  | b :: l, from_, hr, a, h => by
    rcases List.mem_cons.1 h with rfl | h
    · exact ⟨hr.1, hr.2.1⟩
    · have := Rise.mem hr.2.2 a h
      have h1 := hr.1
      omega
theorem Rise.nodup {n : Nat} : ∀ {l : List Nat} {from_ : Nat}, Rise n from_ l → l.Nodup
  | [], _, _ => List.nodup_nil
  | b :: l, from_, hr => List.nodup_cons.2 ⟨fun h => by have := hr.2.2.mem b h; omega, hr.2.2.nodup⟩
theorem rise_range {n : Nat} (f : Nat → Bool) : ∀ (k a : Nat), a + k ≤ n → Rise n a ((List.range' a k).filter f)
  | 0, a, _ => trivial
  | k + 1, a, h => by
    have up : ∀ {l : List Nat} {b : Nat}, Rise n (b + 1) l → Rise n b l := fun {l b} hr => by
      cases l with
      | nil => trivial
      | cons c l => exact ⟨by have := hr.1; omega, hr.2⟩
    rw [List.range'_succ]
    cases hf : f a with
    | false =>
      rw [List.filter_cons_of_neg (by rw [hf]; simp)]
      exact up (rise_range f k (a + 1) (by omega))
    | true =>
      rw [List.filter_cons_of_pos hf]
      exact ⟨Nat.le_refl _, by omega, rise_range f k (a + 1) (by omega)⟩
def cardS (t : Nat → Bool) (n : Nat) : Nat := ((List.range n).filter t).length
theorem card_of {l : List Nat} {t : Nat → Bool} {n : Nat} (hd : l.Nodup) (hl : ∀ a, a ∈ l → a < n) (ht : ∀ i, i < n → (t i = true ↔ i ∈ l)) : cardS t n = l.length := by
  unfold cardS
  refine List.Perm.length_eq ((List.perm_ext_iff_of_nodup ((List.nodup_range).filter _) hd).2 fun a => ?_)
  rw [List.mem_filter, List.mem_range]
  exact ⟨fun ⟨h1, h2⟩ => (ht a h1).1 h2, fun h => ⟨hl a h, (ht a (hl a h)).2 h⟩⟩

theorem doubt_spec {al : (Nat → Bool) → Bool} {n : Nat} (hdep : ∀ s t : Nat → Bool, (∀ i, i < n → s i = t i) → al s = al t) (hfull : al (fun _ => true) = true) :
    ∃ s, doubtP al n = some s ∧ al s = true ∧ (∀ i, s i = true → i < n) ∧ ∀ t, al t = true → cardS s n ≤ cardS t n := by
  have hset : ∀ t : Nat → Bool, al (((List.range n).filter t).foldl withS (fun _ => false)) = al t := fun t => hdep _ _ fun i hi => by
    rw [fold_with, Bool.false_or, Bool.eq_iff_iff, decide_eq_true_eq, List.mem_filter, List.mem_range]
    exact ⟨fun h => h.2, fun h => ⟨hi, h⟩⟩
  have hcl : ∀ t, cardS t n ≤ n := fun t => by
    have := List.length_filter_le t (List.range n)
    simpa [cardS] using this
  have hrise : ∀ t : Nat → Bool, Rise n 0 ((List.range n).filter t) := fun t => by
    have := rise_range (n := n) t n 0 (by omega)
    rwa [← List.range_eq_range'] at this
  cases hd : doubtP al n with
  | none =>
    have h1 := first_none' hd (cardS (fun _ => true) n) (Nat.zero_le _) (by have := hcl fun _ => true; omega)
    have h2 := find_none _ _ _ h1 ((List.range n).filter fun _ => true) rfl (hrise _)
    rw [hset, hfull] at h2
    cases h2
  | some s =>
    obtain ⟨q, _, h2, h3, h4⟩ := first_spec _ 0 rfl hd
    obtain ⟨l, e1, e2, e3, e4⟩ := find_spec _ _ _ h3
    have hs : ∀ i, s i = true ↔ i ∈ l := fun i => by rw [e3, fold_with, Bool.false_or, decide_eq_true_eq]
    refine ⟨s, rfl, e4, fun i hi => (e2.mem i ((hs i).1 hi)).2, fun t ht => ?_⟩
    rw [card_of e2.nodup (fun a ha => (e2.mem a ha).2) (fun i _ => hs i), e1]
    apply Classical.byContradiction
    intro hc
    have h5 := h4 (cardS t n) (Nat.zero_le _) (by omega)
    have h6 := find_none _ _ _ h5 ((List.range n).filter t) rfl (hrise t)
    rw [hset, ht] at h6
    cases h6
/-- The list of a set of runs: rising, within the runs. -/
theorem listS_mem {s : Nat → Bool} {k i : Nat} : (i : Int) ∈ listS s k ↔ i < k ∧ s i = true := by
  unfold listS
  rw [List.mem_map]
  constructor
  · rintro ⟨a, ha, e⟩
    rw [List.mem_filter, List.mem_range] at ha
    obtain rfl : a = i := by omega
    exact ha
  · rintro ⟨h1, h2⟩
    exact ⟨i, by rw [List.mem_filter, List.mem_range]; exact ⟨h1, h2⟩, rfl⟩
theorem listS_card {s : Nat → Bool} {n k : Nat} (hk : n ≤ k) (hs : ∀ i, s i = true → i < n) : (listS s k).length = cardS s n := by
  unfold listS cardS
  rw [List.length_map]
  refine List.Perm.length_eq ((List.perm_ext_iff_of_nodup ((List.nodup_range).filter _) ((List.nodup_range).filter _)).2 fun a => ?_)
  rw [List.mem_filter, List.mem_filter, List.mem_range, List.mem_range]
  exact ⟨fun ⟨_, h⟩ => ⟨hs a h, h⟩, fun ⟨h1, h⟩ => ⟨by omega, h⟩⟩
theorem listS_sorted (s : Nat → Bool) (k : Nat) : (listS s k).Pairwise (· < ·) := by
  unfold listS
  rw [List.pairwise_map]
  have : (List.range k).Pairwise (· < ·) := List.pairwise_lt_range
  exact (this.sublist List.filter_sublist).imp fun h => by omega
theorem listS_get {s : Nat → Bool} {n k i : Nat} (hs : ∀ i, s i = true → i < n) (hi : i < (listS s k).length) : (0 ≤ ld (listS s k) i ∧ ld (listS s k) i < n) ∧ (0 < i → ld (listS s k) (i - 1) < ld (listS s k) i) := by
  have e : ∀ j (hj : j < (listS s k).length), ld (listS s k) j = (listS s k)[j] := fun j hj => by simp [ld, hj]
  refine ⟨?_, fun h0 => ?_⟩
  · rw [e i hi]
    have hm := List.getElem_mem hi
    obtain ⟨a, ha, e2⟩ := List.mem_map.1 (show (listS s k)[i] ∈ ((List.range k).filter s).map (fun i : Nat => (i : Int)) from hm)
    rw [List.mem_filter] at ha
    have := hs a ha.2
    omega
  · rw [e i hi, e (i - 1) (by omega)]
    exact List.pairwise_iff_getElem.1 (listS_sorted s k) _ _ _ _ (by omega)

/-- What is allowed without some runs. -/
theorem alS_iff {ms : List Rg} {rs : List Rn} (hl : rs.length ≤ 6) (out : Nat → Bool) : alS ms rs out = true ↔ ∃ x, x ∈ allL ms ∧ ∀ i, i < rs.length → out i = false → fitsB (rn rs i) x = true := by
  unfold alS allowS mapE
  rw [List.any_map, List.any_eq_true]
  refine exists_congr fun x => and_congr_right fun _ => ?_
  simp only [Function.comp]
  unfold withinS
  rw [allN_iff]
  constructor
  · intro h i hi ho
    have := h i (by omega)
    rw [ho] at this
    simpa [forbS, hi] using this
  · intro h i _
    cases ho : out i with
    | true => simp
    | false =>
      by_cases hi : i < rs.length
      · simp [forbS, hi, h i hi ho]
      · simp [forbS, hi]
theorem alS_dep {ms : List Rg} {rs : List Rn} (hl : rs.length ≤ 6) : ∀ s t : Nat → Bool, (∀ i, i < rs.length → s i = t i) → alS ms rs s = alS ms rs t := fun s t h => by
  rw [Bool.eq_iff_iff, alS_iff hl, alS_iff hl]
  exact exists_congr fun x => and_congr_right fun _ => ⟨fun k i hi ho => k i hi (by rw [h i hi]; exact ho), fun k i hi ho => k i hi (by rw [← h i hi]; exact ho)⟩
theorem alS_full {ms : List Rg} {rs : List Rn} (hm : MatOk ms) (hl : rs.length ≤ 6) : alS ms rs (fun _ => true) = true := by
  obtain ⟨x, hx⟩ := List.exists_mem_of_ne_nil _ hm.some
  rw [alS_iff hl]
  exact ⟨x, hx, fun i _ h => by cases h⟩
theorem keep_iff {x : List Int} {i : Nat} : keepT x i x.length = true ↔ (i : Int) ∉ x := by
  unfold keepT
  rw [List.take_length, List.all_eq_true]
  exact ⟨fun h hm => by simpa using h _ hm, fun h a ha => by rw [bne_iff_ne]; exact fun e => h (e ▸ ha)⟩
theorem all_wo {rs : List Rn} {nums x : List Int} : allB (woT rs nums rs.length) x = true ↔ ∀ i, i < rs.length → (i : Int) ∉ nums → fitsB (rn rs i) x = true := by
  unfold allB woT
  rw [List.all_eq_true]
  constructor
  · intro h i hi hn
    exact h _ (List.mem_map.2 ⟨i, by rw [List.mem_filter, List.mem_range]; exact ⟨hi, keep_iff.2 hn⟩, rfl⟩)
  · intro h r hr
    obtain ⟨i, hi, rfl⟩ := List.mem_map.1 hr
    rw [List.mem_filter, List.mem_range] at hi
    exact h i hi.1 (keep_iff.1 hi.2)
theorem ok_wo {ms : List Rg} {rs : List Rn} (hl : rs.length ≤ 6) (nums : List Int) : okL ms (woT rs nums rs.length) ≠ [] ↔ alS ms rs (fun i => decide ((i : Int) ∈ nums)) = true := by
  rw [alS_iff hl]
  constructor
  · intro h
    obtain ⟨x, hx⟩ := List.exists_mem_of_ne_nil _ h
    rw [mem_okL, all_wo] at hx
    exact ⟨x, hx.1, fun i hi ho => hx.2 i hi (by simpa using ho)⟩
  · rintro ⟨x, hx, h⟩
    exact List.ne_nil_of_mem (mem_okL.2 ⟨hx, all_wo.2 fun i hi hn => h i hi (by simpa using hn)⟩)
theorem wo_len {rs : List Rn} {nums : List Int} : (woT rs nums rs.length).length + cardS (fun i => decide ((i : Int) ∈ nums)) rs.length = rs.length := by
  unfold woT cardS
  rw [List.length_map]
  have h : ∀ (l : List Nat), (l.filter fun i => keepT nums i nums.length).length + (l.filter fun i : Nat => decide ((i : Int) ∈ nums)).length = l.length := fun l => by
    induction l with
    | nil => rfl
    | cons a l ih =>
      by_cases hm : (a : Int) ∈ nums
      · have hk : keepT nums a nums.length = false := by
          cases hk : keepT nums a nums.length with
          | false => rfl
          | true => exact absurd hm (keep_iff.1 hk)
        rw [List.filter_cons_of_neg (by rw [hk]; simp), List.filter_cons_of_pos (by simpa using hm), List.length_cons, List.length_cons]
        omega
      · rw [List.filter_cons_of_pos (p := fun i => keepT nums i nums.length) (keep_iff.2 hm), List.filter_cons_of_neg (p := fun i : Nat => decide ((i : Int) ∈ nums)) (by simpa using hm), List.length_cons, List.length_cons]
        omega
  have := h (List.range rs.length)
  simpa using this
theorem wo_room {ms : List Rg} {rs : List Rn} (hK : RoomOk ms rs) (nums : List Int) : RoomOk ms (woT rs nums rs.length) :=
  ⟨hK.mat, by have := woT_len rs nums rs.length; have := hK.len; omega, fun r hr => by
    obtain ⟨i, hi, rfl⟩ := List.mem_map.1 hr
    rw [List.mem_filter, List.mem_range] at hi
    exact hK.rn _ (rn_mem hi.1)⟩
end Go.Proofs.Ytfijaafkagcmmaa
