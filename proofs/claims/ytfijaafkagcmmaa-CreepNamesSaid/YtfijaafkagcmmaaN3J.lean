/- Runs but those with some numbers, by the reference: its contract. Condition: a thousand runs and numbers at most. The fewest runs: what the search finds, as plain lists. No condition. The law CreepDoubtful, walked. No condition. -/
import Derived.Test.YtfijaafkagcmmaaF6J
import Derived.Test.YtfijaafkagcmmaaK7J
import Derived.BigRegion
namespace Go.Proofs.Ytfijaafkagcmmaa
open Go.RowKit Go.Shelf
attribute [local irreducible] arrV wpQuiet

def keepT (x : List Int) (q k : Nat) : Bool := (x.take k).all fun a => a != (q : Int)
def woT (rs : List Rn) (x : List Int) (k : Nat) : List Rn := ((List.range k).filter fun i => keepT x i x.length).map (rn rs)
theorem keepT_step {x : List Int} {q k : Nat} (h : k < x.length) : keepT x q (k + 1) = (keepT x q k && (ld x k != (q : Int))) := by
  have e : ld x k = x[k] := by simp [ld, h]
  unfold keepT
  rw [List.take_add_one, List.getElem?_eq_getElem h, e, List.all_append]
  simp only [Option.toList, List.all_cons, List.all_nil, Bool.and_true]
theorem woT_yes {rs : List Rn} {x : List Int} {k : Nat} (h : keepT x k x.length = true) : woT rs x (k + 1) = woT rs x k ++ [rn rs k] := by
  simp [woT, List.range_succ, List.filter_append, h]
theorem woT_no {rs : List Rn} {x : List Int} {k : Nat} (h : keepT x k x.length = false) : woT rs x (k + 1) = woT rs x k := by
  simp [woT, List.range_succ, List.filter_append, h]
theorem woT_len (rs : List Rn) (x : List Int) (k : Nat) : (woT rs x k).length ≤ k := by
  have := List.length_filter_le (fun i => keepT x i x.length) (List.range k)
  simpa [woT] using this
theorem runx_snoc {m : Nat} {w : World} {rs : List Rn} {xs : List Value} {r : Rn} {sv : Value} (h : RunX m w rs xs) (hs : SegsV m w sv r.ss) : RunX m w (rs ++ [r]) (xs ++ [sv, .int .i64 r.seen.lo, .int .i64 r.seen.hi]) := by
  obtain ⟨h1, h2⟩ := h
  refine ⟨by simp [h1]; omega, fun i hi => ?_⟩
  simp only [List.length_append, List.length_cons, List.length_nil] at hi
  by_cases e : i < rs.length
  · obtain ⟨sv', a0, a1, a2, a3⟩ := h2 i e
    have er : rn (rs ++ [r]) i = rn rs i := by simp [rn, List.getElem?_append_left e]
    rw [er]
    refine ⟨sv', ?_, ?_, ?_, a3⟩
    · rw [List.getElem?_append_left (by omega)]; exact a0
    · rw [List.getElem?_append_left (by omega)]; exact a1
    · rw [List.getElem?_append_left (by omega)]; exact a2
  · obtain rfl : i = rs.length := by omega
    have er : rn (rs ++ [r]) rs.length = r := by simp [rn]
    rw [er]
    refine ⟨sv, ?_, ?_, ?_, hs⟩
    · rw [List.getElem?_append_right (by omega), h1]; simp
    · rw [List.getElem?_append_right (by omega), h1, show rs.length * 3 + 1 - rs.length * 3 = 1 by omega]; rfl
    · rw [List.getElem?_append_right (by omega), h1, show rs.length * 3 + 2 - rs.length * 3 = 2 by omega]; rfl

set_option maxRecDepth 100000 in
set_option maxHeartbeats 2000000 in
theorem Without_any (n m : Nat) (rv xv : Value) (rs : List Rn) (x : List Int) (w : World) (hl : rs.length ≤ 1000) (hx : x.length ≤ 1000) (hR : RunsV n w rv rs) (hX : IntsV m w xv x) (hn : n ≤ w.heap.size) (hm : m ≤ w.heap.size) :
    Calls Try.prog 52 #[rv, xv] w fun e w' => (∃ v, e = .returned v ∧ RunsV w'.heap.size w' v (woT rs x rs.length)) ∧ Below w.heap.size w w' := by
  obtain ⟨ra, rcap, rfl, hp⟩ := hR
  obtain ⟨xa, xcap, rfl, -, hxp⟩ := hX
  have HP := Lib.hid hp
  have HXP := Lib.hid hxp
  clear hp hxp
  go_enter Try.func52, Try.ntmps52
  go_wp2
  go_loopw [5, 6] (fun v i wr => ∃ q : Nat, q ≤ rs.length ∧ i = .int .i64 q ∧ Hid (Below w.heap.size w wr) ∧ Hid (∃ xs, RunX n wr (woT rs x q) xs ∧ wr.ownsRow w.heap.size 90 3 v (woT rs x q).length xs)) (fun _ i _ => rs.length - (intOf i).toNat)
  case atStart => exact ⟨0, Nat.zero_le _, rfl, Lib.hid (Below.refl _ _), Lib.hid ⟨[], ⟨rfl, fun i hi => by simp [woT] at hi⟩, World.ownsRow_nil _ _ _ _⟩⟩
  case round =>
    obtain ⟨q, hq, rfl, HB, HO⟩ := hrel
    by_cases hlt : q < rs.length
    · have hqn : (q : Int) < rs.length := by omega
      have hwq : IntKind.i64.wrap ((q : Int) + 1) = (q : Int) + 1 := IntWalk.i64_in _ (by omega)
      generalize wr = wa at *
      go_wp2
      go_loopw [7, 8] (fun z i wr => wr = wa ∧ ∃ k : Nat, k ≤ x.length ∧ i = .int .i64 k ∧ z = .bool (keepT x q k)) (fun _ i _ => x.length - (intOf i).toNat)
      case atStart => exact ⟨rfl, 0, Nat.zero_le _, rfl, rfl⟩
      case round =>
        obtain ⟨rfl, k, hk, rfl, rfl⟩ := hrel
        by_cases hkl : k < x.length
        · obtain ⟨xb, xoff, rfl, hxbn, hxc⟩ := HXP.out (by omega)
          have hltx : xb < w.heap.size := by omega
          have p3 := (HB.out.cell (p := ⟨xb, xoff + k, none⟩) hltx).trans (hxc k hkl)
          have lsx : xb < wr.heap.size := by have := HB.out.size; omega
          have hkn : (k : Int) < x.length := by omega
          have hwk : IntKind.i64.wrap ((k : Int) + 1) = (k : Int) + 1 := IntWalk.i64_in _ (by omega)
          have HST := Lib.hid (keepT_step (q := q) hkl)
          clear hxc
          generalize ld x k = xk at *
          generalize keepT x q k = z at *
          cases z with
          | false =>
            go_wp2
            go_roundw
            case rel => exact ⟨trivial, k + 1, by omega, by simp, by rw [HST.out]; simp⟩
            case measure => simp [intOf]; omega
          | true =>
            go_wp2
            go_roundw
            case rel => exact ⟨trivial, k + 1, by omega, by simp, by rw [HST.out]; simp⟩
            case measure => simp [intOf]; omega
        · obtain rfl : k = x.length := by omega
          have HY := Lib.hid fun h => @woT_yes rs x q h
          have HN := Lib.hid fun h => @woT_no rs x q h
          have HLEN := Lib.hid (woT_len rs x q)
          generalize keepT x q x.length = z at *
          cases z with
          | false =>
            have HE := Lib.hid (HN.out rfl)
            clear HY HN
            go_wp2
            go_roundw
            case rel => exact ⟨q + 1, by omega, by simp, HB, by rw [HE.out]; exact HO⟩
            case measure => simp [intOf]; omega
          | true =>
            have HE := Lib.hid (HY.out rfl)
            clear HY HN
            obtain ⟨xs, hxs, hown⟩ := HO.out
            obtain ⟨b2, off2, rfl, hbn2, hc2⟩ := HP.out (by omega)
            obtain ⟨sv, s1, s2, s3, s4⟩ := hc2 q hlt
            have s4' := s4
            obtain ⟨sa, scap, rfl, -⟩ := s4'
            have hltb2 : b2 < w.heap.size := by omega
            have u1 := (HB.out.cell (p := ⟨b2, off2 + q * 3, none⟩) hltb2).trans s1
            have u2 := (HB.out.cell (p := ⟨b2, off2 + q * 3 + 1, none⟩) hltb2).trans s2
            have u3 := (HB.out.cell (p := ⟨b2, off2 + q * 3 + 2, none⟩) hltb2).trans s3
            have lsb : b2 < wr.heap.size := by have := HB.out.size; omega
            have HS4 := Lib.hid (s4.same (.below hn HB.out))
            have HXS := Lib.hid hxs
            have HOWN := Lib.hid hown
            clear hc2 s1 s2 s3 s4 hxs hown HO
            have hsz : w.heap.size ≤ wr.heap.size := HB.out.size
            go_wp2_with (first
              | (refine wpList_app el25 rfl (.tmp 31) (.tmp 36) rfl w.heap.size _ _ _ #[.slice sa (rn rs q).ss.length scap, .int .i64 (rn rs q).seen.lo, .int .i64 (rn rs q).seen.hi] rfl (by intro u hu; simp at hu; rcases hu with rfl | rfl | rfl <;> rfl) rfl rfl HOWN.out hsz (by have := HLEN.out; omega) ?_
                 intro g c w' hown hgr _)
              | fail)
            go_roundw
            case rel =>
              have hb' : Below wr.heap.size wr w' ∨ True := .inr trivial
              have hsm : Same n wr w' := fun k hk => hgr.below.block k (by omega)
              refine ⟨q + 1, by omega, by simp, Lib.hid (HB.out.trans hgr.below), Lib.hid ?_⟩
              rw [HE.out, List.length_append]
              exact ⟨_, (runx_snoc HXS.out HS4.out).same hsm, hown⟩
            case measure => simp [intOf]; omega
    · obtain rfl : q = rs.length := by omega
      obtain ⟨xs, hxs, hown⟩ := HO.out
      have HRUN := Lib.hid (hxs.runs (Nat.le_trans hn HB.out.size) hown)
      go_wp2
      go_ret
      exact ⟨⟨_, rfl, HRUN.out⟩, HB.out⟩
end Go.Proofs.Ytfijaafkagcmmaa
namespace Go.Proofs.Ytfijaafkagcmmaa
open Go.RowKit Go.Shelf
attribute [local irreducible] arrV wpQuiet

theorem first_none' {α : Type} {f : Nat → Option α} {n from_ : Nat} (h : firstF f n from_ = none) : ∀ r, from_ ≤ r → r < n → f r = none := by
  unfold firstF at h
  rw [List.findSome?_eq_none_iff] at h
  intro r h1 h2
  exact h r (by rw [List.mem_range'_1]; omega)
theorem first_spec {α : Type} {f : Nat → Option α} {n : Nat} {g : α} : ∀ (k from_ : Nat), n - from_ = k → firstF f n from_ = some g → ∃ q, from_ ≤ q ∧ q < n ∧ f q = some g ∧ ∀ r, from_ ≤ r → r < q → f r = none
  | 0, from_, hk, h => by
    unfold firstF at h
    rw [hk] at h
    simp at h
  | k + 1, from_, hk, h => by
    cases hf : f from_ with
    | some g' =>
      have := first_some (f := f) (q := from_) (n := n) (Nat.le_refl from_) (by omega) (fun r h1 h2 => by omega) hf
      rw [this] at h
      cases h
      exact ⟨from_, Nat.le_refl _, by omega, hf, fun r h1 h2 => by omega⟩
    | none =>
      have e : firstF f n from_ = firstF f n (from_ + 1) := by
        unfold firstF
        rw [hk, List.range'_succ, List.findSome?_cons, hf, show n - (from_ + 1) = k by omega]
      rw [e] at h
      obtain ⟨q, h1, h2, h3, h4⟩ := first_spec k (from_ + 1) (by omega) h
      refine ⟨q, by omega, h2, h3, fun r h5 h6 => ?_⟩
      by_cases e : r = from_
      · rw [e]; exact hf
      · exact h4 r (by omega) h6

/-- Lists that rise strictly, from a number on. -/
def Rise (n : Nat) : Nat → List Nat → Prop
  | _, [] => True
  | from_, a :: l => from_ ≤ a ∧ a < n ∧ Rise n (a + 1) l
theorem find_spec {al : (Nat → Bool) → Bool} {n : Nat} {g : Nat → Bool} : ∀ (more : Nat) (out : Nat → Bool) (from_ : Nat), findP al n more out from_ = some g → ∃ l, l.length = more ∧ Rise n from_ l ∧ g = l.foldl withS out ∧ al g = true
  | 0, out, from_, h => by
    unfold findP at h
    by_cases ha : al out = true
    · rw [if_pos ha] at h
      cases h
      exact ⟨[], rfl, trivial, rfl, ha⟩
    · rw [if_neg ha] at h
      cases h
  | more + 1, out, from_, h => by
    unfold findP at h
    obtain ⟨q, h1, h2, h3, _⟩ := first_spec _ from_ rfl h
    obtain ⟨l, e1, e2, e3, e4⟩ := find_spec more _ _ h3
    exact ⟨q :: l, by simp [e1], ⟨h1, h2, e2⟩, by simpa using e3, e4⟩
theorem find_none {al : (Nat → Bool) → Bool} {n : Nat} : ∀ (more : Nat) (out : Nat → Bool) (from_ : Nat), findP al n more out from_ = none → ∀ l, l.length = more → Rise n from_ l → al (l.foldl withS out) = false
  | 0, out, from_, h, l, hl, _ => by
    obtain rfl := List.eq_nil_of_length_eq_zero hl
    unfold findP at h
    by_cases ha : al out = true
    · rw [if_pos ha] at h
      cases h
    · simpa using ha
  | more + 1, out, from_, h, l, hl, hr => by
    unfold findP at h
    match l, hl, hr with
    | a :: l, hl, hr =>
      have := first_none' h a hr.1 hr.2.1
      exact find_none more _ _ this l (by simpa using hl) hr.2.2
theorem fold_with (l : List Nat) : ∀ (out : Nat → Bool) (i : Nat), l.foldl withS out i = (out i || decide (i ∈ l)) := by
  induction l with
  | nil => intro out i; simp
  | cons a l ih =>
    intro out i
    rw [List.foldl_cons, ih]
    unfold withS
    rw [Bool.eq_iff_iff]
    simp only [Bool.or_eq_true, decide_eq_true_eq, List.mem_cons, beq_iff_eq]
    constructor
    · rintro ((h | h) | h)
      · exact .inl h
      · exact .inr (.inl h)
      · exact .inr (.inr h)
    · rintro (h | h | h)
      · exact .inl (.inl h)
      · exact .inl (.inr h)
      · exact .inr h
theorem Rise.mem {n : Nat} : ∀ {l : List Nat} {from_ : Nat}, Rise n from_ l → ∀ a, a ∈ l → from_ ≤ a ∧ a < n
  | [], _, _, a, h => by simp at h
  | b :: l, from_, hr, a, h => by
    rcases List.mem_cons.1 h with rfl | h
    · exact ⟨hr.1, hr.2.1⟩
    · have := Rise.mem hr.2.2 a h
      have h1 := hr.1
      omega
theorem Rise.nodup {n : Nat} : ∀ {l : List Nat} {from_ : Nat}, Rise n from_ l → l.Nodup
  | [], _, _ => List.nodup_nil
  | b :: l, from_, hr => List.nodup_cons.2 ⟨fun h => by have := hr.2.2.mem b h; omega, hr.2.2.nodup⟩
theorem rise_range {n : Nat} (f : Nat → Bool) : ∀ (k a : Nat), a + k ≤ n → Rise n a ((List.range' a k).filter f)
  | 0, a, _ => trivial
  | k + 1, a, h => by
    have up : ∀ {l : List Nat} {b : Nat}, Rise n (b + 1) l → Rise n b l := fun {l b} hr => by
      cases l with
      | nil => trivial
      | cons c l => exact ⟨by have := hr.1; omega, hr.2⟩
    rw [List.range'_succ]
    cases hf : f a with
    | false =>
      rw [List.filter_cons_of_neg (by rw [hf]; simp)]
      exact up (rise_range f k (a + 1) (by omega))
    | true =>
      rw [List.filter_cons_of_pos hf]
      exact ⟨Nat.le_refl _, by omega, rise_range f k (a + 1) (by omega)⟩
def cardS (t : Nat → Bool) (n : Nat) : Nat := ((List.range n).filter t).length
theorem card_of {l : List Nat} {t : Nat → Bool} {n : Nat} (hd : l.Nodup) (hl : ∀ a, a ∈ l → a < n) (ht : ∀ i, i < n → (t i = true ↔ i ∈ l)) : cardS t n = l.length := by
  unfold cardS
  refine List.Perm.length_eq ((List.perm_ext_iff_of_nodup ((List.nodup_range).filter _) hd).2 fun a => ?_)
  rw [List.mem_filter, List.mem_range]
  exact ⟨fun ⟨h1, h2⟩ => (ht a h1).1 h2, fun h => ⟨hl a h, (ht a (hl a h)).2 h⟩⟩

theorem doubt_spec {al : (Nat → Bool) → Bool} {n : Nat} (hdep : ∀ s t : Nat → Bool, (∀ i, i < n → s i = t i) → al s = al t) (hfull : al (fun _ => true) = true) :
    ∃ s, doubtP al n = some s ∧ al s = true ∧ (∀ i, s i = true → i < n) ∧ ∀ t, al t = true → cardS s n ≤ cardS t n := by
  have hset : ∀ t : Nat → Bool, al (((List.range n).filter t).foldl withS (fun _ => false)) = al t := fun t => hdep _ _ fun i hi => by
    rw [fold_with, Bool.false_or, Bool.eq_iff_iff, decide_eq_true_eq, List.mem_filter, List.mem_range]
    exact ⟨fun h => h.2, fun h => ⟨hi, h⟩⟩
  have hcl : ∀ t, cardS t n ≤ n := fun t => by
    have := List.length_filter_le t (List.range n)
    simpa [cardS] using this
  have hrise : ∀ t : Nat → Bool, Rise n 0 ((List.range n).filter t) := fun t => by
    have := rise_range (n := n) t n 0 (by omega)
    rwa [← List.range_eq_range'] at this
  cases hd : doubtP al n with
  | none =>
    have h1 := first_none' hd (cardS (fun _ => true) n) (Nat.zero_le _) (by have := hcl fun _ => true; omega)
    have h2 := find_none _ _ _ h1 ((List.range n).filter fun _ => true) rfl (hrise _)
    rw [hset, hfull] at h2
    cases h2
  | some s =>
    obtain ⟨q, _, h2, h3, h4⟩ := first_spec _ 0 rfl hd
    obtain ⟨l, e1, e2, e3, e4⟩ := find_spec _ _ _ h3
    have hs : ∀ i, s i = true ↔ i ∈ l := fun i => by rw [e3, fold_with, Bool.false_or, decide_eq_true_eq]
    refine ⟨s, rfl, e4, fun i hi => (e2.mem i ((hs i).1 hi)).2, fun t ht => ?_⟩
    rw [card_of e2.nodup (fun a ha => (e2.mem a ha).2) (fun i _ => hs i), e1]
    apply Classical.byContradiction
    intro hc
    have h5 := h4 (cardS t n) (Nat.zero_le _) (by omega)
    have h6 := find_none _ _ _ h5 ((List.range n).filter t) rfl (hrise t)
    rw [hset, ht] at h6
    cases h6
/-- The list of a set of runs: rising, within the runs. -/
theorem listS_mem {s : Nat → Bool} {k i : Nat} : (i : Int) ∈ listS s k ↔ i < k ∧ s i = true := by
  unfold listS
  rw [List.mem_map]
  constructor
  · rintro ⟨a, ha, e⟩
    rw [List.mem_filter, List.mem_range] at ha
    obtain rfl : a = i := by omega
    exact ha
  · rintro ⟨h1, h2⟩
    exact ⟨i, by rw [List.mem_filter, List.mem_range]; exact ⟨h1, h2⟩, rfl⟩
theorem listS_card {s : Nat → Bool} {n k : Nat} (hk : n ≤ k) (hs : ∀ i, s i = true → i < n) : (listS s k).length = cardS s n := by
  unfold listS cardS
  rw [List.length_map]
  refine List.Perm.length_eq ((List.perm_ext_iff_of_nodup ((List.nodup_range).filter _) ((List.nodup_range).filter _)).2 fun a => ?_)
  rw [List.mem_filter, List.mem_filter, List.mem_range, List.mem_range]
  exact ⟨fun ⟨_, h⟩ => ⟨hs a h, h⟩, fun ⟨h1, h⟩ => ⟨by omega, h⟩⟩
theorem listS_sorted (s : Nat → Bool) (k : Nat) : (listS s k).Pairwise (· < ·) := by
  unfold listS
  rw [List.pairwise_map]
  have : (List.range k).Pairwise (· < ·) := List.pairwise_lt_range
  exact (this.sublist List.filter_sublist).imp fun h => by omega
theorem listS_get {s : Nat → Bool} {n k i : Nat} (hs : ∀ i, s i = true → i < n) (hi : i < (listS s k).length) : (0 ≤ ld (listS s k) i ∧ ld (listS s k) i < n) ∧ (0 < i → ld (listS s k) (i - 1) < ld (listS s k) i) := by
  have e : ∀ j (hj : j < (listS s k).length), ld (listS s k) j = (listS s k)[j] := fun j hj => by simp [ld, hj]
  refine ⟨?_, fun h0 => ?_⟩
  · rw [e i hi]
    have hm := List.getElem_mem hi
    obtain ⟨a, ha, e2⟩ := List.mem_map.1 (show (listS s k)[i] ∈ ((List.range k).filter s).map (fun i : Nat => (i : Int)) from hm)
    rw [List.mem_filter] at ha
    have := hs a ha.2
    omega
  · rw [e i hi, e (i - 1) (by omega)]
    exact List.pairwise_iff_getElem.1 (listS_sorted s k) _ _ _ _ (by omega)

/-- What is allowed without some runs. -/
theorem alS_iff {ms : List Rg} {rs : List Rn} (hl : rs.length ≤ 6) (out : Nat → Bool) : alS ms rs out = true ↔ ∃ x, x ∈ allL ms ∧ ∀ i, i < rs.length → out i = false → fitsB (rn rs i) x = true := by
  unfold alS allowS mapE
  rw [List.any_map, List.any_eq_true]
  refine exists_congr fun x => and_congr_right fun _ => ?_
  simp only [Function.comp]
  unfold withinS
  rw [allN_iff]
  constructor
  · intro h i hi ho
    have := h i (by omega)
    rw [ho] at this
    simpa [forbS, hi] using this
  · intro h i _
    cases ho : out i with
    | true => simp
    | false =>
      by_cases hi : i < rs.length
      · simp [forbS, hi, h i hi ho]
      · simp [forbS, hi]
theorem alS_dep {ms : List Rg} {rs : List Rn} (hl : rs.length ≤ 6) : ∀ s t : Nat → Bool, (∀ i, i < rs.length → s i = t i) → alS ms rs s = alS ms rs t := fun s t h => by
  rw [Bool.eq_iff_iff, alS_iff hl, alS_iff hl]
  exact exists_congr fun x => and_congr_right fun _ => ⟨fun k i hi ho => k i hi (by rw [h i hi]; exact ho), fun k i hi ho => k i hi (by rw [← h i hi]; exact ho)⟩
theorem alS_full {ms : List Rg} {rs : List Rn} (hm : MatOk ms) (hl : rs.length ≤ 6) : alS ms rs (fun _ => true) = true := by
  obtain ⟨x, hx⟩ := List.exists_mem_of_ne_nil _ hm.some
  rw [alS_iff hl]
  exact ⟨x, hx, fun i _ h => by cases h⟩
theorem keep_iff {x : List Int} {i : Nat} : keepT x i x.length = true ↔ (i : Int) ∉ x := by
  unfold keepT
  rw [List.take_length, List.all_eq_true]
  exact ⟨fun h hm => by simpa using h _ hm, fun h a ha => by rw [bne_iff_ne]; exact fun e => h (e ▸ ha)⟩
theorem all_wo {rs : List Rn} {nums x : List Int} : allB (woT rs nums rs.length) x = true ↔ ∀ i, i < rs.length → (i : Int) ∉ nums → fitsB (rn rs i) x = true := by
  unfold allB woT
  rw [List.all_eq_true]
  constructor
  · intro h i hi hn
    exact h _ (List.mem_map.2 ⟨i, by rw [List.mem_filter, List.mem_range]; exact ⟨hi, keep_iff.2 hn⟩, rfl⟩)
  · intro h r hr
    obtain ⟨i, hi, rfl⟩ := List.mem_map.1 hr
    rw [List.mem_filter, List.mem_range] at hi
    exact h i hi.1 (keep_iff.1 hi.2)
theorem ok_wo {ms : List Rg} {rs : List Rn} (hl : rs.length ≤ 6) (nums : List Int) : okL ms (woT rs nums rs.length) ≠ [] ↔ alS ms rs (fun i => decide ((i : Int) ∈ nums)) = true := by
  rw [alS_iff hl]
  constructor
  · intro h
    obtain ⟨x, hx⟩ := List.exists_mem_of_ne_nil _ h
    rw [mem_okL, all_wo] at hx
    exact ⟨x, hx.1, fun i hi ho => hx.2 i hi (by simpa using ho)⟩
  · rintro ⟨x, hx, h⟩
    exact List.ne_nil_of_mem (mem_okL.2 ⟨hx, all_wo.2 fun i hi hn => h i hi (by simpa using hn)⟩)
theorem wo_len {rs : List Rn} {nums : List Int} : (woT rs nums rs.length).length + cardS (fun i => decide ((i : Int) ∈ nums)) rs.length = rs.length := by
  unfold woT cardS
  rw [List.length_map]
  have h : ∀ (l : List Nat), (l.filter fun i => keepT nums i nums.length).length + (l.filter fun i : Nat => decide ((i : Int) ∈ nums)).length = l.length := fun l => by
    induction l with
    | nil => rfl
    | cons a l ih =>
      by_cases hm : (a : Int) ∈ nums
      · have hk : keepT nums a nums.length = false := by
          cases hk : keepT nums a nums.length with
          | false => rfl
          | true => exact absurd hm (keep_iff.1 hk)
        rw [List.filter_cons_of_neg (by rw [hk]; simp), List.filter_cons_of_pos (by simpa using hm), List.length_cons, List.length_cons]
        omega
      · rw [List.filter_cons_of_pos (p := fun i => keepT nums i nums.length) (keep_iff.2 hm), List.filter_cons_of_neg (p := fun i : Nat => decide ((i : Int) ∈ nums)) (by simpa using hm), List.length_cons, List.length_cons]
        omega
  have := h (List.range rs.length)
  simpa using this
theorem wo_room {ms : List Rg} {rs : List Rn} (hK : RoomOk ms rs) (nums : List Int) : RoomOk ms (woT rs nums rs.length) :=
  ⟨hK.mat, by have := woT_len rs nums rs.length; have := hK.len; omega, fun r hr => by
    obtain ⟨i, hi, rfl⟩ := List.mem_map.1 hr
    rw [List.mem_filter, List.mem_range] at hi
    exact hK.rn _ (rn_mem hi.1)⟩
end Go.Proofs.Ytfijaafkagcmmaa
namespace Go.Proofs.Ytfijaafkagcmmaa
open Go.RowKit Go.Shelf
attribute [local irreducible] arrV wpQuiet

/-- What the law asks of the doubtful runs. -/
structure DoubtOf (ms : List Rg) (rs : List Rn) (D : List Int) : Prop where
  len : D.length ≤ rs.length
  at_ : ∀ i, i < D.length → 0 ≤ ld D i ∧ ld D i < rs.length
  up : ∀ i, i + 1 < D.length → ld D i < ld D (i + 1)
  ok : okL ms (woT rs D rs.length) ≠ []
  zero : (okL ms rs = [] ∧ D.length ≠ 0) ∨ (okL ms rs ≠ [] ∧ D.length = 0)
  least : ∀ nums, okL ms (woT rs nums rs.length) ≠ [] → (D.length : Int) ≤ (rs.length : Int) - (woT rs nums rs.length).length
theorem ok_none {ms : List Rg} {rs : List Rn} (hl : rs.length ≤ 6) : okL ms rs ≠ [] ↔ alS ms rs (fun _ => false) = true := by
  rw [alS_iff hl]
  constructor
  · intro h
    obtain ⟨x, hx⟩ := List.exists_mem_of_ne_nil _ h
    rw [mem_okL, ← allN_fits, allN_iff] at hx
    exact ⟨x, hx.1, fun i hi _ => hx.2 i hi⟩
  · rintro ⟨x, hx, h⟩
    refine List.ne_nil_of_mem (mem_okL.2 ⟨hx, ?_⟩)
    rw [← allN_fits, allN_iff]
    exact fun i hi => h i hi rfl
theorem doubt_of {ms : List Rg} {rs : List Rn} (hK : RoomOk ms rs) : ∃ s, doubtP (alS ms rs) rs.length = some s ∧ DoubtOf ms rs (listS s 6) := by
  have hl := hK.len
  obtain ⟨s, h1, h2, h3, h4⟩ := doubt_spec (alS_dep hl) (alS_full hK.mat hl)
  have hc := listS_card hl h3
  have hmem : alS ms rs (fun i => decide ((i : Int) ∈ listS s 6)) = alS ms rs s := alS_dep hl _ _ fun i hi => by
    rw [Bool.eq_iff_iff, decide_eq_true_eq, listS_mem]
    exact ⟨fun h => h.2, fun h => ⟨by omega, h⟩⟩
  refine ⟨s, h1, ⟨?_, fun i hi => (listS_get h3 hi).1, fun i hi => by simpa using (listS_get h3 hi).2 (by omega), ?_, ?_, fun nums hn => ?_⟩⟩
  · rw [hc]
    have := List.length_filter_le s (List.range rs.length)
    simpa [cardS] using this
  · rw [ok_wo hl, hmem]
    exact h2
  · by_cases ho : okL ms rs = []
    · refine .inl ⟨ho, fun h0 => ?_⟩
      have hz : ∀ i, i < rs.length → s i = (fun _ => false) i := fun i hi => by
        cases hs : s i with
        | false => rfl
        | true =>
          have : (i : Int) ∈ listS s 6 := listS_mem.2 ⟨by omega, hs⟩
          rw [List.eq_nil_of_length_eq_zero h0] at this
          simp at this
      have := alS_dep (ms := ms) hl _ _ hz
      rw [h2] at this
      exact ok_none hl |>.2 this.symm ho
    · refine .inr ⟨ho, ?_⟩
      have := h4 _ (ok_none hl |>.1 ho)
      rw [hc]
      have h0 : cardS (fun _ => false) rs.length = 0 := by simp [cardS]
      omega
  · have h5 := h4 _ (ok_wo hl nums |>.1 hn)
    have h6 := wo_len (rs := rs) (nums := nums)
    omega
theorem Rates_all (n : Nat) (mv rv : Value) (ms : List Rg) (rs : List Rn) (w : World) (hK : RoomOk ms rs) (hV : RoomV n w mv rv ms rs) :
    Calls Try.prog 27 #[.agg #[mv], rv] w fun e w' => (∃ v k, e = .returned (.tuple #[v, .int .i64 k, .int .i64 (failE (someB (okL ms rs)))])) ∧ Below w.heap.size w w' := by
  by_cases h : okL ms rs = []
  · refine (Rates_fail n mv rv ms rs w hK hV h).mono ?_
    rintro e w' ⟨rfl, hb⟩
    rw [someB_nil h]
    exact ⟨⟨_, _, rfl⟩, hb⟩
  · refine (Rates_ok n mv rv ms rs w hK hV h).mono ?_
    rintro e w' ⟨⟨v, rfl, -⟩, hb⟩
    rw [someB_ne h]
    exact ⟨⟨_, _, rfl⟩, hb⟩

set_option maxRecDepth 100000 in
set_option maxHeartbeats 8000000 in
theorem doubtful_walk (mv rv xv : Value) (ms : List Rg) (rs : List Rn) (x : List Int) (w : World) (hV : RgsV w.heap.size w mv ms) (hR : RunsV w.heap.size w rv rs) (hXV : IntsV w.heap.size w xv x) :
    Calls Try.prog 15 #[.agg #[mv], rv, xv] w fun e w' => e = .returned (.bool true) ∧ Below w.heap.size w w' := by
  have HR := Lib.hid fun w' (h : Below w.heap.size w w') => ready_any w.heap.size mv rv (.slice none 0 0) ms rs [] w' (hV.same (.below (Nat.le_refl _) h)) (hR.same (.below (Nat.le_refl _) h)) ⟨none, 0, rfl, fun h0 => absurd h0 (by decide)⟩ h.size
  have HMA0 := Lib.hid fun (hl : ms.length ≤ 1000) w' (h : Below w.heap.size w w') => Material_any w.heap.size mv ms w' hl (hV.same (.below (Nat.le_refl _) h)) h.size
  have HRU0 := Lib.hid fun (hl : rs.length ≤ 1000) (hs : ∀ q, q ∈ rs → q.ss.length ≤ 1000) w' (h : Below w.heap.size w w') => Runs_any w.heap.size rv rs w' hl hs (hR.same (.below (Nat.le_refl _) h)) h.size
  have HXV := Lib.hid fun w' (h : Below w.heap.size w w') => hXV.same (.below (n := w.heap.size) (Nat.le_refl _) h)
  have HRN := Lib.hid fun w' (h : Below w.heap.size w w') => hR.same (.below (n := w.heap.size) (Nat.le_refl _) h)
  obtain ⟨am, capm, rfl, -⟩ := hV
  obtain ⟨ax, capx, rfl, -⟩ := hXV
  obtain ⟨ar, capr, rfl, -⟩ := hR
  have HX := Lib.hid (heap_alloc_new w (.cells #[.slice am ms.length capm] 24))
  have HB := Lib.hid (box_below w (.cells #[.slice am ms.length capm] 24))
  have HA := Lib.hid awake_any
  have HHE := Lib.hid fun h => (@readyB_ok ms rs [] h).1
  generalize hz : readyB ms rs [] = z at *
  clear hz
  go_enter Try.func15, Try.ntmps15
  go_wp2_with fail
  refine (HR.out _ HB.out).mono ?_
  rintro e u0 ⟨rfl, hb⟩
  have HXA := Lib.hid ((hb.block _ (lt_of_block HX.out)).trans HX.out)
  have HBA := Lib.hid (below_to HB.out hb)
  clear hb HX HB HR
  cases z with
  | false =>
    go_wp2_with fail
    refine (HA.out u0).mono ?_
    rintro e u1 ⟨rfl, hb⟩
    have HBF := Lib.hid (below_to HBA.out hb)
    clear hb
    go_wp2
    go_ret
    exact ⟨rfl, HBF.out⟩
  | true =>
    have HK := Lib.hid (HHE.out (by trivial))
    clear HHE
    by_cases hl9 : (9 : Int) < x.length
    · have hd9 : decide ((9 : Int) < x.length) = true := decide_eq_true hl9
      go_wp2_with fail
      refine (HA.out u0).mono ?_
      rintro e u1 ⟨rfl, hb⟩
      have HBF := Lib.hid (below_to HBA.out hb)
      clear hb
      go_wp2
      go_ret
      exact ⟨rfl, HBF.out⟩
    · have hd9 : decide ((9 : Int) < x.length) = false := decide_eq_false hl9
      have HL9 : Hid (x.length ≤ 1000) := Lib.hid (by omega)
      clear hl9
      have HMA := Lib.hid (HMA0.out (by have := HK.out.mat.len; omega))
      have HRU := Lib.hid (HRU0.out (by have := HK.out.len; omega) (fun r hr => by have := (HK.out.rn r hr).len; omega))
      clear HMA0 HRU0
      obtain ⟨s, hs, hD⟩ := doubt_of HK.out
      have HS := Lib.hid hs
      have HD := Lib.hid hD
      clear hs hD
      have c0 := cell_of_row u0 w.heap.size 0 _ _ _ HXA.out
      simp only [List.getElem?_toArray, List.getElem?_cons_zero] at c0
      have l0 := lt_of_block HXA.out
      go_wp2_with fail
      refine (HMA.out u0 HBA.out).mono ?_
      rintro e u1 ⟨⟨m6, rfl, hm6⟩, hb⟩
      replace HXA := Lib.hid ((hb.block _ (lt_of_block HXA.out)).trans HXA.out)
      replace HBA := Lib.hid (below_to HBA.out hb)
      clear hb
      have HM6 := Lib.hid hm6
      clear hm6 c0 l0
      go_wp2_with fail
      refine (HRU.out u1 HBA.out).mono ?_
      rintro e u2 ⟨⟨r7, rfl, hr7⟩, hb⟩
      replace HXA := Lib.hid ((hb.block _ (lt_of_block HXA.out)).trans HXA.out)
      replace HBA := Lib.hid (below_to HBA.out hb)
      replace HM6 := Lib.hid ((HM6.out.same (.below (Nat.le_refl _) hb)).up hb.size)
      clear hb
      have HV7 : Hid (RoomV u2.heap.size u2 m6 r7 ms rs) := Lib.hid ⟨Nat.le_refl _, HM6.out, hr7⟩
      clear hr7 HM6
      go_wp2_with fail
      have hdo := Doubtful_ok u2.heap.size m6 r7 ms rs s u2 HK.out HV7.out HS.out
      refine (hdo).mono ?_
      rintro e u3 ⟨⟨v7, rfl, hv7⟩, hb⟩
      replace HXA := Lib.hid ((hb.block _ (lt_of_block HXA.out)).trans HXA.out)
      replace HBA := Lib.hid (below_to HBA.out hb)
      clear hb
      clear hdo HV7 HS
      obtain ⟨D, hDe⟩ : ∃ D, listS s 6 = D := ⟨_, rfl⟩
      rw [hDe] at hv7 HD
      clear hDe
      have HI := Lib.hid hv7
      obtain ⟨aD, cD, rfl, -, hDp⟩ := hv7
      have HDP := Lib.hid hDp
      clear hDp
      have hDlen : (D.length : Int) ≤ rs.length := by have := HD.out.len; omega
      have hdl : decide ((rs.length : Int) < D.length) = false := decide_eq_false (by omega)
      have HDL6 : Hid (D.length ≤ 6) := Lib.hid (by have := HD.out.len; have := HK.out.len; omega)
      have HRL6 := Lib.hid HK.out.len
      have HUP := Lib.hid HD.out.up
      have HAT := Lib.hid HD.out.at_
      have hdn : D.length ≤ rs.length := HD.out.len
      go_wp2
      rw [show decide (rs.length < D.length) = false from decide_eq_false (by have := HD.out.len; omega)]
      clear hdl hdn hDlen hd9
      go_loopw [9] (fun i wr => ∃ k : Int, 0 ≤ k ∧ k ≤ D.length ∧ i = .int .i64 k ∧ Hid (Below u3.heap.size u3 wr)) (fun i _ => D.length - (intOf i).toNat)
      case atStart => exact ⟨0, by omega, by omega, rfl, Lib.hid (Below.refl _ _)⟩
      case round =>
        obtain ⟨k, hk0, hk, rfl, HBW⟩ := hrel
        by_cases hlt : k < D.length
        · obtain ⟨bD, oD, rfl, hbD, hcD⟩ := HDP.out (by omega)
          have HWK : Hid (IntKind.i64.wrap (k + 1) = k + 1) := Lib.hid (IntWalk.i64_in _ (by have := HDL6.out; omega))
          have HWR : Hid (IntKind.i64.wrap ((rs.length : Int) - 1) = (rs.length : Int) - 1) := Lib.hid (IntWalk.i64_in _ (by have := HRL6.out; omega))
          have lsD : bD < wr.heap.size := by have := HBW.out.size; omega
          have hll : decide (k < (D.length : Int)) = true := decide_eq_true hlt
          by_cases hk1 : 0 < k
          · obtain ⟨p, hq⟩ : ∃ p : Nat, k = (p : Int) + 1 := ⟨(k - 1).toNat, by omega⟩
            subst hq
            have p3 := (HBW.out.cell (p := ⟨bD, oD + (p + 1), none⟩) hbD).trans (hcD (p + 1) (by omega))
            have p4 := (HBW.out.cell (p := ⟨bD, oD + p, none⟩) hbD).trans (hcD p (by omega))
            have HPN : Hid ((p : Int) < D.length) := Lib.hid (by omega)
            have HW1 : Hid (IntKind.i64.wrap (p : Int) = (p : Int)) := Lib.hid (IntWalk.i64_in _ (by have := HDL6.out; omega))
            have HWQ : Hid (wrap64 (p : Int) = (p : Int)) := Lib.hid (IntWalk.wrap64_in _ (by have := HDL6.out; omega))
            have HKT : Hid (((p : Int) + 1).toNat = p + 1) := Lib.hid (by omega)
            have HPN2 : Hid ((p : Int) + 1 + 1 ≤ D.length) := Lib.hid (by omega)
            have HM2 : Hid (D.length - ((p : Int) + 1 + 1).toNat < D.length - ((p : Int) + 1).toNat) := Lib.hid (by omega)
            have hup := HUP.out p (by omega)
            have hat := HAT.out (p + 1) (by omega)
            have HAS := Lib.hid (In_any (ld D (p + 1)) 0 ((rs.length : Int) - 1))
            have hasT : hasB 0 ((rs.length : Int) - 1) (ld D (p + 1)) = true := by simp [hasB]; omega
            rw [hasT] at HAS
            have hd : decide (ld D (p + 1) ≤ ld D p) = false := decide_eq_false (by omega)
            clear hasT hup hat
            generalize ld D (p + 1) = x1 at *
            generalize ld D p = x0 at *
            have g3 := cell_regrown p3
            have g4 := cell_regrown p4
            clear hcD p3 p4
            have hpn := HPN.out
            have hwk := HWK.out
            have hw1 := HW1.out
            have hwq := HWQ.out
            have hkt := HKT.out
            have hwr := HWR.out
            go_wp2_with fail
            refine wp_region_quiet_below (by kernel_rfl) (by kernel_rfl) ?_
            repeat (quiet_step (with_reducible exact Calls.regrown_of (HAS.out _)))
            refine wpQuiet_nil ?_
            intro _ hw'
            obtain ⟨⟨dq, osq⟩, hw''⟩ := hw'
            subst hw''
            have hbr := Lib.hid (grow_to HBW.out (below_regrown wr dq osq))
            clear g3 g4 HBW hw1 hwq hkt hwr hpn
            go_wp2
            go_roundw
            case rel => exact ⟨(p : Int) + 1 + 1, Int.le_trans hk0 (Int.le_add_of_nonneg_right (by decide)), HPN2.out, rfl, hbr⟩
            case measure => exact HM2.out
          · obtain rfl : k = 0 := by omega
            have p3 := (HBW.out.cell (p := ⟨bD, oD + 0, none⟩) hbD).trans (hcD 0 (by omega))
            simp only [Nat.add_zero] at p3
            have hat := HAT.out 0 (by omega)
            have HAS := Lib.hid (In_any (ld D 0) 0 ((rs.length : Int) - 1))
            have hasT : hasB 0 ((rs.length : Int) - 1) (ld D 0) = true := by simp [hasB]; omega
            rw [hasT] at HAS
            have HPN1 : Hid ((1 : Int) ≤ D.length) := Lib.hid (by omega)
            have hpn0 : (0 : Int) < D.length := by omega
            have HM1 : Hid (D.length - (1 : Int).toNat < D.length - (0 : Int).toNat) := Lib.hid (by show D.length - 1 < D.length - 0; omega)
            clear hasT hat
            generalize ld D 0 = x1 at *
            have g3 := cell_regrown p3
            clear hcD p3
            have hwk := HWK.out
            have hwr := HWR.out
            go_wp2_with fail
            refine wp_region_quiet_below (by kernel_rfl) (by kernel_rfl) ?_
            repeat (quiet_step (with_reducible exact Calls.regrown_of (HAS.out _)))
            refine wpQuiet_nil ?_
            intro _ hw'
            obtain ⟨⟨dq, osq⟩, hw''⟩ := hw'
            subst hw''
            have hbr := Lib.hid (grow_to HBW.out (below_regrown wr dq osq))
            clear g3 HBW hwr
            go_wp2
            go_roundw
            case rel => exact ⟨1, by decide, HPN1.out, rfl, hbr⟩
            case measure => exact HM1.out
        · obtain rfl : k = D.length := by omega
          replace HXA := Lib.hid ((HBW.out.block _ (lt_of_block HXA.out)).trans HXA.out)
          replace HBA := Lib.hid (below_to HBA.out HBW.out)
          replace HI := Lib.hid ((HI.out.same (.below (Nat.le_refl _) HBW.out)).up HBW.out.size)
          clear HBW hlt hk hk0 HUP HAT
          have c0 := cell_of_row wr w.heap.size 0 _ _ _ HXA.out
          simp only [List.getElem?_toArray, List.getElem?_cons_zero] at c0
          have l0 := lt_of_block HXA.out
          go_wp2_with fail
          refine (HMA.out wr HBA.out).mono ?_
          rintro e a1 ⟨⟨m6, rfl, hm6⟩, hb⟩
          replace HXA := Lib.hid ((hb.block _ (lt_of_block HXA.out)).trans HXA.out)
          replace HBA := Lib.hid (below_to HBA.out hb)
          replace HI := Lib.hid ((HI.out.same (.below (Nat.le_refl _) hb)).up hb.size)
          clear hb
          have HM6 := Lib.hid hm6
          clear hm6 c0 l0
          go_wp2_with fail
          refine (HRU.out a1 HBA.out).mono ?_
          rintro e a2 ⟨⟨r7, rfl, hr7⟩, hb⟩
          replace HXA := Lib.hid ((hb.block _ (lt_of_block HXA.out)).trans HXA.out)
          replace HBA := Lib.hid (below_to HBA.out hb)
          replace HI := Lib.hid ((HI.out.same (.below (Nat.le_refl _) hb)).up hb.size)
          replace HM6 := Lib.hid ((HM6.out.same (.below (Nat.le_refl _) hb)).up hb.size)
          clear hb
          have HV7 : Hid (RoomV a2.heap.size a2 m6 r7 ms rs) := Lib.hid ⟨Nat.le_refl _, HM6.out, hr7⟩
          clear hr7 HM6
          go_wp2_with fail
          have hra := Rates_all a2.heap.size m6 r7 ms rs a2 HK.out HV7.out
          obtain ⟨F0, HF0⟩ : ∃ F, Hid (failE (someB (okL ms rs)) = F) := ⟨_, Lib.hid rfl⟩
          rw [HF0.out] at hra
          refine (hra).mono ?_
          rintro e a3 ⟨⟨y1, k1, rfl⟩, hb⟩
          replace HXA := Lib.hid ((hb.block _ (lt_of_block HXA.out)).trans HXA.out)
          replace HBA := Lib.hid (below_to HBA.out hb)
          replace HI := Lib.hid ((HI.out.same (.below (Nat.le_refl _) hb)).up hb.size)
          clear hb
          clear hra HV7
          have c0 := cell_of_row a3 w.heap.size 0 _ _ _ HXA.out
          simp only [List.getElem?_toArray, List.getElem?_cons_zero] at c0
          have l0 := lt_of_block HXA.out
          go_wp2_with fail
          refine (HMA.out a3 HBA.out).mono ?_
          rintro e b1 ⟨⟨m6, rfl, hm6⟩, hb⟩
          replace HXA := Lib.hid ((hb.block _ (lt_of_block HXA.out)).trans HXA.out)
          replace HBA := Lib.hid (below_to HBA.out hb)
          replace HI := Lib.hid ((HI.out.same (.below (Nat.le_refl _) hb)).up hb.size)
          clear hb
          have HM6 := Lib.hid hm6
          clear hm6 c0 l0
          go_wp2_with fail
          have hwo := Without_any w.heap.size b1.heap.size _ _ rs D b1 (by have := HK.out.len; omega) (by have := HDL6.out; omega) (HRN.out b1 HBA.out) HI.out HBA.out.size (Nat.le_refl _)
          refine (hwo).mono ?_
          rintro e b2 ⟨⟨wv, rfl, hwv⟩, hb⟩
          replace HXA := Lib.hid ((hb.block _ (lt_of_block HXA.out)).trans HXA.out)
          replace HBA := Lib.hid (below_to HBA.out hb)
          replace HI := Lib.hid ((HI.out.same (.below (Nat.le_refl _) hb)).up hb.size)
          replace HM6 := Lib.hid ((HM6.out.same (.below (Nat.le_refl _) hb)).up hb.size)
          clear hb
          have HWV := Lib.hid hwv
          clear hwo hwv
          go_wp2_with fail
          have HKW := Lib.hid (wo_room HK.out D)
          have hru := Runs_any b2.heap.size wv _ b2 (by have := HKW.out.len; omega) (fun r hr => by have := (HKW.out.rn r hr).len; omega) HWV.out (Nat.le_refl _)
          refine (hru).mono ?_
          rintro e b3 ⟨⟨r7, rfl, hr7⟩, hb⟩
          replace HXA := Lib.hid ((hb.block _ (lt_of_block HXA.out)).trans HXA.out)
          replace HBA := Lib.hid (below_to HBA.out hb)
          replace HI := Lib.hid ((HI.out.same (.below (Nat.le_refl _) hb)).up hb.size)
          replace HM6 := Lib.hid ((HM6.out.same (.below (Nat.le_refl _) hb)).up hb.size)
          clear hb
          have HV7 : Hid (RoomV b3.heap.size b3 m6 r7 ms (woT rs D rs.length)) := Lib.hid ⟨Nat.le_refl _, HM6.out, hr7⟩
          clear hr7 HM6 hru HWV
          go_wp2_with fail
          have hra := Rates_all b3.heap.size m6 r7 ms _ b3 HKW.out HV7.out
          obtain ⟨F1, HF1⟩ : ∃ F, Hid (failE (someB (okL ms (woT rs D rs.length))) = F) := ⟨_, Lib.hid rfl⟩
          rw [HF1.out] at hra
          refine (hra).mono ?_
          rintro e b4 ⟨⟨y2, k2, rfl⟩, hb⟩
          replace HXA := Lib.hid ((hb.block _ (lt_of_block HXA.out)).trans HXA.out)
          replace HBA := Lib.hid (below_to HBA.out hb)
          replace HI := Lib.hid ((HI.out.same (.below (Nat.le_refl _) hb)).up hb.size)
          clear hb
          clear hra HV7 HKW
          have c0 := cell_of_row b4 w.heap.size 0 _ _ _ HXA.out
          simp only [List.getElem?_toArray, List.getElem?_cons_zero] at c0
          have l0 := lt_of_block HXA.out
          go_wp2_with fail
          refine (HMA.out b4 HBA.out).mono ?_
          rintro e c1 ⟨⟨m6, rfl, hm6⟩, hb⟩
          replace HXA := Lib.hid ((hb.block _ (lt_of_block HXA.out)).trans HXA.out)
          replace HBA := Lib.hid (below_to HBA.out hb)
          replace HI := Lib.hid ((HI.out.same (.below (Nat.le_refl _) hb)).up hb.size)
          clear hb
          have HM6 := Lib.hid hm6
          clear hm6 c0 l0
          go_wp2_with fail
          have hwo := Without_any w.heap.size c1.heap.size _ _ rs x c1 (by have := HK.out.len; omega) HL9.out (HRN.out c1 HBA.out) ((HXV.out c1 HBA.out).up HBA.out.size) HBA.out.size (Nat.le_refl _)
          refine (hwo).mono ?_
          rintro e c2 ⟨⟨wv, rfl, hwv⟩, hb⟩
          replace HXA := Lib.hid ((hb.block _ (lt_of_block HXA.out)).trans HXA.out)
          replace HBA := Lib.hid (below_to HBA.out hb)
          replace HI := Lib.hid ((HI.out.same (.below (Nat.le_refl _) hb)).up hb.size)
          replace HM6 := Lib.hid ((HM6.out.same (.below (Nat.le_refl _) hb)).up hb.size)
          clear hb
          have HWV := Lib.hid hwv
          clear hwo hwv
          go_wp2_with fail
          have HKW := Lib.hid (wo_room HK.out x)
          have hru := Runs_any c2.heap.size wv _ c2 (by have := HKW.out.len; omega) (fun r hr => by have := (HKW.out.rn r hr).len; omega) HWV.out (Nat.le_refl _)
          refine (hru).mono ?_
          rintro e c3 ⟨⟨r7, rfl, hr7⟩, hb⟩
          replace HXA := Lib.hid ((hb.block _ (lt_of_block HXA.out)).trans HXA.out)
          replace HBA := Lib.hid (below_to HBA.out hb)
          replace HI := Lib.hid ((HI.out.same (.below (Nat.le_refl _) hb)).up hb.size)
          replace HM6 := Lib.hid ((HM6.out.same (.below (Nat.le_refl _) hb)).up hb.size)
          clear hb
          have HV7 : Hid (RoomV c3.heap.size c3 m6 r7 ms (woT rs x rs.length)) := Lib.hid ⟨Nat.le_refl _, HM6.out, hr7⟩
          clear hr7 HM6 hru HWV
          go_wp2_with fail
          have hra := Rates_all c3.heap.size m6 r7 ms _ c3 HKW.out HV7.out
          obtain ⟨F2, HF2⟩ : ∃ F, Hid (failE (someB (okL ms (woT rs x rs.length))) = F) := ⟨_, Lib.hid rfl⟩
          rw [HF2.out] at hra
          refine (hra).mono ?_
          rintro e c4 ⟨⟨y2, k2, rfl⟩, hb⟩
          replace HXA := Lib.hid ((hb.block _ (lt_of_block HXA.out)).trans HXA.out)
          replace HBA := Lib.hid (below_to HBA.out hb)
          replace HI := Lib.hid ((HI.out.same (.below (Nat.le_refl _) hb)).up hb.size)
          clear hb
          clear hra HV7 HKW
          go_wp2_with fail
          have hwo := Without_any w.heap.size c4.heap.size _ _ rs x c4 (by have := HK.out.len; omega) HL9.out (HRN.out c4 HBA.out) ((HXV.out c4 HBA.out).up HBA.out.size) HBA.out.size (Nat.le_refl _)
          refine (hwo).mono ?_
          rintro e d1 ⟨⟨wv, rfl, hwv⟩, hb⟩
          replace HXA := Lib.hid ((hb.block _ (lt_of_block HXA.out)).trans HXA.out)
          replace HBA := Lib.hid (below_to HBA.out hb)
          replace HI := Lib.hid ((HI.out.same (.below (Nat.le_refl _) hb)).up hb.size)
          clear hb
          clear hwo
          obtain ⟨aw, cw, rfl, -⟩ := hwv
          have hwl : ((woT rs x rs.length).length : Int) ≤ rs.length := by have := woT_len rs x rs.length; omega
          have hww : IntKind.i64.wrap ((rs.length : Int) - (woT rs x rs.length).length) = (rs.length : Int) - (woT rs x rs.length).length := IntWalk.i64_in _ (by have := HRL6.out; omega)
          have HL := Lib.hid (HD.out.least x)
          have hF1 : F1 = 0 := by rw [← HF1.out, someB_ne HD.out.ok]
          subst hF1
          have HZ : Hid ((F0 = 9 ∧ D.length ≠ 0) ∨ (F0 = 0 ∧ D.length = 0)) := Lib.hid (by
            rcases HD.out.zero with ⟨h1, h2⟩ | ⟨h1, h2⟩
            · exact .inl ⟨by rw [← HF0.out, someB_nil h1], h2⟩
            · exact .inr ⟨by rw [← HF0.out, someB_ne h1], h2⟩)
          have HY : Hid (F2 = 9 ∨ (F2 = 0 ∧ (D.length : Int) ≤ (rs.length : Int) - (woT rs x rs.length).length)) := Lib.hid (by
            by_cases h : okL ms (woT rs x rs.length) = []
            · exact .inl (by rw [← HF2.out, someB_nil h])
            · exact .inr ⟨by rw [← HF2.out, someB_ne h], HL.out h⟩)
          clear HL hwl HF0 HF1 HF2
          have hwz : wrap64 ((rs.length : Int) - (woT rs x rs.length).length) = (rs.length : Int) - (woT rs x rs.length).length := by have := woT_len rs x rs.length; exact IntWalk.wrap64_in _ (by have := HRL6.out; omega)
          generalize (woT rs x rs.length).length = wl at *
          rcases HZ.out with ⟨h1, h2⟩ | ⟨h1, h2⟩
          · subst h1
            have hz0 : ((D.length : Int) == 0) = false := by rw [beq_eq_false_iff_ne]; omega
            clear h2 HZ
            rcases HY.out with h3 | ⟨h3, h4⟩
            · subst h3
              clear HY
              go_wp2_with fail
              refine (HA.out d1).mono ?_
              rintro e d2 ⟨rfl, hb⟩
              have HBF := Lib.hid (below_to HBA.out hb)
              clear hb
              go_wp2
              go_ret
              exact ⟨rfl, HBF.out⟩
            · subst h3
              have hd4 : decide ((D.length : Int) ≤ (rs.length : Int) - wl) = true := decide_eq_true h4
              clear HY
              go_wp2_with fail
              refine (HA.out d1).mono ?_
              rintro e d2 ⟨rfl, hb⟩
              have HBF := Lib.hid (below_to HBA.out hb)
              clear hb
              go_wp2
              go_ret
              exact ⟨rfl, HBF.out⟩
          · subst h1
            have hz0 : ((D.length : Int) == 0) = true := by rw [beq_iff_eq]; omega
            clear h2 HZ
            rcases HY.out with h3 | ⟨h3, h4⟩
            · subst h3
              clear HY
              go_wp2_with fail
              refine (HA.out d1).mono ?_
              rintro e d2 ⟨rfl, hb⟩
              have HBF := Lib.hid (below_to HBA.out hb)
              clear hb
              go_wp2
              go_ret
              exact ⟨rfl, HBF.out⟩
            · subst h3
              have hd4 : decide ((D.length : Int) ≤ (rs.length : Int) - wl) = true := decide_eq_true h4
              clear HY
              go_wp2_with fail
              refine (HA.out d1).mono ?_
              rintro e d2 ⟨rfl, hb⟩
              have HBF := Lib.hid (below_to HBA.out hb)
              clear hb
              go_wp2
              go_ret
              exact ⟨rfl, HBF.out⟩
end Go.Proofs.Ytfijaafkagcmmaa
