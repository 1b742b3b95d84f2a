/- The law CreepLonger, where there is nothing to do, and what it asks. Condition: as it says. -/
import Derived.Test.YtfijaafkagcmmaaR9
import Derived.Test.YtfijaafkagcmmaaR7
import Derived.BigRegion
namespace Go.Proofs.Ytfijaafkagcmmaa
open Go.RowKit Go.Shelf
attribute [local irreducible] arrV wpQuiet

set_option maxRecDepth 100000 in
set_option maxHeartbeats 4000000 in
theorem longer_no (ku kv : Value) (mv rv pv : Value) (ms : List Rg) (rs : List Rn) (ss : List Sg) (w : World) (hV : RgsV w.heap.size w mv ms) (hR : RunsV w.heap.size w rv rs) (hP : SegsV w.heap.size w pv ss) (hz : (readyB ms rs ss && decide (ss.length ≠ 0)) = false) :
    Calls Try.prog 13 #[.agg #[mv], rv, pv, ku, kv] w fun e w' => e = .returned (.bool true) ∧ Below w.heap.size w w' := by
  have HR := Lib.hid fun w' (h : Below w.heap.size w w') => ready_any w.heap.size mv rv pv ms rs ss w' (hV.same (.below (Nat.le_refl _) h)) (hR.same (.below (Nat.le_refl _) h)) (hP.same (.below (Nat.le_refl _) h)) h.size
  obtain ⟨am, capm, rfl, -⟩ := hV
  obtain ⟨ar, capr, rfl, -⟩ := hR
  obtain ⟨ap, capp, rfl, -⟩ := hP
  have HB := Lib.hid (box_below w (.cells #[.slice am ms.length capm] 24))
  have HA := Lib.hid awake_any
  generalize readyB ms rs ss = z at *
  generalize ms.length = nm at *
  generalize rs.length = nr at *
  generalize ss.length = np at *
  cases z with
  | false =>
    clear hz
    go_enter Try.func13, Try.ntmps13
    go_wp2_with fail
    refine (HR.out _ HB.out).mono ?_
    rintro e w1 ⟨rfl, hb1⟩
    have HB1 := Lib.hid (below_to HB.out hb1)
    clear hb1
    go_wp2_with fail
    refine (HA.out _).mono ?_
    rintro e w2 ⟨rfl, hb2⟩
    have HB2 := Lib.hid (below_to HB1.out hb2)
    clear hb2
    go_wp2
    go_ret
    exact ⟨rfl, HB2.out⟩
  | true =>
    obtain rfl : np = 0 := by simpa using hz
    clear hz
    go_enter Try.func13, Try.ntmps13
    go_wp2_with fail
    refine (HR.out _ HB.out).mono ?_
    rintro e w1 ⟨rfl, hb1⟩
    have HB1 := Lib.hid (below_to HB.out hb1)
    clear hb1
    go_wp2_with fail
    refine (HA.out _).mono ?_
    rintro e w2 ⟨rfl, hb2⟩
    have HB2 := Lib.hid (below_to HB1.out hb2)
    clear hb2
    go_wp2
    go_ret
    exact ⟨rfl, HB2.out⟩

/-- The plans that are made. -/
def hi1 (ss : List Sg) (k : Nat) (y : Int) : Int := min 1000000 ((sg ss k).h.hi + y)
def lo1 (ss : List Sg) (k : Nat) (y : Int) : Int := min (hi1 ss k y) ((sg ss k).h.lo + y / 2)
def longL (ss : List Sg) (k : Nat) (y : Int) : List Sg := ss.set k ⟨(sg ss k).b, ⟨lo1 ss k y, hi1 ss k y⟩⟩
def hotL' (n : Nat) (ss : List Sg) (k : Nat) : List Sg := ss.set k ⟨min ((n : Int) - 1) ((sg ss k).b + 1), (sg ss k).h⟩
theorem long_ok {n : Nat} {ss : List Sg} {k : Nat} {y : Int} (h : PlanOk n ss) (hk : k < ss.length) (hy : 0 ≤ y) : PlanOk n (longL ss k y) ∧ (sg ss k).h.lo ≤ lo1 ss k y ∧ (sg ss k).h.hi ≤ hi1 ss k y := by
  have hs := h.sg _ (sg_mem hk)
  have h1 := hs.lo
  have h2 := hs.le
  have h3 := hs.hi
  have hl : (sg ss k).h.lo ≤ lo1 ss k y ∧ (sg ss k).h.hi ≤ hi1 ss k y := by simp only [lo1, hi1]; omega
  refine ⟨⟨by simpa [longL] using h.len, fun s hs' => ?_⟩, hl⟩
  rcases List.mem_or_eq_of_mem_set hs' with h' | rfl
  · exact h.sg s h'
  · exact ⟨hs.b0, hs.bn, by simp only [lo1, hi1]; omega, by simp only [lo1]; omega, by simp only [hi1]; omega⟩
theorem hot_ok {n : Nat} {ss : List Sg} {k : Nat} (h : PlanOk n ss) (hk : k < ss.length) : PlanOk n (hotL' n ss k) := by
  have hs := h.sg _ (sg_mem hk)
  have h1 := hs.b0
  have h2 := hs.bn
  refine ⟨by simpa [hotL'] using h.len, fun s hs' => ?_⟩
  rcases List.mem_or_eq_of_mem_set hs' with h' | rfl
  · exact h.sg s h'
  · exact ⟨by simp only; omega, by simp only; omega, hs.lo, hs.le, hs.hi⟩
theorem one_ok {n : Nat} {ss : List Sg} {k : Nat} (h : PlanOk n ss) (hk : k < ss.length) : PlanOk n [sg ss k] :=
  ⟨by simp, fun s hs => by
    simp only [List.mem_cons, List.not_mem_nil, or_false] at hs
    subst hs
    exact h.sg _ (sg_mem hk)⟩
theorem stretch_bnd {al : List (List Int)} (hne : al ≠ []) (hR : ∀ x, x ∈ al → Rates x) {n : Nat} {ss : List Sg} (h : PlanOk n ss) :
    0 ≤ (stretchL al ss).lo ∧ (stretchL al ss).lo ≤ 8000000000 ∧ 0 ≤ (stretchL al ss).hi ∧ (stretchL al ss).hi ≤ 8000000000 := by
  obtain ⟨x, hx, e1⟩ := stretch_lo_mem hne ss
  obtain ⟨y, hy, e2⟩ := stretch_hi_mem hne ss
  have s1 := sums (hR x hx) h.sg
  have s2 := sums (hR y hy) h.sg
  have := h.len
  rw [e1, e2]
  omega
theorem one_bnd {al : List (List Int)} (hne : al ≠ []) (hR : ∀ x, x ∈ al → Rates x) {n : Nat} {s : Sg} (h : SgOk n s) :
    0 ≤ (stretchL al [s]).lo ∧ (stretchL al [s]).lo ≤ 1000000000 ∧ 0 ≤ (stretchL al [s]).hi ∧ (stretchL al [s]).hi ≤ 1000000000 := by
  obtain ⟨x, hx, e1⟩ := stretch_lo_mem hne [s]
  obtain ⟨y, hy, e2⟩ := stretch_hi_mem hne [s]
  have hs : ∀ q, q ∈ [s] → SgOk n q := fun q hq => by simp at hq; rw [hq]; exact h
  have s1 := sums (hR x hx) hs
  have s2 := sums (hR y hy) hs
  simp only [List.length_cons, List.length_nil] at s1 s2
  rw [e1, e2]
  omega
theorem sum_bnd {al : List (List Int)} (hne : al ≠ []) (hR : ∀ x, x ∈ al → Rates x) {n : Nat} : ∀ {ss : List Sg}, (∀ s, s ∈ ss → SgOk n s) → 0 ≤ sumLo al ss ∧ sumLo al ss ≤ 1000000000 * (ss.length : Int) ∧ 0 ≤ sumHi al ss ∧ sumHi al ss ≤ 1000000000 * (ss.length : Int)
  | [], _ => by simp [sumLo, sumHi]
  | s :: ss, h => by
    have ih := sum_bnd hne hR (ss := ss) fun q hq => h q (by simp [hq])
    have h1 := one_bnd hne hR (h s (by simp))
    simp only [sumLo, sumHi, List.length_cons]
    omega
theorem sum_take {al : List (List Int)} {ss : List Sg} {q : Nat} (h : q < ss.length) : sumLo al (ss.take (q + 1)) = sumLo al (ss.take q) + (stretchL al [sg ss q]).lo ∧ sumHi al (ss.take (q + 1)) = sumHi al (ss.take q) + (stretchL al [sg ss q]).hi := by
  have e : sg ss q = ss[q] := by simp [sg, h]
  rw [take_snoc h, e]
  exact ⟨sumLo_snoc _ _ _, sumHi_snoc _ _ _⟩
/-- What the law asks. -/
structure LongOf (al : List (List Int)) (ss l h : List Sg) : Prop where
  a1 : (stretchL al ss).lo ≤ (stretchL al l).lo
  a2 : (stretchL al ss).hi ≤ (stretchL al l).hi
  b1 : (stretchL al ss).lo ≤ (stretchL al h).lo
  b2 : (stretchL al ss).hi ≤ (stretchL al h).hi
  s1 : sumLo al ss ≤ (stretchL al ss).lo
  s2 : (stretchL al ss).hi ≤ sumHi al ss
theorem long_of {ms : List Rg} {rs : List Rn} {ss : List Sg} {k : Nat} {y : Int} (hK : RoomOk ms rs) (hne : okL ms rs ≠ []) (hP : PlanOk ms.length ss) (hk : k < ss.length) (hy : 0 ≤ y) : LongOf (okL ms rs) ss (longL ss k y) (hotL' ms.length ss k) := by
  have hR : ∀ x, x ∈ okL ms rs → Rates x := fun x hx => ok_rates hK.mat hx
  have e : sg ss k = ss[k] := by simp [sg, hk]
  have hs := hP.sg _ (sg_mem hk)
  obtain ⟨-, h1, h2⟩ := long_ok hP hk hy
  have l1 := longer_law hne hR hk (lo := lo1 ss k y) (hi := hi1 ss k y) (by rw [← e]; exact h1) (by rw [← e]; exact h2)
  have l2 := hotter_law hne (p := ss) hk (b := min ((ms.length : Int) - 1) (ss[k].b + 1)) (fun x hx => by
    rw [← e]
    exact rise_of (mem_okL.1 hx).1 hs.b0 hs.bn) (by rw [← e]; exact hs.lo) (by rw [← e]; have := hs.lo; have := hs.le; omega)
  have l3 := sum_law hne ss
  unfold longL hotL'
  rw [e]
  exact ⟨l1.1, l1.2, l2.1, l2.2, l3.1, l3.2⟩
end Go.Proofs.Ytfijaafkagcmmaa
