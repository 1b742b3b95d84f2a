/- What the laws of creep say of plain lists: lives, longer and hotter plans, segments that are cut, one more run. No condition. -/
import Derived.Test.YtfijaafkagcmmaaA
namespace Go.Proofs.Ytfijaafkagcmmaa

theorem hours_facts {st r : Int} (hs : 0 ≤ st) (hr : 0 ≤ r) : (hoursP st r = -1 ∧ st ≠ 0 ∧ r = 0) ∨ (0 ≤ hoursP st r ∧ st ≤ r * hoursP st r ∧ (0 < hoursP st r → r * (hoursP st r - 1) < st)) := by
  unfold hoursP
  by_cases h0 : st = 0
  · right; simp [h0]
  · rw [if_neg h0]
    by_cases h1 : r = 0
    · left; rw [if_pos h1]; exact ⟨rfl, h0, h1⟩
    · rw [if_neg h1]
      right
      have hp : 0 < r := by omega
      have e1 := Int.mul_ediv_add_emod (st - 1) r
      have e2 := Int.emod_nonneg (st - 1) h1
      have e3 := Int.emod_lt_of_pos (st - 1) hp
      have e4 : 0 ≤ (st - 1) / r := Int.ediv_nonneg (by omega) hr
      refine ⟨by omega, ?_, fun _ => ?_⟩
      · have : r * ((st - 1) / r + 1) = r * ((st - 1) / r) + r := by rw [Int.mul_add, Int.mul_one]
        omega
      · have : (st - 1) / r + 1 - 1 = (st - 1) / r := by omega
        rw [this]; omega
theorem hours_mono {st r s : Int} (hs : 0 ≤ st) (hr : 0 ≤ r) (h : r ≤ s) (hn : hoursP st r ≠ -1) : 0 ≤ hoursP st s ∧ hoursP st s ≤ hoursP st r := by
  rcases hours_facts hs hr with ⟨h1, _⟩ | ⟨h1, h2, h3⟩
  · exact absurd h1 hn
  · rcases hours_facts hs (show 0 ≤ s by omega) with ⟨g1, g2, g3⟩ | ⟨g1, g2, g3⟩
    · exfalso
      have : r = 0 := by omega
      rw [this] at h2
      simp at h2
      omega
    · refine ⟨g1, ?_⟩
      apply Int.not_lt.1
      intro hlt
      have g4 := g3 (by omega)
      have a1 : s * hoursP st r ≤ s * (hoursP st s - 1) := Int.mul_le_mul_of_nonneg_left (by omega) (by omega)
      have a2 : r * hoursP st r ≤ s * hoursP st r := Int.mul_le_mul_of_nonneg_right h h1
      omega

theorem lowR_high {al : List (List Int)} (h : al ≠ []) (i : Int) : lowR al i ≤ highR al i := by
  obtain ⟨x, hx, he⟩ := lowR_mem h i
  have := highR_le hx i
  omega
theorem lowR_nonneg {al : List (List Int)} (h : al ≠ []) (hR : ∀ x, x ∈ al → Rates x) (i : Int) : 0 ≤ lowR al i ∧ highR al i ≤ 1000 := by
  obtain ⟨x, hx, he⟩ := lowR_mem h i
  obtain ⟨y, hy, hf⟩ := highR_mem h i
  have := (hR x hx i).1
  have := (hR y hy i).2
  omega

/-- Behind the greatest life the stretch is reached, before the least one it is not. -/
theorem life_law {al : List (List Int)} (h : al ≠ []) (hR : ∀ x, x ∈ al → Rates x) {b st : Int} (hs : 0 ≤ st) :
    ((lifeL al b st).hi ≠ -1 → 0 ≤ (lifeL al b st).lo ∧ (lifeL al b st).lo ≤ (lifeL al b st).hi ∧ st ≤ (stretchL al [⟨b, ⟨(lifeL al b st).hi, (lifeL al b st).hi⟩⟩]).lo) ∧
    (0 ≤ (lifeL al b st).lo - 1 → (stretchL al [⟨b, ⟨(lifeL al b st).lo - 1, (lifeL al b st).lo - 1⟩⟩]).hi < st) := by
  have h1 := lowR_high h b
  have h2 := lowR_nonneg h hR b
  refine ⟨fun hn => ?_, fun hn => ?_⟩
  · simp only [lifeL] at hn ⊢
    have hm := hours_mono hs h2.1 h1 hn
    refine ⟨hm.1, hm.2, ?_⟩
    obtain ⟨x, hx, he⟩ := stretch_lo_mem h [⟨b, ⟨hoursP st (lowR al b), hoursP st (lowR al b)⟩⟩]
    rw [he]
    simp only [loS]
    rcases hours_facts hs h2.1 with ⟨g, _⟩ | ⟨g1, g2, _⟩
    · exact absurd g hn
    · have := Int.mul_le_mul_of_nonneg_right (lowR_le hx b) g1
      omega
  · simp only [lifeL] at hn ⊢
    obtain ⟨x, hx, he⟩ := stretch_hi_mem h [⟨b, ⟨hoursP st (highR al b) - 1, hoursP st (highR al b) - 1⟩⟩]
    rw [he]
    simp only [hiS]
    rcases hours_facts hs (show 0 ≤ highR al b by omega) with ⟨g, _⟩ | ⟨g1, g2, g3⟩
    · omega
    · have := Int.mul_le_mul_of_nonneg_right (highR_le hx b) hn
      have := g3 (by omega)
      omega

/-- A plan that does more for all rates has a greater stretch. -/
theorem stretch_le {al : List (List Int)} (h : al ≠ []) {p q : List Sg} (hl : ∀ x, x ∈ al → loS p x ≤ loS q x) (hh : ∀ x, x ∈ al → hiS p x ≤ hiS q x) :
    (stretchL al p).lo ≤ (stretchL al q).lo ∧ (stretchL al p).hi ≤ (stretchL al q).hi := by
  obtain ⟨x, hx, he⟩ := stretch_lo_mem h q
  obtain ⟨y, hy, hf⟩ := stretch_hi_mem h p
  have := stretch_lo_le (plan := p) hx
  have := stretch_hi_le (plan := q) hy
  have := hl x hx
  have := hh y hy
  omega
theorem set_lo (p : List Sg) (k : Nat) (s : Sg) (x : List Int) (hk : k < p.length) : loS (p.set k s) x = loS p x - rt x (p[k].b) * p[k].h.lo + rt x s.b * s.h.lo := by
  induction p generalizing k with
  | nil => simp at hk
  | cons a p ih =>
    cases k with
    | zero => simp [loS]; omega
    | succ k => simp only [List.set_cons_succ, loS, List.getElem_cons_succ]; rw [ih k (by simpa using hk)]; omega
theorem set_hi (p : List Sg) (k : Nat) (s : Sg) (x : List Int) (hk : k < p.length) : hiS (p.set k s) x = hiS p x - rt x (p[k].b) * p[k].h.hi + rt x s.b * s.h.hi := by
  induction p generalizing k with
  | nil => simp at hk
  | cons a p ih =>
    cases k with
    | zero => simp [hiS]; omega
    | succ k => simp only [List.set_cons_succ, hiS, List.getElem_cons_succ]; rw [ih k (by simpa using hk)]; omega
theorem longer_law {al : List (List Int)} (h : al ≠ []) (hR : ∀ x, x ∈ al → Rates x) {p : List Sg} {k : Nat} (hk : k < p.length) {lo hi : Int} (h1 : p[k].h.lo ≤ lo) (h2 : p[k].h.hi ≤ hi) :
    (stretchL al p).lo ≤ (stretchL al (p.set k ⟨p[k].b, ⟨lo, hi⟩⟩)).lo ∧ (stretchL al p).hi ≤ (stretchL al (p.set k ⟨p[k].b, ⟨lo, hi⟩⟩)).hi := by
  refine stretch_le h (fun x hx => ?_) (fun x hx => ?_)
  · rw [set_lo p k _ x hk]
    have := prod_le' (hR x hx p[k].b).1 h1
    simp only
    omega
  · rw [set_hi p k _ x hk]
    have := prod_le' (hR x hx p[k].b).1 h2
    simp only
    omega
theorem hotter_law {al : List (List Int)} (h : al ≠ []) {p : List Sg} {k : Nat} (hk : k < p.length) {b : Int} (hb : ∀ x, x ∈ al → rt x p[k].b ≤ rt x b) (h1 : 0 ≤ p[k].h.lo) (h2 : 0 ≤ p[k].h.hi) :
    (stretchL al p).lo ≤ (stretchL al (p.set k ⟨b, p[k].h⟩)).lo ∧ (stretchL al p).hi ≤ (stretchL al (p.set k ⟨b, p[k].h⟩)).hi := by
  refine stretch_le h (fun x hx => ?_) (fun x hx => ?_)
  · rw [set_lo p k _ x hk]
    have := Int.mul_le_mul_of_nonneg_right (hb x hx) h1
    simp only
    omega
  · rw [set_hi p k _ x hk]
    have := Int.mul_le_mul_of_nonneg_right (hb x hx) h2
    simp only
    omega
/-- Rates do not fall. -/
theorem IsRt.rise : ∀ {ms : List Rg} {l : Int} {x : List Int}, IsRt ms l x → ∀ n : Nat, n + 1 < x.length → (x[n]?).getD 0 ≤ (x[n + 1]?).getD 0
  | [], _, [], _, n, hn => by simp at hn
  | [_], _, [_], _, n, hn => by simp at hn
  | _ :: r :: rs, _, a :: b :: x, h, n, hn => by
    cases n with
    | zero => simpa using h.2.2.2.1
    | succ n => simpa using IsRt.rise (ms := r :: rs) (x := b :: x) h.2.2.2 n (by simpa using hn)
  | [], _, _ :: _, h, _, _ => h.elim
  | _ :: _, _, [], h, _, _ => h.elim
  | [_], _, _ :: _ :: _, h, _, _ => h.2.2.2.elim
  | _ :: _ :: _, _, [_], h, _, _ => h.2.2.2.elim
theorem rise_of {ms : List Rg} {x : List Int} (h : x ∈ allL ms) {b : Int} (h0 : 0 ≤ b) (hb : b < ms.length) : rt x b ≤ rt x (min ((ms.length : Int) - 1) (b + 1)) := by
  by_cases he : b + 1 < (ms.length : Int)
  · have : min ((ms.length : Int) - 1) (b + 1) = b + 1 := by omega
    rw [this]
    have h2 := ((mem_listsL ms 0 x).1 h).rise b.toNat (by rw [len_of h]; omega)
    unfold rt
    have : (b + 1).toNat = b.toNat + 1 := by omega
    rw [this]; exact h2
  · have : min ((ms.length : Int) - 1) (b + 1) = b := by omega
    rw [this]; omega

/-- The sum of the stretches of the segments. -/
def sumLo (al : List (List Int)) : List Sg → Int
  | [] => 0
  | s :: p => (stretchL al [s]).lo + sumLo al p
def sumHi (al : List (List Int)) : List Sg → Int
  | [] => 0
  | s :: p => (stretchL al [s]).hi + sumHi al p
theorem sumLo_snoc (al : List (List Int)) (p : List Sg) (s : Sg) : sumLo al (p ++ [s]) = sumLo al p + (stretchL al [s]).lo := by
  induction p with
  | nil => simp [sumLo]
  | cons a p ih => simp only [List.cons_append, sumLo, ih]; omega
theorem sumHi_snoc (al : List (List Int)) (p : List Sg) (s : Sg) : sumHi al (p ++ [s]) = sumHi al p + (stretchL al [s]).hi := by
  induction p with
  | nil => simp [sumHi]
  | cons a p ih => simp only [List.cons_append, sumHi, ih]; omega
theorem sum_le {al : List (List Int)} {x : List Int} (hx : x ∈ al) : ∀ p, sumLo al p ≤ loS p x ∧ hiS p x ≤ sumHi al p
  | [] => by simp [sumLo, sumHi, loS, hiS]
  | s :: p => by
    have h1 := stretch_lo_le (plan := [s]) hx
    have h2 := stretch_hi_le (plan := [s]) hx
    have ih := sum_le hx p
    simp only [loS, hiS] at h1 h2
    simp only [sumLo, sumHi, loS, hiS]
    omega
theorem sum_law {al : List (List Int)} (h : al ≠ []) (p : List Sg) : sumLo al p ≤ (stretchL al p).lo ∧ (stretchL al p).hi ≤ sumHi al p := by
  obtain ⟨x, hx, he⟩ := stretch_lo_mem h p
  obtain ⟨y, hy, hf⟩ := stretch_hi_mem h p
  have := (sum_le hx p).1
  have := (sum_le hy p).2
  omega

/-- What is cut into two does the same. -/
theorem cut_lo (p q : List Sg) (b : Int) (h1 h2 h : Rg) (he : h1.lo + h2.lo = h.lo) (x : List Int) : loS (p ++ ⟨b, h1⟩ :: ⟨b, h2⟩ :: q) x = loS (p ++ ⟨b, h⟩ :: q) x := by
  simp only [loS_append, loS]
  have : rt x b * h1.lo + rt x b * h2.lo = rt x b * h.lo := by rw [← he, Int.mul_add]
  omega
theorem cut_hi (p q : List Sg) (b : Int) (h1 h2 h : Rg) (he : h1.hi + h2.hi = h.hi) (x : List Int) : hiS (p ++ ⟨b, h1⟩ :: ⟨b, h2⟩ :: q) x = hiS (p ++ ⟨b, h⟩ :: q) x := by
  simp only [hiS_append, hiS]
  have : rt x b * h1.hi + rt x b * h2.hi = rt x b * h.hi := by rw [← he, Int.mul_add]
  omega
theorem all_set (rs : List Rn) (k : Nat) (r : Rn) (x : List Int) (hk : k < rs.length) (h : fitsB r x = fitsB rs[k] x) : allB (rs.set k r) x = allB rs x := by
  induction rs generalizing k with
  | nil => simp at hk
  | cons a rs ih =>
    cases k with
    | zero => simp only [allB, List.set_cons_zero, List.all_cons]; simp only [List.getElem_cons_zero] at h; rw [h]
    | succ k =>
      have := ih k (by simpa using hk) (by simpa using h)
      simp only [allB] at this
      simp only [allB, List.set_cons_succ, List.all_cons, this]
theorem ok_set (ms : List Rg) (rs : List Rn) (k : Nat) (r : Rn) (hk : k < rs.length) (h : ∀ x, fitsB r x = fitsB rs[k] x) : okL ms (rs.set k r) = okL ms rs := by
  unfold okL
  congr 1
  funext x
  exact all_set rs k r x hk (h x)

/-- One run more. -/
theorem okL_snoc (ms : List Rg) (rs : List Rn) (r : Rn) : okL ms (rs ++ [r]) = (okL ms rs).filter (fitsB r) := by
  unfold okL
  rw [List.filter_filter]
  congr 1
  funext x
  simp [allB, Bool.and_comm]
theorem ok_all {ms : List Rg} {rs : List Rn} {r : Rn} (hm : MatOk ms) (hr : PlanOk ms.length r.ss) : okL ms (rs ++ [⟨r.ss, ⟨0, 10000000000⟩⟩]) = okL ms rs := by
  rw [okL_snoc, List.filter_eq_self]
  intro x hx
  have h := sums (ok_rates hm hx) hr.sg
  have := hr.len
  simp only [fitsB, Bool.and_eq_true, decide_eq_true_eq]
  omega
theorem sub_stretch {al bl : List (List Int)} (h : bl ≠ []) (hs : ∀ x, x ∈ bl → x ∈ al) (p : List Sg) : (stretchL al p).lo ≤ (stretchL bl p).lo ∧ (stretchL bl p).hi ≤ (stretchL al p).hi := by
  obtain ⟨x, hx, he⟩ := stretch_lo_mem h p
  obtain ⟨y, hy, hf⟩ := stretch_hi_mem h p
  have := stretch_lo_le (plan := p) (hs x hx)
  have := stretch_hi_le (plan := p) (hs y hy)
  omega
theorem sub_ranges {al bl : List (List Int)} (h : bl ≠ []) (hs : ∀ x, x ∈ bl → x ∈ al) (i : Int) : lowR al i ≤ lowR bl i ∧ highR bl i ≤ highR al i := by
  obtain ⟨x, hx, he⟩ := lowR_mem h i
  obtain ⟨y, hy, hf⟩ := highR_mem h i
  have := lowR_le (hs x hx) i
  have := highR_le (hs y hy) i
  omega
theorem sub_life {al bl : List (List Int)} (h : bl ≠ []) (hs : ∀ x, x ∈ bl → x ∈ al) (hR : ∀ x, x ∈ al → Rates x) {i st : Int} (hst : 0 ≤ st) :
    ((lifeL al i st).hi ≠ -1 → (lifeL bl i st).hi ≠ -1 ∧ (lifeL bl i st).hi ≤ (lifeL al i st).hi) ∧ ((lifeL bl i st).lo ≠ -1 → (lifeL al i st).lo ≠ -1 ∧ (lifeL al i st).lo ≤ (lifeL bl i st).lo) := by
  have ha : al ≠ [] := by
    obtain ⟨x, hx⟩ := List.exists_mem_of_ne_nil _ h
    exact List.ne_nil_of_mem (hs x hx)
  have h1 := sub_ranges h hs i
  have h2 := lowR_nonneg ha hR i
  have h3 := lowR_high h i
  refine ⟨fun hn => ?_, fun hn => ?_⟩
  · have := hours_mono hst h2.1 h1.1 hn
    simp only [lifeL]
    omega
  · have := hours_mono hst (show 0 ≤ highR bl i by omega) h1.2 hn
    simp only [lifeL]
    omega
end Go.Proofs.Ytfijaafkagcmmaa
