/- Rates of creep as plain lists: what segments do, which rates runs allow, the ends of what is told. No condition. What the laws of creep say of plain lists: lives, longer and hotter plans, segments that are cut, one more run. No condition. -/
import Derived.IntWalk
namespace Go.Proofs.Ytfijaafkagcmmaa

structure Rg where
  lo : Int
  hi : Int
deriving DecidableEq
structure Sg where
  b : Int
  h : Rg
deriving DecidableEq
structure Rn where
  ss : List Sg
  seen : Rg
deriving DecidableEq

def rt (x : List Int) (i : Int) : Int := (x[i.toNat]?).getD 0
def loS : List Sg → List Int → Int
  | [], _ => 0
  | s :: ss, x => rt x s.b * s.h.lo + loS ss x
def hiS : List Sg → List Int → Int
  | [], _ => 0
  | s :: ss, x => rt x s.b * s.h.hi + hiS ss x

theorem loS_snoc (ss : List Sg) (s : Sg) (x : List Int) : loS (ss ++ [s]) x = loS ss x + rt x s.b * s.h.lo := by
  induction ss with
  | nil => simp [loS]
  | cons a ss ih => simp only [List.cons_append, loS, ih]; omega
theorem hiS_snoc (ss : List Sg) (s : Sg) (x : List Int) : hiS (ss ++ [s]) x = hiS ss x + rt x s.b * s.h.hi := by
  induction ss with
  | nil => simp [hiS]
  | cons a ss ih => simp only [List.cons_append, hiS, ih]; omega
theorem loS_append (ss ts : List Sg) (x : List Int) : loS (ss ++ ts) x = loS ss x + loS ts x := by
  induction ss with
  | nil => simp [loS]
  | cons a ss ih => simp only [List.cons_append, loS, ih]; omega
theorem hiS_append (ss ts : List Sg) (x : List Int) : hiS (ss ++ ts) x = hiS ss x + hiS ts x := by
  induction ss with
  | nil => simp [hiS]
  | cons a ss ih => simp only [List.cons_append, hiS, ih]; omega

/-- Does the run allow the rates? -/
def fitsB (r : Rn) (x : List Int) : Bool := decide (loS r.ss x ≤ r.seen.hi) && decide (r.seen.lo ≤ hiS r.ss x)
def allB (rs : List Rn) (x : List Int) : Bool := rs.all fun r => fitsB r x

def upFrom (lo hi : Int) : List Int := (List.range (hi + 1 - lo).toNat).map fun k : Nat => lo + (k : Int)
theorem mem_upFrom {lo hi n : Int} : n ∈ upFrom lo hi ↔ lo ≤ n ∧ n ≤ hi := by
  simp only [upFrom, List.mem_map, List.mem_range]
  constructor
  · rintro ⟨k, hk, rfl⟩; omega
  · rintro ⟨h1, h2⟩; exact ⟨(n - lo).toNat, by omega, by omega⟩

/-- All rates of a material, of which the first is not below a number. -/
def listsL : List Rg → Int → List (List Int)
  | [], _ => [[]]
  | r :: rs, least => (upFrom (max least r.lo) r.hi).flatMap fun n => (listsL rs n).map (n :: ·)
def allL (ms : List Rg) : List (List Int) := listsL ms 0
def okL (ms : List Rg) (rs : List Rn) : List (List Int) := (allL ms).filter (allB rs)

def IsRt : List Rg → Int → List Int → Prop
  | [], _, [] => True
  | r :: rs, least, n :: x => least ≤ n ∧ r.lo ≤ n ∧ n ≤ r.hi ∧ IsRt rs n x
  | _, _, _ => False
theorem mem_listsL : ∀ (ms : List Rg) (l : Int) (x : List Int), x ∈ listsL ms l ↔ IsRt ms l x
  | [], l, x => by
    cases x <;> simp [listsL, IsRt]
  | r :: rs, l, [] => by simp [listsL, IsRt]
  | r :: rs, l, n :: x => by
    simp only [listsL, List.mem_flatMap, List.mem_map, mem_upFrom, IsRt]
    constructor
    · rintro ⟨m, ⟨h1, h2⟩, y, hy, h3⟩
      simp only [List.cons.injEq] at h3
      obtain ⟨rfl, rfl⟩ := h3
      exact ⟨by omega, by omega, h2, (mem_listsL rs _ _).1 hy⟩
    · rintro ⟨h1, h2, h3, h4⟩
      exact ⟨n, ⟨by omega, h3⟩, x, (mem_listsL rs _ _).2 h4, rfl⟩
theorem IsRt.len : ∀ {ms : List Rg} {l : Int} {x : List Int}, IsRt ms l x → x.length = ms.length
  | [], _, [], _ => rfl
  | _ :: _, _, _ :: _, h => by simp [IsRt.len h.2.2.2]
  | [], _, _ :: _, h => h.elim
  | _ :: _, _, [], h => h.elim

/-- The ranges of a material. -/
structure RgsOk (ms : List Rg) : Prop where
  one : 1 ≤ ms.length
  len : ms.length ≤ 3
  rg : ∀ r, r ∈ ms → 0 ≤ r.lo ∧ r.lo ≤ r.hi ∧ r.hi ≤ 1000 ∧ r.hi - r.lo ≤ 20
structure MatOk (ms : List Rg) : Prop extends RgsOk ms where
  some : allL ms ≠ []
structure SgOk (n : Nat) (s : Sg) : Prop where
  b0 : 0 ≤ s.b
  bn : s.b < n
  lo : 0 ≤ s.h.lo
  le : s.h.lo ≤ s.h.hi
  hi : s.h.hi ≤ 1000000
structure PlanOk (n : Nat) (ss : List Sg) : Prop where
  len : ss.length ≤ 8
  sg : ∀ s, s ∈ ss → SgOk n s
structure RnOk (n : Nat) (r : Rn) : Prop extends PlanOk n r.ss where
  lo : 0 ≤ r.seen.lo
  le : r.seen.lo ≤ r.seen.hi
  hi : r.seen.hi ≤ 10000000000
structure RoomOk (ms : List Rg) (rs : List Rn) : Prop where
  mat : MatOk ms
  len : rs.length ≤ 6
  rn : ∀ r, r ∈ rs → RnOk ms.length r

/-- Rates that nothing overflows with. -/
def Rates (x : List Int) : Prop := ∀ i, 0 ≤ rt x i ∧ rt x i ≤ 1000
theorem IsRt.rates' : ∀ {ms : List Rg} {l : Int} {x : List Int}, IsRt ms l x → (∀ r, r ∈ ms → 0 ≤ r.lo ∧ r.hi ≤ 1000) → ∀ n : Nat, 0 ≤ (x[n]?).getD 0 ∧ (x[n]?).getD 0 ≤ 1000
  | [], _, [], _, _, n => by simp
  | r :: rs, _, a :: x, h, hr, n => by
    cases n with
    | zero => have := hr r (by simp); have h1 := h.2.1; have h2 := h.2.2.1; simp; omega
    | succ n => simpa using IsRt.rates' h.2.2.2 (fun q hq => hr q (by simp [hq])) n
  | [], _, _ :: _, h, _, _ => h.elim
  | _ :: _, _, [], h, _, _ => h.elim
theorem IsRt.rates {ms : List Rg} {l : Int} {x : List Int} (h : IsRt ms l x) (hm : RgsOk ms) : Rates x :=
  fun i => h.rates' (fun r hr => ⟨(hm.rg r hr).1, (hm.rg r hr).2.2.1⟩) i.toNat
theorem rates_of {ms : List Rg} {x : List Int} (h : x ∈ allL ms) (hm : RgsOk ms) : Rates x := ((mem_listsL ms 0 x).1 h).rates hm
theorem len_of {ms : List Rg} {x : List Int} (h : x ∈ allL ms) : x.length = ms.length := ((mem_listsL ms 0 x).1 h).len
theorem mem_okL {ms : List Rg} {rs : List Rn} {x : List Int} : x ∈ okL ms rs ↔ x ∈ allL ms ∧ allB rs x = true := by simp [okL, List.mem_filter]

/-- One product, and the sums, are small. -/
theorem prod_le {a b : Int} (ha : 0 ≤ a) (ha' : a ≤ 1000) (hb : 0 ≤ b) (hb' : b ≤ 1000000) : 0 ≤ a * b ∧ a * b ≤ 1000000000 := by
  refine ⟨Int.mul_nonneg ha hb, ?_⟩
  have h1 : a * b ≤ 1000 * b := Int.mul_le_mul_of_nonneg_right ha' hb
  omega
theorem prod_le' {a b c : Int} (ha : 0 ≤ a) (h : b ≤ c) : a * b ≤ a * c := Int.mul_le_mul_of_nonneg_left h ha
theorem sums : ∀ {ss : List Sg} {x : List Int} {n : Nat}, Rates x → (∀ s, s ∈ ss → SgOk n s) → 0 ≤ loS ss x ∧ loS ss x ≤ hiS ss x ∧ hiS ss x ≤ 1000000000 * (ss.length : Int)
  | [], _, _, _, _ => by simp [loS, hiS]
  | s :: ss, x, n, hx, hs => by
    have ih := sums (ss := ss) hx fun q hq => hs q (by simp [hq])
    have hk := hs s (by simp)
    have hr := hx s.b
    have h1 := prod_le hr.1 hr.2 hk.lo (by have := hk.le; have := hk.hi; omega)
    have h2 := prod_le hr.1 hr.2 (b := s.h.hi) (by have := hk.le; have := hk.lo; omega) hk.hi
    have h3 := prod_le' hr.1 hk.le
    simp only [loS, hiS, List.length_cons]
    omega
theorem fits_meets {r : Rn} {x : List Int} {n : Nat} (hr : RnOk n r) (hx : Rates x) :
    (!decide (max (loS r.ss x) r.seen.lo > min (hiS r.ss x) r.seen.hi)) = fitsB r x := by
  have h := sums hx hr.sg
  have h2 := hr.le
  unfold fitsB
  rw [Bool.eq_iff_iff]
  simp only [Bool.not_eq_true', decide_eq_false_iff_not, Bool.and_eq_true, decide_eq_true_eq, gt_iff_lt]
  omega

def leastL : List Int → Int
  | [] => 0
  | a :: l => l.foldl min a
def greatL : List Int → Int
  | [] => 0
  | a :: l => l.foldl max a
theorem foldl_min (l : List Int) : ∀ a, l.foldl min a ≤ a ∧ (∀ b, b ∈ l → l.foldl min a ≤ b) ∧ (l.foldl min a = a ∨ l.foldl min a ∈ l) := by
  induction l with
  | nil => intro a; simp
  | cons c l ih =>
    intro a
    obtain ⟨h1, h2, h3⟩ := ih (min a c)
    refine ⟨by simp only [List.foldl_cons]; omega, fun b hb => ?_, ?_⟩
    · simp only [List.foldl_cons]
      rcases List.mem_cons.1 hb with rfl | hb
      · omega
      · exact h2 b hb
    · simp only [List.foldl_cons, List.mem_cons]
      rcases h3 with h3 | h3
      · rw [h3]; omega
      · exact .inr (.inr h3)
theorem foldl_max (l : List Int) : ∀ a, a ≤ l.foldl max a ∧ (∀ b, b ∈ l → b ≤ l.foldl max a) ∧ (l.foldl max a = a ∨ l.foldl max a ∈ l) := by
  induction l with
  | nil => intro a; simp
  | cons c l ih =>
    intro a
    obtain ⟨h1, h2, h3⟩ := ih (max a c)
    refine ⟨by simp only [List.foldl_cons]; omega, fun b hb => ?_, ?_⟩
    · simp only [List.foldl_cons]
      rcases List.mem_cons.1 hb with rfl | hb
      · omega
      · exact h2 b hb
    · simp only [List.foldl_cons, List.mem_cons]
      rcases h3 with h3 | h3
      · rw [h3]; omega
      · exact .inr (.inr h3)
theorem leastL_le {l : List Int} {a : Int} (h : a ∈ l) : leastL l ≤ a := by
  cases l with
  | nil => simp at h
  | cons c l =>
    rcases List.mem_cons.1 h with rfl | h
    · exact (foldl_min l _).1
    · exact (foldl_min l c).2.1 a h
theorem leastL_mem {l : List Int} (h : l ≠ []) : leastL l ∈ l := by
  cases l with
  | nil => exact absurd rfl h
  | cons c l =>
    rcases (foldl_min l c).2.2 with h | h
    · simp [leastL, h]
    · exact List.mem_cons_of_mem _ h
theorem greatL_le {l : List Int} {a : Int} (h : a ∈ l) : a ≤ greatL l := by
  cases l with
  | nil => simp at h
  | cons c l =>
    rcases List.mem_cons.1 h with rfl | h
    · exact (foldl_max l _).1
    · exact (foldl_max l c).2.1 a h
theorem greatL_mem {l : List Int} (h : l ≠ []) : greatL l ∈ l := by
  cases l with
  | nil => exact absurd rfl h
  | cons c l =>
    rcases (foldl_max l c).2.2 with h | h
    · simp [greatL, h]
    · exact List.mem_cons_of_mem _ h
theorem leastL_snoc (l : List Int) (h : l ≠ []) (a : Int) : leastL (l ++ [a]) = min (leastL l) a := by
  cases l with
  | nil => exact absurd rfl h
  | cons c l => simp [leastL]
theorem greatL_snoc (l : List Int) (h : l ≠ []) (a : Int) : greatL (l ++ [a]) = max (greatL l) a := by
  cases l with
  | nil => exact absurd rfl h
  | cons c l => simp [greatL]
theorem leastL_eq {l : List Int} {a : Int} (h : a ∈ l) (hl : ∀ b, b ∈ l → a ≤ b) : leastL l = a := by
  have h1 := leastL_le h
  have h2 := hl _ (leastL_mem (List.ne_nil_of_mem h))
  omega
theorem greatL_eq {l : List Int} {a : Int} (h : a ∈ l) (hl : ∀ b, b ∈ l → b ≤ a) : greatL l = a := by
  have h1 := greatL_le h
  have h2 := hl _ (greatL_mem (List.ne_nil_of_mem h))
  omega

/-- The ranges of rates, the stretch of a plan, the life. -/
def lowR (al : List (List Int)) (i : Int) : Int := leastL (al.map (rt · i))
def highR (al : List (List Int)) (i : Int) : Int := greatL (al.map (rt · i))
def rangesL (al : List (List Int)) (n : Nat) : List Rg := (List.range n).map fun i : Nat => ⟨lowR al i, highR al i⟩
def stretchL (al : List (List Int)) (plan : List Sg) : Rg := ⟨leastL (al.map (loS plan)), greatL (al.map (hiS plan))⟩
def hoursP (st rate : Int) : Int := if st = 0 then 0 else if rate = 0 then -1 else (st - 1) / rate + 1
def lifeL (al : List (List Int)) (b st : Int) : Rg := ⟨hoursP st (highR al b), hoursP st (lowR al b)⟩

theorem stretch_lo_le {al : List (List Int)} {plan : List Sg} {x : List Int} (h : x ∈ al) : (stretchL al plan).lo ≤ loS plan x := leastL_le (List.mem_map_of_mem h)
theorem stretch_hi_le {al : List (List Int)} {plan : List Sg} {x : List Int} (h : x ∈ al) : hiS plan x ≤ (stretchL al plan).hi := greatL_le (List.mem_map_of_mem h)
theorem stretch_lo_mem {al : List (List Int)} (h : al ≠ []) (plan : List Sg) : ∃ x, x ∈ al ∧ (stretchL al plan).lo = loS plan x := by
  obtain ⟨x, hx, he⟩ := List.mem_map.1 (leastL_mem (l := al.map (loS plan)) (by simpa using h))
  exact ⟨x, hx, he.symm⟩
theorem stretch_hi_mem {al : List (List Int)} (h : al ≠ []) (plan : List Sg) : ∃ x, x ∈ al ∧ (stretchL al plan).hi = hiS plan x := by
  obtain ⟨x, hx, he⟩ := List.mem_map.1 (greatL_mem (l := al.map (hiS plan)) (by simpa using h))
  exact ⟨x, hx, he.symm⟩
theorem lowR_mem {al : List (List Int)} (h : al ≠ []) (i : Int) : ∃ x, x ∈ al ∧ lowR al i = rt x i := by
  obtain ⟨x, hx, he⟩ := List.mem_map.1 (leastL_mem (l := al.map (rt · i)) (by simpa using h))
  exact ⟨x, hx, he.symm⟩
theorem highR_mem {al : List (List Int)} (h : al ≠ []) (i : Int) : ∃ x, x ∈ al ∧ highR al i = rt x i := by
  obtain ⟨x, hx, he⟩ := List.mem_map.1 (greatL_mem (l := al.map (rt · i)) (by simpa using h))
  exact ⟨x, hx, he.symm⟩
theorem lowR_le {al : List (List Int)} {x : List Int} (h : x ∈ al) (i : Int) : lowR al i ≤ rt x i := leastL_le (List.mem_map_of_mem (f := (rt · i)) h)
theorem highR_le {al : List (List Int)} {x : List Int} (h : x ∈ al) (i : Int) : rt x i ≤ highR al i := greatL_le (List.mem_map_of_mem (f := (rt · i)) h)
theorem ok_rates {ms : List Rg} {rs : List Rn} (h : MatOk ms) {x : List Int} (hx : x ∈ okL ms rs) : Rates x := rates_of (mem_okL.1 hx).1 h.toRgsOk
end Go.Proofs.Ytfijaafkagcmmaa
namespace Go.Proofs.Ytfijaafkagcmmaa

theorem hours_facts {st r : Int} (hs : 0 ≤ st) (hr : 0 ≤ r) : (hoursP st r = -1 ∧ st ≠ 0 ∧ r = 0) ∨ (0 ≤ hoursP st r ∧ st ≤ r * hoursP st r ∧ (0 < hoursP st r → r * (hoursP st r - 1) < st)) := by
  unfold hoursP
  by_cases h0 : st = 0
  · right; simp [h0]
  · rw [if_neg h0]
    by_cases h1 : r = 0
    · left; rw [if_pos h1]; exact ⟨rfl, h0, h1⟩
    · rw [if_neg h1]
      right
      have hp : 0 < r := by omega
      have e1 := Int.mul_ediv_add_emod (st - 1) r
      have e2 := Int.emod_nonneg (st - 1) h1
      have e3 := Int.emod_lt_of_pos (st - 1) hp
      have e4 : 0 ≤ (st - 1) / r := Int.ediv_nonneg (by omega) hr
      refine ⟨by omega, ?_, fun _ => ?_⟩
      · have : r * ((st - 1) / r + 1) = r * ((st - 1) / r) + r := by rw [Int.mul_add, Int.mul_one]
        omega
      · have : (st - 1) / r + 1 - 1 = (st - 1) / r := by omega
        rw [this]; omega
theorem hours_mono {st r s : Int} (hs : 0 ≤ st) (hr : 0 ≤ r) (h : r ≤ s) (hn : hoursP st r ≠ -1) : 0 ≤ hoursP st s ∧ hoursP st s ≤ hoursP st r := by
  rcases hours_facts hs hr with ⟨h1, _⟩ | ⟨h1, h2, h3⟩
  · exact absurd h1 hn
  · rcases hours_facts hs (show 0 ≤ s by omega) with ⟨g1, g2, g3⟩ | ⟨g1, g2, g3⟩
    · exfalso
      have : r = 0 := by omega
      rw [this] at h2
      simp at h2
      omega
    · refine ⟨g1, ?_⟩
      apply Int.not_lt.1
      intro hlt
      have g4 := g3 (by omega)
      have a1 : s * hoursP st r ≤ s * (hoursP st s - 1) := Int.mul_le_mul_of_nonneg_left (by omega) (by omega)
      have a2 : r * hoursP st r ≤ s * hoursP st r := Int.mul_le_mul_of_nonneg_right h h1
      omega

theorem lowR_high {al : List (List Int)} (h : al ≠ []) (i : Int) : lowR al i ≤ highR al i := by
  obtain ⟨x, hx, he⟩ := lowR_mem h i
  have := highR_le hx i
  omega
theorem lowR_nonneg {al : List (List Int)} (h : al ≠ []) (hR : ∀ x, x ∈ al → Rates x) (i : Int) : 0 ≤ lowR al i ∧ highR al i ≤ 1000 := by
  obtain ⟨x, hx, he⟩ := lowR_mem h i
  obtain ⟨y, hy, hf⟩ := highR_mem h i
  have := (hR x hx i).1
  have := (hR y hy i).2
  omega

/-- Behind the greatest life the stretch is reached, before the least one it is not. -/
theorem life_law {al : List (List Int)} (h : al ≠ []) (hR : ∀ x, x ∈ al → Rates x) {b st : Int} (hs : 0 ≤ st) :
    ((lifeL al b st).hi ≠ -1 → 0 ≤ (lifeL al b st).lo ∧ (lifeL al b st).lo ≤ (lifeL al b st).hi ∧ st ≤ (stretchL al [⟨b, ⟨(lifeL al b st).hi, (lifeL al b st).hi⟩⟩]).lo) ∧
    (0 ≤ (lifeL al b st).lo - 1 → (stretchL al [⟨b, ⟨(lifeL al b st).lo - 1, (lifeL al b st).lo - 1⟩⟩]).hi < st) := by
  have h1 := lowR_high h b
  have h2 := lowR_nonneg h hR b
  refine ⟨fun hn => ?_, fun hn => ?_⟩
  · simp only [lifeL] at hn ⊢
    have hm := hours_mono hs h2.1 h1 hn
    refine ⟨hm.1, hm.2, ?_⟩
    obtain ⟨x, hx, he⟩ := stretch_lo_mem h [⟨b, ⟨hoursP st (lowR al b), hoursP st (lowR al b)⟩⟩]
    rw [he]
    simp only [loS]
    rcases hours_facts hs h2.1 with ⟨g, _⟩ | ⟨g1, g2, _⟩
    · exact absurd g hn
    · have := Int.mul_le_mul_of_nonneg_right (lowR_le hx b) g1
      omega
  · simp only [lifeL] at hn ⊢
    obtain ⟨x, hx, he⟩ := stretch_hi_mem h [⟨b, ⟨hoursP st (highR al b) - 1, hoursP st (highR al b) - 1⟩⟩]
    rw [he]
    simp only [hiS]
    rcases hours_facts hs (show 0 ≤ highR al b by omega) with ⟨g, _⟩ | ⟨g1, g2, g3⟩
    · omega
    · have := Int.mul_le_mul_of_nonneg_right (highR_le hx b) hn
      have := g3 (by omega)
      omega

/-- A plan that does more for all rates has a greater stretch. -/
theorem stretch_le {al : List (List Int)} (h : al ≠ []) {p q : List Sg} (hl : ∀ x, x ∈ al → loS p x ≤ loS q x) (hh : ∀ x, x ∈ al → hiS p x ≤ hiS q x) :
    (stretchL al p).lo ≤ (stretchL al q).lo ∧ (stretchL al p).hi ≤ (stretchL al q).hi := by
  obtain ⟨x, hx, he⟩ := stretch_lo_mem h q
  obtain ⟨y, hy, hf⟩ := stretch_hi_mem h p
  have := stretch_lo_le (plan := p) hx
  have := stretch_hi_le (plan := q) hy
  have := hl x hx
  have := hh y hy
  omega
theorem set_lo (p : List Sg) (k : Nat) (s : Sg) (x : List Int) (hk : k < p.length) : loS (p.set k s) x = loS p x - rt x (p[k].b) * p[k].h.lo + rt x s.b * s.h.lo := by
  induction p generalizing k with
  | nil => simp at hk
  | cons a p ih =>
    cases k with
    | zero => simp [loS]; omega
    | succ k => simp only [List.set_cons_succ, loS, List.getElem_cons_succ]; rw [ih k (by simpa using hk)]; omega
theorem set_hi (p : List Sg) (k : Nat) (s : Sg) (x : List Int) (hk : k < p.length) : hiS (p.set k s) x = hiS p x - rt x (p[k].b) * p[k].h.hi + rt x s.b * s.h.hi := by
  induction p generalizing k with
  | nil => simp at hk
  | cons a p ih =>
    cases k with
    | zero => simp [hiS]; omega
    | succ k => simp only [List.set_cons_succ, hiS, List.getElem_cons_succ]; rw [ih k (by simpa using hk)]; omega
theorem longer_law {al : List (List Int)} (h : al ≠ []) (hR : ∀ x, x ∈ al → Rates x) {p : List Sg} {k : Nat} (hk : k < p.length) {lo hi : Int} (h1 : p[k].h.lo ≤ lo) (h2 : p[k].h.hi ≤ hi) :
    (stretchL al p).lo ≤ (stretchL al (p.set k ⟨p[k].b, ⟨lo, hi⟩⟩)).lo ∧ (stretchL al p).hi ≤ (stretchL al (p.set k ⟨p[k].b, ⟨lo, hi⟩⟩)).hi := by
  refine stretch_le h (fun x hx => ?_) (fun x hx => ?_)
  · rw [set_lo p k _ x hk]
    have := prod_le' (hR x hx p[k].b).1 h1
    simp only
    omega
  · rw [set_hi p k _ x hk]
    have := prod_le' (hR x hx p[k].b).1 h2
    simp only
    omega
theorem hotter_law {al : List (List Int)} (h : al ≠ []) {p : List Sg} {k : Nat} (hk : k < p.length) {b : Int} (hb : ∀ x, x ∈ al → rt x p[k].b ≤ rt x b) (h1 : 0 ≤ p[k].h.lo) (h2 : 0 ≤ p[k].h.hi) :
    (stretchL al p).lo ≤ (stretchL al (p.set k ⟨b, p[k].h⟩)).lo ∧ (stretchL al p).hi ≤ (stretchL al (p.set k ⟨b, p[k].h⟩)).hi := by
  refine stretch_le h (fun x hx => ?_) (fun x hx => ?_)
  · rw [set_lo p k _ x hk]
    have := Int.mul_le_mul_of_nonneg_right (hb x hx) h1
    simp only
    omega
  · rw [set_hi p k _ x hk]
    have := Int.mul_le_mul_of_nonneg_right (hb x hx) h2
    simp only
    omega
/-- Rates do not fall. -/
theorem IsRt.rise : ∀ {ms : List Rg} {l : Int} {x : List Int}, IsRt ms l x → ∀ n : Nat, n + 1 < x.length → (x[n]?).getD 0 ≤ (x[n + 1]?).getD 0
  | [], _, [], _, n, hn => by simp at hn
  | [_], _, [_], _, n, hn => by simp at hn
  | _ :: r :: rs, _, a :: b :: x, h, n, hn => by
    cases n with
    | zero => simpa using h.2.2.2.1
    | succ n => simpa using IsRt.rise (ms := r :: rs) (x := b :: x) h.2.2.2 n (by simpa using hn)
  | [], _, _ :: _, h, _, _ => h.elim
  | _ :: _, _, [], h, _, _ => h.elim
  | [_], _, _ :: _ :: _, h, _, _ => h.2.2.2.elim
  | _ :: _ :: _, _, [_], h, _, _ => h.2.2.2.elim
theorem rise_of {ms : List Rg} {x : List Int} (h : x ∈ allL ms) {b : Int} (h0 : 0 ≤ b) (hb : b < ms.length) : rt x b ≤ rt x (min ((ms.length : Int) - 1) (b + 1)) := by
  by_cases he : b + 1 < (ms.length : Int)
  · have : min ((ms.length : Int) - 1) (b + 1) = b + 1 := by omega
    rw [this]
    have h2 := ((mem_listsL ms 0 x).1 h).rise b.toNat (by rw [len_of h]; omega)
    unfold rt
    have : (b + 1).toNat = b.toNat + 1 := by omega
    rw [this]; exact h2
  · have : min ((ms.length : Int) - 1) (b + 1) = b := by omega
    rw [this]; omega

/-- The sum of the stretches of the segments. -/
def sumLo (al : List (List Int)) : List Sg → Int
  | [] => 0
  | s :: p => (stretchL al [s]).lo + sumLo al p
def sumHi (al : List (List Int)) : List Sg → Int
  | [] => 0
  | s :: p => (stretchL al [s]).hi + sumHi al p
theorem sumLo_snoc (al : List (List Int)) (p : List Sg) (s : Sg) : sumLo al (p ++ [s]) = sumLo al p + (stretchL al [s]).lo := by
  induction p with
  | nil => simp [sumLo]
  | cons a p ih => simp only [List.cons_append, sumLo, ih]; omega
theorem sumHi_snoc (al : List (List Int)) (p : List Sg) (s : Sg) : sumHi al (p ++ [s]) = sumHi al p + (stretchL al [s]).hi := by
  induction p with
  | nil => simp [sumHi]
  | cons a p ih => simp only [List.cons_append, sumHi, ih]; omega
theorem sum_le {al : List (List Int)} {x : List Int} (hx : x ∈ al) : ∀ p, sumLo al p ≤ loS p x ∧ hiS p x ≤ sumHi al p
  | [] => by simp [sumLo, sumHi, loS, hiS]
  | s :: p => by
    have h1 := stretch_lo_le (plan := [s]) hx
    have h2 := stretch_hi_le (plan := [s]) hx
    have ih := sum_le hx p
    simp only [loS, hiS] at h1 h2
    simp only [sumLo, sumHi, loS, hiS]
    omega
theorem sum_law {al : List (List Int)} (h : al ≠ []) (p : List Sg) : sumLo al p ≤ (stretchL al p).lo ∧ (stretchL al p).hi ≤ sumHi al p := by
  obtain ⟨x, hx, he⟩ := stretch_lo_mem h p
  obtain ⟨y, hy, hf⟩ := stretch_hi_mem h p
  have := (sum_le hx p).1
  have := (sum_le hy p).2
  omega

/-- What is cut into two does the same. -/
theorem cut_lo (p q : List Sg) (b : Int) (h1 h2 h : Rg) (he : h1.lo + h2.lo = h.lo) (x : List Int) : loS (p ++ ⟨b, h1⟩ :: ⟨b, h2⟩ :: q) x = loS (p ++ ⟨b, h⟩ :: q) x := by
  simp only [loS_append, loS]
  have : rt x b * h1.lo + rt x b * h2.lo = rt x b * h.lo := by rw [← he, Int.mul_add]
  omega
theorem cut_hi (p q : List Sg) (b : Int) (h1 h2 h : Rg) (he : h1.hi + h2.hi = h.hi) (x : List Int) : hiS (p ++ ⟨b, h1⟩ :: ⟨b, h2⟩ :: q) x = hiS (p ++ ⟨b, h⟩ :: q) x := by
  simp only [hiS_append, hiS]
  have : rt x b * h1.hi + rt x b * h2.hi = rt x b * h.hi := by rw [← he, Int.mul_add]
  omega
theorem all_set (rs : List Rn) (k : Nat) (r : Rn) (x : List Int) (hk : k < rs.length) (h : fitsB r x = fitsB rs[k] x) : allB (rs.set k r) x = allB rs x := by
  induction rs generalizing k with
  | nil => simp at hk
  | cons a rs ih =>
    cases k with
    | zero => simp only [allB, List.set_cons_zero, List.all_cons]; simp only [List.getElem_cons_zero] at h; rw [h]
    | succ k =>
      have := ih k (by simpa using hk) (by simpa using h)
      simp only [allB] at this
      simp only [allB, List.set_cons_succ, List.all_cons, this]
theorem ok_set (ms : List Rg) (rs : List Rn) (k : Nat) (r : Rn) (hk : k < rs.length) (h : ∀ x, fitsB r x = fitsB rs[k] x) : okL ms (rs.set k r) = okL ms rs := by
  unfold okL
  congr 1
  funext x
  exact all_set rs k r x hk (h x)

/-- One run more. -/
theorem okL_snoc (ms : List Rg) (rs : List Rn) (r : Rn) : okL ms (rs ++ [r]) = (okL ms rs).filter (fitsB r) := by
  unfold okL
  rw [List.filter_filter]
  congr 1
  funext x
  simp [allB, Bool.and_comm]
theorem ok_all {ms : List Rg} {rs : List Rn} {r : Rn} (hm : MatOk ms) (hr : PlanOk ms.length r.ss) : okL ms (rs ++ [⟨r.ss, ⟨0, 10000000000⟩⟩]) = okL ms rs := by
  rw [okL_snoc, List.filter_eq_self]
  intro x hx
  have h := sums (ok_rates hm hx) hr.sg
  have := hr.len
  simp only [fitsB, Bool.and_eq_true, decide_eq_true_eq]
  omega
theorem sub_stretch {al bl : List (List Int)} (h : bl ≠ []) (hs : ∀ x, x ∈ bl → x ∈ al) (p : List Sg) : (stretchL al p).lo ≤ (stretchL bl p).lo ∧ (stretchL bl p).hi ≤ (stretchL al p).hi := by
  obtain ⟨x, hx, he⟩ := stretch_lo_mem h p
  obtain ⟨y, hy, hf⟩ := stretch_hi_mem h p
  have := stretch_lo_le (plan := p) (hs x hx)
  have := stretch_hi_le (plan := p) (hs y hy)
  omega
theorem sub_ranges {al bl : List (List Int)} (h : bl ≠ []) (hs : ∀ x, x ∈ bl → x ∈ al) (i : Int) : lowR al i ≤ lowR bl i ∧ highR bl i ≤ highR al i := by
  obtain ⟨x, hx, he⟩ := lowR_mem h i
  obtain ⟨y, hy, hf⟩ := highR_mem h i
  have := lowR_le (hs x hx) i
  have := highR_le (hs y hy) i
  omega
theorem sub_life {al bl : List (List Int)} (h : bl ≠ []) (hs : ∀ x, x ∈ bl → x ∈ al) (hR : ∀ x, x ∈ al → Rates x) {i st : Int} (hst : 0 ≤ st) :
    ((lifeL al i st).hi ≠ -1 → (lifeL bl i st).hi ≠ -1 ∧ (lifeL bl i st).hi ≤ (lifeL al i st).hi) ∧ ((lifeL bl i st).lo ≠ -1 → (lifeL al i st).lo ≠ -1 ∧ (lifeL al i st).lo ≤ (lifeL bl i st).lo) := by
  have ha : al ≠ [] := by
    obtain ⟨x, hx⟩ := List.exists_mem_of_ne_nil _ h
    exact List.ne_nil_of_mem (hs x hx)
  have h1 := sub_ranges h hs i
  have h2 := lowR_nonneg ha hR i
  have h3 := lowR_high h i
  refine ⟨fun hn => ?_, fun hn => ?_⟩
  · have := hours_mono hst h2.1 h1.1 hn
    simp only [lifeL]
    omega
  · have := hours_mono hst (show 0 ≤ highR bl i by omega) h1.2 hn
    simp only [lifeL]
    omega
end Go.Proofs.Ytfijaafkagcmmaa
