/- Rates of creep as plain lists: what segments do, which rates runs allow, the ends of what is told. No condition. -/
import Derived.IntWalk
namespace Go.Proofs.Ytfijaafkagcmmaa

structure Rg where
  lo : Int
  hi : Int
deriving DecidableEq
structure Sg where
  b : Int
  h : Rg
deriving DecidableEq
structure Rn where
  ss : List Sg
  seen : Rg
deriving DecidableEq

def rt (x : List Int) (i : Int) : Int := (x[i.toNat]?).getD 0
def loS : List Sg → List Int → Int
  | [], _ => 0
  | s :: ss, x => rt x s.b * s.h.lo + loS ss x
def hiS : List Sg → List Int → Int
  | [], _ => 0
  | s :: ss, x => rt x s.b * s.h.hi + hiS ss x

theorem loS_snoc (ss : List Sg) (s : Sg) (x : List Int) : loS (ss ++ [s]) x = loS ss x + rt x s.b * s.h.lo := by
  induction ss with
  | nil => simp [loS]
  | cons a ss ih => simp only [List.cons_append, loS, ih]; omega
theorem hiS_snoc (ss : List Sg) (s : Sg) (x : List Int) : hiS (ss ++ [s]) x = hiS ss x + rt x s.b * s.h.hi := by
  induction ss with
  | nil => simp [hiS]
  | cons a ss ih => simp only [List.cons_append, hiS, ih]; omega
theorem loS_append (ss ts : List Sg) (x : List Int) : loS (ss ++ ts) x = loS ss x + loS ts x := by
  induction ss with
  | nil => simp [loS]
  | cons a ss ih => simp only [List.cons_append, loS, ih]; omega
theorem hiS_append (ss ts : List Sg) (x : List Int) : hiS (ss ++ ts) x = hiS ss x + hiS ts x := by
  induction ss with
  | nil => simp [hiS]
  | cons a ss ih => simp only [List.cons_append, hiS, ih]; omega

/-- Does the run allow the rates? -/
def fitsB (r : Rn) (x : List Int) : Bool := decide (loS r.ss x ≤ r.seen.hi) && decide (r.seen.lo ≤ hiS r.ss x)
def allB (rs : List Rn) (x : List Int) : Bool := rs.all fun r => fitsB r x

def upFrom (lo hi : Int) : List Int := (List.range (hi + 1 - lo).toNat).map fun k : Nat => lo + (k : Int)
theorem mem_upFrom {lo hi n : Int} : n ∈ upFrom lo hi ↔ lo ≤ n ∧ n ≤ hi := by
  simp only [upFrom, List.mem_map, List.mem_range]
  constructor
  · rintro ⟨k, hk, rfl⟩; omega
  · rintro ⟨h1, h2⟩; exact ⟨(n - lo).toNat, by omega, by omega⟩

/-- All rates of a material, of which the first is not below a number. -/
def listsL : List Rg → Int → List (List Int)
  | [], _ => [[]]
  | r :: rs, least => (upFrom (max least r.lo) r.hi).flatMap fun n => (listsL rs n).map (n :: ·)
def allL (ms : List Rg) : List (List Int) := listsL ms 0
def okL (ms : List Rg) (rs : List Rn) : List (List Int) := (allL ms).filter (allB rs)

def IsRt : List Rg → Int → List Int → Prop
  | [], _, [] => True
  | r :: rs, least, n :: x => least ≤ n ∧ r.lo ≤ n ∧ n ≤ r.hi ∧ IsRt rs n x
  | _, _, _ => False
theorem mem_listsL : ∀ (ms : List Rg) (l : Int) (x : List Int), x ∈ listsL ms l ↔ IsRt ms l x
  | [], l, x => by
    cases x <;> simp [listsL, IsRt]
  | r :: rs, l, [] => by simp [listsL, IsRt]
  | r :: rs, l, n :: x => by
    simp only [listsL, List.mem_flatMap, List.mem_map, mem_upFrom, IsRt]
    constructor
    · rintro ⟨m, ⟨h1, h2⟩, y, hy, h3⟩
      simp only [List.cons.injEq] at h3
      obtain ⟨rfl, rfl⟩ := h3
      exact ⟨by omega, by omega, h2, (mem_listsL rs _ _).1 hy⟩
    · rintro ⟨h1, h2, h3, h4⟩
      exact ⟨n, ⟨by omega, h3⟩, x, (mem_listsL rs _ _).2 h4, rfl⟩
theorem IsRt.len : ∀ {ms : List Rg} {l : Int} {x : List Int}, IsRt ms l x → x.length = ms.length
  | [], _, [], _ => rfl
  | _ :: _, _, _ :: _, h => by simp [IsRt.len h.2.2.2]
  | [], _, _ :: _, h => h.elim
  | _ :: _, _, [], h => h.elim

/-- The ranges of a material. -/
structure RgsOk (ms : List Rg) : Prop where
  one : 1 ≤ ms.length
  len : ms.length ≤ 3
  rg : ∀ r, r ∈ ms → 0 ≤ r.lo ∧ r.lo ≤ r.hi ∧ r.hi ≤ 1000 ∧ r.hi - r.lo ≤ 20
structure MatOk (ms : List Rg) : Prop extends RgsOk ms where
  some : allL ms ≠ []
structure SgOk (n : Nat) (s : Sg) : Prop where
  b0 : 0 ≤ s.b
  bn : s.b < n
  lo : 0 ≤ s.h.lo
  le : s.h.lo ≤ s.h.hi
  hi : s.h.hi ≤ 1000000
structure PlanOk (n : Nat) (ss : List Sg) : Prop where
  len : ss.length ≤ 8
  sg : ∀ s, s ∈ ss → SgOk n s
structure RnOk (n : Nat) (r : Rn) : Prop extends PlanOk n r.ss where
  lo : 0 ≤ r.seen.lo
  le : r.seen.lo ≤ r.seen.hi
  hi : r.seen.hi ≤ 10000000000
structure RoomOk (ms : List Rg) (rs : List Rn) : Prop where
  mat : MatOk ms
  len : rs.length ≤ 6
  rn : ∀ r, r ∈ rs → RnOk ms.length r

/-- Rates that nothing overflows with. -/
def Rates (x : List Int) : Prop := ∀ i, 0 ≤ rt x i ∧ rt x i ≤ 1000
theorem IsRt.rates' : ∀ {ms : List Rg} {l : Int} {x : List Int}, IsRt ms l x → (∀ r, r ∈ ms → 0 ≤ r.lo ∧ r.hi ≤ 1000) → ∀ n : Nat, 0 ≤ (x[n]?).getD 0 ∧ (x[n]?).getD 0 ≤ 1000
  | [], _, [], _, _, n => by simp
  | r :: rs, _, a :: x, h, hr, n => by
    cases n with
    | zero => have := hr r (by simp); have h1 := h.2.1; have h2 := h.2.2.1; simp; omega
    | succ n => simpa using IsRt.rates' h.2.2.2 (fun q hq => hr q (by simp [hq])) n
  | [], _, _ :: _, h, _, _ => h.elim
  | _ :: _, _, [], h, _, _ => h.elim
theorem IsRt.rates {ms : List Rg} {l : Int} {x : List Int} (h : IsRt ms l x) (hm : RgsOk ms) : Rates x :=
  fun i => h.rates' (fun r hr => ⟨(hm.rg r hr).1, (hm.rg r hr).2.2.1⟩) i.toNat
theorem rates_of {ms : List Rg} {x : List Int} (h : x ∈ allL ms) (hm : RgsOk ms) : Rates x := ((mem_listsL ms 0 x).1 h).rates hm
theorem len_of {ms : List Rg} {x : List Int} (h : x ∈ allL ms) : x.length = ms.length := ((mem_listsL ms 0 x).1 h).len
theorem mem_okL {ms : List Rg} {rs : List Rn} {x : List Int} : x ∈ okL ms rs ↔ x ∈ allL ms ∧ allB rs x = true := by simp [okL, List.mem_filter]

/-- One product, and the sums, are small. -/
theorem prod_le {a b : Int} (ha : 0 ≤ a) (ha' : a ≤ 1000) (hb : 0 ≤ b) (hb' : b ≤ 1000000) : 0 ≤ a * b ∧ a * b ≤ 1000000000 := by
  refine ⟨Int.mul_nonneg ha hb, ?_⟩
  have h1 : a * b ≤ 1000 * b := Int.mul_le_mul_of_nonneg_right ha' hb
  omega
theorem prod_le' {a b c : Int} (ha : 0 ≤ a) (h : b ≤ c) : a * b ≤ a * c := Int.mul_le_mul_of_nonneg_left h ha
theorem sums : ∀ {ss : List Sg} {x : List Int} {n : Nat}, Rates x → (∀ s, s ∈ ss → SgOk n s) → 0 ≤ loS ss x ∧ loS ss x ≤ hiS ss x ∧ hiS ss x ≤ 1000000000 * (ss.length : Int)
  | [], _, _, _, _ => by simp [loS, hiS]
  | s :: ss, x, n, hx, hs => by
    have ih := sums (ss := ss) hx fun q hq => hs q (by simp [hq])
    have hk := hs s (by simp)
    have hr := hx s.b
    have h1 := prod_le hr.1 hr.2 hk.lo (by have := hk.le; have := hk.hi; omega)
    have h2 := prod_le hr.1 hr.2 (b := s.h.hi) (by have := hk.le; have := hk.lo; omega) hk.hi
    have h3 := prod_le' hr.1 hk.le
    simp only [loS, hiS, List.length_cons]
    omega
theorem fits_meets {r : Rn} {x : List Int} {n : Nat} (hr : RnOk n r) (hx : Rates x) :
    (!decide (max (loS r.ss x) r.seen.lo > min (hiS r.ss x) r.seen.hi)) = fitsB r x := by
  have h := sums hx hr.sg
  have h2 := hr.le
  unfold fitsB
  rw [Bool.eq_iff_iff]
  simp only [Bool.not_eq_true', decide_eq_false_iff_not, Bool.and_eq_true, decide_eq_true_eq, gt_iff_lt]
  omega

def leastL : List Int → Int
  | [] => 0
  | a :: l => l.foldl min a
def greatL : List Int → Int
  | [] => 0
  | a :: l => l.foldl max a
theorem foldl_min (l : List Int) : ∀ a, l.foldl min a ≤ a ∧ (∀ b, b ∈ l → l.foldl min a ≤ b) ∧ (l.foldl min a = a ∨ l.foldl min a ∈ l) := by
  induction l with
  | nil => intro a; simp
  | cons c l ih =>
    intro a
    obtain ⟨h1, h2, h3⟩ := ih (min a c)
    refine ⟨by simp only [List.foldl_cons]; omega, fun b hb => ?_, ?_⟩
    · simp only [List.foldl_cons]
      rcases List.mem_cons.1 hb with rfl | hb
      · omega
      · exact h2 b hb
    · simp only [List.foldl_cons, List.mem_cons]
      rcases h3 with h3 | h3
      · rw [h3]; omega
      · exact .inr (.inr h3)
theorem foldl_max (l : List Int) : ∀ a, a ≤ l.foldl max a ∧ (∀ b, b ∈ l → b ≤ l.foldl max a) ∧ (l.foldl max a = a ∨ l.foldl max a ∈ l) := by
  induction l with
  | nil => intro a; simp
  | cons c l ih =>
    intro a
    obtain ⟨h1, h2, h3⟩ := ih (max a c)
    refine ⟨by simp only [List.foldl_cons]; omega, fun b hb => ?_, ?_⟩
    · simp only [List.foldl_cons]
      rcases List.mem_cons.1 hb with rfl | hb
      · omega
      · exact h2 b hb
    · simp only [List.foldl_cons, List.mem_cons]
      rcases h3 with h3 | h3
      · rw [h3]; omega
      · exact .inr (.inr h3)
theorem leastL_le {l : List Int} {a : Int} (h : a ∈ l) : leastL l ≤ a := by
  cases l with
  | nil => simp at h
  | cons c l =>
    rcases List.mem_cons.1 h with rfl | h
    · exact (foldl_min l _).1
    · exact (foldl_min l c).2.1 a h
theorem leastL_mem {l : List Int} (h : l ≠ []) : leastL l ∈ l := by
  cases l with
  | nil => exact absurd rfl h
  | cons c l =>
    rcases (foldl_min l c).2.2 with h | h
    · simp [leastL, h]
    · exact List.mem_cons_of_mem _ h
theorem greatL_le {l : List Int} {a : Int} (h : a ∈ l) : a ≤ greatL l := by
  cases l with
  | nil => simp at h
  | cons c l =>
    rcases List.mem_cons.1 h with rfl | h
    · exact (foldl_max l _).1
    · exact (foldl_max l c).2.1 a h
theorem greatL_mem {l : List Int} (h : l ≠ []) : greatL l ∈ l := by
  cases l with
  | nil => exact absurd rfl h
  | cons c l =>
    rcases (foldl_max l c).2.2 with h | h
    · simp [greatL, h]
    · exact List.mem_cons_of_mem _ h
theorem leastL_snoc (l : List Int) (h : l ≠ []) (a : Int) : leastL (l ++ [a]) = min (leastL l) a := by
  cases l with
  | nil => exact absurd rfl h
  | cons c l => simp [leastL]
theorem greatL_snoc (l : List Int) (h : l ≠ []) (a : Int) : greatL (l ++ [a]) = max (greatL l) a := by
  cases l with
  | nil => exact absurd rfl h
  | cons c l => simp [greatL]
theorem leastL_eq {l : List Int} {a : Int} (h : a ∈ l) (hl : ∀ b, b ∈ l → a ≤ b) : leastL l = a := by
  have h1 := leastL_le h
  have h2 := hl _ (leastL_mem (List.ne_nil_of_mem h))
  omega
theorem greatL_eq {l : List Int} {a : Int} (h : a ∈ l) (hl : ∀ b, b ∈ l → b ≤ a) : greatL l = a := by
  have h1 := greatL_le h
  have h2 := hl _ (greatL_mem (List.ne_nil_of_mem h))
  omega

/-- The ranges of rates, the stretch of a plan, the life. -/
def lowR (al : List (List Int)) (i : Int) : Int := leastL (al.map (rt · i))
def highR (al : List (List Int)) (i : Int) : Int := greatL (al.map (rt · i))
def rangesL (al : List (List Int)) (n : Nat) : List Rg := (List.range n).map fun i : Nat => ⟨lowR al i, highR al i⟩
def stretchL (al : List (List Int)) (plan : List Sg) : Rg := ⟨leastL (al.map (loS plan)), greatL (al.map (hiS plan))⟩
def hoursP (st rate : Int) : Int := if st = 0 then 0 else if rate = 0 then -1 else (st - 1) / rate + 1
def lifeL (al : List (List Int)) (b st : Int) : Rg := ⟨hoursP st (highR al b), hoursP st (lowR al b)⟩

theorem stretch_lo_le {al : List (List Int)} {plan : List Sg} {x : List Int} (h : x ∈ al) : (stretchL al plan).lo ≤ loS plan x := leastL_le (List.mem_map_of_mem h)
theorem stretch_hi_le {al : List (List Int)} {plan : List Sg} {x : List Int} (h : x ∈ al) : hiS plan x ≤ (stretchL al plan).hi := greatL_le (List.mem_map_of_mem h)
theorem stretch_lo_mem {al : List (List Int)} (h : al ≠ []) (plan : List Sg) : ∃ x, x ∈ al ∧ (stretchL al plan).lo = loS plan x := by
  obtain ⟨x, hx, he⟩ := List.mem_map.1 (leastL_mem (l := al.map (loS plan)) (by simpa using h))
  exact ⟨x, hx, he.symm⟩
theorem stretch_hi_mem {al : List (List Int)} (h : al ≠ []) (plan : List Sg) : ∃ x, x ∈ al ∧ (stretchL al plan).hi = hiS plan x := by
  obtain ⟨x, hx, he⟩ := List.mem_map.1 (greatL_mem (l := al.map (hiS plan)) (by simpa using h))
  exact ⟨x, hx, he.symm⟩
theorem lowR_mem {al : List (List Int)} (h : al ≠ []) (i : Int) : ∃ x, x ∈ al ∧ lowR al i = rt x i := by
  obtain ⟨x, hx, he⟩ := List.mem_map.1 (leastL_mem (l := al.map (rt · i)) (by simpa using h))
  exact ⟨x, hx, he.symm⟩
theorem highR_mem {al : List (List Int)} (h : al ≠ []) (i : Int) : ∃ x, x ∈ al ∧ highR al i = rt x i := by
  obtain ⟨x, hx, he⟩ := List.mem_map.1 (greatL_mem (l := al.map (rt · i)) (by simpa using h))
  exact ⟨x, hx, he.symm⟩
theorem lowR_le {al : List (List Int)} {x : List Int} (h : x ∈ al) (i : Int) : lowR al i ≤ rt x i := leastL_le (List.mem_map_of_mem (f := (rt · i)) h)
theorem highR_le {al : List (List Int)} {x : List Int} (h : x ∈ al) (i : Int) : rt x i ≤ highR al i := greatL_le (List.mem_map_of_mem (f := (rt · i)) h)
theorem ok_rates {ms : List Rg} {rs : List Rn} (h : MatOk ms) {x : List Int} (hx : x ∈ okL ms rs) : Rates x := rates_of (mem_okL.1 hx).1 h.toRgsOk
end Go.Proofs.Ytfijaafkagcmmaa
