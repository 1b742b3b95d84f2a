/- Rounds as plain lists, what a truth of one is, and what is left of lots and samples. No condition. -/
import Derived.WalkKit
namespace Go.Proofs.Ytpdkgnfblnblbaa

structure Rg where
  lo : Int
  hi : Int
deriving DecidableEq
structure Lb where
  tol : Int
  rs : List Int
structure Rd where
  lots : List Rg
  smp : List Int
  sp : Int
  labs : List Lb

def rg (l : List Rg) (i : Nat) : Rg := (l[i]?).getD ⟨0, 0⟩
def lb (l : List Lb) (i : Nat) : Lb := (l[i]?).getD ⟨0, []⟩
def ld (t : List Int) (i : Nat) : Int := (t[i]?).getD 0
theorem rg_mem {ms : List Rg} {i : Nat} (h : i < ms.length) : rg ms i ∈ ms := by simp [rg, h]
theorem lb_mem {ms : List Lb} {i : Nat} (h : i < ms.length) : lb ms i ∈ ms := by simp [lb, h]
theorem ld_mem {ms : List Int} {i : Nat} (h : i < ms.length) : ld ms i ∈ ms := by simp [ld, h]

def ands (r s : Rg) : Rg := ⟨max r.lo s.lo, min r.hi s.hi⟩
def wid (r : Rg) (n : Int) : Rg := ⟨r.lo - n, r.hi + n⟩
def lessR (r s : Rg) : Rg := ⟨r.lo - s.hi, r.hi - s.lo⟩
def okG (r : Rg) : Bool := decide (r.lo ≤ r.hi)
def InR (r : Rg) (y : Int) : Prop := r.lo ≤ y ∧ y ≤ r.hi
theorem in_ands {r s : Rg} {y : Int} : InR (ands r s) y ↔ InR r y ∧ InR s y := by simp only [InR, ands]; omega
theorem okG_iff {r : Rg} : okG r = true ↔ ∃ y, InR r y := by
  simp only [okG, decide_eq_true_eq, InR]
  exact ⟨fun h => ⟨r.lo, Int.le_refl _, h⟩, fun ⟨y, h1, h2⟩ => Int.le_trans h1 h2⟩

/-- The lot of a sample, as a place. -/
def lotN (R : Rd) (s : Nat) : Nat := (ld R.smp s).toNat
def rd1 (R : Rd) (off : Nat → Bool) (s k : Nat) : Option Rg :=
  if off k = true ∨ ld (lb R.labs k).rs s = -1 then none else some (wid ⟨ld (lb R.labs k).rs s, ld (lb R.labs k).rs s⟩ (lb R.labs k).tol)
def readsR (R : Rd) (off : Nat → Bool) (s : Nat) : List Rg := (List.range R.labs.length).filterMap (rd1 R off s)
def val0 (R : Rd) (s : Nat) : Rg := wid (rg R.lots (lotN R s)) R.sp
def valR (R : Rd) (off : Nat → Bool) (s : Nat) : Rg := (readsR R off s).foldl ands (val0 R s)
def lotStep (R : Rd) (off : Nat → Bool) (ls : List Rg) (s : Nat) : List Rg := ls.set (lotN R s) (ands (rg ls (lotN R s)) (wid (valR R off s) R.sp))
def lotsF (R : Rd) (off : Nat → Bool) (k : Nat) : List Rg := (List.range k).foldl (lotStep R off) R.lots
def valsF (R : Rd) (off : Nat → Bool) (k : Nat) : List Rg := (List.range k).map (valR R off)
def explB (R : Rd) (off : Nat → Bool) : Bool := (List.range R.smp.length).all (fun s => okG (valR R off s)) && (lotsF R off R.smp.length).all okG
def spanR (R : Rd) (off : Nat → Bool) (s : Nat) : Rg := ands (valR R off s) (wid (rg (lotsF R off R.smp.length) (lotN R s)) R.sp)
def spansL (R : Rd) (off : Nat → Bool) : List Rg := (List.range R.smp.length).map (spanR R off)

/-- What a truth is, in which all are right who are not off. -/
structure Tru (R : Rd) (off : Nat → Bool) (v x : Nat → Int) : Prop where
  lot : ∀ l, l < R.lots.length → InR (rg R.lots l) (v l)
  near : ∀ s, s < R.smp.length → v (lotN R s) - R.sp ≤ x s ∧ x s ≤ v (lotN R s) + R.sp
  right : ∀ s, s < R.smp.length → ∀ k, k < R.labs.length → off k = false → ld (lb R.labs k).rs s ≠ -1 → ld (lb R.labs k).rs s - (lb R.labs k).tol ≤ x s ∧ x s ≤ ld (lb R.labs k).rs s + (lb R.labs k).tol

/-- What makes a round valid, as far as the judging goes. -/
structure RdOk (R : Rd) : Prop where
  l4 : R.lots.length ≤ 4
  l0 : 0 < R.lots.length
  s8 : R.smp.length ≤ 8
  k6 : R.labs.length ≤ 6
  sp : 0 ≤ R.sp ∧ R.sp ≤ 100
  lot : ∀ l ∈ R.lots, 0 ≤ l.lo ∧ l.lo ≤ l.hi ∧ l.hi ≤ 1000
  smp : ∀ s ∈ R.smp, 0 ≤ s ∧ s < R.lots.length
  tol : ∀ x ∈ R.labs, 0 ≤ x.tol ∧ x.tol ≤ 100
  len : ∀ x ∈ R.labs, x.rs.length = R.smp.length
  rs : ∀ x ∈ R.labs, ∀ r ∈ x.rs, -1 ≤ r ∧ r ≤ 1000
theorem RdOk.lotN {R : Rd} (h : RdOk R) {s : Nat} (hs : s < R.smp.length) : lotN R s < R.lots.length ∧ (lotN R s : Int) = ld R.smp s := by
  have := h.smp _ (ld_mem hs)
  unfold Go.Proofs.Ytpdkgnfblnblbaa.lotN
  omega

theorem in_fold (l : List Rg) : ∀ (r : Rg) (y : Int), InR (l.foldl ands r) y ↔ InR r y ∧ ∀ q ∈ l, InR q y := by
  induction l with
  | nil => intro r y; simp
  | cons a l ih =>
    intro r y
    rw [List.foldl_cons, ih, in_ands]
    simp only [List.mem_cons, forall_eq_or_imp]
    exact ⟨fun ⟨⟨a, b⟩, c⟩ => ⟨a, b, c⟩, fun ⟨a, b, c⟩ => ⟨⟨a, b⟩, c⟩⟩
theorem in_val {R : Rd} {off : Nat → Bool} {s : Nat} {y : Int} : InR (valR R off s) y ↔ InR (val0 R s) y ∧ ∀ k, k < R.labs.length → off k = false → ld (lb R.labs k).rs s ≠ -1 → InR (wid ⟨ld (lb R.labs k).rs s, ld (lb R.labs k).rs s⟩ (lb R.labs k).tol) y := by
  unfold valR readsR
  rw [in_fold]
  refine and_congr_right fun _ => ⟨fun h k hk ho hr => h _ ?_, fun h q hq => ?_⟩
  · rw [List.mem_filterMap]
    exact ⟨k, by simpa using hk, by unfold rd1; rw [if_neg]; simp [ho, hr]⟩
  · rw [List.mem_filterMap] at hq
    obtain ⟨k, hk, he⟩ := hq
    unfold rd1 at he
    split at he
    · cases he
    · rename_i hn
      cases he
      have hn1 : off k = false := by cases h : off k <;> simp_all
      exact h k (by simpa using hk) hn1 (fun e => hn (.inr e))
theorem lotStep_len (R : Rd) (off : Nat → Bool) (ls : List Rg) (s : Nat) : (lotStep R off ls s).length = ls.length := by simp [lotStep]
theorem lotsF_succ (R : Rd) (off : Nat → Bool) (k : Nat) : lotsF R off (k + 1) = lotStep R off (lotsF R off k) k := by simp [lotsF, List.range_succ]
theorem lotsF_len (R : Rd) (off : Nat → Bool) (k : Nat) : (lotsF R off k).length = R.lots.length := by
  induction k with
  | zero => simp [lotsF]
  | succ k ih => rw [lotsF_succ, lotStep_len, ih]
theorem rg_set {l : List Rg} {i j : Nat} {r : Rg} (hi : i < l.length) : rg (l.set i r) j = if j = i then r else rg l j := by
  unfold rg
  by_cases h : j = i
  · subst h; simp [hi]
  · rw [if_neg h, List.getElem?_set_ne (fun e => h e.symm)]
theorem in_lots {R : Rd} (hR : RdOk R) {off : Nat → Bool} {l : Nat} {u : Int} : ∀ {k : Nat}, k ≤ R.smp.length → (InR (rg (lotsF R off k) l) u ↔ InR (rg R.lots l) u ∧ ∀ s, s < k → lotN R s = l → InR (wid (valR R off s) R.sp) u)
  | 0, _ => by simp [lotsF]
  | k + 1, hk => by
    have hlen : lotN R k < (lotsF R off k).length := by rw [lotsF_len]; exact (hR.lotN (by omega)).1
    rw [lotsF_succ, lotStep, rg_set hlen]
    have ih := in_lots hR (off := off) (l := l) (u := u) (k := k) (by omega)
    by_cases h : l = lotN R k
    · rw [if_pos h, in_ands, ← h, ih]
      refine ⟨fun ⟨⟨a, b⟩, c⟩ => ⟨a, fun s hs he => ?_⟩, fun ⟨a, b⟩ => ⟨⟨a, fun s hs he => b s (by omega) he⟩, b k (by omega) h.symm⟩⟩
      by_cases e : s = k
      · subst e; exact c
      · exact b s (by omega) he
    · rw [if_neg h, ih]
      refine and_congr_right fun _ => ⟨fun b s hs he => ?_, fun b s hs he => b s (by omega) he⟩
      by_cases e : s = k
      · subst e; exact absurd he.symm h
      · exact b s (by omega) he

theorem tru_val {R : Rd} (hR : RdOk R) {off : Nat → Bool} {v x : Nat → Int} (h : Tru R off v x) {s : Nat} (hs : s < R.smp.length) : InR (valR R off s) (x s) := by
  rw [in_val]
  have h1 := h.near s hs
  have h2 := h.lot _ (hR.lotN hs).1
  refine ⟨?_, fun k hk ho hr => ?_⟩
  · simp only [val0, InR, wid] at h2 ⊢; omega
  · have := h.right s hs k hk ho hr
    simp only [InR, wid]; omega
theorem tru_lot {R : Rd} (hR : RdOk R) {off : Nat → Bool} {v x : Nat → Int} (h : Tru R off v x) {l : Nat} (hl : l < R.lots.length) : InR (rg (lotsF R off R.smp.length) l) (v l) := by
  rw [in_lots hR (Nat.le_refl _)]
  refine ⟨h.lot l hl, fun s hs he => ?_⟩
  have h1 := h.near s hs
  have h2 := tru_val hR h hs
  rw [he] at h1
  simp only [InR, wid] at h2 ⊢; omega
theorem all_rg {l : List Rg} (B : Rg → Bool) : l.all B = true ↔ ∀ i, i < l.length → B (rg l i) = true := by
  rw [List.all_eq_true]
  constructor
  · exact fun h i hi => h _ (rg_mem hi)
  · intro h r hr
    obtain ⟨j, hj, rfl⟩ := List.getElem_of_mem hr
    simpa [rg, hj] using h j hj
theorem expl_of {R : Rd} (hR : RdOk R) {off : Nat → Bool} {v x : Nat → Int} (h : Tru R off v x) : explB R off = true := by
  unfold explB
  rw [Bool.and_eq_true, List.all_eq_true, all_rg]
  refine ⟨fun s hs => okG_iff.2 ⟨x s, tru_val hR h (by simpa using hs)⟩, fun i hi => okG_iff.2 ⟨v i, tru_lot hR h (by rwa [lotsF_len] at hi)⟩⟩
/-- A value of each lot, and one of each sample that is near enough. -/
theorem expl_tru {R : Rd} (hR : RdOk R) {off : Nat → Bool} (h : explB R off = true) (s : Nat) (hs : s < R.smp.length) (y : Int) (hy : InR (spanR R off s) y) : ∃ v x, Tru R off v x ∧ x s = y := by
  unfold explB at h
  rw [Bool.and_eq_true, List.all_eq_true, all_rg] at h
  obtain ⟨h1, h2⟩ := h
  have hsp := hR.sp
  have hv0 : ∀ s, s < R.smp.length → okG (valR R off s) = true := fun s hs => h1 s (by simpa using hs)
  obtain ⟨hy1, hy2⟩ := in_ands.1 hy
  have hL := (hR.lotN hs).1
  have hok := okG_iff.1 (h2 _ (by rw [lotsF_len]; exact hL))
  -- the lot's value that goes with y
  have hu : ∃ u, InR (rg (lotsF R off R.smp.length) (lotN R s)) u ∧ u - R.sp ≤ y ∧ y ≤ u + R.sp := by
    obtain ⟨u0, hu0⟩ := hok
    simp only [InR, wid] at hy2 hu0 ⊢
    generalize rg (lotsF R off R.smp.length) (lotN R s) = r at *
    by_cases c1 : y < r.lo
    · exact ⟨r.lo, by omega⟩
    · by_cases c2 : r.hi < y
      · exact ⟨r.hi, by omega⟩
      · exact ⟨y, by omega⟩
  obtain ⟨u, hu1, hu2⟩ := hu
  have hv : ∀ l, ∃ a, (l < R.lots.length → InR (rg (lotsF R off R.smp.length) l) a) ∧ (l = lotN R s → a = u) := fun l => by
    by_cases e : l = lotN R s
    · exact ⟨u, fun _ => by rw [e]; exact hu1, fun _ => rfl⟩
    · by_cases hl : l < R.lots.length
      · obtain ⟨a, ha⟩ := okG_iff.1 (h2 l (by rw [lotsF_len]; exact hl))
        exact ⟨a, fun _ => ha, fun h => absurd h e⟩
      · exact ⟨0, fun h => absurd h hl, fun h => absurd h e⟩
  obtain ⟨v, hv⟩ := Classical.axiomOfChoice hv
  have hx : ∀ t, ∃ a, (t < R.smp.length → InR (valR R off t) a ∧ v (lotN R t) - R.sp ≤ a ∧ a ≤ v (lotN R t) + R.sp) ∧ (t = s → a = y) := fun t => by
    by_cases e : t = s
    · subst e
      refine ⟨y, fun _ => ⟨hy1, ?_⟩, fun _ => rfl⟩
      rw [(hv (lotN R t)).2 rfl]
      omega
    · by_cases ht : t < R.smp.length
      · have hl := (hv _).1 (hR.lotN ht).1
        rw [in_lots hR (Nat.le_refl _)] at hl
        have h3 := hl.2 t ht rfl
        obtain ⟨b, hb⟩ := okG_iff.1 (hv0 t ht)
        simp only [InR, wid] at h3 hb
        refine ⟨max (valR R off t).lo (v (lotN R t) - R.sp), fun _ => ?_, fun h => absurd h e⟩
        simp only [InR]
        omega
      · exact ⟨0, fun h => absurd h ht, fun h => absurd h e⟩
  obtain ⟨x, hx⟩ := Classical.axiomOfChoice hx
  refine ⟨v, x, ⟨fun l hl => ?_, fun t ht => ((hx t).1 ht).2, fun t ht k hk ho hr => ?_⟩, (hx s).2 rfl⟩
  · have := (hv l).1 hl
    rw [in_lots hR (Nat.le_refl _)] at this
    exact this.1
  · have := (in_val.1 ((hx t).1 ht).1).2 k hk ho hr
    simp only [InR, wid] at this
    omega
theorem expl_some {R : Rd} (hR : RdOk R) {off : Nat → Bool} (h : explB R off = true) : ∃ v x, Tru R off v x := by
  have h0 := h
  unfold explB at h
  rw [Bool.and_eq_true, List.all_eq_true, all_rg] at h
  obtain ⟨h1, h2⟩ := h
  by_cases hs : 0 < R.smp.length
  · obtain ⟨b, hb⟩ := okG_iff.1 (h1 0 (by simpa using hs))
    obtain ⟨a, ha⟩ := okG_iff.1 (h2 (lotN R 0) (by rw [lotsF_len]; exact (hR.lotN hs).1))
    have h3 := ((in_lots hR (Nat.le_refl _)).1 ha).2 0 hs rfl
    have : ∃ y, InR (spanR R off 0) y := by
      refine ⟨max (valR R off 0).lo (a - R.sp), ?_⟩
      unfold spanR
      rw [in_ands]
      have hsp := hR.sp
      simp only [InR, wid] at *
      omega
    obtain ⟨y, hy⟩ := this
    obtain ⟨v, x, h, -⟩ := expl_tru hR h0 0 hs y hy
    exact ⟨v, x, h⟩
  · have e : R.smp.length = 0 := by omega
    have hv : ∀ l, ∃ a, l < R.lots.length → InR (rg R.lots l) a := fun l => by
      by_cases hl : l < R.lots.length
      · exact ⟨(rg R.lots l).lo, fun _ => ⟨Int.le_refl _, (hR.lot _ (rg_mem hl)).2.1⟩⟩
      · exact ⟨0, fun h => absurd h hl⟩
    obtain ⟨v, hv⟩ := Classical.axiomOfChoice hv
    exact ⟨v, fun _ => 0, hv, fun s hs => by omega, fun s hs => by omega⟩
theorem expl_iff {R : Rd} (hR : RdOk R) {off : Nat → Bool} : explB R off = true ↔ ∃ v x, Tru R off v x := ⟨expl_some hR, fun ⟨_, _, h⟩ => expl_of hR h⟩
theorem span_iff {R : Rd} (hR : RdOk R) {off : Nat → Bool} (h : explB R off = true) {s : Nat} (hs : s < R.smp.length) {y : Int} : InR (spanR R off s) y ↔ ∃ v x, Tru R off v x ∧ x s = y := by
  refine ⟨expl_tru hR h s hs y, fun ⟨v, x, ht, he⟩ => ?_⟩
  subst he
  unfold spanR
  rw [in_ands]
  refine ⟨tru_val hR ht hs, ?_⟩
  have h1 := tru_lot hR ht (hR.lotN hs).1
  have h2 := ht.near s hs
  simp only [InR, wid] at h1 ⊢
  omega
/-- Who explains a round has a value for each sample. -/
theorem span_ok {R : Rd} (hR : RdOk R) {off : Nat → Bool} (h : explB R off = true) {s : Nat} (hs : s < R.smp.length) : (spanR R off s).lo ≤ (spanR R off s).hi := by
  obtain ⟨v, x, ht⟩ := expl_some hR h
  have := (span_iff hR h hs).2 ⟨v, x, ht, rfl⟩
  exact Int.le_trans this.1 this.2
/-- A range is told by what is in it. -/
theorem sub_ends {r s : Rg} (h : ∀ y, InR r y → InR s y) (h0 : r.lo ≤ r.hi) : s.lo ≤ r.lo ∧ r.hi ≤ s.hi := ⟨(h r.lo ⟨Int.le_refl _, h0⟩).1, (h r.hi ⟨h0, Int.le_refl _⟩).2⟩
theorem Tru.more {R : Rd} {off off' : Nat → Bool} {v x : Nat → Int} (h : Tru R off v x) (hm : ∀ k, k < R.labs.length → off k = true → off' k = true) : Tru R off' v x :=
  ⟨h.lot, h.near, fun s hs k hk ho => h.right s hs k hk (by cases e : off k; · rfl
                                                            · rw [hm k hk e] at ho; cases ho)⟩
theorem expl_more {R : Rd} (hR : RdOk R) {off off' : Nat → Bool} (hm : ∀ k, k < R.labs.length → off k = true → off' k = true) (h : explB R off = true) : explB R off' = true := by
  obtain ⟨v, x, ht⟩ := expl_some hR h
  exact expl_of hR (ht.more hm)
theorem span_more {R : Rd} (hR : RdOk R) {off off' : Nat → Bool} (hm : ∀ k, k < R.labs.length → off k = true → off' k = true) (h : explB R off = true) {s : Nat} (hs : s < R.smp.length) : (spanR R off' s).lo ≤ (spanR R off s).lo ∧ (spanR R off s).hi ≤ (spanR R off' s).hi := by
  refine sub_ends (fun y hy => ?_) (span_ok hR h hs)
  obtain ⟨v, x, ht, he⟩ := (span_iff hR h hs).1 hy
  exact (span_iff hR (expl_more hR hm h) hs).2 ⟨v, x, ht.more hm, he⟩
theorem expl_all {R : Rd} (hR : RdOk R) {off : Nat → Bool} (h : ∀ k, k < R.labs.length → off k = true) : explB R off = true := by
  refine expl_of hR (v := fun l => (rg R.lots l).lo) (x := fun s => (rg R.lots (lotN R s)).lo) ⟨fun l hl => ⟨Int.le_refl _, (hR.lot _ (rg_mem hl)).2.1⟩, fun s hs => ?_, fun s hs k hk ho => ?_⟩
  · have := hR.sp; omega
  · rw [h k hk] at ho; cases ho
theorem filterMap_ext {α β : Type} {f g : α → Option β} : ∀ {l : List α}, (∀ a ∈ l, f a = g a) → l.filterMap f = l.filterMap g
  | [], _ => rfl
  | a :: l, h => by
    rw [List.filterMap_cons, List.filterMap_cons, h a (by simp), filterMap_ext fun b hb => h b (by simp [hb])]
theorem val_ext {R : Rd} {off off' : Nat → Bool} (h : ∀ k, k < R.labs.length → off k = off' k) : valR R off = valR R off' := by
  funext s
  unfold valR readsR
  rw [filterMap_ext (g := rd1 R off' s) fun k hk => by
    unfold rd1
    rw [h k (by simpa using hk)]]
end Go.Proofs.Ytpdkgnfblnblbaa
