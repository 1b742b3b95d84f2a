/- The search for truths as a plain function: what it keeps from step to step. No condition. -/
import Derived.Test.YtfjlnejeffkdoaaX
namespace Go.Proofs.Ytfjlnejeffkdoaa
open Go.RowKit Go.Shelf

structure St where
  opn : List Plc
  came : List (Plc × Plc)
  ys : List (List Int)

def inR (ps : List Pt) (p : Plc) : Bool := hasB (pt ps p.1.toNat).lo (pt ps p.1.toNat).hi p.2
def endT (ps : List Pt) (E : List (Plc × Plc)) (f : Plc) (l : Int) : List Int := trB E (f.1 + 1).toNat f ((lowT ps).set (f.1 + 1).toNat l)
def step1 (ps : List Pt) (hp : Plc → Plc → Bool) (f : Plc) (s : St) (l : Int) : St :=
  if inR ps (f.1 + 1, l) = true then
    if hp f (f.1 + 1, l) = true then { s with ys := s.ys ++ [endT ps s.came f l] }
    else if (findP s.came (f.1 + 1, l)).isSome = true then s
    else ⟨s.opn ++ [(f.1 + 1, l)], s.came ++ [((f.1 + 1, l), f)], s.ys⟩
  else s
def runS (ps : List Pt) (ch : Plc → List Int) (hp : Plc → Plc → Bool) : Nat → St → St
  | 0, s => s
  | k + 1, s => match s.opn with
    | [] => s
    | f :: rest => if f.1 = (ps.length : Int) - 1 then s else runS ps ch hp k ((ch f).foldl (step1 ps hp f) { s with opn := rest })

def wt : Nat → Nat
  | 0 => 1
  | k + 1 => 4 * wt k + 1
def lv (n : Nat) (p : Plc) : Nat := ((n : Int) - 1 - p.1).toNat
def phi (n : Nat) (l : List Plc) : Nat := (l.map (fun p => wt (lv n p))).sum
def searchL (ps : List Pt) (ch : Plc → List Int) (hp : Plc → Plc → Bool) : List (List Int) := (runS ps ch hp (wt ps.length) ⟨[(-1, 0)], [], []⟩).ys

theorem wt_pos (k : Nat) : 1 ≤ wt k := by cases k <;> simp [wt] <;> omega
theorem wt_mono {j k : Nat} (h : j ≤ k) : wt j ≤ wt k := by
  induction h with
  | refl => exact Nat.le_refl _
  | step _ ih => exact Nat.le_trans ih (by rw [wt]; omega)
theorem wt20 : wt 20 = 1466015503701 := by decide
theorem len_phi (n : Nat) : ∀ l : List Plc, l.length ≤ phi n l
  | [] => Nat.zero_le _
  | p :: l => by
    have h1 := len_phi n l
    have h2 := wt_pos (lv n p)
    simp only [phi, List.length_cons, List.map_cons, List.sum_cons] at h1 ⊢
    omega
theorem phi_app (n : Nat) (l : List Plc) (p : Plc) : phi n (l ++ [p]) = phi n l + wt (lv n p) := by simp [phi]

theorem findP_app (E : List (Plc × Plc)) (a b p : Plc) : findP (E ++ [(a, b)]) p = (findP E p).or (if p == a then some b else none) := by
  induction E with
  | nil => rfl
  | cons e E ih =>
    simp only [List.cons_append, findP, ih]
    split <;> simp

/-- What holds of the places that the search keeps. -/
structure OkS (ps : List Pt) (s : St) : Prop where
  tree : Tree ps.length s.came
  rng : ∀ p q, findP s.came p = some q → inR ps p = true
  opn : ∀ p ∈ s.opn, p = (-1, 0) ∨ (findP s.came p).isSome

theorem OkS.at {ps : List Pt} {s : St} (h : OkS ps s) {p : Plc} (hp : (findP s.came p).isSome) : 0 ≤ p.1 ∧ p.1 < ps.length ∧ inR ps p = true := by
  obtain ⟨q, hq⟩ := Option.isSome_iff_exists.1 hp
  exact ⟨(h.tree p q hq).2.1, (h.tree p q hq).2.2.1, h.rng p q hq⟩

theorem OkS.step {ps : List Pt} {hp : Plc → Plc → Bool} {s : St} {f : Plc} (h : OkS ps s) (hf : f = (-1, 0) ∨ (findP s.came f).isSome) (hn : f.1 + 1 < ps.length) (l : Int) :
    OkS ps (step1 ps hp f s l) ∧ (∀ p, (findP s.came p).isSome → (findP (step1 ps hp f s l).came p).isSome) ∧ phi ps.length (step1 ps hp f s l).opn ≤ phi ps.length s.opn + wt (lv ps.length (f.1 + 1, l)) := by
  unfold step1
  split
  · rename_i hin
    split
    · exact ⟨⟨h.tree, h.rng, h.opn⟩, fun _ hp => hp, by simp⟩
    · split
      · exact ⟨h, fun _ hp => hp, by omega⟩
      · rename_i hno
        have hno' : findP s.came (f.1 + 1, l) = none := by simpa using hno
        have hmono : ∀ p, (findP s.came p).isSome → (findP (s.came ++ [((f.1 + 1, l), f)]) p).isSome := fun p hp => by
          rw [findP_app]
          cases hh : findP s.came p with
          | none => simp [hh] at hp
          | some q => simp
        have h0 : 0 ≤ f.1 + 1 := by
          rcases hf with rfl | hf
          · decide
          · have := (h.at hf).1; omega
        refine ⟨⟨?_, ?_, ?_⟩, hmono, by rw [phi_app]; omega⟩
        · intro p q hq
          simp only [findP_app] at hq
          cases hh : findP s.came p with
          | some q' =>
            simp only [hh, Option.or_some] at hq
            obtain rfl : q' = q := by simpa using hq
            obtain ⟨a, b, c, d⟩ := h.tree p q' hh
            exact ⟨a, b, c, fun hq0 => hmono _ (d hq0)⟩
          | none =>
            simp only [hh, Option.none_or] at hq
            split at hq
            · rename_i hpe
              obtain rfl : p = (f.1 + 1, l) := by simpa using hpe
              obtain rfl : f = q := by simpa using hq
              refine ⟨by simp only; omega, h0, hn, fun hf0 => hmono _ ?_⟩
              rcases hf with rfl | hf
              · simp at hf0
              · exact hf
            · cases hq
        · intro p q hq
          simp only [findP_app] at hq
          cases hh : findP s.came p with
          | some q' => exact h.rng p q' hh
          | none =>
            simp only [hh, Option.none_or] at hq
            split at hq
            · rename_i hpe
              obtain rfl : p = (f.1 + 1, l) := by simpa using hpe
              exact hin
            · cases hq
        · intro p hp
          rcases List.mem_append.1 hp with hp | hp
          · rcases h.opn p hp with h | h
            · exact .inl h
            · exact .inr (hmono _ h)
          · obtain rfl : p = (f.1 + 1, l) := by simpa using hp
            refine .inr ?_
            rw [findP_app, hno']
            simp
  · exact ⟨h, fun _ hp => hp, by omega⟩

theorem isTr_set {ps : List Pt} {t : List Int} (h : IsTr ps t) (hlen : ps.length ≤ 20) {k : Nat} (hk : k < ps.length) {v : Int} (hv : (pt ps k).lo ≤ v ∧ v ≤ (pt ps k).hi) : IsTr ps (t.set k v) := by
  obtain ⟨h1, h2, h3⟩ := h
  refine ⟨by simpa using h1, fun i hi => ?_, fun i hi => ?_⟩
  · by_cases e : i = k
    · subst e
      rw [show ld (t.set i v) i = v from by simp [ld, show i < t.length from by omega]]
      exact hv
    · have := h2 i hi
      simpa [ld, List.getElem?_set, Ne.symm e] using this
  · have := h3 i hi
    simpa [ld, List.getElem?_set, show ¬ k = i by omega] using this

theorem inR_spec {ps : List Pt} {p : Plc} (h : inR ps p = true) : (pt ps p.1.toNat).lo ≤ p.2 ∧ p.2 ≤ (pt ps p.1.toNat).hi := by simpa [inR, hasB] using h

theorem trB_tr {ps : List Pt} {s : St} (h : OkS ps s) (hlen : ps.length ≤ 20) : ∀ (k : Nat) (f : Plc) (t : List Int), IsTr ps t → k ≤ ps.length → (k = 0 ∨ f.1 = (k : Int) - 1 ∧ (findP s.came f).isSome) → IsTr ps (trB s.came k f t)
  | 0, _, _, ht, _, _ => ht
  | k + 1, f, t, ht, hk, hf => by
    obtain ⟨hf1, hf2⟩ := hf.resolve_left (by omega)
    obtain ⟨q, hq⟩ := Option.isSome_iff_exists.1 hf2
    have hin := inR_spec (h.rng f q hq)
    have hfk : f.1 = (k : Int) := by omega
    rw [hfk, Int.toNat_natCast] at hin
    obtain ⟨a, b, c, d⟩ := h.tree f q hq
    unfold trB
    rw [hq, Option.getD_some]
    refine trB_tr h hlen k q _ (isTr_set ht hlen (by omega) hin) (by omega) ?_
    rcases Nat.eq_zero_or_pos k with h0 | h0
    · exact .inl h0
    · exact .inr ⟨by omega, d (by omega)⟩

theorem endT_tr {ps : List Pt} {s : St} (h : OkS ps s) (hlen : ps.length ≤ 20) (hlo : IsTr ps (lowT ps)) {f : Plc} {l : Int} (hf : f = (-1, 0) ∨ (findP s.came f).isSome) (hn : f.1 + 1 < ps.length) (hin : inR ps (f.1 + 1, l) = true) : IsTr ps (endT ps s.came f l) := by
  have h0 : 0 ≤ f.1 + 1 := by
    rcases hf with rfl | hf
    · decide
    · have := (h.at hf).1; omega
  refine trB_tr h hlen _ f _ (isTr_set hlo hlen (by omega) (inR_spec hin)) (by omega) ?_
  rcases hf with rfl | hf
  · exact .inl (by decide)
  · exact .inr ⟨by omega, hf⟩

/-- What is in a queue, out of the memory. -/
def unflat : List Value → List Plc
  | .int _ a :: .int _ b :: t => (a, b) :: unflat t
  | _ => []
theorem unflat_flat : ∀ l : List Plc, unflat (flatP l) = l
  | [] => rfl
  | p :: l => by
    have := unflat_flat l
    simp only [flatP, List.flatMap_cons, List.cons_append, List.nil_append] at this ⊢
    rw [unflat, this]
def decP (v : Value) (w : World) : List Plc := match v with
  | .slice (some a) n _ => match w.heap[a.block]? with
    | some (.cells cur _ _) => unflat ((cur.toList.drop a.off).take (n * 2))
    | _ => []
  | _ => []
theorem Qu.dec {w : World} {base : Nat} {v : Value} {l : List Plc} (h : Qu w base v l) : decP v w = l := by
  obtain ⟨g, o, cap, cur, rfl, hb, hg, hl, hm, hs, ht⟩ := h
  simp only [decP, hg, ht, unflat_flat]
def muP (n : Nat) (v : Value) (w : World) : Nat := phi n (decP v w)
end Go.Proofs.Ytfjlnejeffkdoaa
