/- The search of a chain: what holds while trails are open, as plain facts. Condition: an album that is possible. -/
import Derived.Test.YtplmlmmjfkbabaaUG
import Derived.Test.YtplmlmmjfkbabaaUEJ
namespace Go.Proofs.Ytplmlmmjfkbabaa
open Go.RowKit Go.Shelf

def withR (R : Nat → Bool) (x : Nat) : Nat → Bool := fun k => R k || k == x
def cardR (R : Nat → Bool) : Nat := (List.range 9).countP R
theorem card_le (R : Nat → Bool) : cardR R ≤ 9 := by
  have := List.countP_le_length (p := R) (l := List.range 9)
  simpa [cardR] using this
theorem card_add {R : Nat → Bool} {x : Nat} (hx : x < 9) (h : R x = false) : cardR (withR R x) = cardR R + 1 := by
  have e : List.range 9 = [0, 1, 2, 3, 4, 5, 6, 7, 8] := rfl
  unfold cardR withR
  rw [e]
  match x, hx, h with
  | 0, _, h | 1, _, h | 2, _, h | 3, _, h | 4, _, h | 5, _, h | 6, _, h | 7, _, h | 8, _, h =>
    simp only [List.countP_cons, List.countP_nil, h, Bool.or_false, Bool.false_or, beq_self_eq_true, Nat.reduceBEq, Bool.or_true, if_true, Bool.false_eq_true, if_false]
    try omega
theorem card_eight {R : Nat → Bool} (h : R 0 = false) : cardR R ≤ 8 := by
  have e : List.range 9 = [0, 1, 2, 3, 4, 5, 6, 7, 8] := rfl
  have := List.countP_le_length (p := R) (l := [1, 2, 3, 4, 5, 6, 7, 8])
  unfold cardR
  rw [e, List.countP_cons, h]
  simpa using this
theorem withR_at (R : Nat → Bool) (x : Nat) : withR R x x = true := by simp [withR]
theorem withR_of {R : Nat → Bool} {k : Nat} (x : Nat) (h : R k = true) : withR R x k = true := by simp [withR, h]

/-- What holds of the pictures that trails come from, and of those that were reached. -/
structure ChP (cs : List Cm) (d : Dm) (hi : Bool) (p : Int) (fs : List Int) (R : Nat → Bool) : Prop where
  r0 : R 0 = false
  rb : ∀ y, y < 9 → R y = true → ¬ BegO d hi ((y : Int) - 1)
  cl : ∀ i : Nat, i < cs.length → ∀ b, b ∈ bdsL (cm cs i) → TightB d hi b → R (pl b.t) = true → R (pl b.f) = true ∨ b.f ∈ fs
  st : R (pl p) = true ∨ p ∈ fs
theorem ChP.start (cs : List Cm) (d : Dm) (hi : Bool) (p : Int) : ChP cs d hi p [p] fun _ => false :=
  ⟨rfl, fun y _ h => (by cases h), fun i _ b _ _ h => (by cases h), .inr (by simp)⟩
theorem ChP.none {n : Int} {cs : List Cm} {d : Dm} {hi : Bool} {p : Int} {R : Nat → Bool} (hA : AlbOk n cs) (hC : Canon cs d) (hp : pl p < 9) (h : ChP cs d hi p [] R) : False := by
  have hx : R (pl p) = true := h.st.resolve_right (by simp)
  refine ring hA hC hx hp h.r0 (fun y _ hy => h.rb y hy) fun c hc b hb ht hR => ?_
  obtain ⟨i, hi', rfl⟩ := cm_at hc
  exact (h.cl i hi' b hb ht hR).resolve_right (by simp)
theorem ChP.skip {cs : List Cm} {d : Dm} {hi : Bool} {p f : Int} {fs : List Int} {R : Nat → Bool} (h : ChP cs d hi p (f :: fs) R) (hf : R (pl f) = true) : ChP cs d hi p fs R := by
  refine ⟨h.r0, h.rb, fun i hi' b hb ht hR => ?_, ?_⟩
  · rcases h.cl i hi' b hb ht hR with h1 | h1
    · exact .inl h1
    · rcases List.mem_cons.1 h1 with h2 | h2
      · exact .inl (by rw [h2]; exact hf)
      · exact .inr h2
  · rcases h.st with h1 | h1
    · exact .inl h1
    · rcases List.mem_cons.1 h1 with h2 | h2
      · exact .inl (by rw [h2]; exact hf)
      · exact .inr h2
theorem ChP.open {n : Int} {cs : List Cm} {d : Dm} {hi : Bool} {p f : Int} {fs fs' : List Int} {R : Nat → Bool} (hA : AlbOk n cs) (h : ChP cs d hi p (f :: fs) R) (hf : -1 ≤ f) (hb : ¬ BegO d hi f)
    (hs : ∀ x, x ∈ fs → x ∈ fs') (hn : ∀ i : Nat, i < cs.length → ∀ b, b ∈ bdsL (cm cs i) → TightB d hi b → b.t = f → b.f ∈ fs') : ChP cs d hi p fs' (withR R (pl f)) := by
  have hf1 : f ≠ -1 := fun e => hb (.inl e)
  have hpf : pl f ≠ 0 := by unfold pl; omega
  have hor : ∀ k, withR R (pl f) k = true → R k = true ∨ k = pl f := fun k hk => by simpa [withR] using hk
  refine ⟨?_, fun y hy hR => ?_, fun i hi' b hb2 ht hR => ?_, ?_⟩
  · have : (0 == pl f) = false := by rw [beq_eq_false_iff_ne]; exact fun e => hpf e.symm
    simp [withR, h.r0, this]
  · rcases hor y hR with h1 | h1
    · exact h.rb y hy h1
    · have : (y : Int) - 1 = f := by rw [h1]; unfold pl; omega
      rw [this]
      exact hb
  · rcases hor _ hR with h1 | h1
    · rcases h.cl i hi' b hb2 ht h1 with h2 | h2
      · exact .inl (withR_of _ h2)
      · rcases List.mem_cons.1 h2 with h3 | h3
        · exact .inl (by rw [h3]; exact withR_at _ _)
        · exact .inr (hs _ h3)
    · have hc := hA.cm _ (cm_mem hi')
      have ht1 : -1 ≤ b.t := by
        have h2 := hc.l0
        have h3 := hc.r0
        rcases mem_bds.1 hb2 with rfl | rfl
        · show -1 ≤ (cm cs i).l
          omega
        · exact h3
      exact .inr (hn i hi' b hb2 ht (by unfold pl at h1; omega))
  · rcases h.st with h1 | h1
    · exact .inl (withR_of _ h1)
    · rcases List.mem_cons.1 h1 with h2 | h2
      · exact .inl (by rw [h2]; exact withR_at _ _)
      · exact .inr (hs _ h2)

/-- The trails in memory: each has a chain of its own, that leads to the picture. -/
def Trails (n : Int) (cs : List Cm) (d : Dm) (hi : Bool) (p : Int) (base : Nat) (w : World) (l : List Trl) (k : Nat) : Prop :=
  ∀ t, t ∈ l → ∃ ch : List Int, w.ownsRow base 3 1 t.2 ch.length (ch.map iV) ∧ LeadsC cs d hi ch t.1 p ∧ ch.length ≤ k ∧ -1 ≤ t.1 ∧ t.1 < n
theorem own_tag {w : World} {base e sz n : Nat} {v : Value} {xs : List Value} (h : w.ownsRow base e sz v n xs) {g : Nat} (hg : v.ownBlock = some g) : ∃ cur, w.heap[g]? = some (.cells cur e (0, 0)) := by
  rcases h.2 with ⟨hv, h0⟩ | ⟨g', cap, cur, hv, hb, hgg, hr⟩
  · rw [hv] at hg
    simp [Value.ownBlock] at hg
  · rw [hv] at hg
    simp [Value.ownBlock] at hg
    subst hg
    exact ⟨cur, hgg⟩
theorem qu_tag {w : World} {base : Nat} {v : Value} {l : List Trl} (h : Qu w base v l) {g : Nat} (hg : v.ownBlock = some g) : ∃ cur, w.heap[g]? = some (.cells cur 126 (0, 0)) := by
  obtain ⟨g', o, cap, cur, rfl, hb, hgg, hr⟩ := h
  simp [Value.ownBlock] at hg
  subst hg
  exact ⟨cur, hgg⟩
theorem own_block_same {w w' : World} {base e sz n : Nat} {v : Value} {xs : List Value} (h : w.ownsRow base e sz v n xs) (hs : ∀ g, v.ownBlock = some g → w'.heap[g]? = w.heap[g]?) : w'.ownsRow base e sz v n xs := by
  refine ⟨h.1, ?_⟩
  rcases h.2 with h0 | ⟨g, cap, cur, hv, hb, hg, hr⟩
  · exact .inl h0
  · exact .inr ⟨g, cap, cur, hv, hb, (hs g (by rw [hv]; rfl)).trans hg, hr⟩
theorem Trails.below {n : Int} {cs : List Cm} {d : Dm} {hi : Bool} {p : Int} {base : Nat} {w w' : World} {l : List Trl} {k : Nat} (h : Trails n cs d hi p base w l k) (hb : Below w.heap.size w w') : Trails n cs d hi p base w' l k := fun t ht => by
  obtain ⟨ch, h1, h2⟩ := h t ht
  exact ⟨ch, row_kept h1 hb, h2⟩
theorem Trails.same {n : Int} {cs : List Cm} {d : Dm} {hi : Bool} {p : Int} {base : Nat} {w w' : World} {l : List Trl} {k : Nat} (h : Trails n cs d hi p base w l k) (hs : ∀ (k : Nat) (c : Array Value), w.heap[k]? = some (Obj.cells c 3 (0, 0)) → w'.heap[k]? = w.heap[k]?) : Trails n cs d hi p base w' l k := fun t ht => by
  obtain ⟨ch, h1, h2⟩ := h t ht
  refine ⟨ch, own_block_same h1 fun g hgo => ?_, h2⟩
  obtain ⟨c, e⟩ := own_tag h1 hgo
  exact hs g c e
theorem Trails.grown {n : Int} {cs : List Cm} {d : Dm} {hi : Bool} {p : Int} {base : Nat} {w w' : World} {v : Value} {l m : List Trl} {k : Nat} (h : Trails n cs d hi p base w l k) (hq : Qu w base v m) (hg : w.grownBy w' v.ownBlock) : Trails n cs d hi p base w' l k := fun t ht => by
  obtain ⟨ch, h1, h2⟩ := h t ht
  refine ⟨ch, own_block_same h1 fun g hgo => hg.block g (own_lt h1 hgo).2 fun e => ?_, h2⟩
  obtain ⟨c1, e1⟩ := own_tag h1 hgo
  obtain ⟨c2, e2⟩ := qu_tag hq e.symm
  rw [e1] at e2
  cases e2
theorem Trails.sub {n : Int} {cs : List Cm} {d : Dm} {hi : Bool} {p : Int} {base : Nat} {w : World} {l m : List Trl} {k k' : Nat} (h : Trails n cs d hi p base w l k) (hm : ∀ t, t ∈ m → t ∈ l) (hk : k ≤ k') : Trails n cs d hi p base w m k' := fun t ht => by
  obtain ⟨ch, h1, h2, h3, h4⟩ := h t (hm t ht)
  exact ⟨ch, h1, h2, Nat.le_trans h3 hk, h4⟩
/-- The nine flags. -/
def bits9 (R : Nat → Bool) : Array Value := ((List.range 9).map fun k => Value.bool (R k)).toArray
theorem bits_set (R : Nat → Bool) {x : Nat} (hx : x < 9) : (bits9 R).setIfInBounds x (.bool true) = bits9 (withR R x) := by
  apply Array.ext
  · simp [bits9]
  · intro i h1 h2
    have hi : i < 9 := by simpa [bits9] using h1
    rw [Array.getElem_setIfInBounds (by simpa [bits9] using hi)]
    by_cases h : x = i
    · subst h
      simp [bits9, withR]
    · have : (i == x) = false := by rw [beq_eq_false_iff_ne]; exact fun e => h e.symm
      simp [bits9, withR, h, this]
theorem bits_get (R : Nat → Bool) {x : Nat} (hx : x < 9) : (bits9 R)[x]? = some (.bool (R x)) := by simp [bits9, hx]
/-- How many flags are set in memory; how long a slice is. -/
def cntB (w : World) (b : Nat) : Nat := (List.range 9).countP fun k => match w.cell? ⟨b, k, none⟩ with | some (.bool true) => true | _ => false
def lenV : Value → Nat
  | .slice _ n _ => n
  | _ => 0
theorem cnt_bits {w : World} {b : Nat} {R : Nat → Bool} {t : TypeId} (h : w.heap[b]? = some (.cells (bits9 R) t (0, 0))) : cntB w b = cardR R := by
  unfold cntB cardR
  refine List.countP_congr fun k hk => ?_
  have hk9 : k < 9 := by simpa using hk
  rw [cell_of_row w b k _ _ _ h, bits_get R hk9]
  cases R k <;> simp
end Go.Proofs.Ytplmlmmjfkbabaa
