/- The ranges of rates, band by band: plain facts, and a row of ranges of which one is written. No condition. A region that reads first, and writes at its end, within a round of a range over a function. No condition. A region of which two operations may come in either order behind all others that are read first, within a round of a range over a function and without. No condition. -/
import Derived.Test.YtfijaafkagcmmaaV
import Derived.Test.YtfijaafkagcmmaaT
import Derived.StillTailTactics
namespace Go.Proofs.Ytfijaafkagcmmaa
open Go.RowKit Go.Shelf

theorem rangesL_len (al : List (List Int)) (n : Nat) : (rangesL al n).length = n := by simp [rangesL]
theorem rangesL_rg {al : List (List Int)} {n i : Nat} (h : i < n) : rg (rangesL al n) i = ⟨lowR al i, highR al i⟩ := by simp [rg, rangesL, h]
theorem rangesL_succ (al : List (List Int)) (n : Nat) : rangesL al (n + 1) = rangesL al n ++ [⟨lowR al n, highR al n⟩] := by simp [rangesL, List.range_succ]
theorem lowR_one (t : List Int) (i : Int) : lowR [t] i = rt t i ∧ highR [t] i = rt t i := by simp [lowR, highR, leastL, greatL]
theorem lowR_snoc {pre : List (List Int)} (h : pre ≠ []) (t : List Int) (i : Int) : lowR (pre ++ [t]) i = min (lowR pre i) (rt t i) ∧ highR (pre ++ [t]) i = max (highR pre i) (rt t i) := by
  unfold lowR highR
  rw [List.map_append]
  exact ⟨leastL_snoc _ (by simpa using h) _, greatL_snoc _ (by simpa using h) _⟩

/-- While rates are taken in: the first bands are done. -/
def mixL (pre : List (List Int)) (t : List Int) (n b : Nat) : List Rg := rangesL (pre ++ [t]) b ++ (if pre = [] then [] else (rangesL pre n).drop b)
theorem mixL_len {pre : List (List Int)} {t : List Int} {n b : Nat} (hb : b ≤ n) : (mixL pre t n b).length = if pre = [] then b else n := by
  unfold mixL
  rw [List.length_append, rangesL_len]
  split <;> simp [rangesL_len]
  omega
theorem mixL_zero (pre : List (List Int)) (t : List Int) (n : Nat) : mixL pre t n 0 = if pre = [] then [] else rangesL pre n := by
  unfold mixL
  simp [rangesL]
theorem mixL_all (pre : List (List Int)) (t : List Int) (n : Nat) : mixL pre t n n = rangesL (pre ++ [t]) n := by
  unfold mixL
  have : (rangesL pre n).drop n = [] := by rw [List.drop_eq_nil_iff, rangesL_len]; exact Nat.le_refl _
  rw [this]
  simp
theorem mixL_first (t : List Int) (n b : Nat) : mixL [] t n (b + 1) = mixL [] t n b ++ [⟨rt t b, rt t b⟩] := by
  unfold mixL
  simp only [List.nil_append, if_true, List.append_nil]
  rw [rangesL_succ, (lowR_one t b).1, (lowR_one t b).2]
theorem mixL_first_rg (t : List Int) (n b : Nat) : rg (mixL [] t n (b + 1)) b = ⟨rt t b, rt t b⟩ ∧ (mixL [] t n (b + 1)).set b ⟨rt t b, rt t b⟩ = mixL [] t n (b + 1) := by
  have hl : (mixL [] t n b).length = b := by
    unfold mixL
    simp [rangesL_len]
  rw [mixL_first]
  constructor
  · simp [rg, hl]
  · rw [List.set_append]
    simp [hl]
theorem mixL_next {pre : List (List Int)} (h : pre ≠ []) (t : List Int) {n b : Nat} (hb : b < n) :
    rg (mixL pre t n b) b = ⟨lowR pre b, highR pre b⟩ ∧ (mixL pre t n b).set b ⟨min (lowR pre b) (rt t b), max (highR pre b) (rt t b)⟩ = mixL pre t n (b + 1) := by
  have hl : (rangesL (pre ++ [t]) b).length = b := rangesL_len _ _
  have hd : (rangesL pre n).drop b = ⟨lowR pre b, highR pre b⟩ :: (rangesL pre n).drop (b + 1) := by
    have hbl : b < (rangesL pre n).length := by rw [rangesL_len]; exact hb
    rw [List.drop_eq_getElem_cons hbl]
    congr 1
    simp [rangesL]
  unfold mixL
  rw [if_neg h, hd]
  constructor
  · simp only [rg]
    rw [List.getElem?_append_right (by omega), hl, Nat.sub_self]
    simp
  · rw [List.set_append, hl, if_neg (Nat.lt_irrefl b), Nat.sub_self, List.set_cons_zero, rangesL_succ, (lowR_snoc h t b).1, (lowR_snoc h t b).2, if_neg h]
    simp

theorem flatR_set : ∀ (l : List Rg) (b : Nat) (r : Rg), b < l.length → ((flatR l).set (b * 2) (.int .i64 r.lo)).set (b * 2 + 1) (.int .i64 r.hi) = flatR (l.set b r)
  | [], b, r, h => by simp at h
  | a :: l, 0, r, _ => by simp [flatR]
  | a :: l, b + 1, r, h => by
    have ih := flatR_set l b r (by simpa using h)
    have hc : ∀ (a : Rg) (l : List Rg), flatR (a :: l) = .int .i64 a.lo :: .int .i64 a.hi :: flatR l := fun _ _ => rfl
    have e1 : (b + 1) * 2 = b * 2 + 1 + 1 := by omega
    rw [e1, hc, List.set_cons_succ, List.set_cons_succ, List.set_cons_succ, List.set_cons_succ, ih, List.set_cons_succ, hc]

/-- One range of a row is written. -/
theorem own_set {W : World} {base g cap : Nat} {l : List Rg} (h : W.ownsRow base 50 2 (.slice (some ⟨g, 0, none⟩) l.length cap) l.length (flatR l)) (b : Nat) (r : Rg) (hb : b < l.length) :
    ((W.setCell ⟨g, b * 2, none⟩ (.int .i64 r.lo)).setCell ⟨g, b * 2 + 1, none⟩ (.int .i64 r.hi)).ownsRow base 50 2 (.slice (some ⟨g, 0, none⟩) l.length cap) l.length (flatR (l.set b r)) := by
  refine ⟨by rw [flatR_len]; simp, .inr ?_⟩
  rcases h.2 with ⟨hv, _⟩ | ⟨g', cap', cur, hv, hbg, hgg, hn, hm, hs, ht⟩
  · simp at hv
  · simp only [Value.slice.injEq, Option.some.injEq, Addr.mk.injEq, and_true, true_and] at hv
    obtain ⟨rfl, rfl⟩ := hv
    have h1 := heap_setCell_same W g (b * 2) _ 50 (.int .i64 r.lo) hgg
    have h2 := heap_setCell_same _ g (b * 2 + 1) _ 50 (.int .i64 r.hi) h1
    refine ⟨g, cap, _, rfl, hbg, h2, hn, hm, by simpa using hs, ?_⟩
    rw [← flatR_set l b r hb, ← ht]
    simp only [Array.toList_setIfInBounds]
    rw [List.take_set, List.take_set]
theorem own_head {W : World} {base : Nat} {v : Value} {l : List Rg} (h : W.ownsRow base 50 2 v l.length (flatR l)) (hp : 0 < l.length) :
    ∃ g cap, v = .slice (some ⟨g, 0, none⟩) l.length cap ∧ base ≤ g ∧ g < W.heap.size ∧ ∀ b, b < l.length → W.cell? ⟨g, b * 2, none⟩ = some (.int .i64 (rg l b).lo) ∧ W.cell? ⟨g, b * 2 + 1, none⟩ = some (.int .i64 (rg l b).hi) ∧ W.frozen? ⟨g, b * 2, none⟩ = false ∧ W.frozen? ⟨g, b * 2 + 1, none⟩ = false := by
  rcases h.2 with ⟨hv, h0⟩ | ⟨g, cap, cur, hv, hbg, hgg, hn, hm, hs, ht⟩
  · omega
  · refine ⟨g, cap, hv, hbg, lt_of_block hgg, fun b hb => ?_⟩
    have hget : ∀ j, j < l.length * 2 → W.cell? ⟨g, j, none⟩ = (flatR l)[j]? := fun j hj => by
      have h1 : (cur.toList.take (l.length * 2))[j]? = (flatR l)[j]? := by rw [ht]
      rw [List.getElem?_take_of_lt hj] at h1
      rw [cell_of_row W g j _ _ _ hgg, ← Array.getElem?_toList, h1]
    have h2 := flatR_get l b hb
    exact ⟨(hget _ (by omega)).trans h2.1, (hget _ (by omega)).trans h2.2, frozen_of_row W g _ _ _ hgg, frozen_of_row W g _ _ _ hgg⟩
theorem ownsRow_mono {w : World} {b b' : Nat} {e : TypeId} {size : Nat} {v : Value} {n : Nat} {xs : List Value} (hb : b ≤ b') (h : w.ownsRow b' e size v n xs) : w.ownsRow b e size v n xs :=
  ⟨h.1, h.2.elim .inl fun ⟨g, cap, cur, h1, h2, h3⟩ => .inr ⟨g, cap, cur, h1, Nat.le_trans hb h2, h3⟩⟩
theorem own_same {W W' : World} {base : Nat} {v : Value} {l : List Value} {n : Nat} (h : W.ownsRow base 50 2 v n l) (hs : ∀ g, v.ownBlock = some g → W'.heap[g]? = W.heap[g]?) : W'.ownsRow base 50 2 v n l := by
  refine ⟨h.1, ?_⟩
  rcases h.2 with h0 | ⟨g, cap, cur, hv, hbg, hgg, hr⟩
  · exact .inl h0
  · exact .inr ⟨g, cap, cur, hv, hbg, (hs g (by rw [hv]; rfl)).trans hgg, hr⟩
end Go.Proofs.Ytfijaafkagcmmaa
namespace Go.Proofs.Ytfijaafkagcmmaa
open Go.RowKit
variable {P : Program} {Q : Exit → Act → World → Prop}

theorem wpIn_region_still_tail_round {l0 id : Nat} {a : Act} {w : World} {l : List Oper} (n : Nat) (hlo : ¬ LetsOut Q) (hm : P.follows .mixedOrders = true) (hB : (Region.lexTailB .any l.toArray n && noDefer l.toArray) = true)
    (h : wpStill P l.toArray { w with drawn := w.drawn + 1 } (fun a' => wpList P l.toArray Q (l.drop n) a' { w with drawn := w.drawn + 1 }) (l.take n) a) : (Code.region id l.toArray true).wpIn (Fence.wide.inRound l0) 0 P Q a w := by
  simp only [Region.lexTailB, Bool.and_eq_true, decide_eq_true_eq] at hB
  obtain ⟨⟨⟨⟨⟨hsel, hn⟩, hs⟩, hc⟩, hlex⟩, hd⟩ := hB
  have hn' : n < l.length := by simpa using hn
  have htl : (l.take n).length = n := by simp; omega
  have hdl : (l.drop n).length = l.toArray.size - n := by simp
  have inv0 : HeadInv .any l.toArray n (Array.replicate l.toArray.size false) :=
    ⟨by simp, fun j oj _ hl => (by rw [getD_replicate_false] at hl; cases hl), fun t _ ht => getD_in (by simpa using ht) (getD_replicate_false _ _)⟩
  have H := wpAnyL_lex (md := .any) (g := l.toArray.size - n) hsel hs hc hn (l.take n) 0 _ a (fun j hj => by
    have hj' : j < n := by rw [htl] at hj; exact hj
    simp [hj']) (by simpa using htl) inv0 (by rw [htl]; exact hlex) h
  refine wpIn_region_any hm (wpAny_round hd hlo _ _ _ _ ?_)
  have := wpAny_of_head (Q' := Q) (g := l.toArray.size - n) (fun listed a' hL => by
    have := wpAny_of_seq (md := .any) (Q' := Q) (l.drop n) n listed a' { w with drawn := w.drawn + 1 } (fun j => by simp [List.getElem?_drop]) (by rw [hdl]; exact hL.1) hL.2
    rwa [hdl] at this) _ _ _ H
  rw [htl, show n + (l.toArray.size - n) = l.toArray.size by omega] at this
  exact this
end Go.Proofs.Ytfijaafkagcmmaa
namespace Go.Proofs.Ytfijaafkagcmmaa
open Go.RowKit
variable {P : Program} {ops : Array Oper} {Q : Exit → Act → World → Prop}

theorem tail_step {S : World → Prop} (τ : List Nat) (i : Nat) (L : Array Bool) (a : Act) (w : World) (hB : tailB ops τ (setL L i) = true) (hS : S w) (h : Tail P ops S Q (i :: τ) a w) :
    wpOp P ops Q i (fun a' w' => S w' ∧ wpAnyH P .any ops Q S τ.length (L.setIfInBounds i true) a' w') a w := by
  obtain ⟨o, ho, hw, h⟩ := h
  unfold wpOp
  simp only [ho]
  rw [if_pos hw]
  refine .inl ?_
  unfold Oper.wp
  rcases h with ⟨v, hr, h⟩ | ⟨w', hr, hS', h⟩ | ⟨v, w', hr, hS', h⟩
  · rw [hr]; exact ⟨hS, tail_any τ _ _ _ hB hS h⟩
  · rw [hr]; exact ⟨hS', tail_any τ _ _ _ hB hS' h⟩
  · rw [hr]; exact ⟨hS', tail_any τ _ _ _ hB hS' h⟩

/-- All of σ first, then i and j in either order. -/
def forkB (ops : Array Oper) (i j : Nat) (τ1 τ2 : List Nat) : List (Bool × Nat) → Array Bool → Bool
  | [], L => (Region.ready .any ops L == [i, j]) && tailB ops τ1 (setL L i) && tailB ops τ2 (setL L j) && (τ1.length == τ2.length)
  | (false, k) :: σ, L => (Region.free .any ops L k) && ((Region.ready .any ops L).contains k) && forkB ops i j τ1 τ2 σ (setL L k)
  | (true, _) :: _, _ => false

theorem walk_fork {S : World → Prop} (hs : Region.noSelect ops = true) (hQ : ∀ c a d v w, Q (.panic c) (a.put d v) w → Q (.panic c) a w) (i j : Nat) (τ1 τ2 : List Nat) :
    ∀ (σ : List (Bool × Nat)) (L : Array Bool) (a : Act) (w : World), forkB ops i j τ1 τ2 σ L = true → S w →
      Walk P ops S (fun a' w' => S w' → Tail P ops S Q (i :: τ1) a' w' ∧ Tail P ops S Q (j :: τ2) a' w') σ a w →
      wpAnyH P .any ops Q S (σ.length + τ1.length + 1) L a w
  | [], L, a, w, hB, hS, hW => by
    simp only [forkB, Bool.and_eq_true] at hB
    obtain ⟨⟨⟨hr, h1⟩, h2⟩, h3⟩ := hB
    obtain ⟨t1, t2⟩ := hW w (Below.refl _ _) hS
    have hl : τ1.length = τ2.length := by simpa using h3
    rw [show ([] : List (Bool × Nat)).length + τ1.length + 1 = τ1.length + 1 by simp]
    refine wpAnyH_all (eq_of_beq hr) (by simp) fun k hk => ?_
    rcases (by simpa using hk : k = i ∨ k = j) with rfl | rfl
    · exact tail_step τ1 k L a w h1 hS t1
    · rw [hl]; exact tail_step τ2 k L a w h2 hS t2
  | (false, k) :: σ, L, a, w, hB, hS, hW => by
    simp only [forkB, Bool.and_eq_true] at hB
    obtain ⟨⟨hf, hr⟩, hB'⟩ := hB
    obtain ⟨o, v, ho, hy, hw⟩ := hW
    have ih := walk_fork hs hQ i j τ1 τ2 σ (setL L k) (a.put o.dst v) w hB' hS hw
    have := wpAnyH_take (md := .any) (Q := Q) (S := S) (fuel := σ.length + τ1.length + 1) (listed := L) (w := w) ho hs hf hr (fun c a w h => hQ c a _ _ w h) hy hS ih
    rw [show ((false, k) :: σ).length + τ1.length + 1 = σ.length + τ1.length + 1 + 1 by simp; omega]
    exact this
  | (true, _) :: _, _, _, _, hB, _, _ => by simp [forkB] at hB

theorem wpIn_region_fork_round {l : Nat} (S : World → Prop) {id : Nat} {a : Act} {w : World} (hlo : ¬ LetsOut Q) (hS0 : S { w with drawn := w.drawn + 1 }) (hm : P.follows .mixedOrders = true) (hQ : ∀ c a d v w, Q (.panic c) (a.put d v) w → Q (.panic c) a w)
    (σ : List (Bool × Nat)) (i j : Nat) (τ1 τ2 : List Nat)
    (hB : (Region.noSelect ops && forkB ops i j τ1 τ2 σ (Array.replicate ops.size false) && (ops.size == σ.length + τ1.length + 1) && noDefer ops) = true)
    (h : Walk P ops S (fun a' w' => S w' → Tail P ops S Q (i :: τ1) a' w' ∧ Tail P ops S Q (j :: τ2) a' w') σ a { w with drawn := w.drawn + 1 }) :
    (Code.region id ops true).wpIn (Fence.wide.inRound l) 0 P Q a w := by
  simp only [Bool.and_eq_true] at hB
  obtain ⟨⟨⟨hs, hf⟩, hz⟩, hd⟩ := hB
  have hz' : ops.size = σ.length + τ1.length + 1 := by simpa using hz
  refine wpIn_region_any hm (wpAny_round hd hlo _ _ _ _ (wpAny_of_held (S := S) _ _ _ _ ?_))
  have := walk_fork (Q := Q) (P := P) (ops := ops) hs hQ i j τ1 τ2 σ (Array.replicate ops.size false) a { w with drawn := w.drawn + 1 } hf hS0 h
  rw [← hz'] at this
  exact this
/-- Only the normal way out is left. -/
theorem wpIn_region_only {F : Fence} {n' id : Nat} {a : Act} {w : World} {o : Array Oper} {m : Bool}
    (h : (Code.region id o m).wpIn F n' P (Exit.then (fun a w => Q .normal a w) (fun _ _ _ => False)) a w) : (Code.region id o m).wpIn F n' P Q a w :=
  wpIn_mono h fun e a w hh => by
    cases e with
    | normal => exact hh
    | _ => exact hh.elim
end Go.Proofs.Ytfijaafkagcmmaa
