/- What two ranges have in common, and the ranges of which nothing is known, by the reference. No condition. One range of a row of ranges is set; the ranges stay small within a pass. No condition. The width of a row of ranges in memory, as a measure. No condition. -/
import Derived.Test.YtplmlmmjfkbabaaX
import Derived.Test.YtplmlmmjfkbabaaRCJ
namespace Go.Proofs.Ytplmlmmjfkbabaa
open Go.RowKit
attribute [local irreducible] arrV wpQuiet mat shl

set_option maxHeartbeats 400000 in
theorem rcut_any (lo hi lo2 hi2 : Int) (w : World) :
    Calls Try.prog 63 #[.agg #[.int .i64 lo, .int .i64 hi], .agg #[.int .i64 lo2, .int .i64 hi2]] w fun e w' => e = .returned (.agg #[.int .i64 (max lo lo2), .int .i64 (min hi hi2)]) ∧ Below w.heap.size w w' := by
  go_enter Try.func63, Try.ntmps63
  go_wp2
  all_goals
    refine bodyPost_ret (v := .agg #[.int .i64 (max lo lo2), .int .i64 (min hi hi2)]) ?_ rfl ⟨rfl, below3 _ _ _ _⟩
    simp [results, Try.results63, go_sem]
    try omega
theorem free_snoc (q : Nat) : flatR (freeL (q + 1)) = flatR (freeL q) ++ [.int .i64 0, .int .i64 100] := by
  rw [show freeL (q + 1) = freeL q ++ [⟨0, 100⟩] from List.replicate_succ', flatR_snoc]
set_option maxRecDepth 100000 in
set_option maxHeartbeats 4000000 in
theorem free_any (n : Nat) (v : Value) (w : World) (hn : n ≤ 8) :
    Calls Try.prog 51 #[.agg #[.int .i64 n, v]] w fun e w' => (∃ r, e = .returned r ∧ w'.ownsRow w.heap.size 43 2 r n (flatR (freeL n))) ∧ Below w.heap.size w w' := by
  have HX := Lib.hid (heap_alloc_new w (.cells #[.int .i64 n, v] 24))
  have HB := Lib.hid (box_below w (.cells #[.int .i64 n, v] 24))
  go_enter Try.func51, Try.ntmps51
  go_wp2
  generalize World.alloc w _ = W at *
  go_loopw [3, 4] (fun s i wr => ∃ q : Nat, q ≤ n ∧ i = .int .i64 q ∧ Hid (wr.heap[w.heap.size]? = some (.cells #[.int .i64 n, v] 24 (0, 0))) ∧ Hid (wr.ownsRow (w.heap.size + 1) 43 2 s q (flatR (freeL q))) ∧ Hid (Below w.heap.size w wr)) (fun _ i _ => n - (intOf i).toNat)
  case atStart => exact ⟨0, Nat.zero_le _, rfl, HX, Lib.hid (World.ownsRow_nil _ _ _ _), HB⟩
  case round =>
    clear HX HB
    obtain ⟨q, hq, rfl, HX, HO, HB⟩ := hrel
    have c0 := cell_of_row wr w.heap.size 0 _ _ _ HX.out
    simp only [List.getElem?_toArray, List.getElem?_cons_zero] at c0
    have l0 := lt_of_block HX.out
    by_cases hlt : q < n
    · have hqn : (q : Int) < n := by omega
      have hw9 : IntKind.i64.wrap ((q : Int) + 1) = (q : Int) + 1 := IntWalk.i64_in _ (by omega)
      have HSN := Lib.hid (free_snoc q)
      have hl1 : w.heap.size + 1 ≤ wr.heap.size := l0
      go_wp2_with (first
        | (refine wpList_app el37 rfl (.tmp 11) (.tmp 13) rfl (w.heap.size + 1) q _ _ #[.int .i64 0, .int .i64 100] rfl (by intro u hu; simp at hu; rcases hu with rfl | rfl <;> rfl) rfl rfl HO.out hl1 (by omega) ?_
           intro g c w2 hown hgr _
           have HO2 := Lib.hid hown
           have HX2 := Lib.hid ((hgr.below.block w.heap.size (by omega)).trans HX.out)
           have HB2 := Lib.hid (HB.out.trans (hgr.below.mono (by omega)))
           clear hown hgr)
        | fail)
      go_roundw
      case rel => exact ⟨q + 1, by omega, by simp, HX2, Lib.hid (by rw [HSN.out]; exact HO2.out), HB2⟩
      case measure => simp [intOf] <;> omega
    · obtain rfl : q = n := by omega
      go_wp2
      go_ret
      exact ⟨⟨_, rfl, ownsRow_mono (by omega) HO.out⟩, HB.out⟩
end Go.Proofs.Ytplmlmmjfkbabaa
namespace Go.Proofs.Ytplmlmmjfkbabaa
open Go.RowKit
attribute [local irreducible] arrV wpQuiet

theorem flatR_append (l m : List Rg) : flatR (l ++ m) = flatR l ++ flatR m := by simp [flatR]
theorem flatR_length (l : List Rg) : (flatR l).length = l.length * 2 := by
  induction l with
  | nil => rfl
  | cons a l ih => simp only [flatR, List.flatMap_cons, List.length_append, List.length_cons, List.length_nil] at ih ⊢; omega
theorem flatR_set (l : List Rg) (q : Nat) (c : Rg) (h : q < l.length) : flatR (l.set q c) = flatR (l.take q) ++ [.int .i64 c.lo, .int .i64 c.hi] ++ flatR (l.drop (q + 1)) := by
  rw [List.set_eq_take_append_cons_drop, if_pos h, flatR_append]
  simp [flatR]
/-- One range of a row of one's own is set. -/
theorem own_setR {w : World} {base g cap n q : Nat} {l : List Rg} (c : Rg) (hn : n = l.length) (h : w.ownsRow base 43 2 (.slice (some ⟨g, 0, none⟩) n cap) n (flatR l)) (hq : q < n) :
    (w.setCells g (q * 2) [.int .i64 c.lo, .int .i64 c.hi]).ownsRow base 43 2 (.slice (some ⟨g, 0, none⟩) n cap) n (flatR (l.set q c)) := by
  subst hn
  refine ⟨by rw [flatR_length, List.length_set], ?_⟩
  rcases h.2 with ⟨hv, _⟩ | ⟨g', c', cur, hv, hb, hg, hn', hc, hs, ht⟩
  · cases hv
  cases hv
  have hlen : (flatR l).length = l.length * 2 := flatR_length l
  obtain ⟨post, hpost⟩ : ∃ post, post = cur.toList.drop (l.length * 2) := ⟨_, rfl⟩
  have hcur : cur.toList = flatR l ++ post := by rw [hpost, ← ht, List.take_append_drop]
  have hself : flatR l = flatR (l.take q) ++ [.int .i64 l[q].lo, .int .i64 l[q].hi] ++ flatR (l.drop (q + 1)) := by
    have := flatR_set l q l[q] hq
    rwa [List.set_getElem_self] at this
  have hpl : (flatR (l.take q)).length = q * 2 := by rw [flatR_length, List.length_take]; omega
  have hset := set_list g 43 [.int .i64 c.lo, .int .i64 c.hi] (flatR (l.take q)) [.int .i64 l[q].lo, .int .i64 l[q].hi] (flatR (l.drop (q + 1)) ++ post) w rfl (by
    rw [← List.append_assoc, ← hself, ← hcur]
    exact hg)
  rw [hpl, ← List.append_assoc, ← flatR_set l q c hq] at hset
  have hl2 : (flatR (l.set q c)).length = l.length * 2 := by rw [flatR_length, List.length_set]
  have hsz : cur.size = (flatR l ++ post).length := by rw [← hcur]; simp
  refine .inr ⟨g, cap, _, rfl, hb, hset, hn', hc, ?_, ?_⟩
  · rw [List.length_append, hlen] at hsz
    simp only [List.size_toArray, List.length_append, hl2]
    omega
  · simp only [Array.toList]
    rw [List.take_append_of_le_length (by omega), List.take_of_length_le (by omega)]
theorem there_ownR {w : World} {base g cap n q : Nat} {xs : List Value} (h : w.ownsRow base 43 2 (.slice (some ⟨g, 0, none⟩) n cap) n xs) (hq : q < n) : w.there g (q * 2) 2 := by
  rcases h.2 with ⟨hv, _⟩ | ⟨g', c', cur, hv, hb, hg, hn', hc, hs, ht⟩
  · cases hv
  cases hv
  exact fun j hj => ⟨by rw [cell_of_row w g _ _ _ _ hg]; simp; omega, frozen_of_row w g _ _ _ hg⟩
/-- Small: behind q comparisons of a pass. -/
def SmallR (n q : Nat) (xs : List Rg) : Prop := ∀ p, p < n → 0 ≤ (rg xs p).lo ∧ (rg xs p).lo ≤ 100 + 100 * (q : Int) ∧ -100 * (q : Int) ≤ (rg xs p).hi ∧ (rg xs p).hi ≤ 100
theorem SmallR.start {cs : List Cm} {n : Nat} {R rs : List Rg} (h : Nar cs n R rs) (hR : ∀ p, p < n → 0 ≤ (rg R p).lo ∧ (rg R p).hi ≤ 100) (hne : ∀ p, p < n → (rg rs p).lo ≤ (rg rs p).hi) : SmallR n 0 rs := fun p hp => by
  have h1 := h.sub p hp
  have h2 := hR p hp
  have h3 := hne p hp
  omega
theorem SmallR.side {n q : Nat} {xs : List Rg} (h : SmallR n q xs) {c : Cm} (hc : InR n c) : 0 ≤ (sideR xs c.r).lo ∧ (sideR xs c.r).lo ≤ 100 + 100 * (q : Int) ∧ -100 * (q : Int) ≤ (sideR xs c.r).hi ∧ (sideR xs c.r).hi ≤ 100 := by
  unfold sideR
  split
  · rename_i hr
    exact h _ (hc.rn hr)
  · simp only
    omega
theorem SmallR.step {n q : Nat} {xs : List Rg} (h : SmallR n q xs) (hl : xs.length = n) {c : Cm} (hc : InR n c) (h1 : -100 ≤ c.lo ∧ c.lo ≤ c.hi ∧ c.hi ≤ 100) : SmallR n (q + 1) (cutR xs c) := fun p hp => by
  have hp0 := h p hp
  have hL := h _ hc.ln
  have hS := h.side hc
  rw [rg_cut hl hc]
  split
  · simp only [newL, capR]
    omega
  · split
    · rename_i e
      obtain ⟨hr, rfl⟩ := e
      simp only [newR, capR, if_pos hr]
      omega
    · omega
end Go.Proofs.Ytplmlmmjfkbabaa
namespace Go.Proofs.Ytplmlmmjfkbabaa
open Go.RowKit
attribute [local irreducible] arrV wpQuiet

theorem own_list {w : World} {base e sz n : Nat} {v : Value} {xs ys : List Value} (h1 : w.ownsRow base e sz v n xs) (h2 : w.ownsRow base e sz v n ys) : xs = ys := by
  rcases h1.2 with ⟨hv, h0⟩ | ⟨g, cap, cur, hv, hb, hg, hn', hc, hs, ht⟩
  · have e1 := h1.1
    have e2 := h2.1
    rw [h0, Nat.zero_mul] at e1 e2
    rw [List.eq_nil_of_length_eq_zero e1, List.eq_nil_of_length_eq_zero e2]
  · rcases h2.2 with ⟨hv2, h0⟩ | ⟨g', cap', cur', hv', hb', hg', hn2, hc', hs', ht'⟩
    · rw [hv] at hv2
      cases hv2
    · rw [hv] at hv'
      cases hv'
      rw [hg] at hg'
      cases hg'
      rw [← ht, ht']
theorem flatR_inj : ∀ {xs ys : List Rg}, flatR xs = flatR ys → xs = ys
  | [], [], _ => rfl
  | [], b :: m, h => by simp [flatR] at h
  | a :: l, [], h => by simp [flatR] at h
  | a :: l, b :: m, h => by
    simp only [flatR, List.flatMap_cons, List.cons_append, List.nil_append, List.cons.injEq, Value.int.injEq, true_and] at h
    obtain ⟨h1, h2, h3⟩ := h
    rw [flatR_inj (xs := l) (ys := m) h3]
    cases a
    cases b
    simp only at h1 h2
    rw [h1, h2]
open Classical in
noncomputable def widOf (w : World) (base : Nat) (v : Value) (n : Nat) : Nat := if h : ∃ xs, w.ownsRow base 43 2 v n (flatR xs) then widR h.choose else 0
theorem widOf_eq {w : World} {base n : Nat} {v : Value} {xs : List Rg} (h : w.ownsRow base 43 2 v n (flatR xs)) : widOf w base v n = widR xs := by
  have hex : ∃ xs, w.ownsRow base 43 2 v n (flatR xs) := ⟨xs, h⟩
  unfold widOf
  rw [dif_pos hex, flatR_inj (own_list hex.choose_spec h)]
/-- One where a flag is set. -/
def flagN : Value → Nat
  | .bool true => 1
  | _ => 0
theorem wid_pass {a b : Nat} {x : Bool} (h1 : a ≤ b) (h2 : x = true → a < b) : a + flagN (.bool x) < b + 1 := by
  cases x with
  | true => have := h2 rfl; simp only [flagN]; omega
  | false => simp only [flagN]; omega
end Go.Proofs.Ytplmlmmjfkbabaa
