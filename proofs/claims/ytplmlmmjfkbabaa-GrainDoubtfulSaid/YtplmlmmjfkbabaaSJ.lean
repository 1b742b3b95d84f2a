/- What the search for doubtful comparisons keeps in memory. No condition. -/
import Derived.Test.YtplmlmmjfkbabaaSI
import Derived.Test.YtplmlmmjfkbabaaRQ
namespace Go.Proofs.Ytplmlmmjfkbabaa
open Go.RowKit Go.Shelf
attribute [local irreducible] arrV wpQuiet mat shl

def pz (k : Nat) : Value := .pointer (some ⟨k, 0, none⟩)
def closV (z : Nat) : Value := .func (.func 85) #[] #[pz (z + 1), pz (z + 3), pz z, pz (z + 2), pz (z + 4)]
/-- What may change: the three variables, and the row of the list of those left out. -/
def TS (z : Nat) (sl : Value) : Nat → Prop := fun k => k = z + 1 ∨ k = z + 2 ∨ k = z + 3 ∨ sl.ownBlock = some k
structure LookW (z : Nat) (n : Int) (av : Value) (cs : List Cm) (W : World) (outL f : List Int) (m : Int) (sl fv : Value) : Prop where
  ha : W.heap[z]? = some (.cells #[.int .i64 n, av] 31 (0, 0))
  ho : W.heap[z + 1]? = some (.cells #[sl] 50 (0, 0))
  hf : W.heap[z + 2]? = some (.cells #[fv] 50 (0, 0))
  hm : W.heap[z + 3]? = some (.cells #[.int .i64 m] 3 (0, 0))
  hl : W.heap[z + 4]? = some (.cells #[closV z] 132 (0, 0))
  out : W.ownsRow (z + 5) 3 1 sl outL.length (outL.map iV)
  few : W.ownsRow (z + 5) 3 1 fv f.length (f.map iV)
  apart : ∀ k, sl.ownBlock = some k → fv.ownBlock ≠ some k
  cms : CmsV z W av cs
theorem own_put {w : World} {base e sz n b j : Nat} {v u : Value} {xs : List Value} (h : w.ownsRow base e sz v n xs) (hb : b < base) : (w.setCell ⟨b, j, none⟩ u).ownsRow base e sz v n xs :=
  own_same h fun g hg _ => heap_setCell_other w ⟨b, j, none⟩ g u (by show g ≠ b; omega)
theorem cms_put {m b j : Nat} {w : World} {v u : Value} {cs : List Cm} (h : CmsV m w v cs) (hb : m ≤ b) : CmsV m (w.setCell ⟨b, j, none⟩ u) v cs :=
  h.same fun k hk => heap_setCell_other w ⟨b, j, none⟩ k u (by show k ≠ b; omega)
theorem LookW.below {z : Nat} {n : Int} {av : Value} {cs : List Cm} {W W' : World} {outL f : List Int} {m : Int} {sl fv : Value} (h : LookW z n av cs W outL f m sl fv) (hb : Below W.heap.size W W') : LookW z n av cs W' outL f m sl fv :=
  ⟨(hb.block _ (lt_of_block h.ha)).trans h.ha, (hb.block _ (lt_of_block h.ho)).trans h.ho, (hb.block _ (lt_of_block h.hf)).trans h.hf, (hb.block _ (lt_of_block h.hm)).trans h.hm, (hb.block _ (lt_of_block h.hl)).trans h.hl, row_kept h.out hb, row_kept h.few hb, h.apart, h.cms.same fun k hk => hb.block k (Nat.lt_trans hk (lt_of_block h.ha))⟩
theorem LookW.push {z : Nat} {n : Int} {av : Value} {cs : List Cm} {W w' : World} {outL f : List Int} {m q : Int} {sl fv : Value} {g c : Nat} (h : LookW z n av cs W outL f m sl fv)
    (ho : w'.ownsRow (z + 5) 3 1 (.slice (some ⟨g, 0, none⟩) (outL.length + 1) c) (outL.length + 1) (outL.map iV ++ [.int .i64 q])) (hg : Grew (z + 5) W w' sl) (hgr : sl.ownBlock = some g ∨ W.heap.size ≤ g) :
    LookW z n av cs (w'.setCell ⟨z + 1, 0, none⟩ (.slice (some ⟨g, 0, none⟩) (outL.length + 1) c)) (outL ++ [q]) f m (.slice (some ⟨g, 0, none⟩) (outL.length + 1) c) fv ∧
    But (TS z sl) W (w'.setCell ⟨z + 1, 0, none⟩ (.slice (some ⟨g, 0, none⟩) (outL.length + 1) c)) := by
  have hlow : ∀ k, k < z + 5 → w'.heap[k]? = W.heap[k]? := fun k hk => hg.below.block k hk
  have hset : ∀ k, k ≠ z + 1 → (w'.setCell ⟨z + 1, 0, none⟩ (.slice (some ⟨g, 0, none⟩) (outL.length + 1) c)).heap[k]? = w'.heap[k]? := fun k hk => heap_setCell_other w' ⟨z + 1, 0, none⟩ k _ hk
  have hcell := heap_setCell_same w' (z + 1) 0 _ 50 (.slice (some ⟨g, 0, none⟩) (outL.length + 1) c) ((hlow _ (by omega)).trans h.ho)
  have hgw : g < w'.heap.size := (own_lt ho rfl).2
  have hfew : w'.ownsRow (z + 5) 3 1 fv f.length (f.map iV) := by
    refine ⟨h.few.1, ?_⟩
    rcases h.few.2 with h2 | ⟨k, c', cur, rfl, hbk, hk, hr⟩
    · exact .inl h2
    · exact .inr ⟨k, c', cur, rfl, hbk, (hg.block k (lt_of_block hk) (fun e => h.apart k e rfl)).trans hk, hr⟩
  refine ⟨⟨(hset _ (by omega)).trans ((hlow _ (by omega)).trans h.ha), by simpa using hcell, (hset _ (by omega)).trans ((hlow _ (by omega)).trans h.hf), (hset _ (by omega)).trans ((hlow _ (by omega)).trans h.hm), (hset _ (by omega)).trans ((hlow _ (by omega)).trans h.hl),
    own_put (by simpa [iV] using ho) (by omega), own_put hfew (by omega), fun k hk => ?_, cms_put (h.cms.same fun k hk => hlow k (by omega)) (by omega)⟩, ?_⟩
  · simp only [Value.ownBlock, Option.some.injEq] at hk
    subst hk
    rcases hgr with e | e
    · exact h.apart _ e
    · intro e2
      have := (own_lt h.few e2).2
      omega
  · refine ⟨hg.below.os, hg.below.tape, hg.below.output, ?_, fun k hk hn => ?_⟩
    · have := hg.below.size
      simpa [World.setCell] using this
    · rw [hset k (fun e => hn (.inl e))]
      exact hg.block k hk (fun e => hn (.inr (.inr (.inr e))))
theorem LookW.pop {z : Nat} {n : Int} {av : Value} {cs : List Cm} {W : World} {outL f : List Int} {m q : Int} {ad : Option Addr} {c : Nat} {fv : Value} (h : LookW z n av cs W (outL ++ [q]) f m (.slice ad (outL.length + 1) c) fv) :
    LookW z n av cs (W.setCell ⟨z + 1, 0, none⟩ (.slice ad outL.length c)) outL f m (.slice ad outL.length c) fv := by
  have hset : ∀ k, k ≠ z + 1 → (W.setCell ⟨z + 1, 0, none⟩ (.slice ad outL.length c)).heap[k]? = W.heap[k]? := fun k hk => heap_setCell_other W ⟨z + 1, 0, none⟩ k _ hk
  have hcell := heap_setCell_same W (z + 1) 0 _ 50 (.slice ad outL.length c) h.ho
  refine ⟨(hset _ (by omega)).trans h.ha, by simpa using hcell, (hset _ (by omega)).trans h.hf, (hset _ (by omega)).trans h.hm, (hset _ (by omega)).trans h.hl, own_put ?_ (by omega), own_put h.few (by omega), fun k hk => h.apart k ?_, cms_put h.cms (by omega)⟩
  · refine ⟨by simp, ?_⟩
    rcases h.out.2 with ⟨hv, h0⟩ | ⟨g, c', cur, hv, hbk, hk, hn, hc, hs, ht⟩
    · simp at h0
    · simp only [Value.slice.injEq] at hv
      obtain ⟨rfl, -, rfl⟩ := hv
      refine .inr ⟨g, c, cur, rfl, hbk, hk, ?_, hc, hs, ?_⟩
      · simp only [List.length_append, List.length_cons, List.length_nil] at hn; omega
      · have := congrArg (List.take outL.length) ht
        simp only [List.map_append, List.length_append, List.length_cons, List.length_nil, Nat.mul_one, Nat.zero_add] at this
        rw [List.take_take, Nat.min_eq_left (by omega), List.take_append_of_le_length (by simp)] at this
        rw [List.take_of_length_le (by simp : (outL.map iV).length ≤ outL.length)] at this
        simpa using this
  · cases ad with
    | none => simp [Value.ownBlock] at hk
    | some x => simpa [Value.ownBlock] using hk
theorem LookW.found {z : Nat} {n : Int} {av : Value} {cs : List Cm} {W W' : World} {outL f : List Int} {m : Int} {sl fv r : Value} (h : LookW z n av cs W outL f m sl fv) (hb : Below W.heap.size W W')
    (hr : W'.ownsRow W.heap.size 3 1 r outL.length (outL.map iV)) :
    LookW z n av cs ((W'.setCell ⟨z + 2, 0, none⟩ r).setCell ⟨z + 3, 0, none⟩ (.int .i64 outL.length)) outL outL outL.length sl r ∧ But (TS z sl) W ((W'.setCell ⟨z + 2, 0, none⟩ r).setCell ⟨z + 3, 0, none⟩ (.int .i64 outL.length)) := by
  have hz := lt_of_block h.hl
  have h' := h.below hb
  have s1 : ∀ k, k ≠ z + 2 → (W'.setCell ⟨z + 2, 0, none⟩ r).heap[k]? = W'.heap[k]? := fun k hk => heap_setCell_other W' ⟨z + 2, 0, none⟩ k _ hk
  have s2 : ∀ k, k ≠ z + 3 → ((W'.setCell ⟨z + 2, 0, none⟩ r).setCell ⟨z + 3, 0, none⟩ (.int .i64 outL.length)).heap[k]? = (W'.setCell ⟨z + 2, 0, none⟩ r).heap[k]? := fun k hk => heap_setCell_other _ ⟨z + 3, 0, none⟩ k _ hk
  have c1 := heap_setCell_same W' (z + 2) 0 _ 50 r h'.hf
  have c2 := heap_setCell_same (W'.setCell ⟨z + 2, 0, none⟩ r) (z + 3) 0 _ 3 (.int .i64 outL.length) ((s1 _ (by omega)).trans h'.hm)
  have hrr : W'.ownsRow (z + 5) 3 1 r outL.length (outL.map iV) := ownsRow_mono (by omega) hr
  refine ⟨⟨(s2 _ (by omega)).trans ((s1 _ (by omega)).trans h'.ha), (s2 _ (by omega)).trans ((s1 _ (by omega)).trans h'.ho), (s2 _ (by omega)).trans (by simpa using c1), by simpa using c2, (s2 _ (by omega)).trans ((s1 _ (by omega)).trans h'.hl),
    own_put (own_put h'.out (by omega)) (by omega), own_put (own_put hrr (by omega)) (by omega), fun k hk e => ?_, cms_put (cms_put h'.cms (by omega)) (by omega)⟩, ?_⟩
  · have a1 := (own_lt h.out hk).2
    have a2 := (own_lt hr e).1
    omega
  · refine ⟨hb.os, hb.tape, hb.output, ?_, fun k hk hn => ?_⟩
    · have := hb.size
      simpa [World.setCell] using this
    · rw [s2 k (fun e => hn (.inr (.inr (.inl e)))), s1 k (fun e => hn (.inr (.inl e)))]
      exact hb.block k hk
end Go.Proofs.Ytplmlmmjfkbabaa
