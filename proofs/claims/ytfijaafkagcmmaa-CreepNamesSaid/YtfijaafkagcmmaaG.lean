/- All rates of a material, by a closure that calls itself: its contract. Conditions: a valid material. -/
import Derived.Test.YtfijaafkagcmmaaF
import Derived.Test.YtfijaafkagcmmaaB
namespace Go.Proofs.Ytfijaafkagcmmaa
open Go.RowKit Go.Shelf
attribute [local irreducible] arrV
attribute [local go_sem] Oper.semAt_some

/-- Rates as an array of three. -/
def pad3 (x : List Int) : List Int := x ++ List.replicate (3 - x.length) 0
theorem pad3_len {x : List Int} (h : x.length ≤ 3) : (pad3 x).length = 3 := by simp [pad3]; omega
theorem pad3_rt {x : List Int} (i : Int) : rt (pad3 x) i = rt x i := by
  unfold rt pad3
  rw [List.getElem?_append]
  split
  · rfl
  · rename_i h
    have e : x[i.toNat]? = none := by simp; omega
    rw [e, List.getElem?_replicate]
    split <;> rfl
theorem pad3_loS (x : List Int) : ∀ ss, loS ss (pad3 x) = loS ss x ∧ hiS ss (pad3 x) = hiS ss x
  | [] => ⟨rfl, rfl⟩
  | s :: ss => by simp only [loS, hiS, pad3_rt, pad3_loS x ss, and_self]
theorem pad3_fits (r : Rn) (x : List Int) : fitsB r (pad3 x) = fitsB r x := by simp only [fitsB, pad3_loS x r.ss]
theorem pad3_rates {x : List Int} (h : Rates x) : Rates (pad3 x) := fun i => by rw [pad3_rt]; exact h i
theorem pad3_of {y p : List Int} {n : Nat} (hy : y.length = 3) (ht : y.take n = p) (hp : p.length = n) (hz : ∀ i, n ≤ i → i < 3 → ld y i = 0) (hn : n ≤ 3) : y = pad3 p := by
  apply List.ext_getElem?
  intro i
  unfold pad3
  rw [List.getElem?_append]
  split
  · rename_i h
    rw [← ht, List.getElem?_take_of_lt (by omega)]
  · rename_i h
    rw [List.getElem?_replicate]
    split
    · have := hz i (by omega) (by omega)
      have hl : i < y.length := by omega
      simp only [ld, List.getElem?_eq_getElem hl, Option.getD_some] at this
      rw [List.getElem?_eq_getElem hl, this]
    · simp; omega

/-- What has been brought when k rates of a band are done. -/
def doneL (s0 : Int) (k : Nat) (rest : List Rg) (p : List Int) : List (List Int) := ((List.range k).map fun j : Nat => s0 + (j : Int)).flatMap fun m => (listsL rest m).map fun t => p ++ m :: t
theorem doneL_zero (s0 : Int) (rest : List Rg) (p : List Int) : doneL s0 0 rest p = [] := rfl
theorem doneL_succ (s0 : Int) (k : Nat) (rest : List Rg) (p : List Int) : doneL s0 (k + 1) rest p = doneL s0 k rest p ++ (listsL rest (s0 + (k : Int))).map fun t => (p ++ [s0 + (k : Int)]) ++ t := by
  simp [doneL, List.range_succ, List.flatMap_append]
theorem doneL_all (r : Rg) (rest : List Rg) (least : Int) (p : List Int) : (listsL (r :: rest) least).map (p ++ ·) = doneL (max least r.lo) (r.hi + 1 - max least r.lo).toNat rest p := by
  simp only [listsL, upFrom, doneL, List.map_flatMap, List.map_map]
  rfl
theorem drop_rg {ms : List Rg} {b : Nat} (h : b < ms.length) : ms.drop b = rg ms b :: ms.drop (b + 1) := by
  rw [List.drop_eq_getElem_cons h]
  simp [rg, h]

/-- The boxes of the closure, and the material. -/
structure Own (n Bm Bb Br Bg l : Nat) (a : Option Addr) (cap : Nat) (ms : List Rg) (y : List Int) (A : World) : Prop where
  m : A.heap[Bm]? = some (.cells #[.slice a ms.length cap] 33 (0, 0))
  b : A.heap[Bb]? = some (.cells #[.func (.yield l) #[] #[]] 142 (0, 0))
  g : A.heap[Bg]? = some (.cells #[.func (.func 99) #[] #[.pointer (some ⟨Bm, 0, none⟩), .pointer (some ⟨Bb, 0, none⟩), .pointer (some ⟨Br, 0, none⟩), .pointer (some ⟨Bg, 0, none⟩)]] 114 (0, 0))
  r : A.heap[Br]? = some (.cells (arrV y) 105 (0, 0))
  le : n ≤ A.heap.size
  v : RgsV n A (.slice a ms.length cap) ms
structure Dis (n Bm Bb Br Bg : Nat) (T : Nat → Prop) : Prop where
  m : ¬ T Bm
  b : ¬ T Bb
  g : ¬ T Bg
  r : ¬ T Br
  n : ∀ k, T k → n ≤ k
theorem Own.but {n Bm Bb Br Bg l : Nat} {a : Option Addr} {cap : Nat} {ms : List Rg} {y : List Int} {A A' : World} {T : Nat → Prop} (h : Own n Bm Bb Br Bg l a cap ms y A) (hT : Dis n Bm Bb Br Bg T) (hb : But T A A') : Own n Bm Bb Br Bg l a cap ms y A' where
  m := (hb.block _ (lt_of_block h.m) hT.m).trans h.m
  b := (hb.block _ (lt_of_block h.b) hT.b).trans h.b
  g := (hb.block _ (lt_of_block h.g) hT.g).trans h.g
  r := (hb.block _ (lt_of_block h.r) hT.r).trans h.r
  le := Nat.le_trans h.le hb.size
  v := h.v.same (.but h.le hT.n hb)
theorem Dis.more {n Bm Bb Br Bg l : Nat} {a : Option Addr} {cap : Nat} {ms : List Rg} {y : List Int} {A A' : World} {T : Nat → Prop} (h : Dis n Bm Bb Br Bg T) (ho : Own n Bm Bb Br Bg l a cap ms y A) : Dis n Bm Bb Br Bg (more T A A') := by
  have h1 := lt_of_block ho.m
  have h2 := lt_of_block ho.b
  have h3 := lt_of_block ho.g
  have h4 := lt_of_block ho.r
  have h5 := ho.le
  refine ⟨?_, ?_, ?_, ?_, ?_⟩
  · rintro (h6 | h6)
    · exact h.m h6
    · omega
  · rintro (h6 | h6)
    · exact h.b h6
    · omega
  · rintro (h6 | h6)
    · exact h.g h6
    · omega
  · rintro (h6 | h6)
    · exact h.r h6
    · omega
  · rintro k (h6 | h6)
    · exact h.n k h6
    · omega
/-- A rate is written into the array. -/
theorem Own.set {n Bm Bb Br Bg l : Nat} {a : Option Addr} {cap : Nat} {ms : List Rg} {y : List Int} {A : World} (h : Own n Bm Bb Br Bg l a cap ms y A) (hd : Br ≠ Bm ∧ Br ≠ Bb ∧ Br ≠ Bg) (hn : n ≤ Br) (b : Nat) (x : Int) :
    Own n Bm Bb Br Bg l a cap ms (y.set b x) (A.setCell ⟨Br, b, none⟩ (.int .i64 x)) where
  m := (heap_setCell_other A ⟨Br, b, none⟩ Bm _ (Ne.symm hd.1)).trans h.m
  b := (heap_setCell_other A ⟨Br, b, none⟩ Bb _ (Ne.symm hd.2.1)).trans h.b
  g := (heap_setCell_other A ⟨Br, b, none⟩ Bg _ (Ne.symm hd.2.2)).trans h.g
  r := by
    have h1 := heap_setCell_same A Br b _ 105 (.int .i64 x) h.r
    have e : (arrV y).setIfInBounds b (.int .i64 x) = arrV (y.set b x) := by
      rw [← arr_list' y, ← arr_list' (y.set b x), List.map_set]
      simp [iV]
    rw [e] at h1
    exact h1
  le := by simpa [World.setCell] using h.le
  v := h.v.same fun k hk => heap_setCell_other A ⟨Br, b, none⟩ k _ (by show k ≠ Br; omega)
theorem rfree_set {T : Nat → Prop} {A : World} {Br b : Nat} {v : Value} (h : ¬ T Br) : Rfree T A (A.setCell ⟨Br, b, none⟩ v) :=
  ⟨by simp [World.setCell], fun k hk => heap_setCell_other A ⟨Br, b, none⟩ k v (fun e => h (by rw [e] at hk; exact hk))⟩
theorem But.set_new {T0 : Nat → Prop} {W A : World} {Br b : Nat} {v : Value} (h : But T0 W A) (hn : W.heap.size ≤ Br) : But T0 W (A.setCell ⟨Br, b, none⟩ v) :=
  ⟨h.os, h.tape, h.output, by simpa [World.setCell] using h.size, fun k hk hn' => (heap_setCell_other A ⟨Br, b, none⟩ k v (by show k ≠ Br; omega)).trans (h.block k hk hn')⟩

/-- How the closure leaves. -/
def GoPost (n Bm Bb Br Bg l : Nat) (a : Option Addr) (cap : Nat) (ms : List Rg) (T0 : Nat → Prop) (W : World) (J Jx : (Nat → Prop) → List (List Int) → World → Prop) (pre L : List (List Int)) (band : Nat) (p : List Int) (e : Ending) (A' : World) : Prop :=
  ∃ T' y', Of T0 W.heap.size T' A' ∧ Dis n Bm Bb Br Bg T' ∧ But T0 W A' ∧ Own n Bm Bb Br Bg l a cap ms y' A' ∧ y'.length = 3 ∧ y'.take band = p ∧ (∀ i, ms.length ≤ i → i < 3 → ld y' i = 0) ∧
    ((e = .returned (.bool true) ∧ J T' (pre ++ L) A') ∨ (e = .returned (.bool false) ∧ ∃ pre', pre' <+: pre ++ L ∧ Jx T' pre' A'))

end Go.Proofs.Ytfijaafkagcmmaa
