/- A curve with one narrower range: plain facts, and how it lies in memory while it is made. Conditions: a valid curve. -/
import Derived.Test.YtfjlnejeffkdoaaBG
import Derived.Test.YtfjlnejeffkdoaaPP
import Derived.Test.YtfjlnejeffkdoaaAO
import Derived.Test.YtfjlnejeffkdoaaAB
namespace Go.Proofs.Ytfjlnejeffkdoaa
open Go.RowKit Go.Shelf

/-- The curve, with another range of one load. -/
def setP (ps : List Pt) (j : Nat) (lo hi : Int) : List Pt := ps.set j ⟨(pt ps j).s, lo, hi⟩
theorem setP_len (ps : List Pt) (j : Nat) (lo hi : Int) : (setP ps j lo hi).length = ps.length := by simp [setP]
theorem pt_setP_same {ps : List Pt} {j : Nat} (lo hi : Int) (h : j < ps.length) : pt (setP ps j lo hi) j = ⟨(pt ps j).s, lo, hi⟩ := by
  simp [setP, pt, h]
theorem pt_setP_other {ps : List Pt} {i j : Nat} (lo hi : Int) (h : i ≠ j) : pt (setP ps j lo hi) i = pt ps i := by
  simp [setP, pt, List.getElem?_set_ne (Ne.symm h)]
theorem pt_setP_s {ps : List Pt} {j : Nat} (lo hi : Int) (i : Nat) (h : j < ps.length) : (pt (setP ps j lo hi) i).s = (pt ps i).s := by
  by_cases e : i = j
  · subst e; rw [pt_setP_same lo hi h]
  · rw [pt_setP_other lo hi e]

theorem narrow_setP {ps : List Pt} {j : Nat} {lo hi : Int} (h : j < ps.length) (h1 : (pt ps j).lo ≤ lo) (h2 : hi ≤ (pt ps j).hi) : Narrow (setP ps j lo hi) ps where
  len := setP_len _ _ _ _
  st := fun i => pt_setP_s lo hi i h
  lo := fun i _ => by
    by_cases e : i = j
    · subst e
      rw [pt_setP_same lo hi h]
      exact ⟨h1, h2⟩
    · rw [pt_setP_other lo hi e]
      exact ⟨Int.le_refl _, Int.le_refl _⟩
theorem goods_setP {ps : List Pt} {j : Nat} {lo hi : Int} (hg : goodsB ps 0 = true) (h : j < ps.length) (h1 : (pt ps j).lo ≤ lo) (h2 : hi ≤ (pt ps j).hi) (h3 : lo ≤ hi) : goodsB (setP ps j lo hi) 0 = true := by
  simp only [goodsB, decide_eq_true_eq]
  intro i hi' _
  rw [setP_len] at hi'
  obtain ⟨a1, a2, a3⟩ := goodB_spec hg hi'
  obtain ⟨b1, b2, b3⟩ := goodB_spec hg h
  simp only [goodB, risesB, hasB, withinB, Bool.and_eq_true, decide_eq_true_eq, pt_setP_s lo hi _ h]
  refine ⟨a1, a2, ?_⟩
  by_cases e : i = j
  · subst e
    rw [pt_setP_same lo hi h]
    simp only
    omega
  · rw [pt_setP_other lo hi e]
    exact a3

/-- What the chapter says of a better curve. -/
structure Told2 (sp sq : Int → Option (Int × Int)) (L M : Int → List Int) : Prop where
  may : ∀ kd, (kd = 0 ∨ kd = 1 ∨ kd = 2) → ∀ i ∈ M kd, i ∈ L kd
  span : ∀ kd, (kd = 0 ∨ kd = 1 ∨ kd = 2 ∨ kd = 3) → ∀ lo hi, sq kd = some (lo, hi) → ∃ lo' hi', sp kd = some (lo', hi') ∧ lo' ≤ lo ∧ hi ≤ hi'
  lenL : ∀ kd, (L kd).length ≤ 20
  lenM : ∀ kd, (M kd).length ≤ 20
theorem told2 {ps qs : List Pt} {r : Rl} (F : Sane ps r) (G : Sane qs r) (hg : goodsB ps 0 = true) (hn : Narrow qs ps) : Told2 (spanP ps r) (spanP qs r) (mayP ps r) (mayP qs r) where
  may := fun kd hk i hi => may_better F G hg hn kd hk hi
  span := fun kd hk lo hi h => better_span F G hg hn kd hk h
  lenL := mayP_len ps r
  lenM := mayP_len qs r

/-- The curve that is made, and the box that it lies in. -/
structure Lay (w1 : World) (bx g n cx : Nat) (qs : List Pt) (A : World) : Prop where
  low : Below w1.heap.size w1 A
  box : A.heap[bx]? = some (.cells #[.slice (some ⟨g, 0, none⟩) n cx] 24 (0, 0))
  row : ∃ cur, A.heap[g]? = some (.cells cur 84 (0, 0)) ∧ n * 3 ≤ cur.size
  pts : PtsIn A g 0 qs
  len : qs.length = n
  lg : w1.heap.size ≤ g
  ne : bx ≠ g
theorem Lay.grown {w1 : World} {bx g n cx : Nat} {qs : List Pt} {A B : World} (h : Lay w1 bx g n cx qs A) (hb : Below A.heap.size A B) : Lay w1 bx g n cx qs B := by
  obtain ⟨cur, h1, h2⟩ := h.row
  exact ⟨below_to h.low hb, (hb.block _ (lt_of_block h.box)).trans h.box, ⟨cur, (hb.block _ (lt_of_block h1)).trans h1, h2⟩, h.pts.below hb (lt_of_block h1), h.len, h.lg, h.ne⟩
/-- What lies at the point. -/
theorem Lay.at_ {w1 : World} {bx g n cx : Nat} {qs : List Pt} {A : World} (h : Lay w1 bx g n cx qs A) {j : Nat} (hj : j < n) :
    A.cell? ⟨bx, 0, none⟩ = some (.slice (some ⟨g, 0, none⟩) n cx) ∧ A.cell? ⟨g, j * 3 + 1, none⟩ = some (.int .i64 (pt qs j).lo) ∧ A.cell? ⟨g, j * 3 + 2, none⟩ = some (.int .i64 (pt qs j).hi) ∧
    A.frozen? ⟨g, j * 3 + 1, none⟩ = false ∧ A.frozen? ⟨g, j * 3 + 2, none⟩ = false ∧ g < A.heap.size ∧ bx < A.heap.size := by
  obtain ⟨cur, h1, h2⟩ := h.row
  have hp := h.pts j (by rw [h.len]; exact hj)
  simp only [Nat.zero_add] at hp
  exact ⟨cell_of_row A bx 0 _ _ _ h.box, hp.2.1, hp.2.2, frozen_of_row A g _ _ _ h1, frozen_of_row A g _ _ _ h1, lt_of_block h1, lt_of_block h.box⟩
theorem Lay.set {w1 : World} {bx g n cx : Nat} {qs : List Pt} {A : World} (h : Lay w1 bx g n cx qs A) {j : Nat} (hj : j < n) (k : Nat) (x lo hi : Int) (hk : (k = 1 ∧ lo = x ∧ hi = (pt qs j).hi) ∨ (k = 2 ∧ lo = (pt qs j).lo ∧ hi = x)) :
    Lay w1 bx g n cx (setP qs j lo hi) (A.setCell ⟨g, j * 3 + k, none⟩ (.int .i64 x)) := by
  obtain ⟨cur, h1, h2⟩ := h.row
  have hnew := heap_setCell_same A g (j * 3 + k) cur 84 (.int .i64 x) h1
  have hlen := h.len
  refine ⟨h.low.setCell h.lg _, (heap_setCell_other A ⟨g, j * 3 + k, none⟩ bx _ (by exact h.ne)).trans h.box, ⟨_, hnew, by simpa using h2⟩, fun i hi' => ?_, by rw [setP_len]; exact h.len, h.lg, h.ne⟩
  rw [setP_len] at hi'
  have hp := h.pts i hi'
  simp only [Nat.zero_add] at hp ⊢
  have key : ∀ o, o < n * 3 → (A.setCell ⟨g, j * 3 + k, none⟩ (.int .i64 x)).cell? ⟨g, o, none⟩ = if j * 3 + k = o then some (.int .i64 x) else A.cell? ⟨g, o, none⟩ := fun o ho => by
    rw [cell_of_row _ g o _ _ _ hnew, cell_of_row A g o _ _ _ h1, Array.getElem?_setIfInBounds]
    by_cases e : j * 3 + k = o
    · rw [if_pos e, if_pos e, if_pos (by omega)]
    · rw [if_neg e, if_neg e]
  have k0 := key (i * 3) (by omega)
  have k1 := key (i * 3 + 1) (by omega)
  have k2 := key (i * 3 + 2) (by omega)
  by_cases e : i = j
  · subst e
    rw [pt_setP_same lo hi (by omega)]
    simp only
    rcases hk with ⟨rfl, rfl, rfl⟩ | ⟨rfl, rfl, rfl⟩
    · rw [if_neg (by omega)] at k0 k2
      rw [if_pos rfl] at k1
      exact ⟨k0.trans hp.1, k1, k2.trans hp.2.2⟩
    · rw [if_neg (by omega)] at k0 k1
      rw [if_pos rfl] at k2
      exact ⟨k0.trans hp.1, k1.trans hp.2.1, k2⟩
  · rw [pt_setP_other lo hi e]
    have hk3 : k = 1 ∨ k = 2 := by rcases hk with ⟨h, _⟩ | ⟨h, _⟩ <;> omega
    rw [if_neg (by omega)] at k0 k1 k2
    exact ⟨k0.trans hp.1, k1.trans hp.2.1, k2.trans hp.2.2⟩

theorem wpList_run {ops : Array Oper} {rest : List Oper} {o : Oper} {a : Act} {Q : Exit → Act → World → Prop} {w w2 : World} {v : Value} (hgd : o.guard = none) (hr : (execOp a.eval o).run Try.prog w = .ok (.value v) w2)
    (h : wpList Try.prog ops Q rest (a.put o.dst v) w2) : wpList Try.prog ops Q (o :: rest) a w := by
  refine wpList_plain hgd fun K hK => ?_
  unfold Oper.wp
  rw [hr]
  exact hK _ _ h

set_option maxRecDepth 100000 in
set_option maxHeartbeats 400000 in
theorem better_no (sl : Value) (d k o x y z : Value) (w : World) (HR : ∀ W, Below w.heap.size w W → Calls Try.prog 41 #[.agg #[sl], .agg #[d, k, o]] W fun e w' => e = .returned (.bool false) ∧ Below W.heap.size W w') :
    Calls Try.prog 10 #[.agg #[sl], .agg #[d, k, o], x, y, z] w fun e w' => e = .returned (.bool true) ∧ Below w.heap.size w w' := by
  have HRR := Lib.hid HR
  have hb2 := below2 w (.cells #[sl] 24) (.cells #[d, k, o] 26)
  have HA := Lib.hid awake_any
  clear HR
  go_enter Try.func10, Try.ntmps10
  go_wp2_with fail
  refine (HRR.out _ hb2).mono ?_
  rintro e w1 ⟨rfl, hb1⟩
  have hbw := below_to hb2 hb1
  clear hb1 hb2
  go_wp2_with fail
  refine (HA.out _).mono ?_
  rintro e w2 ⟨rfl, hb3⟩
  have hbw2 := below_to hbw hb3
  clear hb3 hbw
  go_wp2
  go_ret
  exact ⟨rfl, hbw2⟩
end Go.Proofs.Ytfjlnejeffkdoaa
