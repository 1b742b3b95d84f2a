/- What is kept while the ranges of rates are made, between two bands: plain facts. No condition. -/
import Derived.Test.YtfijaafkagcmmaaT3J
namespace Go.Proofs.Ytfijaafkagcmmaa
open Go.RowKit Go.Shelf
attribute [local irreducible] arrV

/-- What is kept between two rounds. -/
structure Rngs (w : World) (n : Nat) (T : Nat → Prop) (pre : List (List Int)) (A : World) : Prop where
  t1 : T (w.heap.size + 1)
  t2 : T (w.heap.size + 1 + 1)
  m : A.heap[w.heap.size + 1 + 1]? = some (.cells #[.int .i64 pre.length] 3 (0, 0))
  v : ∃ v, A.heap[w.heap.size + 1]? = some (.cells #[v] 31 (0, 0)) ∧ A.ownsRow (w.heap.size + 3) 50 2 v (if pre = [] then [] else rangesL pre n).length (flatR (if pre = [] then [] else rangesL pre n)) ∧ ∀ g, v.ownBlock = some g → T g
/-- Within a round, between two bands. -/
structure Band (w : World) (n : Nat) (T : Nat → Prop) (pre : List (List Int)) (t : List Int) (Bx : Nat) (room : Obj) (A : World) (b : Nat) (W : World) : Prop where
  but : But T A W
  r : W.heap[w.heap.size]? = some room
  x : W.heap[Bx]? = some (.cells (arrV (pad3 t)) 105 (0, 0))
  m : W.heap[w.heap.size + 1 + 1]? = some (.cells #[.int .i64 pre.length] 3 (0, 0))
  v : ∃ v, W.heap[w.heap.size + 1]? = some (.cells #[v] 31 (0, 0)) ∧ W.ownsRow (w.heap.size + 3) 50 2 v (mixL pre t n b).length (flatR (mixL pre t n b)) ∧ ∀ g, v.ownBlock = some g → more T A W g
theorem Rngs.free {w : World} {n : Nat} {T : Nat → Prop} {pre : List (List Int)} {A B : World} (h : Rngs w n T pre A) (hR : Rfree T A B) : Rngs w n T pre B := by
  obtain ⟨v, h1, h2, h3⟩ := h.v
  exact ⟨h.t1, h.t2, (hR.2 _ h.t2).trans h.m, v, (hR.2 _ h.t1).trans h1, own_same h2 (fun g hg => hR.2 g (h3 g hg)), h3⟩
/-- Just before a range is written. -/
structure Ub (w : World) (T : Nat → Prop) (pre : List (List Int)) (t : List Int) (Bx : Nat) (room : Obj) (A : World) (L : List Rg) (g cap : Nat) (U : World) : Prop where
  but : But T A U
  r : U.heap[w.heap.size]? = some room
  x : U.heap[Bx]? = some (.cells (arrV (pad3 t)) 105 (0, 0))
  m : U.heap[w.heap.size + 1 + 1]? = some (.cells #[.int .i64 pre.length] 3 (0, 0))
  v : U.heap[w.heap.size + 1]? = some (.cells #[.slice (some ⟨g, 0, none⟩) L.length cap] 31 (0, 0))
  own : U.ownsRow (w.heap.size + 3) 50 2 (.slice (some ⟨g, 0, none⟩) L.length cap) L.length (flatR L)
  gT : more T A U g
  base : w.heap.size + 3 ≤ g
  ne : g ≠ Bx
theorem row_ne {W : World} {base : Nat} {v : Value} {n : Nat} {xs : List Value} {B : Nat} {cs : Array Value} (h : W.ownsRow base 50 2 v n xs) (hB : W.heap[B]? = some (.cells cs 105 (0, 0))) {g : Nat} (hg : v.ownBlock = some g) : g ≠ B := fun e => by
  rcases h.2 with ⟨hv', _⟩ | ⟨g', _, _, hv', _, hgg, _⟩
  · rw [hv'] at hg; simp [Value.ownBlock] at hg
  · rw [hv'] at hg
    simp [Value.ownBlock] at hg
    subst hg
    rw [e] at hgg
    have := hgg.symm.trans hB
    simp at this
theorem Band.next {w : World} {n : Nat} {T : Nat → Prop} {pre : List (List Int)} {t : List Int} {Bx : Nat} {room : Obj} {A : World} {b : Nat} {W : World} (h : Band w n T pre t Bx room A b W) (hp : pre ≠ []) (hb : b < n) :
    ∃ g cap, Ub w T pre t Bx room A (mixL pre t n b) g cap W := by
  obtain ⟨v, h1, h2, h3⟩ := h.v
  obtain ⟨g, cap, rfl, hbg, hlt, -⟩ := own_head h2 (by rw [mixL_len (by omega), if_neg hp]; omega)
  exact ⟨g, cap, h.but, h.r, h.x, h.m, h1, h2, h3 g rfl, hbg, row_ne h2 h.x rfl⟩
theorem more_up {T : Nat → Prop} {A B C : World} {g : Nat} (h : more T A B g) (hs : B.heap.size ≤ C.heap.size) : more T A C g := by
  rcases h with h | h
  · exact .inl h
  · exact .inr ⟨h.1, by omega⟩
theorem Band.first {w : World} {n : Nat} {T : Nat → Prop} {t : List Int} {Bx : Nat} {room : Obj} {A : World} {b : Nat} {W : World} (h : Band w n T [] t Bx room A b W) (hT1 : T (w.heap.size + 1)) {v : Value} (hv : W.heap[w.heap.size + 1]? = some (.cells #[v] 31 (0, 0)))
    (hown : W.ownsRow (w.heap.size + 3) 50 2 v b (flatR (mixL [] t n b))) (hvT : ∀ g, v.ownBlock = some g → more T A W g)
    {w4 w5 : World} {g c : Nat} (hb4 : Below W.heap.size W w4) (hg5 : Grew (w.heap.size + 3) w4 w5 v) (hs4 : w.heap.size + 3 ≤ w4.heap.size)
    (own5 : w5.ownsRow (w.heap.size + 3) 50 2 (.slice (some ⟨g, 0, none⟩) (b + 1) c) (b + 1) (flatR (mixL [] t n b) ++ [.int .i64 (rt t b), .int .i64 (rt t b)])) (hgv : v.ownBlock = some g ∨ w4.heap.size ≤ g) :
    Ub w T [] t Bx room A (mixL [] t n (b + 1)) g c (w5.setCell ⟨w.heap.size + 1, 0, none⟩ (.slice (some ⟨g, 0, none⟩) (b + 1) c)) := by
  have hl : (mixL [] t n (b + 1)).length = b + 1 := by
    unfold mixL
    simp [rangesL_len]
  obtain ⟨-, hg0⟩ := own_lt own5 (g := g) rfl
  have hgb := (own_lt own5 (g := g) rfl).1
  have hov : ∀ k, k < W.heap.size → v.ownBlock ≠ some k → w5.heap[k]? = W.heap[k]? := fun k hk hne => (hg5.block k (by have := hb4.size; omega) hne).trans (hb4.block k hk)
  have hlow : ∀ k, k < w.heap.size + 3 → k < W.heap.size → w5.heap[k]? = W.heap[k]? := fun k hk hk2 => (hg5.below.block k hk).trans (hb4.block k hk2)
  have hset : ∀ k, k ≠ w.heap.size + 1 → (w5.setCell ⟨w.heap.size + 1, 0, none⟩ (.slice (some ⟨g, 0, none⟩) (b + 1) c)).heap[k]? = w5.heap[k]? := fun k hk => heap_setCell_other w5 ⟨w.heap.size + 1, 0, none⟩ k _ hk
  have hxne : Bx ≠ w.heap.size + 1 := fun e => by
    have := h.x
    rw [e] at this
    have := hv.symm.trans this
    simp at this
  have hx5 : w5.heap[Bx]? = some (.cells (arrV (pad3 t)) 105 (0, 0)) := (hov Bx (lt_of_block h.x) (fun e => row_ne hown h.x e rfl)).trans h.x
  have hsz : (w5.setCell ⟨w.heap.size + 1, 0, none⟩ (.slice (some ⟨g, 0, none⟩) (b + 1) c)).heap.size = w5.heap.size := by simp [World.setCell]
  have hAW := h.but.size
  have h45 := hg5.below.size
  have hW4 := hb4.size
  refine ⟨?_, ?_, ?_, ?_, ?_, ?_, ?_, hgb, row_ne own5 hx5 rfl⟩
  · refine ⟨hg5.below.os.trans (hb4.os.trans h.but.os), hg5.below.tape.trans (hb4.tape.trans h.but.tape), hg5.below.output.trans (hb4.output.trans h.but.output), by rw [hsz]; omega, fun k hk hn => ?_⟩
    rw [hset k (fun e => hn (e ▸ hT1)), hov k (by omega) (fun e => by
      rcases hvT k e with h1 | h1
      · exact hn h1
      · omega)]
    exact h.but.block k hk hn
  · exact (hset _ (by omega)).trans ((hlow _ (by omega) (lt_of_block h.r)).trans h.r)
  · exact (hset _ hxne).trans hx5
  · exact (hset _ (by omega)).trans ((hlow _ (by omega) (lt_of_block h.m)).trans h.m)
  · rw [hl]
    exact heap_setCell_same w5 (w.heap.size + 1) 0 _ 31 _ ((hlow _ (by omega) (lt_of_block hv)).trans hv)
  · rw [hl]
    refine own_same ?_ (fun k hk => hset k (by simp [Value.ownBlock] at hk; omega))
    rw [mixL_first, flatR_snoc]
    exact own5
  · rcases hgv with h1 | h1
    · exact more_up (hvT g h1) (by rw [hsz]; omega)
    · exact .inr ⟨by omega, by rw [hsz]; exact hg0⟩
theorem Ub.cells {w : World} {T : Nat → Prop} {pre : List (List Int)} {t : List Int} {Bx : Nat} {room : Obj} {A : World} {L : List Rg} {g cap : Nat} {U : World} (h : Ub w T pre t Bx room A L g cap U) {b : Nat} (hb : b < L.length) :
    U.cell? ⟨w.heap.size + 1, 0, none⟩ = some (.slice (some ⟨g, 0, none⟩) L.length cap) ∧ U.cell? ⟨g, b * 2, none⟩ = some (.int .i64 (rg L b).lo) ∧ U.cell? ⟨g, b * 2 + 1, none⟩ = some (.int .i64 (rg L b).hi) ∧ U.frozen? ⟨g, b * 2, none⟩ = false ∧ U.frozen? ⟨g, b * 2 + 1, none⟩ = false ∧ g < U.heap.size := by
  obtain ⟨g', cap', e, -, hlt, hc⟩ := own_head h.own (by omega)
  simp only [Value.slice.injEq, Option.some.injEq, Addr.mk.injEq, and_true, true_and] at e
  obtain ⟨rfl, rfl⟩ := e
  obtain ⟨c1, c2, c3, c4⟩ := hc b hb
  exact ⟨cell_of_row U _ 0 _ _ _ h.v, c1, c2, c3, c4, hlt⟩
theorem Ub.set {w : World} {n : Nat} {T : Nat → Prop} {pre : List (List Int)} {t : List Int} {Bx : Nat} {room : Obj} {A : World} {L : List Rg} {g cap : Nat} {U U8 : World} (h : Ub w T pre t Bx room A L g cap U) {b : Nat} (hb : b < L.length) (hbs : Below U.heap.size U U8) (r : Rg) (hL : L.set b r = mixL pre t n (b + 1)) :
    Band w n T pre t Bx room A (b + 1) ((U8.setCell ⟨g, b * 2, none⟩ (.int .i64 r.lo)).setCell ⟨g, b * 2 + 1, none⟩ (.int .i64 r.hi)) := by
  have hother : ∀ k, k ≠ g → ((U8.setCell ⟨g, b * 2, none⟩ (.int .i64 r.lo)).setCell ⟨g, b * 2 + 1, none⟩ (.int .i64 r.hi)).heap[k]? = U8.heap[k]? := fun k hk =>
    (heap_setCell_other _ ⟨g, b * 2 + 1, none⟩ k _ hk).trans (heap_setCell_other _ ⟨g, b * 2, none⟩ k _ hk)
  have hsz : ((U8.setCell ⟨g, b * 2, none⟩ (.int .i64 r.lo)).setCell ⟨g, b * 2 + 1, none⟩ (.int .i64 r.hi)).heap.size = U8.heap.size := by simp [World.setCell]
  have hbase := h.base
  have hs1 := h.but.size
  have hs2 := hbs.size
  have own8 := own_same h.own (W' := U8) (fun k hk => by
    have e : g = k := by simpa [Value.ownBlock] using hk
    subst e
    exact hbs.block g (own_lt h.own rfl).2)
  have hset := own_set own8 b r hb
  have hll : (mixL pre t n (b + 1)).length = L.length := by rw [← hL]; simp
  refine ⟨⟨hbs.os.trans h.but.os, hbs.tape.trans h.but.tape, hbs.output.trans h.but.output, by rw [hsz]; omega, fun k hk hn => ?_⟩, ?_, ?_, ?_, .slice (some ⟨g, 0, none⟩) L.length cap, ?_, ?_, fun k hk => ?_⟩
  · rw [hother k (fun e => by
      rcases h.gT with h1 | h1
      · exact hn (e ▸ h1)
      · omega), hbs.block k (by omega)]
    exact h.but.block k hk hn
  · exact (hother _ (by omega)).trans ((hbs.block _ (lt_of_block h.r)).trans h.r)
  · exact (hother _ (fun e => h.ne e.symm)).trans ((hbs.block _ (lt_of_block h.x)).trans h.x)
  · exact (hother _ (by omega)).trans ((hbs.block _ (lt_of_block h.m)).trans h.m)
  · exact (hother _ (by omega)).trans ((hbs.block _ (lt_of_block h.v)).trans h.v)
  · rw [hll, ← hL]
    exact hset
  · have e : g = k := by simpa [Value.ownBlock] using hk
    subst e
    exact more_up h.gT (by rw [hsz]; omega)
theorem Band.done {w : World} {n : Nat} {T : Nat → Prop} {pre : List (List Int)} {t : List Int} {Bx : Nat} {room : Obj} {A : World} {W : World} (h : Band w n T pre t Bx room A n W) (hT1 : T (w.heap.size + 1)) (hT2 : T (w.heap.size + 1 + 1)) :
    But T A (W.setCell ⟨w.heap.size + 1 + 1, 0, none⟩ (.int .i64 (pre.length + 1))) ∧ Rngs w n (more T A (W.setCell ⟨w.heap.size + 1 + 1, 0, none⟩ (.int .i64 (pre.length + 1)))) (pre ++ [t]) (W.setCell ⟨w.heap.size + 1 + 1, 0, none⟩ (.int .i64 (pre.length + 1))) := by
  have hsz : (W.setCell ⟨w.heap.size + 1 + 1, 0, none⟩ (.int .i64 (pre.length + 1))).heap.size = W.heap.size := by simp [World.setCell]
  refine ⟨h.but.trans (But.setCell _ _ hT2), .inl hT1, .inl hT2, ?_, ?_⟩
  · have := heap_setCell_same W (w.heap.size + 1 + 1) 0 _ 3 (.int .i64 (pre.length + 1)) h.m
    simpa using this
  · obtain ⟨v, h1, h2, h3⟩ := h.v
    rw [mixL_all] at h2
    refine ⟨v, (heap_setCell_other W ⟨w.heap.size + 1 + 1, 0, none⟩ _ _ (by show w.heap.size + 1 ≠ w.heap.size + 1 + 1; omega)).trans h1, ?_, fun g hg => more_up (h3 g hg) (by rw [hsz]; exact Nat.le_refl _)⟩
    rw [if_neg (by simp)]
    refine own_same h2 fun g hg => heap_setCell_other W ⟨w.heap.size + 1 + 1, 0, none⟩ g _ ?_
    have := (own_lt h2 hg).1
    show g ≠ w.heap.size + 1 + 1
    omega
end Go.Proofs.Ytfijaafkagcmmaa
