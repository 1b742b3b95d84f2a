/- The truths at the ends: an iterator, its contract. -/
import Derived.Test.YtfjlnejeffkdoaaN
import Derived.Test.YtfjlnejeffkdoaaO
import Derived.Shelf.Abstract
import Derived.Shelf.RegionOpen
import Derived.OwnWalkIn
import Derived.TacticsInMore
import Derived.LoopNIn
import Derived.LoopIn
namespace Go.Proofs.Ytfjlnejeffkdoaa
open Go.RowKit Go.Shelf
attribute [local irreducible] arrV
attribute [local go_sem] Oper.semAt_some

/-- Between two rounds: the blocks of T are as they were. -/
def Rfree (T : Nat → Prop) (A B : World) : Prop := A.heap.size ≤ B.heap.size ∧ ∀ k, T k → B.heap[k]? = A.heap[k]?
/-- Nothing is done any more. -/
def Never (_ : Nat → Prop) (_ _ : World) : Prop := False
def TCx (C : Nat → Prop) (T : Nat → Prop) (W : World) : Prop := ∀ k, T k → k < W.heap.size ∧ ¬ C k
theorem Rfree.of_below {C T : Nat → Prop} {W A B : World} (hT : TCx C T W) (hA : W.heap.size ≤ A.heap.size) (h : Below A.heap.size A B) : Rfree T A B :=
  ⟨h.size, fun k hk => h.block k (Nat.lt_of_lt_of_le (hT k hk).1 hA)⟩

/-- A truth of the curve, in an array of twenty. -/
def IsTr (ps : List Pt) (x : List Int) : Prop := x.length = 20 ∧ (∀ i, i < ps.length → (pt ps i).lo ≤ ld x i ∧ ld x i ≤ (pt ps i).hi) ∧ (∀ i, ps.length ≤ i → ld x i = 0)
def lowT (ps : List Pt) : List Int := upT (fun i => (pt ps i).lo) ps.length
def highT (ps : List Pt) : List Int := upT (fun i => (pt ps i).hi) ps.length

/-- The valid points, and the box of the reading. -/
structure Box (w : World) (Br b off cap : Nat) (ps : List Pt) (r : Rl) : Prop where
  blk : w.heap[Br]? = some (.cells #[.slice (some ⟨b, off, none⟩) ps.length cap, .int .i64 r.d, .int .i64 r.k, .int .i64 r.o] 94 (0, 0))
  pts : PtsIn w b off ps
theorem Box.but {T : Nat → Prop} {w w' : World} {Br b off cap : Nat} {ps : List Pt} {r : Rl} (h : Box w Br b off cap ps r) (hb : But T w w') (h1 : ¬ T Br) (h2 : ¬ T b) : Box w' Br b off cap ps r :=
  ⟨(hb.block Br (lt_of_block h.blk) h1).trans h.blk, fun i hi => ⟨hb.cell h2 (h.pts i hi).1, hb.cell h2 (h.pts i hi).2.1, hb.cell h2 (h.pts i hi).2.2⟩⟩

set_option maxRecDepth 100000 in
set_option maxHeartbeats 1000000 in
theorem ends_seq (Br b off cap : Nat) (ps : List Pt) (r : Rl) (w : World) (hlen : ps.length ≤ 20) (hpos : 0 < ps.length) (hB : Box w Br b off cap ps r) (hlo : IsTr ps (lowT ps)) (hhi : IsTr ps (highT ps)) :
    SeqT Try.prog 98 #[.pointer (some ⟨Br, 0, none⟩)] (fun t : List Int => #[Value.agg (arrV t)]) (IsTr ps) Rfree Never (TCx (fun k => k = Br ∨ k = b)) (fun xs => xs = [lowT ps, highT ps]) (fun _ => True) w := by
  intro l T J Jx W hW hTC hJ hJx hY h0
  have hBW : Box W Br b off cap ps r := hB.but (But.of_below (T := fun _ => False) hW) id id
  have hnBr : ¬ T Br := fun h => (hTC Br h).2 (.inl rfl)
  have hnb : ¬ T b := fun h => (hTC b h).2 (.inr rfl)
  refine callsIn_of_wp Try.func98 rfl trivial ?_ rfl
  simp only [Try.ntmps98, List.size_toArray, List.length_cons, List.length_nil, Nat.reduceAdd, Nat.reduceSub, Array.replicate_succ, Array.replicate_zero, List.push_toArray, List.append_toArray, List.nil_append, List.cons_append]
  have c0 := cell_of_row W Br 0 _ _ _ hBW.blk
  have c1 := cell_of_row W Br 1 _ _ _ hBW.blk
  have c2 := cell_of_row W Br 2 _ _ _ hBW.blk
  have c3 := cell_of_row W Br 3 _ _ _ hBW.blk
  simp at c0 c1 c2 c3
  gi_wp2_with fail
  refine ⟨trivial, rfl, ?_⟩
  refine (callsIn_wide.2 (lows_any b off cap ps r.d r.k r.o W hlen hpos hBW.pts)).mono ?_
  rintro e w1 ⟨rfl, hb1⟩
  have hJ1 := hJ _ _ _ h0 (Rfree.of_below hTC (Nat.le_refl _) hb1)
  have hbt1 : But T W w1 := But.of_below hb1
  obtain ⟨fn, tmps, assign, body, hy, hR⟩ := hY [] (lowT ps) w1 hlo hJ1 hbt1
  unfold lowT at hy
  clear c0 c1 c2 c3
  gi_wp2_with fail
  refine ⟨rfl, ?_⟩
  refine hR.mono ?_
  clear hy hR
  rintro e W2 (⟨rfl, hJ2, hbt2⟩ | ⟨rfl, hJx2, hbt2⟩)
  · have hB2 : Box W2 Br b off cap ps r := (hBW.but hbt1 hnBr hnb).but hbt2 hnBr hnb
    have c0 := cell_of_row W2 Br 0 _ _ _ hB2.blk
    have c1 := cell_of_row W2 Br 1 _ _ _ hB2.blk
    have c2 := cell_of_row W2 Br 2 _ _ _ hB2.blk
    have c3 := cell_of_row W2 Br 3 _ _ _ hB2.blk
    simp at c0 c1 c2 c3
    gi_wp2_with fail
    refine ⟨trivial, rfl, ?_⟩
    refine (callsIn_wide.2 (highs_any b off cap ps r.d r.k r.o W2 hlen hpos hB2.pts)).mono ?_
    rintro e w3 ⟨rfl, hb3⟩
    have hle : W.heap.size ≤ W2.heap.size := Nat.le_trans hbt1.size hbt2.size
    have hJ3 := hJ _ _ _ hJ2 (Rfree.of_below hTC hle hb3)
    have hbt3 : But T W w3 := (hbt1.trans hbt2).trans (But.of_below hb3)
    obtain ⟨fn, tmps, assign, body, hy, hR⟩ := hY ([] ++ [lowT ps]) (highT ps) w3 hhi hJ3 hbt3
    unfold highT at hy
    clear c0 c1 c2 c3
    gi_wp2_with fail
    refine ⟨rfl, ?_⟩
    refine hR.mono ?_
    clear hy hR
    rintro e W4 (⟨rfl, hJ4, hbt4⟩ | ⟨rfl, hJx4, hbt4⟩)
    · gi_wp2
      go_end0
      exact ⟨⟨_, rfl⟩, hbt3.trans hbt4, .inl ⟨_, rfl, hJ4⟩⟩
    · gi_wp2
      go_end0
      exact ⟨⟨_, rfl⟩, hbt3.trans hbt4, .inr ⟨_, trivial, hJx4⟩⟩
  · gi_wp2
    go_end0
    exact ⟨⟨_, rfl⟩, hbt1.trans hbt2, .inr ⟨_, trivial, hJx2⟩⟩
end Go.Proofs.Ytfjlnejeffkdoaa
