/- Whether a drop and a meeting happen at a point: contracts. -/
import Derived.Test.YtfjlnejeffkdoaaE
namespace Go.Proofs.Ytfjlnejeffkdoaa
open Go.RowKit

def pullV (v : Value) (r : Rl) (t : List Int) : Array Value := #[v, iV r.d, iV r.k, iV r.o] ++ arrV t
theorem arrV_get (t : List Int) (i : Nat) (h : i < t.length) : (arrV t)[i]? = some (.int .i64 (ld t i)) := by simp [arrV, ld, h, iV]
theorem arrV_size (t : List Int) : (arrV t).size = t.length := by simp [arrV]
theorem pullV_0 (v : Value) (r : Rl) (t : List Int) : (pullV v r t)[0]? = some v := by simp [pullV, Array.getElem?_append]
theorem pullV_1 (v : Value) (r : Rl) (t : List Int) : (pullV v r t)[1]? = some (.int .i64 r.d) := by simp [pullV, Array.getElem?_append, iV]
theorem pullV_2 (v : Value) (r : Rl) (t : List Int) : (pullV v r t)[2]? = some (.int .i64 r.k) := by simp [pullV, Array.getElem?_append, iV]
theorem pullV_3 (v : Value) (r : Rl) (t : List Int) : (pullV v r t)[3]? = some (.int .i64 r.o) := by simp [pullV, Array.getElem?_append, iV]
theorem pullV_at (v : Value) (r : Rl) (t : List Int) (i : Nat) (h : i < t.length) : (pullV v r t)[4 + i]? = some (.int .i64 (ld t i)) := by
  rw [← arrV_get t i h]
  unfold pullV
  rw [Array.getElem?_append_right (by simp)]
  congr 1
  simp

def dropB (d : Int) (t : List Int) (i : Nat) : Bool := decide (d ≤ ld t i - ld t (i + 1))
def lineI (ps : List Pt) (r : Rl) (i : Nat) : Int := r.k * ((pt ps i).s - r.o)
def meetB (ps : List Pt) (r : Rl) (t : List Int) (i : Nat) : Bool := decide (ld t i ≤ lineI ps r i)

/-- What is known of a curve, a rule and a truth that are valid. -/
structure Fine (ps : List Pt) (r : Rl) (t : List Int) : Prop where
  len : ps.length ≤ 20
  pos : 0 < ps.length
  tlen : t.length = 20
  st : ∀ i, i < ps.length → 0 ≤ (pt ps i).s ∧ (pt ps i).s ≤ 1000
  k : 1 ≤ r.k ∧ r.k ≤ 1000
  o : 0 ≤ r.o ∧ r.o ≤ 1000
  d : 1 ≤ r.d ∧ r.d ≤ 100000
  ld : ∀ i, 0 ≤ ld t i ∧ ld t i ≤ 100000

set_option maxHeartbeats 400000 in
theorem drops_any (v : Value) (r : Rl) (t : List Int) (i : Nat) (w : World) (ht : t.length = 20) (hi : i + 1 < 20) (hl : ∀ i, 0 ≤ ld t i ∧ ld t i ≤ 100000) :
    Calls Try.prog 70 #[.agg (pullV v r t), .int .i64 i] w fun e w' => e = .returned (.bool (dropB r.d t i)) ∧ Below w.heap.size w w' := by
  have hB := box_below w (.cells (pullV v r t) 124)
  have hc := box_cell w (pullV v r t) 124
  have c1 := (hc 1).trans (pullV_1 v r t)
  have c4 := (hc (4 + i)).trans (pullV_at v r t i (by omega))
  have c5 := (hc (4 + (i + 1))).trans (pullV_at v r t (i + 1) (by omega))
  have e : dropB r.d t i = decide (r.d ≤ ld t i - ld t (i + 1)) := rfl
  have h1 := hl i
  have h2 := hl (i + 1)
  have hw : IntKind.i64.wrap ((i : Int) + 1) = (i : Int) + 1 := IntWalk.i64_in _ (by omega)
  have hp : (0 : Int) ≤ (i : Int) + 1 := by omega
  have hn : ((i : Int) + 1).toNat = i + 1 := by omega
  rw [e]; clear e hc hl ht
  generalize r.d = d at *
  generalize ld t i = x at *
  generalize ld t (i + 1) = y at *
  go_enter Try.func70, Try.ntmps70
  go_wp2
  generalize World.alloc w _ = W at *
  go_quiet (fail)
  go_wp2
  go_ret
  exact ⟨rfl, below_dN hB⟩

set_option maxHeartbeats 400000 in
theorem meets_any (b off cap : Nat) (ps : List Pt) (r : Rl) (t : List Int) (i : Nat) (w : World) (F : Fine ps r t) (hi : i < ps.length) (hp : PtsIn w b off ps) :
    Calls Try.prog 71 #[.agg (pullV (.slice (some ⟨b, off, none⟩) ps.length cap) r t), .int .i64 i] w fun e w' => e = .returned (.bool (meetB ps r t i)) ∧ Below w.heap.size w w' := by
  have hlt : b < w.heap.size := block_lt_of_cell (hp 0 F.pos).1
  have hB := box_below w (.cells (pullV (.slice (some ⟨b, off, none⟩) ps.length cap) r t) 124)
  have hc := box_cell w (pullV (.slice (some ⟨b, off, none⟩) ps.length cap) r t) 124
  have c0 := (hc 0).trans (pullV_0 _ r t)
  have c1 := (hc 1).trans (pullV_1 _ r t)
  have c2 := (hc 2).trans (pullV_2 _ r t)
  have c3 := (hc 3).trans (pullV_3 _ r t)
  have c4 := (hc (4 + i)).trans (pullV_at _ r t i (by have := F.tlen; have := F.len; omega))
  have p0 := (hB.cell (p := ⟨b, off + i * 3, none⟩) hlt).trans (hp i hi).1
  have e : meetB ps r t i = decide (ld t i ≤ r.k * ((pt ps i).s - r.o)) := rfl
  have h1 := F.ld i
  have h2 := F.st i hi
  have hlen := F.len
  have hi20 : (i : Int) < 20 := by omega
  have hk := F.k
  have ho := F.o
  rw [e]; clear e hc F hp
  have hm := mul_le_of r.k ((pt ps i).s - r.o) 1000 1000 (by omega) (by omega) (by omega) (by omega) (by omega)
  generalize r.d = d at *
  generalize r.k = k at *
  generalize r.o = o at *
  generalize (pt ps i).s = s at *
  generalize ld t i = x at *
  generalize ps.length = n at *
  go_enter Try.func71, Try.ntmps71
  go_wp2
  generalize World.alloc w _ = W at *
  have g0 := cell_regrown c0
  have g1 := cell_regrown c1
  have g2 := cell_regrown c2
  have g3 := cell_regrown c3
  have g4 := cell_regrown c4
  have gp := cell_regrown p0
  clear c0 c1 c2 c3 c4 p0
  refine wp_region_quiet_below (by kernel_rfl) (by kernel_rfl) ?_
  repeat (quiet_step (exact Calls.regrown_of (line_any b off n cap i d k o s _ (by omega) (by omega) (by omega) (by simpa using gp _ _) (by omega) (by omega) (by omega) (by omega) (by omega) (by omega))))
  refine wpQuiet_nil ?_
  intro _ hw'
  obtain ⟨⟨dq, osq⟩, hw''⟩ := hw'
  subst hw''
  go_wp2
  go_ret
  exact ⟨rfl, below_to hB (below_regrown W dq osq)⟩

end Go.Proofs.Ytfjlnejeffkdoaa
