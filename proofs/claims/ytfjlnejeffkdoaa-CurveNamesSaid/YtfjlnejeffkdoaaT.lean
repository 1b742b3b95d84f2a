/- Whether a drop and a meeting happen with a place: contracts. -/
import Derived.Test.YtfjlnejeffkdoaaS
namespace Go.Proofs.Ytfjlnejeffkdoaa
open Go.RowKit Go.Shelf

/-- A number that no sum of two of its like leads out of. -/
def Small (x : Int) : Prop := -1000000000 ≤ x ∧ x ≤ 1000000000

def dropHap (fa fl tl d : Int) : Bool := fa != -1 && decide (d ≤ fl - tl)

set_option maxRecDepth 100000 in
set_option maxHeartbeats 1000000 in
theorem drop_happens (s : Value) (fa fl ta tl d k o : Int) (w : World) (hs : s.oneCell') (hfl : Small fl) (htl : Small tl) :
    Calls Try.prog 95 #[.agg #[s, .int .i64 d, .int .i64 k, .int .i64 o], .agg #[.int .i64 fa, .int .i64 fl], .agg #[.int .i64 ta, .int .i64 tl]] w fun e w' => e = .returned (.bool (dropHap fa fl tl d)) ∧ Below w.heap.size w w' := by
  obtain ⟨f1, f2⟩ := hfl
  obtain ⟨t1, t2⟩ := htl
  by_cases hfa : fa = -1
  · subst hfa
    go_enter Try.func95, Try.ntmps95
    go_wp2
    all_goals
      go_ret
      refine ⟨?_, below3 _ _ _ _⟩
      simp [dropHap]
  · have g1 : (fa == -1) = false := by simpa using hfa
    have g2 : (fa != -1) = true := by simpa using hfa
    go_enter Try.func95, Try.ntmps95
    go_wp2
    all_goals
      go_ret
      refine ⟨?_, below3 _ _ _ _⟩
      simp [dropHap, *]
      try omega

theorem box3 (w : World) (A B C : Obj) : (((w.alloc A).alloc B).alloc C).heap[w.heap.size]? = some A ∧ (((w.alloc A).alloc B).alloc C).heap[w.heap.size + 1]? = some B ∧ (((w.alloc A).alloc B).alloc C).heap[w.heap.size + 1 + 1]? = some C := by
  have h0 := heap_alloc_new w A
  have h1 := heap_alloc_new (w.alloc A) B
  have h2 := heap_alloc_new ((w.alloc A).alloc B) C
  simp only [World.size_alloc] at h1 h2
  refine ⟨?_, ?_, h2⟩
  · rw [heap_alloc_low _ _ _ (by simp; omega), heap_alloc_low _ _ _ (by simp)]; exact h0
  · rw [heap_alloc_low _ _ _ (by simp)]; exact h1

/-- What the box of a reading and a place need. -/
structure Sane (ps : List Pt) (r : Rl) : Prop where
  len : ps.length ≤ 20
  pos : 0 < ps.length
  st : ∀ i, i < ps.length → 0 ≤ (pt ps i).s ∧ (pt ps i).s ≤ 1000
  lo : ∀ i, i < ps.length → 0 ≤ (pt ps i).lo ∧ (pt ps i).hi ≤ 100000 ∧ (pt ps i).lo ≤ (pt ps i).hi
  k : 1 ≤ r.k ∧ r.k ≤ 1000
  o : 0 ≤ r.o ∧ r.o ≤ 1000
  d : 1 ≤ r.d ∧ r.d ≤ 100000

set_option maxRecDepth 100000 in
set_option maxHeartbeats 1000000 in
theorem meet_happens (b off cap : Nat) (ps : List Pt) (r : Rl) (fa fl tl : Int) (i : Nat) (w : World) (F : Sane ps r) (hi : i < ps.length) (hp : PtsIn w b off ps) :
    Calls Try.prog 97 #[.agg #[.slice (some ⟨b, off, none⟩) ps.length cap, .int .i64 r.d, .int .i64 r.k, .int .i64 r.o], .agg #[.int .i64 fa, .int .i64 fl], .agg #[.int .i64 i, .int .i64 tl]] w fun e w' => e = .returned (.bool (decide (tl ≤ lineI ps r i))) ∧ Below w.heap.size w w' := by
  have hlt : b < w.heap.size := block_lt_of_cell (hp 0 F.pos).1
  have hB := below3 w (.cells #[.slice (some ⟨b, off, none⟩) ps.length cap, .int .i64 r.d, .int .i64 r.k, .int .i64 r.o] 94 (0, 0)) (.cells #[.int .i64 fa, .int .i64 fl] 151 (0, 0)) (.cells #[.int .i64 i, .int .i64 tl] 151 (0, 0))
  obtain ⟨b0, -, b2⟩ := box3 w (.cells #[.slice (some ⟨b, off, none⟩) ps.length cap, .int .i64 r.d, .int .i64 r.k, .int .i64 r.o] 94 (0, 0)) (.cells #[.int .i64 fa, .int .i64 fl] 151 (0, 0)) (.cells #[.int .i64 i, .int .i64 tl] 151 (0, 0))
  have p0 := (hB.cell (p := ⟨b, off + i * 3, none⟩) hlt).trans (hp i hi).1
  have e : lineI ps r i = (r.k * ((pt ps i).s - r.o)) := rfl
  have h2 := F.st i hi
  have hlen := F.len
  have hk := F.k
  have ho := F.o
  rw [e]; clear e F hp
  have hm := mul_le_of r.k ((pt ps i).s - r.o) 1000 1000 (by omega) (by omega) (by omega) (by omega) (by omega)
  generalize r.d = d at *
  generalize r.k = k at *
  generalize r.o = o at *
  generalize (pt ps i).s = s at *
  generalize ps.length = n at *
  go_enter Try.func97, Try.ntmps97
  go_wp2
  generalize World.alloc _ _ = W at *
  have c0 := cell_of_row W w.heap.size 0 _ _ _ b0
  have c1 := cell_of_row W w.heap.size 1 _ _ _ b0
  have c2 := cell_of_row W w.heap.size 2 _ _ _ b0
  have c3 := cell_of_row W w.heap.size 3 _ _ _ b0
  have t0 := cell_of_row W (w.heap.size + 1 + 1) 0 _ _ _ b2
  have t1 := cell_of_row W (w.heap.size + 1 + 1) 1 _ _ _ b2
  simp at c0 c1 c2 c3 t0 t1
  have g0 := cell_regrown c0
  have g1 := cell_regrown c1
  have g2 := cell_regrown c2
  have g3 := cell_regrown c3
  have k0 := cell_regrown t0
  have k1 := cell_regrown t1
  have gp := cell_regrown p0
  clear c0 c1 c2 c3 p0 t0 t1 b0 b2
  refine wp_region_quiet_below (by kernel_rfl) (by kernel_rfl) ?_
  repeat (quiet_step (exact Calls.regrown_of (line_any b off n cap i d k o s _ (by omega) (by omega) (by omega) (by simpa using gp _ _) (by omega) (by omega) (by omega) (by omega) (by omega) (by omega))))
  refine wpQuiet_nil ?_
  intro _ hw'
  obtain ⟨⟨dq, osq⟩, hw''⟩ := hw'
  subst hw''
  go_wp2
  go_ret
  exact ⟨rfl, below_to hB (below_regrown W dq osq)⟩
end Go.Proofs.Ytfjlnejeffkdoaa
