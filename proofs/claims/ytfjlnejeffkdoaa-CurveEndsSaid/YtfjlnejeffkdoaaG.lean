/- The proof load: its contract. -/
import Derived.Test.YtfjlnejeffkdoaaF
namespace Go.Proofs.Ytfjlnejeffkdoaa
open Go.RowKit

theorem num_nonneg (a b p q : Int) (ha : 0 ≤ a) (hb : 0 ≤ b) (hp : p < a) (hq : b ≤ q) : 0 ≤ a * q - b * p := by
  rcases Int.le_total p 0 with h | h
  · have e1 : b * p ≤ 0 := Int.mul_nonpos_of_nonneg_of_nonpos hb h
    have e2 : 0 ≤ a * q := Int.mul_nonneg ha (Int.le_trans hb hq)
    omega
  · have e1 : a * b ≤ a * q := Int.mul_le_mul_of_nonneg_left hq ha
    have e2 : b * p ≤ b * a := Int.mul_le_mul_of_nonneg_left (by omega) hb
    rw [Int.mul_comm b a] at e2
    omega

def plI (ps : List Pt) (r : Rl) (t : List Int) : Nat → Int
  | 0 => ld t 0
  | i + 1 => (ld t i * lineI ps r (i + 1) - ld t (i + 1) * lineI ps r i) / (ld t i - lineI ps r i + lineI ps r (i + 1) - ld t (i + 1))

set_option maxHeartbeats 400000 in
theorem proof0 (v : Value) (r : Rl) (t : List Int) (w : World) (ht : t.length = 20) :
    Calls Try.prog 74 #[.agg (pullV v r t), .int .i64 0] w fun e w' => e = .returned (.int .i64 (ld t 0)) ∧ Below w.heap.size w w' := by
  have hB := box_below w (.cells (pullV v r t) 124)
  have hc := box_cell w (pullV v r t) 124
  have c4 := (hc (4 + 0)).trans (pullV_at v r t 0 (by omega))
  clear hc
  go_enter Try.func74, Try.ntmps74
  go_wp2
  go_ret
  exact ⟨rfl, hB⟩

set_option maxRecDepth 100000 in
set_option maxHeartbeats 1000000 in
theorem proof1 (b off cap : Nat) (ps : List Pt) (r : Rl) (t : List Int) (i : Nat) (w : World) (F : Fine ps r t) (hi : i + 1 < ps.length) (hp : PtsIn w b off ps)
    (hno : meetB ps r t i = false) (hyes : meetB ps r t (i + 1) = true) :
    Calls Try.prog 74 #[.agg (pullV (.slice (some ⟨b, off, none⟩) ps.length cap) r t), .int .i64 ((i : Int) + 1)] w fun e w' => e = .returned (.int .i64 (plI ps r t (i + 1))) ∧ Below w.heap.size w w' := by
  have hlt : b < w.heap.size := block_lt_of_cell (hp 0 F.pos).1
  have hB := box_below w (.cells (pullV (.slice (some ⟨b, off, none⟩) ps.length cap) r t) 124)
  have hc := box_cell w (pullV (.slice (some ⟨b, off, none⟩) ps.length cap) r t) 124
  have c0 := (hc 0).trans (pullV_0 _ r t)
  have c1 := (hc 1).trans (pullV_1 _ r t)
  have c2 := (hc 2).trans (pullV_2 _ r t)
  have c3 := (hc 3).trans (pullV_3 _ r t)
  have c4 := (hc (4 + i)).trans (pullV_at _ r t i (by have := F.tlen; have := F.len; omega))
  have c5 := (hc (4 + (i + 1))).trans (pullV_at _ r t (i + 1) (by have := F.tlen; have := F.len; omega))
  have p0 := (hB.cell (p := ⟨b, off + i * 3, none⟩) hlt).trans (hp i (by omega)).1
  have p1 := (hB.cell (p := ⟨b, off + (i + 1) * 3, none⟩) hlt).trans (hp (i + 1) hi).1
  have e : plI ps r t (i + 1) = (ld t i * (r.k * ((pt ps (i + 1)).s - r.o)) - ld t (i + 1) * (r.k * ((pt ps i).s - r.o))) / (ld t i - (r.k * ((pt ps i).s - r.o)) + (r.k * ((pt ps (i + 1)).s - r.o)) - ld t (i + 1)) := rfl
  have h1 := F.ld i
  have h1' := F.ld (i + 1)
  have h2 := F.st i (by omega)
  have h2' := F.st (i + 1) hi
  have hlen := F.len
  have hi20 : (i : Int) + 1 < 20 := by omega
  have hi19 : (i : Int) < 20 := by omega
  have hk := F.k
  have ho := F.o
  have hn : r.k * ((pt ps i).s - r.o) < ld t i := Int.not_le.1 (of_decide_eq_false hno)
  have hy : ld t (i + 1) ≤ r.k * ((pt ps (i + 1)).s - r.o) := of_decide_eq_true hyes
  have hm := mul_le_of r.k ((pt ps i).s - r.o) 1000 1000 (by omega) (by omega) (by omega) (by omega) (by omega)
  have hm' := mul_le_of r.k ((pt ps (i + 1)).s - r.o) 1000 1000 (by omega) (by omega) (by omega) (by omega) (by omega)
  rw [e]; clear e hc F hp hno hyes
  have hw1 : IntKind.i64.wrap ((i : Int) + 1 - 1) = i := by rw [Int.add_sub_cancel]; exact IntWalk.i64_in _ (by omega)
  have hw2 : IntKind.i64.wrap (i : Int) = i := IntWalk.i64_in _ (by omega)
  have hpz : (0 : Int) ≤ (i : Int) + 1 := by omega
  have htn : ((i : Int) + 1).toNat = i + 1 := by omega
  have hne : ((i : Int) + 1 == 0) = false := by rw [beq_eq_false_iff_ne]; omega
  have hil : (i : Int) + 1 < ps.length := by omega
  have L0 := fun (W : World) hs => line_any b off ps.length cap i r.d r.k r.o (pt ps i).s W (by omega) (by omega) (by omega) hs (by omega) (by omega) (by omega) (by omega) (by omega) (by omega)
  have L1 := fun (W : World) hs => line_any b off ps.length cap ((i : Int) + 1) r.d r.k r.o (pt ps (i + 1)).s W (by omega) (by omega) (by omega) hs (by omega) (by omega) (by omega) (by omega) (by omega) (by omega)
  have LL0 := Lib.hid L0
  have LL1 := Lib.hid L1
  clear L0 L1
  generalize r.d = d at *
  generalize (pt ps i).s = s at *
  generalize (pt ps (i + 1)).s = s' at *
  generalize r.k * (s - r.o) = p at *
  generalize r.k * (s' - r.o) = q at *
  generalize r.k = k at *
  generalize r.o = o at *
  generalize ld t i = x at *
  generalize ld t (i + 1) = y at *
  generalize ps.length = n at *
  have hx := mul_le_of x q 100000 1000000 (by omega) (by omega) (by omega) (by omega) (by omega)
  have hx' := mul_le_of y p 100000 1000000 (by omega) (by omega) (by omega) (by omega) (by omega)
  have hnn := num_nonneg x y p q (by omega) (by omega) hn hy
  go_enter Try.func74, Try.ntmps74
  go_wp2
  generalize World.alloc w _ = W at *
  have g0 := cell_regrown c0
  have g1 := cell_regrown c1
  have g2 := cell_regrown c2
  have g3 := cell_regrown c3
  have g4 := cell_regrown c4
  have g5 := cell_regrown c5
  have gp := cell_regrown p0
  have gq := cell_regrown p1
  clear c0 c1 c2 c3 c4 c5 p0 p1
  refine wp_region_quiet_below (by kernel_rfl) (by kernel_rfl) ?_
  repeat (quiet_step (first | (refine Calls.regrown_of (v := .int .i64 p) ?_; (with_reducible refine LL0.out _ ?_); simpa using gp _ _) | (refine Calls.regrown_of (v := .int .i64 q) ?_; (with_reducible refine LL1.out _ ?_); rw [htn]; exact gq _ _)))
  refine wpQuiet_nil ?_
  intro _ hw'
  obtain ⟨⟨dq, osq⟩, hw''⟩ := hw'
  subst hw''
  go_wp2
  go_ret
  exact ⟨rfl, below_to hB (below_regrown W dq osq)⟩

end Go.Proofs.Ytfjlnejeffkdoaa
