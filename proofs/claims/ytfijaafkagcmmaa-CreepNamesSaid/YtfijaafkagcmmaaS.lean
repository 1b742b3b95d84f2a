/- Small contracts of ranges, segments and ends. No condition. -/
import Derived.Test.YtfijaafkagcmmaaK
import Derived.Deep.QuietTactic
import Derived.Laws.StructEq
import Derived.Maps.Keyed
namespace Go.Proofs.Ytfijaafkagcmmaa
open Go.RowKit

def hasB (lo hi n : Int) : Bool := decide (lo ≤ n ∧ n ≤ hi)
def withinB (lo hi olo ohi : Int) : Bool := decide (olo ≤ lo ∧ lo ≤ hi ∧ hi ≤ ohi)
def bandB (n : Nat) (b : Int) : Bool := decide (0 ≤ b ∧ b < n)

set_option maxHeartbeats 400000 in
theorem has_any (lo hi n : Int) (w : World) :
    Calls Try.prog 88 #[.agg #[.int .i64 lo, .int .i64 hi], .int .i64 n] w fun e w' => e = .returned (.bool (hasB lo hi n)) ∧ Below w.heap.size w w' := by
  go_enter Try.func88, Try.ntmps88
  go_wp2
  all_goals
    go_ret
    refine ⟨ret_bool ?_, box_below _ _⟩
    simp [hasB, *]
    try omega
set_option maxHeartbeats 400000 in
theorem empty_any (lo hi : Int) (w : World) :
    Calls Try.prog 103 #[.agg #[.int .i64 lo, .int .i64 hi]] w fun e w' => e = .returned (.bool (decide (hi < lo))) ∧ Below w.heap.size w w' := by
  go_enter Try.func103, Try.ntmps103
  go_wp2
  all_goals
    go_ret
    refine ⟨ret_bool ?_, box_below _ _⟩
    simp [*]
    try omega

theorem after2 {w w1 : World} {a b c d : Value} {t t' : TypeId} (h : Below ((w.alloc (.cells #[a, b] t)).alloc (.cells #[c, d] t')).heap.size ((w.alloc (.cells #[a, b] t)).alloc (.cells #[c, d] t')) w1) :
    w1.cell? ⟨w.heap.size, 0, none⟩ = some a ∧ w1.cell? ⟨w.heap.size, 1, none⟩ = some b ∧ w1.cell? ⟨w.heap.size + 1, 0, none⟩ = some c ∧ w1.cell? ⟨w.heap.size + 1, 1, none⟩ = some d :=
  ⟨(h.cell (p := ⟨w.heap.size, 0, none⟩) (by simp; omega)).trans (by simp [go_sem]), (h.cell (p := ⟨w.heap.size, 1, none⟩) (by simp; omega)).trans (by simp [go_sem]),
    (h.cell (p := ⟨w.heap.size + 1, 0, none⟩) (by simp)).trans (by simp [go_sem]), (h.cell (p := ⟨w.heap.size + 1, 1, none⟩) (by simp)).trans (by simp [go_sem])⟩
theorem after1 {w w1 : World} {a b : Value} {t : TypeId} (h : Below (w.alloc (.cells #[a, b] t)).heap.size (w.alloc (.cells #[a, b] t)) w1) :
    w1.cell? ⟨w.heap.size, 0, none⟩ = some a ∧ w1.cell? ⟨w.heap.size, 1, none⟩ = some b :=
  ⟨(h.cell (p := ⟨w.heap.size, 0, none⟩) (by simp)).trans (by simp [go_sem]), (h.cell (p := ⟨w.heap.size, 1, none⟩) (by simp)).trans (by simp [go_sem])⟩

set_option maxHeartbeats 400000 in
theorem cut_any (lo hi lo2 hi2 : Int) (w : World) :
    Calls Try.prog 102 #[.agg #[.int .i64 lo, .int .i64 hi], .agg #[.int .i64 lo2, .int .i64 hi2]] w fun e w' => e = .returned (.agg #[.int .i64 (max lo lo2), .int .i64 (min hi hi2)]) ∧ Below w.heap.size w w' := by
  go_enter Try.func102, Try.ntmps102
  go_wp2
  all_goals
    refine bodyPost_ret (v := .agg #[.int .i64 (max lo lo2), .int .i64 (min hi hi2)]) ?_ rfl ⟨rfl, below3 _ _ _ _⟩
    simp [results, Try.results102, go_sem]
    try omega
set_option maxHeartbeats 400000 in
theorem meets_any (lo hi lo2 hi2 : Int) (w : World) :
    Calls Try.prog 77 #[.agg #[.int .i64 lo, .int .i64 hi], .agg #[.int .i64 lo2, .int .i64 hi2]] w fun e w' => e = .returned (.bool (!decide (min hi hi2 < max lo lo2))) ∧ Below w.heap.size w w' := by
  have e0 := empty_any (max lo lo2) (min hi hi2)
  have E0 := Lib.hid e0
  clear e0
  generalize decide (min hi hi2 < max lo lo2) = d at *
  go_enter Try.func77, Try.ntmps77
  go_wp2_with (first
    | (go_at_call 102; refine (cut_any _ _ _ _ _).mono ?_; rintro e w1 ⟨rfl, hb1⟩)
    | (go_at_call 103; refine (E0.out _).mono ?_; rintro e w2 ⟨rfl, hb2⟩))
  go_ret
  exact ⟨rfl, below_to (below_to (below2 _ _ _) hb1) hb2⟩
noncomputable def fl50 : Array Field := #[{ name := "Lo", type := 3, offset := 0, embedded := false, tag := "", pkgPath := "", byteOffset := 0 }, { name := "Hi", type := 3, offset := 1, embedded := false, tag := "", pkgPath := "", byteOffset := 8 }]
theorem f50 : Try.prog.fieldsOf 50 = fl50 := by kernel_rfl
theorem s50f : Try.prog.underlying 50 = some (.struct (Try.prog.fieldsOf 50)) := by kernel_rfl
theorem st50 : Try.prog.stoodInHeld 50 = false := by kernel_rfl
theorem pk3 : Try.prog.plainKey 3 = true := by kernel_rfl
theorem part0 (a b : Int) (w : World) : (part 3 #[Value.int .i64 a, .int .i64 b] 0).run Try.prog w = .ok (.int .i64 a) w := run_part_plain w pk3 rfl
theorem part1 (a b : Int) (w : World) : (part 3 #[Value.int .i64 a, .int .i64 b] 1).run Try.prog w = .ok (.int .i64 b) w := run_part_plain w pk3 rfl
theorem eqr50 (a b c d : Int) (w : World) : (binOp .eql 50 (.agg #[.int .i64 a, .int .i64 b]) (.agg #[.int .i64 c, .int .i64 d])).run Try.prog w = .ok (.bool (decide (a = c) && decide (b = d))) w := by
  have h : (Op.equal 50 (.agg #[.int .i64 a, .int .i64 b]) (.agg #[.int .i64 c, .int .i64 d])).run Try.prog w = .ok (decide (a = c) && decide (b = d)) w := by
    show (Op.equalIn (9999 + 1) 50 _ _).run Try.prog w = _
    rw [run_equalIn_struct w 9999 50 _ _ s50f st50, f50]
    have e : ∀ a b : Int, (Op.equalIn 9999 3 (.int .i64 a) (.int .i64 b)).run Try.prog w = .ok (a == b) w := fun a b => run_equalIn_int w 9998 3 .i64 .i64 a b Try.underlying3
    simp only [fl50, Op.eqFields, Sem.run_bind, Sem.run_ite, part0, part1, Result.andThen_ok, e, Sem.run_pure, show ("Lo" ≠ "_") = True from by simp, show ("Hi" ≠ "_") = True from by simp, if_true]
    cases h1 : (a == c) <;> cases h2 : (b == d) <;> simp at h1 h2 <;> simp [h1, h2]
  simp [binOp, Sem.run_bind, h, Result.andThen_ok, Sem.run_pure]
theorem max_min_eq (lo hi lo2 hi2 : Int) (h : ¬ hi < lo) : (decide (max lo lo2 = lo) && decide (min hi hi2 = hi)) = withinB lo hi lo2 hi2 := by
  rw [Bool.eq_iff_iff]
  simp only [Bool.and_eq_true, decide_eq_true_eq, withinB]
  omega
set_option maxHeartbeats 400000 in
theorem within_any (lo hi lo2 hi2 : Int) (w : World) :
    Calls Try.prog 105 #[.agg #[.int .i64 lo, .int .i64 hi], .agg #[.int .i64 lo2, .int .i64 hi2]] w fun e w' => e = .returned (.bool (withinB lo hi lo2 hi2)) ∧ Below w.heap.size w w' := by
  have hB := below2 w (.cells #[.int .i64 lo, .int .i64 hi] 50) (.cells #[.int .i64 lo2, .int .i64 hi2] 50)
  obtain ⟨k0, k1, k2, k3⟩ := after2 (Below.refl _ ((w.alloc (.cells #[.int .i64 lo, .int .i64 hi] 50)).alloc (.cells #[.int .i64 lo2, .int .i64 hi2] 50)))
  have E0 := Lib.hid (empty_any lo hi)
  have C0 := Lib.hid (cut_any lo hi lo2 hi2)
  have hE := max_min_eq lo hi lo2 hi2
  have e1 : hi < lo → withinB lo hi lo2 hi2 = false := fun h => by simp [withinB]; omega
  generalize withinB lo hi lo2 hi2 = z at *
  go_enter Try.func105, Try.ntmps105
  go_wp2
  generalize World.alloc (World.alloc w _) _ = W at *
  have g0 := cell_regrown k0
  have g1 := cell_regrown k1
  have g2 := cell_regrown k2
  have g3 := cell_regrown k3
  clear k0 k1 k2 k3
  by_cases h : hi < lo
  · have e0 : decide (hi < lo) = true := decide_eq_true h
    rw [e0] at E0
    obtain rfl := e1 h
    refine wp_region_quiet_below (by kernel_rfl) (by kernel_rfl) ?_
    repeat (quiet_step (first | with_reducible exact Calls.regrown_of (E0.out _) | with_reducible exact Calls.regrown_of (C0.out _)))
    refine wpQuiet_nil ?_
    intro _ hw'
    obtain ⟨⟨dq, osq⟩, hw''⟩ := hw'
    subst hw''
    go_wp2
    go_ret
    exact ⟨rfl, below_to hB (below_regrown W dq osq)⟩
  · have e0 : decide (hi < lo) = false := decide_eq_false h
    rw [e0] at E0
    have hz := hE (by simpa using h)
    have heq := eqr50 (max lo lo2) (min hi hi2) lo hi
    rw [hz] at heq
    clear hE hz e1
    refine wp_region_quiet_below (by kernel_rfl) (by kernel_rfl) ?_
    repeat (quiet_step (first | with_reducible exact Calls.regrown_of (E0.out _) | with_reducible exact Calls.regrown_of (C0.out _)))
    refine wpQuiet_nil ?_
    intro _ hw'
    obtain ⟨⟨dq, osq⟩, hw''⟩ := hw'
    subst hw''
    go_wp2
    go_ret
    exact ⟨rfl, below_to hB (below_regrown W dq osq)⟩
end Go.Proofs.Ytfijaafkagcmmaa
