/- Grades, Between and Finest of valid albums. Condition: the album is valid. -/
import Derived.Test.YtplmlmmjfkbabaaAC
namespace Go.Proofs.Ytplmlmmjfkbabaa
open Go.RowKit Go.Shelf
attribute [local irreducible] arrV wpQuiet mat shl

theorem AlbOk.maxLen {n : Int} {cs : List Cm} (h : AlbOk n cs) : cs.length ≤ maxLen := by have := h.len; simp [Go.maxLen]; omega
theorem pics2 {n p q : Int} (hp : 0 ≤ p ∧ p < n) (hq : 0 ≤ q ∧ q < n) : picsB n [p, q] = true := by rw [bet_pics]; simp [picB, hp, hq]

theorem Between_none {n : Int} {v : Value} {cs : List Cm} {p q : Int} {w : World} (hA : AlbOk n cs) (hV : CmsV w.heap.size w v cs) (hp : 0 ≤ p ∧ p < n) (hq : 0 ≤ q ∧ q < n) (hd : distO cs = none) :
    Calls Try.prog 25 #[.agg #[.int .i64 n, v], .int .i64 p, .int .i64 q] w fun e w' => e = .returned (.tuple #[.agg #[.int .i64 0, .int .i64 0], .int .i64 9]) ∧ Below w.heap.size w w' := by
  refine (Between_any w.heap.size n v cs p q w hA.maxLen hV (Nat.le_refl _)).mono ?_
  rintro e w' ⟨⟨x, y, rfl, h1, -⟩, hb⟩
  have hE := lay_none hA (pics2 hp hq) hd
  obtain ⟨rfl, rfl⟩ := h1 (by rw [hE]; decide)
  exact ⟨by rw [hE], hb⟩
theorem Between_some {n : Int} {v : Value} {cs : List Cm} {p q : Int} {w : World} {d : Dm} (hA : AlbOk n cs) (hV : CmsV w.heap.size w v cs) (hp : 0 ≤ p ∧ p < n) (hq : 0 ≤ q ∧ q < n) (hd : distO cs = some d) :
    Calls Try.prog 25 #[.agg #[.int .i64 n, v], .int .i64 p, .int .i64 q] w fun e w' => e = .returned (.tuple #[.agg #[.int .i64 (-d (pl p) (pl q)), .int .i64 (d (pl q) (pl p))], .int .i64 0]) ∧ Below w.heap.size w w' := by
  refine (Between_any w.heap.size n v cs p q w hA.maxLen hV (Nat.le_refl _)).mono ?_
  rintro e w' ⟨⟨x, y, rfl, -, h1⟩, hb⟩
  have hE := lay_some hA (pics2 hp hq) hd
  obtain ⟨d', hd', rfl, rfl⟩ := h1 hE
  rw [hd] at hd'
  obtain rfl : d = d' := by injection hd'
  exact ⟨by rw [hE], hb⟩
theorem Grades_none {n : Int} {v : Value} {cs : List Cm} {w : World} (hA : AlbOk n cs) (hV : CmsV w.heap.size w v cs) (hd : distO cs = none) :
    Calls Try.prog 21 #[.agg #[.int .i64 n, v]] w fun e w' => e = .returned (.tuple #[.slice none 0 0, .int .i64 9]) ∧ Below w.heap.size w w' := by
  refine (Grades_any w.heap.size n v cs w hA.maxLen hV (Nat.le_refl _)).mono ?_
  rintro e w' ⟨⟨r, rfl, h1, -⟩, hb⟩
  have hE := lay_none hA (pics_nil n) hd
  obtain rfl := h1 (by rw [hE]; decide)
  exact ⟨by rw [hE], hb⟩
theorem Grades_some {n : Nat} {v : Value} {cs : List Cm} {w : World} {d : Dm} (hA : AlbOk n cs) (hV : CmsV w.heap.size w v cs) (hd : distO cs = some d) :
    Calls Try.prog 21 #[.agg #[.int .i64 n, v]] w fun e w' => (∃ r, e = .returned (.tuple #[r, .int .i64 0]) ∧ RgsV w'.heap.size w' r (gradesL d n)) ∧ Below w.heap.size w w' := by
  refine (Grades_any w.heap.size n v cs w hA.maxLen hV (Nat.le_refl _)).mono ?_
  rintro e w' ⟨⟨r, rfl, -, h1⟩, hb⟩
  have hE := lay_some hA (pics_nil n) hd
  obtain ⟨d', N, hd', hN, ho⟩ := h1 hE
  rw [hd] at hd'
  obtain rfl : d = d' := by injection hd'
  obtain rfl : n = N := by omega
  exact ⟨⟨r, by rw [hE], own_rgs (l := gradesL d n) (by rw [grades_len]; exact ho)⟩, hb⟩
theorem Finest_none {n : Int} {v : Value} {cs : List Cm} {w : World} (hA : AlbOk n cs) (hV : CmsV w.heap.size w v cs) (hd : distO cs = none) :
    Calls Try.prog 33 #[.agg #[.int .i64 n, v]] w fun e w' => e = .returned (.tuple #[.slice none 0 0, .int .i64 9]) ∧ Below w.heap.size w w' := by
  refine (Finest_any w.heap.size n v cs w hA.maxLen hV (Nat.le_refl _)).mono ?_
  rintro e w' ⟨⟨r, rfl, h1, -⟩, hb⟩
  have hE : finestE n cs = 9 := by unfold finestE; rw [lay_none hA (pics_nil n) hd]; rfl
  obtain rfl := h1 (by rw [hE]; decide)
  exact ⟨by rw [hE], hb⟩
theorem Finest_some {n : Nat} {v : Value} {cs : List Cm} {w : World} {d : Dm} (hA : AlbOk n cs) (h0 : 0 < n) (hV : CmsV w.heap.size w v cs) (hd : distO cs = some d) :
    Calls Try.prog 33 #[.agg #[.int .i64 n, v]] w fun e w' => (∃ r, e = .returned (.tuple #[r, .int .i64 0]) ∧ IntsV w'.heap.size w' r (intsL (finestL d n))) ∧ Below w.heap.size w w' := by
  refine (Finest_any w.heap.size n v cs w hA.maxLen hV (Nat.le_refl _)).mono ?_
  rintro e w' ⟨⟨r, rfl, -, h1⟩, hb⟩
  have hE : finestE n cs = 0 := by unfold finestE; rw [lay_some hA (pics_nil n) hd, if_pos rfl, if_neg (by omega)]
  obtain ⟨d', N, hd', hN, -, ho⟩ := h1 hE
  rw [hd] at hd'
  obtain rfl : d = d' := by injection hd'
  obtain rfl : n = N := by omega
  exact ⟨⟨r, by rw [hE], own_ints (l := intsL (finestL d n)) (by simpa [intsL] using ho)⟩, hb⟩
end Go.Proofs.Ytplmlmmjfkbabaa
