/- For GrainNames: its albums and answers, as plain facts and in memory. No condition. -/
import Derived.Test.YtplmlmmjfkbabaaUJ
import Derived.Test.YtplmlmmjfkbabaaSL
namespace Go.Proofs.Ytplmlmmjfkbabaa
open Go.RowKit Go.Shelf
attribute [local irreducible] arrV wpQuiet

def oddL : List Cm := shownL ++ [⟨0, 2, 5, 9⟩]
def sameL : List Cm := [⟨0, -1, 40, 45⟩, ⟨1, 1, 3, 5⟩, ⟨2, 1, -2, 4⟩, ⟨2, -1, 0, 44⟩]
def wideL : List Cm := [⟨0, -1, 40, 45⟩, ⟨1, 0, 3, 101⟩, ⟨2, 1, -2, 4⟩, ⟨2, -1, 0, 44⟩]
def manyL : List Cm := List.replicate 13 ⟨0, 0, 0, 0⟩
theorem odd_ok : AlbOk 3 oddL := fault_ok (by decide)
theorem odd_none : distO oddL = none := by
  have h : (distO oddL).isSome = false := by decide +kernel
  cases e : distO oddL with
  | none => rfl
  | some d => rw [e] at h; cases h
theorem odd_doubt : doubtL oddL = [1] := by decide +kernel
theorem names_bet : -shownD 1 2 = -5 ∧ shownD 2 1 = -3 := by decide +kernel
theorem names_tell : tellE 3 shownL 0 [3, 2, 1] = 0 ∧ tellR shownL [1, 2, 3] 0 = some ⟨0, 43⟩ ∧ tellE 3 shownL 1 [0, 1] = 0 ∧ tellR shownL [1, 0] 1 = some ⟨43, 50⟩ ∧ tellE 3 shownL 2 [1, 2] = 0 ∧ tellR shownL [2, 1] 2 = some ⟨1, 100⟩ ∧ tellE 3 oddL 0 [] = 0 ∧ tellR oddL [] 0 = some ⟨0, 100⟩ := by decide +kernel
theorem names_errs : tellE 3 shownL 0 [2] = 10 ∧ tellE 3 shownL 1 [1, 0, 1] = 10 ∧ tellE 3 shownL 0 (List.replicate 21 0) = 3 ∧ tellE 3 shownL 0 [4] = 10 := by decide +kernel
theorem names_prove : proveB 3 shownL [40, 44, 42] = true ∧ proveB 3 shownL [40, 42, 42] = false ∧ proveB 3 shownL [40, 44] = false := by decide +kernel
theorem names_fault : faultA 3 manyL = 3 ∧ faultA 3 sameL = 1 ∧ faultA 3 wideL = 1 ∧ faultA 9 [] = 1 ∧ faultA 0 [] = 0 := by decide +kernel
theorem names_lay : layE 3 oddL [0, 3] = 2 ∧ finestE 0 [] = 7 ∧ layE 3 shownL [-1] = 2 := by decide +kernel

theorem Tells_ok {n : Int} {v : Value} {ca : Option Addr} {cc : Nat} {cs : List Cm} {p : Int} {xs : List Int} {w : World} {lo hi : Int} (hl : cs.length ≤ maxLen) (hV : CmsV w.heap.size w v cs) (hcc : xs.length ≤ cc) (hX : IntsV w.heap.size w (.slice ca xs.length cc) xs) (hE : tellE n cs p xs = 0) (hT : tellR cs xs.reverse p = some ⟨lo, hi⟩) :
    Calls Try.prog 36 #[.agg #[.int .i64 n, v], .int .i64 p, .slice ca xs.length cc] w fun e w' => e = .returned (.tuple #[.agg #[.int .i64 lo, .int .i64 hi], .int .i64 0]) ∧ Below w.heap.size w w' := by
  refine (Tells_any w.heap.size n v ca cc cs p xs w hl hcc hV hX (Nat.le_refl _)).mono ?_
  rintro e w' ⟨⟨lo2, hi2, rfl, h1, -⟩, hb⟩
  have h2 := h1 hE
  rw [hT] at h2
  cases h2
  exact ⟨by rw [hE], hb⟩
theorem Tells_err {n : Int} {v : Value} {ca : Option Addr} {cc : Nat} {cs : List Cm} {p : Int} {xs : List Int} {w : World} {k : Int} (hl : cs.length ≤ maxLen) (hV : CmsV w.heap.size w v cs) (hcc : xs.length ≤ cc) (hX : IntsV w.heap.size w (.slice ca xs.length cc) xs) (hE : tellE n cs p xs = k) (hk : k ≠ 0) :
    Calls Try.prog 36 #[.agg #[.int .i64 n, v], .int .i64 p, .slice ca xs.length cc] w fun e w' => e = .returned (.tuple #[.agg #[.int .i64 0, .int .i64 0], .int .i64 k]) ∧ Below w.heap.size w w' := by
  refine (Tells_any w.heap.size n v ca cc cs p xs w hl hcc hV hX (Nat.le_refl _)).mono ?_
  rintro e w' ⟨⟨lo2, hi2, rfl, -, h1⟩, hb⟩
  obtain ⟨rfl, rfl⟩ := h1 (by rw [hE]; exact hk)
  exact ⟨by rw [hE], hb⟩
theorem ints_row1 {w : World} {g : Nat} {xs : List Int} {k : Nat} (h : w.heap[g]? = some (.cells (xs.map iV).toArray 3 (0, 0))) (hk : xs.length = k) : IntsV w.heap.size w (.slice (some ⟨g, 0, none⟩) k k) xs :=
  ⟨_, k, by rw [hk], fun _ => ⟨g, 0, rfl, lt_of_block h, fun i hi => by
    rw [Nat.zero_add, cell_of_row w g i _ _ _ h]
    simp [ld, hi, iV]⟩⟩
theorem no_cms (m : Nat) (w : World) : CmsV m w (.slice none 0 0) [] := ⟨none, 0, rfl, fun h => absurd h (by decide)⟩
set_option maxRecDepth 100000 in
set_option maxHeartbeats 1000000 in
theorem shown_own (w : World) :
    Calls Try.prog 41 #[] w fun e w' => (∃ g, e = .returned (.agg #[.int .i64 3, .slice (some ⟨g, 0, none⟩) 4 4]) ∧ w.heap.size ≤ g ∧ w'.heap[g]? = some (.cells (flatC shownL).toArray 67 (0, 0))) ∧ Below w.heap.size w w' := by
  have hcells : (#[.int .i64 0, .int .i64 (-1), .int .i64 40, .int .i64 45, .int .i64 1, .int .i64 0, .int .i64 3, .int .i64 5, .int .i64 2, .int .i64 1, .int .i64 (-2), .int .i64 4, .int .i64 2, .int .i64 (-1), .int .i64 0, .int .i64 44] : Array Value) = (flatC shownL).toArray := rfl
  go_enter Try.func41, Try.ntmps41
  go_wp2
  refine bodyPost_ret (v := .agg #[.int .i64 3, .slice (some ⟨w.heap.size + 1, 0, none⟩) 4 4]) ?_ rfl ⟨⟨_, rfl, Nat.le_succ _, (box2 w _ _).2⟩, below2 _ _ _⟩
  simp [results, Try.results41, go_sem]
theorem shown_cms {w : World} {g : Nat} (h : w.heap[g]? = some (.cells (flatC shownL).toArray 67 (0, 0))) : CmsV w.heap.size w (.slice (some ⟨g, 0, none⟩) 4 4) shownL := block_cms (t := 67) h
theorem shown_row {w : World} {g base : Nat} (hb : base ≤ g) (h : w.heap[g]? = some (.cells (flatC shownL).toArray 67 (0, 0))) : w.ownsRow base 67 4 (.slice (some ⟨g, 0, none⟩) 4 4) 4 (flatC shownL) :=
  ⟨rfl, .inr ⟨g, 4, _, rfl, hb, h, Nat.le_refl _, by decide, rfl, rfl⟩⟩
end Go.Proofs.Ytplmlmmjfkbabaa
