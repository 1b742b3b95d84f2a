/- A material, runs and a plan, opened to cells. No condition. -/
import Derived.Test.YtfijaafkagcmmaaR5
import Derived.ProofKit
import Derived.OpenShut
import Derived.Deep.Slices
import Derived.Deep.Fields
import Derived.Lib.SmallJoins
import Derived.Test.YtfijaafkagcmmaaRows
namespace Go.Proofs.Ytfijaafkagcmmaa
open Go.ChangeShapes Go.WideShapes Go.ChangeAt Go.RowKit Go.Deep

theorem len1 {α : Type} : ∀ {l : List α}, l.length = 1 → ∃ a, l = [a] := fun {l} h => by
  match l, h with
  | [a], _ => exact ⟨a, rfl⟩
theorem len2 {α : Type} : ∀ {l : List α}, l.length = 2 → ∃ a b, l = [a, b] := fun {l} h => by
  match l, h with
  | [a, b], _ => exact ⟨a, b, rfl⟩
theorem len3 {α : Type} : ∀ {l : List α}, l.length = 3 → ∃ a b c, l = [a, b, c] := fun {l} h => by
  match l, h with
  | [a, b, c], _ => exact ⟨a, b, c, rfl⟩

set_option maxRecDepth 100000
section
variable {H : Type} {enc : TypeId × Value → H} {w : World} {base fuel : Nat} {spare : Nat → Bool} {held : Bool}

theorem cells84 : Try.prog.cellsOf 84 = 3 := by kernel_rfl
theorem cells60 : Try.prog.cellsOf 60 = 2 := by kernel_rfl
theorem cells3 : Try.prog.cellsOf 3 = 1 := by kernel_rfl
theorem cells24 : Try.prog.cellsOf 24 = 1 := by kernel_rfl
theorem cells22 : Try.prog.cellsOf 22 = 1 := by kernel_rfl
theorem cells52 : Try.prog.cellsOf 52 = 1 := by kernel_rfl
theorem cells90 : Try.prog.cellsOf 90 = 3 := by kernel_rfl

theorem range_cells {cs : List Value} {x : DataW H × List MemPlace} (h : DataW.trod enc Try.prog w base spare held fuel 60 cs = some x) : ∃ lo hi, cs = [.int .i64 lo, .int .i64 hi] := by
  obtain ⟨xs, n, _, _, hl, hxl, hf⟩ := DataW.trod_struct Try.underlying60 h
  rw [cells60] at hl
  · obtain ⟨c0, c1, rfl⟩ := len2 hl
    obtain ⟨y0, y1, rfl⟩ := len2 hxl
    have f0 : DataW.trod enc Try.prog w base spare held n 3 (([c0, c1].drop 0).take (Try.prog.cellsOf 3)) = [y0, y1][0]? := hf 0 _ rfl
    have f1 : DataW.trod enc Try.prog w base spare held n 3 (([c0, c1].drop 1).take (Try.prog.cellsOf 3)) = [y0, y1][1]? := hf 1 _ rfl
    rw [cells3] at f0 f1
    obtain ⟨a, e0, _⟩ := DataW.trod_int Try.underlying3 (show DataW.trod enc Try.prog w base spare held n 3 [c0] = some y0 from f0)
    obtain ⟨b, e1, _⟩ := DataW.trod_int Try.underlying3 (show DataW.trod enc Try.prog w base spare held n 3 [c1] = some y1 from f1)
    simp only [List.cons.injEq, and_true] at e0 e1
    subst e0 e1
    exact ⟨a, b, rfl⟩
theorem segment_cells {cs : List Value} {x : DataW H × List MemPlace} (h : DataW.trod enc Try.prog w base spare held fuel 84 cs = some x) : ∃ s lo hi, cs = [.int .i64 s, .int .i64 lo, .int .i64 hi] := by
  obtain ⟨xs, n, _, _, hl, hxl, hf⟩ := DataW.trod_struct Try.underlying84 h
  rw [cells84] at hl
  · obtain ⟨c0, c1, c2, rfl⟩ := len3 hl
    obtain ⟨y0, y1, rfl⟩ := len2 hxl
    have f0 : DataW.trod enc Try.prog w base spare held n 3 (([c0, c1, c2].drop 0).take (Try.prog.cellsOf 3)) = [y0, y1][0]? := hf 0 _ rfl
    have f1 : DataW.trod enc Try.prog w base spare held n 60 (([c0, c1, c2].drop 1).take (Try.prog.cellsOf 60)) = [y0, y1][1]? := hf 1 _ rfl
    rw [cells3] at f0
    rw [cells60] at f1
    obtain ⟨a, e0, _⟩ := DataW.trod_int Try.underlying3 (show DataW.trod enc Try.prog w base spare held n 3 [c0] = some y0 from f0)
    obtain ⟨b, c, e1⟩ := range_cells (show DataW.trod enc Try.prog w base spare held n 60 [c1, c2] = some y1 from f1)
    simp only [List.cons.injEq, and_true] at e0 e1
    obtain ⟨e1, e2⟩ := e1
    subst e0 e1 e2
    exact ⟨a, b, c, rfl⟩

theorem open_rgs {cs : List Value} {x : DataW H × List MemPlace} (h : DataW.trod enc Try.prog w base spare held fuel 22 cs = some x) : ∃ v ms, cs = [v] ∧ RgsV w.heap.size w v ms := by
  rcases open_slice Try.underlying22 h with ⟨hcs, _⟩ | ⟨a, len, cap, m, n, D, Pl, hcs, hb, hl, hm, hmm, hx, hi⟩
  · exact ⟨_, [], hcs, none, 0, rfl, fun h0 => absurd h0 (by decide)⟩
  have hlm : len ≤ m := by rw [hmm]; split <;> omega
  have hel : ∀ i, i < len → ∃ r : Rg, w.cell? (a.add (i * 2)) = some (.int .i64 r.lo) ∧ w.cell? (a.add (i * 2 + 1)) = some (.int .i64 r.hi) := by
    intro i him
    obtain ⟨cs', hc, ht⟩ := hi i (by omega)
    rw [cells60] at hc
    obtain ⟨lo, hi', rfl⟩ := range_cells ht
    obtain ⟨_, _, hat⟩ := World.cells?_some hc
    have a0 := hat 0 (by decide)
    have a1 := hat 1 (by decide)
    rw [add_add] at a0 a1
    exact ⟨⟨lo, hi'⟩, a0, a1⟩
  obtain ⟨b, off, spot⟩ := a
  have hex : ∃ F : Nat → Rg, ∀ i, i < len → w.cell? (Addr.add ⟨b, off, spot⟩ (i * 2)) = some (.int .i64 (F i).lo) ∧ w.cell? (Addr.add ⟨b, off, spot⟩ (i * 2 + 1)) = some (.int .i64 (F i).hi) :=
    ⟨fun i => if hh : i < len then (hel i hh).choose else ⟨0, 0⟩, fun i hh => by simp only [dif_pos hh]; exact (hel i hh).choose_spec⟩
  obtain ⟨F, hF⟩ := hex
  have eL : ((List.range len).map F).length = len := by simp
  refine ⟨_, (List.range len).map F, hcs, _, cap, by rw [eL], fun h0 => ?_⟩
  rw [eL] at h0
  have hspot : spot = none := by
    have h1 := (hF 0 h0).1
    simpa [Addr.add] using World.cell?_spot h1
  subst hspot
  refine ⟨b, off, rfl, ?_, fun i hi' => ?_⟩
  · have h1 := (hF 0 h0).1
    simp [Go.WideShapes.add_plain] at h1
    exact block_lt_of_cell h1
  · have hil : i < len := by simpa using hi'
    have ep : rg ((List.range len).map F) i = F i := by simp [rg, hil]
    rw [ep]
    have := hF i hil
    simpa [Go.WideShapes.add_plain, Nat.add_assoc] using this

theorem open_segs {cs : List Value} {x : DataW H × List MemPlace} (h : DataW.trod enc Try.prog w base spare held fuel 52 cs = some x) : ∃ v ss, cs = [v] ∧ SegsV w.heap.size w v ss := by
  rcases open_slice Try.underlying52 h with ⟨hcs, _⟩ | ⟨a, len, cap, m, n, D, Pl, hcs, hb, hl, hm, hmm, hx, hi⟩
  · exact ⟨_, [], hcs, none, 0, rfl, fun h0 => absurd h0 (by decide)⟩
  have hlm : len ≤ m := by rw [hmm]; split <;> omega
  have hel : ∀ i, i < len → ∃ s : Sg, w.cell? (a.add (i * 3)) = some (.int .i64 s.b) ∧ w.cell? (a.add (i * 3 + 1)) = some (.int .i64 s.h.lo) ∧ w.cell? (a.add (i * 3 + 2)) = some (.int .i64 s.h.hi) := by
    intro i him
    obtain ⟨cs', hc, ht⟩ := hi i (by omega)
    rw [cells84] at hc
    obtain ⟨s, lo, hi', rfl⟩ := segment_cells ht
    obtain ⟨_, _, hat⟩ := World.cells?_some hc
    have a0 := hat 0 (by decide)
    have a1 := hat 1 (by decide)
    have a2 := hat 2 (by decide)
    rw [add_add] at a0 a1 a2
    exact ⟨⟨s, ⟨lo, hi'⟩⟩, a0, a1, a2⟩
  obtain ⟨b, off, spot⟩ := a
  have hex : ∃ F : Nat → Sg, ∀ i, i < len → w.cell? (Addr.add ⟨b, off, spot⟩ (i * 3)) = some (.int .i64 (F i).b) ∧ w.cell? (Addr.add ⟨b, off, spot⟩ (i * 3 + 1)) = some (.int .i64 (F i).h.lo) ∧ w.cell? (Addr.add ⟨b, off, spot⟩ (i * 3 + 2)) = some (.int .i64 (F i).h.hi) :=
    ⟨fun i => if hh : i < len then (hel i hh).choose else ⟨0, ⟨0, 0⟩⟩, fun i hh => by simp only [dif_pos hh]; exact (hel i hh).choose_spec⟩
  obtain ⟨F, hF⟩ := hex
  have eL : ((List.range len).map F).length = len := by simp
  refine ⟨_, (List.range len).map F, hcs, _, cap, by rw [eL], fun h0 => ?_⟩
  rw [eL] at h0
  have hspot : spot = none := by
    have h1 := (hF 0 h0).1
    simpa [Addr.add] using World.cell?_spot h1
  subst hspot
  refine ⟨b, off, rfl, ?_, fun i hi' => ?_⟩
  · have h1 := (hF 0 h0).1
    simp [Go.WideShapes.add_plain] at h1
    exact block_lt_of_cell h1
  · have hil : i < len := by simpa using hi'
    have ep : sg ((List.range len).map F) i = F i := by simp [sg, hil]
    rw [ep]
    have := hF i hil
    simpa [Go.WideShapes.add_plain, Nat.add_assoc] using this

theorem run_cells {cs : List Value} {x : DataW H × List MemPlace} (h : DataW.trod enc Try.prog w base spare held fuel 90 cs = some x) : ∃ sv lo hi ss, cs = [sv, .int .i64 lo, .int .i64 hi] ∧ SegsV w.heap.size w sv ss := by
  obtain ⟨xs, n, _, _, hl, hxl, hf⟩ := DataW.trod_struct Try.underlying90 h
  rw [cells90] at hl
  · obtain ⟨c0, c1, c2, rfl⟩ := len3 hl
    obtain ⟨y0, y1, rfl⟩ := len2 hxl
    have f0 : DataW.trod enc Try.prog w base spare held n 52 (([c0, c1, c2].drop 0).take (Try.prog.cellsOf 52)) = [y0, y1][0]? := hf 0 _ rfl
    have f1 : DataW.trod enc Try.prog w base spare held n 60 (([c0, c1, c2].drop 1).take (Try.prog.cellsOf 60)) = [y0, y1][1]? := hf 1 _ rfl
    rw [cells52] at f0
    rw [cells60] at f1
    obtain ⟨v, ss, e0, hs⟩ := open_segs (show DataW.trod enc Try.prog w base spare held n 52 [c0] = some y0 from f0)
    obtain ⟨b, c, e1⟩ := range_cells (show DataW.trod enc Try.prog w base spare held n 60 [c1, c2] = some y1 from f1)
    simp only [List.cons.injEq, and_true] at e0 e1
    obtain ⟨e1, e2⟩ := e1
    subst e0 e1 e2
    exact ⟨_, b, c, ss, rfl, hs⟩

theorem open_runs {cs : List Value} {x : DataW H × List MemPlace} (h : DataW.trod enc Try.prog w base spare held fuel 25 cs = some x) : ∃ v rs, cs = [v] ∧ RunsV w.heap.size w v rs := by
  rcases open_slice Try.underlying25 h with ⟨hcs, _⟩ | ⟨a, len, cap, m, n, D, Pl, hcs, hb, hl, hm, hmm, hx, hi⟩
  · exact ⟨_, [], hcs, none, 0, rfl, fun h0 => absurd h0 (by decide)⟩
  have hlm : len ≤ m := by rw [hmm]; split <;> omega
  have hel : ∀ i, i < len → ∃ r : Rn, ∃ sv, w.cell? (a.add (i * 3)) = some sv ∧ w.cell? (a.add (i * 3 + 1)) = some (.int .i64 r.seen.lo) ∧ w.cell? (a.add (i * 3 + 2)) = some (.int .i64 r.seen.hi) ∧ SegsV w.heap.size w sv r.ss := by
    intro i him
    obtain ⟨cs', hc, ht⟩ := hi i (by omega)
    rw [cells90] at hc
    obtain ⟨sv, lo, hi', ss, rfl, hs⟩ := run_cells ht
    obtain ⟨_, _, hat⟩ := World.cells?_some hc
    have a0 := hat 0 (by decide)
    have a1 := hat 1 (by decide)
    have a2 := hat 2 (by decide)
    rw [add_add] at a0 a1 a2
    exact ⟨⟨ss, ⟨lo, hi'⟩⟩, sv, a0, a1, a2, hs⟩
  obtain ⟨b, off, spot⟩ := a
  have hex : ∃ F : Nat → Rn, ∀ i, i < len → ∃ sv, w.cell? (Addr.add ⟨b, off, spot⟩ (i * 3)) = some sv ∧ w.cell? (Addr.add ⟨b, off, spot⟩ (i * 3 + 1)) = some (.int .i64 (F i).seen.lo) ∧ w.cell? (Addr.add ⟨b, off, spot⟩ (i * 3 + 2)) = some (.int .i64 (F i).seen.hi) ∧ SegsV w.heap.size w sv (F i).ss :=
    ⟨fun i => if hh : i < len then (hel i hh).choose else ⟨[], ⟨0, 0⟩⟩, fun i hh => by simp only [dif_pos hh]; exact (hel i hh).choose_spec⟩
  obtain ⟨F, hF⟩ := hex
  have eL : ((List.range len).map F).length = len := by simp
  refine ⟨_, (List.range len).map F, hcs, _, cap, by rw [eL], fun h0 => ?_⟩
  rw [eL] at h0
  have hspot : spot = none := by
    obtain ⟨_, h1, _⟩ := hF 0 h0
    simpa [Addr.add] using World.cell?_spot h1
  subst hspot
  refine ⟨b, off, rfl, ?_, fun i hi' => ?_⟩
  · obtain ⟨_, h1, _⟩ := hF 0 h0
    simp [Go.WideShapes.add_plain] at h1
    exact block_lt_of_cell h1
  · have hil : i < len := by simpa using hi'
    have ep : rn ((List.range len).map F) i = F i := by simp [rn, hil]
    rw [ep]
    have := hF i hil
    simpa [Go.WideShapes.add_plain, Nat.add_assoc] using this

theorem open_material {r : Reach} {b0 : Nat} {v : Value} {d : DataW H} {p : List MemPlace} (hv : Value.okWide Try.prog w r b0 24 v) (h : DataW.Trod enc Try.prog w base spare held 24 v d p) :
    ∃ mv ms, v = .agg #[mv] ∧ RgsV w.heap.size w mv ms := by
  obtain ⟨cs, rfl, hsz⟩ := okWide_struct Try.underlying24 hv
  rw [cells24] at hsz
  obtain ⟨l⟩ := cs
  · obtain ⟨c0, rfl⟩ := len1 (show l.length = 1 from hsz)
    obtain ⟨fuel, hf⟩ := h
    obtain ⟨xs, n, _, _, _, hxl, hg⟩ := DataW.trod_struct Try.underlying24 hf
    · obtain ⟨y0, rfl⟩ := len1 (show xs.length = 1 from hxl)
      have f0 : DataW.trod enc Try.prog w base spare held n 22 (([c0].drop 0).take (Try.prog.cellsOf 22)) = [y0][0]? := hg 0 _ rfl
      rw [cells22] at f0
      obtain ⟨v, ms, e, hp⟩ := open_rgs (show DataW.trod enc Try.prog w base spare held n 22 [c0] = some y0 from f0)
      simp only [List.cons.injEq, and_true] at e
      subst e
      exact ⟨_, ms, rfl, hp⟩
theorem open_run_list {r : Reach} {b0 : Nat} {v : Value} {d : DataW H} {p : List MemPlace} (hv : Value.okWide Try.prog w r b0 25 v) (h : DataW.Trod enc Try.prog w base spare held 25 v d p) :
    ∃ rs, RunsV w.heap.size w v rs := by
  obtain ⟨a0, len, cap, rfl⟩ := okWide_slice Try.underlying25 hv
  obtain ⟨fuel, hf⟩ := h
  obtain ⟨v, rs, e, hp⟩ := open_runs hf
  simp only [Value.cells, List.cons.injEq, and_true] at e
  subst e
  exact ⟨rs, hp⟩
theorem open_plan {r : Reach} {b0 : Nat} {v : Value} {d : DataW H} {p : List MemPlace} (hv : Value.okWide Try.prog w r b0 52 v) (h : DataW.Trod enc Try.prog w base spare held 52 v d p) :
    ∃ ss, SegsV w.heap.size w v ss := by
  obtain ⟨a0, len, cap, rfl⟩ := okWide_slice Try.underlying52 hv
  obtain ⟨fuel, hf⟩ := h
  obtain ⟨v, ss, e, hp⟩ := open_segs hf
  simp only [Value.cells, List.cons.injEq, and_true] at e
  subst e
  exact ⟨ss, hp⟩
end
end Go.Proofs.Ytfijaafkagcmmaa
