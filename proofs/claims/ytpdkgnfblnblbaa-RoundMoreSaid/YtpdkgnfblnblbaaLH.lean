/- A round, opened to cells. No condition. -/
import Derived.Test.YtpdkgnfblnblbaaLE
import Derived.ProofKit
import Derived.OpenShut
import Derived.Deep.Slices
import Derived.Deep.Fields
import Derived.Lib.SmallJoins
import Derived.Test.YtpdkgnfblnblbaaRows
namespace Go.Proofs.Ytpdkgnfblnblbaa
open Go.ChangeShapes Go.WideShapes Go.ChangeAt Go.RowKit Go.Deep

theorem len2 {α : Type} : ∀ {l : List α}, l.length = 2 → ∃ a b, l = [a, b] := fun {l} h => by
  match l, h with
  | [a, b], _ => exact ⟨a, b, rfl⟩
theorem len4 {α : Type} : ∀ {l : List α}, l.length = 4 → ∃ a b c d, l = [a, b, c, d] := fun {l} h => by
  match l, h with
  | [a, b, c, d], _ => exact ⟨a, b, c, d, rfl⟩
theorem knob_own : ownKnob Try.prog.godebug = none := by kernel_rfl
theorem laid_out : laidOutB Try.prog = true := by kernel_rfl

set_option maxRecDepth 100000
section
variable {H : Type} {enc : TypeId × Value → H} {w : World} {base fuel : Nat} {spare : Nat → Bool} {held : Bool}

theorem cells44 : Try.prog.cellsOf 44 = 2 := by kernel_rfl
theorem cells70 : Try.prog.cellsOf 70 = 2 := by kernel_rfl
theorem cells3 : Try.prog.cellsOf 3 = 1 := by kernel_rfl
theorem cells26 : Try.prog.cellsOf 26 = 4 := by kernel_rfl
theorem cells24 : Try.prog.cellsOf 24 = 1 := by kernel_rfl
theorem cells23 : Try.prog.cellsOf 23 = 1 := by kernel_rfl
theorem cells22 : Try.prog.cellsOf 22 = 1 := by kernel_rfl

theorem range_cells {cs : List Value} {x : DataW H × List MemPlace} (h : DataW.trod enc Try.prog w base spare held fuel 44 cs = some x) : ∃ lo hi, cs = [.int .i64 lo, .int .i64 hi] := by
  obtain ⟨xs, n, _, _, hl, hxl, hf⟩ := DataW.trod_struct Try.underlying44 h
  rw [cells44] at hl
  · obtain ⟨c0, c1, rfl⟩ := len2 hl
    obtain ⟨y0, y1, rfl⟩ := len2 hxl
    have f0 : DataW.trod enc Try.prog w base spare held n 3 (([c0, c1].drop 0).take (Try.prog.cellsOf 3)) = [y0, y1][0]? := hf 0 _ rfl
    have f1 : DataW.trod enc Try.prog w base spare held n 3 (([c0, c1].drop 1).take (Try.prog.cellsOf 3)) = [y0, y1][1]? := hf 1 _ rfl
    rw [cells3] at f0 f1
    obtain ⟨a, e0, _⟩ := DataW.trod_int Try.underlying3 (show DataW.trod enc Try.prog w base spare held n 3 [c0] = some y0 from f0)
    obtain ⟨b, e1, _⟩ := DataW.trod_int Try.underlying3 (show DataW.trod enc Try.prog w base spare held n 3 [c1] = some y1 from f1)
    simp only [List.cons.injEq, and_true] at e0 e1
    subst e0 e1
    exact ⟨a, b, rfl⟩

theorem open_rgs {cs : List Value} {x : DataW H × List MemPlace} (h : DataW.trod enc Try.prog w base spare held fuel 22 cs = some x) : ∃ v ms, cs = [v] ∧ RgsV w.heap.size w v ms := by
  rcases open_slice Try.underlying22 h with ⟨hcs, _⟩ | ⟨a, len, cap, m, n, D, Pl, hcs, hb, hl, hm, hmm, hx, hi⟩
  · exact ⟨_, [], hcs, none, 0, rfl, fun h0 => absurd h0 (by decide)⟩
  have hlm : len ≤ m := by rw [hmm]; split <;> omega
  have hel : ∀ i, i < len → ∃ r : Rg, w.cell? (a.add (i * 2)) = some (.int .i64 r.lo) ∧ w.cell? (a.add (i * 2 + 1)) = some (.int .i64 r.hi) := by
    intro i him
    obtain ⟨cs', hc, ht⟩ := hi i (by omega)
    rw [cells44] at hc
    obtain ⟨lo, hi', rfl⟩ := range_cells ht
    obtain ⟨_, _, hat⟩ := World.cells?_some hc
    have a0 := hat 0 (by decide)
    have a1 := hat 1 (by decide)
    rw [add_add] at a0 a1
    exact ⟨⟨lo, hi'⟩, a0, a1⟩
  obtain ⟨b, off, spot⟩ := a
  have hex : ∃ F : Nat → Rg, ∀ i, i < len → w.cell? (Addr.add ⟨b, off, spot⟩ (i * 2)) = some (.int .i64 (F i).lo) ∧ w.cell? (Addr.add ⟨b, off, spot⟩ (i * 2 + 1)) = some (.int .i64 (F i).hi) :=
    ⟨fun i => if hh : i < len then (hel i hh).choose else ⟨0, 0⟩, fun i hh => by simp only [dif_pos hh]; exact (hel i hh).choose_spec⟩
  obtain ⟨F, hF⟩ := hex
  have eL : ((List.range len).map F).length = len := by simp
  refine ⟨_, (List.range len).map F, hcs, _, cap, by rw [eL], fun h0 => ?_⟩
  rw [eL] at h0
  have hspot : spot = none := by
    have h1 := (hF 0 h0).1
    simpa [Addr.add] using World.cell?_spot h1
  subst hspot
  refine ⟨b, off, rfl, ?_, fun i hi' => ?_⟩
  · have h1 := (hF 0 h0).1
    simp [Go.WideShapes.add_plain] at h1
    exact block_lt_of_cell h1
  · have hil : i < len := by simpa using hi'
    have ep : rg ((List.range len).map F) i = F i := by simp [rg, hil]
    rw [ep]
    have := hF i hil
    simpa [Go.WideShapes.add_plain, Nat.add_assoc] using this

theorem open_numbers {cs : List Value} {x : DataW H × List MemPlace} (h : DataW.trod enc Try.prog w base spare held fuel 23 cs = some x) : ∃ v xs, cs = [v] ∧ IntsV w.heap.size w v xs := by
  rcases open_ints Try.underlying23 Try.underlying3 cells3 h with ⟨hcs, _⟩ | ⟨a, len, cap, zs, hcs, hb, hl, hcm, hlen, _, hcell, _⟩
  · exact ⟨_, [], hcs, none, 0, rfl, fun h0 => absurd h0 (by decide)⟩
  · have hzl : len ≤ zs.length := by rw [hlen]; split <;> omega
    have eL : (zs.take len).length = len := by simp; omega
    refine ⟨_, zs.take len, hcs, some a, cap, by rw [eL], fun h0 => ?_⟩
    rw [eL] at h0 ⊢
    obtain ⟨b, off, spot⟩ := a
    have hc0 := hcell 0 (by omega)
    have hspot : spot = none := by simpa [Addr.add] using World.cell?_spot hc0
    subst hspot
    refine ⟨b, off, rfl, ?_, fun i hi' => ?_⟩
    · simp [Go.WideShapes.add_plain] at hc0
      exact block_lt_of_cell hc0
    · have := hcell i (by omega)
      simp only [Go.WideShapes.add_plain] at this
      rw [this]
      have hiz : i < zs.length := by omega
      simp [ld, List.getElem?_take, hi', hiz]

theorem lab_cells {cs : List Value} {x : DataW H × List MemPlace} (h : DataW.trod enc Try.prog w base spare held fuel 70 cs = some x) : ∃ t sv ss, cs = [.int .i64 t, sv] ∧ IntsV w.heap.size w sv ss := by
  obtain ⟨xs, n, _, _, hl, hxl, hf⟩ := DataW.trod_struct Try.underlying70 h
  rw [cells70] at hl
  · obtain ⟨c0, c1, rfl⟩ := len2 hl
    obtain ⟨y0, y1, rfl⟩ := len2 hxl
    have f0 : DataW.trod enc Try.prog w base spare held n 3 (([c0, c1].drop 0).take (Try.prog.cellsOf 3)) = [y0, y1][0]? := hf 0 _ rfl
    have f1 : DataW.trod enc Try.prog w base spare held n 23 (([c0, c1].drop 1).take (Try.prog.cellsOf 23)) = [y0, y1][1]? := hf 1 _ rfl
    rw [cells3] at f0
    rw [cells23] at f1
    obtain ⟨a, e0, _⟩ := DataW.trod_int Try.underlying3 (show DataW.trod enc Try.prog w base spare held n 3 [c0] = some y0 from f0)
    obtain ⟨v, ss, e1, hs⟩ := open_numbers (show DataW.trod enc Try.prog w base spare held n 23 [c1] = some y1 from f1)
    simp only [List.cons.injEq, and_true] at e0 e1
    subst e0 e1
    exact ⟨a, _, ss, rfl, hs⟩

theorem open_labs {cs : List Value} {x : DataW H × List MemPlace} (h : DataW.trod enc Try.prog w base spare held fuel 24 cs = some x) : ∃ v rs, cs = [v] ∧ LabsV w.heap.size w v rs := by
  rcases open_slice Try.underlying24 h with ⟨hcs, _⟩ | ⟨a, len, cap, m, n, D, Pl, hcs, hb, hl, hm, hmm, hx, hi⟩
  · exact ⟨_, [], hcs, none, 0, rfl, fun h0 => absurd h0 (by decide)⟩
  have hlm : len ≤ m := by rw [hmm]; split <;> omega
  have hel : ∀ i, i < len → ∃ r : Lb, w.cell? (a.add (i * 2)) = some (.int .i64 r.tol) ∧ ∃ sv, w.cell? (a.add (i * 2 + 1)) = some sv ∧ IntsV w.heap.size w sv r.rs := by
    intro i him
    obtain ⟨cs', hc, ht⟩ := hi i (by omega)
    rw [cells70] at hc
    obtain ⟨t, sv, ss, rfl, hs⟩ := lab_cells ht
    obtain ⟨_, _, hat⟩ := World.cells?_some hc
    have a0 := hat 0 (by decide)
    have a1 := hat 1 (by decide)
    rw [add_add] at a0 a1
    exact ⟨⟨t, ss⟩, a0, sv, a1, hs⟩
  obtain ⟨b, off, spot⟩ := a
  have hex : ∃ F : Nat → Lb, ∀ i, i < len → w.cell? (Addr.add ⟨b, off, spot⟩ (i * 2)) = some (.int .i64 (F i).tol) ∧ ∃ sv, w.cell? (Addr.add ⟨b, off, spot⟩ (i * 2 + 1)) = some sv ∧ IntsV w.heap.size w sv (F i).rs :=
    ⟨fun i => if hh : i < len then (hel i hh).choose else ⟨0, []⟩, fun i hh => by simp only [dif_pos hh]; exact (hel i hh).choose_spec⟩
  obtain ⟨F, hF⟩ := hex
  have eL : ((List.range len).map F).length = len := by simp
  refine ⟨_, (List.range len).map F, hcs, _, cap, by rw [eL], fun h0 => ?_⟩
  rw [eL] at h0
  have hspot : spot = none := by
    have h1 := (hF 0 h0).1
    simpa [Addr.add] using World.cell?_spot h1
  subst hspot
  refine ⟨b, off, rfl, ?_, fun i hi' => ?_⟩
  · have h1 := (hF 0 h0).1
    simp [Go.WideShapes.add_plain] at h1
    exact block_lt_of_cell h1
  · have hil : i < len := by simpa using hi'
    have ep : lb ((List.range len).map F) i = F i := by simp [lb, hil]
    rw [ep]
    have := hF i hil
    simpa [Go.WideShapes.add_plain, Nat.add_assoc] using this

theorem open_round {r : Reach} {b0 : Nat} {v : Value} {d : DataW H} {p : List MemPlace} (hv : Value.okWide Try.prog w r b0 26 v) (h : DataW.Trod enc Try.prog w base spare held 26 v d p) :
    ∃ q R, v = rdV q R ∧ RdV w.heap.size w q R := by
  obtain ⟨cs, rfl, hsz⟩ := okWide_struct Try.underlying26 hv
  rw [cells26] at hsz
  obtain ⟨l⟩ := cs
  · obtain ⟨c0, c1, c2, c3, rfl⟩ := len4 (show l.length = 4 from hsz)
    obtain ⟨fuel, hf⟩ := h
    obtain ⟨xs, n, _, _, _, hxl, hg⟩ := DataW.trod_struct Try.underlying26 hf
    · obtain ⟨y0, y1, y2, y3, rfl⟩ := len4 (show xs.length = 4 from hxl)
      have f0 : DataW.trod enc Try.prog w base spare held n 22 (([c0, c1, c2, c3].drop 0).take (Try.prog.cellsOf 22)) = [y0, y1, y2, y3][0]? := hg 0 _ rfl
      have f1 : DataW.trod enc Try.prog w base spare held n 23 (([c0, c1, c2, c3].drop 1).take (Try.prog.cellsOf 23)) = [y0, y1, y2, y3][1]? := hg 1 _ rfl
      have f2 : DataW.trod enc Try.prog w base spare held n 3 (([c0, c1, c2, c3].drop 2).take (Try.prog.cellsOf 3)) = [y0, y1, y2, y3][2]? := hg 2 _ rfl
      have f3 : DataW.trod enc Try.prog w base spare held n 24 (([c0, c1, c2, c3].drop 3).take (Try.prog.cellsOf 24)) = [y0, y1, y2, y3][3]? := hg 3 _ rfl
      rw [cells22] at f0
      rw [cells23] at f1
      rw [cells3] at f2
      rw [cells24] at f3
      obtain ⟨v0, lots, e0, g0⟩ := open_rgs (show DataW.trod enc Try.prog w base spare held n 22 [c0] = some y0 from f0)
      obtain ⟨v1, smp, e1, g1⟩ := open_numbers (show DataW.trod enc Try.prog w base spare held n 23 [c1] = some y1 from f1)
      obtain ⟨sp, e2, _⟩ := DataW.trod_int Try.underlying3 (show DataW.trod enc Try.prog w base spare held n 3 [c2] = some y2 from f2)
      obtain ⟨v3, labs, e3, g3⟩ := open_labs (show DataW.trod enc Try.prog w base spare held n 24 [c3] = some y3 from f3)
      simp only [List.cons.injEq, and_true] at e0 e1 e2 e3
      subst e0 e1 e2 e3
      have k0 := g0
      have k1 := g1
      have k3 := g3
      obtain ⟨la, lc, rfl, -⟩ := k0
      obtain ⟨sa, sc, rfl, -⟩ := k1
      obtain ⟨ba, bc, rfl, -⟩ := k3
      exact ⟨⟨la, lc, sa, sc, ba, bc⟩, ⟨lots, smp, sp, labs⟩, rfl, ⟨g0, g1, g3⟩⟩
theorem open_byte {r : Reach} {b0 : Nat} {v : Value} {d : DataW H} {p : List MemPlace} (hv : Value.okWide Try.prog w r b0 5 v) (h : DataW.Trod enc Try.prog w base spare held 5 v d p) :
    ∃ a, v = .int .u8 a ∧ d = .lit (.int .u8 a) ∧ p = [] ∧ (Lit.int .u8 a).wf = true ∧ 0 ≤ a ∧ a < 256 := by
  obtain ⟨a, rfl, rfl, rfl, wa⟩ := open_int Try.underlying5 hv h
  refine ⟨a, rfl, rfl, rfl, wa, ?_⟩
  simp [Lit.wf, IntKind.min, IntKind.max, IntKind.signed, IntKind.bits] at wa
  omega
end
end Go.Proofs.Ytpdkgnfblnblbaa
