/- An album, opened to cells. No condition. -/
import Derived.Test.YtplmlmmjfkbabaaADJ
import Derived.ProofKit
import Derived.OpenShut
import Derived.Deep.Slices
import Derived.Deep.Fields
import Derived.Lib.SmallJoins
import Derived.Test.YtplmlmmjfkbabaaRows
namespace Go.Proofs.Ytplmlmmjfkbabaa
open Go.ChangeShapes Go.WideShapes Go.ChangeAt Go.RowKit Go.Deep

theorem len1 {α : Type} : ∀ {l : List α}, l.length = 1 → ∃ a, l = [a] := fun {l} h => by
  match l, h with
  | [a], _ => exact ⟨a, rfl⟩
theorem len2 {α : Type} : ∀ {l : List α}, l.length = 2 → ∃ a b, l = [a, b] := fun {l} h => by
  match l, h with
  | [a, b], _ => exact ⟨a, b, rfl⟩
theorem len4 {α : Type} : ∀ {l : List α}, l.length = 4 → ∃ a b c d, l = [a, b, c, d] := fun {l} h => by
  match l, h with
  | [a, b, c, d], _ => exact ⟨a, b, c, d, rfl⟩
theorem knob_own : ownKnob Try.prog.godebug = none := by kernel_rfl
theorem laid_out : laidOutB Try.prog = true := by kernel_rfl

set_option maxRecDepth 100000
section
variable {H : Type} {enc : TypeId × Value → H} {w : World} {base fuel : Nat} {spare : Nat → Bool} {held : Bool}

theorem cells73 : Try.prog.cellsOf 73 = 4 := by kernel_rfl
theorem cells3 : Try.prog.cellsOf 3 = 1 := by kernel_rfl
theorem cells24 : Try.prog.cellsOf 24 = 2 := by kernel_rfl
theorem cells22 : Try.prog.cellsOf 22 = 1 := by kernel_rfl

theorem cm_cells {cs : List Value} {x : DataW H × List MemPlace} (h : DataW.trod enc Try.prog w base spare held fuel 73 cs = some x) : ∃ a b c d, cs = [.int .i64 a, .int .i64 b, .int .i64 c, .int .i64 d] := by
  obtain ⟨xs, n, _, _, hl, hxl, hf⟩ := DataW.trod_struct Try.underlying73 h
  rw [cells73] at hl
  · obtain ⟨c0, c1, c2, c3, rfl⟩ := len4 hl
    obtain ⟨y0, y1, y2, y3, rfl⟩ := len4 hxl
    have f0 : DataW.trod enc Try.prog w base spare held n 3 (([c0, c1, c2, c3].drop 0).take (Try.prog.cellsOf 3)) = [y0, y1, y2, y3][0]? := hf 0 _ rfl
    have f1 : DataW.trod enc Try.prog w base spare held n 3 (([c0, c1, c2, c3].drop 1).take (Try.prog.cellsOf 3)) = [y0, y1, y2, y3][1]? := hf 1 _ rfl
    have f2 : DataW.trod enc Try.prog w base spare held n 3 (([c0, c1, c2, c3].drop 2).take (Try.prog.cellsOf 3)) = [y0, y1, y2, y3][2]? := hf 2 _ rfl
    have f3 : DataW.trod enc Try.prog w base spare held n 3 (([c0, c1, c2, c3].drop 3).take (Try.prog.cellsOf 3)) = [y0, y1, y2, y3][3]? := hf 3 _ rfl
    rw [cells3] at f0 f1 f2 f3
    obtain ⟨a, e0, _⟩ := DataW.trod_int Try.underlying3 (show DataW.trod enc Try.prog w base spare held n 3 [c0] = some y0 from f0)
    obtain ⟨b, e1, _⟩ := DataW.trod_int Try.underlying3 (show DataW.trod enc Try.prog w base spare held n 3 [c1] = some y1 from f1)
    obtain ⟨c, e2, _⟩ := DataW.trod_int Try.underlying3 (show DataW.trod enc Try.prog w base spare held n 3 [c2] = some y2 from f2)
    obtain ⟨d, e3, _⟩ := DataW.trod_int Try.underlying3 (show DataW.trod enc Try.prog w base spare held n 3 [c3] = some y3 from f3)
    simp only [List.cons.injEq, and_true] at e0 e1 e2 e3
    subst e0 e1 e2 e3
    exact ⟨a, b, c, d, rfl⟩

theorem open_cms {cs : List Value} {x : DataW H × List MemPlace} (h : DataW.trod enc Try.prog w base spare held fuel 22 cs = some x) : ∃ v ms, cs = [v] ∧ CmsV w.heap.size w v ms := by
  rcases open_slice Try.underlying22 h with ⟨hcs, _⟩ | ⟨a, len, cap, m, n, D, Pl, hcs, hb, hl, hm, hmm, hx, hi⟩
  · exact ⟨_, [], hcs, none, 0, rfl, fun h0 => absurd h0 (by decide)⟩
  have hlm : len ≤ m := by rw [hmm]; split <;> omega
  have hel : ∀ i, i < len → ∃ r : Cm, w.cell? (a.add (i * 4)) = some (.int .i64 r.l) ∧ w.cell? (a.add (i * 4 + 1)) = some (.int .i64 r.r) ∧ w.cell? (a.add (i * 4 + 2)) = some (.int .i64 r.lo) ∧ w.cell? (a.add (i * 4 + 3)) = some (.int .i64 r.hi) := by
    intro i him
    obtain ⟨cs', hc, ht⟩ := hi i (by omega)
    rw [cells73] at hc
    obtain ⟨l, r, lo, hi', rfl⟩ := cm_cells ht
    obtain ⟨_, _, hat⟩ := World.cells?_some hc
    have a0 := hat 0 (by decide)
    have a1 := hat 1 (by decide)
    have a2 := hat 2 (by decide)
    have a3 := hat 3 (by decide)
    rw [add_add] at a0 a1 a2 a3
    exact ⟨⟨l, r, lo, hi'⟩, a0, a1, a2, a3⟩
  obtain ⟨b, off, spot⟩ := a
  have hex : ∃ F : Nat → Cm, ∀ i, i < len → w.cell? (Addr.add ⟨b, off, spot⟩ (i * 4)) = some (.int .i64 (F i).l) ∧ w.cell? (Addr.add ⟨b, off, spot⟩ (i * 4 + 1)) = some (.int .i64 (F i).r) ∧ w.cell? (Addr.add ⟨b, off, spot⟩ (i * 4 + 2)) = some (.int .i64 (F i).lo) ∧ w.cell? (Addr.add ⟨b, off, spot⟩ (i * 4 + 3)) = some (.int .i64 (F i).hi) :=
    ⟨fun i => if hh : i < len then (hel i hh).choose else ⟨0, 0, 0, 0⟩, fun i hh => by simp only [dif_pos hh]; exact (hel i hh).choose_spec⟩
  obtain ⟨F, hF⟩ := hex
  have eL : ((List.range len).map F).length = len := by simp
  refine ⟨_, (List.range len).map F, hcs, _, cap, by rw [eL], fun h0 => ?_⟩
  rw [eL] at h0
  have hspot : spot = none := by
    have h1 := (hF 0 h0).1
    simpa [Addr.add] using World.cell?_spot h1
  subst hspot
  refine ⟨b, off, rfl, ?_, fun i hi' => ?_⟩
  · have h1 := (hF 0 h0).1
    simp [Go.WideShapes.add_plain] at h1
    exact block_lt_of_cell h1
  · have hil : i < len := by simpa using hi'
    have ep : cm ((List.range len).map F) i = F i := by simp [cm, hil]
    rw [ep]
    have := hF i hil
    simpa [Go.WideShapes.add_plain, Nat.add_assoc] using this

theorem open_album {r : Reach} {b0 : Nat} {v : Value} {d : DataW H} {p : List MemPlace} (hv : Value.okWide Try.prog w r b0 24 v) (h : DataW.Trod enc Try.prog w base spare held 24 v d p) :
    ∃ n mv ms, v = .agg #[.int .i64 n, mv] ∧ CmsV w.heap.size w mv ms := by
  obtain ⟨cs, rfl, hsz⟩ := okWide_struct Try.underlying24 hv
  rw [cells24] at hsz
  obtain ⟨l⟩ := cs
  · obtain ⟨c0, c1, rfl⟩ := len2 (show l.length = 2 from hsz)
    obtain ⟨fuel, hf⟩ := h
    obtain ⟨xs, n, _, _, _, hxl, hg⟩ := DataW.trod_struct Try.underlying24 hf
    · obtain ⟨y0, y1, rfl⟩ := len2 (show xs.length = 2 from hxl)
      have f0 : DataW.trod enc Try.prog w base spare held n 3 (([c0, c1].drop 0).take (Try.prog.cellsOf 3)) = [y0, y1][0]? := hg 0 _ rfl
      have f1 : DataW.trod enc Try.prog w base spare held n 22 (([c0, c1].drop 1).take (Try.prog.cellsOf 22)) = [y0, y1][1]? := hg 1 _ rfl
      rw [cells3] at f0
      rw [cells22] at f1
      obtain ⟨a, e0, _⟩ := DataW.trod_int Try.underlying3 (show DataW.trod enc Try.prog w base spare held n 3 [c0] = some y0 from f0)
      obtain ⟨v, ms, e, hp⟩ := open_cms (show DataW.trod enc Try.prog w base spare held n 22 [c1] = some y1 from f1)
      simp only [List.cons.injEq, and_true] at e e0
      subst e e0
      exact ⟨a, _, ms, rfl, hp⟩
theorem open_byte {r : Reach} {b0 : Nat} {v : Value} {d : DataW H} {p : List MemPlace} (hv : Value.okWide Try.prog w r b0 5 v) (h : DataW.Trod enc Try.prog w base spare held 5 v d p) :
    ∃ a, v = .int .u8 a ∧ d = .lit (.int .u8 a) ∧ p = [] ∧ (Lit.int .u8 a).wf = true ∧ 0 ≤ a ∧ a < 256 := by
  obtain ⟨a, rfl, rfl, rfl, wa⟩ := open_int Try.underlying5 hv h
  refine ⟨a, rfl, rfl, rfl, wa, ?_⟩
  simp [Lit.wf, IntKind.min, IntKind.max, IntKind.signed, IntKind.bits] at wa
  omega
end
end Go.Proofs.Ytplmlmmjfkbabaa
