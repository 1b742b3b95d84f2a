/- A curve, a rule and a list of words, opened to cells. No condition. -/
import Derived.Test.YtfjlnejeffkdoaaG
import Derived.ProofKit
import Derived.OpenShut
import Derived.Deep.Slices
import Derived.Deep.Fields
import Derived.Lib.SmallJoins
namespace Go.Proofs.Ytfjlnejeffkdoaa
open Go.ChangeShapes Go.WideShapes Go.ChangeAt Go.RowKit Go.Deep

theorem len1 {α : Type} : ∀ {l : List α}, l.length = 1 → ∃ a, l = [a] := fun {l} h => by
  match l, h with
  | [a], _ => exact ⟨a, rfl⟩
theorem len2 {α : Type} : ∀ {l : List α}, l.length = 2 → ∃ a b, l = [a, b] := fun {l} h => by
  match l, h with
  | [a, b], _ => exact ⟨a, b, rfl⟩
theorem len3 {α : Type} : ∀ {l : List α}, l.length = 3 → ∃ a b c, l = [a, b, c] := fun {l} h => by
  match l, h with
  | [a, b, c], _ => exact ⟨a, b, c, rfl⟩

set_option maxRecDepth 100000
section
variable {H : Type} {enc : TypeId × Value → H} {w : World} {base fuel : Nat} {spare : Nat → Bool} {held : Bool}

theorem cells84 : Try.prog.cellsOf 84 = 3 := by kernel_rfl
theorem cells54 : Try.prog.cellsOf 54 = 2 := by kernel_rfl
theorem cells3 : Try.prog.cellsOf 3 = 1 := by kernel_rfl
theorem cells24 : Try.prog.cellsOf 24 = 1 := by kernel_rfl
theorem cells22 : Try.prog.cellsOf 22 = 1 := by kernel_rfl
theorem cells26 : Try.prog.cellsOf 26 = 3 := by kernel_rfl
theorem cells89 : Try.prog.cellsOf 89 = 1 := by kernel_rfl

theorem load_cells {cs : List Value} {x : DataW H × List MemPlace} (h : DataW.trod enc Try.prog w base spare held fuel 54 cs = some x) : ∃ lo hi, cs = [.int .i64 lo, .int .i64 hi] := by
  obtain ⟨xs, n, _, _, hl, hxl, hf⟩ := DataW.trod_struct Try.underlying54 h
  rw [cells54] at hl
  · obtain ⟨c0, c1, rfl⟩ := len2 hl
    obtain ⟨y0, y1, rfl⟩ := len2 hxl
    have f0 : DataW.trod enc Try.prog w base spare held n 3 (([c0, c1].drop 0).take (Try.prog.cellsOf 3)) = [y0, y1][0]? := hf 0 _ rfl
    have f1 : DataW.trod enc Try.prog w base spare held n 3 (([c0, c1].drop 1).take (Try.prog.cellsOf 3)) = [y0, y1][1]? := hf 1 _ rfl
    rw [cells3] at f0 f1
    obtain ⟨a, e0, _⟩ := DataW.trod_int Try.underlying3 (show DataW.trod enc Try.prog w base spare held n 3 [c0] = some y0 from f0)
    obtain ⟨b, e1, _⟩ := DataW.trod_int Try.underlying3 (show DataW.trod enc Try.prog w base spare held n 3 [c1] = some y1 from f1)
    simp only [List.cons.injEq, and_true] at e0 e1
    subst e0 e1
    exact ⟨a, b, rfl⟩

theorem point_cells {cs : List Value} {x : DataW H × List MemPlace} (h : DataW.trod enc Try.prog w base spare held fuel 84 cs = some x) : ∃ s lo hi, cs = [.int .i64 s, .int .i64 lo, .int .i64 hi] := by
  obtain ⟨xs, n, _, _, hl, hxl, hf⟩ := DataW.trod_struct Try.underlying84 h
  rw [cells84] at hl
  · obtain ⟨c0, c1, c2, rfl⟩ := len3 hl
    obtain ⟨y0, y1, rfl⟩ := len2 hxl
    have f0 : DataW.trod enc Try.prog w base spare held n 3 (([c0, c1, c2].drop 0).take (Try.prog.cellsOf 3)) = [y0, y1][0]? := hf 0 _ rfl
    have f1 : DataW.trod enc Try.prog w base spare held n 54 (([c0, c1, c2].drop 1).take (Try.prog.cellsOf 54)) = [y0, y1][1]? := hf 1 _ rfl
    rw [cells3] at f0
    rw [cells54] at f1
    obtain ⟨a, e0, _⟩ := DataW.trod_int Try.underlying3 (show DataW.trod enc Try.prog w base spare held n 3 [c0] = some y0 from f0)
    obtain ⟨b, c, e1⟩ := load_cells (show DataW.trod enc Try.prog w base spare held n 54 [c1, c2] = some y1 from f1)
    simp only [List.cons.injEq, and_true] at e0 e1
    obtain ⟨e1, e2⟩ := e1
    subst e0 e1 e2
    exact ⟨a, b, c, rfl⟩

theorem open_pts {cs : List Value} {x : DataW H × List MemPlace} (h : DataW.trod enc Try.prog w base spare held fuel 22 cs = some x) :
    cs = [.slice none 0 0] ∨ ∃ (a : Addr) (len cap : Nat), cs = [.slice (some a) len cap] ∧ len ≤ maxLen ∧ (0 < len → ∃ b off ps, a = ⟨b, off, none⟩ ∧ ps.length = len ∧ PtsIn w b off ps) := by
  rcases open_slice Try.underlying22 h with ⟨hcs, _⟩ | ⟨a, len, cap, m, n, D, Pl, hcs, hb, hl, hm, hmm, hx, hi⟩
  · exact Or.inl hcs
  refine Or.inr ⟨a, len, cap, hcs, Nat.le_trans hl hm, fun h0 => ?_⟩
  have hlm : len ≤ m := by rw [hmm]; split <;> omega
  have hel : ∀ i, i < len → ∃ p : Pt, w.cell? (a.add (i * 3)) = some (.int .i64 p.s) ∧ w.cell? (a.add (i * 3 + 1)) = some (.int .i64 p.lo) ∧ w.cell? (a.add (i * 3 + 2)) = some (.int .i64 p.hi) := by
    intro i him
    obtain ⟨cs', hc, ht⟩ := hi i (by omega)
    rw [cells84] at hc
    obtain ⟨s, lo, hi', rfl⟩ := point_cells ht
    obtain ⟨_, _, hat⟩ := World.cells?_some hc
    have a0 := hat 0 (by decide)
    have a1 := hat 1 (by decide)
    have a2 := hat 2 (by decide)
    rw [add_add] at a0 a1 a2
    exact ⟨⟨s, lo, hi'⟩, a0, a1, a2⟩
  obtain ⟨b, off, spot⟩ := a
  have hspot : spot = none := by
    obtain ⟨p, h1, _⟩ := hel 0 h0
    simpa [Addr.add] using World.cell?_spot h1
  subst hspot
  have hex : ∃ F : Nat → Pt, ∀ i, i < len → w.cell? (Addr.add ⟨b, off, none⟩ (i * 3)) = some (.int .i64 (F i).s) ∧ w.cell? (Addr.add ⟨b, off, none⟩ (i * 3 + 1)) = some (.int .i64 (F i).lo) ∧ w.cell? (Addr.add ⟨b, off, none⟩ (i * 3 + 2)) = some (.int .i64 (F i).hi) :=
    ⟨fun i => if hh : i < len then (hel i hh).choose else ⟨0, 0, 0⟩, fun i hh => by simp only [dif_pos hh]; exact (hel i hh).choose_spec⟩
  obtain ⟨F, hF⟩ := hex
  refine ⟨b, off, (List.range len).map F, rfl, by simp, fun i hi' => ?_⟩
  have hil : i < len := by simpa using hi'
  have ep : pt ((List.range len).map F) i = F i := by simp [pt, hil]
  rw [ep]
  have := hF i hil
  simpa [Go.WideShapes.add_plain, Nat.add_assoc] using this

theorem open_curve {r : Reach} {b0 : Nat} {v : Value} {d : DataW H} {p : List MemPlace} (hv : Value.okWide Try.prog w r b0 24 v) (h : DataW.Trod enc Try.prog w base spare held 24 v d p) :
    ∃ (sa : Option Addr) (len cap : Nat), v = .agg #[.slice sa len cap] ∧ len ≤ maxLen ∧ (0 < len → ∃ b off ps, sa = some ⟨b, off, none⟩ ∧ ps.length = len ∧ PtsIn w b off ps) := by
  obtain ⟨cs, rfl, hsz⟩ := okWide_struct Try.underlying24 hv
  rw [cells24] at hsz
  obtain ⟨l⟩ := cs
  · obtain ⟨c0, rfl⟩ := len1 (show l.length = 1 from hsz)
    obtain ⟨fuel, hf⟩ := h
    obtain ⟨xs, n, _, _, _, hxl, hg⟩ := DataW.trod_struct Try.underlying24 hf
    · obtain ⟨y0, rfl⟩ := len1 (show xs.length = 1 from hxl)
      have f0 : DataW.trod enc Try.prog w base spare held n 22 (([c0].drop 0).take (Try.prog.cellsOf 22)) = [y0][0]? := hg 0 _ rfl
      rw [cells22] at f0
      rcases open_pts (show DataW.trod enc Try.prog w base spare held n 22 [c0] = some y0 from f0) with e | ⟨a, len, cap, e, hl, hp⟩
      · simp only [List.cons.injEq, and_true] at e
        subst e
        exact ⟨none, 0, 0, rfl, Nat.zero_le _, fun h => absurd h (by decide)⟩
      · simp only [List.cons.injEq, and_true] at e
        subst e
        refine ⟨some a, len, cap, rfl, hl, fun h0 => ?_⟩
        obtain ⟨b, off, ps, rfl, h1, h2⟩ := hp h0
        exact ⟨b, off, ps, rfl, h1, h2⟩

theorem open_rule {r : Reach} {b0 : Nat} {v : Value} {d : DataW H} {p : List MemPlace} (hv : Value.okWide Try.prog w r b0 26 v) (h : DataW.Trod enc Try.prog w base spare held 26 v d p) :
    ∃ a b c : Int, v = .agg #[.int .i64 a, .int .i64 b, .int .i64 c] := by
  obtain ⟨cs, rfl, hsz⟩ := okWide_struct Try.underlying26 hv
  rw [cells26] at hsz
  obtain ⟨l⟩ := cs
  · obtain ⟨c0, c1, c2, rfl⟩ := len3 (show l.length = 3 from hsz)
    obtain ⟨fuel, hf⟩ := h
    obtain ⟨xs, n, _, _, _, hxl, hg⟩ := DataW.trod_struct Try.underlying26 hf
    · obtain ⟨y0, y1, y2, rfl⟩ := len3 (show xs.length = 3 from hxl)
      have f0 : DataW.trod enc Try.prog w base spare held n 3 (([c0, c1, c2].drop 0).take (Try.prog.cellsOf 3)) = [y0, y1, y2][0]? := hg 0 _ rfl
      have f1 : DataW.trod enc Try.prog w base spare held n 3 (([c0, c1, c2].drop 1).take (Try.prog.cellsOf 3)) = [y0, y1, y2][1]? := hg 1 _ rfl
      have f2 : DataW.trod enc Try.prog w base spare held n 3 (([c0, c1, c2].drop 2).take (Try.prog.cellsOf 3)) = [y0, y1, y2][2]? := hg 2 _ rfl
      rw [cells3] at f0 f1 f2
      obtain ⟨a, e0, _⟩ := DataW.trod_int Try.underlying3 (show DataW.trod enc Try.prog w base spare held n 3 [c0] = some y0 from f0)
      obtain ⟨b, e1, _⟩ := DataW.trod_int Try.underlying3 (show DataW.trod enc Try.prog w base spare held n 3 [c1] = some y1 from f1)
      obtain ⟨c, e2, _⟩ := DataW.trod_int Try.underlying3 (show DataW.trod enc Try.prog w base spare held n 3 [c2] = some y2 from f2)
      simp only [List.cons.injEq, and_true] at e0 e1 e2
      subst e0 e1 e2
      exact ⟨a, b, c, rfl⟩

theorem open_words {r : Reach} {b0 : Nat} {v : Value} {d : DataW H} {p : List MemPlace} (hv : Value.okWide Try.prog w r b0 76 v) (h : DataW.Trod enc Try.prog w base spare held 76 v d p) :
    ∃ (aw : Option Addr) (m capw : Nat) (wd : Nat → Int), v = .slice aw m capw ∧ m ≤ maxLen ∧ ∀ j, j < m → ∃ bw ow, aw = some ⟨bw, ow, none⟩ ∧ w.cell? ⟨bw, ow + j, none⟩ = some (.int .u16 (wd j)) ∧ 0 ≤ wd j ∧ wd j < 65536 := by
  obtain ⟨a0, len, cap, rfl⟩ := okWide_slice Try.underlying76 hv
  obtain ⟨fuel, hf⟩ := h
  rcases open_ints Try.underlying76 Try.underlying89 cells89 hf with ⟨hcs, _⟩ | ⟨a, len', cap', zs, hcs, _, hl, hm, hz, _, hcell, hwz⟩
  · simp only [Value.cells, List.cons.injEq, Value.slice.injEq, and_true] at hcs
    obtain ⟨rfl, rfl, rfl⟩ := hcs
    exact ⟨none, 0, 0, fun _ => 0, rfl, Nat.zero_le _, fun j hj => absurd hj (by omega)⟩
  · simp only [Value.cells, List.cons.injEq, Value.slice.injEq, and_true] at hcs
    obtain ⟨rfl, rfl, rfl⟩ := hcs
    have hlz : len ≤ zs.length := by rw [hz]; split <;> omega
    refine ⟨some a, len, cap, fun j => zs.getD j 0, rfl, Nat.le_trans hl hm, fun j hj => ?_⟩
    obtain ⟨b, off, rfl, hc⟩ := ints_at hcell (by omega)
    refine ⟨b, off, rfl, hc j (by omega), ?_⟩
    have hmem : zs.getD j 0 ∈ zs := by
      have hjz : j < zs.length := by omega
      simp [List.getD_eq_getElem?_getD, hjz]
    have := hwz _ hmem
    simp [Lit.wf, IntKind.min, IntKind.max, IntKind.signed, IntKind.bits] at this
    simp
    omega
end
end Go.Proofs.Ytfjlnejeffkdoaa
