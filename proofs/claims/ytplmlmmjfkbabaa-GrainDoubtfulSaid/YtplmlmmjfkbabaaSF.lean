/- A list of numbers, opened to cells. No condition. -/
import Derived.Test.YtplmlmmjfkbabaaAF
namespace Go.Proofs.Ytplmlmmjfkbabaa
open Go.ChangeShapes Go.WideShapes Go.ChangeAt Go.RowKit Go.Deep
set_option maxRecDepth 100000
section
variable {H : Type} {enc : TypeId × Value → H} {w : World} {base fuel : Nat} {spare : Nat → Bool} {held : Bool}
theorem open_list {r : Reach} {b0 : Nat} {v : Value} {d : DataW H} {p : List MemPlace} (hv : Value.okWide Try.prog w r b0 50 v) (h : DataW.Trod enc Try.prog w base spare held 50 v d p) :
    ∃ x, IntsV w.heap.size w v x := by
  obtain ⟨a0, len, cap, rfl⟩ := okWide_slice Try.underlying50 hv
  obtain ⟨fuel, hf⟩ := h
  rcases open_ints Try.underlying50 Try.underlying3 cells3 hf with ⟨hcs, _⟩ | ⟨a, len', cap', zs, hcs, hb, hl, hcm, hlen, _, hcell, _⟩
  · simp only [Value.cells, List.cons.injEq, Value.slice.injEq, and_true] at hcs
    obtain ⟨rfl, rfl, rfl⟩ := hcs
    exact ⟨[], none, 0, rfl, fun h0 => absurd h0 (by decide)⟩
  · simp only [Value.cells, List.cons.injEq, Value.slice.injEq, and_true] at hcs
    obtain ⟨rfl, rfl, rfl⟩ := hcs
    have hzl : len ≤ zs.length := by rw [hlen]; split <;> omega
    have eL : (zs.take len).length = len := by simp; omega
    refine ⟨zs.take len, some a, cap, by rw [eL], fun h0 => ?_⟩
    rw [eL] at h0 ⊢
    obtain ⟨b, off, spot⟩ := a
    have hc0 := hcell 0 (by omega)
    have hspot : spot = none := by simpa [Addr.add] using World.cell?_spot hc0
    subst hspot
    refine ⟨b, off, rfl, ?_, fun i hi' => ?_⟩
    · simp [Go.WideShapes.add_plain] at hc0
      exact block_lt_of_cell hc0
    · have := hcell i (by omega)
      simp only [Go.WideShapes.add_plain] at this
      rw [this]
      have hiz : i < zs.length := by omega
      simp [ld, List.getElem?_take, hi', hiz]
end
end Go.Proofs.Ytplmlmmjfkbabaa
