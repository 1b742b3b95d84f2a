/- A comparison, opened to cells. No condition. -/
import Derived.Test.YtplmlmmjfkbabaaAK
import Derived.Test.YtplmlmmjfkbabaaAF
namespace Go.Proofs.Ytplmlmmjfkbabaa
open Go.ChangeShapes Go.WideShapes Go.ChangeAt Go.RowKit Go.Deep

set_option maxRecDepth 100000
theorem open_cm {H : Type} {enc : TypeId × Value → H} {w : World} {base : Nat} {spare : Nat → Bool} {held : Bool} {r : Reach} {b0 : Nat} {v : Value} {d : DataW H} {p : List MemPlace} (hv : Value.okWide Try.prog w r b0 73 v) (h : DataW.Trod enc Try.prog w base spare held 73 v d p) :
    ∃ m : Cm, v = .agg #[.int .i64 m.l, .int .i64 m.r, .int .i64 m.lo, .int .i64 m.hi] := by
  obtain ⟨cs, rfl, hsz⟩ := okWide_struct Try.underlying73 hv
  obtain ⟨l⟩ := cs
  obtain ⟨fuel, hf⟩ := h
  obtain ⟨a, b, c, d, e⟩ := cm_cells hf
  obtain rfl : l = [.int .i64 a, .int .i64 b, .int .i64 c, .int .i64 d] := e
  exact ⟨⟨a, b, c, d⟩, rfl⟩
end Go.Proofs.Ytplmlmmjfkbabaa
