/- An album's slice is no longer than its room. No condition. -/
import Derived.Test.YtplmlmmjfkbabaaAO
import Derived.Test.YtplmlmmjfkbabaaAF
namespace Go.Proofs.Ytplmlmmjfkbabaa
open Go.ChangeShapes Go.WideShapes Go.ChangeAt Go.RowKit Go.Deep

set_option maxRecDepth 100000
section
variable {H : Type} {enc : TypeId × Value → H} {w : World} {base fuel : Nat} {spare : Nat → Bool} {held : Bool}
theorem cms_cap {cs : List Value} {x : DataW H × List MemPlace} (h : DataW.trod enc Try.prog w base spare held fuel 22 cs = some x) {a : Option Addr} {n c : Nat} (e : cs = [.slice a n c]) : n ≤ c := by
  rcases open_slice Try.underlying22 h with ⟨hcs, _⟩ | ⟨a', len', cap', m, n', D, Pl, hcs, hb, hl, _⟩
  · rw [e] at hcs
    simp only [List.cons.injEq, Value.slice.injEq, and_true] at hcs
    omega
  · rw [e] at hcs
    simp only [List.cons.injEq, Value.slice.injEq, and_true] at hcs
    obtain ⟨-, e1, e2⟩ := hcs
    omega
theorem open_album_cap {r : Reach} {b0 : Nat} {v : Value} {d : DataW H} {p : List MemPlace} (hv : Value.okWide Try.prog w r b0 24 v) (h : DataW.Trod enc Try.prog w base spare held 24 v d p) :
    ∃ n mv ms, v = .agg #[.int .i64 n, mv] ∧ CmsV w.heap.size w mv ms ∧ ∀ a m c, mv = .slice a m c → m ≤ c := by
  obtain ⟨n, mv, ms, rfl, hm⟩ := open_album hv h
  refine ⟨n, mv, ms, rfl, hm, fun a m c e => ?_⟩
  obtain ⟨fuel, hf⟩ := h
  obtain ⟨xs, n', _, _, _, hxl, hg⟩ := DataW.trod_struct Try.underlying24 hf
  obtain ⟨y0, y1, rfl⟩ := len2 (show xs.length = 2 from hxl)
  have f1 : DataW.trod enc Try.prog w base spare held n' 22 (([Value.int .i64 n, mv].drop 1).take (Try.prog.cellsOf 22)) = [y0, y1][1]? := hg 1 _ rfl
  rw [cells22] at f1
  exact cms_cap (show DataW.trod enc Try.prog w base spare held n' 22 [mv] = some y1 from f1) (by rw [e])
end
end Go.Proofs.Ytplmlmmjfkbabaa
