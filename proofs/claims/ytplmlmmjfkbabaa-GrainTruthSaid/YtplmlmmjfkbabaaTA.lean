/- Words, and one of them. No condition. -/
import Derived.Test.YtplmlmmjfkbabaaSX
namespace Go.Proofs.Ytplmlmmjfkbabaa
open Go.RowKit Go.Shelf
attribute [local irreducible] arrV wpQuiet

/-- Words, in blocks below n. -/
def WordsV (n : Nat) (w : World) (v : Value) : Prop := ∃ (aw : Option Addr) (m capw : Nat) (wd : Nat → Int), v = .slice aw m capw ∧ m ≤ maxLen ∧ ∀ j, j < m → ∃ bw ow, aw = some ⟨bw, ow, none⟩ ∧ bw < n ∧ w.cell? ⟨bw, ow + j, none⟩ = some (.int .u16 (wd j)) ∧ 0 ≤ wd j ∧ wd j < 65536
theorem WordsV.same {n : Nat} {w w' : World} {v : Value} (h : WordsV n w v) (hs : Same n w w') : WordsV n w' v := by
  obtain ⟨aw, m, capw, wd, rfl, hm, hc⟩ := h
  refine ⟨aw, m, capw, wd, rfl, hm, fun j hj => ?_⟩
  obtain ⟨bw, ow, rfl, h1, h2, h3⟩ := hc j hj
  exact ⟨bw, ow, rfl, h1, hs.cell h1 h2, h3⟩

set_option maxRecDepth 100000 in
set_option maxHeartbeats 1000000 in
theorem word_any (n : Nat) (v : Value) (A : Nat) (w : World) (hA : A ≤ 1000) (hV : WordsV n w v) (hn : n ≤ w.heap.size) :
    Calls Try.prog 66 #[v, .int .i64 A] w fun e w' => (∃ x : Int, e = .returned (.int .i64 x) ∧ 0 ≤ x ∧ x ≤ 65535) ∧ Below w.heap.size w w' := by
  obtain ⟨aw, m, capw, wd, rfl, hm, hc⟩ := hV
  unfold maxLen at hm
  by_cases h0 : m = 0
  · subst h0
    clear hc
    go_enter Try.func66, Try.ntmps66
    go_wp2
    go_ret
    exact ⟨⟨0, rfl, by decide, by decide⟩, Below.refl _ _⟩
  · obtain ⟨bw, ow, rfl, h1, h2, h3, h4⟩ := hc (A % m) (Nat.mod_lt _ (by omega))
    have hlt : A % m < m := Nat.mod_lt _ (by omega)
    have e1 : ((A : Int)).tmod (m : Int) = ((A % m : Nat) : Int) := rfl
    have e2 : (A : Int) % (m : Int) = ((A % m : Nat) : Int) := by simp
    have h0i : ((m : Int) == 0) = false := by rw [beq_eq_false_iff_ne]; omega
    have h0n : (m : Int) ≠ 0 := by omega
    have hl2 : bw < w.heap.size := by omega
    have hwx : IntKind.i64.wrap (wd (A % m)) = wd (A % m) := IntWalk.i64_in _ (by omega)
    have hpos : Hid (0 ≤ wd (A % m) ∧ wd (A % m) ≤ 65535) := Lib.hid ⟨h3, by omega⟩
    have hltI : ((A % m : Nat) : Int) < m := by omega
    generalize hq : A % m = q at *
    have hwq : IntKind.i64.wrap (q : Int) = q := IntWalk.i64_in _ (by omega)
    clear hc hm h3 h4 hq
    generalize wd q = x at *
    go_enter Try.func66, Try.ntmps66
    go_wp2
    go_ret
    exact ⟨⟨x, rfl, hpos.out.1, hpos.out.2⟩, Below.refl _ _⟩
end Go.Proofs.Ytplmlmmjfkbabaa
