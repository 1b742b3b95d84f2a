/- A list of rates that the material has passes the check: contracts. Condition: such a list. Allows, for a list of rates that the material has: contracts. Condition: such a list, a valid room. -/
import Derived.Test.YtfijaafkagcmmaaE3
namespace Go.Proofs.Ytfijaafkagcmmaa
open Go.RowKit Go.Shelf
attribute [local irreducible] arrV wpQuiet

set_option maxHeartbeats 400000 in
theorem isNaN_any (a : Int) (w : World) : Calls Try.prog 110 #[.int .i64 a] w fun e w' => e = .returned (.bool false) ∧ Below w.heap.size w w' := by
  go_enter Try.func110, Try.ntmps110
  go_wp2
  go_ret
  exact ⟨ret_bool (by simp), Below.refl _ _⟩
set_option maxHeartbeats 400000 in
theorem less_any (a b : Int) (w : World) : Calls Try.prog 109 #[.int .i64 a, .int .i64 b] w fun e w' => e = .returned (.bool (decide (a < b))) ∧ Below w.heap.size w w' := by
  have HN := Lib.hid isNaN_any
  go_enter Try.func109, Try.ntmps109
  go_wp2_with fail
  refine (HN.out _ _).mono ?_
  rintro e w1 ⟨rfl, hb1⟩
  go_wp2
  all_goals
    go_ret
    refine ⟨ret_bool ?_, hb1⟩
    simp [*]
    try omega

set_option maxRecDepth 100000 in
set_option maxHeartbeats 1000000 in
theorem sorted_ok (n : Nat) (v : Value) (t : List Int) (w : World) (hl : t.length ≤ 1000) (hT : ∀ i, i + 1 < t.length → ld t i ≤ ld t (i + 1)) (hV : IntsV n w v t) (hn : n ≤ w.heap.size) :
    Calls Try.prog 100 #[v] w fun e w' => e = .returned (.bool true) ∧ Below w.heap.size w w' := by
  obtain ⟨a, cap, rfl, -, hp⟩ := hV
  have HP := Lib.hid hp
  have HT := Lib.hid hT
  have hw0 : IntKind.i64.wrap ((t.length : Int) - 1) = (t.length : Int) - 1 := IntWalk.i64_in _ (by omega)
  clear hp hT
  go_enter Try.func100, Try.ntmps100
  go_wp2
  go_loopw [3] (fun i wr => ∃ k : Int, k < t.length ∧ i = .int .i64 k ∧ Hid (Below w.heap.size w wr)) (fun i _ => (intOf i).toNat)
  case atStart => exact ⟨(t.length : Int) - 1, by omega, rfl, Lib.hid (Below.refl _ _)⟩
  case round =>
    obtain ⟨k, hk, rfl, hb⟩ := hrel
    by_cases hlt : 0 < k
    · obtain ⟨b, off, rfl, hbn, hc⟩ := HP.out (by omega)
      have hltb : b < w.heap.size := by omega
      obtain ⟨q, hq⟩ : ∃ q : Nat, k = (q : Int) + 1 := ⟨(k - 1).toNat, by omega⟩
      subst hq
      have p1 := (hb.out.cell (p := ⟨b, off + (q + 1), none⟩) hltb).trans (hc (q + 1) (by omega))
      have p2 := (hb.out.cell (p := ⟨b, off + q, none⟩) hltb).trans (hc q (by omega))
      have HLE := Lib.hid (HT.out q (by omega))
      have hd : decide (ld t (q + 1) < ld t q) = false := by have := HLE.out; simp; omega
      have LS := Lib.hid (less_any (ld t (q + 1)) (ld t q))
      rw [hd] at LS
      have hk0 : (0 : Int) ≤ (q : Int) + 1 := by omega
      have hkt : ((q : Int) + 1).toNat = q + 1 := by omega
      have hw1 : IntKind.i64.wrap (q : Int) = (q : Int) := IntWalk.i64_in _ (by omega)
      have hwq : wrap64 (q : Int) = (q : Int) := IntWalk.wrap64_in _ (by omega)
      have hqn : (q : Int) < t.length := by omega
      generalize ld t (q + 1) = x1 at *
      generalize ld t q = x0 at *
      clear hc hd
      go_wp2_with fail
      have g1 := cell_regrown p1
      have g2 := cell_regrown p2
      clear p1 p2
      refine wp_region_quiet_below (by kernel_rfl) (by kernel_rfl) ?_
      repeat (quiet_step (with_reducible exact Calls.regrown_of (LS.out _)))
      refine wpQuiet_nil ?_
      intro _ hw'
      obtain ⟨⟨dq, osq⟩, hw''⟩ := hw'
      subst hw''
      have hbr := Lib.hid (below_to hb.out (below_regrown wr dq osq))
      clear g1 g2 hb
      go_wp2
      go_roundw
      case rel => exact ⟨(q : Int), by omega, by simp, hbr⟩
      case measure => simp [intOf]
    · go_wp2
      go_ret
      exact ⟨rfl, hb.out⟩
end Go.Proofs.Ytfijaafkagcmmaa
namespace Go.Proofs.Ytfijaafkagcmmaa
open Go.RowKit Go.Shelf
attribute [local irreducible] arrV wpQuiet

theorem IsRt.has : ∀ {ms : List Rg} {l : Int} {x : List Int}, IsRt ms l x → ∀ i, i < ms.length → hasB (rg ms i).lo (rg ms i).hi (ld x i) = true
  | [], _, [], _, i, hi => by simp at hi
  | r :: rs, _, a :: x, h, i, hi => by
    cases i with
    | zero =>
      have h1 := h.2.1
      have h2 := h.2.2.1
      simp [rg, ld, hasB]
      omega
    | succ i =>
      have := IsRt.has h.2.2.2 i (by simpa using hi)
      simpa [rg, ld] using this
  | [], _, _ :: _, h, _, _ => h.elim
  | _ :: _, _, [], h, _, _ => h.elim

set_option maxRecDepth 100000 in
set_option maxHeartbeats 2000000 in
theorem isRates_ok (n : Nat) (mv v : Value) (ms : List Rg) (x : List Int) (w : World) (hl : ms.length ≤ 1000) (hx : x ∈ allL ms) (hV : RgsV n w mv ms) (hX : IntsV n w v x) (hn : n ≤ w.heap.size) :
    Calls Try.prog 75 #[.agg #[mv], v] w fun e w' => e = .returned (.bool true) ∧ Below w.heap.size w w' := by
  have hrt := (mem_listsL ms 0 x).1 hx
  have hlx := len_of hx
  have HH := Lib.hid hrt.has
  have HSO := Lib.hid fun w' (h : Below w.heap.size w w') => sorted_ok n v x w' (by omega) (fun i hi => hrt.rise i hi) (hX.same (.below hn h)) (Nat.le_trans hn h.size)
  obtain ⟨am, capm, rfl, hp⟩ := hV
  obtain ⟨xa, xcap, rfl, -, hxp⟩ := hX
  have HP := Lib.hid hp
  have HXP := Lib.hid hxp
  have HX := Lib.hid (heap_alloc_new w (.cells #[.slice am ms.length capm] 33))
  have HB := Lib.hid (box_below w (.cells #[.slice am ms.length capm] 33))
  rw [hlx] at HXP HSO ⊢
  clear hrt hp hxp hx
  go_enter Try.func75, Try.ntmps75
  go_wp2_with fail
  refine (HSO.out _ HB.out).mono ?_
  rintro e w1 ⟨rfl, hb1⟩
  have HX1 := Lib.hid ((hb1.block _ (lt_of_block HX.out)).trans HX.out)
  have HB1 := Lib.hid (below_to HB.out hb1)
  have c0 := cell_of_row w1 w.heap.size 0 _ _ _ HX1.out
  simp at c0
  have l0 := lt_of_block HX1.out
  clear hb1
  go_wp2
  clear c0 l0
  go_loopw [20] (fun i wr => ∃ q : Nat, q ≤ ms.length ∧ i = .int .i64 q ∧ Hid (wr.heap[w.heap.size]? = some (.cells #[.slice am ms.length capm] 33 (0, 0))) ∧ Hid (Below w.heap.size w wr)) (fun i _ => ms.length - (intOf i).toNat)
  case atStart => exact ⟨0, Nat.zero_le _, rfl, HX1, HB1⟩
  case round =>
    obtain ⟨q, hq, rfl, hx, hb⟩ := hrel
    by_cases hlt : q < ms.length
    · obtain ⟨b, off, rfl, hbn, hc⟩ := HP.out (by omega)
      obtain ⟨xb, xoff, rfl, hxbn, hxc⟩ := HXP.out (by omega)
      have hltb : b < w.heap.size := by omega
      have hltx : xb < w.heap.size := by omega
      have c0 := cell_of_row wr w.heap.size 0 _ _ _ hx.out
      simp at c0
      have p1 := (hb.out.cell (p := ⟨b, off + q * 2, none⟩) hltb).trans (hc q hlt).1
      have p2 := (hb.out.cell (p := ⟨b, off + q * 2 + 1, none⟩) hltb).trans (hc q hlt).2
      have p3 := (hb.out.cell (p := ⟨xb, xoff + q, none⟩) hltx).trans (hxc q hlt)
      have HAS := Lib.hid (has_any (rg ms q).lo (rg ms q).hi (ld x q))
      rw [HH.out q hlt] at HAS
      have hqn : (q : Int) < ms.length := by omega
      have hw9 : IntKind.i64.wrap ((q : Int) + 1) = (q : Int) + 1 := IntWalk.i64_in _ (by omega)
      generalize (rg ms q).lo = lo at *
      generalize (rg ms q).hi = hi at *
      generalize ld x q = xq at *
      clear hc hxc
      go_wp2_with fail
      have g0 := cell_regrown c0
      have g1 := cell_regrown p1
      have g2 := cell_regrown p2
      have g3 := cell_regrown p3
      clear c0 p1 p2 p3
      refine wp_region_quiet_below (by kernel_rfl) (by kernel_rfl) ?_
      repeat (quiet_step (with_reducible exact Calls.regrown_of (HAS.out _)))
      refine wpQuiet_nil ?_
      intro _ hw'
      obtain ⟨⟨dq, osq⟩, hw''⟩ := hw'
      subst hw''
      have hxr := Lib.hid ((below_regrown wr dq osq).block _ (lt_of_block hx.out) |>.trans hx.out)
      have hbr := Lib.hid (below_to hb.out (below_regrown wr dq osq))
      clear g0 g1 g2 g3 hx hb
      go_wp2
      go_roundw
      case rel => exact ⟨q + 1, by omega, by simp, hxr, hbr⟩
      case measure => simp [intOf]; omega
    · obtain rfl : q = ms.length := by omega
      go_wp2
      go_ret
      exact ⟨rfl, hb.out⟩

set_option maxRecDepth 100000 in
set_option maxHeartbeats 1000000 in
theorem checkRates_ok (n : Nat) (mv rv v : Value) (ms : List Rg) (rs : List Rn) (x : List Int) (w : World) (hK : RoomOk ms rs) (hx : x ∈ allL ms) (hV : RoomV n w mv rv ms rs) (hX : IntsV n w v x) :
    Calls Try.prog 54 #[.agg #[mv, rv], v] w fun e w' => e = .returned (.int .i64 0) ∧ Below w.heap.size w w' := by
  have hn := hV.lt
  have HCK := Lib.hid fun w' (h : Below w.heap.size w w') => rcheck_ok n mv rv ms rs w' hK (hV.below h)
  have HIR := Lib.hid fun w' (h : Below w.heap.size w w') => isRates_ok n mv v ms x w' (by have := hK.mat.len; omega) hx (hV.m.same (.below hn h)) (hX.same (.below hn h)) (Nat.le_trans hn h.size)
  obtain ⟨am, capm, rfl, -⟩ := hV.m
  obtain ⟨ar, capr, rfl, -⟩ := hV.r
  obtain ⟨xa, xcap, rfl, -⟩ := hX
  have HX := Lib.hid (heap_alloc_new w (.cells #[.slice am ms.length capm, .slice ar rs.length capr] 100))
  have HB := Lib.hid (box_below w (.cells #[.slice am ms.length capm, .slice ar rs.length capr] 100))
  clear hV hK hn hx
  go_enter Try.func54, Try.ntmps54
  go_wp2_with fail
  refine (HCK.out _ HB.out).mono ?_
  rintro e w1 ⟨rfl, hb1⟩
  obtain ⟨c0, c1, hx1⟩ := two_cells HX.out hb1
  have l0 := lt_of_block hx1
  have HB1 := Lib.hid (below_to HB.out hb1)
  clear hb1 hx1
  go_wp2_with fail
  refine (HIR.out _ HB1.out).mono ?_
  rintro e w2 ⟨rfl, hb2⟩
  have HB2 := Lib.hid (below_to HB1.out hb2)
  clear hb2 c0 c1 l0
  go_wp2
  go_ret
  exact ⟨rfl, HB2.out⟩
end Go.Proofs.Ytfijaafkagcmmaa
