/- The law's small functions: lists compared, albums copied. Conditions: lists are no longer than a thousand. -/
import Derived.Test.YtplmlmmjfkbabaaZ
namespace Go.Proofs.Ytplmlmmjfkbabaa
open Go.RowKit Go.Shelf
attribute [local irreducible] arrV wpQuiet mat shl

noncomputable def fl41 : Array Field := #[{ name := "Lo", type := 3, offset := 0, embedded := false, tag := "", pkgPath := "", byteOffset := 0 }, { name := "Hi", type := 3, offset := 1, embedded := false, tag := "", pkgPath := "", byteOffset := 8 }]
theorem f41 : Try.prog.fieldsOf 41 = fl41 := by kernel_rfl
theorem s41f : Try.prog.underlying 41 = some (.struct (Try.prog.fieldsOf 41)) := by kernel_rfl
theorem st41 : Try.prog.stoodInHeld 41 = false := by kernel_rfl
theorem pk3 : Try.prog.plainKey 3 = true := by kernel_rfl
theorem part0 (a b : Int) (w : World) : (part 3 #[Value.int .i64 a, .int .i64 b] 0).run Try.prog w = .ok (.int .i64 a) w := run_part_plain w pk3 rfl
theorem part1 (a b : Int) (w : World) : (part 3 #[Value.int .i64 a, .int .i64 b] 1).run Try.prog w = .ok (.int .i64 b) w := run_part_plain w pk3 rfl
theorem equal41 (a b c d : Int) (w : World) : (Op.equal 41 (.agg #[.int .i64 a, .int .i64 b]) (.agg #[.int .i64 c, .int .i64 d])).run Try.prog w = .ok (decide (a = c) && decide (b = d)) w := by
  show (Op.equalIn (9999 + 1) 41 _ _).run Try.prog w = _
  rw [run_equalIn_struct w 9999 41 _ _ s41f st41, f41]
  have e : ∀ a b : Int, (Op.equalIn 9999 3 (.int .i64 a) (.int .i64 b)).run Try.prog w = .ok (a == b) w := fun a b => run_equalIn_int w 9998 3 .i64 .i64 a b Try.underlying3
  simp only [fl41, Op.eqFields, Sem.run_bind, Sem.run_ite, part0, part1, Result.andThen_ok, e, Sem.run_pure, show ("Lo" ≠ "_") = True from by simp, show ("Hi" ≠ "_") = True from by simp, if_true]
  cases h1 : (a == c) <;> cases h2 : (b == d) <;> simp at h1 h2 <;> simp [h1, h2]
theorem eqr41 (a b c d : Int) (w : World) : (binOp .eql 41 (.agg #[.int .i64 a, .int .i64 b]) (.agg #[.int .i64 c, .int .i64 d])).run Try.prog w = .ok (.bool (decide (a = c) && decide (b = d))) w := by
  simp [binOp, Sem.run_bind, equal41 a b c d w, Result.andThen_ok, Sem.run_pure]
theorem neqr41 (a b : Int) (w : World) : (binOp .neq 41 (.agg #[.int .i64 a, .int .i64 b]) (.agg #[.int .i64 a, .int .i64 b])).run Try.prog w = .ok (.bool false) w := by
  have h := equal41 a b a b w
  simp at h
  simp [binOp, Sem.run_bind, h, Result.andThen_ok, Sem.run_pure]
set_option maxRecDepth 100000 in
set_option maxHeartbeats 1000000 in
theorem ints_same (n : Nat) (av bv : Value) (a : List Int) (w : World) (hl : a.length ≤ 1000) (hA : IntsV n w av a) (hB : IntsV n w bv a) (hn : n ≤ w.heap.size) :
    Calls Try.prog 35 #[av, bv] w fun e w' => e = .returned (.bool true) ∧ Below w.heap.size w w' := by
  obtain ⟨a0, ac, rfl, hap⟩ := hA
  obtain ⟨b0, bc, rfl, hbp⟩ := hB
  have HAP := Lib.hid hap
  have HBP := Lib.hid hbp
  have hne : ((a.length : Int) != a.length) = false := by simp
  clear hap hbp
  go_enter Try.func35, Try.ntmps35
  go_wp2
  clear hne
  go_loopw [5] (fun i wr => ∃ q : Nat, q ≤ a.length ∧ i = .int .i64 q ∧ Hid (Below w.heap.size w wr)) (fun i _ => a.length - (intOf i).toNat)
  case atStart => exact ⟨0, Nat.zero_le _, rfl, Lib.hid (Below.refl _ _)⟩
  case round =>
    obtain ⟨q, hq, rfl, HB⟩ := hrel
    by_cases hlt : q < a.length
    · obtain ⟨xb, xo, rfl, hxb, hxc⟩ := HAP.out (by omega)
      obtain ⟨yb, yo, rfl, hyb, hyc⟩ := HBP.out (by omega)
      have p1 := (HB.out.cell (p := ⟨xb, xo + q, none⟩) (by show xb < w.heap.size; omega)).trans (hxc q hlt)
      have p2 := (HB.out.cell (p := ⟨yb, yo + q, none⟩) (by show yb < w.heap.size; omega)).trans (hyc q hlt)
      have hqn : (q : Int) < a.length := by omega
      have hwq : IntKind.i64.wrap ((q : Int) + 1) = (q : Int) + 1 := IntWalk.i64_in _ (by omega)
      generalize ld a q = x at *
      have g1 := cell_regrown p1
      have g2 := cell_regrown p2
      have hxx : (x != x) = false := by simp
      clear hxc hyc p1 p2
      go_wp2_with fail
      refine wp_region_quiet_below (by kernel_rfl) (by kernel_rfl) ?_
      repeat (quiet_step (fail))
      refine wpQuiet_nil ?_
      intro _ hw'
      obtain ⟨⟨dq, osq⟩, hw''⟩ := hw'
      subst hw''
      have hbr := Lib.hid (below_to HB.out (below_regrown wr dq osq))
      clear g1 g2 HB
      go_wp2
      go_roundw
      case rel => exact ⟨q + 1, by omega, by simp, hbr⟩
      case measure => simp [intOf]; omega
    · obtain rfl : q = a.length := by omega
      go_wp2
      go_ret
      exact ⟨rfl, HB.out⟩

set_option maxRecDepth 100000 in
set_option maxHeartbeats 1000000 in
theorem ranges_same (n : Nat) (av bv : Value) (a : List Rg) (w : World) (hl : a.length ≤ 1000) (hA : RgsV n w av a) (hB : RgsV n w bv a) (hn : n ≤ w.heap.size) :
    Calls Try.prog 44 #[av, bv] w fun e w' => e = .returned (.bool true) ∧ Below w.heap.size w w' := by
  obtain ⟨a0, ac, rfl, hap⟩ := hA
  obtain ⟨b0, bc, rfl, hbp⟩ := hB
  have HAP := Lib.hid hap
  have HBP := Lib.hid hbp
  have hne : ((a.length : Int) != a.length) = false := by simp
  clear hap hbp
  go_enter Try.func44, Try.ntmps44
  go_wp2
  clear hne
  go_loopw [5] (fun i wr => ∃ q : Nat, q ≤ a.length ∧ i = .int .i64 q ∧ Hid (Below w.heap.size w wr)) (fun i _ => a.length - (intOf i).toNat)
  case atStart => exact ⟨0, Nat.zero_le _, rfl, Lib.hid (Below.refl _ _)⟩
  case round =>
    obtain ⟨q, hq, rfl, HB⟩ := hrel
    by_cases hlt : q < a.length
    · obtain ⟨xb, xo, rfl, hxb, hxc⟩ := HAP.out (by omega)
      obtain ⟨yb, yo, rfl, hyb, hyc⟩ := HBP.out (by omega)
      have p1 := (HB.out.cell (p := ⟨xb, xo + q * 2, none⟩) (by show xb < w.heap.size; omega)).trans (hxc q hlt).1
      have p2 := (HB.out.cell (p := ⟨yb, yo + q * 2, none⟩) (by show yb < w.heap.size; omega)).trans (hyc q hlt).1
      have p3 := (HB.out.cell (p := ⟨xb, xo + q * 2 + 1, none⟩) (by show xb < w.heap.size; omega)).trans (hxc q hlt).2
      have p4 := (HB.out.cell (p := ⟨yb, yo + q * 2 + 1, none⟩) (by show yb < w.heap.size; omega)).trans (hyc q hlt).2
      have hqn : (q : Int) < a.length := by omega
      have hwq : IntKind.i64.wrap ((q : Int) + 1) = (q : Int) + 1 := IntWalk.i64_in _ (by omega)
      generalize (rg a q).lo = x at *
      generalize (rg a q).hi = y at *
      have g1 := cell_regrown p1
      have g2 := cell_regrown p2
      have g3 := cell_regrown p3
      have g4 := cell_regrown p4
      have hq1 := fun w => neqr41 x y w
      clear hxc hyc p1 p2 p3 p4
      go_wp2_with fail
      refine wp_region_quiet_below (by kernel_rfl) (by kernel_rfl) ?_
      repeat (quiet_step (fail))
      refine wpQuiet_nil ?_
      intro _ hw'
      obtain ⟨⟨dq, osq⟩, hw''⟩ := hw'
      subst hw''
      have hbr := Lib.hid (below_to HB.out (below_regrown wr dq osq))
      clear g1 g2 g3 g4 HB hq1
      go_wp2
      go_roundw
      case rel => exact ⟨q + 1, by omega, by simp, hbr⟩
      case measure => simp [intOf]; omega
    · obtain rfl : q = a.length := by omega
      go_wp2
      go_ret
      exact ⟨rfl, HB.out⟩


theorem own_same {W W' : World} {base e sz n : Nat} {v : Value} {l : List Value} (h : W.ownsRow base e sz v n l) (hs : ∀ g, base ≤ g → g < W.heap.size → W'.heap[g]? = W.heap[g]?) : W'.ownsRow base e sz v n l := by
  refine ⟨h.1, ?_⟩
  rcases h.2 with h0 | ⟨g, cap, cur, hv, hbg, hgg, hr⟩
  · exact .inl h0
  · exact .inr ⟨g, cap, cur, hv, hbg, (hs g hbg (lt_of_block hgg)).trans hgg, hr⟩

def readyB (n : Int) (cs : List Cm) : Bool := decide (faultA n cs = 0)
theorem ready_len {n : Int} {cs : List Cm} (h : ¬ cs.length ≤ 16) : readyB n cs = false := by
  refine decide_eq_false fun h2 => ?_
  have := (fault_ok h2).len
  omega
theorem readyB_ok {n : Int} {cs : List Cm} (h : readyB n cs = true) : AlbOk n cs := fault_ok (of_decide_eq_true h)

set_option maxRecDepth 100000 in
set_option maxHeartbeats 1000000 in
theorem Thin_any (n : Int) (a : Option Addr) (len cap : Nat) (w : World) :
    Calls Try.prog 17 #[.agg #[.int .i64 n, .slice a len cap]] w fun e w' => e = .returned (.bool (decide (len ≤ 16))) ∧ Below w.heap.size w w' := by
  go_enter Try.func17, Try.ntmps17
  go_wp2
  go_ret
  exact ⟨ret_bool (by simp <;> omega), box_below _ _⟩
set_option maxRecDepth 100000 in
set_option maxHeartbeats 1000000 in
theorem ready_any (m : Nat) (n : Int) (v : Value) (cs : List Cm) (w : World) (hV : CmsV m w v cs) (hm : m ≤ w.heap.size) :
    Calls Try.prog 42 #[.agg #[.int .i64 n, v]] w fun e w' => e = .returned (.bool (readyB n cs)) ∧ Below w.heap.size w w' := by
  have HF := Lib.hid fun (hl : cs.length ≤ maxLen) w' (h : Below w.heap.size w w') => Fault_any m n v cs w' hl (hV.same (.below hm h)) (Nat.le_trans hm h.size)
  have e1 : ¬ cs.length ≤ 16 → readyB n cs = false := ready_len
  have e2 : readyB n cs = decide (faultA n cs = 0) := rfl
  obtain ⟨a, cap, rfl, -⟩ := hV
  have HT := Lib.hid (Thin_any n a cs.length cap)
  have HX := Lib.hid (heap_alloc_new w (.cells #[.int .i64 n, .slice a cs.length cap] 24))
  have HB := Lib.hid (box_below w (.cells #[.int .i64 n, .slice a cs.length cap] 24))
  generalize readyB n cs = R at *
  generalize faultA n cs = F at *
  have E1 := Lib.hid e1
  have E2 := Lib.hid e2
  clear e1 e2
  go_enter Try.func42, Try.ntmps42
  go_wp2_with fail
  refine (HT.out _).mono ?_
  rintro e w1 ⟨rfl, hb1⟩
  have HX1 := Lib.hid ((hb1.block _ (lt_of_block HX.out)).trans HX.out)
  have HB1 := Lib.hid (below_to HB.out hb1)
  clear hb1 HX HB
  have c0 := cell_of_row w1 w.heap.size 0 _ _ _ HX1.out
  have c1 := cell_of_row w1 w.heap.size 1 _ _ _ HX1.out
  simp only [List.getElem?_toArray, List.getElem?_cons_zero, List.getElem?_cons_succ] at c0 c1
  have l0 := lt_of_block HX1.out
  by_cases ht : cs.length ≤ 16
  · rw [decide_eq_true ht]
    have HF2 := Lib.hid (HF.out (by simp [maxLen]; omega))
    clear ht
    go_wp2_with fail
    refine (HF2.out _ HB1.out).mono ?_
    rintro e w2 ⟨rfl, hb2⟩
    have HB2 := Lib.hid (below_to HB1.out hb2)
    clear hb2
    by_cases hf : F = 0
    · have h1 : (F == 0) = true := by simp [hf]
      have ER := Lib.hid (E2.out.trans (decide_eq_true hf))
      clear hf
      go_wp2
      go_ret
      exact ⟨by rw [ER.out]; rfl, HB2.out⟩
    · have h1 : (F == 0) = false := by simp [hf]
      have ER := Lib.hid (E2.out.trans (decide_eq_false hf))
      clear hf
      go_wp2
      go_ret
      exact ⟨by rw [ER.out]; rfl, HB2.out⟩
  · have ER := Lib.hid (E1.out ht)
    rw [decide_eq_false ht]
    clear ht
    go_wp2
    go_ret
    exact ⟨by rw [ER.out]; rfl, HB1.out⟩

end Go.Proofs.Ytplmlmmjfkbabaa
