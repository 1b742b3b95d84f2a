/- Room for numbers is made; two lists of numbers are joined: contracts. Condition: less than a thousand numbers. Two lists of numbers are joined: a contract. Condition: from one to a thousand numbers. -/
import Derived.Test.YtplmlmmjfkbabaaUCJ
import Derived.Test.YtplmlmmjfkbabaaSC
import Derived.Lib.AppendZerosOnto
import Derived.OwnWalk
namespace Go.Proofs.Ytplmlmmjfkbabaa
open Go.RowKit Go.Shelf
attribute [local irreducible] arrV wpQuiet mat shl

theorem zero_rep (k : Nat) : Builtin.zeroCells #[Value.int .i64 0] k = Array.replicate k (Value.int .i64 0) := by
  apply Array.ext
  · simp [Builtin.zeroCells]
  · intro i h1 h2
    simp [Builtin.zeroCells, Nat.mod_one]
theorem grow_run (n : Nat) (w : World) (h0 : 1 ≤ n) (hn : n ≤ 1000) (ty : TypeId) : ∃ c, (Builtin.append_ #[50, 3] ty #[.slice none 0 0, .int .i64 n]).run Try.prog w = .ok (.slice (some ⟨w.heap.size, 0, none⟩) n c) (w.drew.alloc (.cells (Builtin.zeroCells #[.int .i64 0] c) 3)) ∧ n ≤ c ∧ c ≤ maxLen := by
  obtain ⟨i, z, hi, hz, hs, hby, hzs⟩ := el50.i
  have hzc : z.cells = #[.int .i64 0] := by
    have h1 : ((Try.prog.info? 3).bind (·.zero)).map (·.cells) = some #[.int .i64 0] := by kernel_rfl
    simpa [hi, hz] using h1
  have hg := grownCap_ge w n 0 3
  have h := Lib.run_append_grow_zeros (P := Try.prog) w 50 3 ty 3 i z .i64 .i64 el50.u Try.underlying3 hi hz none 0 0 [] (run_firstCells_none w.drew i.size 0 0 0) n h0 (by omega) (by omega) (by omega) (by rw [hby]; omega) (growslice_fits (by omega) (by rw [hby]; omega))
  rw [Nat.zero_add] at h
  refine ⟨grownCap w n 0 3, ?_, hg, grownCap_le_maxLen w n 0 3 (by unfold maxLen; omega)⟩
  have e : ∀ a b : Nat, Builtin.zeroCells #[Value.int .i64 0] a ++ Builtin.zeroCells #[Value.int .i64 0] b = Builtin.zeroCells #[Value.int .i64 0] (a + b) := fun a b => by
    rw [zero_rep, zero_rep, zero_rep, Array.replicate_append_replicate]
  have hAB : ([] : List Value).toArray ++ Builtin.zeroCells z.cells n ++ Builtin.zeroCells z.cells (grownCap w n 0 3 - n) = Builtin.zeroCells #[.int .i64 0] (grownCap w n 0 3) := by
    rw [hzc, show ([] : List Value).toArray = #[] from rfl, Array.empty_append, e, Nat.add_sub_cancel' hg]
  rw [hAB] at h
  exact h
theorem grow_own (w : World) (c : Nat) (hc : c ≤ maxLen) : (w.drew.alloc (.cells (Builtin.zeroCells #[.int .i64 0] c) 3)).ownsRow w.heap.size 3 1 (.slice (some ⟨w.heap.size, 0, none⟩) 0 c) 0 [] :=
  ⟨by simp, .inr ⟨w.heap.size, c, _, rfl, Nat.le_refl _, heap_alloc_new w.drew _, Nat.zero_le _, hc, by simp [Builtin.zeroCells], by simp⟩⟩
theorem grow_below (w : World) (o : Obj) : Below w.heap.size w (w.drew.alloc o) := ⟨rfl, rfl, rfl, by simp, fun k hk => heap_alloc_low w.drew o k hk⟩
set_option maxRecDepth 100000 in
set_option maxHeartbeats 1000000 in
theorem grow_any (n : Nat) (w : World) (h0 : 1 ≤ n) (hn : n ≤ 1000) :
    Calls Try.prog 93 #[.slice none 0 0, .int .i64 n] w fun e w' => (∃ r, e = .returned r ∧ w'.ownsRow w.heap.size 3 1 r 0 []) ∧ Below w.heap.size w w' := by
  obtain ⟨c, hr, hnc, hcm⟩ := grow_run n w h0 hn 50
  have HO := Lib.hid (grow_own w c hcm)
  have HB := Lib.hid (grow_below w (.cells (Builtin.zeroCells #[.int .i64 0] c) 3))
  have HR := Lib.hid hr
  have h1 : ¬ ((n : Int) < 0) := by omega
  have h4 : (n : Int) > 0 := by omega
  have hwn : IntKind.i64.wrap (n : Int) = n := IntWalk.i64_in _ (by omega)
  have hc63 : c ≤ 9223372036854775807 := by unfold maxLen at hcm; omega
  clear hr hcm hn
  go_enter Try.func93, Try.ntmps93
  go_wp2_with (at_builtin; refine Lib.wpList_append_run _ rfl _ _ _ _ rfl _ _ rfl rfl _ _ HR.out ?_)
  go_ret
  exact ⟨⟨_, rfl, HO.out⟩, HB.out⟩
end Go.Proofs.Ytplmlmmjfkbabaa
namespace Go.Proofs.Ytplmlmmjfkbabaa
open Go.RowKit Go.Shelf
attribute [local irreducible] arrV wpQuiet mat shl

theorem app_ints {W : World} {base n : Nat} {v : Value} {ys xs : List Int} {ad : Option Addr} {cap : Nat} {m : Nat} (hown : W.ownsRow base 3 1 v n (ys.map iV)) (hX : IntsV m W (.slice ad xs.length cap) xs) (hb : base ≤ W.heap.size) (hn : n + xs.length ≤ 1000) :
    ∃ v' w', (Builtin.append_ #[50, 50] 50 #[v, .slice ad xs.length cap]).run Try.prog W = .ok v' w' ∧ w'.ownsRow base 3 1 v' (n + xs.length) ((ys ++ xs).map iV) ∧ Below base W w' := by
  obtain ⟨h0, hc⟩ := ints_cells hX
  obtain ⟨ov, W3, hr3, ho3, hb3, -, -, -⟩ := act_app2 el50 base n v (ys.map iV) ad xs.length cap (xs.map iV) W (fun k => k < W.heap.size) 50 (by simp [maxLen]; omega) (by omega) hown hb (by simp) h0 hc (by simp [iV, Value.oneCell']) (fun k h => (own_lt hown h).2) (fun k h => h)
  exact ⟨ov, W3, hr3, by rw [List.map_append]; exact ho3, hb3⟩
set_option maxRecDepth 100000 in
set_option maxHeartbeats 4000000 in
theorem concat_any (b : Nat) (v1 v2 : Value) (xs ys : List Int) (w : World) (hbx : w.heap[b]? = some (.cells #[v1, v2] 50 (0, 0))) (h1 : IntsV w.heap.size w v1 xs) (h2 : IntsV w.heap.size w v2 ys) (hl : 1 ≤ xs.length + ys.length) (hl2 : xs.length + ys.length ≤ 1000) :
    Calls Try.prog 84 #[.slice (some ⟨b, 0, none⟩) 2 2] w fun e w' => (∃ r, e = .returned r ∧ w'.ownsRow w.heap.size 3 1 r (xs.length + ys.length) ((xs ++ ys).map iV)) ∧ Below w.heap.size w w' := by
  have HI1 := Lib.hid h1
  have HI2 := Lib.hid h2
  obtain ⟨a1, k1, rfl, -⟩ := h1
  obtain ⟨a2, k2, rfl, -⟩ := h2
  have HX := Lib.hid hbx
  have HB0 := Lib.hid (Below.refl w.heap.size w)
  clear hbx
  have hw1 : IntKind.i64.wrap (0 + (xs.length : Int)) = xs.length := by rw [IntWalk.i64_in _ (by omega)]; omega
  have hw2 : IntKind.i64.wrap ((xs.length : Int) + (ys.length : Int)) = (xs.length : Int) + ys.length := IntWalk.i64_in _ (by omega)
  have hw3 : IntKind.i64.wrap (xs.length : Int) = xs.length := IntWalk.i64_in _ (by omega)
  have hn1 : decide ((xs.length : Int) < 0) = false := decide_eq_false (by omega)
  have hn2 : decide ((xs.length : Int) + (ys.length : Int) < 0) = false := decide_eq_false (by omega)
  go_enter Try.func84, Try.ntmps84
  go_wp2
  go_loopw [3, 11] (fun s i wr => ∃ q : Nat, q ≤ 2 ∧ i = .int .i64 q ∧ s = .int .i64 (if q = 0 then 0 else if q = 1 then (xs.length : Int) else xs.length + ys.length) ∧ Hid (Below w.heap.size w wr)) (fun _ i _ => 2 - (intOf i).toNat)
  case atStart => exact ⟨0, by decide, rfl, rfl, HB0⟩
  case round =>
    clear HB0
    obtain ⟨q, hq, rfl, rfl, HB⟩ := hrel
    have HXr := Lib.hid ((HB.out.block _ (lt_of_block HX.out)).trans HX.out)
    match q, hq with
    | 0, _ =>
      have c0 := cell_of_row wr b 0 _ _ _ HXr.out
      simp only [List.getElem?_toArray, List.getElem?_cons_zero, List.getElem?_cons_succ] at c0
      have lc := lt_of_block HXr.out
      go_wp2_with fail
      go_roundw
      case rel => exact ⟨1, by decide, rfl, rfl, HB⟩
      case measure => simp [intOf]
    | 1, _ =>
      have c0 := cell_of_row wr b 1 _ _ _ HXr.out
      simp only [List.getElem?_toArray, List.getElem?_cons_zero, List.getElem?_cons_succ] at c0
      have lc := lt_of_block HXr.out
      go_wp2_with fail
      go_roundw
      case rel => exact ⟨2, by decide, rfl, rfl, HB⟩
      case measure => simp [intOf]
    | 2, _ =>
      rename World => wA
      have HZ : Hid (w.heap.size ≤ wA.heap.size) := Lib.hid HB.out.size
      have hgr := grow_any (xs.length + ys.length) wA hl hl2
      rw [Int.natCast_add] at hgr
      go_wp2_with fail
      refine hgr.mono ?_
      rintro e w1 ⟨⟨r, rfl, ho⟩, hb1⟩
      have HO := Lib.hid (ownsRow_mono HZ.out ho)
      have HB1 := Lib.hid (below_to HB.out hb1)
      clear hgr ho hb1 HB HXr HZ
      go_wp2_with fail
      go_loopw [6, 27] (fun v i w2 => ∃ q : Nat, q ≤ 2 ∧ i = .int .i64 q ∧ Hid (w2.ownsRow w.heap.size 3 1 v (if q = 0 then 0 else if q = 1 then xs.length else xs.length + ys.length) ((if q = 0 then [] else if q = 1 then xs else xs ++ ys).map iV)) ∧ Hid (Below w.heap.size w w2)) (fun _ i _ => 2 - (intOf i).toNat)
      case atStart => exact ⟨0, by decide, rfl, HO, HB1⟩
      case round =>
        clear HO HB1
        obtain ⟨q, hq, rfl, HO, HB⟩ := hrel
        have HXr := Lib.hid ((HB.out.block _ (lt_of_block HX.out)).trans HX.out)
        have HJ1 := Lib.hid ((HI1.out.same (.below (Nat.le_refl _) HB.out)).up HB.out.size)
        have HJ2 := Lib.hid ((HI2.out.same (.below (Nat.le_refl _) HB.out)).up HB.out.size)
        match q, hq with
        | 0, _ =>
          have c0 := cell_of_row wr b 0 _ _ _ HXr.out
          simp only [List.getElem?_toArray, List.getElem?_cons_zero, List.getElem?_cons_succ] at c0
          have lc := lt_of_block HXr.out
          obtain ⟨ov, W3, hr, ho, hbw⟩ := app_ints (ys := []) HO.out HJ1.out HB.out.size (by simp; omega)
          have HR := Lib.hid hr
          have HO3 := Lib.hid ho
          have HB3 := Lib.hid (HB.out.trans hbw)
          clear hr ho hbw
          go_wp2_with (first
            | (refine wpList_append_by (v := ov) (W' := W3) rfl (.tmp 31) (.tmp 32) 50 50 50 rfl rfl rfl rfl HR.out ?_)
            | fail)
          go_roundw
          case rel => exact ⟨1, by decide, rfl, Lib.hid (by simpa using HO3.out), HB3⟩
          case measure => simp [intOf]
        | 1, _ =>
          have c0 := cell_of_row wr b 1 _ _ _ HXr.out
          simp only [List.getElem?_toArray, List.getElem?_cons_zero, List.getElem?_cons_succ] at c0
          have lc := lt_of_block HXr.out
          obtain ⟨ov, W3, hr, ho, hbw⟩ := app_ints (ys := xs) HO.out HJ2.out HB.out.size hl2
          have HR := Lib.hid hr
          have HO3 := Lib.hid ho
          have HB3 := Lib.hid (HB.out.trans hbw)
          clear hr ho hbw
          go_wp2_with (first
            | (refine wpList_append_by (v := ov) (W' := W3) rfl (.tmp 31) (.tmp 32) 50 50 50 rfl rfl rfl rfl HR.out ?_)
            | fail)
          go_roundw
          case rel => exact ⟨2, by decide, rfl, Lib.hid HO3.out, HB3⟩
          case measure => simp [intOf]
        | 2, _ =>
          go_wp2_with fail
          go_ret
          exact ⟨⟨_, rfl, HO.out⟩, HB.out⟩
end Go.Proofs.Ytplmlmmjfkbabaa
