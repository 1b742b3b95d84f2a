/- The iterator over the bounds that a comparison sets: its contract. Condition: the comparison is valid. -/
import Derived.Test.YtplmlmmjfkbabaaI
import Derived.Test.YtplmlmmjfkbabaaBA
namespace Go.Proofs.Ytplmlmmjfkbabaa
open Go.RowKit Go.Shelf
attribute [local irreducible] arrV wpQuiet mat
attribute [local go_sem] Oper.semAt_some

def encB (b : Bd) : Array Value := #[bdV b]
def bdsL (c : Cm) : List Bd := [leftB c, rightB c]

theorem side0 (w : World) : (Instr.index 145 (.agg #[.func (.func 97) #[] #[], .func (.func 98) #[] #[]]) (.int .i64 0)).run Try.prog w = .ok (.agg #[.func (.func 97) #[] #[]]) w := by kernel_rfl
theorem side1 (w : World) : (Instr.index 145 (.agg #[.func (.func 97) #[] #[], .func (.func 98) #[] #[]]) (.int .i64 1)).run Try.prog w = .ok (.agg #[.func (.func 98) #[] #[]]) w := by kernel_rfl
theorem box_same {w : World} {T T0 : Nat → Prop} {n : Nat} (hO : Of T0 n T w) (o : Obj) : Of T0 n T (w.alloc o) := hO.grow (box_below w o).size

set_option maxRecDepth 100000 in
set_option maxHeartbeats 4000000 in
theorem bounds_seq (Bc : Nat) (c : Cm) (w : World) (hc : -100 ≤ c.lo ∧ c.lo ≤ 100 ∧ -100 ≤ c.hi ∧ c.hi ≤ 100) (hbo : w.heap[Bc]? = some (.cells #[.int .i64 c.l, .int .i64 c.r, .int .i64 c.lo, .int .i64 c.hi] 67 (0, 0))) :
    SeqD Try.prog 94 #[.pointer (some ⟨Bc, 0, none⟩)] encB (fun _ => True) (fun k => k = Bc) (fun xs => xs = bdsL c) (fun pre => pre <+: bdsL c) w := by
  intro l T0 J Jx W hW hT0 hJ hJx hY h0
  have hBl := lt_of_block hbo
  have hbW := (hW.block Bc hBl).trans hbo
  have HBW := Lib.hid hbW
  have HY := Lib.hid hY
  have HT0 := Lib.hid hT0
  have HC1 : Hid (IntKind.i64.wrap (-c.hi) = -c.hi) := Lib.hid (IntWalk.i64_in _ (by omega))
  have HC2 : Hid (IntKind.i64.wrap (-c.lo) = -c.lo) := Lib.hid (IntWalk.i64_in _ (by omega))
  clear hY hT0 hbo hc hBl hW hbW
  refine callsIn_of_wp Try.func94 rfl trivial ?_ rfl
  simp only [Try.ntmps94, List.size_toArray, List.length_cons, List.length_nil, Nat.reduceAdd, Nat.reduceSub, Array.replicate_succ, Array.replicate_zero, List.push_toArray, List.append_toArray, List.nil_append, List.cons_append]
  gi_wp2_with fail
  refine ⟨trivial, rfl, ?_⟩
  refine (callsIn_wide.2 (sides_any W)).mono ?_
  rintro e w1 ⟨rfl, hb1⟩
  have hOf0 : Of T0 W.heap.size T0 W := ⟨fun k hk => (HT0.out k hk).1, fun k hk => .inl hk, fun k hk => hk⟩
  have HJ1 := Lib.hid (hJ _ _ _ _ h0 (hOf0.free hb1))
  have HO1 := Lib.hid (hOf0.grow hb1.size)
  have HBT1 : Hid (But T0 W w1) := Lib.hid (But.of_below hb1)
  clear hb1 hOf0 h0
  gi_wp2
  gi_loopw [6] (fun v wr => ∃ (q : Nat) (T : Nat → Prop), q ≤ 2 ∧ v = .int .i64 q ∧ Hid (J T ((bdsL c).take q) wr) ∧ Hid (Of T0 W.heap.size T wr) ∧ Hid (But T0 W wr)) (fun v _ => 2 - (intOf v).toNat)
  case atStart => exact ⟨0, T0, by decide, rfl, HJ1, HO1, HBT1⟩
  case round =>
    clear HJ1 HO1 HBT1
    obtain ⟨q, T, hq, rfl, HJ1, HO1, HBT1⟩ := hrel
    have hne : ¬ T0 Bc := fun h => (HT0.out Bc h).2 rfl
    have hblk := (HBT1.out.block Bc (lt_of_block HBW.out) hne).trans HBW.out
    match q, hq with
    | 0, _ =>
      have hs := side0
      have k0 := cell_of_row wr Bc 0 _ _ _ hblk
      have k1 := cell_of_row wr Bc 1 _ _ _ hblk
      have k2 := cell_of_row wr Bc 2 _ _ _ hblk
      have k3 := cell_of_row wr Bc 3 _ _ _ hblk
      simp only [List.getElem?_toArray, List.getElem?_cons_zero, List.getElem?_cons_succ] at k0 k1 k2 k3
      have lb := lt_of_block hblk
      clear hblk
      gi_wp2_with fail
      have hbx := box_below wr (.cells #[.func (.func 97) #[] #[]] 144)
      generalize World.alloc wr _ = v1 at *
      refine ⟨trivial, rfl, ?_⟩
      refine (callsIn_wide.2 (ofLeft_any c _)).mono ?_
      rintro e v2 ⟨rfl, hb2⟩
      have hb := below_to hbx hb2
      have hj2 := hJ _ _ _ _ HJ1.out (HO1.out.free hb)
      have ho2 := HO1.out.grow hb.size
      have hbt2 : But T0 W v2 := HBT1.out.trans (But.of_below hb)
      obtain ⟨fn, tmps, assign, body, hy, hRd⟩ := HY.out T ((bdsL c).take 0) (leftB c) v2 trivial ⟨[rightB c], rfl⟩ hj2 ho2 hbt2
      unfold encB at hy
      have HRD := Lib.hid hRd
      have HO2 := Lib.hid ho2
      have HBT2 := Lib.hid hbt2
      clear hRd hj2 ho2 hbt2 hbx hb2 hb HJ1 HO1 HBT1 k0 k1 k2 k3 lb
      generalize bdV (leftB c) = bv at *
      gi_wp2_with fail
      refine ⟨rfl, ?_⟩
      refine RoundIn.mono (F := Fence.wide) HRD.out ?_
      clear hy HRD
      rintro e v3 ⟨hb3, (⟨rfl, hj3⟩ | ⟨rfl, hj3⟩)⟩
      · have HJ3 := Lib.hid hj3
        have HO3 := Lib.hid (HO2.out.more (by have := HBT2.out.size; omega) hb3.size)
        have HBT3 := Lib.hid (HO2.out.but (Nat.le_refl _) HBT2.out hb3)
        clear hj3 hb3
        gi_wp2
        go_roundw
        case rel => exact ⟨1, _, by decide, rfl, HJ3, HO3, HBT3⟩
        case measure => simp [intOf]
      · have HJ3 := Lib.hid hj3
        have HO3 := Lib.hid (HO2.out.more (by have := HBT2.out.size; omega) hb3.size)
        have HBT3 := Lib.hid (HO2.out.but (Nat.le_refl _) HBT2.out hb3)
        clear hj3 hb3
        gi_wp2
        exact bodyPost_ret (results_none rfl _ _ _) rfl ⟨⟨_, rfl⟩, HBT3.out, _, HO3.out, .inr ⟨_, ⟨[rightB c], rfl⟩, HJ3.out⟩⟩
    | 1, _ =>
      have hs := side1
      have k0 := cell_of_row wr Bc 0 _ _ _ hblk
      have k1 := cell_of_row wr Bc 1 _ _ _ hblk
      have k2 := cell_of_row wr Bc 2 _ _ _ hblk
      have k3 := cell_of_row wr Bc 3 _ _ _ hblk
      simp only [List.getElem?_toArray, List.getElem?_cons_zero, List.getElem?_cons_succ] at k0 k1 k2 k3
      have lb := lt_of_block hblk
      clear hblk
      gi_wp2_with fail
      have hbx := box_below wr (.cells #[.func (.func 98) #[] #[]] 144)
      generalize World.alloc wr _ = v1 at *
      refine ⟨trivial, rfl, ?_⟩
      refine (callsIn_wide.2 (ofRight_any c _ HC1.out HC2.out)).mono ?_
      rintro e v2 ⟨rfl, hb2⟩
      have hb := below_to hbx hb2
      have hj2 := hJ _ _ _ _ HJ1.out (HO1.out.free hb)
      have ho2 := HO1.out.grow hb.size
      have hbt2 : But T0 W v2 := HBT1.out.trans (But.of_below hb)
      obtain ⟨fn, tmps, assign, body, hy, hRd⟩ := HY.out T ((bdsL c).take 1) (rightB c) v2 trivial ⟨[], rfl⟩ hj2 ho2 hbt2
      unfold encB at hy
      have HRD := Lib.hid hRd
      have HO2 := Lib.hid ho2
      have HBT2 := Lib.hid hbt2
      clear hRd hj2 ho2 hbt2 hbx hb2 hb HJ1 HO1 HBT1 k0 k1 k2 k3 lb
      generalize bdV (rightB c) = bv at *
      gi_wp2_with fail
      refine ⟨rfl, ?_⟩
      refine RoundIn.mono (F := Fence.wide) HRD.out ?_
      clear hy HRD
      rintro e v3 ⟨hb3, (⟨rfl, hj3⟩ | ⟨rfl, hj3⟩)⟩
      · have HJ3 := Lib.hid hj3
        have HO3 := Lib.hid (HO2.out.more (by have := HBT2.out.size; omega) hb3.size)
        have HBT3 := Lib.hid (HO2.out.but (Nat.le_refl _) HBT2.out hb3)
        clear hj3 hb3
        gi_wp2
        go_roundw
        case rel => exact ⟨2, _, by decide, rfl, HJ3, HO3, HBT3⟩
        case measure => simp [intOf]
      · have HJ3 := Lib.hid hj3
        have HO3 := Lib.hid (HO2.out.more (by have := HBT2.out.size; omega) hb3.size)
        have HBT3 := Lib.hid (HO2.out.but (Nat.le_refl _) HBT2.out hb3)
        clear hj3 hb3
        gi_wp2
        exact bodyPost_ret (results_none rfl _ _ _) rfl ⟨⟨_, rfl⟩, HBT3.out, _, HO3.out, .inr ⟨_, ⟨[], rfl⟩, HJ3.out⟩⟩
    | 2, _ =>
      gi_wp2
      go_end0
      exact ⟨⟨_, rfl⟩, HBT1.out, T, HO1.out, .inl ⟨_, rfl, HJ1.out⟩⟩
end Go.Proofs.Ytplmlmmjfkbabaa
