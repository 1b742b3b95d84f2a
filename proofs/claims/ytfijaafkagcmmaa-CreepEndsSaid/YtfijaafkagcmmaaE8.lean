/- The law CreepEnds, walked. No condition. -/
import Derived.Test.YtfijaafkagcmmaaE7
namespace Go.Proofs.Ytfijaafkagcmmaa
open Go.RowKit Go.Shelf
attribute [local irreducible] arrV wpQuiet

theorem field60 (a b : Int) (w : World) : (Instr.field 60 (.agg #[.int .i64 a, .int .i64 b]) 0).run Try.prog w = .ok (.int .i64 a) w := by
  simp [Instr.field, go_sem, asAgg]
theorem field60' (a b : Int) (w : World) : (Instr.field 60 (.agg #[.int .i64 a, .int .i64 b]) 1).run Try.prog w = .ok (.int .i64 b) w := by
  simp [Instr.field, go_sem, asAgg]
set_option maxRecDepth 100000 in
set_option maxHeartbeats 1000000 in
theorem ends_no (mv rv pv : Value) (ms : List Rg) (rs : List Rn) (ss : List Sg) (w : World) (hV : RgsV w.heap.size w mv ms) (hR : RunsV w.heap.size w rv rs) (hP : SegsV w.heap.size w pv ss) (hz : readyB ms rs ss = false) :
    Calls Try.prog 12 #[.agg #[mv], rv, pv] w fun e w' => e = .returned (.bool true) ∧ Below w.heap.size w w' := by
  have HR := Lib.hid fun w' (h : Below w.heap.size w w') => ready_any w.heap.size mv rv pv ms rs ss w' (hV.same (.below (Nat.le_refl _) h)) (hR.same (.below (Nat.le_refl _) h)) (hP.same (.below (Nat.le_refl _) h)) h.size
  rw [hz] at HR
  obtain ⟨am, capm, rfl, -⟩ := hV
  obtain ⟨ar, capr, rfl, -⟩ := hR
  obtain ⟨ap, capp, rfl, -⟩ := hP
  have HB := Lib.hid (box_below w (.cells #[.slice am ms.length capm] 24))
  have HA := Lib.hid awake_any
  go_enter Try.func12, Try.ntmps12
  go_wp2_with fail
  refine (HR.out _ HB.out).mono ?_
  rintro e w1 ⟨rfl, hb1⟩
  have HB1 := Lib.hid (below_to HB.out hb1)
  clear hb1
  go_wp2_with fail
  refine (HA.out _).mono ?_
  rintro e w2 ⟨rfl, hb2⟩
  have HB2 := Lib.hid (below_to HB1.out hb2)
  clear hb2
  go_wp2
  go_ret
  exact ⟨rfl, HB2.out⟩

set_option maxRecDepth 100000 in
set_option maxHeartbeats 4000000 in
theorem ends_yes (mv rv pv : Value) (ms : List Rg) (rs : List Rn) (ss : List Sg) (w : World) (hV : RgsV w.heap.size w mv ms) (hR : RunsV w.heap.size w rv rs) (hP : SegsV w.heap.size w pv ss) (hz : readyB ms rs ss = true) :
    Calls Try.prog 12 #[.agg #[mv], rv, pv] w fun e w' => e = .returned (.bool true) ∧ Below w.heap.size w w' := by
  have HR := Lib.hid fun w' (h : Below w.heap.size w w') => ready_any w.heap.size mv rv pv ms rs ss w' (hV.same (.below (Nat.le_refl _) h)) (hR.same (.below (Nat.le_refl _) h)) (hP.same (.below (Nat.le_refl _) h)) h.size
  rw [hz] at HR
  obtain ⟨hK, hPL⟩ := readyB_ok hz
  have hlen := hK.mat.len
  have hrl := hK.len
  have hpl := hPL.len
  have HMA := Lib.hid fun w' (h : Below w.heap.size w w') => Material_any w.heap.size mv ms w' (by omega) (hV.same (.below (Nat.le_refl _) h)) h.size
  have HRU := Lib.hid fun w' (h : Below w.heap.size w w') => Runs_any w.heap.size rv rs w' (by omega) (fun r hr => by have := (hK.rn r hr).len; omega) (hR.same (.below (Nat.le_refl _) h)) h.size
  have HPA := Lib.hid fun w' (h : Below w.heap.size w w') => Plan_any w.heap.size pv ss w' (by omega) (hP.same (.below (Nat.le_refl _) h)) h.size
  have HPV := Lib.hid fun w' (h : Below w.heap.size w w') => hP.same (.below (n := w.heap.size) (Nat.le_refl _) h)
  have HK := Lib.hid hK
  have HPO := Lib.hid hPL
  obtain ⟨am, capm, rfl, -⟩ := hV
  obtain ⟨ar, capr, rfl, -⟩ := hR
  obtain ⟨ap, capp, rfl, -⟩ := hP
  have HX := Lib.hid (heap_alloc_new w (.cells #[.slice am ms.length capm] 24))
  have HB := Lib.hid (box_below w (.cells #[.slice am ms.length capm] 24))
  have HA := Lib.hid awake_any
  clear hz hK hPL
  go_enter Try.func12, Try.ntmps12
  go_wp2_with fail
  refine (HR.out _ HB.out).mono ?_
  rintro e w1 ⟨rfl, hb1⟩
  have HXA := Lib.hid ((hb1.block _ (lt_of_block HX.out)).trans HX.out)
  have HBA := Lib.hid (below_to HB.out hb1)
  have c0 := cell_of_row w1 w.heap.size 0 _ _ _ HXA.out
  simp at c0
  have l0 := lt_of_block HXA.out
  clear hb1
  go_wp2_with fail
  by_cases hne : okL ms rs = []
  · have HNE := Lib.hid hne
    clear hne
    refine (HMA.out _ HBA.out).mono ?_
    rintro e u1 ⟨⟨m6, rfl, hm6⟩, hb6⟩
    replace HXA := Lib.hid ((hb6.block _ (lt_of_block HXA.out)).trans HXA.out)
    replace HBA := Lib.hid (below_to HBA.out hb6)
    have HM6 := Lib.hid hm6
    clear hb6 hm6 c0 l0
    go_wp2_with fail
    refine (HRU.out _ HBA.out).mono ?_
    rintro e u2 ⟨⟨r7, rfl, hr7⟩, hb7⟩
    have HV7 : Hid (RoomV u2.heap.size u2 m6 r7 ms rs) := Lib.hid ⟨Nat.le_refl _, (HM6.out.same (.below (Nat.le_refl _) hb7)).up hb7.size, hr7⟩
    replace HXA := Lib.hid ((hb7.block _ (lt_of_block HXA.out)).trans HXA.out)
    replace HBA := Lib.hid (below_to HBA.out hb7)
    clear hb7 hr7 HM6
    go_wp2_with fail
    refine (HPA.out _ HBA.out).mono ?_
    rintro e u3 ⟨⟨p8, rfl, hp8⟩, hb8⟩
    have HS8 := Lib.hid (own_segs (l := ss) hp8)
    have HV8 : Hid (RoomV u3.heap.size u3 m6 r7 ms rs) := Lib.hid ⟨Nat.le_refl _, (HV7.out.below hb8).m.up hb8.size, (HV7.out.below hb8).r.up hb8.size⟩
    replace HXA := Lib.hid ((hb8.block _ (lt_of_block HXA.out)).trans HXA.out)
    replace HBA := Lib.hid (below_to HBA.out hb8)
    clear hb8 hp8 HV7
    go_wp2_with fail
    refine (Stretch_fail u3.heap.size m6 r7 p8 ms rs ss u3 HK.out HV8.out HPO.out HS8.out HNE.out).mono ?_
    rintro e u4 ⟨rfl, hb9⟩
    replace HXA := Lib.hid ((hb9.block _ (lt_of_block HXA.out)).trans HXA.out)
    replace HBA := Lib.hid (below_to HBA.out hb9)
    clear hb9 HS8 HV8
    have c0 := cell_of_row u4 w.heap.size 0 _ _ _ HXA.out
    simp only [List.getElem?_toArray, List.getElem?_cons_zero] at c0
    have l0 := lt_of_block HXA.out
    go_wp2_with fail
    have hbx := box_below u4 (.cells #[.int .i64 0, .int .i64 0] 50)
    have BX := Lib.hid (heap_alloc_new u4 (.cells #[.int .i64 0, .int .i64 0] 50))
    replace HXA := Lib.hid ((hbx.block _ (lt_of_block HXA.out)).trans HXA.out)
    replace HBA := Lib.hid (below_to HBA.out hbx)
    clear hbx
    generalize World.alloc u4 _ = u5 at *
    generalize u4.heap.size = bx at *
    refine (HMA.out _ HBA.out).mono ?_
    rintro e u1 ⟨⟨m6, rfl, hm6⟩, hb6⟩
    replace HXA := Lib.hid ((hb6.block _ (lt_of_block HXA.out)).trans HXA.out)
    replace HBA := Lib.hid (below_to HBA.out hb6)
    replace BX := Lib.hid ((hb6.block _ (lt_of_block BX.out)).trans BX.out)
    have HM6 := Lib.hid hm6
    clear hb6 hm6 c0 l0
    go_wp2_with fail
    refine (HRU.out _ HBA.out).mono ?_
    rintro e u2 ⟨⟨r7, rfl, hr7⟩, hb7⟩
    have HV7 : Hid (RoomV u2.heap.size u2 m6 r7 ms rs) := Lib.hid ⟨Nat.le_refl _, (HM6.out.same (.below (Nat.le_refl _) hb7)).up hb7.size, hr7⟩
    replace HXA := Lib.hid ((hb7.block _ (lt_of_block HXA.out)).trans HXA.out)
    replace HBA := Lib.hid (below_to HBA.out hb7)
    replace BX := Lib.hid ((hb7.block _ (lt_of_block BX.out)).trans BX.out)
    clear hb7 hr7 HM6
    go_wp2_with fail
    refine (HPA.out _ HBA.out).mono ?_
    rintro e u3 ⟨⟨p8, rfl, hp8⟩, hb8⟩
    have HS8 := Lib.hid (own_segs (l := ss) hp8)
    have HV8 : Hid (RoomV u3.heap.size u3 m6 r7 ms rs) := Lib.hid ⟨Nat.le_refl _, (HV7.out.below hb8).m.up hb8.size, (HV7.out.below hb8).r.up hb8.size⟩
    replace HXA := Lib.hid ((hb8.block _ (lt_of_block HXA.out)).trans HXA.out)
    replace HBA := Lib.hid (below_to HBA.out hb8)
    replace BX := Lib.hid ((hb8.block _ (lt_of_block BX.out)).trans BX.out)
    clear hb8 hp8 HV7
    go_wp2_with fail
    refine (Shows_fail u3.heap.size false m6 r7 p8 ms rs ss u3 HK.out HV8.out HPO.out HS8.out HNE.out).mono ?_
    rintro e u4 ⟨rfl, hb9⟩
    replace HXA := Lib.hid ((hb9.block _ (lt_of_block HXA.out)).trans HXA.out)
    replace HBA := Lib.hid (below_to HBA.out hb9)
    replace BX := Lib.hid ((hb9.block _ (lt_of_block BX.out)).trans BX.out)
    clear hb9 HS8 HV8
    have c0 := cell_of_row u4 w.heap.size 0 _ _ _ HXA.out
    simp only [List.getElem?_toArray, List.getElem?_cons_zero] at c0
    have l0 := lt_of_block HXA.out
    go_wp2_with fail
    refine (HMA.out _ HBA.out).mono ?_
    rintro e u1 ⟨⟨m6, rfl, hm6⟩, hb6⟩
    replace HXA := Lib.hid ((hb6.block _ (lt_of_block HXA.out)).trans HXA.out)
    replace HBA := Lib.hid (below_to HBA.out hb6)
    replace BX := Lib.hid ((hb6.block _ (lt_of_block BX.out)).trans BX.out)
    have HM6 := Lib.hid hm6
    clear hb6 hm6 c0 l0
    go_wp2_with fail
    refine (HRU.out _ HBA.out).mono ?_
    rintro e u2 ⟨⟨r7, rfl, hr7⟩, hb7⟩
    have HV7 : Hid (RoomV u2.heap.size u2 m6 r7 ms rs) := Lib.hid ⟨Nat.le_refl _, (HM6.out.same (.below (Nat.le_refl _) hb7)).up hb7.size, hr7⟩
    replace HXA := Lib.hid ((hb7.block _ (lt_of_block HXA.out)).trans HXA.out)
    replace HBA := Lib.hid (below_to HBA.out hb7)
    replace BX := Lib.hid ((hb7.block _ (lt_of_block BX.out)).trans BX.out)
    clear hb7 hr7 HM6
    go_wp2_with fail
    refine (HPA.out _ HBA.out).mono ?_
    rintro e u3 ⟨⟨p8, rfl, hp8⟩, hb8⟩
    have HS8 := Lib.hid (own_segs (l := ss) hp8)
    have HV8 : Hid (RoomV u3.heap.size u3 m6 r7 ms rs) := Lib.hid ⟨Nat.le_refl _, (HV7.out.below hb8).m.up hb8.size, (HV7.out.below hb8).r.up hb8.size⟩
    replace HXA := Lib.hid ((hb8.block _ (lt_of_block HXA.out)).trans HXA.out)
    replace HBA := Lib.hid (below_to HBA.out hb8)
    replace BX := Lib.hid ((hb8.block _ (lt_of_block BX.out)).trans BX.out)
    clear hb8 hp8 HV7
    go_wp2_with fail
    refine (Shows_fail u3.heap.size true m6 r7 p8 ms rs ss u3 HK.out HV8.out HPO.out HS8.out HNE.out).mono ?_
    rintro e u4 ⟨rfl, hb9⟩
    replace HXA := Lib.hid ((hb9.block _ (lt_of_block HXA.out)).trans HXA.out)
    replace HBA := Lib.hid (below_to HBA.out hb9)
    replace BX := Lib.hid ((hb9.block _ (lt_of_block BX.out)).trans BX.out)
    clear hb9 HS8 HV8
    have c0 := cell_of_row u4 w.heap.size 0 _ _ _ HXA.out
    simp only [List.getElem?_toArray, List.getElem?_cons_zero] at c0
    have l0 := lt_of_block HXA.out
    go_wp2_with fail
    refine (HA.out _).mono ?_
    rintro e u7 ⟨rfl, hb12⟩
    have HB12 := Lib.hid (below_to HBA.out hb12)
    clear hb12
    go_wp2
    go_ret
    exact ⟨rfl, HB12.out⟩
  · have HNE := Lib.hid hne
    clear hne
    obtain ⟨x0, E0L⟩ : ∃ x, Hid ((stretchL (okL ms rs) ss).lo = x) := ⟨_, Lib.hid rfl⟩
    obtain ⟨y0, E0H⟩ : ∃ x, Hid ((stretchL (okL ms rs) ss).hi = x) := ⟨_, Lib.hid rfl⟩
    refine (HMA.out _ HBA.out).mono ?_
    rintro e u1 ⟨⟨m6, rfl, hm6⟩, hb6⟩
    replace HXA := Lib.hid ((hb6.block _ (lt_of_block HXA.out)).trans HXA.out)
    replace HBA := Lib.hid (below_to HBA.out hb6)
    have HM6 := Lib.hid hm6
    clear hb6 hm6 c0 l0
    go_wp2_with fail
    refine (HRU.out _ HBA.out).mono ?_
    rintro e u2 ⟨⟨r7, rfl, hr7⟩, hb7⟩
    have HV7 : Hid (RoomV u2.heap.size u2 m6 r7 ms rs) := Lib.hid ⟨Nat.le_refl _, (HM6.out.same (.below (Nat.le_refl _) hb7)).up hb7.size, hr7⟩
    replace HXA := Lib.hid ((hb7.block _ (lt_of_block HXA.out)).trans HXA.out)
    replace HBA := Lib.hid (below_to HBA.out hb7)
    clear hb7 hr7 HM6
    go_wp2_with fail
    refine (HPA.out _ HBA.out).mono ?_
    rintro e u3 ⟨⟨p8, rfl, hp8⟩, hb8⟩
    have HS8 := Lib.hid (own_segs (l := ss) hp8)
    have HV8 : Hid (RoomV u3.heap.size u3 m6 r7 ms rs) := Lib.hid ⟨Nat.le_refl _, (HV7.out.below hb8).m.up hb8.size, (HV7.out.below hb8).r.up hb8.size⟩
    replace HXA := Lib.hid ((hb8.block _ (lt_of_block HXA.out)).trans HXA.out)
    replace HBA := Lib.hid (below_to HBA.out hb8)
    clear hb8 hp8 HV7
    go_wp2_with fail
    refine (Stretch_ok u3.heap.size m6 r7 p8 ms rs ss u3 HK.out HV8.out HPO.out HS8.out HNE.out).mono ?_
    rintro e u4 ⟨rfl, hb9⟩
    rw [E0L.out, E0H.out]
    replace HXA := Lib.hid ((hb9.block _ (lt_of_block HXA.out)).trans HXA.out)
    replace HBA := Lib.hid (below_to HBA.out hb9)
    clear hb9 HS8 HV8
    have c0 := cell_of_row u4 w.heap.size 0 _ _ _ HXA.out
    simp only [List.getElem?_toArray, List.getElem?_cons_zero] at c0
    have l0 := lt_of_block HXA.out
    go_wp2_with fail
    have hbx := box_below u4 (.cells #[.int .i64 x0, .int .i64 y0] 50)
    have BX := Lib.hid (heap_alloc_new u4 (.cells #[.int .i64 x0, .int .i64 y0] 50))
    replace HXA := Lib.hid ((hbx.block _ (lt_of_block HXA.out)).trans HXA.out)
    replace HBA := Lib.hid (below_to HBA.out hbx)
    clear hbx
    generalize World.alloc u4 _ = u5 at *
    generalize u4.heap.size = bx at *
    refine (HMA.out _ HBA.out).mono ?_
    rintro e u1 ⟨⟨m6, rfl, hm6⟩, hb6⟩
    replace HXA := Lib.hid ((hb6.block _ (lt_of_block HXA.out)).trans HXA.out)
    replace HBA := Lib.hid (below_to HBA.out hb6)
    replace BX := Lib.hid ((hb6.block _ (lt_of_block BX.out)).trans BX.out)
    have HM6 := Lib.hid hm6
    clear hb6 hm6 c0 l0
    go_wp2_with fail
    refine (HRU.out _ HBA.out).mono ?_
    rintro e u2 ⟨⟨r7, rfl, hr7⟩, hb7⟩
    have HV7 : Hid (RoomV u2.heap.size u2 m6 r7 ms rs) := Lib.hid ⟨Nat.le_refl _, (HM6.out.same (.below (Nat.le_refl _) hb7)).up hb7.size, hr7⟩
    replace HXA := Lib.hid ((hb7.block _ (lt_of_block HXA.out)).trans HXA.out)
    replace HBA := Lib.hid (below_to HBA.out hb7)
    replace BX := Lib.hid ((hb7.block _ (lt_of_block BX.out)).trans BX.out)
    clear hb7 hr7 HM6
    go_wp2_with fail
    refine (HPA.out _ HBA.out).mono ?_
    rintro e u3 ⟨⟨p8, rfl, hp8⟩, hb8⟩
    have HS8 := Lib.hid (own_segs (l := ss) hp8)
    have HV8 : Hid (RoomV u3.heap.size u3 m6 r7 ms rs) := Lib.hid ⟨Nat.le_refl _, (HV7.out.below hb8).m.up hb8.size, (HV7.out.below hb8).r.up hb8.size⟩
    replace HXA := Lib.hid ((hb8.block _ (lt_of_block HXA.out)).trans HXA.out)
    replace HBA := Lib.hid (below_to HBA.out hb8)
    replace BX := Lib.hid ((hb8.block _ (lt_of_block BX.out)).trans BX.out)
    clear hb8 hp8 HV7
    go_wp2_with fail
    refine (Shows_ok u3.heap.size false m6 r7 p8 ms rs ss u3 HK.out HV8.out HPO.out HS8.out HNE.out).mono ?_
    rintro e u4 ⟨⟨v0, X0, rfl, hi0, hf0⟩, hb9⟩
    have HI0 := Lib.hid hi0
    have HF0 := Lib.hid hf0
    clear hi0 hf0
    replace HXA := Lib.hid ((hb9.block _ (lt_of_block HXA.out)).trans HXA.out)
    replace HBA := Lib.hid (below_to HBA.out hb9)
    replace BX := Lib.hid ((hb9.block _ (lt_of_block BX.out)).trans BX.out)
    clear hb9 HS8 HV8
    have c0 := cell_of_row u4 w.heap.size 0 _ _ _ HXA.out
    simp only [List.getElem?_toArray, List.getElem?_cons_zero] at c0
    have l0 := lt_of_block HXA.out
    go_wp2_with fail
    refine (HMA.out _ HBA.out).mono ?_
    rintro e u1 ⟨⟨m6, rfl, hm6⟩, hb6⟩
    replace HXA := Lib.hid ((hb6.block _ (lt_of_block HXA.out)).trans HXA.out)
    replace HBA := Lib.hid (below_to HBA.out hb6)
    replace BX := Lib.hid ((hb6.block _ (lt_of_block BX.out)).trans BX.out)
    replace HI0 := Lib.hid ((HI0.out.same (.below (Nat.le_refl _) hb6)).up hb6.size)
    have HM6 := Lib.hid hm6
    clear hb6 hm6 c0 l0
    go_wp2_with fail
    refine (HRU.out _ HBA.out).mono ?_
    rintro e u2 ⟨⟨r7, rfl, hr7⟩, hb7⟩
    have HV7 : Hid (RoomV u2.heap.size u2 m6 r7 ms rs) := Lib.hid ⟨Nat.le_refl _, (HM6.out.same (.below (Nat.le_refl _) hb7)).up hb7.size, hr7⟩
    replace HXA := Lib.hid ((hb7.block _ (lt_of_block HXA.out)).trans HXA.out)
    replace HBA := Lib.hid (below_to HBA.out hb7)
    replace BX := Lib.hid ((hb7.block _ (lt_of_block BX.out)).trans BX.out)
    replace HI0 := Lib.hid ((HI0.out.same (.below (Nat.le_refl _) hb7)).up hb7.size)
    clear hb7 hr7 HM6
    go_wp2_with fail
    refine (HPA.out _ HBA.out).mono ?_
    rintro e u3 ⟨⟨p8, rfl, hp8⟩, hb8⟩
    have HS8 := Lib.hid (own_segs (l := ss) hp8)
    have HV8 : Hid (RoomV u3.heap.size u3 m6 r7 ms rs) := Lib.hid ⟨Nat.le_refl _, (HV7.out.below hb8).m.up hb8.size, (HV7.out.below hb8).r.up hb8.size⟩
    replace HXA := Lib.hid ((hb8.block _ (lt_of_block HXA.out)).trans HXA.out)
    replace HBA := Lib.hid (below_to HBA.out hb8)
    replace BX := Lib.hid ((hb8.block _ (lt_of_block BX.out)).trans BX.out)
    replace HI0 := Lib.hid ((HI0.out.same (.below (Nat.le_refl _) hb8)).up hb8.size)
    clear hb8 hp8 HV7
    go_wp2_with fail
    refine (Shows_ok u3.heap.size true m6 r7 p8 ms rs ss u3 HK.out HV8.out HPO.out HS8.out HNE.out).mono ?_
    rintro e u4 ⟨⟨v1, X1, rfl, hi1, hf1⟩, hb9⟩
    have HI1 := Lib.hid hi1
    have HF1 := Lib.hid hf1
    clear hi1 hf1
    replace HXA := Lib.hid ((hb9.block _ (lt_of_block HXA.out)).trans HXA.out)
    replace HBA := Lib.hid (below_to HBA.out hb9)
    replace BX := Lib.hid ((hb9.block _ (lt_of_block BX.out)).trans BX.out)
    replace HI0 := Lib.hid ((HI0.out.same (.below (Nat.le_refl _) hb9)).up hb9.size)
    clear hb9 HS8 HV8
    have c0 := cell_of_row u4 w.heap.size 0 _ _ _ HXA.out
    simp only [List.getElem?_toArray, List.getElem?_cons_zero] at c0
    have l0 := lt_of_block HXA.out
    go_wp2_with fail
    have HM0 := mem_okL.1 HF0.out.1
    have HQ0 := Lib.hid HM0
    clear HM0
    have HM1 := mem_okL.1 HF1.out.1
    have HQ1 := Lib.hid HM1
    clear HM1
    refine (HMA.out _ HBA.out).mono ?_
    rintro e u1 ⟨⟨m6, rfl, hm6⟩, hb6⟩
    replace HXA := Lib.hid ((hb6.block _ (lt_of_block HXA.out)).trans HXA.out)
    replace HBA := Lib.hid (below_to HBA.out hb6)
    replace BX := Lib.hid ((hb6.block _ (lt_of_block BX.out)).trans BX.out)
    replace HI0 := Lib.hid ((HI0.out.same (.below (Nat.le_refl _) hb6)).up hb6.size)
    replace HI1 := Lib.hid ((HI1.out.same (.below (Nat.le_refl _) hb6)).up hb6.size)
    have HM6 := Lib.hid hm6
    clear hb6 hm6 c0 l0
    go_wp2_with fail
    refine (HRU.out _ HBA.out).mono ?_
    rintro e u2 ⟨⟨r7, rfl, hr7⟩, hb7⟩
    have HV7 : Hid (RoomV u2.heap.size u2 m6 r7 ms rs) := Lib.hid ⟨Nat.le_refl _, (HM6.out.same (.below (Nat.le_refl _) hb7)).up hb7.size, hr7⟩
    replace HXA := Lib.hid ((hb7.block _ (lt_of_block HXA.out)).trans HXA.out)
    replace HBA := Lib.hid (below_to HBA.out hb7)
    replace BX := Lib.hid ((hb7.block _ (lt_of_block BX.out)).trans BX.out)
    replace HI0 := Lib.hid ((HI0.out.same (.below (Nat.le_refl _) hb7)).up hb7.size)
    replace HI1 := Lib.hid ((HI1.out.same (.below (Nat.le_refl _) hb7)).up hb7.size)
    clear hb7 hr7 HM6
    go_wp2_with fail
    refine (list_any u2.heap.size v0 X0 u2 (by have := len_of HQ0.out.1; have := HK.out.mat.one; omega) (by have := len_of HQ0.out.1; have := HK.out.mat.len; omega) HI0.out).mono ?_
    rintro e u3 ⟨⟨p8, rfl, hp8⟩, hb8⟩
    have HS8 := Lib.hid hp8
    have HV8 : Hid (RoomV u3.heap.size u3 m6 r7 ms rs) := Lib.hid ⟨Nat.le_refl _, (HV7.out.below hb8).m.up hb8.size, (HV7.out.below hb8).r.up hb8.size⟩
    replace HXA := Lib.hid ((hb8.block _ (lt_of_block HXA.out)).trans HXA.out)
    replace HBA := Lib.hid (below_to HBA.out hb8)
    replace BX := Lib.hid ((hb8.block _ (lt_of_block BX.out)).trans BX.out)
    replace HI0 := Lib.hid ((HI0.out.same (.below (Nat.le_refl _) hb8)).up hb8.size)
    replace HI1 := Lib.hid ((HI1.out.same (.below (Nat.le_refl _) hb8)).up hb8.size)
    clear hb8 hp8 HV7
    go_wp2_with fail
    have hal := Allows_ok u3.heap.size m6 r7 p8 ms rs X0 u3 HK.out HQ0.out.1 HV8.out HS8.out
    rw [HQ0.out.2] at hal
    refine hal.mono ?_
    rintro e u4 ⟨rfl, hb9⟩
    replace HXA := Lib.hid ((hb9.block _ (lt_of_block HXA.out)).trans HXA.out)
    replace HBA := Lib.hid (below_to HBA.out hb9)
    replace BX := Lib.hid ((hb9.block _ (lt_of_block BX.out)).trans BX.out)
    replace HI0 := Lib.hid ((HI0.out.same (.below (Nat.le_refl _) hb9)).up hb9.size)
    replace HI1 := Lib.hid ((HI1.out.same (.below (Nat.le_refl _) hb9)).up hb9.size)
    clear hb9 HS8 HV8 hal
    have c0 := cell_of_row u4 w.heap.size 0 _ _ _ HXA.out
    simp only [List.getElem?_toArray, List.getElem?_cons_zero] at c0
    have l0 := lt_of_block HXA.out
    go_wp2_with fail
    refine (HMA.out _ HBA.out).mono ?_
    rintro e u1 ⟨⟨m6, rfl, hm6⟩, hb6⟩
    replace HXA := Lib.hid ((hb6.block _ (lt_of_block HXA.out)).trans HXA.out)
    replace HBA := Lib.hid (below_to HBA.out hb6)
    replace BX := Lib.hid ((hb6.block _ (lt_of_block BX.out)).trans BX.out)
    replace HI0 := Lib.hid ((HI0.out.same (.below (Nat.le_refl _) hb6)).up hb6.size)
    replace HI1 := Lib.hid ((HI1.out.same (.below (Nat.le_refl _) hb6)).up hb6.size)
    have HM6 := Lib.hid hm6
    clear hb6 hm6 c0 l0
    go_wp2_with fail
    refine (HRU.out _ HBA.out).mono ?_
    rintro e u2 ⟨⟨r7, rfl, hr7⟩, hb7⟩
    have HV7 : Hid (RoomV u2.heap.size u2 m6 r7 ms rs) := Lib.hid ⟨Nat.le_refl _, (HM6.out.same (.below (Nat.le_refl _) hb7)).up hb7.size, hr7⟩
    replace HXA := Lib.hid ((hb7.block _ (lt_of_block HXA.out)).trans HXA.out)
    replace HBA := Lib.hid (below_to HBA.out hb7)
    replace BX := Lib.hid ((hb7.block _ (lt_of_block BX.out)).trans BX.out)
    replace HI0 := Lib.hid ((HI0.out.same (.below (Nat.le_refl _) hb7)).up hb7.size)
    replace HI1 := Lib.hid ((HI1.out.same (.below (Nat.le_refl _) hb7)).up hb7.size)
    clear hb7 hr7 HM6
    go_wp2_with fail
    refine (list_any u2.heap.size v1 X1 u2 (by have := len_of HQ1.out.1; have := HK.out.mat.one; omega) (by have := len_of HQ1.out.1; have := HK.out.mat.len; omega) HI1.out).mono ?_
    rintro e u3 ⟨⟨p8, rfl, hp8⟩, hb8⟩
    have HS8 := Lib.hid hp8
    have HV8 : Hid (RoomV u3.heap.size u3 m6 r7 ms rs) := Lib.hid ⟨Nat.le_refl _, (HV7.out.below hb8).m.up hb8.size, (HV7.out.below hb8).r.up hb8.size⟩
    replace HXA := Lib.hid ((hb8.block _ (lt_of_block HXA.out)).trans HXA.out)
    replace HBA := Lib.hid (below_to HBA.out hb8)
    replace BX := Lib.hid ((hb8.block _ (lt_of_block BX.out)).trans BX.out)
    replace HI0 := Lib.hid ((HI0.out.same (.below (Nat.le_refl _) hb8)).up hb8.size)
    replace HI1 := Lib.hid ((HI1.out.same (.below (Nat.le_refl _) hb8)).up hb8.size)
    clear hb8 hp8 HV7
    go_wp2_with fail
    have hal := Allows_ok u3.heap.size m6 r7 p8 ms rs X1 u3 HK.out HQ1.out.1 HV8.out HS8.out
    rw [HQ1.out.2] at hal
    refine hal.mono ?_
    rintro e u4 ⟨rfl, hb9⟩
    replace HXA := Lib.hid ((hb9.block _ (lt_of_block HXA.out)).trans HXA.out)
    replace HBA := Lib.hid (below_to HBA.out hb9)
    replace BX := Lib.hid ((hb9.block _ (lt_of_block BX.out)).trans BX.out)
    replace HI0 := Lib.hid ((HI0.out.same (.below (Nat.le_refl _) hb9)).up hb9.size)
    replace HI1 := Lib.hid ((HI1.out.same (.below (Nat.le_refl _) hb9)).up hb9.size)
    clear hb9 HS8 HV8 hal
    have b0 := cell_of_row u4 bx 0 _ _ _ BX.out
    have b1 := cell_of_row u4 bx 1 _ _ _ BX.out
    simp only [List.getElem?_toArray, List.getElem?_cons_zero, List.getElem?_cons_succ] at b0 b1
    have RS0 : Hid (∀ w', Below u4.heap.size u4 w' → Calls Try.prog 34 #[.slice ap ss.length capp, v0] w' fun e w'' => e = .returned (.agg #[.int .i64 x0, .int .i64 (hiS ss X0)]) ∧ Below w'.heap.size w' w'') := Lib.hid fun w' h => by
      have := refStretch_any u4.heap.size (.slice ap ss.length capp) v0 ss X0 w' (rates_of HQ0.out.1 HK.out.mat.toRgsOk) (by rw [len_of HQ0.out.1]; exact HPO.out) ((HPV.out w' (below_to HBA.out h)).up HBA.out.size) (HI0.out.same (.below (Nat.le_refl _) h)) h.size (by rw [len_of HQ0.out.1]; have := HK.out.mat.len; omega)
      rw [far_lo HF0.out, E0L.out] at this
      exact this
    have RS1 : Hid (∀ w', Below u4.heap.size u4 w' → Calls Try.prog 34 #[.slice ap ss.length capp, v1] w' fun e w'' => e = .returned (.agg #[.int .i64 (loS ss X1), .int .i64 y0]) ∧ Below w'.heap.size w' w'') := Lib.hid fun w' h => by
      have := refStretch_any u4.heap.size (.slice ap ss.length capp) v1 ss X1 w' (rates_of HQ1.out.1 HK.out.mat.toRgsOk) (by rw [len_of HQ1.out.1]; exact HPO.out) ((HPV.out w' (below_to HBA.out h)).up HBA.out.size) (HI1.out.same (.below (Nat.le_refl _) h)) h.size (by rw [len_of HQ1.out.1]; have := HK.out.mat.len; omega)
      rw [far_hi HF1.out, E0H.out] at this
      exact this
    generalize hiS ss X0 = z0 at *
    generalize loS ss X1 = z1 at *
    have F0 : ∀ w, (Instr.field 60 (.agg #[.int .i64 x0, .int .i64 z0]) 0).run Try.prog w = .ok (.int .i64 x0) w := field60 x0 z0
    have F1 : ∀ w, (Instr.field 60 (.agg #[.int .i64 z1, .int .i64 y0]) 1).run Try.prog w = .ok (.int .i64 y0) w := field60' z1 y0
    have HAS : ∀ (c : Array Value) w, Sem.run Try.prog (asAgg (.agg c)) w = .ok c w := fun _ _ => rfl
    have gb0 := cell_regrown b0
    have gb1 := cell_regrown b1
    clear b0 b1
    go_wp2_with fail
    refine wp_region_quiet_below (by kernel_rfl) (by kernel_rfl) ?_
    repeat (quiet_step (first | with_reducible exact Calls.regrown_of (RS0.out _ (below_regrown _ _ _)) | with_reducible exact Calls.regrown_of (RS1.out _ (below_regrown _ _ _)) | with_reducible exact Calls.regrown_of (HA.out _)))
    refine wpQuiet_nil ?_
    intro _ hw'
    obtain ⟨⟨dq, osq⟩, hw''⟩ := hw'
    subst hw''
    go_wp2
    go_ret
    exact ⟨rfl, below_to HBA.out (below_regrown u4 dq osq)⟩
end Go.Proofs.Ytfijaafkagcmmaa
