/- The law CreepLife, walked. No condition. -/
import Derived.Test.YtfijaafkagcmmaaR6
namespace Go.Proofs.Ytfijaafkagcmmaa
open Go.RowKit Go.Shelf
attribute [local irreducible] arrV wpQuiet

theorem hours_bnd {st r : Int} (hs : 0 ≤ st) (hr : 0 ≤ r) : -1 ≤ hoursP st r ∧ hoursP st r ≤ st := by
  unfold hoursP
  by_cases h0 : st = 0
  · rw [if_pos h0]; omega
  · rw [if_neg h0]
    by_cases h1 : r = 0
    · rw [if_pos h1]; omega
    · rw [if_neg h1]
      have h2 := Int.ediv_nonneg (a := st - 1) (b := r) (by omega) hr
      have h3 := Int.ediv_le_self (a := st - 1) r (by omega)
      omega
theorem plan_one {n : Nat} {b h : Int} (hb : 0 ≤ b ∧ b < n) (h0 : 0 ≤ h) (h1 : h ≤ 1000000) : PlanOk n [⟨b, ⟨h, h⟩⟩] :=
  ⟨by simp, fun s hs => by
    simp only [List.mem_cons, List.not_mem_nil, or_false] at hs
    subst hs
    exact ⟨hb.1, hb.2, h0, Int.le_refl _, h1⟩⟩
theorem lit_segs {w : World} {g : Nat} {b h : Int} (hg : w.heap[g]? = some (.cells #[.int .i64 b, .int .i64 h, .int .i64 h] 76 (0, 0))) : SegsV w.heap.size w (.slice (some ⟨g, 0, none⟩) 1 1) [⟨b, ⟨h, h⟩⟩] :=
  ⟨some ⟨g, 0, none⟩, 1, rfl, fun _ => ⟨g, 0, rfl, lt_of_block hg, fun i hi => by
    have hi1 : i < 1 := hi
    match i, hi1 with
    | 0, _ => exact ⟨cell_of_row _ g 0 _ _ _ hg, cell_of_row _ g 1 _ _ _ hg, cell_of_row _ g 2 _ _ _ hg⟩⟩⟩
/-- What the law asks of a life. -/
structure LifeOf (al : List (List Int)) (b st lo hi : Int) : Prop where
  lo1 : -1 ≤ lo
  lost : lo ≤ st
  hi1 : -1 ≤ hi
  hist : hi ≤ st
  up : hi ≠ -1 → 0 ≤ lo ∧ lo ≤ hi ∧ st ≤ (stretchL al [⟨b, ⟨hi, hi⟩⟩]).lo
  dn : 0 ≤ lo - 1 → (stretchL al [⟨b, ⟨lo - 1, lo - 1⟩⟩]).hi < st
theorem life_of {ms : List Rg} {rs : List Rn} {b st : Int} (hK : RoomOk ms rs) (hne : okL ms rs ≠ []) (hs : 0 ≤ st) : LifeOf (okL ms rs) b st (lifeL (okL ms rs) b st).lo (lifeL (okL ms rs) b st).hi := by
  have hR : ∀ x, x ∈ okL ms rs → Rates x := fun x hx => ok_rates hK.mat hx
  have h := life_law hne hR (b := b) hs
  obtain ⟨x, hx, e1⟩ := lowR_mem hne b
  obtain ⟨y, hy, e2⟩ := highR_mem hne b
  have b1 := hours_bnd hs (show 0 ≤ lowR (okL ms rs) b by rw [e1]; exact (hR x hx b).1)
  have b2 := hours_bnd hs (show 0 ≤ highR (okL ms rs) b by rw [e2]; exact (hR y hy b).1)
  exact ⟨b2.1, b2.2, b1.1, b1.2, h.1, h.2⟩

set_option maxRecDepth 100000 in
set_option maxHeartbeats 4000000 in
theorem life_no (ku kv : Value) (mv rv : Value) (ms : List Rg) (rs : List Rn) (w : World) (hV : RgsV w.heap.size w mv ms) (hR : RunsV w.heap.size w rv rs) (hz : readyB ms rs [] = false) :
    Calls Try.prog 14 #[.agg #[mv], rv, ku, kv] w fun e w' => e = .returned (.bool true) ∧ Below w.heap.size w w' := by
  have HR := Lib.hid fun w' (h : Below w.heap.size w w') => ready_any w.heap.size mv rv (.slice none 0 0) ms rs [] w' (hV.same (.below (Nat.le_refl _) h)) (hR.same (.below (Nat.le_refl _) h)) ⟨none, 0, rfl, fun h0 => absurd h0 (by decide)⟩ h.size
  rw [hz] at HR
  obtain ⟨am, capm, rfl, -⟩ := hV
  obtain ⟨ar, capr, rfl, -⟩ := hR
  have HB := Lib.hid (box_below w (.cells #[.slice am ms.length capm] 24))
  have HA := Lib.hid awake_any
  go_enter Try.func14, Try.ntmps14
  go_wp2_with fail
  refine (HR.out _ HB.out).mono ?_
  rintro e w1 ⟨rfl, hb1⟩
  have HB1 := Lib.hid (below_to HB.out hb1)
  clear hb1
  go_wp2_with fail
  refine (HA.out _).mono ?_
  rintro e w2 ⟨rfl, hb2⟩
  have HB2 := Lib.hid (below_to HB1.out hb2)
  clear hb2
  go_wp2
  go_ret
  exact ⟨rfl, HB2.out⟩

set_option maxRecDepth 100000 in
set_option maxHeartbeats 4000000 in
theorem life_yes (mv rv : Value) (ms : List Rg) (rs : List Rn) (a st : Int) (w : World) (ha : 0 ≤ a ∧ a < 256) (hst : 0 ≤ st ∧ st < 4294967296) (hV : RgsV w.heap.size w mv ms) (hR : RunsV w.heap.size w rv rs) (hz : readyB ms rs [] = true) :
    Calls Try.prog 14 #[.agg #[mv], rv, .int .u8 a, .int .u32 st] w fun e w' => e = .returned (.bool true) ∧ Below w.heap.size w w' := by
  have HR := Lib.hid fun w' (h : Below w.heap.size w w') => ready_any w.heap.size mv rv (.slice none 0 0) ms rs [] w' (hV.same (.below (Nat.le_refl _) h)) (hR.same (.below (Nat.le_refl _) h)) ⟨none, 0, rfl, fun h0 => absurd h0 (by decide)⟩ h.size
  rw [hz] at HR
  have hK := (readyB_ok hz).1
  have hone := hK.mat.one
  have hlen := hK.mat.len
  have hrl := hK.len
  have HMA := Lib.hid fun w' (h : Below w.heap.size w w') => Material_any w.heap.size mv ms w' (by omega) (hV.same (.below (Nat.le_refl _) h)) h.size
  have HRU := Lib.hid fun w' (h : Below w.heap.size w w') => Runs_any w.heap.size rv rs w' (by omega) (fun r hr => by have := (hK.rn r hr).len; omega) (hR.same (.below (Nat.le_refl _) h)) h.size
  have HK := Lib.hid hK
  obtain ⟨am, capm, rfl, -⟩ := hV
  obtain ⟨ar, capr, rfl, -⟩ := hR
  have HX := Lib.hid (heap_alloc_new w (.cells #[.slice am ms.length capm] 24))
  have HB := Lib.hid (box_below w (.cells #[.slice am ms.length capm] 24))
  have HA := Lib.hid awake_any
  have hlpos : (0 : Int) < ms.length := by omega
  have hlne : (ms.length : Int) ≠ 0 := by omega
  have hwa : IntKind.i64.wrap a = a := IntWalk.i64_in _ (by omega)
  have hws : IntKind.i64.wrap st = st := IntWalk.i64_in _ (by omega)
  have hst0 : Hid (0 ≤ st ∧ st ≤ 10000000000) := Lib.hid (by omega)
  have hbb : Hid (0 ≤ a % ms.length ∧ a % ms.length < ms.length) := Lib.hid ⟨Int.emod_nonneg _ hlne, Int.emod_lt_of_pos _ hlpos⟩
  have hwm : IntKind.i64.wrap (a % ms.length) = a % ms.length := IntWalk.i64_in _ (by have := hbb.out; omega)
  clear hK hz
  go_enter Try.func14, Try.ntmps14
  go_wp2_with fail
  refine (HR.out _ HB.out).mono ?_
  rintro e w1 ⟨rfl, hb1⟩
  have HX1 := Lib.hid ((hb1.block _ (lt_of_block HX.out)).trans HX.out)
  have HB1 := Lib.hid (below_to HB.out hb1)
  have c0 := cell_of_row w1 w.heap.size 0 _ _ _ HX1.out
  simp at c0
  have l0 := lt_of_block HX1.out
  clear hb1
  go_wp2_with fail
  refine (HMA.out _ HB1.out).mono ?_
  rintro e w2 ⟨⟨m2, rfl, hm2⟩, hb2⟩
  have HB2 := Lib.hid (below_to HB1.out hb2)
  have HX2 := Lib.hid ((hb2.block _ (lt_of_block HX1.out)).trans HX1.out)
  have HM2 := Lib.hid hm2
  clear hb2 hm2 c0 l0
  go_wp2_with fail
  refine (HRU.out _ HB2.out).mono ?_
  rintro e w3 ⟨⟨r3, rfl, hr3⟩, hb3⟩
  have HB3 := Lib.hid (below_to HB2.out hb3)
  have HX3 := Lib.hid ((hb3.block _ (lt_of_block HX2.out)).trans HX2.out)
  have HV3 : Hid (RoomV w3.heap.size w3 m2 r3 ms rs) := Lib.hid ⟨Nat.le_refl _, (HM2.out.same (.below (Nat.le_refl _) hb3)).up hb3.size, hr3⟩
  clear hb3 hr3
  go_wp2_with fail
  by_cases hne : okL ms rs = []
  · refine (Life_fail w3.heap.size m2 r3 ms rs (a % ms.length) st w3 HK.out HV3.out hbb.out hst0.out hne).mono ?_
    rintro e w4 ⟨rfl, hb4⟩
    have HB4 := Lib.hid (below_to HB3.out hb4)
    clear hb4
    go_wp2_with fail
    have hbx := box_below w4 (.cells #[.int .i64 0, .int .i64 0] 50)
    have HB5 := Lib.hid (below_to HB4.out hbx)
    clear hbx
    generalize World.alloc w4 _ = w5 at *
    refine (HA.out _).mono ?_
    rintro e w6 ⟨rfl, hb6⟩
    have HB6 := Lib.hid (below_to HB5.out hb6)
    clear hb6
    go_wp2
    go_ret
    exact ⟨rfl, HB6.out⟩
  · refine (Life_ok w3.heap.size m2 r3 ms rs (a % ms.length) st w3 HK.out HV3.out hbb.out hst0.out hne).mono ?_
    rintro e w4 ⟨rfl, hb4⟩
    have HNE := Lib.hid hne
    have HL := Lib.hid (life_of (b := a % ms.length) HK.out hne hst0.out.1)
    generalize (lifeL (okL ms rs) (a % ms.length) st).lo = lo at *
    generalize (lifeL (okL ms rs) (a % ms.length) st).hi = hi at *
    generalize a % ms.length = bb at *
    have HB4 := Lib.hid (below_to HB3.out hb4)
    have HX4 := Lib.hid ((hb4.block _ (lt_of_block HX3.out)).trans HX3.out)
    clear hb4 hne
    have hnx := heap_alloc_new w4 (.cells #[.int .i64 lo, .int .i64 hi] 50)
    have hbx := box_below w4 (.cells #[.int .i64 lo, .int .i64 hi] 50)
    have HTW := Lib.hid hnx
    have HXW := Lib.hid ((hbx.block _ (lt_of_block HX4.out)).trans HX4.out)
    have HBW := Lib.hid (below_to HB4.out hbx)
    clear hnx hbx
    obtain ⟨nn, hnn⟩ : ∃ nn, nn = lo - 1 := ⟨_, rfl⟩
    have hwl : IntKind.i64.wrap (lo - 1) = nn := by rw [hnn]; exact IntWalk.i64_in _ (by have := HL.out.lo1; have := HL.out.lost; have := hst0.out; omega)
    have HNN := Lib.hid hnn
    clear hnn
    by_cases hA : hi ≠ -1 ∧ hi ≤ 1000000
    · obtain ⟨hA1, hA2⟩ := hA
      have HPH := Lib.hid (plan_one hbb.out (show 0 ≤ hi by have := (HL.out.up hA1).1; have := (HL.out.up hA1).2.1; omega) hA2)
      have hup := HL.out.up hA1
      have HUP := Lib.hid hup.2.2
      have hup0 := hup.1
      have hup1 := hup.2.1
      clear hup
      go_wp2
      generalize World.alloc w4 _ = w5 at *
      generalize w4.heap.size = g10 at *
      have HC : Hid (∀ w', Below w5.heap.size w5 w' → w'.cell? ⟨w.heap.size, 0, none⟩ = some (.slice am ms.length capm) ∧ w'.cell? ⟨g10, 1, none⟩ = some (.int .i64 hi)) := Lib.hid fun w' h =>
        ⟨(cell_of_row w' w.heap.size 0 _ _ _ ((h.block _ (lt_of_block HXW.out)).trans HXW.out)), (cell_of_row w' g10 1 _ _ _ ((h.block _ (lt_of_block HTW.out)).trans HTW.out))⟩
      refine wp_region_noPanic ?_
      refine wp_region_acts (fun w' => Below w5.heap.size w5 w') (fun _ _ h hb => grow_to h hb) (below_drawn _) (by kernel_rfl) (fun _ _ _ _ _ h => h)
        [.take 0, .take 2, .take 4, .take 5, .take 6, .take 7, .take 8, .float 16, .call 1, .call 3, .call 9, .take 10, .act 11, .call 12, .take 13, .take 14, .take 15, .join] [17, 18] (by kernel_rfl) ?_
      iterate 7
        (refine GWalk.takes rfl rfl ?_; apply Exists.intro; refine ⟨fun w' hS => ?_, ?_⟩; (obtain ⟨d0, d1⟩ := HC.out w' hS; clear hS; go_simp; with_reducible rfl); simp only [List.getElem_toArray, List.getElem_cons_succ, List.getElem_cons_zero, Act.put, List.setIfInBounds_toArray, List.set_cons_zero, List.set_cons_succ])
      refine GWalk.floats (.cells #[.int .i64 0, .int .i64 0] 50) (fun b => .pointer (some ⟨b, 0, none⟩)) rfl rfl rfl (fun w1 => ?_) ?_
      · kernel_rfl
      simp only [List.nil_append, List.cons_append]
      refine GWalk.calls rfl rfl ?_; apply Exists.intro; apply Exists.intro; refine ⟨fun w' hS => ?_, fun v1 hb1 hS1 hO1 => ?_⟩; (clear hS; go_simp; exact ⟨rfl, rfl⟩)
      refine (HMA.out v1 (below_to HBW.out hS1)).mono ?_
      rintro e u1 ⟨⟨m6, rfl, hm6⟩, hbb1⟩
      refine ⟨_, rfl, hbb1, grow_to hS1 hbb1, ?_⟩
      simp only [List.getElem_toArray, List.getElem_cons_succ, List.getElem_cons_zero, Act.put, List.setIfInBounds_toArray, List.set_cons_zero, List.set_cons_succ]
      refine GWalk.calls rfl rfl ?_; apply Exists.intro; apply Exists.intro; refine ⟨fun w' hS => ?_, fun v2 hb2 hS2 hO2 => ?_⟩; (clear hS; go_simp; exact ⟨rfl, rfl⟩)
      refine (HRU.out v2 (below_to HBW.out hS2)).mono ?_
      rintro e u2 ⟨⟨r7, rfl, hr7⟩, hbb2⟩
      refine ⟨_, rfl, hbb2, grow_to hS2 hbb2, ?_⟩
      simp only [List.getElem_toArray, List.getElem_cons_succ, List.getElem_cons_zero, Act.put, List.setIfInBounds_toArray, List.set_cons_zero, List.set_cons_succ]
      have HV7 : Hid (RoomV u2.heap.size u2 m6 r7 ms rs) := Lib.hid ⟨Nat.le_refl _, (hm6.same (.below (Nat.le_refl _) (grow_to hb2 hbb2))).up (grow_to hb2 hbb2).size, hr7⟩
      clear hb1 hb2 hbb1 hbb2 hS1 hS2 hO1 hO2 hm6 hr7
      refine GWalk.calls rfl rfl ?_; apply Exists.intro; apply Exists.intro; refine ⟨fun w' hS => ?_, fun v3 hb3 hS3 hO3 => ?_⟩; (clear hS; go_simp; exact ⟨rfl, rfl⟩)
      refine (between_any _ _ v3).mono ?_
      rintro e u3 ⟨rfl, hbb3⟩
      refine ⟨_, rfl, hbb3, grow_to hS3 hbb3, ?_⟩
      simp only [List.getElem_toArray, List.getElem_cons_succ, List.getElem_cons_zero, Act.put, List.setIfInBounds_toArray, List.set_cons_zero, List.set_cons_succ]
      iterate 1
        (refine GWalk.takes rfl rfl ?_; apply Exists.intro; refine ⟨fun w' hS => ?_, ?_⟩; (clear hS; go_simp; with_reducible rfl); simp only [List.getElem_toArray, List.getElem_cons_succ, List.getElem_cons_zero, Act.put, List.setIfInBounds_toArray, List.set_cons_zero, List.set_cons_succ])
      refine GWalk.acts rfl rfl fun v4 hb4 hS4 hO4 => ?_
      have K4 : Below u2.heap.size u2 (v4.alloc (.cells #[.int .i64 bb, .int .i64 hi, .int .i64 hi] 76 (0, 0))) := grow_to (grow_to (grow_to hb3 hbb3) hb4) (box_below v4 _)
      have HV9 : Hid (RoomV (v4.alloc (.cells #[.int .i64 bb, .int .i64 hi, .int .i64 hi] 76 (0, 0))).heap.size (v4.alloc (.cells #[.int .i64 bb, .int .i64 hi, .int .i64 hi] 76 (0, 0))) m6 r7 ms rs) := Lib.hid ⟨Nat.le_refl _, (HV7.out.below K4).m.up K4.size, (HV7.out.below K4).r.up K4.size⟩
      have N9 := Lib.hid (lit_segs (heap_alloc_new v4 (.cells #[.int .i64 bb, .int .i64 hi, .int .i64 hi] 76 (0, 0))))
      refine ⟨_, _, _, exec_buildSlice 55 76 1 _ rfl el55.u #[.int .i64 bb, .int .i64 hi, .int .i64 hi] (by kernel_rfl), grow_to hS4 (box_below v4 _), Kept.below (box_below v4 _) hO4, ?_⟩
      simp only [List.getElem_toArray, List.getElem_cons_succ, List.getElem_cons_zero, Act.put, List.setIfInBounds_toArray, List.set_cons_zero, List.set_cons_succ]
      clear K4 hb3 hbb3 hb4 hS3 hS4 hO3 hO4
      generalize v4.alloc _ = v5 at *
      generalize v4.heap.size = g4 at *
      refine GWalk.calls rfl rfl ?_; apply Exists.intro; apply Exists.intro; refine ⟨fun w' hS => ?_, fun v6 hb6 hS6 hO6 => ?_⟩; (clear hS; go_simp; exact ⟨rfl, rfl⟩)
      refine (Stretch_ok v5.heap.size m6 r7 (.slice (some ⟨g4, 0, none⟩) 1 1) ms rs [⟨bb, ⟨hi, hi⟩⟩] v6 HK.out (HV9.out.below hb6) HPH.out (N9.out.same (.below (Nat.le_refl _) hb6)) HNE.out).mono ?_
      rintro e u6 ⟨rfl, hbb6⟩
      refine ⟨_, rfl, hbb6, grow_to hS6 hbb6, ?_⟩
      simp only [List.getElem_toArray, List.getElem_cons_succ, List.getElem_cons_zero, Act.put, List.setIfInBounds_toArray, List.set_cons_zero, List.set_cons_succ]
      have hup := HUP.out
      generalize (stretchL (okL ms rs) [⟨bb, ⟨hi, hi⟩⟩]).lo = slo1 at *
      generalize (stretchL (okL ms rs) [⟨bb, ⟨hi, hi⟩⟩]).hi = shi1 at *
      iterate 3
        (refine GWalk.takes rfl rfl ?_; apply Exists.intro; refine ⟨fun w' hS => ?_, ?_⟩; (clear hS; go_simp; with_reducible rfl); simp only [List.getElem_toArray, List.getElem_cons_succ, List.getElem_cons_zero, Act.put, List.setIfInBounds_toArray, List.set_cons_zero, List.set_cons_succ])
      refine GWalk.joins fun w9 b9 hb9 hb91 hb92 hb93 hb94 => ?_
      simp only [List.getElem_toArray, List.getElem_cons_succ, List.getElem_cons_zero, Act.put, List.setIfInBounds_toArray, List.set_cons_zero, List.set_cons_succ]
      refine GWalk.fin fun w10 hb10 hS10 => ?_
      have hz8 := (hb10.block _ hb92).trans hb94
      have n1 := set_whole b9 50 w10 #[.int .i64 0, .int .i64 0] #[.int .i64 slo1, .int .i64 shi1] rfl hz8
      have n3 := below_cells (b := b9) hb91 [.int .i64 slo1, .int .i64 shi1] 0 w10 hS10
      refine Tail.skip rfl rfl (exec_store_row 50 (.tmp 12) (.tmp 68) rfl b9 0 #[.int .i64 slo1, .int .i64 shi1] rfl rfl (there_block hz8 (Nat.le_refl _)) (by kernel_rfl) (by kernel_rfl)) n3 ?_
      simp only [List.getElem_toArray, List.getElem_cons_succ, List.getElem_cons_zero, Act.put, List.setIfInBounds_toArray, List.set_cons_zero, List.set_cons_succ]
      have hne9 : b9 ≠ g10 := by have := lt_of_block HTW.out; omega
      generalize w10.setCells b9 0 _ = w11 at *
      refine Tail.value rfl rfl (by go_simp; with_reducible rfl) ?_
      simp only [List.getElem_toArray, List.getElem_cons_succ, List.getElem_cons_zero, Act.put, List.setIfInBounds_toArray, List.set_cons_zero, List.set_cons_succ]
      refine Tail.done (NoPanic.normal ?_)
      have HS9 := Lib.hid n1
      have HXV := Lib.hid ((n3.block _ (lt_of_block HXW.out)).trans HXW.out)
      have HTV := Lib.hid ((n3.block _ (lt_of_block HTW.out)).trans HTW.out)
      have HBV := Lib.hid (below_to HBW.out n3)
      clear n1 n3 hz8 hb9 hb10 hS10 hb91 hb92 hb93 hb94 hS6 hO6 hb6 hbb6 HXW HTW HBW HC HUP N9 HV9 HV7
      have HXW := HXV
      have HTW := HTV
      have HBW := HBV
      clear HXV HTV HBV
      have s0 := cell_of_row w11 b9 0 _ _ _ HS9.out
      simp at s0
      have l9 := lt_of_block HS9.out
      have HXh := HXW
      have HTh := HTW
      have HBh := HBW
      clear HXW HTW HBW
      have c0 := cell_of_row w11 w.heap.size 0 _ _ _ HXh.out
      have t0 := cell_of_row w11 g10 0 _ _ _ HTh.out
      have t1 := cell_of_row w11 g10 1 _ _ _ HTh.out
      simp at c0 t0 t1
      have l0 := lt_of_block HXh.out
      have l10 := lt_of_block HTh.out
      by_cases hn : 0 ≤ nn ∧ nn ≤ 1000000
      · obtain ⟨hn0, hn1⟩ := hn
        have HPL := Lib.hid (plan_one hbb.out hn0 hn1)
        have hdn := HL.out.dn (by rw [← HNN.out]; exact hn0)
        rw [← HNN.out] at hdn
        have HDN := Lib.hid hdn
        clear hdn
        go_wp2_with fail
        refine (HMA.out _ HBh.out).mono ?_
        rintro e u1 ⟨⟨m6, rfl, hm6⟩, hb6⟩
        have HB6 := Lib.hid (below_to HBh.out hb6)
        have HM6 := Lib.hid hm6
        clear hb6 hm6 c0 t0 t1 l0 l10 s0 l9
        go_wp2_with fail
        refine (HRU.out _ HB6.out).mono ?_
        rintro e u2 ⟨⟨r7, rfl, hr7⟩, hb7⟩
        have HB7 := Lib.hid (below_to HB6.out hb7)
        have HV7 : Hid (RoomV u2.heap.size u2 m6 r7 ms rs) := Lib.hid ⟨Nat.le_refl _, (HM6.out.same (.below (Nat.le_refl _) hb7)).up hb7.size, hr7⟩
        clear hb7 hr7
        go_wp2_with fail
        refine (between_any _ _ _).mono ?_
        rintro e u3 ⟨rfl, hb8⟩
        have HB8 := Lib.hid (below_to HB7.out hb8)
        have HV8 : Hid (RoomV u3.heap.size u3 m6 r7 ms rs) := Lib.hid ⟨Nat.le_refl _, (HV7.out.below hb8).m.up hb8.size, (HV7.out.below hb8).r.up hb8.size⟩
        clear hb8
        go_wp2_with (first
          | (refine wpList_build rfl 55 76 1 _ rfl el55.u #[.int .i64 bb, .int .i64 nn, .int .i64 nn] (by kernel_rfl) ?_
             have hn9 := heap_alloc_new u3 (.cells #[.int .i64 bb, .int .i64 nn, .int .i64 nn] 76)
             have hb9 := box_below u3 (.cells #[.int .i64 bb, .int .i64 nn, .int .i64 nn] 76)
             have HB9 := Lib.hid (below_to HB8.out hb9)
             have N9 := Lib.hid hn9
             have HV9 : Hid (RoomV (World.alloc u3 (.cells #[.int .i64 bb, .int .i64 nn, .int .i64 nn] 76)).heap.size (World.alloc u3 (.cells #[.int .i64 bb, .int .i64 nn, .int .i64 nn] 76)) m6 r7 ms rs) := Lib.hid ⟨Nat.le_refl _, (HV8.out.below hb9).m.up hb9.size, (HV8.out.below hb9).r.up hb9.size⟩
             clear hn9 hb9
             generalize World.alloc u3 _ = u4 at *
             generalize u3.heap.size = g4 at *)
          | fail)
        refine (Stretch_ok u4.heap.size m6 r7 (.slice (some ⟨g4, 0, none⟩) 1 1) ms rs [⟨bb, ⟨nn, nn⟩⟩] u4 HK.out HV9.out HPL.out (lit_segs N9.out) HNE.out).mono ?_
        rintro e u5 ⟨rfl, hb10⟩
        have hdn := HDN.out
        generalize (stretchL (okL ms rs) [⟨bb, ⟨nn, nn⟩⟩]).lo = slo2 at *
        generalize (stretchL (okL ms rs) [⟨bb, ⟨nn, nn⟩⟩]).hi = shi2 at *
        have HB10 := Lib.hid (below_to HB9.out hb10)
        clear hb10 HDN
        go_wp2_with fail
        have hbx := box_below u5 (.cells #[.int .i64 slo2, .int .i64 shi2] 50)
        have HB11 := Lib.hid (below_to HB10.out hbx)
        clear hbx
        generalize World.alloc u5 _ = u6 at *
        refine (HA.out _).mono ?_
        rintro e u7 ⟨rfl, hb12⟩
        have HB12 := Lib.hid (below_to HB11.out hb12)
        clear hb12
        go_wp2
        go_ret
        exact ⟨rfl, HB12.out⟩
      · by_cases hn2 : 0 ≤ nn
        · have hn3 : ¬ nn ≤ 1000000 := fun h => hn ⟨hn2, h⟩
          go_wp2_with fail
          refine (HA.out _).mono ?_
          rintro e u7 ⟨rfl, hb12⟩
          have HB12 := Lib.hid (below_to HBh.out hb12)
          clear hb12
          go_wp2
          go_ret
          exact ⟨rfl, HB12.out⟩
        · go_wp2_with fail
          refine (HA.out _).mono ?_
          rintro e u7 ⟨rfl, hb12⟩
          have HB12 := Lib.hid (below_to HBh.out hb12)
          clear hb12
          go_wp2
          go_ret
          exact ⟨rfl, HB12.out⟩
    · by_cases hA3 : hi = -1
      · clear hA
        subst hA3
        have c4 := cell_of_row w4 w.heap.size 0 _ _ _ HX4.out
        simp at c4
        have l4 := lt_of_block HX4.out
        have HXh := HXW
        have HTh := HTW
        have HBh := HBW
        clear HXW HTW HBW
        by_cases hn : 0 ≤ nn ∧ nn ≤ 1000000
        · obtain ⟨hn0, hn1⟩ := hn
          have HPL := Lib.hid (plan_one hbb.out hn0 hn1)
          have hdn := HL.out.dn (by rw [← HNN.out]; exact hn0)
          rw [← HNN.out] at hdn
          have HDN := Lib.hid hdn
          clear hdn
          go_wp2_with fail
          generalize World.alloc w4 _ = w5 at *
          refine (HMA.out _ HBh.out).mono ?_
          rintro e u1 ⟨⟨m6, rfl, hm6⟩, hb6⟩
          have HB6 := Lib.hid (below_to HBh.out hb6)
          have HM6 := Lib.hid hm6
          clear hb6 hm6 c4 l4
          go_wp2_with fail
          refine (HRU.out _ HB6.out).mono ?_
          rintro e u2 ⟨⟨r7, rfl, hr7⟩, hb7⟩
          have HB7 := Lib.hid (below_to HB6.out hb7)
          have HV7 : Hid (RoomV u2.heap.size u2 m6 r7 ms rs) := Lib.hid ⟨Nat.le_refl _, (HM6.out.same (.below (Nat.le_refl _) hb7)).up hb7.size, hr7⟩
          clear hb7 hr7
          go_wp2_with fail
          refine (between_any _ _ _).mono ?_
          rintro e u3 ⟨rfl, hb8⟩
          have HB8 := Lib.hid (below_to HB7.out hb8)
          have HV8 : Hid (RoomV u3.heap.size u3 m6 r7 ms rs) := Lib.hid ⟨Nat.le_refl _, (HV7.out.below hb8).m.up hb8.size, (HV7.out.below hb8).r.up hb8.size⟩
          clear hb8
          go_wp2_with (first
            | (refine wpList_build rfl 55 76 1 _ rfl el55.u #[.int .i64 bb, .int .i64 nn, .int .i64 nn] (by kernel_rfl) ?_
               have hn9 := heap_alloc_new u3 (.cells #[.int .i64 bb, .int .i64 nn, .int .i64 nn] 76)
               have hb9 := box_below u3 (.cells #[.int .i64 bb, .int .i64 nn, .int .i64 nn] 76)
               have HB9 := Lib.hid (below_to HB8.out hb9)
               have N9 := Lib.hid hn9
               have HV9 : Hid (RoomV (World.alloc u3 (.cells #[.int .i64 bb, .int .i64 nn, .int .i64 nn] 76)).heap.size (World.alloc u3 (.cells #[.int .i64 bb, .int .i64 nn, .int .i64 nn] 76)) m6 r7 ms rs) := Lib.hid ⟨Nat.le_refl _, (HV8.out.below hb9).m.up hb9.size, (HV8.out.below hb9).r.up hb9.size⟩
               clear hn9 hb9
               generalize World.alloc u3 _ = u4 at *
               generalize u3.heap.size = g4 at *)
            | fail)
          refine (Stretch_ok u4.heap.size m6 r7 (.slice (some ⟨g4, 0, none⟩) 1 1) ms rs [⟨bb, ⟨nn, nn⟩⟩] u4 HK.out HV9.out HPL.out (lit_segs N9.out) HNE.out).mono ?_
          rintro e u5 ⟨rfl, hb10⟩
          have hdn := HDN.out
          generalize (stretchL (okL ms rs) [⟨bb, ⟨nn, nn⟩⟩]).lo = slo2 at *
          generalize (stretchL (okL ms rs) [⟨bb, ⟨nn, nn⟩⟩]).hi = shi2 at *
          have HB10 := Lib.hid (below_to HB9.out hb10)
          clear hb10 HDN
          go_wp2_with fail
          have hbx := box_below u5 (.cells #[.int .i64 slo2, .int .i64 shi2] 50)
          have HB11 := Lib.hid (below_to HB10.out hbx)
          clear hbx
          generalize World.alloc u5 _ = u6 at *
          refine (HA.out _).mono ?_
          rintro e u7 ⟨rfl, hb12⟩
          have HB12 := Lib.hid (below_to HB11.out hb12)
          clear hb12
          go_wp2
          go_ret
          exact ⟨rfl, HB12.out⟩
        · by_cases hn2 : 0 ≤ nn
          · have hn3 : ¬ nn ≤ 1000000 := fun h => hn ⟨hn2, h⟩
            go_wp2_with fail
            generalize World.alloc w4 _ = w5 at *
            refine (HA.out _).mono ?_
            rintro e u7 ⟨rfl, hb12⟩
            have HB12 := Lib.hid (below_to HBh.out hb12)
            clear hb12
            go_wp2
            go_ret
            exact ⟨rfl, HB12.out⟩
          · go_wp2_with fail
            generalize World.alloc w4 _ = w5 at *
            refine (HA.out _).mono ?_
            rintro e u7 ⟨rfl, hb12⟩
            have HB12 := Lib.hid (below_to HBh.out hb12)
            clear hb12
            go_wp2
            go_ret
            exact ⟨rfl, HB12.out⟩
      · have hA4 : ¬ hi ≤ 1000000 := fun h => hA ⟨hA3, h⟩
        clear hA
        have c4 := cell_of_row w4 w.heap.size 0 _ _ _ HX4.out
        simp at c4
        have l4 := lt_of_block HX4.out
        have HXh := HXW
        have HTh := HTW
        have HBh := HBW
        clear HXW HTW HBW
        by_cases hn : 0 ≤ nn ∧ nn ≤ 1000000
        · obtain ⟨hn0, hn1⟩ := hn
          have HPL := Lib.hid (plan_one hbb.out hn0 hn1)
          have hdn := HL.out.dn (by rw [← HNN.out]; exact hn0)
          rw [← HNN.out] at hdn
          have HDN := Lib.hid hdn
          clear hdn
          go_wp2_with fail
          generalize World.alloc w4 _ = w5 at *
          refine (HMA.out _ HBh.out).mono ?_
          rintro e u1 ⟨⟨m6, rfl, hm6⟩, hb6⟩
          have HB6 := Lib.hid (below_to HBh.out hb6)
          have HM6 := Lib.hid hm6
          clear hb6 hm6 c4 l4
          go_wp2_with fail
          refine (HRU.out _ HB6.out).mono ?_
          rintro e u2 ⟨⟨r7, rfl, hr7⟩, hb7⟩
          have HB7 := Lib.hid (below_to HB6.out hb7)
          have HV7 : Hid (RoomV u2.heap.size u2 m6 r7 ms rs) := Lib.hid ⟨Nat.le_refl _, (HM6.out.same (.below (Nat.le_refl _) hb7)).up hb7.size, hr7⟩
          clear hb7 hr7
          go_wp2_with fail
          refine (between_any _ _ _).mono ?_
          rintro e u3 ⟨rfl, hb8⟩
          have HB8 := Lib.hid (below_to HB7.out hb8)
          have HV8 : Hid (RoomV u3.heap.size u3 m6 r7 ms rs) := Lib.hid ⟨Nat.le_refl _, (HV7.out.below hb8).m.up hb8.size, (HV7.out.below hb8).r.up hb8.size⟩
          clear hb8
          go_wp2_with (first
            | (refine wpList_build rfl 55 76 1 _ rfl el55.u #[.int .i64 bb, .int .i64 nn, .int .i64 nn] (by kernel_rfl) ?_
               have hn9 := heap_alloc_new u3 (.cells #[.int .i64 bb, .int .i64 nn, .int .i64 nn] 76)
               have hb9 := box_below u3 (.cells #[.int .i64 bb, .int .i64 nn, .int .i64 nn] 76)
               have HB9 := Lib.hid (below_to HB8.out hb9)
               have N9 := Lib.hid hn9
               have HV9 : Hid (RoomV (World.alloc u3 (.cells #[.int .i64 bb, .int .i64 nn, .int .i64 nn] 76)).heap.size (World.alloc u3 (.cells #[.int .i64 bb, .int .i64 nn, .int .i64 nn] 76)) m6 r7 ms rs) := Lib.hid ⟨Nat.le_refl _, (HV8.out.below hb9).m.up hb9.size, (HV8.out.below hb9).r.up hb9.size⟩
               clear hn9 hb9
               generalize World.alloc u3 _ = u4 at *
               generalize u3.heap.size = g4 at *)
            | fail)
          refine (Stretch_ok u4.heap.size m6 r7 (.slice (some ⟨g4, 0, none⟩) 1 1) ms rs [⟨bb, ⟨nn, nn⟩⟩] u4 HK.out HV9.out HPL.out (lit_segs N9.out) HNE.out).mono ?_
          rintro e u5 ⟨rfl, hb10⟩
          have hdn := HDN.out
          generalize (stretchL (okL ms rs) [⟨bb, ⟨nn, nn⟩⟩]).lo = slo2 at *
          generalize (stretchL (okL ms rs) [⟨bb, ⟨nn, nn⟩⟩]).hi = shi2 at *
          have HB10 := Lib.hid (below_to HB9.out hb10)
          clear hb10 HDN
          go_wp2_with fail
          have hbx := box_below u5 (.cells #[.int .i64 slo2, .int .i64 shi2] 50)
          have HB11 := Lib.hid (below_to HB10.out hbx)
          clear hbx
          generalize World.alloc u5 _ = u6 at *
          refine (HA.out _).mono ?_
          rintro e u7 ⟨rfl, hb12⟩
          have HB12 := Lib.hid (below_to HB11.out hb12)
          clear hb12
          go_wp2
          go_ret
          exact ⟨rfl, HB12.out⟩
        · by_cases hn2 : 0 ≤ nn
          · have hn3 : ¬ nn ≤ 1000000 := fun h => hn ⟨hn2, h⟩
            go_wp2_with fail
            generalize World.alloc w4 _ = w5 at *
            refine (HA.out _).mono ?_
            rintro e u7 ⟨rfl, hb12⟩
            have HB12 := Lib.hid (below_to HBh.out hb12)
            clear hb12
            go_wp2
            go_ret
            exact ⟨rfl, HB12.out⟩
          · go_wp2_with fail
            generalize World.alloc w4 _ = w5 at *
            refine (HA.out _).mono ?_
            rintro e u7 ⟨rfl, hb12⟩
            have HB12 := Lib.hid (below_to HBh.out hb12)
            clear hb12
            go_wp2
            go_ret
            exact ⟨rfl, HB12.out⟩
end Go.Proofs.Ytfijaafkagcmmaa
