/- What two ranges have in common: contract. No condition. -/
import Derived.Test.YtpdkgnfblnblbaaS
namespace Go.Proofs.Ytpdkgnfblnblbaa
open Go.RowKit Go.Shelf

set_option maxRecDepth 100000 in
set_option maxHeartbeats 1000000 in
theorem common_any (r s : Rg) (w : World) :
    Calls Try.prog 65 #[.agg #[.int .i64 r.lo, .int .i64 r.hi], .agg #[.int .i64 s.lo, .int .i64 s.hi]] w fun e w' => e = .returned (.agg #[.int .i64 (ands r s).lo, .int .i64 (ands r s).hi]) ∧ Below w.heap.size w w' := by
  have HX := Lib.hid (box3 w (.cells #[.int .i64 r.lo, .int .i64 r.hi] 46) (.cells #[.int .i64 s.lo, .int .i64 s.hi] 46) (.cells #[.int .i64 0, .int .i64 0] 46))
  have HB := Lib.hid (below3 w (.cells #[.int .i64 r.lo, .int .i64 r.hi] 46) (.cells #[.int .i64 s.lo, .int .i64 s.hi] 46) (.cells #[.int .i64 0, .int .i64 0] 46))
  have HL := Lib.hid lower_any
  have HU := Lib.hid upper_any
  have HEL := Lib.hid fun g w h => ends_any 91 92 Rg.lo max r s g w (fun _ _ => rfl) (fun _ _ => rfl) low_any (fun a b g off cap w h => greatest_any a b g off cap w h) h
  have HEU := Lib.hid fun g w h => ends_any 93 94 Rg.hi min r s g w (fun _ _ => rfl) (fun _ _ => rfl) high_any (fun a b g off cap w h => least_any a b g off cap w h) h
  show Calls Try.prog 65 _ w fun e w' => e = .returned (.agg #[.int .i64 (max r.lo s.lo), .int .i64 (min r.hi s.hi)]) ∧ _
  go_enter Try.func65, Try.ntmps65
  go_wp2_with fail
  have hg := heap_alloc_new (((w.alloc (.cells #[.int .i64 r.lo, .int .i64 r.hi] 46)).alloc (.cells #[.int .i64 s.lo, .int .i64 s.hi] 46)).alloc (.cells #[.int .i64 0, .int .i64 0] 46)) (.cells #[.int .i64 r.lo, .int .i64 r.hi, .int .i64 s.lo, .int .i64 s.hi] 46)
  simp only [World.size_alloc] at hg
  have HG := Lib.hid hg
  have HBX := Lib.hid ((below3 w (.cells #[.int .i64 r.lo, .int .i64 r.hi] 46) (.cells #[.int .i64 s.lo, .int .i64 s.hi] 46) (.cells #[.int .i64 0, .int .i64 0] 46)).alloc (by simp; omega) (.cells #[.int .i64 r.lo, .int .i64 r.hi, .int .i64 s.lo, .int .i64 s.hi] 46))
  have hx2 := (Below.heap_alloc (((w.alloc (.cells #[.int .i64 r.lo, .int .i64 r.hi] 46)).alloc (.cells #[.int .i64 s.lo, .int .i64 s.hi] 46)).alloc (.cells #[.int .i64 0, .int .i64 0] 46)) (.cells #[.int .i64 r.lo, .int .i64 r.hi, .int .i64 s.lo, .int .i64 s.hi] 46) (w.heap.size + 1 + 1) (by simp)).trans HX.out.2.2
  have HX2 := Lib.hid hx2
  clear HX HB hg hx2
  generalize World.alloc _ (Obj.cells #[.int .i64 r.lo, .int .i64 r.hi, .int .i64 s.lo, .int .i64 s.hi] 46) = W0 at *
  refine (HL.out _).mono ?_
  rintro e W1 ⟨rfl, hb⟩
  have hz1 := hb.size
  replace HG := Lib.hid ((hb.block _ (lt_of_block HG.out)).trans HG.out)
  replace HX2 := Lib.hid ((hb.block _ (lt_of_block HX2.out)).trans HX2.out)
  replace HBX := Lib.hid (below_to HBX.out hb)
  clear hb hz1
  go_wp2_with fail
  refine (HEL.out _ _ HG.out).mono ?_
  rintro e W2 ⟨rfl, hb⟩
  replace HG := Lib.hid ((hb.block _ (lt_of_block HG.out)).trans HG.out)
  replace HX2 := Lib.hid ((hb.block _ (lt_of_block HX2.out)).trans HX2.out)
  replace HBX := Lib.hid (below_to HBX.out hb)
  clear hb
  go_wp2_with fail
  refine (HU.out _).mono ?_
  rintro e W3 ⟨rfl, hb⟩
  replace HG := Lib.hid ((hb.block _ (lt_of_block HG.out)).trans HG.out)
  replace HX2 := Lib.hid ((hb.block _ (lt_of_block HX2.out)).trans HX2.out)
  replace HBX := Lib.hid (below_to HBX.out hb)
  clear hb
  go_wp2_with fail
  refine (HEU.out _ _ HG.out).mono ?_
  rintro e W4 ⟨rfl, hb⟩
  replace HX2 := Lib.hid ((hb.block _ (lt_of_block HX2.out)).trans HX2.out)
  replace HBX := Lib.hid (below_to HBX.out hb)
  clear hb HG HEU HEL HL HU
  go_wp2_with (first
    | (refine wpList_store46 rfl (.tmp 4) (.tmp 15) rfl (w.heap.size + 1 + 1) rfl _ _ (max r.lo s.lo) (min r.hi s.hi) rfl HX2.out ?_
       intro w5 hp hx5
       have HP := Lib.hid hp
       have HX5 := Lib.hid hx5
       clear hp hx5)
    | fail)
  have hc0 := cell_of_row w5 (w.heap.size + 1 + 1) 0 _ _ _ HX5.out
  have hc1 := cell_of_row w5 (w.heap.size + 1 + 1) 1 _ _ _ HX5.out
  simp only [List.getElem?_toArray, List.getElem?_cons_zero, List.getElem?_cons_succ] at hc0 hc1
  refine bodyPost_ret (v := .agg #[.int .i64 (max r.lo s.lo), .int .i64 (min r.hi s.hi)]) ?_ rfl ⟨rfl, HP.out.below HBX.out (by omega)⟩
  simp [results, Try.results65, go_sem, hc0, hc1]
end Go.Proofs.Ytpdkgnfblnblbaa
