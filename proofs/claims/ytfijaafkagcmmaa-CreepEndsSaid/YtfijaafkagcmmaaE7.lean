/- Allows, in a valid room, for a list of rates that the material has: its contract. Conditions: these. -/
import Derived.Test.YtfijaafkagcmmaaE6
namespace Go.Proofs.Ytfijaafkagcmmaa
open Go.RowKit Go.Shelf
attribute [local irreducible] arrV wpQuiet

theorem rates_pad {x : List Int} (h : Rates x) : Rates (pad3 x) := fun i => by rw [pad3_rt]; exact h i
theorem loS_pad (ss : List Sg) (x : List Int) : loS ss (pad3 x) = loS ss x ∧ hiS ss (pad3 x) = hiS ss x := by
  induction ss with
  | nil => simp [loS, hiS]
  | cons s ss ih => simp [loS, hiS, pad3_rt, ih]
theorem fits_pad (r : Rn) (x : List Int) : fitsB r (pad3 x) = fitsB r x := by simp [fitsB, loS_pad]
theorem allN_fits (rs : List Rn) (x : List Int) : allN (fun q => fitsB (rn rs q) x) rs.length = allB rs x := by
  rw [Bool.eq_iff_iff, allN_iff, allB, List.all_eq_true]
  constructor
  · intro h r hr
    obtain ⟨j, hj, rfl⟩ := List.mem_iff_getElem.1 hr
    have := h j hj
    simpa [rn, hj] using this
  · exact fun h j hj => h _ (rn_mem hj)

set_option maxRecDepth 100000 in
set_option maxHeartbeats 1000000 in
theorem Allows_ok (n : Nat) (mv rv v : Value) (ms : List Rg) (rs : List Rn) (x : List Int) (w : World) (hK : RoomOk ms rs) (hx : x ∈ allL ms) (hV : RoomV n w mv rv ms rs) (hX : IntsV n w v x) :
    Calls Try.prog 20 #[.agg #[mv], rv, v] w fun e w' => e = .returned (.tuple #[.bool (allB rs x), .int .i64 0]) ∧ Below w.heap.size w w' := by
  have hn := hV.lt
  have hlen := hK.mat.len
  have hone := hK.mat.one
  have hrl := hK.len
  have hlx := len_of hx
  have hxr := rates_of hx hK.mat.toRgsOk
  have HCR := Lib.hid fun w' (h : Below w.heap.size w w') => checkRates_ok n mv rv v ms rs x w' hK hx (hV.below h) (hX.same (.below hn h))
  have HLI := Lib.hid fun w' (h : Below w.heap.size w w') => listed_any n v x w' (by omega) (by omega) (hX.same (.below hn h)) (Nat.le_trans hn h.size)
  have HER := Lib.hid fun w' (h : Below w.heap.size w w') => each_run n 57 #[.agg (arrV (pad3 x))] rv rs (fun q => fitsB (rn rs q) x) w' (by simp [maxLen]; omega) (hV.below h).r (Nat.le_trans hn h.size) (fun _ _ => rfl)
    (fun q sv w'' hq hs _ hn'' => by
      have := fits_any n ms.length (pad3 x) sv (rn rs q) w'' (pad3_len (by omega)) (rates_pad hxr) hlen (hK.rn _ (rn_mem hq)) hs hn''
      rw [fits_pad] at this
      simpa using this)
  rw [allN_fits] at HER
  obtain ⟨am, capm, rfl, -⟩ := hV.m
  obtain ⟨ar, capr, rfl, -⟩ := hV.r
  obtain ⟨xa, xcap, rfl, -⟩ := hX
  rw [hlx] at HCR HLI ⊢
  clear hlx
  have HX := Lib.hid (box2 w (.cells #[.slice am ms.length capm] 33) (.cells #[.slice am ms.length capm, .slice ar rs.length capr] 100)).2
  have HB := Lib.hid (below2 w (.cells #[.slice am ms.length capm] 33) (.cells #[.slice am ms.length capm, .slice ar rs.length capr] 100))
  generalize allB rs x = z at *
  clear hV hK hx hxr
  go_enter Try.func20, Try.ntmps20
  go_wp2_with fail
  refine (HCR.out _ HB.out).mono ?_
  rintro e w1 ⟨rfl, hb1⟩
  have HB1 := Lib.hid (below_to HB.out hb1)
  clear hb1
  go_wp2_with fail
  refine (HLI.out _ HB1.out).mono ?_
  rintro e w2 ⟨rfl, hb2⟩
  have HB2 := Lib.hid (below_to HB1.out hb2)
  clear hb2
  go_wp2_with fail
  refine (HER.out _ HB2.out).mono ?_
  rintro e w3 ⟨rfl, hb3⟩
  have HB3 := Lib.hid (below_to HB2.out hb3)
  clear hb3
  go_wp2
  go_ret2
  exact ⟨rfl, HB3.out⟩
end Go.Proofs.Ytfijaafkagcmmaa
