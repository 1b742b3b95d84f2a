/- A list of rates as an array, and Allows: contracts. Condition: a list of rates that the material has, a valid room. Allows, in a valid room, for a list of rates that the material has: its contract. Conditions: these. -/
import Derived.Test.YtfijaafkagcmmaaE5J
import Derived.Laws.CopyOwn
namespace Go.Proofs.Ytfijaafkagcmmaa
open Go.RowKit Go.Shelf
attribute [local irreducible] arrV wpQuiet

theorem splice_pad {x : List Int} (h : x.length ≤ 3) : splice [Value.int .i64 0, .int .i64 0, .int .i64 0] 0 (x.map iV) = (pad3 x).map iV := by
  unfold splice pad3
  match x, h with
  | [], _ => rfl
  | [_], _ => rfl
  | [_, _], _ => rfl
  | [_, _, _], _ => rfl
theorem pad_three {x : List Int} (h : x.length ≤ 3) : (pad3 x).map iV = [.int .i64 (ld (pad3 x) 0), .int .i64 (ld (pad3 x) 1), .int .i64 (ld (pad3 x) 2)] := by
  match x, h with
  | [], _ => rfl
  | [_], _ => rfl
  | [_, _], _ => rfl
  | [_, _, _], _ => rfl
theorem arr_three {x : List Int} (h : x.length ≤ 3) : arrV (pad3 x) = #[.int .i64 (ld (pad3 x) 0), .int .i64 (ld (pad3 x) 1), .int .i64 (ld (pad3 x) 2)] := by
  rw [← arr_list', pad_three h]

set_option maxRecDepth 100000 in
set_option maxHeartbeats 1000000 in
theorem listed_any (n : Nat) (v : Value) (x : List Int) (w : World) (hx : x.length ≤ 3) (h0 : 0 < x.length) (hX : IntsV n w v x) (hn : n ≤ w.heap.size) :
    Calls Try.prog 56 #[v] w fun e w' => e = .returned (.agg (arrV (pad3 x))) ∧ Below w.heap.size w w' := by
  rw [arr_three hx]
  obtain ⟨xa, xcap, rfl, -, hxp⟩ := hX
  obtain ⟨b, off, rfl, hbn, hc⟩ := hxp h0
  have hltb : b < w.heap.size := by omega
  have hbb := below2 w (.cells #[.int .i64 0, .int .i64 0, .int .i64 0] 105) (.cells #[.int .i64 0, .int .i64 0, .int .i64 0] 105)
  obtain ⟨y0, y1⟩ := box2 w (.cells #[.int .i64 0, .int .i64 0, .int .i64 0] 105) (.cells #[.int .i64 0, .int .i64 0, .int .i64 0] 105)
  have HSP := splice_pad hx
  rw [pad_three hx] at HSP
  obtain ⟨cs, hcs⟩ : ∃ cs, x.map iV = cs := ⟨_, rfl⟩
  have hcl : cs.length = x.length := by rw [← hcs]; simp
  have hsrc : ∀ j u, cs[j]? = some u → ((w.alloc (.cells #[.int .i64 0, .int .i64 0, .int .i64 0] 105)).alloc (.cells #[.int .i64 0, .int .i64 0, .int .i64 0] 105)).cell? ((⟨b, off, none⟩ : Addr).add j) = some u := fun j u hu => by
    have hj : j < x.length := by rw [← hcl]; exact (List.getElem?_eq_some_iff.1 hu).1
    rw [Addr.add_lit]
    refine (hbb.cell (p := ⟨b, off + j, none⟩) hltb).trans ((hc j hj).trans ?_)
    rw [← map_iV_get x j hj, hcs]
    exact hu
  have hone : ∀ u ∈ cs, u.oneCell' = true := fun u hu => by
    rw [← hcs] at hu
    obtain ⟨a, _, rfl⟩ := List.mem_map.1 hu
    rfl
  rw [hcs] at HSP
  have hmin : cs.length = Nat.min x.length 3 := by rw [hcl]; exact (Nat.min_eq_left hx).symm
  have Y0 := Lib.hid y0
  have Y1 := Lib.hid y1
  have HBB := Lib.hid hbb
  have HS := Lib.hid hsrc
  have H1 := Lib.hid hone
  have HM := Lib.hid hmin
  have HP := Lib.hid HSP
  generalize ld (pad3 x) 0 = p0 at *
  generalize ld (pad3 x) 1 = p1 at *
  generalize ld (pad3 x) 2 = p2 at *
  clear hcs hcl hsrc hone HSP hmin y0 y1 hbb hc hxp
  go_enter Try.func56, Try.ntmps56
  go_wp2_with (first
    | (refine wpList_copy_splice rfl (.tmp 4) (.tmp 5) 26 26 rfl 3 (by kernel_rfl) (by kernel_rfl) (some ⟨w.heap.size + 1, 0, none⟩) (some ⟨b, off, none⟩) 3 3 x.length xcap rfl rfl (w.heap.size + 1) 0 [.int .i64 0, .int .i64 0, .int .i64 0] 105 Y1.out cs HM.out (fun _ => ⟨rfl, _, rfl, HS.out⟩) (by rw [HM.out]; simp; exact Nat.min_le_right _ _) H1.out (w.heap.size + 1) _ (Below.refl _ _) (Nat.le_refl _) ?_
       intro w3 hg3 hb3
       have hg3' := hg3.out
       rw [HP.out] at hg3'
       have G3 := Lib.hid hg3'
       have k0 := cell_of_row w3 (w.heap.size + 1) 0 _ _ _ hg3'
       have k1 := cell_of_row w3 (w.heap.size + 1) 1 _ _ _ hg3'
       have k2 := cell_of_row w3 (w.heap.size + 1) 2 _ _ _ hg3'
       simp at k0 k1 k2
       have m0 := (hb3.block w.heap.size (by omega)).trans Y0.out
       have M0 := Lib.hid m0
       have n0 := cell_of_row w3 w.heap.size 0 _ _ _ m0
       have n1 := cell_of_row w3 w.heap.size 1 _ _ _ m0
       have n2 := cell_of_row w3 w.heap.size 2 _ _ _ m0
       simp at n0 n1 n2
       have f0 := frozen_of_row w3 w.heap.size 0 _ _ m0
       have f1 := frozen_of_row w3 w.heap.size 1 _ _ m0
       have f2 := frozen_of_row w3 w.heap.size 2 _ _ m0
       have l0 := lt_of_block m0
       have l1 := lt_of_block hg3'
       have HB3 := Lib.hid (HBB.out.trans (hb3.mono (by omega)))
       clear hg3 hg3' m0 hb3)
    | fail)
  refine bodyPost_ret (v := .agg #[.int .i64 p0, .int .i64 p1, .int .i64 p2]) ?_ rfl ⟨rfl, ((HB3.out.setCell (p := ⟨w.heap.size, 0, none⟩) (Nat.le_refl _) _).setCell (p := ⟨w.heap.size, 1, none⟩) (Nat.le_refl _) _).setCell (p := ⟨w.heap.size, 2, none⟩) (Nat.le_refl _) _⟩
  simp [results, Try.results56, go_sem, *]
end Go.Proofs.Ytfijaafkagcmmaa
namespace Go.Proofs.Ytfijaafkagcmmaa
open Go.RowKit Go.Shelf
attribute [local irreducible] arrV wpQuiet

theorem rates_pad {x : List Int} (h : Rates x) : Rates (pad3 x) := fun i => by rw [pad3_rt]; exact h i
theorem loS_pad (ss : List Sg) (x : List Int) : loS ss (pad3 x) = loS ss x ∧ hiS ss (pad3 x) = hiS ss x := by
  induction ss with
  | nil => simp [loS, hiS]
  | cons s ss ih => simp [loS, hiS, pad3_rt, ih]
theorem fits_pad (r : Rn) (x : List Int) : fitsB r (pad3 x) = fitsB r x := by simp [fitsB, loS_pad]
theorem allN_fits (rs : List Rn) (x : List Int) : allN (fun q => fitsB (rn rs q) x) rs.length = allB rs x := by
  rw [Bool.eq_iff_iff, allN_iff, allB, List.all_eq_true]
  constructor
  · intro h r hr
    obtain ⟨j, hj, rfl⟩ := List.mem_iff_getElem.1 hr
    have := h j hj
    simpa [rn, hj] using this
  · exact fun h j hj => h _ (rn_mem hj)

set_option maxRecDepth 100000 in
set_option maxHeartbeats 1000000 in
theorem Allows_ok (n : Nat) (mv rv v : Value) (ms : List Rg) (rs : List Rn) (x : List Int) (w : World) (hK : RoomOk ms rs) (hx : x ∈ allL ms) (hV : RoomV n w mv rv ms rs) (hX : IntsV n w v x) :
    Calls Try.prog 20 #[.agg #[mv], rv, v] w fun e w' => e = .returned (.tuple #[.bool (allB rs x), .int .i64 0]) ∧ Below w.heap.size w w' := by
  have hn := hV.lt
  have hlen := hK.mat.len
  have hone := hK.mat.one
  have hrl := hK.len
  have hlx := len_of hx
  have hxr := rates_of hx hK.mat.toRgsOk
  have HCR := Lib.hid fun w' (h : Below w.heap.size w w') => checkRates_ok n mv rv v ms rs x w' hK hx (hV.below h) (hX.same (.below hn h))
  have HLI := Lib.hid fun w' (h : Below w.heap.size w w') => listed_any n v x w' (by omega) (by omega) (hX.same (.below hn h)) (Nat.le_trans hn h.size)
  have HER := Lib.hid fun w' (h : Below w.heap.size w w') => each_run n 57 #[.agg (arrV (pad3 x))] rv rs (fun q => fitsB (rn rs q) x) w' (by simp [maxLen]; omega) (hV.below h).r (Nat.le_trans hn h.size) (fun _ _ => rfl)
    (fun q sv w'' hq hs _ hn'' => by
      have := fits_any n ms.length (pad3 x) sv (rn rs q) w'' (pad3_len (by omega)) (rates_pad hxr) hlen (hK.rn _ (rn_mem hq)) hs hn''
      rw [fits_pad] at this
      simpa using this)
  rw [allN_fits] at HER
  obtain ⟨am, capm, rfl, -⟩ := hV.m
  obtain ⟨ar, capr, rfl, -⟩ := hV.r
  obtain ⟨xa, xcap, rfl, -⟩ := hX
  rw [hlx] at HCR HLI ⊢
  clear hlx
  have HX := Lib.hid (box2 w (.cells #[.slice am ms.length capm] 33) (.cells #[.slice am ms.length capm, .slice ar rs.length capr] 100)).2
  have HB := Lib.hid (below2 w (.cells #[.slice am ms.length capm] 33) (.cells #[.slice am ms.length capm, .slice ar rs.length capr] 100))
  generalize allB rs x = z at *
  clear hV hK hx hxr
  go_enter Try.func20, Try.ntmps20
  go_wp2_with fail
  refine (HCR.out _ HB.out).mono ?_
  rintro e w1 ⟨rfl, hb1⟩
  have HB1 := Lib.hid (below_to HB.out hb1)
  clear hb1
  go_wp2_with fail
  refine (HLI.out _ HB1.out).mono ?_
  rintro e w2 ⟨rfl, hb2⟩
  have HB2 := Lib.hid (below_to HB1.out hb2)
  clear hb2
  go_wp2_with fail
  refine (HER.out _ HB2.out).mono ?_
  rintro e w3 ⟨rfl, hb3⟩
  have HB3 := Lib.hid (below_to HB2.out hb3)
  clear hb3
  go_wp2
  go_ret2
  exact ⟨rfl, HB3.out⟩
end Go.Proofs.Ytfijaafkagcmmaa
