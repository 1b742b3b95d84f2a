/- A list of rates as an array, and Allows: contracts. Condition: a list of rates that the material has, a valid room. -/
import Derived.Test.YtfijaafkagcmmaaE5
import Derived.Laws.CopyOwn
namespace Go.Proofs.Ytfijaafkagcmmaa
open Go.RowKit Go.Shelf
attribute [local irreducible] arrV wpQuiet

theorem splice_pad {x : List Int} (h : x.length ≤ 3) : splice [Value.int .i64 0, .int .i64 0, .int .i64 0] 0 (x.map iV) = (pad3 x).map iV := by
  unfold splice pad3
  match x, h with
  | [], _ => rfl
  | [_], _ => rfl
  | [_, _], _ => rfl
  | [_, _, _], _ => rfl
theorem pad_three {x : List Int} (h : x.length ≤ 3) : (pad3 x).map iV = [.int .i64 (ld (pad3 x) 0), .int .i64 (ld (pad3 x) 1), .int .i64 (ld (pad3 x) 2)] := by
  match x, h with
  | [], _ => rfl
  | [_], _ => rfl
  | [_, _], _ => rfl
  | [_, _, _], _ => rfl
theorem arr_three {x : List Int} (h : x.length ≤ 3) : arrV (pad3 x) = #[.int .i64 (ld (pad3 x) 0), .int .i64 (ld (pad3 x) 1), .int .i64 (ld (pad3 x) 2)] := by
  rw [← arr_list', pad_three h]

set_option maxRecDepth 100000 in
set_option maxHeartbeats 1000000 in
theorem listed_any (n : Nat) (v : Value) (x : List Int) (w : World) (hx : x.length ≤ 3) (h0 : 0 < x.length) (hX : IntsV n w v x) (hn : n ≤ w.heap.size) :
    Calls Try.prog 56 #[v] w fun e w' => e = .returned (.agg (arrV (pad3 x))) ∧ Below w.heap.size w w' := by
  rw [arr_three hx]
  obtain ⟨xa, xcap, rfl, -, hxp⟩ := hX
  obtain ⟨b, off, rfl, hbn, hc⟩ := hxp h0
  have hltb : b < w.heap.size := by omega
  have hbb := below2 w (.cells #[.int .i64 0, .int .i64 0, .int .i64 0] 105) (.cells #[.int .i64 0, .int .i64 0, .int .i64 0] 105)
  obtain ⟨y0, y1⟩ := box2 w (.cells #[.int .i64 0, .int .i64 0, .int .i64 0] 105) (.cells #[.int .i64 0, .int .i64 0, .int .i64 0] 105)
  have HSP := splice_pad hx
  rw [pad_three hx] at HSP
  obtain ⟨cs, hcs⟩ : ∃ cs, x.map iV = cs := ⟨_, rfl⟩
  have hcl : cs.length = x.length := by rw [← hcs]; simp
  have hsrc : ∀ j u, cs[j]? = some u → ((w.alloc (.cells #[.int .i64 0, .int .i64 0, .int .i64 0] 105)).alloc (.cells #[.int .i64 0, .int .i64 0, .int .i64 0] 105)).cell? ((⟨b, off, none⟩ : Addr).add j) = some u := fun j u hu => by
    have hj : j < x.length := by rw [← hcl]; exact (List.getElem?_eq_some_iff.1 hu).1
    rw [Addr.add_lit]
    refine (hbb.cell (p := ⟨b, off + j, none⟩) hltb).trans ((hc j hj).trans ?_)
    rw [← map_iV_get x j hj, hcs]
    exact hu
  have hone : ∀ u ∈ cs, u.oneCell' = true := fun u hu => by
    rw [← hcs] at hu
    obtain ⟨a, _, rfl⟩ := List.mem_map.1 hu
    rfl
  rw [hcs] at HSP
  have hmin : cs.length = Nat.min x.length 3 := by rw [hcl]; exact (Nat.min_eq_left hx).symm
  have Y0 := Lib.hid y0
  have Y1 := Lib.hid y1
  have HBB := Lib.hid hbb
  have HS := Lib.hid hsrc
  have H1 := Lib.hid hone
  have HM := Lib.hid hmin
  have HP := Lib.hid HSP
  generalize ld (pad3 x) 0 = p0 at *
  generalize ld (pad3 x) 1 = p1 at *
  generalize ld (pad3 x) 2 = p2 at *
  clear hcs hcl hsrc hone HSP hmin y0 y1 hbb hc hxp
  go_enter Try.func56, Try.ntmps56
  go_wp2_with (first
    | (refine wpList_copy_splice rfl (.tmp 4) (.tmp 5) 26 26 rfl 3 (by kernel_rfl) (by kernel_rfl) (some ⟨w.heap.size + 1, 0, none⟩) (some ⟨b, off, none⟩) 3 3 x.length xcap rfl rfl (w.heap.size + 1) 0 [.int .i64 0, .int .i64 0, .int .i64 0] 105 Y1.out cs HM.out (fun _ => ⟨rfl, _, rfl, HS.out⟩) (by rw [HM.out]; simp; exact Nat.min_le_right _ _) H1.out (w.heap.size + 1) _ (Below.refl _ _) (Nat.le_refl _) ?_
       intro w3 hg3 hb3
       have hg3' := hg3.out
       rw [HP.out] at hg3'
       have G3 := Lib.hid hg3'
       have k0 := cell_of_row w3 (w.heap.size + 1) 0 _ _ _ hg3'
       have k1 := cell_of_row w3 (w.heap.size + 1) 1 _ _ _ hg3'
       have k2 := cell_of_row w3 (w.heap.size + 1) 2 _ _ _ hg3'
       simp at k0 k1 k2
       have m0 := (hb3.block w.heap.size (by omega)).trans Y0.out
       have M0 := Lib.hid m0
       have n0 := cell_of_row w3 w.heap.size 0 _ _ _ m0
       have n1 := cell_of_row w3 w.heap.size 1 _ _ _ m0
       have n2 := cell_of_row w3 w.heap.size 2 _ _ _ m0
       simp at n0 n1 n2
       have f0 := frozen_of_row w3 w.heap.size 0 _ _ m0
       have f1 := frozen_of_row w3 w.heap.size 1 _ _ m0
       have f2 := frozen_of_row w3 w.heap.size 2 _ _ m0
       have l0 := lt_of_block m0
       have l1 := lt_of_block hg3'
       have HB3 := Lib.hid (HBB.out.trans (hb3.mono (by omega)))
       clear hg3 hg3' m0 hb3)
    | fail)
  refine bodyPost_ret (v := .agg #[.int .i64 p0, .int .i64 p1, .int .i64 p2]) ?_ rfl ⟨rfl, ((HB3.out.setCell (p := ⟨w.heap.size, 0, none⟩) (Nat.le_refl _) _).setCell (p := ⟨w.heap.size, 1, none⟩) (Nat.le_refl _) _).setCell (p := ⟨w.heap.size, 2, none⟩) (Nat.le_refl _) _⟩
  simp [results, Try.results56, go_sem, *]
end Go.Proofs.Ytfijaafkagcmmaa
