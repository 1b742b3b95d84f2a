/- The law CreepCut, walked. No condition. -/
import Derived.Test.YtfijaafkagcmmaaF6
import Derived.Test.YtfijaafkagcmmaaE7J
import Derived.BigRegion
import Derived.Test.YtfijaafkagcmmaaR11
import Derived.StillTailTactics
namespace Go.Proofs.Ytfijaafkagcmmaa
open Go.RowKit Go.Shelf
attribute [local irreducible] arrV wpQuiet

set_option maxRecDepth 100000 in
set_option maxHeartbeats 4000000 in
theorem cut_no (ku kv ky : Value) (mv rv pv : Value) (ms : List Rg) (rs : List Rn) (ss : List Sg) (w : World) (hV : RgsV w.heap.size w mv ms) (hR : RunsV w.heap.size w rv rs) (hP : SegsV w.heap.size w pv ss) (hz : (readyB ms rs ss && decide (rs.length ≠ 0)) = false) :
    Calls Try.prog 10 #[.agg #[mv], rv, pv, ku, kv, ky] w fun e w' => e = .returned (.bool true) ∧ Below w.heap.size w w' := by
  have HR := Lib.hid fun w' (h : Below w.heap.size w w') => ready_any w.heap.size mv rv pv ms rs ss w' (hV.same (.below (Nat.le_refl _) h)) (hR.same (.below (Nat.le_refl _) h)) (hP.same (.below (Nat.le_refl _) h)) h.size
  obtain ⟨am, capm, rfl, -⟩ := hV
  obtain ⟨ar, capr, rfl, -⟩ := hR
  obtain ⟨ap, capp, rfl, -⟩ := hP
  have HB := Lib.hid (box_below w (.cells #[.slice am ms.length capm] 24))
  have HA := Lib.hid awake_any
  generalize readyB ms rs ss = z at *
  generalize ms.length = nm at *
  generalize rs.length = nr at *
  generalize ss.length = np at *
  cases z with
  | false =>
    clear hz
    go_enter Try.func10, Try.ntmps10
    go_wp2_with fail
    refine (HR.out _ HB.out).mono ?_
    rintro e w1 ⟨rfl, hb1⟩
    have HB1 := Lib.hid (below_to HB.out hb1)
    clear hb1
    go_wp2_with fail
    refine (HA.out _).mono ?_
    rintro e w2 ⟨rfl, hb2⟩
    have HB2 := Lib.hid (below_to HB1.out hb2)
    clear hb2
    go_wp2
    go_ret
    exact ⟨rfl, HB2.out⟩
  | true =>
    obtain rfl : nr = 0 := by simpa using hz
    clear hz
    go_enter Try.func10, Try.ntmps10
    go_wp2_with fail
    refine (HR.out _ HB.out).mono ?_
    rintro e w1 ⟨rfl, hb1⟩
    have HB1 := Lib.hid (below_to HB.out hb1)
    clear hb1
    go_wp2_with fail
    refine (HA.out _).mono ?_
    rintro e w2 ⟨rfl, hb2⟩
    have HB2 := Lib.hid (below_to HB1.out hb2)
    clear hb2
    go_wp2
    go_ret
    exact ⟨rfl, HB2.out⟩

set_option maxRecDepth 100000 in
set_option maxHeartbeats 4000000 in
theorem cut_yes (mv rv pv : Value) (ms : List Rg) (rs : List Rn) (ss : List Sg) (a c y : Int) (w : World) (ha : 0 ≤ a ∧ a < 256) (hc8 : 0 ≤ c ∧ c < 256) (hy : 0 ≤ y ∧ y < 65536) (hV : RgsV w.heap.size w mv ms) (hR : RunsV w.heap.size w rv rs) (hP : SegsV w.heap.size w pv ss) (hz : readyB ms rs ss = true) (h0 : 0 < rs.length) (hcr : ∀ b off n cap, rv = .slice (some ⟨b, off, none⟩) n cap → ∀ i, i < n → ∀ a m c, w.cell? ⟨b, off + i * 3, none⟩ = some (.slice a m c) → m ≤ c) :
    Calls Try.prog 10 #[.agg #[mv], rv, pv, .int .u8 a, .int .u8 c, .int .u16 y] w fun e w' => e = .returned (.bool true) ∧ Below w.heap.size w w' := by
  have HR := Lib.hid fun w' (h : Below w.heap.size w w') => ready_any w.heap.size mv rv pv ms rs ss w' (hV.same (.below (Nat.le_refl _) h)) (hR.same (.below (Nat.le_refl _) h)) (hP.same (.below (Nat.le_refl _) h)) h.size
  rw [hz] at HR
  have HR2 := Lib.hid fun w' (h : Below w.heap.size w w') n xv rs' (hX : RunsV n w' xv rs') (hwn : w.heap.size ≤ n) (hn : n ≤ w'.heap.size) => ready_any n mv xv pv ms rs' ss w' ((hV.same (.below (Nat.le_refl _) h)).up hwn) hX ((hP.same (.below (Nat.le_refl _) h)).up hwn) hn
  obtain ⟨hK, hPL⟩ := readyB_ok hz
  have hone := hK.mat.one
  have hlen := hK.mat.len
  have hrl := hK.len
  have hpl := hPL.len
  have HMA := Lib.hid fun w' (h : Below w.heap.size w w') => Material_any w.heap.size mv ms w' (by omega) (hV.same (.below (Nat.le_refl _) h)) h.size
  have HRU := Lib.hid fun w' (h : Below w.heap.size w w') => Runs_any w.heap.size rv rs w' (by omega) (fun r hr => by have := (hK.rn r hr).len; omega) (hR.same (.below (Nat.le_refl _) h)) h.size
  have HPA := Lib.hid fun w' (h : Below w.heap.size w w') => Plan_any w.heap.size pv ss w' (by omega) (hP.same (.below (Nat.le_refl _) h)) h.size
  have HRV := Lib.hid fun w' (h : Below w.heap.size w w') => hR.same (.below (n := w.heap.size) (Nat.le_refl _) h)
  have HK := Lib.hid hK
  have HPO := Lib.hid hPL
  obtain ⟨am, capm, rfl, -⟩ := hV
  obtain ⟨ar, capr, rfl, hrc⟩ := hR
  obtain ⟨ap, capp, rfl, -⟩ := hP
  obtain ⟨br, offr, rfl, hbr, -⟩ := hrc h0
  have HCR := Lib.hid (hcr br offr _ capr rfl)
  clear hcr
  have HX := Lib.hid (heap_alloc_new w (.cells #[.slice am ms.length capm] 24))
  have HB := Lib.hid (box_below w (.cells #[.slice am ms.length capm] 24))
  have HA := Lib.hid awake_any
  have hwa : IntKind.i64.wrap a = a := IntWalk.i64_in _ (by omega)
  have hwc : IntKind.i64.wrap c = c := IntWalk.i64_in _ (by omega)
  have hwy : IntKind.i64.wrap y = y := IntWalk.i64_in _ (by omega)
  have hrne : (rs.length : Int) ≠ 0 := by omega
  have hmne : (ms.length : Int) ≠ 0 := by omega
  obtain ⟨j, hj, hjn⟩ : ∃ j : Nat, a % (rs.length : Int) = j ∧ j < rs.length := by
    have h1 := Int.emod_nonneg a hrne
    have h2 := Int.emod_lt_of_pos a (show (0 : Int) < rs.length by omega)
    exact ⟨(a % rs.length).toNat, by omega, by omega⟩
  have hji : (j : Int) < rs.length := by omega
  obtain ⟨bd, hbd, hbd0, hbdn⟩ : ∃ bd : Int, c % (ms.length : Int) = bd ∧ 0 ≤ bd ∧ bd < ms.length := ⟨_, rfl, Int.emod_nonneg c hmne, Int.emod_lt_of_pos c (by omega)⟩
  have hta : a.tmod (rs.length : Int) = j := by rw [Int.tmod_eq_emod_of_nonneg ha.1]; exact hj
  have htc : c.tmod (ms.length : Int) = bd := by rw [Int.tmod_eq_emod_of_nonneg hc8.1]; exact hbd
  have HY := Lib.hid hy
  have HC8 := Lib.hid hc8
  clear hz hK hPL hrc
  go_enter Try.func10, Try.ntmps10
  go_wp2_with fail
  refine (HR.out _ HB.out).mono ?_
  rintro e w1 ⟨rfl, hb1⟩
  have HX1 := Lib.hid ((hb1.block _ (lt_of_block HX.out)).trans HX.out)
  have HB1 := Lib.hid (below_to HB.out hb1)
  clear hb1
  obtain ⟨xs, hxs, hxc, hx1, -⟩ := runs_cells h0 (HRV.out _ (HB1.out.trans ((box_below w1 (.cells #[] 90 (0, 0))).mono HB1.out.size)))
  obtain ⟨g1, cx1, w4, hrun1, hown1, hb4, -, hg1⟩ := app_all el25 w1.heap.size 0 25 (.slice (some ⟨w1.heap.size, 0, none⟩) 0 0) [] br offr rs.length capr xs (w1.alloc (.cells #[] 90 (0, 0))) h0 (by omega) (act_empty 90 3 w1.heap.size w1 (Nat.le_refl _)) (by simp) hxs.1 hxc hx1
  rw [Nat.zero_add] at hrun1 hown1
  rw [List.nil_append] at hown1
  have hb14 : Below w1.heap.size w1 w4 := (box_below w1 _).trans hb4
  have hrow := RowR.of rfl h0 (hxs.same (fun k hk => hb4.block k (by have := HB1.out.size; omega))) (by have := HB1.out.size; have := hb14.size; omega) hown1
  have hg1w : w.heap.size < g1 := by
    have := lt_of_block HX1.out
    rcases hg1 with h | h
    · simp [Value.ownBlock] at h
      omega
    · simp at h
      omega
  have HRUN := Lib.hid hrun1
  have HROW := Lib.hid hrow
  have HB4 := Lib.hid (below_to HB1.out hb14)
  have HX4 := Lib.hid ((hb14.block _ (lt_of_block HX1.out)).trans HX1.out)
  obtain ⟨sv, q0, q1, q2, hsv⟩ := hrow.runs j hjn
  obtain ⟨al, capl, rfl, hlc⟩ := hsv
  have HLC := Lib.hid hlc

  have c0 := cell_of_row w4 w.heap.size 0 _ _ _ HX4.out
  simp at c0
  have l0 := lt_of_block HX4.out
  have lg := hrow.here
  have hncap : (rn rs j).ss.length ≤ capl := by
    obtain ⟨gx, cxx, ex, -, -, hcx⟩ := own_get hown1 h0
    cases ex
    have h1 := hcx (j * 3) (by omega)
    rw [q0] at h1
    have h2 := hxc _ _ h1.symm
    have h3 : w.cell? ⟨br, offr + j * 3, none⟩ = some (.slice al (rn rs j).ss.length capl) := by
      rw [← h2]
      have hbb := HB1.out.trans ((box_below w1 (.cells #[] 90 (0, 0))).mono HB1.out.size)
      exact (World.cell?_of_block (hbb.block br hbr)).symm
    exact HCR.out j hjn _ _ _ h3
  have HRS := Lib.hid fun w' (h : Below w.heap.size w w') => (show SegsV w.heap.size w' (.slice al (rn rs j).ss.length capl) (rn rs j).ss from by
    obtain ⟨xa, xc, xe, xp⟩ := HRV.out w' h
    cases xe
    obtain ⟨xb, xo, xe, xl, xq⟩ := xp h0
    cases xe
    obtain ⟨sv', z0, -, -, z3⟩ := xq j hjn
    obtain ⟨gx, cxx, ex, -, -, hcx⟩ := own_get hown1 h0
    cases ex
    have h1 := hcx (j * 3) (by omega)
    rw [q0] at h1
    have h2 := hxc _ _ h1.symm
    have hbb := HB1.out.trans ((box_below w1 (.cells #[] 90 (0, 0))).mono HB1.out.size)
    rw [World.cell?_of_block (hbb.block br hbr)] at h2
    rw [World.cell?_of_block (h.block br hbr), h2] at z0
    cases z0
    exact z3)
  clear hrun1 hrow hown1 hb4 hg1 hb14 hxs hxc hx1 q1 q2 hlc hj hbd
  clear HR HB HX HX1 HB1
  cases Nat.eq_zero_or_pos (rn rs j).ss.length with
  | inl hl0 =>
    rw [hl0] at q0
    go_wp2_with (first
      | (refine wpList_append_run (v := .slice (some ⟨g1, 0, none⟩) rs.length cx1) (W' := w4) (y := .slice (some ⟨w1.heap.size, 0, none⟩) 0 0) (z := .slice (some ⟨br, offr, none⟩) rs.length capr) rfl (.tmp 42) (.tmp 43) 25 25 25 rfl rfl rfl rfl HRUN.out ?_)
      | fail)
    have hsE : (rn rs j).ss = [] := List.eq_nil_of_length_eq_zero hl0
    have hbb := box_below w4 (.cells #[.int .i64 bd, .int .i64 0, .int .i64 0] 84)
    have Y0 := Lib.hid (heap_alloc_new w4 (.cells #[.int .i64 bd, .int .i64 0, .int .i64 0] 84))
    replace HROW := Lib.hid (HROW.out.below hbb)
    replace HX4 := Lib.hid ((hbb.block _ (lt_of_block HX4.out)).trans HX4.out)
    replace HB4 := Lib.hid (below_to HB4.out hbb)
    have hgS : g1 < w4.heap.size := lg
    clear q0 c0 l0 lg hbb HRUN
    generalize World.alloc w4 _ = A6 at *
    generalize w4.heap.size = bS at *
    have hwS : w.heap.size ≤ bS := by omega
    have HSV6 : Hid (SegsV w.heap.size A6 (.slice al ([] : List Sg).length capl) []) := Lib.hid ⟨al, capl, rfl, fun h => absurd h (by simp)⟩
    have HLN := Lib.hid HB4.out.size
    have hg1A : g1 ≠ bS := by omega
    have hnil : ([] : List Sg).length = 0 := rfl
    refine wp_region_noPanic ?_
    refine wp_region_acts (fun w' => But (fun k => k = g1) A6 w') (fun _ _ h hb => h.trans (But.of_below hb)) (But.of_below (below_drawn _)) (by kernel_rfl) (fun _ _ _ _ _ h => h)
      [.take 0, .take 1, .take 3, .take 4, .take 5, .take 7, .take 10, .take 11, .take 12, .float 8, .act 2, .act 6, .join, .act 9, .act 13] [14, 15, 16] (by kernel_rfl) ?_
    iterate 2
      (refine GWalk.takes rfl rfl ?_; apply Exists.intro; refine ⟨fun w' hS => ?_, ?_⟩; (clear hS; go_simp; with_reducible rfl); simp only [List.getElem_toArray, List.getElem_cons_succ, List.getElem_cons_zero, Act.put, List.setIfInBounds_toArray, List.set_cons_zero, List.set_cons_succ])
    iterate 2
      (refine GWalk.takes rfl rfl ?_; apply Exists.intro; refine ⟨fun w' hS => ?_, ?_⟩; (clear hS; go_simp; with_reducible rfl); simp only [List.getElem_toArray, List.getElem_cons_succ, List.getElem_cons_zero, Act.put, List.setIfInBounds_toArray, List.set_cons_zero, List.set_cons_succ])
    refine GWalk.takes rfl rfl ⟨_, fun w' hS => exec_slice_hi (q := 0) (.tmp 138) (.tmp 139) rfl rfl rfl (by simp) (by omega), ?_⟩
    simp only [List.getElem_toArray, List.getElem_cons_succ, List.getElem_cons_zero, Act.put, List.setIfInBounds_toArray, List.set_cons_zero, List.set_cons_succ]
    refine GWalk.takes rfl rfl ?_; apply Exists.intro; refine ⟨fun w' hS => ?_, ?_⟩
    · have z := (hS.block _ (lt_of_block Y0.out) (by omega)).trans Y0.out
      have d0 := cell_of_row w' _ 0 _ _ _ z
      have d1 := cell_of_row w' _ 1 _ _ _ z
      have d2 := cell_of_row w' _ 2 _ _ _ z
      simp only [List.getElem?_toArray, List.getElem?_cons_zero, List.getElem?_cons_succ] at d0 d1 d2
      have d3 := lt_of_block z
      clear hS z
      go_simp
      with_reducible rfl
    simp only [List.getElem_toArray, List.getElem_cons_succ, List.getElem_cons_zero, Act.put, List.setIfInBounds_toArray, List.set_cons_zero, List.set_cons_succ]
    iterate 2
      (refine GWalk.takes rfl rfl ?_; apply Exists.intro; refine ⟨fun w' hS => ?_, ?_⟩; (clear hS; go_simp; with_reducible rfl); simp only [List.getElem_toArray, List.getElem_cons_succ, List.getElem_cons_zero, Act.put, List.setIfInBounds_toArray, List.set_cons_zero, List.set_cons_succ])
    refine GWalk.takes rfl rfl ⟨_, fun w' hS => exec_slice_lo (q := 0) (.tmp 145) (.tmp 146) rfl rfl rfl (by first | (simp; done) | (push_cast; exact hwi1)) (by omega), ?_⟩
    simp only [List.getElem_toArray, List.getElem_cons_succ, List.getElem_cons_zero, Act.put, List.setIfInBounds_toArray, List.set_cons_zero, List.set_cons_succ]
    refine GWalk.floats (.cells #[.int .i64 bd, .int .i64 0, .int .i64 0] 84) (fun b => .slice (some ⟨b, 0, none⟩) 1 1) rfl rfl rfl (fun w1 => exec_buildSlice 52 84 1 _ rfl el52.u #[.int .i64 bd, .int .i64 0, .int .i64 0] (by kernel_rfl)) ?_
    simp only [List.nil_append, List.cons_append]
    refine GWalk.acts rfl rfl fun e1 he1 hSe1 hOe1 => ?_
    have hA1 := grow_to (below_drawn A6) he1
    have hA2 := grow_to hA1 (box_below e1 (.cells #[] 84 (0, 0)))
    refine ⟨.slice (some ⟨e1.heap.size, 0, none⟩) 0 0, e1.alloc (.cells #[] 84 (0, 0)), Mine (fun _ => False) e1 _, by kernel_rfl, (But.of_below hA2), kept_alloc _ e1 _ hOe1, ?_⟩
    simp only [List.getElem_toArray, List.getElem_cons_succ, List.getElem_cons_zero, Act.put, List.setIfInBounds_toArray, List.set_cons_zero, List.set_cons_succ]
    have ho1 := act_empty 84 3 A6.heap.size e1 hA1.size
    have hm1 := mine_empty e1 (.cells #[] 84 (0, 0))
    clear hSe1 hOe1 he1 hA1
    generalize e1.alloc (.cells #[] 84 (0, 0)) = f1 at *
    refine GWalk.acts rfl rfl fun e2 he2 hSe2 hOe2 => ?_
    have hA3 := grow_to hA2 he2
    obtain ⟨hp1, hp2⟩ := part_hi (HSV6.out.same (.below HLN.out hA3)) 0 (by omega)
    obtain ⟨v2, f2, hr2, ho2, hb2, hk2, hm2, -⟩ := act_app el52 A6.heap.size 0 (.slice (some ⟨e1.heap.size, 0, none⟩) 0 0) [] al 0 capl (flatS ((([] : List Sg)).take 0)) e2 (Mine (fun _ => False) e1 f1) 52 (by omega) (row_kept ho1 he2) hA3.size (by rw [flatS_len, List.length_take]; omega) hp1 hp2 (fun u hu => flatS_one hu) hm1 hOe2
    have hA4 := hA3.trans hb2
    refine ⟨v2, f2, _, exec_append (.tmp 137) (.tmp 140) rfl rfl rfl hr2, (But.of_below hA4), hk2, ?_⟩
    simp only [List.getElem_toArray, List.getElem_cons_succ, List.getElem_cons_zero, Act.put, List.setIfInBounds_toArray, List.set_cons_zero, List.set_cons_succ]
    clear hr2 hp1 hp2 hSe2 hOe2 he2 hA3 hA2 ho1 hb2 hk2 hm1
    refine GWalk.joins fun e3 bJ he3 hj1 hj2 hj3 hj4 => ?_
    simp only [List.getElem_toArray, List.getElem_cons_succ, List.getElem_cons_zero, Act.put, List.setIfInBounds_toArray, List.set_cons_zero, List.set_cons_succ]
    refine GWalk.acts rfl rfl fun e4 he4 hSe4 hOe4 => ?_
    have he34 := grow_to he3 he4
    have hA5 := grow_to hA4 he34
    have hj5 := (he4.block _ hj2).trans hj4
    obtain ⟨v3, f3, hr3, ho3, hb3, hk3, hm3, -⟩ := act_app el52 A6.heap.size _ v2 _ (some ⟨bJ, 0, none⟩) 1 1 [.int .i64 bd, .int .i64 0, .int .i64 0] e4 _ 52 (by omega) (row_kept ho2 he34) hA5.size rfl (fun h => by cases h) (fun _ => ⟨bJ, 0, rfl, fun j u hj => by rw [Nat.zero_add, cell_of_row e4 bJ j _ _ _ hj5]; simpa using hj⟩) (by simp [Value.oneCell']) hm2 hOe4
    have hA6 := hA5.trans hb3
    refine ⟨v3, f3, _, exec_append (.tmp 141) (.tmp 143) rfl rfl rfl hr3, (But.of_below hA6), hk3, ?_⟩
    simp only [List.getElem_toArray, List.getElem_cons_succ, List.getElem_cons_zero, Act.put, List.setIfInBounds_toArray, List.set_cons_zero, List.set_cons_succ]
    clear hr3 hSe4 hOe4 he34 he3 he4 hA4 hA5 hj1 hj2 hj3 hj4 hj5 ho2 hb3 hk3 hm2
    refine GWalk.acts rfl rfl fun e5 he5 hSe5 hOe5 => ?_
    have hA7 := grow_to hA6 he5
    obtain ⟨hp1, hp2⟩ := part_lo (HSV6.out.same (.below HLN.out hA7)) (0) (by omega) (by omega)
    obtain ⟨v4, f4, hr4, ho4, hb4, hk4, hm4, -⟩ := act_app el52 A6.heap.size _ v3 _ (lowA al (0) capl) (([] : List Sg).length - (0)) (capl - (0)) (flatS ((([] : List Sg)).drop (0))) e5 _ 52 (by omega) (row_kept ho3 he5) hA7.size (by rw [flatS_len, List.length_drop]) hp1 hp2 (fun u hu => flatS_one hu) hm3 hOe5
    have hA8 := hA7.trans hb4
    refine ⟨v4, f4, _, exec_append (.tmp 144) (.tmp 147) rfl rfl rfl hr4, (But.of_below hA8), hk4, ?_⟩
    simp only [List.getElem_toArray, List.getElem_cons_succ, List.getElem_cons_zero, Act.put, List.setIfInBounds_toArray, List.set_cons_zero, List.set_cons_succ]
    rw [flat_join ((([] : List Sg)).take 0) ((([] : List Sg)).drop (0)) ⟨bd, ⟨0, 0⟩⟩] at ho4
    clear hr4 hp1 hp2 hSe5 hOe5 hA6 hA7 ho3 hb4 hk4 hm4 hm3 he5
    refine GWalk.fin fun e6 he6 hSe6 => ?_
    have hA9 := grow_to hA8 he6
    have ho6 := row_kept ho4 he6
    clear hA8 ho4 he6
    have hcut : ([] : List Sg).take 0 ++ [⟨bd, ⟨0, 0⟩⟩] ++ ([] : List Sg).drop 0 = [⟨bd, ⟨0, 0⟩⟩] := rfl
    rw [hcut] at ho6
    have hcl : 0 + 0 + 1 + (([] : List Sg).length - 0) = ([⟨bd, ⟨0, 0⟩⟩] : List Sg).length := rfl
    rw [hcl] at ho6
    obtain ⟨lv, cv, rfl, -⟩ := own_capd ho6
    have hrowE := HROW.out.below hA9
    obtain ⟨sv9, z9, -⟩ := hrowE.runs j hjn
    have hset := hrowE.set_runs (by omega) hjn _ _ cx1 ho6 (by have := HROW.out.here; omega)
    have hbu : But (fun k => k = g1) A6 (e6.setCell ⟨g1, j * 3, none⟩ (.slice lv ([⟨bd, ⟨0, 0⟩⟩] : List Sg).length cv)) := (But.of_below hA9).trans (But.setCell e6 _ rfl)
    refine Tail.value rfl rfl (by go_simp; with_reducible rfl) ?_
    simp only [List.getElem_toArray, List.getElem_cons_succ, List.getElem_cons_zero, Act.put, List.setIfInBounds_toArray, List.set_cons_zero, List.set_cons_succ]
    refine Tail.value rfl rfl (by go_simp; with_reducible rfl) ?_
    simp only [List.getElem_toArray, List.getElem_cons_succ, List.getElem_cons_zero, Act.put, List.setIfInBounds_toArray, List.set_cons_zero, List.set_cons_succ]
    refine Tail.skip rfl rfl (exec_store_one 52 (.tmp 150) (.tmp 148) rfl rfl rfl z9 (hrowE.fresh _) (by kernel_rfl)) hbu (Tail.done (NoPanic.normal ?_))
    simp only [List.getElem_toArray, List.getElem_cons_succ, List.getElem_cons_zero, Act.put, List.setIfInBounds_toArray, List.set_cons_zero, List.set_cons_succ]
    have hXn := (heap_setCell_other e6 ⟨g1, j * 3, none⟩ w.heap.size (.slice lv ([⟨bd, ⟨0, 0⟩⟩] : List Sg).length cv) (by show w.heap.size ≠ g1; omega)).trans ((hA9.block _ (lt_of_block HX4.out)).trans HX4.out)
    have hBn := (below_to HB4.out hA9).setCell (p := ⟨g1, j * 3, none⟩) (by show w.heap.size ≤ g1; omega) (.slice lv ([⟨bd, ⟨0, 0⟩⟩] : List Sg).length cv)
    have hsz : e6.heap.size = (e6.setCell ⟨g1, j * 3, none⟩ (.slice lv ([⟨bd, ⟨0, 0⟩⟩] : List Sg).length cv)).heap.size := by simp
    rw [hsz] at hset
    have HXA := Lib.hid hXn
    have HBA := Lib.hid hBn
    have HXV := Lib.hid hset
    have HOK := Lib.hid (stay_ok ms bd hjn hsE)
    clear hXn hBn hsz hset hbu hrowE z9 ho6 hcl hcut HX4 HB4 HROW hA9 hSe6 HSV6 Y0 HLN
    generalize World.setCell _ _ _ = A7 at *
    generalize rs.set j _ = rs2 at *
    have c0 := cell_of_row A7 w.heap.size 0 _ _ _ HXA.out
    simp only [List.getElem?_toArray, List.getElem?_cons_zero] at c0
    have l0 := lt_of_block HXA.out
    go_wp2_with fail
    refine (HR2.out A7 HBA.out A7.heap.size _ rs2 HXV.out HBA.out.size (Nat.le_refl _)).mono ?_
    rintro e u0 ⟨rfl, hb⟩
    replace HXA := Lib.hid ((hb.block _ (lt_of_block HXA.out)).trans HXA.out)
    replace HBA := Lib.hid (below_to HBA.out hb)
    replace HXV := Lib.hid ((HXV.out.same (.below (Nat.le_refl _) hb)).up hb.size)
    clear hb
    clear c0 l0
    cases hz2 : readyB ms rs2 ss with
    | false =>
      clear hz2
      go_wp2_with fail
      refine (HA.out u0).mono ?_
      rintro e u1 ⟨rfl, hb⟩
      have HBF := Lib.hid (below_to HBA.out hb)
      clear hb
      go_wp2
      go_ret
      exact ⟨rfl, HBF.out⟩
    | true =>
      have HK2 := Lib.hid (readyB_ok hz2).1
      clear hz2 HR2
      have c0 := cell_of_row u0 w.heap.size 0 _ _ _ HXA.out
      simp only [List.getElem?_toArray, List.getElem?_cons_zero] at c0
      have l0 := lt_of_block HXA.out
      by_cases hne : okL ms rs = []
      · have HNE := Lib.hid hne
        have HNE2 : Hid (okL ms rs2 = []) := Lib.hid (by rw [HOK.out]; exact hne)
        clear hne
        go_wp2_with fail
        refine (HMA.out u0 HBA.out).mono ?_
        rintro e v1 ⟨⟨m6, rfl, hm6⟩, hb⟩
        replace HXA := Lib.hid ((hb.block _ (lt_of_block HXA.out)).trans HXA.out)
        replace HBA := Lib.hid (below_to HBA.out hb)
        replace HXV := Lib.hid ((HXV.out.same (.below (Nat.le_refl _) hb)).up hb.size)
        clear hb
        have HM6 := Lib.hid hm6
        clear hm6
        go_wp2_with fail
        clear c0 l0
        refine (HRU.out v1 HBA.out).mono ?_
        rintro e v2 ⟨⟨r7, rfl, hr7⟩, hb⟩
        replace HXA := Lib.hid ((hb.block _ (lt_of_block HXA.out)).trans HXA.out)
        replace HBA := Lib.hid (below_to HBA.out hb)
        replace HXV := Lib.hid ((HXV.out.same (.below (Nat.le_refl _) hb)).up hb.size)
        replace HM6 := Lib.hid ((HM6.out.same (.below (Nat.le_refl _) hb)).up hb.size)
        clear hb
        have HV7 : Hid (RoomV v2.heap.size v2 m6 r7 ms rs) := Lib.hid ⟨Nat.le_refl _, HM6.out, hr7⟩
        clear hr7 HM6
        go_wp2_with fail
        refine (Rates_fail v2.heap.size m6 r7 ms rs v2 HK.out HV7.out HNE.out).mono ?_
        rintro e v3 ⟨rfl, hb⟩
        replace HXA := Lib.hid ((hb.block _ (lt_of_block HXA.out)).trans HXA.out)
        replace HBA := Lib.hid (below_to HBA.out hb)
        replace HXV := Lib.hid ((HXV.out.same (.below (Nat.le_refl _) hb)).up hb.size)
        replace HV7 : Hid (RoomV _ _ _ _ _ _) := Lib.hid ⟨Nat.le_refl _, (HV7.out.below hb).m.up hb.size, (HV7.out.below hb).r.up hb.size⟩
        clear hb
        clear HV7
        have c0 := cell_of_row v3 w.heap.size 0 _ _ _ HXA.out
        simp only [List.getElem?_toArray, List.getElem?_cons_zero] at c0
        have l0 := lt_of_block HXA.out
        go_wp2_with fail
        refine (HMA.out v3 HBA.out).mono ?_
        rintro e v4 ⟨⟨m6, rfl, hm6⟩, hb⟩
        replace HXA := Lib.hid ((hb.block _ (lt_of_block HXA.out)).trans HXA.out)
        replace HBA := Lib.hid (below_to HBA.out hb)
        replace HXV := Lib.hid ((HXV.out.same (.below (Nat.le_refl _) hb)).up hb.size)
        clear hb
        have HM6 := Lib.hid hm6
        clear hm6
        go_wp2_with fail
        clear c0 l0
        have hru := Runs_any v4.heap.size _ rs2 v4 (by have := HK2.out.len; omega) (fun r hr => by have := (HK2.out.rn r hr).len; omega) HXV.out (Nat.le_refl _)
        refine (hru).mono ?_
        rintro e v5 ⟨⟨r7, rfl, hr7⟩, hb⟩
        replace HXA := Lib.hid ((hb.block _ (lt_of_block HXA.out)).trans HXA.out)
        replace HBA := Lib.hid (below_to HBA.out hb)
        replace HXV := Lib.hid ((HXV.out.same (.below (Nat.le_refl _) hb)).up hb.size)
        replace HM6 := Lib.hid ((HM6.out.same (.below (Nat.le_refl _) hb)).up hb.size)
        clear hb
        have HV7 : Hid (RoomV v5.heap.size v5 m6 r7 ms rs2) := Lib.hid ⟨Nat.le_refl _, HM6.out, hr7⟩
        clear hr7 hru HM6
        go_wp2_with fail
        refine (Rates_fail v5.heap.size m6 r7 ms rs2 v5 HK2.out HV7.out HNE2.out).mono ?_
        rintro e v6 ⟨rfl, hb⟩
        replace HXA := Lib.hid ((hb.block _ (lt_of_block HXA.out)).trans HXA.out)
        replace HBA := Lib.hid (below_to HBA.out hb)
        replace HXV := Lib.hid ((HXV.out.same (.below (Nat.le_refl _) hb)).up hb.size)
        replace HV7 : Hid (RoomV _ _ _ _ _ _) := Lib.hid ⟨Nat.le_refl _, (HV7.out.below hb).m.up hb.size, (HV7.out.below hb).r.up hb.size⟩
        clear hb
        clear HV7
        have c0 := cell_of_row v6 w.heap.size 0 _ _ _ HXA.out
        simp only [List.getElem?_toArray, List.getElem?_cons_zero] at c0
        have l0 := lt_of_block HXA.out
        go_wp2_with fail
        refine (HMA.out v6 HBA.out).mono ?_
        rintro e v7 ⟨⟨m6, rfl, hm6⟩, hb⟩
        replace HXA := Lib.hid ((hb.block _ (lt_of_block HXA.out)).trans HXA.out)
        replace HBA := Lib.hid (below_to HBA.out hb)
        replace HXV := Lib.hid ((HXV.out.same (.below (Nat.le_refl _) hb)).up hb.size)
        clear hb
        have HM6 := Lib.hid hm6
        clear hm6
        go_wp2_with fail
        clear c0 l0
        refine (HRU.out v7 HBA.out).mono ?_
        rintro e v8 ⟨⟨r7, rfl, hr7⟩, hb⟩
        replace HXA := Lib.hid ((hb.block _ (lt_of_block HXA.out)).trans HXA.out)
        replace HBA := Lib.hid (below_to HBA.out hb)
        replace HXV := Lib.hid ((HXV.out.same (.below (Nat.le_refl _) hb)).up hb.size)
        replace HM6 := Lib.hid ((HM6.out.same (.below (Nat.le_refl _) hb)).up hb.size)
        clear hb
        have HV7 : Hid (RoomV v8.heap.size v8 m6 r7 ms rs) := Lib.hid ⟨Nat.le_refl _, HM6.out, hr7⟩
        clear hr7 HM6
        go_wp2_with fail
        refine (HPA.out v8 HBA.out).mono ?_
        rintro e v9 ⟨⟨p8, rfl, hp8⟩, hb⟩
        replace HXA := Lib.hid ((hb.block _ (lt_of_block HXA.out)).trans HXA.out)
        replace HBA := Lib.hid (below_to HBA.out hb)
        replace HXV := Lib.hid ((HXV.out.same (.below (Nat.le_refl _) hb)).up hb.size)
        replace HV7 : Hid (RoomV _ _ _ _ _ _) := Lib.hid ⟨Nat.le_refl _, (HV7.out.below hb).m.up hb.size, (HV7.out.below hb).r.up hb.size⟩
        clear hb
        have HS8 := Lib.hid (own_segs (l := ss) hp8)
        clear hp8
        go_wp2_with fail
        refine (Stretch_fail v9.heap.size m6 r7 p8 ms rs ss v9 HK.out HV7.out HPO.out HS8.out HNE.out).mono ?_
        rintro e v10 ⟨rfl, hb⟩
        replace HXA := Lib.hid ((hb.block _ (lt_of_block HXA.out)).trans HXA.out)
        replace HBA := Lib.hid (below_to HBA.out hb)
        replace HXV := Lib.hid ((HXV.out.same (.below (Nat.le_refl _) hb)).up hb.size)
        replace HV7 : Hid (RoomV _ _ _ _ _ _) := Lib.hid ⟨Nat.le_refl _, (HV7.out.below hb).m.up hb.size, (HV7.out.below hb).r.up hb.size⟩
        replace HS8 := Lib.hid ((HS8.out.same (.below (Nat.le_refl _) hb)).up hb.size)
        clear hb
        clear HV7 HS8
        have c0 := cell_of_row v10 w.heap.size 0 _ _ _ HXA.out
        simp only [List.getElem?_toArray, List.getElem?_cons_zero] at c0
        have l0 := lt_of_block HXA.out
        go_wp2_with fail
        have hbx := box_below v10 (.cells #[.int .i64 0, .int .i64 0] 50)
        have hnx := heap_alloc_new v10 (.cells #[.int .i64 0, .int .i64 0] 50)
        replace HXA := Lib.hid ((hbx.block _ (lt_of_block HXA.out)).trans HXA.out)
        replace HBA := Lib.hid (below_to HBA.out hbx)
        replace HXV := Lib.hid ((HXV.out.same (.below (Nat.le_refl _) hbx)).up hbx.size)
        have BX := Lib.hid hnx
        clear hbx hnx
        generalize World.alloc v10 _ = v11 at *
        generalize v10.heap.size = bx at *
        refine (HMA.out v11 HBA.out).mono ?_
        rintro e v12 ⟨⟨m6, rfl, hm6⟩, hb⟩
        replace HXA := Lib.hid ((hb.block _ (lt_of_block HXA.out)).trans HXA.out)
        replace HBA := Lib.hid (below_to HBA.out hb)
        replace HXV := Lib.hid ((HXV.out.same (.below (Nat.le_refl _) hb)).up hb.size)
        replace BX := Lib.hid ((hb.block _ (lt_of_block BX.out)).trans BX.out)
        clear hb
        have HM6 := Lib.hid hm6
        clear hm6
        go_wp2_with fail
        clear c0 l0
        have hru := Runs_any v12.heap.size _ rs2 v12 (by have := HK2.out.len; omega) (fun r hr => by have := (HK2.out.rn r hr).len; omega) HXV.out (Nat.le_refl _)
        refine (hru).mono ?_
        rintro e v13 ⟨⟨r7, rfl, hr7⟩, hb⟩
        replace HXA := Lib.hid ((hb.block _ (lt_of_block HXA.out)).trans HXA.out)
        replace HBA := Lib.hid (below_to HBA.out hb)
        replace HXV := Lib.hid ((HXV.out.same (.below (Nat.le_refl _) hb)).up hb.size)
        replace BX := Lib.hid ((hb.block _ (lt_of_block BX.out)).trans BX.out)
        replace HM6 := Lib.hid ((HM6.out.same (.below (Nat.le_refl _) hb)).up hb.size)
        clear hb
        have HV7 : Hid (RoomV v13.heap.size v13 m6 r7 ms rs2) := Lib.hid ⟨Nat.le_refl _, HM6.out, hr7⟩
        clear hr7 hru HM6
        go_wp2_with fail
        refine (HPA.out v13 HBA.out).mono ?_
        rintro e v14 ⟨⟨p8, rfl, hp8⟩, hb⟩
        replace HXA := Lib.hid ((hb.block _ (lt_of_block HXA.out)).trans HXA.out)
        replace HBA := Lib.hid (below_to HBA.out hb)
        replace HXV := Lib.hid ((HXV.out.same (.below (Nat.le_refl _) hb)).up hb.size)
        replace BX := Lib.hid ((hb.block _ (lt_of_block BX.out)).trans BX.out)
        replace HV7 : Hid (RoomV _ _ _ _ _ _) := Lib.hid ⟨Nat.le_refl _, (HV7.out.below hb).m.up hb.size, (HV7.out.below hb).r.up hb.size⟩
        clear hb
        have HS8 := Lib.hid (own_segs (l := ss) hp8)
        clear hp8
        go_wp2_with fail
        refine (Stretch_fail v14.heap.size m6 r7 p8 ms rs2 ss v14 HK2.out HV7.out HPO.out HS8.out HNE2.out).mono ?_
        rintro e v15 ⟨rfl, hb⟩
        replace HXA := Lib.hid ((hb.block _ (lt_of_block HXA.out)).trans HXA.out)
        replace HBA := Lib.hid (below_to HBA.out hb)
        replace HXV := Lib.hid ((HXV.out.same (.below (Nat.le_refl _) hb)).up hb.size)
        replace BX := Lib.hid ((hb.block _ (lt_of_block BX.out)).trans BX.out)
        replace HV7 : Hid (RoomV _ _ _ _ _ _) := Lib.hid ⟨Nat.le_refl _, (HV7.out.below hb).m.up hb.size, (HV7.out.below hb).r.up hb.size⟩
        replace HS8 := Lib.hid ((HS8.out.same (.below (Nat.le_refl _) hb)).up hb.size)
        clear hb
        clear HV7 HS8
        have c0 := cell_of_row v15 w.heap.size 0 _ _ _ HXA.out
        simp only [List.getElem?_toArray, List.getElem?_cons_zero] at c0
        have l0 := lt_of_block HXA.out
        have z0 := cell_of_row v15 bx 0 _ _ _ BX.out
        have z1 := cell_of_row v15 bx 1 _ _ _ BX.out
        simp only [List.getElem?_toArray, List.getElem?_cons_zero, List.getElem?_cons_succ] at z0 z1
        have lz := lt_of_block BX.out
        have hq := fun w => neqr50 0 0 w
        go_wp2_with fail
        have hbx := box_below v15 (.cells #[.int .i64 0, .int .i64 0] 50)
        replace HXA := Lib.hid ((hbx.block _ (lt_of_block HXA.out)).trans HXA.out)
        replace HBA := Lib.hid (below_to HBA.out hbx)
        replace HXV := Lib.hid ((HXV.out.same (.below (Nat.le_refl _) hbx)).up hbx.size)
        replace BX := Lib.hid ((hbx.block _ (lt_of_block BX.out)).trans BX.out)
        clear hbx z0 z1 lz hq c0 l0
        generalize World.alloc v15 _ = v16 at *
        go_loopw [30] (fun i wr => ∃ (k : Nat), k ≤ 0 ∧ i = .int .i64 k ∧ Hid (Below v16.heap.size v16 wr)) (fun i _ => 0 - (intOf i).toNat)
        case atStart => exact ⟨0, Nat.zero_le _, rfl, Lib.hid (Below.refl _ _)⟩
        case round =>
          obtain ⟨k, hk, rfl, hbk⟩ := hrel
          obtain rfl : k = 0 := by omega
          replace HBA := Lib.hid (below_to HBA.out hbk.out)
          go_wp2_with fail
          refine (HA.out wr).mono ?_
          rintro e wf ⟨rfl, hb⟩
          have HBF := Lib.hid (below_to HBA.out hb)
          clear hb
          go_wp2
          go_ret
          exact ⟨rfl, HBF.out⟩
      · have HNE := Lib.hid hne
        have HNE2 : Hid (okL ms rs2 ≠ []) := Lib.hid (by rw [HOK.out]; exact hne)
        clear hne
        go_wp2_with fail
        refine (HMA.out u0 HBA.out).mono ?_
        rintro e v1 ⟨⟨m6, rfl, hm6⟩, hb⟩
        replace HXA := Lib.hid ((hb.block _ (lt_of_block HXA.out)).trans HXA.out)
        replace HBA := Lib.hid (below_to HBA.out hb)
        replace HXV := Lib.hid ((HXV.out.same (.below (Nat.le_refl _) hb)).up hb.size)
        clear hb
        have HM6 := Lib.hid hm6
        clear hm6
        go_wp2_with fail
        clear c0 l0
        refine (HRU.out v1 HBA.out).mono ?_
        rintro e v2 ⟨⟨r7, rfl, hr7⟩, hb⟩
        replace HXA := Lib.hid ((hb.block _ (lt_of_block HXA.out)).trans HXA.out)
        replace HBA := Lib.hid (below_to HBA.out hb)
        replace HXV := Lib.hid ((HXV.out.same (.below (Nat.le_refl _) hb)).up hb.size)
        replace HM6 := Lib.hid ((HM6.out.same (.below (Nat.le_refl _) hb)).up hb.size)
        clear hb
        have HV7 : Hid (RoomV v2.heap.size v2 m6 r7 ms rs) := Lib.hid ⟨Nat.le_refl _, HM6.out, hr7⟩
        clear hr7 HM6
        go_wp2_with fail
        have hra := Rates_ok v2.heap.size m6 r7 ms rs v2 HK.out HV7.out HNE.out
        refine (hra).mono ?_
        rintro e v3 ⟨⟨va, rfl, hown⟩, hb⟩
        replace HXA := Lib.hid ((hb.block _ (lt_of_block HXA.out)).trans HXA.out)
        replace HBA := Lib.hid (below_to HBA.out hb)
        replace HXV := Lib.hid ((HXV.out.same (.below (Nat.le_refl _) hb)).up hb.size)
        replace HV7 : Hid (RoomV _ _ _ _ _ _) := Lib.hid ⟨Nat.le_refl _, (HV7.out.below hb).m.up hb.size, (HV7.out.below hb).r.up hb.size⟩
        clear hb
        have RA := Lib.hid (own_rgs hown)
        clear hown hra
        clear HV7
        have c0 := cell_of_row v3 w.heap.size 0 _ _ _ HXA.out
        simp only [List.getElem?_toArray, List.getElem?_cons_zero] at c0
        have l0 := lt_of_block HXA.out
        go_wp2_with fail
        refine (HMA.out v3 HBA.out).mono ?_
        rintro e v4 ⟨⟨m6, rfl, hm6⟩, hb⟩
        replace HXA := Lib.hid ((hb.block _ (lt_of_block HXA.out)).trans HXA.out)
        replace HBA := Lib.hid (below_to HBA.out hb)
        replace HXV := Lib.hid ((HXV.out.same (.below (Nat.le_refl _) hb)).up hb.size)
        replace RA := Lib.hid ((RA.out.same (.below (Nat.le_refl _) hb)).up hb.size)
        clear hb
        have HM6 := Lib.hid hm6
        clear hm6
        go_wp2_with fail
        clear c0 l0
        have hru := Runs_any v4.heap.size _ rs2 v4 (by have := HK2.out.len; omega) (fun r hr => by have := (HK2.out.rn r hr).len; omega) HXV.out (Nat.le_refl _)
        refine (hru).mono ?_
        rintro e v5 ⟨⟨r7, rfl, hr7⟩, hb⟩
        replace HXA := Lib.hid ((hb.block _ (lt_of_block HXA.out)).trans HXA.out)
        replace HBA := Lib.hid (below_to HBA.out hb)
        replace HXV := Lib.hid ((HXV.out.same (.below (Nat.le_refl _) hb)).up hb.size)
        replace RA := Lib.hid ((RA.out.same (.below (Nat.le_refl _) hb)).up hb.size)
        replace HM6 := Lib.hid ((HM6.out.same (.below (Nat.le_refl _) hb)).up hb.size)
        clear hb
        have HV7 : Hid (RoomV v5.heap.size v5 m6 r7 ms rs2) := Lib.hid ⟨Nat.le_refl _, HM6.out, hr7⟩
        clear hr7 hru HM6
        go_wp2_with fail
        have hra := Rates_ok v5.heap.size m6 r7 ms rs2 v5 HK2.out HV7.out HNE2.out
        rw [HOK.out] at hra
        refine (hra).mono ?_
        rintro e v6 ⟨⟨vb, rfl, hown⟩, hb⟩
        replace HXA := Lib.hid ((hb.block _ (lt_of_block HXA.out)).trans HXA.out)
        replace HBA := Lib.hid (below_to HBA.out hb)
        replace HXV := Lib.hid ((HXV.out.same (.below (Nat.le_refl _) hb)).up hb.size)
        replace RA := Lib.hid ((RA.out.same (.below (Nat.le_refl _) hb)).up hb.size)
        replace HV7 : Hid (RoomV _ _ _ _ _ _) := Lib.hid ⟨Nat.le_refl _, (HV7.out.below hb).m.up hb.size, (HV7.out.below hb).r.up hb.size⟩
        clear hb
        have RB := Lib.hid (own_rgs hown)
        clear hown hra
        clear HV7
        have c0 := cell_of_row v6 w.heap.size 0 _ _ _ HXA.out
        simp only [List.getElem?_toArray, List.getElem?_cons_zero] at c0
        have l0 := lt_of_block HXA.out
        go_wp2_with fail
        refine (HMA.out v6 HBA.out).mono ?_
        rintro e v7 ⟨⟨m6, rfl, hm6⟩, hb⟩
        replace HXA := Lib.hid ((hb.block _ (lt_of_block HXA.out)).trans HXA.out)
        replace HBA := Lib.hid (below_to HBA.out hb)
        replace HXV := Lib.hid ((HXV.out.same (.below (Nat.le_refl _) hb)).up hb.size)
        replace RA := Lib.hid ((RA.out.same (.below (Nat.le_refl _) hb)).up hb.size)
        replace RB := Lib.hid ((RB.out.same (.below (Nat.le_refl _) hb)).up hb.size)
        clear hb
        have HM6 := Lib.hid hm6
        clear hm6
        go_wp2_with fail
        clear c0 l0
        refine (HRU.out v7 HBA.out).mono ?_
        rintro e v8 ⟨⟨r7, rfl, hr7⟩, hb⟩
        replace HXA := Lib.hid ((hb.block _ (lt_of_block HXA.out)).trans HXA.out)
        replace HBA := Lib.hid (below_to HBA.out hb)
        replace HXV := Lib.hid ((HXV.out.same (.below (Nat.le_refl _) hb)).up hb.size)
        replace RA := Lib.hid ((RA.out.same (.below (Nat.le_refl _) hb)).up hb.size)
        replace RB := Lib.hid ((RB.out.same (.below (Nat.le_refl _) hb)).up hb.size)
        replace HM6 := Lib.hid ((HM6.out.same (.below (Nat.le_refl _) hb)).up hb.size)
        clear hb
        have HV7 : Hid (RoomV v8.heap.size v8 m6 r7 ms rs) := Lib.hid ⟨Nat.le_refl _, HM6.out, hr7⟩
        clear hr7 HM6
        go_wp2_with fail
        refine (HPA.out v8 HBA.out).mono ?_
        rintro e v9 ⟨⟨p8, rfl, hp8⟩, hb⟩
        replace HXA := Lib.hid ((hb.block _ (lt_of_block HXA.out)).trans HXA.out)
        replace HBA := Lib.hid (below_to HBA.out hb)
        replace HXV := Lib.hid ((HXV.out.same (.below (Nat.le_refl _) hb)).up hb.size)
        replace RA := Lib.hid ((RA.out.same (.below (Nat.le_refl _) hb)).up hb.size)
        replace RB := Lib.hid ((RB.out.same (.below (Nat.le_refl _) hb)).up hb.size)
        replace HV7 : Hid (RoomV _ _ _ _ _ _) := Lib.hid ⟨Nat.le_refl _, (HV7.out.below hb).m.up hb.size, (HV7.out.below hb).r.up hb.size⟩
        clear hb
        have HS8 := Lib.hid (own_segs (l := ss) hp8)
        clear hp8
        go_wp2_with fail
        have hst := Stretch_ok v9.heap.size m6 r7 p8 ms rs ss v9 HK.out HV7.out HPO.out HS8.out HNE.out
        obtain ⟨x0, E0L⟩ : ∃ x, Hid ((stretchL (okL ms rs) ss).lo = x) := ⟨_, Lib.hid rfl⟩
        obtain ⟨y0, E0H⟩ : ∃ x, Hid ((stretchL (okL ms rs) ss).hi = x) := ⟨_, Lib.hid rfl⟩
        rw [E0L.out, E0H.out] at hst
        refine (hst).mono ?_
        rintro e v10 ⟨rfl, hb⟩
        replace HXA := Lib.hid ((hb.block _ (lt_of_block HXA.out)).trans HXA.out)
        replace HBA := Lib.hid (below_to HBA.out hb)
        replace HXV := Lib.hid ((HXV.out.same (.below (Nat.le_refl _) hb)).up hb.size)
        replace RA := Lib.hid ((RA.out.same (.below (Nat.le_refl _) hb)).up hb.size)
        replace RB := Lib.hid ((RB.out.same (.below (Nat.le_refl _) hb)).up hb.size)
        replace HV7 : Hid (RoomV _ _ _ _ _ _) := Lib.hid ⟨Nat.le_refl _, (HV7.out.below hb).m.up hb.size, (HV7.out.below hb).r.up hb.size⟩
        replace HS8 := Lib.hid ((HS8.out.same (.below (Nat.le_refl _) hb)).up hb.size)
        clear hb
        clear hst
        clear HV7 HS8
        have c0 := cell_of_row v10 w.heap.size 0 _ _ _ HXA.out
        simp only [List.getElem?_toArray, List.getElem?_cons_zero] at c0
        have l0 := lt_of_block HXA.out
        go_wp2_with fail
        have hbx := box_below v10 (.cells #[.int .i64 x0, .int .i64 y0] 50)
        have hnx := heap_alloc_new v10 (.cells #[.int .i64 x0, .int .i64 y0] 50)
        replace HXA := Lib.hid ((hbx.block _ (lt_of_block HXA.out)).trans HXA.out)
        replace HBA := Lib.hid (below_to HBA.out hbx)
        replace HXV := Lib.hid ((HXV.out.same (.below (Nat.le_refl _) hbx)).up hbx.size)
        replace RA := Lib.hid ((RA.out.same (.below (Nat.le_refl _) hbx)).up hbx.size)
        replace RB := Lib.hid ((RB.out.same (.below (Nat.le_refl _) hbx)).up hbx.size)
        have BX := Lib.hid hnx
        clear hbx hnx
        generalize World.alloc v10 _ = v11 at *
        generalize v10.heap.size = bx at *
        refine (HMA.out v11 HBA.out).mono ?_
        rintro e v12 ⟨⟨m6, rfl, hm6⟩, hb⟩
        replace HXA := Lib.hid ((hb.block _ (lt_of_block HXA.out)).trans HXA.out)
        replace HBA := Lib.hid (below_to HBA.out hb)
        replace HXV := Lib.hid ((HXV.out.same (.below (Nat.le_refl _) hb)).up hb.size)
        replace RA := Lib.hid ((RA.out.same (.below (Nat.le_refl _) hb)).up hb.size)
        replace RB := Lib.hid ((RB.out.same (.below (Nat.le_refl _) hb)).up hb.size)
        replace BX := Lib.hid ((hb.block _ (lt_of_block BX.out)).trans BX.out)
        clear hb
        have HM6 := Lib.hid hm6
        clear hm6
        go_wp2_with fail
        clear c0 l0
        have hru := Runs_any v12.heap.size _ rs2 v12 (by have := HK2.out.len; omega) (fun r hr => by have := (HK2.out.rn r hr).len; omega) HXV.out (Nat.le_refl _)
        refine (hru).mono ?_
        rintro e v13 ⟨⟨r7, rfl, hr7⟩, hb⟩
        replace HXA := Lib.hid ((hb.block _ (lt_of_block HXA.out)).trans HXA.out)
        replace HBA := Lib.hid (below_to HBA.out hb)
        replace HXV := Lib.hid ((HXV.out.same (.below (Nat.le_refl _) hb)).up hb.size)
        replace RA := Lib.hid ((RA.out.same (.below (Nat.le_refl _) hb)).up hb.size)
        replace RB := Lib.hid ((RB.out.same (.below (Nat.le_refl _) hb)).up hb.size)
        replace BX := Lib.hid ((hb.block _ (lt_of_block BX.out)).trans BX.out)
        replace HM6 := Lib.hid ((HM6.out.same (.below (Nat.le_refl _) hb)).up hb.size)
        clear hb
        have HV7 : Hid (RoomV v13.heap.size v13 m6 r7 ms rs2) := Lib.hid ⟨Nat.le_refl _, HM6.out, hr7⟩
        clear hr7 hru HM6
        go_wp2_with fail
        refine (HPA.out v13 HBA.out).mono ?_
        rintro e v14 ⟨⟨p8, rfl, hp8⟩, hb⟩
        replace HXA := Lib.hid ((hb.block _ (lt_of_block HXA.out)).trans HXA.out)
        replace HBA := Lib.hid (below_to HBA.out hb)
        replace HXV := Lib.hid ((HXV.out.same (.below (Nat.le_refl _) hb)).up hb.size)
        replace RA := Lib.hid ((RA.out.same (.below (Nat.le_refl _) hb)).up hb.size)
        replace RB := Lib.hid ((RB.out.same (.below (Nat.le_refl _) hb)).up hb.size)
        replace BX := Lib.hid ((hb.block _ (lt_of_block BX.out)).trans BX.out)
        replace HV7 : Hid (RoomV _ _ _ _ _ _) := Lib.hid ⟨Nat.le_refl _, (HV7.out.below hb).m.up hb.size, (HV7.out.below hb).r.up hb.size⟩
        clear hb
        have HS8 := Lib.hid (own_segs (l := ss) hp8)
        clear hp8
        go_wp2_with fail
        have hst := Stretch_ok v14.heap.size m6 r7 p8 ms rs2 ss v14 HK2.out HV7.out HPO.out HS8.out HNE2.out
        rw [HOK.out, E0L.out, E0H.out] at hst
        refine (hst).mono ?_
        rintro e v15 ⟨rfl, hb⟩
        replace HXA := Lib.hid ((hb.block _ (lt_of_block HXA.out)).trans HXA.out)
        replace HBA := Lib.hid (below_to HBA.out hb)
        replace HXV := Lib.hid ((HXV.out.same (.below (Nat.le_refl _) hb)).up hb.size)
        replace RA := Lib.hid ((RA.out.same (.below (Nat.le_refl _) hb)).up hb.size)
        replace RB := Lib.hid ((RB.out.same (.below (Nat.le_refl _) hb)).up hb.size)
        replace BX := Lib.hid ((hb.block _ (lt_of_block BX.out)).trans BX.out)
        replace HV7 : Hid (RoomV _ _ _ _ _ _) := Lib.hid ⟨Nat.le_refl _, (HV7.out.below hb).m.up hb.size, (HV7.out.below hb).r.up hb.size⟩
        replace HS8 := Lib.hid ((HS8.out.same (.below (Nat.le_refl _) hb)).up hb.size)
        clear hb
        clear hst
        clear HV7 HS8
        have c0 := cell_of_row v15 w.heap.size 0 _ _ _ HXA.out
        simp only [List.getElem?_toArray, List.getElem?_cons_zero] at c0
        have l0 := lt_of_block HXA.out
        have z0 := cell_of_row v15 bx 0 _ _ _ BX.out
        have z1 := cell_of_row v15 bx 1 _ _ _ BX.out
        simp only [List.getElem?_toArray, List.getElem?_cons_zero, List.getElem?_cons_succ] at z0 z1
        have lz := lt_of_block BX.out
        have hq := fun w => neqr50 x0 y0 w
        obtain ⟨aa, ca, rfl, hra⟩ := RA.out
        obtain ⟨ab, cb, rfl, hrb⟩ := RB.out
        have HRA := Lib.hid hra
        have HRB := Lib.hid hrb
        have hrl3 : (rangesL (okL ms rs) ms.length).length ≤ 3 := by simp [rangesL]; omega
        have HR3 := Lib.hid hrl3
        clear hra hrb hrl3 RA RB
        generalize rangesL (okL ms rs) ms.length = RL at *
        go_wp2_with fail
        have hbx := box_below v15 (.cells #[.int .i64 x0, .int .i64 y0] 50)
        have HR3' := HR3.out
        replace HRA : Hid (∀ w', Below (World.alloc v15 (.cells #[.int .i64 x0, .int .i64 y0] 50)).heap.size (World.alloc v15 (.cells #[.int .i64 x0, .int .i64 y0] 50)) w' → RgsV v15.heap.size w' (.slice aa RL.length ca) RL) := Lib.hid fun w' h => (show RgsV v15.heap.size v15 (.slice aa RL.length ca) RL from ⟨aa, ca, rfl, HRA.out⟩).same (.below (Nat.le_refl _) (hbx.trans (h.mono (by simp))))
        replace HRB : Hid (∀ w', Below (World.alloc v15 (.cells #[.int .i64 x0, .int .i64 y0] 50)).heap.size (World.alloc v15 (.cells #[.int .i64 x0, .int .i64 y0] 50)) w' → RgsV v15.heap.size w' (.slice ab RL.length cb) RL) := Lib.hid fun w' h => (show RgsV v15.heap.size v15 (.slice ab RL.length cb) RL from ⟨ab, cb, rfl, HRB.out⟩).same (.below (Nat.le_refl _) (hbx.trans (h.mono (by simp))))
        have HRZ : Hid (v15.heap.size ≤ (World.alloc v15 (.cells #[.int .i64 x0, .int .i64 y0] 50)).heap.size) := Lib.hid hbx.size
        replace HXA := Lib.hid ((hbx.block _ (lt_of_block HXA.out)).trans HXA.out)
        replace HBA := Lib.hid (below_to HBA.out hbx)
        replace HXV := Lib.hid ((HXV.out.same (.below (Nat.le_refl _) hbx)).up hbx.size)
        replace BX := Lib.hid ((hbx.block _ (lt_of_block BX.out)).trans BX.out)
        clear hbx z0 z1 lz hq c0 l0
        generalize World.alloc v15 _ = v16 at *
        go_loopw [30] (fun i wr => ∃ (k : Nat), k ≤ RL.length ∧ i = .int .i64 k ∧ Hid (Below v16.heap.size v16 wr)) (fun i _ => RL.length - (intOf i).toNat)
        case atStart => exact ⟨0, Nat.zero_le _, rfl, Lib.hid (Below.refl _ _)⟩
        case round =>
          obtain ⟨k, hk, rfl, hbk⟩ := hrel
          by_cases hkl : k < RL.length
          · have hkn : (k : Int) < RL.length := by omega
            have hwk : IntKind.i64.wrap ((k : Int) + 1) = (k : Int) + 1 := IntWalk.i64_in _ (by omega)
            obtain ⟨_, _, ep, hp⟩ := HRA.out wr hbk.out
            cases ep
            obtain ⟨bp, op, rfl, lp, cp⟩ := hp (by omega)
            obtain ⟨p0, p1⟩ := cp k hkl
            have tp : bp < wr.heap.size := by have := hbk.out.size; have := HRZ.out; omega
            clear cp hp
            obtain ⟨_, _, eq, hq⟩ := HRB.out wr hbk.out
            cases eq
            obtain ⟨bq, oq, rfl, lq, cq⟩ := hq (by omega)
            obtain ⟨q0, q1⟩ := cq k hkl
            have tq : bq < wr.heap.size := by have := hbk.out.size; have := HRZ.out; omega
            clear cq hq
            generalize (rg RL k).lo = klo at *
            generalize (rg RL k).hi = khi at *
            go_wp2_with fail
            have rp0 := cell_regrown p0
            have rp1 := cell_regrown p1
            have rq0 := cell_regrown q0
            have rq1 := cell_regrown q1
            have hq := fun w => neqr50 klo khi w
            clear p0 p1 q0 q1
            refine wp_region_quiet_below (by kernel_rfl) (by kernel_rfl) ?_
            repeat (quiet_step (fail))
            refine wpQuiet_nil ?_
            intro _ hw'
            obtain ⟨⟨dq, osq⟩, hw''⟩ := hw'
            subst hw''
            have hbr := Lib.hid (below_to hbk.out (below_regrown wr dq osq))
            clear rp0 rp1 rq0 rq1 hq hbk
            go_wp2
            go_roundw
            case rel => exact ⟨k + 1, by omega, by simp, hbr⟩
            case measure => simp [intOf]; omega
          · obtain rfl : k = RL.length := by omega
            replace HBA := Lib.hid (below_to HBA.out hbk.out)
            go_wp2_with fail
            refine (HA.out wr).mono ?_
            rintro e wf ⟨rfl, hb⟩
            have HBF := Lib.hid (below_to HBA.out hb)
            clear hb
            go_wp2
            go_ret
            exact ⟨rfl, HBF.out⟩
  | inr hl0 =>
    obtain ⟨i, hi, hin⟩ : ∃ i : Nat, c % ((rn rs j).ss.length : Int) = i ∧ i < (rn rs j).ss.length := by
      have h1 := Int.emod_nonneg c (show ((rn rs j).ss.length : Int) ≠ 0 by omega)
      have h2 := Int.emod_lt_of_pos c (show (0 : Int) < (rn rs j).ss.length by omega)
      exact ⟨(c % (rn rs j).ss.length).toNat, by omega, by omega⟩
    have hti : c.tmod ((rn rs j).ss.length : Int) = i := by rw [Int.tmod_eq_emod_of_nonneg HC8.out.1]; exact hi
    have hii : (i : Int) < (rn rs j).ss.length := by omega
    have hlp : (0 : Int) < (rn rs j).ss.length := by omega
    obtain ⟨bl, offl, rfl, hbl, hcells⟩ := HLC.out hl0
    obtain ⟨s0, s1, s2⟩ := hcells i hin
    have hblw : bl < w4.heap.size := by have := HB4.out.size; omega
    have HSO := Lib.hid ((HK.out.rn _ (rn_mem hjn)).sg _ (sg_mem hin))
    have HCUT := Lib.hid (cut_small (y := y) HSO.out.lo HSO.out.le HSO.out.hi HY.out.1)
    have hlni : ((rn rs j).ss.length : Int) ≠ 0 := by omega
    clear hcells hi
    generalize hgb : (sg (rn rs j).ss i).b = sb at *
    generalize hgl : (sg (rn rs j).ss i).h.lo = slo at *
    generalize hgh : (sg (rn rs j).ss i).h.hi = shi at *
    go_wp2_with (first
      | (refine wpList_append_run (v := .slice (some ⟨g1, 0, none⟩) rs.length cx1) (W' := w4) (y := .slice (some ⟨w1.heap.size, 0, none⟩) 0 0) (z := .slice (some ⟨br, offr, none⟩) rs.length capr) rfl (.tmp 42) (.tmp 43) 25 25 25 rfl rfl rfl rfl HRUN.out ?_)
      | fail)
    obtain ⟨y0, y1⟩ := box2 w4 (.cells #[.int .i64 bd, .int .i64 0, .int .i64 0] 84) (.cells #[.int .i64 slo, .int .i64 shi] 60)
    have hbb := below2 w4 (.cells #[.int .i64 bd, .int .i64 0, .int .i64 0] 84) (.cells #[.int .i64 slo, .int .i64 shi] 60)
    replace HROW := Lib.hid (HROW.out.below hbb)
    replace HX4 := Lib.hid ((hbb.block _ (lt_of_block HX4.out)).trans HX4.out)
    replace HB4 := Lib.hid (below_to HB4.out hbb)
    have s0' := (hbb.cell (p := ⟨bl, offl + i * 3, none⟩) hblw).trans s0
    have hgS : g1 < w4.heap.size := lg
    clear s0 s1 s2 q0 c0 l0 lg hbb HRUN
    generalize World.alloc (World.alloc w4 _) _ = A0 at *
    generalize w4.heap.size = bS at *
    obtain ⟨C, hC⟩ : ∃ C, cutLo (sg (rn rs j).ss i).h y = C := ⟨_, rfl⟩
    obtain ⟨D, hD⟩ : ∃ D, y % (shi - slo + 1) = D := ⟨_, rfl⟩
    have hE : cutHi (sg (rn rs j).ss i).h y = C + D := by unfold cutHi; rw [hC, hgl, hgh, hD]
    have hso1 := HSO.out.lo
    have hso2 := HSO.out.le
    have hso3 := HSO.out.hi
    obtain ⟨hcu1, hcu2, hcu3, hcu4⟩ := HCUT.out
    rw [hgl] at hso1 hso2
    rw [hgh] at hso2 hso3
    rw [hC] at hcu1 hcu2 hcu3
    rw [hE] at hcu3 hcu4
    have hn1 : slo + 1 ≠ 0 := by omega
    have hn2 : shi - slo + 1 ≠ 0 := by omega
    have ht1 : y.tmod (slo + 1) = C := by rw [Int.tmod_eq_emod_of_nonneg HY.out.1, ← hC, ← hgl]; rfl
    have ht2 : y.tmod (shi - slo + 1) = D := by rw [Int.tmod_eq_emod_of_nonneg HY.out.1]; exact hD
    have hw1 : IntKind.i64.wrap (slo + 1) = slo + 1 := IntWalk.i64_in _ (by omega)
    have hw2 : IntKind.i64.wrap (shi - slo) = shi - slo := IntWalk.i64_in _ (by omega)
    have hw3 : IntKind.i64.wrap (shi - slo + 1) = shi - slo + 1 := IntWalk.i64_in _ (by omega)
    have hw4 : IntKind.i64.wrap (C + D) = C + D := IntWalk.i64_in _ (by omega)
    have hw5 : IntKind.i64.wrap (slo - C) = slo - C := IntWalk.i64_in _ (by omega)
    have hw6 : IntKind.i64.wrap (shi - (C + D)) = shi - (C + D) := IntWalk.i64_in _ (by omega)
    have hwC : IntKind.i64.wrap C = C := IntWalk.i64_in _ (by omega)
    have hwD : IntKind.i64.wrap D = D := IntWalk.i64_in _ (by omega)
    have HGB := Lib.hid hgb
    have HGL := Lib.hid hgl
    have HGH := Lib.hid hgh
    have HCC := Lib.hid hC
    have HEE := Lib.hid hE
    clear hC hD hE hgb hgl hgh hso1 hso2 hso3 hcu1 hcu2 hcu3 hcu4 HCUT HSO
    have Y0 := Lib.hid y0
    have Y1 := Lib.hid y1
    have u0 := cell_of_row A0 (bS + 1) 0 _ _ _ y1
    have u1 := cell_of_row A0 (bS + 1) 1 _ _ _ y1
    simp only [List.getElem?_toArray, List.getElem?_cons_zero, List.getElem?_cons_succ] at u0 u1
    have lS := lt_of_block y0
    have lS1 := lt_of_block y1
    clear y0 y1
    go_still_tail 13, (by kernel_rfl)
    change wpList _ _ _ _ _ A0.drew
    have hbd := below_drawn A0
    replace HROW := Lib.hid (HROW.out.below hbd)
    replace HX4 := Lib.hid ((hbd.block _ (lt_of_block HX4.out)).trans HX4.out)
    replace HB4 := Lib.hid (below_to HB4.out hbd)
    replace Y0 := Lib.hid ((hbd.block _ (lt_of_block Y0.out)).trans Y0.out)
    replace Y1 := Lib.hid ((hbd.block _ (lt_of_block Y1.out)).trans Y1.out)
    have s0 := (hbd.cell (p := ⟨bl, offl + i * 3, none⟩) (by show bl < A0.heap.size; omega)).trans s0'
    change Hid (RowR _ _ _ _ A0.drew) at HROW
    change Hid (A0.drew.heap[_]? = _) at HX4
    change Hid (Below _ _ A0.drew) at HB4
    change Hid (A0.drew.heap[_]? = _) at Y0
    change Hid (A0.drew.heap[_]? = _) at Y1
    change A0.drew.cell? _ = _ at s0
    clear hbd u0 u1 lS lS1 s0'
    generalize A0.drew = A1 at *
    clear A0
    have fr0 := frozen_of_row A1 bS 0 _ _ Y0.out
    have fr1 := frozen_of_row A1 bS 1 _ _ Y0.out
    have fr2 := frozen_of_row A1 bS 2 _ _ Y0.out
    have k0 := cell_of_row A1 bS 0 _ _ _ Y0.out
    have k1 := cell_of_row A1 bS 1 _ _ _ Y0.out
    have k2 := cell_of_row A1 bS 2 _ _ _ Y0.out
    simp only [List.getElem?_toArray, List.getElem?_cons_zero, List.getElem?_cons_succ] at k0 k1 k2
    have lS := lt_of_block Y0.out
    have lS1 := lt_of_block Y1.out
    go_wp2
    have hz0 := put3 A1 bS _ _ _ (.int .i64 sb) (.int .i64 C) (.int .i64 0) _ Y0.out
    have ho := fun k (hk : k ≠ bS) => put3_other A1 bS k (.int .i64 sb) (.int .i64 C) (.int .i64 0) hk
    have hwS : w.heap.size ≤ bS := by omega
    replace HB4 := Lib.hid (put3_below (.int .i64 sb) (.int .i64 C) (.int .i64 0) HB4.out hwS)
    replace HROW := Lib.hid (HROW.out.other hwS (by omega) (by simp) ho)
    replace HX4 := Lib.hid ((ho _ (by omega)).trans HX4.out)
    replace Y1 := Lib.hid ((ho _ (by omega)).trans Y1.out)
    replace Y0 := Lib.hid hz0
    have s0' := (World.cell?_of_block (ho bl (by omega))).trans s0
    clear hz0 ho k0 k1 k2 fr0 fr1 fr2 lS lS1 s0
    generalize World.setCell _ _ _ = A2 at *
    clear A1
    have k1 := cell_of_row A2 bS 1 _ _ _ Y0.out
    have u0 := cell_of_row A2 (bS + 1) 0 _ _ _ Y1.out
    have u1 := cell_of_row A2 (bS + 1) 1 _ _ _ Y1.out
    simp only [List.getElem?_toArray, List.getElem?_cons_zero, List.getElem?_cons_succ] at k1 u0 u1
    have lS := lt_of_block Y0.out
    have lS1 := lt_of_block Y1.out
    go_still_tail 15, (by kernel_rfl)
    change wpList _ _ _ _ _ A2.drew
    have hbd := below_drawn A2
    replace HROW := Lib.hid (HROW.out.below hbd)
    replace HX4 := Lib.hid ((hbd.block _ (lt_of_block HX4.out)).trans HX4.out)
    replace HB4 := Lib.hid (below_to HB4.out hbd)
    replace Y0 := Lib.hid ((hbd.block _ (lt_of_block Y0.out)).trans Y0.out)
    replace Y1 := Lib.hid ((hbd.block _ (lt_of_block Y1.out)).trans Y1.out)
    have s0 := (hbd.cell (p := ⟨bl, offl + i * 3, none⟩) (by show bl < A2.heap.size; omega)).trans s0'
    change Hid (RowR _ _ _ _ A2.drew) at HROW
    change Hid (A2.drew.heap[_]? = _) at HX4
    change Hid (Below _ _ A2.drew) at HB4
    change Hid (A2.drew.heap[_]? = _) at Y0
    change Hid (A2.drew.heap[_]? = _) at Y1
    change A2.drew.cell? _ = _ at s0
    clear hbd u0 u1 k1 lS lS1 s0'
    generalize A2.drew = A3 at *
    clear A2
    have fr2 := frozen_of_row A3 bS 2 _ _ Y0.out
    have k2 := cell_of_row A3 bS 2 _ _ _ Y0.out
    simp only [List.getElem?_toArray, List.getElem?_cons_zero, List.getElem?_cons_succ] at k2
    have lS := lt_of_block Y0.out
    go_wp2
    have hz0 := heap_setCell_same A3 bS 2 _ _ (.int .i64 (C + D)) Y0.out
    have ho := fun k (hk : k ≠ bS) => heap_setCell_other A3 ⟨bS, 2, none⟩ k (.int .i64 (C + D)) hk
    replace HB4 := Lib.hid (HB4.out.setCell (p := ⟨bS, 2, none⟩) hwS (.int .i64 (C + D)))
    replace HROW := Lib.hid (HROW.out.other hwS (by omega) (by simp) ho)
    replace HX4 := Lib.hid ((ho _ (by omega)).trans HX4.out)
    replace Y1 := Lib.hid ((ho _ (by omega)).trans Y1.out)
    replace Y0 : Hid (_ = some (Obj.cells #[.int .i64 sb, .int .i64 C, .int .i64 (C + D)] 84 (0, 0))) := Lib.hid hz0
    have HS0 := Lib.hid ((World.cell?_of_block (ho bl (by omega))).trans s0)
    clear hz0 ho k2 fr2 lS s0
    generalize World.setCell _ _ _ = A4 at *
    clear A3
    have HC : Hid (∀ w', Below A4.heap.size A4 w' → w'.cell? ⟨bl, offl + i * 3, none⟩ = some (.int .i64 sb) ∧ (w'.cell? ⟨bS + 1, 0, none⟩ = some (.int .i64 slo) ∧ w'.cell? ⟨bS + 1, 1, none⟩ = some (.int .i64 shi)) ∧ w'.cell? ⟨bS, 1, none⟩ = some (.int .i64 C) ∧ w'.cell? ⟨bS, 2, none⟩ = some (.int .i64 (C + D)) ∧ bl < w'.heap.size ∧ bS < w'.heap.size ∧ bS + 1 < w'.heap.size) := Lib.hid fun w' h => by
      have l0 := lt_of_block Y0.out
      have l1 := lt_of_block Y1.out
      have z0 := (h.block _ l0).trans Y0.out
      have z1 := (h.block _ l1).trans Y1.out
      have := h.size
      exact ⟨(h.cell (p := ⟨bl, offl + i * 3, none⟩) (by show bl < A4.heap.size; omega)).trans HS0.out, ⟨cell_of_row w' _ 0 _ _ _ z1, cell_of_row w' _ 1 _ _ _ z1⟩, cell_of_row w' _ 1 _ _ _ z0, cell_of_row w' _ 2 _ _ _ z0, by omega, by omega, by omega⟩
    refine wp_region_noPanic ?_
    refine wp_region_acts (fun w' => Below A4.heap.size A4 w') (fun _ _ h hb => grow_to h hb) (below_drawn _) (by kernel_rfl) (fun _ _ _ _ _ h => h)
      [.take 0, .take 1, .take 2, .take 3, .take 4, .take 5, .take 6, .take 7, .take 8, .take 9, .take 10, .take 11, .take 12, .take 13, .take 14, .take 15, .take 16, .take 17, .take 18, .float 19, .join] [20] (by kernel_rfl) ?_
    iterate 19
      (refine GWalk.takes rfl rfl ?_; apply Exists.intro; refine ⟨fun w' hS => ?_, ?_⟩; (obtain ⟨d0, ⟨d1, d2⟩, d3, d4, d5, d6, d7⟩ := HC.out w' hS; clear hS; go_simp; with_reducible rfl); simp only [List.getElem_toArray, List.getElem_cons_succ, List.getElem_cons_zero, Act.put, List.setIfInBounds_toArray, List.set_cons_zero, List.set_cons_succ])
    refine GWalk.floats (.cells #[.int .i64 0, .int .i64 0, .int .i64 0] 84) (fun b => .pointer (some ⟨b, 0, none⟩)) rfl rfl rfl (fun w1 => ?_) ?_
    · kernel_rfl
    simp only [List.nil_append, List.cons_append]
    refine GWalk.joins fun v1 bR hv1 hr1 hr2 hr3 hr4 => ?_
    simp only [List.getElem_toArray, List.getElem_cons_succ, List.getElem_cons_zero, Act.put, List.setIfInBounds_toArray, List.set_cons_zero, List.set_cons_succ]
    refine GWalk.fin fun v2 hv2 hSv => ?_
    have hr9 := (hv2.block _ hr2).trans hr4
    have s84 : (Try.prog.info? 84).map (·.size) = some 3 := by kernel_rfl
    have n1 := set_whole bR 84 v2 #[.int .i64 0, .int .i64 0, .int .i64 0] #[.int .i64 sb, .int .i64 (slo - C), .int .i64 (shi - (C + D))] rfl hr9
    have n2 : Below A4.heap.size A4 (v2.setCells bR 0 [.int .i64 sb, .int .i64 (slo - C), .int .i64 (shi - (C + D))]) := below_cells (b := bR) hr1 _ 0 v2 hSv
    refine Tail.skip rfl rfl (exec_store_row 84 (.tmp 19) (.tmp 121) rfl bR 0 #[.int .i64 sb, .int .i64 (slo - C), .int .i64 (shi - (C + D))] rfl rfl (there_block hr9 (Nat.le_refl _)) s84 (by simp [Value.oneCell'])) n2 (Tail.done (NoPanic.normal ?_))
    simp only [List.getElem_toArray, List.getElem_cons_succ, List.getElem_cons_zero, Act.put, List.setIfInBounds_toArray, List.set_cons_zero, List.set_cons_succ]
    have YR := Lib.hid n1
    replace HROW := Lib.hid (HROW.out.below n2)
    replace HX4 := Lib.hid ((n2.block _ (lt_of_block HX4.out)).trans HX4.out)
    replace HB4 := Lib.hid (below_to HB4.out n2)
    replace Y0 := Lib.hid ((n2.block _ (lt_of_block Y0.out)).trans Y0.out)
    change Hid ((World.setCells _ _ _ _).heap[_]? = _) at YR
    clear hr9 n1 n2 hSv hv2 hv1 hr2 hr3 hr4 HC HS0 Y1 hw1 hw2 hw3 hw4 hw5 hw6 hwC hwD ht1 ht2 hn1 hn2
    generalize World.setCells _ _ _ _ = A5 at *
    clear v2 v1
    clear hr1
    clear A4
    go_wp2_with fail
    have hn8 : (rn rs j).ss.length ≤ 8 := (HK.out.rn _ (rn_mem hjn)).len
    have hwi1 : IntKind.i64.wrap ((i : Int) + 1) = (i : Int) + 1 := IntWalk.i64_in _ (by omega)
    have HLN := Lib.hid HB4.out.size
    have HSV5 := Lib.hid (HRS.out A5 HB4.out)
    refine wp_region_noPanic ?_
    refine wp_region_acts (fun w' => Below A5.heap.size A5 w') (fun _ _ h hb => grow_to h hb) (below_drawn _) (by kernel_rfl) (fun _ _ _ _ _ h => h)
      [.take 1, .take 2, .take 3, .take 5, .take 8, .take 9, .take 10, .take 11, .float 6, .act 0, .act 4, .join, .act 7, .act 12] [13] (by kernel_rfl) ?_
    iterate 2
      (refine GWalk.takes rfl rfl ?_; apply Exists.intro; refine ⟨fun w' hS => ?_, ?_⟩; (clear hS; go_simp; with_reducible rfl); simp only [List.getElem_toArray, List.getElem_cons_succ, List.getElem_cons_zero, Act.put, List.setIfInBounds_toArray, List.set_cons_zero, List.set_cons_succ])
    refine GWalk.takes rfl rfl ⟨_, fun w' hS => exec_slice_hi (q := i) (.tmp 123) (.tmp 124) rfl rfl rfl (by simp) (by omega), ?_⟩
    simp only [List.getElem_toArray, List.getElem_cons_succ, List.getElem_cons_zero, Act.put, List.setIfInBounds_toArray, List.set_cons_zero, List.set_cons_succ]
    refine GWalk.takes rfl rfl ?_; apply Exists.intro; refine ⟨fun w' hS => ?_, ?_⟩
    · have z := (hS.block _ (lt_of_block YR.out)).trans YR.out
      have d0 := cell_of_row w' _ 0 _ _ _ z
      have d1 := cell_of_row w' _ 1 _ _ _ z
      have d2 := cell_of_row w' _ 2 _ _ _ z
      simp only [List.getElem?_toArray, List.getElem?_cons_zero, List.getElem?_cons_succ] at d0 d1 d2
      have d3 := lt_of_block z
      clear hS z
      go_simp
      with_reducible rfl
    simp only [List.getElem_toArray, List.getElem_cons_succ, List.getElem_cons_zero, Act.put, List.setIfInBounds_toArray, List.set_cons_zero, List.set_cons_succ]
    iterate 3
      (refine GWalk.takes rfl rfl ?_; apply Exists.intro; refine ⟨fun w' hS => ?_, ?_⟩; (clear hS; go_simp; with_reducible rfl); simp only [List.getElem_toArray, List.getElem_cons_succ, List.getElem_cons_zero, Act.put, List.setIfInBounds_toArray, List.set_cons_zero, List.set_cons_succ])
    refine GWalk.takes rfl rfl ⟨_, fun w' hS => exec_slice_lo (q := i + 1) (.tmp 130) (.tmp 132) rfl rfl rfl (by first | (simp; done) | (push_cast; exact hwi1)) (by omega), ?_⟩
    simp only [List.getElem_toArray, List.getElem_cons_succ, List.getElem_cons_zero, Act.put, List.setIfInBounds_toArray, List.set_cons_zero, List.set_cons_succ]
    refine GWalk.floats (.cells #[.int .i64 sb, .int .i64 (slo - C), .int .i64 (shi - (C + D))] 84) (fun b => .slice (some ⟨b, 0, none⟩) 1 1) rfl rfl rfl (fun w1 => exec_buildSlice 52 84 1 _ rfl el52.u #[.int .i64 sb, .int .i64 (slo - C), .int .i64 (shi - (C + D))] (by kernel_rfl)) ?_
    simp only [List.nil_append, List.cons_append]
    refine GWalk.acts rfl rfl fun e1 he1 hSe1 hOe1 => ?_
    have hA1 := grow_to (below_drawn A5) he1
    have hA2 := grow_to hA1 (box_below e1 (.cells #[] 84 (0, 0)))
    refine ⟨.slice (some ⟨e1.heap.size, 0, none⟩) 0 0, e1.alloc (.cells #[] 84 (0, 0)), Mine (fun _ => False) e1 _, by kernel_rfl, hA2, kept_alloc _ e1 _ hOe1, ?_⟩
    simp only [List.getElem_toArray, List.getElem_cons_succ, List.getElem_cons_zero, Act.put, List.setIfInBounds_toArray, List.set_cons_zero, List.set_cons_succ]
    have ho1 := act_empty 84 3 A5.heap.size e1 hA1.size
    have hm1 := mine_empty e1 (.cells #[] 84 (0, 0))
    clear hSe1 hOe1 he1 hA1
    generalize e1.alloc (.cells #[] 84 (0, 0)) = f1 at *
    refine GWalk.acts rfl rfl fun e2 he2 hSe2 hOe2 => ?_
    have hA3 := grow_to hA2 he2
    obtain ⟨hp1, hp2⟩ := part_hi (HSV5.out.same (.below HLN.out hA3)) i (by omega)
    obtain ⟨v2, f2, hr2, ho2, hb2, hk2, hm2, -⟩ := act_app el52 A5.heap.size 0 (.slice (some ⟨e1.heap.size, 0, none⟩) 0 0) [] (some ⟨bl, offl, none⟩) i capl (flatS (((rn rs j).ss).take i)) e2 (Mine (fun _ => False) e1 f1) 52 (by omega) (row_kept ho1 he2) hA3.size (by rw [flatS_len, List.length_take]; omega) hp1 hp2 (fun u hu => flatS_one hu) hm1 hOe2
    have hA4 := hA3.trans hb2
    refine ⟨v2, f2, _, exec_append (.tmp 122) (.tmp 125) rfl rfl rfl hr2, hA4, hk2, ?_⟩
    simp only [List.getElem_toArray, List.getElem_cons_succ, List.getElem_cons_zero, Act.put, List.setIfInBounds_toArray, List.set_cons_zero, List.set_cons_succ]
    clear hr2 hp1 hp2 hSe2 hOe2 he2 hA3 hA2 ho1 hb2 hk2 hm1
    refine GWalk.joins fun e3 bJ he3 hj1 hj2 hj3 hj4 => ?_
    simp only [List.getElem_toArray, List.getElem_cons_succ, List.getElem_cons_zero, Act.put, List.setIfInBounds_toArray, List.set_cons_zero, List.set_cons_succ]
    refine GWalk.acts rfl rfl fun e4 he4 hSe4 hOe4 => ?_
    have he34 := grow_to he3 he4
    have hA5 := grow_to hA4 he34
    have hj5 := (he4.block _ hj2).trans hj4
    obtain ⟨v3, f3, hr3, ho3, hb3, hk3, hm3, -⟩ := act_app el52 A5.heap.size _ v2 _ (some ⟨bJ, 0, none⟩) 1 1 [.int .i64 sb, .int .i64 (slo - C), .int .i64 (shi - (C + D))] e4 _ 52 (by omega) (row_kept ho2 he34) hA5.size rfl (fun h => by cases h) (fun _ => ⟨bJ, 0, rfl, fun j u hj => by rw [Nat.zero_add, cell_of_row e4 bJ j _ _ _ hj5]; simpa using hj⟩) (by simp [Value.oneCell']) hm2 hOe4
    have hA6 := hA5.trans hb3
    refine ⟨v3, f3, _, exec_append (.tmp 126) (.tmp 128) rfl rfl rfl hr3, hA6, hk3, ?_⟩
    simp only [List.getElem_toArray, List.getElem_cons_succ, List.getElem_cons_zero, Act.put, List.setIfInBounds_toArray, List.set_cons_zero, List.set_cons_succ]
    clear hr3 hSe4 hOe4 he34 he3 he4 hA4 hA5 hj1 hj2 hj3 hj4 hj5 ho2 hb3 hk3 hm2
    refine GWalk.acts rfl rfl fun e5 he5 hSe5 hOe5 => ?_
    have hA7 := grow_to hA6 he5
    obtain ⟨hp1, hp2⟩ := part_lo (HSV5.out.same (.below HLN.out hA7)) (i + 1) (by omega) (by omega)
    obtain ⟨v4, f4, hr4, ho4, hb4, hk4, hm4, -⟩ := act_app el52 A5.heap.size _ v3 _ (lowA (some ⟨bl, offl, none⟩) (i + 1) capl) ((rn rs j).ss.length - (i + 1)) (capl - (i + 1)) (flatS (((rn rs j).ss).drop (i + 1))) e5 _ 52 (by omega) (row_kept ho3 he5) hA7.size (by rw [flatS_len, List.length_drop]) hp1 hp2 (fun u hu => flatS_one hu) hm3 hOe5
    have hA8 := hA7.trans hb4
    refine ⟨v4, f4, _, exec_append (.tmp 129) (.tmp 133) rfl rfl rfl hr4, hA8, hk4, ?_⟩
    simp only [List.getElem_toArray, List.getElem_cons_succ, List.getElem_cons_zero, Act.put, List.setIfInBounds_toArray, List.set_cons_zero, List.set_cons_succ]
    rw [flat_join (((rn rs j).ss).take i) (((rn rs j).ss).drop (i + 1)) ⟨sb, ⟨(slo - C), (shi - (C + D))⟩⟩] at ho4
    clear hr4 hp1 hp2 hSe5 hOe5 hA6 hA7 ho3 hb4 hk4 hm4 hm3 he5
    refine GWalk.fin fun e6 he6 hSe6 => ?_
    have hA9 := grow_to hA8 he6
    have ho6 := row_kept ho4 he6
    clear hA8 ho4 he6
    obtain ⟨L1, HL1⟩ : ∃ L1, Hid (L1 = (rn rs j).ss.take i ++ [⟨sb, ⟨slo - C, shi - (C + D)⟩⟩] ++ (rn rs j).ss.drop (i + 1)) := ⟨_, Lib.hid rfl⟩
    rw [← HL1.out] at ho6
    have hL1n : L1.length = (rn rs j).ss.length := by
      rw [HL1.out]
      simp only [List.length_append, List.length_take, List.length_drop, List.length_cons, List.length_nil]
      omega
    have hLe : 0 + i + 1 + ((rn rs j).ss.length - (i + 1)) = L1.length := by omega
    rw [hLe] at ho6
    obtain ⟨la4, c4, rfl, hc4⟩ := own_capd ho6
    have HSV6 := Lib.hid (own_segs_any ho6)
    have HL1N := Lib.hid hL1n
    have hL8 : L1.length ≤ 8 := by omega
    have hiL : i ≤ L1.length := by omega
    clear hLe hL1n
    refine Tail.value rfl rfl (by go_simp; with_reducible rfl) (Tail.done (NoPanic.normal ?_))
    simp only [List.getElem_toArray, List.getElem_cons_succ, List.getElem_cons_zero, Act.put, List.setIfInBounds_toArray, List.set_cons_zero, List.set_cons_succ]
    replace HROW := Lib.hid (HROW.out.below hA9)
    replace HX4 := Lib.hid ((hA9.block _ (lt_of_block HX4.out)).trans HX4.out)
    replace HB4 := Lib.hid (below_to HB4.out hA9)
    replace Y0 := Lib.hid ((hA9.block _ (lt_of_block Y0.out)).trans Y0.out)
    clear hA9 hSe6 ho6 YR HSV5 HLN
    generalize e6 = A6 at *
    go_wp2_with fail
    have HLN := Lib.hid (Nat.le_refl A6.heap.size)
    have hg1A : g1 ≠ bS := by omega
    refine wp_region_noPanic ?_
    refine wp_region_acts (fun w' => But (fun k => k = g1) A6 w') (fun _ _ h hb => h.trans (But.of_below hb)) (But.of_below (below_drawn _)) (by kernel_rfl) (fun _ _ _ _ _ h => h)
      [.take 0, .take 1, .take 3, .take 4, .take 5, .take 7, .take 10, .take 11, .take 12, .float 8, .act 2, .act 6, .join, .act 9, .act 13] [14, 15, 16] (by kernel_rfl) ?_
    iterate 2
      (refine GWalk.takes rfl rfl ?_; apply Exists.intro; refine ⟨fun w' hS => ?_, ?_⟩; (clear hS; go_simp; with_reducible rfl); simp only [List.getElem_toArray, List.getElem_cons_succ, List.getElem_cons_zero, Act.put, List.setIfInBounds_toArray, List.set_cons_zero, List.set_cons_succ])
    iterate 2
      (refine GWalk.takes rfl rfl ?_; apply Exists.intro; refine ⟨fun w' hS => ?_, ?_⟩; (clear hS; go_simp; with_reducible rfl); simp only [List.getElem_toArray, List.getElem_cons_succ, List.getElem_cons_zero, Act.put, List.setIfInBounds_toArray, List.set_cons_zero, List.set_cons_succ])
    refine GWalk.takes rfl rfl ⟨_, fun w' hS => exec_slice_hi (q := i) (.tmp 138) (.tmp 139) rfl rfl rfl (by simp) (by omega), ?_⟩
    simp only [List.getElem_toArray, List.getElem_cons_succ, List.getElem_cons_zero, Act.put, List.setIfInBounds_toArray, List.set_cons_zero, List.set_cons_succ]
    refine GWalk.takes rfl rfl ?_; apply Exists.intro; refine ⟨fun w' hS => ?_, ?_⟩
    · have z := (hS.block _ (lt_of_block Y0.out) (by omega)).trans Y0.out
      have d0 := cell_of_row w' _ 0 _ _ _ z
      have d1 := cell_of_row w' _ 1 _ _ _ z
      have d2 := cell_of_row w' _ 2 _ _ _ z
      simp only [List.getElem?_toArray, List.getElem?_cons_zero, List.getElem?_cons_succ] at d0 d1 d2
      have d3 := lt_of_block z
      clear hS z
      go_simp
      with_reducible rfl
    simp only [List.getElem_toArray, List.getElem_cons_succ, List.getElem_cons_zero, Act.put, List.setIfInBounds_toArray, List.set_cons_zero, List.set_cons_succ]
    iterate 2
      (refine GWalk.takes rfl rfl ?_; apply Exists.intro; refine ⟨fun w' hS => ?_, ?_⟩; (clear hS; go_simp; with_reducible rfl); simp only [List.getElem_toArray, List.getElem_cons_succ, List.getElem_cons_zero, Act.put, List.setIfInBounds_toArray, List.set_cons_zero, List.set_cons_succ])
    refine GWalk.takes rfl rfl ⟨_, fun w' hS => exec_slice_lo (q := i) (.tmp 145) (.tmp 146) rfl rfl rfl (by first | (simp; done) | (push_cast; exact hwi1)) (by omega), ?_⟩
    simp only [List.getElem_toArray, List.getElem_cons_succ, List.getElem_cons_zero, Act.put, List.setIfInBounds_toArray, List.set_cons_zero, List.set_cons_succ]
    refine GWalk.floats (.cells #[.int .i64 sb, .int .i64 C, .int .i64 (C + D)] 84) (fun b => .slice (some ⟨b, 0, none⟩) 1 1) rfl rfl rfl (fun w1 => exec_buildSlice 52 84 1 _ rfl el52.u #[.int .i64 sb, .int .i64 C, .int .i64 (C + D)] (by kernel_rfl)) ?_
    simp only [List.nil_append, List.cons_append]
    refine GWalk.acts rfl rfl fun e1 he1 hSe1 hOe1 => ?_
    have hA1 := grow_to (below_drawn A6) he1
    have hA2 := grow_to hA1 (box_below e1 (.cells #[] 84 (0, 0)))
    refine ⟨.slice (some ⟨e1.heap.size, 0, none⟩) 0 0, e1.alloc (.cells #[] 84 (0, 0)), Mine (fun _ => False) e1 _, by kernel_rfl, (But.of_below hA2), kept_alloc _ e1 _ hOe1, ?_⟩
    simp only [List.getElem_toArray, List.getElem_cons_succ, List.getElem_cons_zero, Act.put, List.setIfInBounds_toArray, List.set_cons_zero, List.set_cons_succ]
    have ho1 := act_empty 84 3 A6.heap.size e1 hA1.size
    have hm1 := mine_empty e1 (.cells #[] 84 (0, 0))
    clear hSe1 hOe1 he1 hA1
    generalize e1.alloc (.cells #[] 84 (0, 0)) = f1 at *
    refine GWalk.acts rfl rfl fun e2 he2 hSe2 hOe2 => ?_
    have hA3 := grow_to hA2 he2
    obtain ⟨hp1, hp2⟩ := part_hi (HSV6.out.same (.below HLN.out hA3)) i (by omega)
    obtain ⟨v2, f2, hr2, ho2, hb2, hk2, hm2, -⟩ := act_app el52 A6.heap.size 0 (.slice (some ⟨e1.heap.size, 0, none⟩) 0 0) [] la4 i c4 (flatS ((L1).take i)) e2 (Mine (fun _ => False) e1 f1) 52 (by omega) (row_kept ho1 he2) hA3.size (by rw [flatS_len, List.length_take]; omega) hp1 hp2 (fun u hu => flatS_one hu) hm1 hOe2
    have hA4 := hA3.trans hb2
    refine ⟨v2, f2, _, exec_append (.tmp 137) (.tmp 140) rfl rfl rfl hr2, (But.of_below hA4), hk2, ?_⟩
    simp only [List.getElem_toArray, List.getElem_cons_succ, List.getElem_cons_zero, Act.put, List.setIfInBounds_toArray, List.set_cons_zero, List.set_cons_succ]
    clear hr2 hp1 hp2 hSe2 hOe2 he2 hA3 hA2 ho1 hb2 hk2 hm1
    refine GWalk.joins fun e3 bJ he3 hj1 hj2 hj3 hj4 => ?_
    simp only [List.getElem_toArray, List.getElem_cons_succ, List.getElem_cons_zero, Act.put, List.setIfInBounds_toArray, List.set_cons_zero, List.set_cons_succ]
    refine GWalk.acts rfl rfl fun e4 he4 hSe4 hOe4 => ?_
    have he34 := grow_to he3 he4
    have hA5 := grow_to hA4 he34
    have hj5 := (he4.block _ hj2).trans hj4
    obtain ⟨v3, f3, hr3, ho3, hb3, hk3, hm3, -⟩ := act_app el52 A6.heap.size _ v2 _ (some ⟨bJ, 0, none⟩) 1 1 [.int .i64 sb, .int .i64 C, .int .i64 (C + D)] e4 _ 52 (by omega) (row_kept ho2 he34) hA5.size rfl (fun h => by cases h) (fun _ => ⟨bJ, 0, rfl, fun j u hj => by rw [Nat.zero_add, cell_of_row e4 bJ j _ _ _ hj5]; simpa using hj⟩) (by simp [Value.oneCell']) hm2 hOe4
    have hA6 := hA5.trans hb3
    refine ⟨v3, f3, _, exec_append (.tmp 141) (.tmp 143) rfl rfl rfl hr3, (But.of_below hA6), hk3, ?_⟩
    simp only [List.getElem_toArray, List.getElem_cons_succ, List.getElem_cons_zero, Act.put, List.setIfInBounds_toArray, List.set_cons_zero, List.set_cons_succ]
    clear hr3 hSe4 hOe4 he34 he3 he4 hA4 hA5 hj1 hj2 hj3 hj4 hj5 ho2 hb3 hk3 hm2
    refine GWalk.acts rfl rfl fun e5 he5 hSe5 hOe5 => ?_
    have hA7 := grow_to hA6 he5
    obtain ⟨hp1, hp2⟩ := part_lo (HSV6.out.same (.below HLN.out hA7)) (i) (by omega) (by omega)
    obtain ⟨v4, f4, hr4, ho4, hb4, hk4, hm4, -⟩ := act_app el52 A6.heap.size _ v3 _ (lowA la4 (i) c4) (L1.length - (i)) (c4 - (i)) (flatS ((L1).drop (i))) e5 _ 52 (by omega) (row_kept ho3 he5) hA7.size (by rw [flatS_len, List.length_drop]) hp1 hp2 (fun u hu => flatS_one hu) hm3 hOe5
    have hA8 := hA7.trans hb4
    refine ⟨v4, f4, _, exec_append (.tmp 144) (.tmp 147) rfl rfl rfl hr4, (But.of_below hA8), hk4, ?_⟩
    simp only [List.getElem_toArray, List.getElem_cons_succ, List.getElem_cons_zero, Act.put, List.setIfInBounds_toArray, List.set_cons_zero, List.set_cons_succ]
    rw [flat_join ((L1).take i) ((L1).drop (i)) ⟨sb, ⟨C, (C + D)⟩⟩] at ho4
    clear hr4 hp1 hp2 hSe5 hOe5 hA6 hA7 ho3 hb4 hk4 hm4 hm3 he5
    refine GWalk.fin fun e6 he6 hSe6 => ?_
    have hA9 := grow_to hA8 he6
    have ho6 := row_kept ho4 he6
    clear hA8 ho4 he6
    have hcut : L1.take i ++ [⟨sb, ⟨C, C + D⟩⟩] ++ L1.drop i = cutL (rn rs j).ss i y := by
      rw [HL1.out, ins_eq _ _ _ _ (show (List.take i (rn rs j).ss).length = i by rw [List.length_take]; omega)]
      unfold cutL
      rw [HCC.out, HEE.out, HGB.out, HGL.out, HGH.out]
    rw [hcut] at ho6
    have hcl : 0 + i + 1 + (L1.length - i) = (cutL (rn rs j).ss i y).length := by rw [cutL_len y hin]; have := HL1N.out; omega
    rw [hcl] at ho6
    obtain ⟨lv, cv, rfl, -⟩ := own_capd ho6
    have hrowE := HROW.out.below hA9
    obtain ⟨sv9, z9, -⟩ := hrowE.runs j hjn
    have hset := hrowE.set_runs (by omega) hjn _ _ cx1 ho6 (by have := HROW.out.here; omega)
    have hbu : But (fun k => k = g1) A6 (e6.setCell ⟨g1, j * 3, none⟩ (.slice lv (cutL (rn rs j).ss i y).length cv)) := (But.of_below hA9).trans (But.setCell e6 _ rfl)
    refine Tail.value rfl rfl (by go_simp; with_reducible rfl) ?_
    simp only [List.getElem_toArray, List.getElem_cons_succ, List.getElem_cons_zero, Act.put, List.setIfInBounds_toArray, List.set_cons_zero, List.set_cons_succ]
    refine Tail.value rfl rfl (by go_simp; with_reducible rfl) ?_
    simp only [List.getElem_toArray, List.getElem_cons_succ, List.getElem_cons_zero, Act.put, List.setIfInBounds_toArray, List.set_cons_zero, List.set_cons_succ]
    refine Tail.skip rfl rfl (exec_store_one 52 (.tmp 150) (.tmp 148) rfl rfl rfl z9 (hrowE.fresh _) (by kernel_rfl)) hbu (Tail.done (NoPanic.normal ?_))
    simp only [List.getElem_toArray, List.getElem_cons_succ, List.getElem_cons_zero, Act.put, List.setIfInBounds_toArray, List.set_cons_zero, List.set_cons_succ]
    have hXn := (heap_setCell_other e6 ⟨g1, j * 3, none⟩ w.heap.size (.slice lv (cutL (rn rs j).ss i y).length cv) (by show w.heap.size ≠ g1; omega)).trans ((hA9.block _ (lt_of_block HX4.out)).trans HX4.out)
    have hBn := (below_to HB4.out hA9).setCell (p := ⟨g1, j * 3, none⟩) (by show w.heap.size ≤ g1; omega) (.slice lv (cutL (rn rs j).ss i y).length cv)
    have hsz : e6.heap.size = (e6.setCell ⟨g1, j * 3, none⟩ (.slice lv (cutL (rn rs j).ss i y).length cv)).heap.size := by simp
    rw [hsz] at hset
    have HXA := Lib.hid hXn
    have HBA := Lib.hid hBn
    have HXV := Lib.hid hset
    have HOK := Lib.hid (cut_ok ms y hjn hin)
    clear hXn hBn hsz hset hbu hrowE z9 ho6 hcl hcut HX4 HB4 HROW hA9 hSe6 HSV6 Y0 HLN
    generalize World.setCell _ _ _ = A7 at *
    generalize rs.set j _ = rs2 at *
    have c0 := cell_of_row A7 w.heap.size 0 _ _ _ HXA.out
    simp only [List.getElem?_toArray, List.getElem?_cons_zero] at c0
    have l0 := lt_of_block HXA.out
    go_wp2_with fail
    refine (HR2.out A7 HBA.out A7.heap.size _ rs2 HXV.out HBA.out.size (Nat.le_refl _)).mono ?_
    rintro e u0 ⟨rfl, hb⟩
    replace HXA := Lib.hid ((hb.block _ (lt_of_block HXA.out)).trans HXA.out)
    replace HBA := Lib.hid (below_to HBA.out hb)
    replace HXV := Lib.hid ((HXV.out.same (.below (Nat.le_refl _) hb)).up hb.size)
    clear hb
    clear c0 l0
    cases hz2 : readyB ms rs2 ss with
    | false =>
      clear hz2
      go_wp2_with fail
      refine (HA.out u0).mono ?_
      rintro e u1 ⟨rfl, hb⟩
      have HBF := Lib.hid (below_to HBA.out hb)
      clear hb
      go_wp2
      go_ret
      exact ⟨rfl, HBF.out⟩
    | true =>
      have HK2 := Lib.hid (readyB_ok hz2).1
      clear hz2 HR2
      have c0 := cell_of_row u0 w.heap.size 0 _ _ _ HXA.out
      simp only [List.getElem?_toArray, List.getElem?_cons_zero] at c0
      have l0 := lt_of_block HXA.out
      by_cases hne : okL ms rs = []
      · have HNE := Lib.hid hne
        have HNE2 : Hid (okL ms rs2 = []) := Lib.hid (by rw [HOK.out]; exact hne)
        clear hne
        go_wp2_with fail
        refine (HMA.out u0 HBA.out).mono ?_
        rintro e v1 ⟨⟨m6, rfl, hm6⟩, hb⟩
        replace HXA := Lib.hid ((hb.block _ (lt_of_block HXA.out)).trans HXA.out)
        replace HBA := Lib.hid (below_to HBA.out hb)
        replace HXV := Lib.hid ((HXV.out.same (.below (Nat.le_refl _) hb)).up hb.size)
        clear hb
        have HM6 := Lib.hid hm6
        clear hm6
        go_wp2_with fail
        clear c0 l0
        refine (HRU.out v1 HBA.out).mono ?_
        rintro e v2 ⟨⟨r7, rfl, hr7⟩, hb⟩
        replace HXA := Lib.hid ((hb.block _ (lt_of_block HXA.out)).trans HXA.out)
        replace HBA := Lib.hid (below_to HBA.out hb)
        replace HXV := Lib.hid ((HXV.out.same (.below (Nat.le_refl _) hb)).up hb.size)
        replace HM6 := Lib.hid ((HM6.out.same (.below (Nat.le_refl _) hb)).up hb.size)
        clear hb
        have HV7 : Hid (RoomV v2.heap.size v2 m6 r7 ms rs) := Lib.hid ⟨Nat.le_refl _, HM6.out, hr7⟩
        clear hr7 HM6
        go_wp2_with fail
        refine (Rates_fail v2.heap.size m6 r7 ms rs v2 HK.out HV7.out HNE.out).mono ?_
        rintro e v3 ⟨rfl, hb⟩
        replace HXA := Lib.hid ((hb.block _ (lt_of_block HXA.out)).trans HXA.out)
        replace HBA := Lib.hid (below_to HBA.out hb)
        replace HXV := Lib.hid ((HXV.out.same (.below (Nat.le_refl _) hb)).up hb.size)
        replace HV7 : Hid (RoomV _ _ _ _ _ _) := Lib.hid ⟨Nat.le_refl _, (HV7.out.below hb).m.up hb.size, (HV7.out.below hb).r.up hb.size⟩
        clear hb
        clear HV7
        have c0 := cell_of_row v3 w.heap.size 0 _ _ _ HXA.out
        simp only [List.getElem?_toArray, List.getElem?_cons_zero] at c0
        have l0 := lt_of_block HXA.out
        go_wp2_with fail
        refine (HMA.out v3 HBA.out).mono ?_
        rintro e v4 ⟨⟨m6, rfl, hm6⟩, hb⟩
        replace HXA := Lib.hid ((hb.block _ (lt_of_block HXA.out)).trans HXA.out)
        replace HBA := Lib.hid (below_to HBA.out hb)
        replace HXV := Lib.hid ((HXV.out.same (.below (Nat.le_refl _) hb)).up hb.size)
        clear hb
        have HM6 := Lib.hid hm6
        clear hm6
        go_wp2_with fail
        clear c0 l0
        have hru := Runs_any v4.heap.size _ rs2 v4 (by have := HK2.out.len; omega) (fun r hr => by have := (HK2.out.rn r hr).len; omega) HXV.out (Nat.le_refl _)
        refine (hru).mono ?_
        rintro e v5 ⟨⟨r7, rfl, hr7⟩, hb⟩
        replace HXA := Lib.hid ((hb.block _ (lt_of_block HXA.out)).trans HXA.out)
        replace HBA := Lib.hid (below_to HBA.out hb)
        replace HXV := Lib.hid ((HXV.out.same (.below (Nat.le_refl _) hb)).up hb.size)
        replace HM6 := Lib.hid ((HM6.out.same (.below (Nat.le_refl _) hb)).up hb.size)
        clear hb
        have HV7 : Hid (RoomV v5.heap.size v5 m6 r7 ms rs2) := Lib.hid ⟨Nat.le_refl _, HM6.out, hr7⟩
        clear hr7 hru HM6
        go_wp2_with fail
        refine (Rates_fail v5.heap.size m6 r7 ms rs2 v5 HK2.out HV7.out HNE2.out).mono ?_
        rintro e v6 ⟨rfl, hb⟩
        replace HXA := Lib.hid ((hb.block _ (lt_of_block HXA.out)).trans HXA.out)
        replace HBA := Lib.hid (below_to HBA.out hb)
        replace HXV := Lib.hid ((HXV.out.same (.below (Nat.le_refl _) hb)).up hb.size)
        replace HV7 : Hid (RoomV _ _ _ _ _ _) := Lib.hid ⟨Nat.le_refl _, (HV7.out.below hb).m.up hb.size, (HV7.out.below hb).r.up hb.size⟩
        clear hb
        clear HV7
        have c0 := cell_of_row v6 w.heap.size 0 _ _ _ HXA.out
        simp only [List.getElem?_toArray, List.getElem?_cons_zero] at c0
        have l0 := lt_of_block HXA.out
        go_wp2_with fail
        refine (HMA.out v6 HBA.out).mono ?_
        rintro e v7 ⟨⟨m6, rfl, hm6⟩, hb⟩
        replace HXA := Lib.hid ((hb.block _ (lt_of_block HXA.out)).trans HXA.out)
        replace HBA := Lib.hid (below_to HBA.out hb)
        replace HXV := Lib.hid ((HXV.out.same (.below (Nat.le_refl _) hb)).up hb.size)
        clear hb
        have HM6 := Lib.hid hm6
        clear hm6
        go_wp2_with fail
        clear c0 l0
        refine (HRU.out v7 HBA.out).mono ?_
        rintro e v8 ⟨⟨r7, rfl, hr7⟩, hb⟩
        replace HXA := Lib.hid ((hb.block _ (lt_of_block HXA.out)).trans HXA.out)
        replace HBA := Lib.hid (below_to HBA.out hb)
        replace HXV := Lib.hid ((HXV.out.same (.below (Nat.le_refl _) hb)).up hb.size)
        replace HM6 := Lib.hid ((HM6.out.same (.below (Nat.le_refl _) hb)).up hb.size)
        clear hb
        have HV7 : Hid (RoomV v8.heap.size v8 m6 r7 ms rs) := Lib.hid ⟨Nat.le_refl _, HM6.out, hr7⟩
        clear hr7 HM6
        go_wp2_with fail
        refine (HPA.out v8 HBA.out).mono ?_
        rintro e v9 ⟨⟨p8, rfl, hp8⟩, hb⟩
        replace HXA := Lib.hid ((hb.block _ (lt_of_block HXA.out)).trans HXA.out)
        replace HBA := Lib.hid (below_to HBA.out hb)
        replace HXV := Lib.hid ((HXV.out.same (.below (Nat.le_refl _) hb)).up hb.size)
        replace HV7 : Hid (RoomV _ _ _ _ _ _) := Lib.hid ⟨Nat.le_refl _, (HV7.out.below hb).m.up hb.size, (HV7.out.below hb).r.up hb.size⟩
        clear hb
        have HS8 := Lib.hid (own_segs (l := ss) hp8)
        clear hp8
        go_wp2_with fail
        refine (Stretch_fail v9.heap.size m6 r7 p8 ms rs ss v9 HK.out HV7.out HPO.out HS8.out HNE.out).mono ?_
        rintro e v10 ⟨rfl, hb⟩
        replace HXA := Lib.hid ((hb.block _ (lt_of_block HXA.out)).trans HXA.out)
        replace HBA := Lib.hid (below_to HBA.out hb)
        replace HXV := Lib.hid ((HXV.out.same (.below (Nat.le_refl _) hb)).up hb.size)
        replace HV7 : Hid (RoomV _ _ _ _ _ _) := Lib.hid ⟨Nat.le_refl _, (HV7.out.below hb).m.up hb.size, (HV7.out.below hb).r.up hb.size⟩
        replace HS8 := Lib.hid ((HS8.out.same (.below (Nat.le_refl _) hb)).up hb.size)
        clear hb
        clear HV7 HS8
        have c0 := cell_of_row v10 w.heap.size 0 _ _ _ HXA.out
        simp only [List.getElem?_toArray, List.getElem?_cons_zero] at c0
        have l0 := lt_of_block HXA.out
        go_wp2_with fail
        have hbx := box_below v10 (.cells #[.int .i64 0, .int .i64 0] 50)
        have hnx := heap_alloc_new v10 (.cells #[.int .i64 0, .int .i64 0] 50)
        replace HXA := Lib.hid ((hbx.block _ (lt_of_block HXA.out)).trans HXA.out)
        replace HBA := Lib.hid (below_to HBA.out hbx)
        replace HXV := Lib.hid ((HXV.out.same (.below (Nat.le_refl _) hbx)).up hbx.size)
        have BX := Lib.hid hnx
        clear hbx hnx
        generalize World.alloc v10 _ = v11 at *
        generalize v10.heap.size = bx at *
        refine (HMA.out v11 HBA.out).mono ?_
        rintro e v12 ⟨⟨m6, rfl, hm6⟩, hb⟩
        replace HXA := Lib.hid ((hb.block _ (lt_of_block HXA.out)).trans HXA.out)
        replace HBA := Lib.hid (below_to HBA.out hb)
        replace HXV := Lib.hid ((HXV.out.same (.below (Nat.le_refl _) hb)).up hb.size)
        replace BX := Lib.hid ((hb.block _ (lt_of_block BX.out)).trans BX.out)
        clear hb
        have HM6 := Lib.hid hm6
        clear hm6
        go_wp2_with fail
        clear c0 l0
        have hru := Runs_any v12.heap.size _ rs2 v12 (by have := HK2.out.len; omega) (fun r hr => by have := (HK2.out.rn r hr).len; omega) HXV.out (Nat.le_refl _)
        refine (hru).mono ?_
        rintro e v13 ⟨⟨r7, rfl, hr7⟩, hb⟩
        replace HXA := Lib.hid ((hb.block _ (lt_of_block HXA.out)).trans HXA.out)
        replace HBA := Lib.hid (below_to HBA.out hb)
        replace HXV := Lib.hid ((HXV.out.same (.below (Nat.le_refl _) hb)).up hb.size)
        replace BX := Lib.hid ((hb.block _ (lt_of_block BX.out)).trans BX.out)
        replace HM6 := Lib.hid ((HM6.out.same (.below (Nat.le_refl _) hb)).up hb.size)
        clear hb
        have HV7 : Hid (RoomV v13.heap.size v13 m6 r7 ms rs2) := Lib.hid ⟨Nat.le_refl _, HM6.out, hr7⟩
        clear hr7 hru HM6
        go_wp2_with fail
        refine (HPA.out v13 HBA.out).mono ?_
        rintro e v14 ⟨⟨p8, rfl, hp8⟩, hb⟩
        replace HXA := Lib.hid ((hb.block _ (lt_of_block HXA.out)).trans HXA.out)
        replace HBA := Lib.hid (below_to HBA.out hb)
        replace HXV := Lib.hid ((HXV.out.same (.below (Nat.le_refl _) hb)).up hb.size)
        replace BX := Lib.hid ((hb.block _ (lt_of_block BX.out)).trans BX.out)
        replace HV7 : Hid (RoomV _ _ _ _ _ _) := Lib.hid ⟨Nat.le_refl _, (HV7.out.below hb).m.up hb.size, (HV7.out.below hb).r.up hb.size⟩
        clear hb
        have HS8 := Lib.hid (own_segs (l := ss) hp8)
        clear hp8
        go_wp2_with fail
        refine (Stretch_fail v14.heap.size m6 r7 p8 ms rs2 ss v14 HK2.out HV7.out HPO.out HS8.out HNE2.out).mono ?_
        rintro e v15 ⟨rfl, hb⟩
        replace HXA := Lib.hid ((hb.block _ (lt_of_block HXA.out)).trans HXA.out)
        replace HBA := Lib.hid (below_to HBA.out hb)
        replace HXV := Lib.hid ((HXV.out.same (.below (Nat.le_refl _) hb)).up hb.size)
        replace BX := Lib.hid ((hb.block _ (lt_of_block BX.out)).trans BX.out)
        replace HV7 : Hid (RoomV _ _ _ _ _ _) := Lib.hid ⟨Nat.le_refl _, (HV7.out.below hb).m.up hb.size, (HV7.out.below hb).r.up hb.size⟩
        replace HS8 := Lib.hid ((HS8.out.same (.below (Nat.le_refl _) hb)).up hb.size)
        clear hb
        clear HV7 HS8
        have c0 := cell_of_row v15 w.heap.size 0 _ _ _ HXA.out
        simp only [List.getElem?_toArray, List.getElem?_cons_zero] at c0
        have l0 := lt_of_block HXA.out
        have z0 := cell_of_row v15 bx 0 _ _ _ BX.out
        have z1 := cell_of_row v15 bx 1 _ _ _ BX.out
        simp only [List.getElem?_toArray, List.getElem?_cons_zero, List.getElem?_cons_succ] at z0 z1
        have lz := lt_of_block BX.out
        have hq := fun w => neqr50 0 0 w
        go_wp2_with fail
        have hbx := box_below v15 (.cells #[.int .i64 0, .int .i64 0] 50)
        replace HXA := Lib.hid ((hbx.block _ (lt_of_block HXA.out)).trans HXA.out)
        replace HBA := Lib.hid (below_to HBA.out hbx)
        replace HXV := Lib.hid ((HXV.out.same (.below (Nat.le_refl _) hbx)).up hbx.size)
        replace BX := Lib.hid ((hbx.block _ (lt_of_block BX.out)).trans BX.out)
        clear hbx z0 z1 lz hq c0 l0
        generalize World.alloc v15 _ = v16 at *
        go_loopw [30] (fun i wr => ∃ (k : Nat), k ≤ 0 ∧ i = .int .i64 k ∧ Hid (Below v16.heap.size v16 wr)) (fun i _ => 0 - (intOf i).toNat)
        case atStart => exact ⟨0, Nat.zero_le _, rfl, Lib.hid (Below.refl _ _)⟩
        case round =>
          obtain ⟨k, hk, rfl, hbk⟩ := hrel
          obtain rfl : k = 0 := by omega
          replace HBA := Lib.hid (below_to HBA.out hbk.out)
          go_wp2_with fail
          refine (HA.out wr).mono ?_
          rintro e wf ⟨rfl, hb⟩
          have HBF := Lib.hid (below_to HBA.out hb)
          clear hb
          go_wp2
          go_ret
          exact ⟨rfl, HBF.out⟩
      · have HNE := Lib.hid hne
        have HNE2 : Hid (okL ms rs2 ≠ []) := Lib.hid (by rw [HOK.out]; exact hne)
        clear hne
        go_wp2_with fail
        refine (HMA.out u0 HBA.out).mono ?_
        rintro e v1 ⟨⟨m6, rfl, hm6⟩, hb⟩
        replace HXA := Lib.hid ((hb.block _ (lt_of_block HXA.out)).trans HXA.out)
        replace HBA := Lib.hid (below_to HBA.out hb)
        replace HXV := Lib.hid ((HXV.out.same (.below (Nat.le_refl _) hb)).up hb.size)
        clear hb
        have HM6 := Lib.hid hm6
        clear hm6
        go_wp2_with fail
        clear c0 l0
        refine (HRU.out v1 HBA.out).mono ?_
        rintro e v2 ⟨⟨r7, rfl, hr7⟩, hb⟩
        replace HXA := Lib.hid ((hb.block _ (lt_of_block HXA.out)).trans HXA.out)
        replace HBA := Lib.hid (below_to HBA.out hb)
        replace HXV := Lib.hid ((HXV.out.same (.below (Nat.le_refl _) hb)).up hb.size)
        replace HM6 := Lib.hid ((HM6.out.same (.below (Nat.le_refl _) hb)).up hb.size)
        clear hb
        have HV7 : Hid (RoomV v2.heap.size v2 m6 r7 ms rs) := Lib.hid ⟨Nat.le_refl _, HM6.out, hr7⟩
        clear hr7 HM6
        go_wp2_with fail
        have hra := Rates_ok v2.heap.size m6 r7 ms rs v2 HK.out HV7.out HNE.out
        refine (hra).mono ?_
        rintro e v3 ⟨⟨va, rfl, hown⟩, hb⟩
        replace HXA := Lib.hid ((hb.block _ (lt_of_block HXA.out)).trans HXA.out)
        replace HBA := Lib.hid (below_to HBA.out hb)
        replace HXV := Lib.hid ((HXV.out.same (.below (Nat.le_refl _) hb)).up hb.size)
        replace HV7 : Hid (RoomV _ _ _ _ _ _) := Lib.hid ⟨Nat.le_refl _, (HV7.out.below hb).m.up hb.size, (HV7.out.below hb).r.up hb.size⟩
        clear hb
        have RA := Lib.hid (own_rgs hown)
        clear hown hra
        clear HV7
        have c0 := cell_of_row v3 w.heap.size 0 _ _ _ HXA.out
        simp only [List.getElem?_toArray, List.getElem?_cons_zero] at c0
        have l0 := lt_of_block HXA.out
        go_wp2_with fail
        refine (HMA.out v3 HBA.out).mono ?_
        rintro e v4 ⟨⟨m6, rfl, hm6⟩, hb⟩
        replace HXA := Lib.hid ((hb.block _ (lt_of_block HXA.out)).trans HXA.out)
        replace HBA := Lib.hid (below_to HBA.out hb)
        replace HXV := Lib.hid ((HXV.out.same (.below (Nat.le_refl _) hb)).up hb.size)
        replace RA := Lib.hid ((RA.out.same (.below (Nat.le_refl _) hb)).up hb.size)
        clear hb
        have HM6 := Lib.hid hm6
        clear hm6
        go_wp2_with fail
        clear c0 l0
        have hru := Runs_any v4.heap.size _ rs2 v4 (by have := HK2.out.len; omega) (fun r hr => by have := (HK2.out.rn r hr).len; omega) HXV.out (Nat.le_refl _)
        refine (hru).mono ?_
        rintro e v5 ⟨⟨r7, rfl, hr7⟩, hb⟩
        replace HXA := Lib.hid ((hb.block _ (lt_of_block HXA.out)).trans HXA.out)
        replace HBA := Lib.hid (below_to HBA.out hb)
        replace HXV := Lib.hid ((HXV.out.same (.below (Nat.le_refl _) hb)).up hb.size)
        replace RA := Lib.hid ((RA.out.same (.below (Nat.le_refl _) hb)).up hb.size)
        replace HM6 := Lib.hid ((HM6.out.same (.below (Nat.le_refl _) hb)).up hb.size)
        clear hb
        have HV7 : Hid (RoomV v5.heap.size v5 m6 r7 ms rs2) := Lib.hid ⟨Nat.le_refl _, HM6.out, hr7⟩
        clear hr7 hru HM6
        go_wp2_with fail
        have hra := Rates_ok v5.heap.size m6 r7 ms rs2 v5 HK2.out HV7.out HNE2.out
        rw [HOK.out] at hra
        refine (hra).mono ?_
        rintro e v6 ⟨⟨vb, rfl, hown⟩, hb⟩
        replace HXA := Lib.hid ((hb.block _ (lt_of_block HXA.out)).trans HXA.out)
        replace HBA := Lib.hid (below_to HBA.out hb)
        replace HXV := Lib.hid ((HXV.out.same (.below (Nat.le_refl _) hb)).up hb.size)
        replace RA := Lib.hid ((RA.out.same (.below (Nat.le_refl _) hb)).up hb.size)
        replace HV7 : Hid (RoomV _ _ _ _ _ _) := Lib.hid ⟨Nat.le_refl _, (HV7.out.below hb).m.up hb.size, (HV7.out.below hb).r.up hb.size⟩
        clear hb
        have RB := Lib.hid (own_rgs hown)
        clear hown hra
        clear HV7
        have c0 := cell_of_row v6 w.heap.size 0 _ _ _ HXA.out
        simp only [List.getElem?_toArray, List.getElem?_cons_zero] at c0
        have l0 := lt_of_block HXA.out
        go_wp2_with fail
        refine (HMA.out v6 HBA.out).mono ?_
        rintro e v7 ⟨⟨m6, rfl, hm6⟩, hb⟩
        replace HXA := Lib.hid ((hb.block _ (lt_of_block HXA.out)).trans HXA.out)
        replace HBA := Lib.hid (below_to HBA.out hb)
        replace HXV := Lib.hid ((HXV.out.same (.below (Nat.le_refl _) hb)).up hb.size)
        replace RA := Lib.hid ((RA.out.same (.below (Nat.le_refl _) hb)).up hb.size)
        replace RB := Lib.hid ((RB.out.same (.below (Nat.le_refl _) hb)).up hb.size)
        clear hb
        have HM6 := Lib.hid hm6
        clear hm6
        go_wp2_with fail
        clear c0 l0
        refine (HRU.out v7 HBA.out).mono ?_
        rintro e v8 ⟨⟨r7, rfl, hr7⟩, hb⟩
        replace HXA := Lib.hid ((hb.block _ (lt_of_block HXA.out)).trans HXA.out)
        replace HBA := Lib.hid (below_to HBA.out hb)
        replace HXV := Lib.hid ((HXV.out.same (.below (Nat.le_refl _) hb)).up hb.size)
        replace RA := Lib.hid ((RA.out.same (.below (Nat.le_refl _) hb)).up hb.size)
        replace RB := Lib.hid ((RB.out.same (.below (Nat.le_refl _) hb)).up hb.size)
        replace HM6 := Lib.hid ((HM6.out.same (.below (Nat.le_refl _) hb)).up hb.size)
        clear hb
        have HV7 : Hid (RoomV v8.heap.size v8 m6 r7 ms rs) := Lib.hid ⟨Nat.le_refl _, HM6.out, hr7⟩
        clear hr7 HM6
        go_wp2_with fail
        refine (HPA.out v8 HBA.out).mono ?_
        rintro e v9 ⟨⟨p8, rfl, hp8⟩, hb⟩
        replace HXA := Lib.hid ((hb.block _ (lt_of_block HXA.out)).trans HXA.out)
        replace HBA := Lib.hid (below_to HBA.out hb)
        replace HXV := Lib.hid ((HXV.out.same (.below (Nat.le_refl _) hb)).up hb.size)
        replace RA := Lib.hid ((RA.out.same (.below (Nat.le_refl _) hb)).up hb.size)
        replace RB := Lib.hid ((RB.out.same (.below (Nat.le_refl _) hb)).up hb.size)
        replace HV7 : Hid (RoomV _ _ _ _ _ _) := Lib.hid ⟨Nat.le_refl _, (HV7.out.below hb).m.up hb.size, (HV7.out.below hb).r.up hb.size⟩
        clear hb
        have HS8 := Lib.hid (own_segs (l := ss) hp8)
        clear hp8
        go_wp2_with fail
        have hst := Stretch_ok v9.heap.size m6 r7 p8 ms rs ss v9 HK.out HV7.out HPO.out HS8.out HNE.out
        obtain ⟨x0, E0L⟩ : ∃ x, Hid ((stretchL (okL ms rs) ss).lo = x) := ⟨_, Lib.hid rfl⟩
        obtain ⟨y0, E0H⟩ : ∃ x, Hid ((stretchL (okL ms rs) ss).hi = x) := ⟨_, Lib.hid rfl⟩
        rw [E0L.out, E0H.out] at hst
        refine (hst).mono ?_
        rintro e v10 ⟨rfl, hb⟩
        replace HXA := Lib.hid ((hb.block _ (lt_of_block HXA.out)).trans HXA.out)
        replace HBA := Lib.hid (below_to HBA.out hb)
        replace HXV := Lib.hid ((HXV.out.same (.below (Nat.le_refl _) hb)).up hb.size)
        replace RA := Lib.hid ((RA.out.same (.below (Nat.le_refl _) hb)).up hb.size)
        replace RB := Lib.hid ((RB.out.same (.below (Nat.le_refl _) hb)).up hb.size)
        replace HV7 : Hid (RoomV _ _ _ _ _ _) := Lib.hid ⟨Nat.le_refl _, (HV7.out.below hb).m.up hb.size, (HV7.out.below hb).r.up hb.size⟩
        replace HS8 := Lib.hid ((HS8.out.same (.below (Nat.le_refl _) hb)).up hb.size)
        clear hb
        clear hst
        clear HV7 HS8
        have c0 := cell_of_row v10 w.heap.size 0 _ _ _ HXA.out
        simp only [List.getElem?_toArray, List.getElem?_cons_zero] at c0
        have l0 := lt_of_block HXA.out
        go_wp2_with fail
        have hbx := box_below v10 (.cells #[.int .i64 x0, .int .i64 y0] 50)
        have hnx := heap_alloc_new v10 (.cells #[.int .i64 x0, .int .i64 y0] 50)
        replace HXA := Lib.hid ((hbx.block _ (lt_of_block HXA.out)).trans HXA.out)
        replace HBA := Lib.hid (below_to HBA.out hbx)
        replace HXV := Lib.hid ((HXV.out.same (.below (Nat.le_refl _) hbx)).up hbx.size)
        replace RA := Lib.hid ((RA.out.same (.below (Nat.le_refl _) hbx)).up hbx.size)
        replace RB := Lib.hid ((RB.out.same (.below (Nat.le_refl _) hbx)).up hbx.size)
        have BX := Lib.hid hnx
        clear hbx hnx
        generalize World.alloc v10 _ = v11 at *
        generalize v10.heap.size = bx at *
        refine (HMA.out v11 HBA.out).mono ?_
        rintro e v12 ⟨⟨m6, rfl, hm6⟩, hb⟩
        replace HXA := Lib.hid ((hb.block _ (lt_of_block HXA.out)).trans HXA.out)
        replace HBA := Lib.hid (below_to HBA.out hb)
        replace HXV := Lib.hid ((HXV.out.same (.below (Nat.le_refl _) hb)).up hb.size)
        replace RA := Lib.hid ((RA.out.same (.below (Nat.le_refl _) hb)).up hb.size)
        replace RB := Lib.hid ((RB.out.same (.below (Nat.le_refl _) hb)).up hb.size)
        replace BX := Lib.hid ((hb.block _ (lt_of_block BX.out)).trans BX.out)
        clear hb
        have HM6 := Lib.hid hm6
        clear hm6
        go_wp2_with fail
        clear c0 l0
        have hru := Runs_any v12.heap.size _ rs2 v12 (by have := HK2.out.len; omega) (fun r hr => by have := (HK2.out.rn r hr).len; omega) HXV.out (Nat.le_refl _)
        refine (hru).mono ?_
        rintro e v13 ⟨⟨r7, rfl, hr7⟩, hb⟩
        replace HXA := Lib.hid ((hb.block _ (lt_of_block HXA.out)).trans HXA.out)
        replace HBA := Lib.hid (below_to HBA.out hb)
        replace HXV := Lib.hid ((HXV.out.same (.below (Nat.le_refl _) hb)).up hb.size)
        replace RA := Lib.hid ((RA.out.same (.below (Nat.le_refl _) hb)).up hb.size)
        replace RB := Lib.hid ((RB.out.same (.below (Nat.le_refl _) hb)).up hb.size)
        replace BX := Lib.hid ((hb.block _ (lt_of_block BX.out)).trans BX.out)
        replace HM6 := Lib.hid ((HM6.out.same (.below (Nat.le_refl _) hb)).up hb.size)
        clear hb
        have HV7 : Hid (RoomV v13.heap.size v13 m6 r7 ms rs2) := Lib.hid ⟨Nat.le_refl _, HM6.out, hr7⟩
        clear hr7 hru HM6
        go_wp2_with fail
        refine (HPA.out v13 HBA.out).mono ?_
        rintro e v14 ⟨⟨p8, rfl, hp8⟩, hb⟩
        replace HXA := Lib.hid ((hb.block _ (lt_of_block HXA.out)).trans HXA.out)
        replace HBA := Lib.hid (below_to HBA.out hb)
        replace HXV := Lib.hid ((HXV.out.same (.below (Nat.le_refl _) hb)).up hb.size)
        replace RA := Lib.hid ((RA.out.same (.below (Nat.le_refl _) hb)).up hb.size)
        replace RB := Lib.hid ((RB.out.same (.below (Nat.le_refl _) hb)).up hb.size)
        replace BX := Lib.hid ((hb.block _ (lt_of_block BX.out)).trans BX.out)
        replace HV7 : Hid (RoomV _ _ _ _ _ _) := Lib.hid ⟨Nat.le_refl _, (HV7.out.below hb).m.up hb.size, (HV7.out.below hb).r.up hb.size⟩
        clear hb
        have HS8 := Lib.hid (own_segs (l := ss) hp8)
        clear hp8
        go_wp2_with fail
        have hst := Stretch_ok v14.heap.size m6 r7 p8 ms rs2 ss v14 HK2.out HV7.out HPO.out HS8.out HNE2.out
        rw [HOK.out, E0L.out, E0H.out] at hst
        refine (hst).mono ?_
        rintro e v15 ⟨rfl, hb⟩
        replace HXA := Lib.hid ((hb.block _ (lt_of_block HXA.out)).trans HXA.out)
        replace HBA := Lib.hid (below_to HBA.out hb)
        replace HXV := Lib.hid ((HXV.out.same (.below (Nat.le_refl _) hb)).up hb.size)
        replace RA := Lib.hid ((RA.out.same (.below (Nat.le_refl _) hb)).up hb.size)
        replace RB := Lib.hid ((RB.out.same (.below (Nat.le_refl _) hb)).up hb.size)
        replace BX := Lib.hid ((hb.block _ (lt_of_block BX.out)).trans BX.out)
        replace HV7 : Hid (RoomV _ _ _ _ _ _) := Lib.hid ⟨Nat.le_refl _, (HV7.out.below hb).m.up hb.size, (HV7.out.below hb).r.up hb.size⟩
        replace HS8 := Lib.hid ((HS8.out.same (.below (Nat.le_refl _) hb)).up hb.size)
        clear hb
        clear hst
        clear HV7 HS8
        have c0 := cell_of_row v15 w.heap.size 0 _ _ _ HXA.out
        simp only [List.getElem?_toArray, List.getElem?_cons_zero] at c0
        have l0 := lt_of_block HXA.out
        have z0 := cell_of_row v15 bx 0 _ _ _ BX.out
        have z1 := cell_of_row v15 bx 1 _ _ _ BX.out
        simp only [List.getElem?_toArray, List.getElem?_cons_zero, List.getElem?_cons_succ] at z0 z1
        have lz := lt_of_block BX.out
        have hq := fun w => neqr50 x0 y0 w
        obtain ⟨aa, ca, rfl, hra⟩ := RA.out
        obtain ⟨ab, cb, rfl, hrb⟩ := RB.out
        have HRA := Lib.hid hra
        have HRB := Lib.hid hrb
        have hrl3 : (rangesL (okL ms rs) ms.length).length ≤ 3 := by simp [rangesL]; omega
        have HR3 := Lib.hid hrl3
        clear hra hrb hrl3 RA RB
        generalize rangesL (okL ms rs) ms.length = RL at *
        go_wp2_with fail
        have hbx := box_below v15 (.cells #[.int .i64 x0, .int .i64 y0] 50)
        have HR3' := HR3.out
        replace HRA : Hid (∀ w', Below (World.alloc v15 (.cells #[.int .i64 x0, .int .i64 y0] 50)).heap.size (World.alloc v15 (.cells #[.int .i64 x0, .int .i64 y0] 50)) w' → RgsV v15.heap.size w' (.slice aa RL.length ca) RL) := Lib.hid fun w' h => (show RgsV v15.heap.size v15 (.slice aa RL.length ca) RL from ⟨aa, ca, rfl, HRA.out⟩).same (.below (Nat.le_refl _) (hbx.trans (h.mono (by simp))))
        replace HRB : Hid (∀ w', Below (World.alloc v15 (.cells #[.int .i64 x0, .int .i64 y0] 50)).heap.size (World.alloc v15 (.cells #[.int .i64 x0, .int .i64 y0] 50)) w' → RgsV v15.heap.size w' (.slice ab RL.length cb) RL) := Lib.hid fun w' h => (show RgsV v15.heap.size v15 (.slice ab RL.length cb) RL from ⟨ab, cb, rfl, HRB.out⟩).same (.below (Nat.le_refl _) (hbx.trans (h.mono (by simp))))
        have HRZ : Hid (v15.heap.size ≤ (World.alloc v15 (.cells #[.int .i64 x0, .int .i64 y0] 50)).heap.size) := Lib.hid hbx.size
        replace HXA := Lib.hid ((hbx.block _ (lt_of_block HXA.out)).trans HXA.out)
        replace HBA := Lib.hid (below_to HBA.out hbx)
        replace HXV := Lib.hid ((HXV.out.same (.below (Nat.le_refl _) hbx)).up hbx.size)
        replace BX := Lib.hid ((hbx.block _ (lt_of_block BX.out)).trans BX.out)
        clear hbx z0 z1 lz hq c0 l0
        generalize World.alloc v15 _ = v16 at *
        go_loopw [30] (fun i wr => ∃ (k : Nat), k ≤ RL.length ∧ i = .int .i64 k ∧ Hid (Below v16.heap.size v16 wr)) (fun i _ => RL.length - (intOf i).toNat)
        case atStart => exact ⟨0, Nat.zero_le _, rfl, Lib.hid (Below.refl _ _)⟩
        case round =>
          obtain ⟨k, hk, rfl, hbk⟩ := hrel
          by_cases hkl : k < RL.length
          · have hkn : (k : Int) < RL.length := by omega
            have hwk : IntKind.i64.wrap ((k : Int) + 1) = (k : Int) + 1 := IntWalk.i64_in _ (by omega)
            obtain ⟨_, _, ep, hp⟩ := HRA.out wr hbk.out
            cases ep
            obtain ⟨bp, op, rfl, lp, cp⟩ := hp (by omega)
            obtain ⟨p0, p1⟩ := cp k hkl
            have tp : bp < wr.heap.size := by have := hbk.out.size; have := HRZ.out; omega
            clear cp hp
            obtain ⟨_, _, eq, hq⟩ := HRB.out wr hbk.out
            cases eq
            obtain ⟨bq, oq, rfl, lq, cq⟩ := hq (by omega)
            obtain ⟨q0, q1⟩ := cq k hkl
            have tq : bq < wr.heap.size := by have := hbk.out.size; have := HRZ.out; omega
            clear cq hq
            generalize (rg RL k).lo = klo at *
            generalize (rg RL k).hi = khi at *
            go_wp2_with fail
            have rp0 := cell_regrown p0
            have rp1 := cell_regrown p1
            have rq0 := cell_regrown q0
            have rq1 := cell_regrown q1
            have hq := fun w => neqr50 klo khi w
            clear p0 p1 q0 q1
            refine wp_region_quiet_below (by kernel_rfl) (by kernel_rfl) ?_
            repeat (quiet_step (fail))
            refine wpQuiet_nil ?_
            intro _ hw'
            obtain ⟨⟨dq, osq⟩, hw''⟩ := hw'
            subst hw''
            have hbr := Lib.hid (below_to hbk.out (below_regrown wr dq osq))
            clear rp0 rp1 rq0 rq1 hq hbk
            go_wp2
            go_roundw
            case rel => exact ⟨k + 1, by omega, by simp, hbr⟩
            case measure => simp [intOf]; omega
          · obtain rfl : k = RL.length := by omega
            replace HBA := Lib.hid (below_to HBA.out hbk.out)
            go_wp2_with fail
            refine (HA.out wr).mono ?_
            rintro e wf ⟨rfl, hb⟩
            have HBF := Lib.hid (below_to HBA.out hb)
            clear hb
            go_wp2
            go_ret
            exact ⟨rfl, HBF.out⟩
end Go.Proofs.Ytfijaafkagcmmaa
