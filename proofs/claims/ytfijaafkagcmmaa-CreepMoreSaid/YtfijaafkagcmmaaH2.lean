/- The law CreepMore, walked. Condition: the runs, and one more, have room in a machine. -/
import Derived.Test.YtfijaafkagcmmaaH1
import Derived.BigRegion
import Derived.StillTailTactics
namespace Go.Proofs.Ytfijaafkagcmmaa
open Go.RowKit Go.Shelf
attribute [local irreducible] arrV wpQuiet

theorem rg_ranges {al : List (List Int)} {n k : Nat} (h : k < n) : rg (rangesL al n) k = ⟨lowR al k, highR al k⟩ := by simp [rg, rangesL, h]
theorem room_all {ms : List Rg} {rs : List Rn} {r : Rn} (h : RoomOk ms (rs ++ [r])) : RoomOk ms (rs ++ [⟨r.ss, ⟨0, 10000000000⟩⟩]) := by
  have hr := h.rn r (by simp)
  refine ⟨h.mat, by have := h.len; simpa using this, fun q hq => ?_⟩
  rcases List.mem_append.1 hq with hq | hq
  · exact h.rn q (by simp [hq])
  · simp only [List.mem_cons, List.not_mem_nil, or_false] at hq
    subst hq
    exact ⟨hr.toPlanOk, by simp, by simp, by simp⟩
theorem sub_ok {ms : List Rg} {rs : List Rn} {r : Rn} {x : List Int} (h : x ∈ okL ms (rs ++ [r])) : x ∈ okL ms rs := by
  rw [okL_snoc] at h
  exact (List.mem_filter.1 h).1
theorem sub_len (ms : List Rg) (rs : List Rn) (r : Rn) : (okL ms (rs ++ [r])).length ≤ (okL ms rs).length := by
  rw [okL_snoc]
  exact List.length_filter_le _ _

set_option maxRecDepth 100000 in
set_option maxHeartbeats 20000000 in
theorem more_walk (mv pv sv : Value) (ar : Option Addr) (capr : Nat) (ms : List Rg) (rs : List Rn) (ss : List Sg) (r : Rn) (st : Int) (w : World) (hst : 0 ≤ st ∧ st < 4294967296) (hV : RgsV w.heap.size w mv ms) (hR : RunsV w.heap.size w (.slice ar rs.length capr) rs) (hP : SegsV w.heap.size w pv ss) (hS : SegsV w.heap.size w sv r.ss)
    (hbig : (rs.length + 1) * 40 ≤ 140737488355328) :
    Calls Try.prog 11 #[.agg #[mv], .slice ar rs.length capr, pv, .agg #[sv, .int .i64 r.seen.lo, .int .i64 r.seen.hi], .int .u32 st] w fun e w' => e = .returned (.bool true) ∧ Below w.heap.size w w' := by
  have HR := Lib.hid fun w' (h : Below w.heap.size w w') => ready_any w.heap.size mv (.slice ar rs.length capr) pv ms rs ss w' (hV.same (.below (Nat.le_refl _) h)) (hR.same (.below (Nat.le_refl _) h)) (hP.same (.below (Nat.le_refl _) h)) h.size
  have HR2 := Lib.hid fun w' (h : Below w.heap.size w w') n xv rs' (hX : RunsV n w' xv rs') (hwn : w.heap.size ≤ n) (hn : n ≤ w'.heap.size) => ready_any n mv xv pv ms rs' ss w' ((hV.same (.below (Nat.le_refl _) h)).up hwn) hX ((hP.same (.below (Nat.le_refl _) h)).up hwn) hn
  have HMA0 := Lib.hid fun (hl : ms.length ≤ 1000) w' (h : Below w.heap.size w w') => Material_any w.heap.size mv ms w' hl (hV.same (.below (Nat.le_refl _) h)) h.size
  have HRU0 := Lib.hid fun (hl : rs.length ≤ 1000) (hs : ∀ q, q ∈ rs → q.ss.length ≤ 1000) w' (h : Below w.heap.size w w') => Runs_any w.heap.size (.slice ar rs.length capr) rs w' hl hs (hR.same (.below (Nat.le_refl _) h)) h.size
  have HPA0 := Lib.hid fun (hl : ss.length ≤ 1000) w' (h : Below w.heap.size w w') => Plan_any w.heap.size pv ss w' hl (hP.same (.below (Nat.le_refl _) h)) h.size
  have HRV := Lib.hid fun w' (h : Below w.heap.size w w') => hR.same (.below (n := w.heap.size) (Nat.le_refl _) h)
  have HSV := Lib.hid fun w' (h : Below w.heap.size w w') => hS.same (.below (n := w.heap.size) (Nat.le_refl _) h)
  obtain ⟨am, capm, rfl, -⟩ := hV
  obtain ⟨ap, capp, rfl, -⟩ := hP
  obtain ⟨sa, caps, rfl, -⟩ := hS
  obtain ⟨y0, y1⟩ := box2 w (.cells #[.slice am ms.length capm] 24) (.cells #[.slice sa r.ss.length caps, .int .i64 r.seen.lo, .int .i64 r.seen.hi] 90)
  have hbb := below2 w (.cells #[.slice am ms.length capm] 24) (.cells #[.slice sa r.ss.length caps, .int .i64 r.seen.lo, .int .i64 r.seen.hi] 90)
  have HA := Lib.hid awake_any
  have HST := Lib.hid hst
  have HB1 := Lib.hid (show (0 + rs.length) * 40 ≤ 140737488355328 by rw [Nat.zero_add]; exact Nat.le_trans (Nat.mul_le_mul_right 40 (Nat.le_succ _)) hbig)
  have HB2 := Lib.hid (show (0 + rs.length + 1) * 40 ≤ 140737488355328 by rw [Nat.zero_add]; exact hbig)
  have hbig' : rs.length + 1 ≤ 140737488355328 := Nat.le_trans (Nat.le_mul_of_pos_right _ (by decide)) hbig
  clear hbig
  have HM1 := Lib.hid (show 0 + rs.length ≤ maxLen by unfold maxLen; omega)
  have HM2 := Lib.hid (show 0 + rs.length + 1 ≤ maxLen by unfold maxLen; omega)
  have hwst : IntKind.i64.wrap st = st := IntWalk.i64_in _ (by omega)
  clear hR hst hbig'
  go_enter Try.func11, Try.ntmps11
  go_wp2
  generalize World.alloc (World.alloc w _) _ = A at *
  have HXA := Lib.hid y0
  have YR := Lib.hid y1
  have HBA := Lib.hid hbb
  clear y0 y1 hbb
  refine wp_region_noPanic ?_
  refine wp_region_acts (fun w' => Below A.heap.size A w') (fun _ _ h hb => grow_to h hb) (below_drawn _) (by kernel_rfl) (fun _ _ _ _ _ h => h)
    [.take 1, .take 3, .float 4, .act 0, .act 2, .join, .act 5] [6] (by kernel_rfl) ?_
  (refine GWalk.takes rfl rfl ?_; apply Exists.intro; refine ⟨fun w' hS => ?_, ?_⟩; (clear hS; go_simp; with_reducible rfl); simp only [List.getElem_toArray, List.getElem_cons_succ, List.getElem_cons_zero, Act.put, List.setIfInBounds_toArray, List.set_cons_zero, List.set_cons_succ])
  refine GWalk.takes rfl rfl ?_; apply Exists.intro; refine ⟨fun w' hS => ?_, ?_⟩
  · have z := (hS.block _ (lt_of_block YR.out)).trans YR.out
    have d0 := cell_of_row w' _ 0 _ _ _ z
    have d1 := cell_of_row w' _ 1 _ _ _ z
    have d2 := cell_of_row w' _ 2 _ _ _ z
    simp only [List.getElem?_toArray, List.getElem?_cons_zero, List.getElem?_cons_succ] at d0 d1 d2
    have d3 := lt_of_block z
    clear hS z
    go_simp
    with_reducible rfl
  simp only [List.getElem_toArray, List.getElem_cons_succ, List.getElem_cons_zero, Act.put, List.setIfInBounds_toArray, List.set_cons_zero, List.set_cons_succ]
  refine GWalk.floats (.cells #[.slice sa r.ss.length caps, .int .i64 r.seen.lo, .int .i64 r.seen.hi] 90) (fun b => .slice (some ⟨b, 0, none⟩) 1 1) rfl rfl rfl (fun w1 => exec_buildSlice 25 90 1 _ rfl el25.u #[.slice sa r.ss.length caps, .int .i64 r.seen.lo, .int .i64 r.seen.hi] (by kernel_rfl)) ?_
  simp only [List.nil_append, List.cons_append]
  refine GWalk.acts rfl rfl fun e1 he1 hSe1 hOe1 => ?_
  have hA1 := grow_to (below_drawn A) he1
  have hA2 := grow_to hA1 (box_below e1 (.cells #[] 90 (0, 0)))
  refine ⟨.slice (some ⟨e1.heap.size, 0, none⟩) 0 0, e1.alloc (.cells #[] 90 (0, 0)), Mine (fun _ => False) e1 _, by kernel_rfl, hA2, kept_alloc _ e1 _ hOe1, ?_⟩
  simp only [List.getElem_toArray, List.getElem_cons_succ, List.getElem_cons_zero, Act.put, List.setIfInBounds_toArray, List.set_cons_zero, List.set_cons_succ]
  have ho1 := act_empty 90 3 A.heap.size e1 hA1.size
  have hm1 := mine_empty e1 (.cells #[] 90 (0, 0))
  clear hSe1 hOe1 he1 hA1
  generalize e1.alloc (.cells #[] 90 (0, 0)) = f1 at *
  refine GWalk.acts rfl rfl fun e2 he2 hSe2 hOe2 => ?_
  have hA3 := grow_to hA2 he2
  obtain ⟨xs, hx0, hp1, hp2, hx1⟩ := runs_cells0 (HRV.out e2 (below_to HBA.out hA3))
  obtain ⟨v2, f2, hr2, ho2, hb2, hk2, hm2, -⟩ := act_app2 el25 A.heap.size 0 (.slice (some ⟨e1.heap.size, 0, none⟩) 0 0) [] ar rs.length capr xs e2 (Mine (fun _ => False) e1 f1) 25 HM1.out HB1.out (row_kept ho1 he2) hA3.size hx0.1 hp1 hp2 hx1 hm1 hOe2
  have hA4 := hA3.trans hb2
  refine ⟨v2, f2, _, exec_append (.tmp 31) (.tmp 32) rfl rfl rfl hr2, hA4, hk2, ?_⟩
  simp only [List.getElem_toArray, List.getElem_cons_succ, List.getElem_cons_zero, Act.put, List.setIfInBounds_toArray, List.set_cons_zero, List.set_cons_succ]
  have hx2 : RunX w.heap.size f2 rs xs := hx0.same (fun k hk => hb2.block k (by have := HBA.out.size; omega))
  clear hr2 hp1 hp2 hSe2 hOe2 he2 hA3 hA2 ho1 hb2 hk2 hm1 hx0
  refine GWalk.joins fun e3 bJ he3 hj1 hj2 hj3 hj4 => ?_
  simp only [List.getElem_toArray, List.getElem_cons_succ, List.getElem_cons_zero, Act.put, List.setIfInBounds_toArray, List.set_cons_zero, List.set_cons_succ]
  refine GWalk.acts rfl rfl fun e4 he4 hSe4 hOe4 => ?_
  have he34 := grow_to he3 he4
  have hA5 := grow_to hA4 he34
  have hj5 := (he4.block _ hj2).trans hj4
  obtain ⟨v3, f3, hr3, ho3, hb3, hk3, hm3, -⟩ := act_app2 el25 A.heap.size (0 + rs.length) v2 ([] ++ xs) (some ⟨bJ, 0, none⟩) 1 1 [.slice sa r.ss.length caps, .int .i64 r.seen.lo, .int .i64 r.seen.hi] e4 _ 25 HM2.out HB2.out (row_kept ho2 he34) hA5.size rfl (fun h => by cases h) (fun _ => ⟨bJ, 0, rfl, fun j u hj => by rw [Nat.zero_add, cell_of_row e4 bJ j _ _ _ hj5]; simpa using hj⟩) (by simp [Value.oneCell']) hm2 hOe4
  have hA6 := hA5.trans hb3
  refine ⟨v3, f3, _, exec_append (.tmp 33) (.tmp 35) rfl rfl rfl hr3, hA6, hk3, ?_⟩
  simp only [List.getElem_toArray, List.getElem_cons_succ, List.getElem_cons_zero, Act.put, List.setIfInBounds_toArray, List.set_cons_zero, List.set_cons_succ]
  have hx3 : RunX w.heap.size f3 rs xs := hx2.same (fun k hk => (hb3.block k (by have := HBA.out.size; omega)).trans (he34.block k (by have := HBA.out.size; have := hA4.size; omega)))
  clear hr3 hSe4 hOe4 he34 he3 he4 hA4 hA5 hj1 hj2 hj3 hj4 hj5 ho2 hb3 hk3 hm2 hm3 hx2
  refine GWalk.fin fun e6 he6 hSe6 => ?_
  have hA9 := grow_to hA6 he6
  have ho6 := row_kept ho3 he6
  have hx6 := (hx3.same (.below (by have := HBA.out.size; have := hA6.size; omega) he6)).snoc (HSV.out e6 (below_to HBA.out hA9))
  clear hA6 ho3 he6 hx3 hSe6 YR
  obtain ⟨rs1, HE1⟩ : ∃ rs1, Hid (rs1 = rs ++ [r]) := ⟨_, Lib.hid rfl⟩
  rw [← HE1.out] at hx6
  have hl1 : rs1.length = rs.length + 1 := by rw [HE1.out]; simp
  have hln : 0 + rs.length + 1 = rs1.length := by omega
  rw [hln, List.nil_append] at ho6
  have hxv := RunX.runs hx6 (by have := hA9.size; have := HBA.out.size; omega) ho6
  obtain ⟨xa, xc, rfl, -⟩ := own_capd ho6
  have HXV := Lib.hid hxv
  have HL1 := Lib.hid hl1
  clear hln hl1 hxv hx6 ho6 hx1
  refine Tail.value rfl rfl (by go_simp; with_reducible rfl) (Tail.done (NoPanic.normal ?_))
  simp only [List.getElem_toArray, List.getElem_cons_succ, List.getElem_cons_zero, Act.put, List.setIfInBounds_toArray, List.set_cons_zero, List.set_cons_succ]
  replace HXA := Lib.hid ((hA9.block _ (lt_of_block HXA.out)).trans HXA.out)
  replace HBA := Lib.hid (below_to HBA.out hA9)
  clear hA9 HSV HRV
  generalize e6 = A1 at *
  have c0 := cell_of_row A1 w.heap.size 0 _ _ _ HXA.out
  simp only [List.getElem?_toArray, List.getElem?_cons_zero] at c0
  have l0 := lt_of_block HXA.out
  cases hz1 : readyB ms rs ss with
  | false =>
    go_wp2_with fail
    have hq := HR.out A1 HBA.out
    rw [hz1] at hq
    refine (hq).mono ?_
    rintro e u0 ⟨rfl, hb⟩
    replace HXA := Lib.hid ((hb.block _ (lt_of_block HXA.out)).trans HXA.out)
    replace HBA := Lib.hid (below_to HBA.out hb)
    replace HXV := Lib.hid ((HXV.out.same (.below (Nat.le_refl _) hb)).up hb.size)
    clear hb
    clear c0 l0 hz1 hq
    go_wp2_with fail
    refine (HA.out u0).mono ?_
    rintro e u1 ⟨rfl, hb⟩
    have HBF := Lib.hid (below_to HBA.out hb)
    clear hb
    go_wp2
    go_ret
    exact ⟨rfl, HBF.out⟩
  | true =>
    have HK := Lib.hid (readyB_ok hz1).1
    have HPO := Lib.hid (readyB_ok hz1).2
    have hq := HR.out A1 HBA.out
    rw [hz1] at hq
    clear hz1
    go_wp2_with fail
    refine (hq).mono ?_
    rintro e u0 ⟨rfl, hb⟩
    replace HXA := Lib.hid ((hb.block _ (lt_of_block HXA.out)).trans HXA.out)
    replace HBA := Lib.hid (below_to HBA.out hb)
    replace HXV := Lib.hid ((HXV.out.same (.below (Nat.le_refl _) hb)).up hb.size)
    clear hb
    clear c0 l0 hq
    have c0 := cell_of_row u0 w.heap.size 0 _ _ _ HXA.out
    simp only [List.getElem?_toArray, List.getElem?_cons_zero] at c0
    have l0 := lt_of_block HXA.out
    go_wp2_with fail
    have hq := HR2.out u0 HBA.out u0.heap.size _ rs1 HXV.out HBA.out.size (Nat.le_refl _)
    refine (hq).mono ?_
    rintro e u1 ⟨rfl, hb⟩
    replace HXA := Lib.hid ((hb.block _ (lt_of_block HXA.out)).trans HXA.out)
    replace HBA := Lib.hid (below_to HBA.out hb)
    replace HXV := Lib.hid ((HXV.out.same (.below (Nat.le_refl _) hb)).up hb.size)
    clear hb
    clear c0 l0 hq HR HR2
    cases hz2 : readyB ms rs1 ss with
    | false =>
      clear hz2
      go_wp2_with fail
      refine (HA.out u1).mono ?_
      rintro e u2 ⟨rfl, hb⟩
      have HBF := Lib.hid (below_to HBA.out hb)
      clear hb
      go_wp2
      go_ret
      exact ⟨rfl, HBF.out⟩
    | true =>
      have HK1 := Lib.hid (readyB_ok hz2).1
      clear hz2
      have h1pos : 0 < rs1.length := by have := HL1.out; omega
      have hk1 := HK1.out.len
      obtain ⟨xa', xc', e, hxp⟩ := HXV.out
      cases e
      obtain ⟨bx, ox, rfl, hbxl, -⟩ := hxp h1pos
      obtain ⟨xs2, hxs, hxc, hx1, -⟩ := runs_cells h1pos (HXV.out.same (.below (Nat.le_refl _) (box_below u1 (.cells #[] 90 (0, 0)))))
      obtain ⟨g2, cx2, w4, hrun, hown, hb4, -, hg2⟩ := app_all el25 u1.heap.size 0 25 (.slice (some ⟨u1.heap.size, 0, none⟩) 0 0) [] bx ox rs1.length xc xs2 (u1.alloc (.cells #[] 90 (0, 0))) h1pos (by omega) (act_empty 90 3 u1.heap.size u1 (Nat.le_refl _)) (by simp) hxs.1 hxc hx1
      rw [Nat.zero_add] at hrun hown
      rw [List.nil_append] at hown
      have hb14 : Below u1.heap.size u1 w4 := (box_below u1 _).trans hb4
      have hrow := RowR.of rfl h1pos (hxs.same (fun k hk => hb4.block k hk)) hb14.size hown
      have hmg : u1.heap.size ≤ g2 := by
        rcases hg2 with h | h
        · simp [Value.ownBlock] at h; omega
        · simp at h; omega
      have hjn : rs.length < rs1.length := by have := HL1.out; omega
      have hji : (rs.length : Int) < (rs1.length : Int) := by omega
      obtain ⟨sv9, q0, q1, q2, -⟩ := hrow.runs rs.length hjn
      have fr1 := hrow.fresh (rs.length * 3 + 1)
      have fr2 := hrow.fresh (rs.length * 3 + 2)
      have lg := hrow.here
      have hset := hrow.set_seen hmg hjn 0 10000000000 cx2
      have hse : rs1.set rs.length ⟨(rn rs1 rs.length).ss, ⟨0, 10000000000⟩⟩ = rs ++ [⟨r.ss, ⟨0, 10000000000⟩⟩] := by rw [HE1.out, set_last, rn_last]
      rw [hse] at hset
      have hbA : Below u1.heap.size u1 ((w4.setCell ⟨g2, rs.length * 3 + 1, none⟩ (.int .i64 0)).setCell ⟨g2, rs.length * 3 + 2, none⟩ (.int .i64 10000000000)) := (hb14.setCell (p := ⟨g2, rs.length * 3 + 1, none⟩) hmg _).setCell (p := ⟨g2, rs.length * 3 + 2, none⟩) hmg _
      have hsz : w4.heap.size = ((w4.setCell ⟨g2, rs.length * 3 + 1, none⟩ (.int .i64 0)).setCell ⟨g2, rs.length * 3 + 2, none⟩ (.int .i64 10000000000)).heap.size := by simp
      rw [hsz] at hset
      have c0 := cell_of_row _ w.heap.size 0 _ _ _ ((hbA.block _ (lt_of_block HXA.out)).trans HXA.out)
      have l0 := lt_of_block ((hbA.block _ (lt_of_block HXA.out)).trans HXA.out)
      simp only [List.getElem?_toArray, List.getElem?_cons_zero] at c0
      rw [show rs.length * 3 + 2 = rs.length * 3 + 1 + 1 from rfl] at c0 l0
      have HRUN := Lib.hid hrun
      have HSET := Lib.hid hset
      have HBX := Lib.hid hbA
      have HMA := Lib.hid (HMA0.out (by have := HK.out.mat.len; omega))
      have HRU := Lib.hid (HRU0.out (by have := HK.out.len; omega) (fun q hq => by have := (HK.out.rn q hq).len; omega))
      have HPA := Lib.hid (HPA0.out (by have := HPO.out.len; omega))
      have hone := HK.out.mat.one
      have hlen := HK.out.mat.len
      obtain ⟨rs2, HE2⟩ : ∃ rs2, Hid (rs2 = rs ++ [⟨r.ss, ⟨0, 10000000000⟩⟩]) := ⟨_, Lib.hid rfl⟩
      rw [← HE2.out] at HSET
      have HK2 : Hid (RoomOk ms rs2) := Lib.hid (by rw [HE2.out]; exact room_all (by rw [← HE1.out]; exact HK1.out))
      have HOK2 : Hid (okL ms rs2 = okL ms rs) := Lib.hid (by rw [HE2.out]; exact ok_all HK.out.mat (HK1.out.rn r (by rw [HE1.out]; simp)).toPlanOk)
      have HSUB : Hid (∀ x, x ∈ okL ms rs1 → x ∈ okL ms rs) := Lib.hid (fun x hx => by rw [HE1.out] at hx; exact sub_ok hx)
      have HNN : Hid ((okL ms rs1).length ≤ (okL ms rs).length) := Lib.hid (by rw [HE1.out]; exact sub_len ms rs r)
      clear hrun hset hbA hsz hse hb14 hb4 hown hrow hg2 hx1 hxc hxs hxp q0 hbxl HMA0 HRU0 HPA0
      go_wp2_with (first
        | (refine wpList_append_run (v := .slice (some ⟨g2, 0, none⟩) rs1.length cx2) (W' := w4) (y := .slice (some ⟨u1.heap.size, 0, none⟩) 0 0) (z := .slice (some ⟨bx, ox, none⟩) rs1.length xc) rfl (.tmp 50) (.tmp 51) 25 25 25 rfl rfl rfl rfl HRUN.out ?_)
        | fail)
      rw [show rs.length * 3 + 1 + 1 = rs.length * 3 + 2 from rfl]
      replace c0 : World.cell? _ _ = _ := c0
      clear q1 q2 fr1 fr2 lg sv9 hmg HRUN
      have hb := HBX.out
      replace HXA := Lib.hid ((hb.block _ (lt_of_block HXA.out)).trans HXA.out)
      replace HBA := Lib.hid (below_to HBA.out hb)
      replace HXV := Lib.hid ((HXV.out.same (.below (Nat.le_refl _) hb)).up hb.size)
      have HXW := Lib.hid HSET.out
      clear HSET HBX hb
      change Hid (RunsV (World.setCell _ _ _).heap.size (World.setCell _ _ _) _ _) at HXW
      rw [show rs.length * 3 + 1 + 1 = rs.length * 3 + 2 from rfl] at c0 l0
      generalize World.setCell (World.setCell w4 _ _) _ _ = A2 at *
      by_cases hne : okL ms rs = []
      · have HNE := Lib.hid hne
        have HNE1 : Hid (okL ms rs1 = []) := Lib.hid (by
          refine List.eq_nil_iff_forall_not_mem.2 fun x hx => ?_
          have := HSUB.out x hx
          rw [hne] at this
          cases this)
        have HNE2 : Hid (okL ms rs2 = []) := Lib.hid (by rw [HOK2.out]; exact hne)
        clear hne
        refine (HMA.out A2 HBA.out).mono ?_
        rintro e v2 ⟨⟨m6, rfl, hm6⟩, hb⟩
        replace HXA := Lib.hid ((hb.block _ (lt_of_block HXA.out)).trans HXA.out)
        replace HBA := Lib.hid (below_to HBA.out hb)
        replace HXV := Lib.hid ((HXV.out.same (.below (Nat.le_refl _) hb)).up hb.size)
        replace HXW := Lib.hid ((HXW.out.same (.below (Nat.le_refl _) hb)).up hb.size)
        clear hb
        have HM6 := Lib.hid hm6
        clear hm6 c0 l0
        go_wp2_with fail
        refine (HRU.out v2 HBA.out).mono ?_
        rintro e v3 ⟨⟨r7, rfl, hr7⟩, hb⟩
        replace HXA := Lib.hid ((hb.block _ (lt_of_block HXA.out)).trans HXA.out)
        replace HBA := Lib.hid (below_to HBA.out hb)
        replace HXV := Lib.hid ((HXV.out.same (.below (Nat.le_refl _) hb)).up hb.size)
        replace HXW := Lib.hid ((HXW.out.same (.below (Nat.le_refl _) hb)).up hb.size)
        replace HM6 := Lib.hid ((HM6.out.same (.below (Nat.le_refl _) hb)).up hb.size)
        clear hb
        have HV7 : Hid (RoomV v3.heap.size v3 m6 r7 ms rs) := Lib.hid ⟨Nat.le_refl _, HM6.out, hr7⟩
        clear hr7 HM6
        go_wp2_with fail
        refine (Rates_fail v3.heap.size m6 r7 ms rs v3 HK.out HV7.out HNE.out).mono ?_
        rintro e v4 ⟨rfl, hb⟩
        replace HXA := Lib.hid ((hb.block _ (lt_of_block HXA.out)).trans HXA.out)
        replace HBA := Lib.hid (below_to HBA.out hb)
        replace HXV := Lib.hid ((HXV.out.same (.below (Nat.le_refl _) hb)).up hb.size)
        replace HXW := Lib.hid ((HXW.out.same (.below (Nat.le_refl _) hb)).up hb.size)
        replace HV7 : Hid (RoomV _ _ _ _ _ _) := Lib.hid ⟨Nat.le_refl _, (HV7.out.below hb).m.up hb.size, (HV7.out.below hb).r.up hb.size⟩
        clear hb
        clear HV7
        have c0 := cell_of_row v4 w.heap.size 0 _ _ _ HXA.out
        simp only [List.getElem?_toArray, List.getElem?_cons_zero] at c0
        have l0 := lt_of_block HXA.out
        go_wp2_with fail
        refine (HMA.out v4 HBA.out).mono ?_
        rintro e v5 ⟨⟨m6, rfl, hm6⟩, hb⟩
        replace HXA := Lib.hid ((hb.block _ (lt_of_block HXA.out)).trans HXA.out)
        replace HBA := Lib.hid (below_to HBA.out hb)
        replace HXV := Lib.hid ((HXV.out.same (.below (Nat.le_refl _) hb)).up hb.size)
        replace HXW := Lib.hid ((HXW.out.same (.below (Nat.le_refl _) hb)).up hb.size)
        clear hb
        have HM6 := Lib.hid hm6
        clear hm6 c0 l0
        go_wp2_with fail
        have hru := Runs_any v5.heap.size _ rs1 v5 (by have := HK1.out.len; omega) (fun q hq => by have := (HK1.out.rn q hq).len; omega) HXV.out (Nat.le_refl _)
        refine (hru).mono ?_
        rintro e v6 ⟨⟨r7, rfl, hr7⟩, hb⟩
        replace HXA := Lib.hid ((hb.block _ (lt_of_block HXA.out)).trans HXA.out)
        replace HBA := Lib.hid (below_to HBA.out hb)
        replace HXV := Lib.hid ((HXV.out.same (.below (Nat.le_refl _) hb)).up hb.size)
        replace HXW := Lib.hid ((HXW.out.same (.below (Nat.le_refl _) hb)).up hb.size)
        replace HM6 := Lib.hid ((HM6.out.same (.below (Nat.le_refl _) hb)).up hb.size)
        clear hb
        have HV7 : Hid (RoomV v6.heap.size v6 m6 r7 ms rs1) := Lib.hid ⟨Nat.le_refl _, HM6.out, hr7⟩
        clear hr7 hru HM6
        go_wp2_with fail
        refine (Rates_fail v6.heap.size m6 r7 ms rs1 v6 HK1.out HV7.out HNE1.out).mono ?_
        rintro e v7 ⟨rfl, hb⟩
        replace HXA := Lib.hid ((hb.block _ (lt_of_block HXA.out)).trans HXA.out)
        replace HBA := Lib.hid (below_to HBA.out hb)
        replace HXV := Lib.hid ((HXV.out.same (.below (Nat.le_refl _) hb)).up hb.size)
        replace HXW := Lib.hid ((HXW.out.same (.below (Nat.le_refl _) hb)).up hb.size)
        replace HV7 : Hid (RoomV _ _ _ _ _ _) := Lib.hid ⟨Nat.le_refl _, (HV7.out.below hb).m.up hb.size, (HV7.out.below hb).r.up hb.size⟩
        clear hb
        clear HV7
        have c0 := cell_of_row v7 w.heap.size 0 _ _ _ HXA.out
        simp only [List.getElem?_toArray, List.getElem?_cons_zero] at c0
        have l0 := lt_of_block HXA.out
        go_wp2_with fail
        refine (HMA.out v7 HBA.out).mono ?_
        rintro e v8 ⟨⟨m6, rfl, hm6⟩, hb⟩
        replace HXA := Lib.hid ((hb.block _ (lt_of_block HXA.out)).trans HXA.out)
        replace HBA := Lib.hid (below_to HBA.out hb)
        replace HXV := Lib.hid ((HXV.out.same (.below (Nat.le_refl _) hb)).up hb.size)
        replace HXW := Lib.hid ((HXW.out.same (.below (Nat.le_refl _) hb)).up hb.size)
        clear hb
        have HM6 := Lib.hid hm6
        clear hm6 c0 l0
        go_wp2_with fail
        have hru := Runs_any v8.heap.size _ rs2 v8 (by have := HK2.out.len; omega) (fun q hq => by have := (HK2.out.rn q hq).len; omega) HXW.out (Nat.le_refl _)
        refine (hru).mono ?_
        rintro e v9 ⟨⟨r7, rfl, hr7⟩, hb⟩
        replace HXA := Lib.hid ((hb.block _ (lt_of_block HXA.out)).trans HXA.out)
        replace HBA := Lib.hid (below_to HBA.out hb)
        replace HXV := Lib.hid ((HXV.out.same (.below (Nat.le_refl _) hb)).up hb.size)
        replace HXW := Lib.hid ((HXW.out.same (.below (Nat.le_refl _) hb)).up hb.size)
        replace HM6 := Lib.hid ((HM6.out.same (.below (Nat.le_refl _) hb)).up hb.size)
        clear hb
        have HV7 : Hid (RoomV v9.heap.size v9 m6 r7 ms rs2) := Lib.hid ⟨Nat.le_refl _, HM6.out, hr7⟩
        clear hr7 hru HM6
        go_wp2_with fail
        refine (Rates_fail v9.heap.size m6 r7 ms rs2 v9 HK2.out HV7.out HNE2.out).mono ?_
        rintro e v10 ⟨rfl, hb⟩
        replace HXA := Lib.hid ((hb.block _ (lt_of_block HXA.out)).trans HXA.out)
        replace HBA := Lib.hid (below_to HBA.out hb)
        replace HXV := Lib.hid ((HXV.out.same (.below (Nat.le_refl _) hb)).up hb.size)
        replace HXW := Lib.hid ((HXW.out.same (.below (Nat.le_refl _) hb)).up hb.size)
        replace HV7 : Hid (RoomV _ _ _ _ _ _) := Lib.hid ⟨Nat.le_refl _, (HV7.out.below hb).m.up hb.size, (HV7.out.below hb).r.up hb.size⟩
        clear hb
        clear HV7
        have c0 := cell_of_row v10 w.heap.size 0 _ _ _ HXA.out
        simp only [List.getElem?_toArray, List.getElem?_cons_zero] at c0
        have l0 := lt_of_block HXA.out
        have hmm : ((ms.length : Int) == 0) = false := by rw [beq_eq_false_iff_ne]; omega
        have hmn : ((ms.length : Int) != 0) = true := by rw [bne_iff_ne]; omega
        go_wp2_with fail
        refine (HA.out v10).mono ?_
        rintro e vf ⟨rfl, hb⟩
        have HBF := Lib.hid (below_to HBA.out hb)
        clear hb
        go_wp2
        go_ret
        exact ⟨rfl, HBF.out⟩
      · have HNE := Lib.hid hne
        have HNE2 : Hid (okL ms rs2 ≠ []) := Lib.hid (by rw [HOK2.out]; exact hne)
        clear hne
        by_cases hne1 : okL ms rs1 = []
        · have HNE1 := Lib.hid hne1
          clear hne1
          refine (HMA.out A2 HBA.out).mono ?_
          rintro e v2 ⟨⟨m6, rfl, hm6⟩, hb⟩
          replace HXA := Lib.hid ((hb.block _ (lt_of_block HXA.out)).trans HXA.out)
          replace HBA := Lib.hid (below_to HBA.out hb)
          replace HXV := Lib.hid ((HXV.out.same (.below (Nat.le_refl _) hb)).up hb.size)
          replace HXW := Lib.hid ((HXW.out.same (.below (Nat.le_refl _) hb)).up hb.size)
          clear hb
          have HM6 := Lib.hid hm6
          clear hm6 c0 l0
          go_wp2_with fail
          refine (HRU.out v2 HBA.out).mono ?_
          rintro e v3 ⟨⟨r7, rfl, hr7⟩, hb⟩
          replace HXA := Lib.hid ((hb.block _ (lt_of_block HXA.out)).trans HXA.out)
          replace HBA := Lib.hid (below_to HBA.out hb)
          replace HXV := Lib.hid ((HXV.out.same (.below (Nat.le_refl _) hb)).up hb.size)
          replace HXW := Lib.hid ((HXW.out.same (.below (Nat.le_refl _) hb)).up hb.size)
          replace HM6 := Lib.hid ((HM6.out.same (.below (Nat.le_refl _) hb)).up hb.size)
          clear hb
          have HV7 : Hid (RoomV v3.heap.size v3 m6 r7 ms rs) := Lib.hid ⟨Nat.le_refl _, HM6.out, hr7⟩
          clear hr7 HM6
          go_wp2_with fail
          have hra := Rates_ok v3.heap.size m6 r7 ms rs v3 HK.out HV7.out HNE.out
          refine (hra).mono ?_
          rintro e v4 ⟨⟨va, rfl, hown⟩, hb⟩
          replace HXA := Lib.hid ((hb.block _ (lt_of_block HXA.out)).trans HXA.out)
          replace HBA := Lib.hid (below_to HBA.out hb)
          replace HXV := Lib.hid ((HXV.out.same (.below (Nat.le_refl _) hb)).up hb.size)
          replace HXW := Lib.hid ((HXW.out.same (.below (Nat.le_refl _) hb)).up hb.size)
          replace HV7 : Hid (RoomV _ _ _ _ _ _) := Lib.hid ⟨Nat.le_refl _, (HV7.out.below hb).m.up hb.size, (HV7.out.below hb).r.up hb.size⟩
          clear hb
          have RA := Lib.hid (own_rgs hown)
          clear hown hra
          clear HV7
          have c0 := cell_of_row v4 w.heap.size 0 _ _ _ HXA.out
          simp only [List.getElem?_toArray, List.getElem?_cons_zero] at c0
          have l0 := lt_of_block HXA.out
          go_wp2_with fail
          refine (HMA.out v4 HBA.out).mono ?_
          rintro e v5 ⟨⟨m6, rfl, hm6⟩, hb⟩
          replace HXA := Lib.hid ((hb.block _ (lt_of_block HXA.out)).trans HXA.out)
          replace HBA := Lib.hid (below_to HBA.out hb)
          replace HXV := Lib.hid ((HXV.out.same (.below (Nat.le_refl _) hb)).up hb.size)
          replace HXW := Lib.hid ((HXW.out.same (.below (Nat.le_refl _) hb)).up hb.size)
          replace RA := Lib.hid ((RA.out.same (.below (Nat.le_refl _) hb)).up hb.size)
          clear hb
          have HM6 := Lib.hid hm6
          clear hm6 c0 l0
          go_wp2_with fail
          have hru := Runs_any v5.heap.size _ rs1 v5 (by have := HK1.out.len; omega) (fun q hq => by have := (HK1.out.rn q hq).len; omega) HXV.out (Nat.le_refl _)
          refine (hru).mono ?_
          rintro e v6 ⟨⟨r7, rfl, hr7⟩, hb⟩
          replace HXA := Lib.hid ((hb.block _ (lt_of_block HXA.out)).trans HXA.out)
          replace HBA := Lib.hid (below_to HBA.out hb)
          replace HXV := Lib.hid ((HXV.out.same (.below (Nat.le_refl _) hb)).up hb.size)
          replace HXW := Lib.hid ((HXW.out.same (.below (Nat.le_refl _) hb)).up hb.size)
          replace RA := Lib.hid ((RA.out.same (.below (Nat.le_refl _) hb)).up hb.size)
          replace HM6 := Lib.hid ((HM6.out.same (.below (Nat.le_refl _) hb)).up hb.size)
          clear hb
          have HV7 : Hid (RoomV v6.heap.size v6 m6 r7 ms rs1) := Lib.hid ⟨Nat.le_refl _, HM6.out, hr7⟩
          clear hr7 hru HM6
          go_wp2_with fail
          refine (Rates_fail v6.heap.size m6 r7 ms rs1 v6 HK1.out HV7.out HNE1.out).mono ?_
          rintro e v7 ⟨rfl, hb⟩
          replace HXA := Lib.hid ((hb.block _ (lt_of_block HXA.out)).trans HXA.out)
          replace HBA := Lib.hid (below_to HBA.out hb)
          replace HXV := Lib.hid ((HXV.out.same (.below (Nat.le_refl _) hb)).up hb.size)
          replace HXW := Lib.hid ((HXW.out.same (.below (Nat.le_refl _) hb)).up hb.size)
          replace RA := Lib.hid ((RA.out.same (.below (Nat.le_refl _) hb)).up hb.size)
          replace HV7 : Hid (RoomV _ _ _ _ _ _) := Lib.hid ⟨Nat.le_refl _, (HV7.out.below hb).m.up hb.size, (HV7.out.below hb).r.up hb.size⟩
          clear hb
          clear HV7
          have c0 := cell_of_row v7 w.heap.size 0 _ _ _ HXA.out
          simp only [List.getElem?_toArray, List.getElem?_cons_zero] at c0
          have l0 := lt_of_block HXA.out
          go_wp2_with fail
          refine (HMA.out v7 HBA.out).mono ?_
          rintro e v8 ⟨⟨m6, rfl, hm6⟩, hb⟩
          replace HXA := Lib.hid ((hb.block _ (lt_of_block HXA.out)).trans HXA.out)
          replace HBA := Lib.hid (below_to HBA.out hb)
          replace HXV := Lib.hid ((HXV.out.same (.below (Nat.le_refl _) hb)).up hb.size)
          replace HXW := Lib.hid ((HXW.out.same (.below (Nat.le_refl _) hb)).up hb.size)
          replace RA := Lib.hid ((RA.out.same (.below (Nat.le_refl _) hb)).up hb.size)
          clear hb
          have HM6 := Lib.hid hm6
          clear hm6 c0 l0
          go_wp2_with fail
          have hru := Runs_any v8.heap.size _ rs2 v8 (by have := HK2.out.len; omega) (fun q hq => by have := (HK2.out.rn q hq).len; omega) HXW.out (Nat.le_refl _)
          refine (hru).mono ?_
          rintro e v9 ⟨⟨r7, rfl, hr7⟩, hb⟩
          replace HXA := Lib.hid ((hb.block _ (lt_of_block HXA.out)).trans HXA.out)
          replace HBA := Lib.hid (below_to HBA.out hb)
          replace HXV := Lib.hid ((HXV.out.same (.below (Nat.le_refl _) hb)).up hb.size)
          replace HXW := Lib.hid ((HXW.out.same (.below (Nat.le_refl _) hb)).up hb.size)
          replace RA := Lib.hid ((RA.out.same (.below (Nat.le_refl _) hb)).up hb.size)
          replace HM6 := Lib.hid ((HM6.out.same (.below (Nat.le_refl _) hb)).up hb.size)
          clear hb
          have HV7 : Hid (RoomV v9.heap.size v9 m6 r7 ms rs2) := Lib.hid ⟨Nat.le_refl _, HM6.out, hr7⟩
          clear hr7 hru HM6
          go_wp2_with fail
          have hra := Rates_ok v9.heap.size m6 r7 ms rs2 v9 HK2.out HV7.out HNE2.out
          rw [HOK2.out] at hra
          refine (hra).mono ?_
          rintro e v10 ⟨⟨vc, rfl, hown⟩, hb⟩
          replace HXA := Lib.hid ((hb.block _ (lt_of_block HXA.out)).trans HXA.out)
          replace HBA := Lib.hid (below_to HBA.out hb)
          replace HXV := Lib.hid ((HXV.out.same (.below (Nat.le_refl _) hb)).up hb.size)
          replace HXW := Lib.hid ((HXW.out.same (.below (Nat.le_refl _) hb)).up hb.size)
          replace RA := Lib.hid ((RA.out.same (.below (Nat.le_refl _) hb)).up hb.size)
          replace HV7 : Hid (RoomV _ _ _ _ _ _) := Lib.hid ⟨Nat.le_refl _, (HV7.out.below hb).m.up hb.size, (HV7.out.below hb).r.up hb.size⟩
          clear hb
          have RC := Lib.hid (own_rgs hown)
          clear hown hra
          clear RC
          clear HV7
          have c0 := cell_of_row v10 w.heap.size 0 _ _ _ HXA.out
          simp only [List.getElem?_toArray, List.getElem?_cons_zero] at c0
          have l0 := lt_of_block HXA.out
          have hmm : ((ms.length : Int) == 0) = false := by rw [beq_eq_false_iff_ne]; omega
          have hmn : ((ms.length : Int) != 0) = true := by rw [bne_iff_ne]; omega
          obtain ⟨aa, ca, ea, -⟩ := RA.out
          rw [rangesL_len] at ea
          subst ea
          have hnn := HNN.out
          have h00 : (okL ms rs1).length = 0 := by rw [HNE1.out]; rfl
          clear hnn h00 HNN
          generalize (okL ms rs).length = N0 at *
          have hN0 : ¬ ((N0 : Int) < 0) := by omega
          have hN0' : decide ((N0 : Int) < 0) = false := by simp
          go_wp2_with fail
          refine (HA.out v10).mono ?_
          rintro e vf ⟨rfl, hb⟩
          have HBF := Lib.hid (below_to HBA.out hb)
          clear hb
          go_wp2
          go_ret
          exact ⟨rfl, HBF.out⟩
        · have HNE1 := Lib.hid hne1
          clear hne1
          refine (HMA.out A2 HBA.out).mono ?_
          rintro e v2 ⟨⟨m6, rfl, hm6⟩, hb⟩
          replace HXA := Lib.hid ((hb.block _ (lt_of_block HXA.out)).trans HXA.out)
          replace HBA := Lib.hid (below_to HBA.out hb)
          replace HXV := Lib.hid ((HXV.out.same (.below (Nat.le_refl _) hb)).up hb.size)
          replace HXW := Lib.hid ((HXW.out.same (.below (Nat.le_refl _) hb)).up hb.size)
          clear hb
          have HM6 := Lib.hid hm6
          clear hm6 c0 l0
          go_wp2_with fail
          refine (HRU.out v2 HBA.out).mono ?_
          rintro e v3 ⟨⟨r7, rfl, hr7⟩, hb⟩
          replace HXA := Lib.hid ((hb.block _ (lt_of_block HXA.out)).trans HXA.out)
          replace HBA := Lib.hid (below_to HBA.out hb)
          replace HXV := Lib.hid ((HXV.out.same (.below (Nat.le_refl _) hb)).up hb.size)
          replace HXW := Lib.hid ((HXW.out.same (.below (Nat.le_refl _) hb)).up hb.size)
          replace HM6 := Lib.hid ((HM6.out.same (.below (Nat.le_refl _) hb)).up hb.size)
          clear hb
          have HV7 : Hid (RoomV v3.heap.size v3 m6 r7 ms rs) := Lib.hid ⟨Nat.le_refl _, HM6.out, hr7⟩
          clear hr7 HM6
          go_wp2_with fail
          have hra := Rates_ok v3.heap.size m6 r7 ms rs v3 HK.out HV7.out HNE.out
          refine (hra).mono ?_
          rintro e v4 ⟨⟨va, rfl, hown⟩, hb⟩
          replace HXA := Lib.hid ((hb.block _ (lt_of_block HXA.out)).trans HXA.out)
          replace HBA := Lib.hid (below_to HBA.out hb)
          replace HXV := Lib.hid ((HXV.out.same (.below (Nat.le_refl _) hb)).up hb.size)
          replace HXW := Lib.hid ((HXW.out.same (.below (Nat.le_refl _) hb)).up hb.size)
          replace HV7 : Hid (RoomV _ _ _ _ _ _) := Lib.hid ⟨Nat.le_refl _, (HV7.out.below hb).m.up hb.size, (HV7.out.below hb).r.up hb.size⟩
          clear hb
          have RA := Lib.hid (own_rgs hown)
          clear hown hra
          clear HV7
          have c0 := cell_of_row v4 w.heap.size 0 _ _ _ HXA.out
          simp only [List.getElem?_toArray, List.getElem?_cons_zero] at c0
          have l0 := lt_of_block HXA.out
          go_wp2_with fail
          refine (HMA.out v4 HBA.out).mono ?_
          rintro e v5 ⟨⟨m6, rfl, hm6⟩, hb⟩
          replace HXA := Lib.hid ((hb.block _ (lt_of_block HXA.out)).trans HXA.out)
          replace HBA := Lib.hid (below_to HBA.out hb)
          replace HXV := Lib.hid ((HXV.out.same (.below (Nat.le_refl _) hb)).up hb.size)
          replace HXW := Lib.hid ((HXW.out.same (.below (Nat.le_refl _) hb)).up hb.size)
          replace RA := Lib.hid ((RA.out.same (.below (Nat.le_refl _) hb)).up hb.size)
          clear hb
          have HM6 := Lib.hid hm6
          clear hm6 c0 l0
          go_wp2_with fail
          have hru := Runs_any v5.heap.size _ rs1 v5 (by have := HK1.out.len; omega) (fun q hq => by have := (HK1.out.rn q hq).len; omega) HXV.out (Nat.le_refl _)
          refine (hru).mono ?_
          rintro e v6 ⟨⟨r7, rfl, hr7⟩, hb⟩
          replace HXA := Lib.hid ((hb.block _ (lt_of_block HXA.out)).trans HXA.out)
          replace HBA := Lib.hid (below_to HBA.out hb)
          replace HXV := Lib.hid ((HXV.out.same (.below (Nat.le_refl _) hb)).up hb.size)
          replace HXW := Lib.hid ((HXW.out.same (.below (Nat.le_refl _) hb)).up hb.size)
          replace RA := Lib.hid ((RA.out.same (.below (Nat.le_refl _) hb)).up hb.size)
          replace HM6 := Lib.hid ((HM6.out.same (.below (Nat.le_refl _) hb)).up hb.size)
          clear hb
          have HV7 : Hid (RoomV v6.heap.size v6 m6 r7 ms rs1) := Lib.hid ⟨Nat.le_refl _, HM6.out, hr7⟩
          clear hr7 hru HM6
          go_wp2_with fail
          have hra := Rates_ok v6.heap.size m6 r7 ms rs1 v6 HK1.out HV7.out HNE1.out
          refine (hra).mono ?_
          rintro e v7 ⟨⟨vb, rfl, hown⟩, hb⟩
          replace HXA := Lib.hid ((hb.block _ (lt_of_block HXA.out)).trans HXA.out)
          replace HBA := Lib.hid (below_to HBA.out hb)
          replace HXV := Lib.hid ((HXV.out.same (.below (Nat.le_refl _) hb)).up hb.size)
          replace HXW := Lib.hid ((HXW.out.same (.below (Nat.le_refl _) hb)).up hb.size)
          replace RA := Lib.hid ((RA.out.same (.below (Nat.le_refl _) hb)).up hb.size)
          replace HV7 : Hid (RoomV _ _ _ _ _ _) := Lib.hid ⟨Nat.le_refl _, (HV7.out.below hb).m.up hb.size, (HV7.out.below hb).r.up hb.size⟩
          clear hb
          have RB := Lib.hid (own_rgs hown)
          clear hown hra
          clear HV7
          have c0 := cell_of_row v7 w.heap.size 0 _ _ _ HXA.out
          simp only [List.getElem?_toArray, List.getElem?_cons_zero] at c0
          have l0 := lt_of_block HXA.out
          go_wp2_with fail
          refine (HMA.out v7 HBA.out).mono ?_
          rintro e v8 ⟨⟨m6, rfl, hm6⟩, hb⟩
          replace HXA := Lib.hid ((hb.block _ (lt_of_block HXA.out)).trans HXA.out)
          replace HBA := Lib.hid (below_to HBA.out hb)
          replace HXV := Lib.hid ((HXV.out.same (.below (Nat.le_refl _) hb)).up hb.size)
          replace HXW := Lib.hid ((HXW.out.same (.below (Nat.le_refl _) hb)).up hb.size)
          replace RA := Lib.hid ((RA.out.same (.below (Nat.le_refl _) hb)).up hb.size)
          replace RB := Lib.hid ((RB.out.same (.below (Nat.le_refl _) hb)).up hb.size)
          clear hb
          have HM6 := Lib.hid hm6
          clear hm6 c0 l0
          go_wp2_with fail
          have hru := Runs_any v8.heap.size _ rs2 v8 (by have := HK2.out.len; omega) (fun q hq => by have := (HK2.out.rn q hq).len; omega) HXW.out (Nat.le_refl _)
          refine (hru).mono ?_
          rintro e v9 ⟨⟨r7, rfl, hr7⟩, hb⟩
          replace HXA := Lib.hid ((hb.block _ (lt_of_block HXA.out)).trans HXA.out)
          replace HBA := Lib.hid (below_to HBA.out hb)
          replace HXV := Lib.hid ((HXV.out.same (.below (Nat.le_refl _) hb)).up hb.size)
          replace HXW := Lib.hid ((HXW.out.same (.below (Nat.le_refl _) hb)).up hb.size)
          replace RA := Lib.hid ((RA.out.same (.below (Nat.le_refl _) hb)).up hb.size)
          replace RB := Lib.hid ((RB.out.same (.below (Nat.le_refl _) hb)).up hb.size)
          replace HM6 := Lib.hid ((HM6.out.same (.below (Nat.le_refl _) hb)).up hb.size)
          clear hb
          have HV7 : Hid (RoomV v9.heap.size v9 m6 r7 ms rs2) := Lib.hid ⟨Nat.le_refl _, HM6.out, hr7⟩
          clear hr7 hru HM6
          go_wp2_with fail
          have hra := Rates_ok v9.heap.size m6 r7 ms rs2 v9 HK2.out HV7.out HNE2.out
          rw [HOK2.out] at hra
          refine (hra).mono ?_
          rintro e v10 ⟨⟨vc, rfl, hown⟩, hb⟩
          replace HXA := Lib.hid ((hb.block _ (lt_of_block HXA.out)).trans HXA.out)
          replace HBA := Lib.hid (below_to HBA.out hb)
          replace HXV := Lib.hid ((HXV.out.same (.below (Nat.le_refl _) hb)).up hb.size)
          replace HXW := Lib.hid ((HXW.out.same (.below (Nat.le_refl _) hb)).up hb.size)
          replace RA := Lib.hid ((RA.out.same (.below (Nat.le_refl _) hb)).up hb.size)
          replace RB := Lib.hid ((RB.out.same (.below (Nat.le_refl _) hb)).up hb.size)
          replace HV7 : Hid (RoomV _ _ _ _ _ _) := Lib.hid ⟨Nat.le_refl _, (HV7.out.below hb).m.up hb.size, (HV7.out.below hb).r.up hb.size⟩
          clear hb
          have RC := Lib.hid (own_rgs hown)
          clear hown hra
          clear RC
          clear HV7
          have c0 := cell_of_row v10 w.heap.size 0 _ _ _ HXA.out
          simp only [List.getElem?_toArray, List.getElem?_cons_zero] at c0
          have l0 := lt_of_block HXA.out
          have hmm : ((ms.length : Int) == 0) = false := by rw [beq_eq_false_iff_ne]; omega
          have hmn : ((ms.length : Int) != 0) = true := by rw [bne_iff_ne]; omega
          obtain ⟨aa, ca, ea, -⟩ := RA.out
          rw [rangesL_len] at ea
          subst ea
          have hnn := HNN.out
          clear HNN
          generalize (okL ms rs).length = N0 at *
          have hN0 : ¬ ((N0 : Int) < 0) := by omega
          have hN0' : decide ((N0 : Int) < 0) = false := by simp
          obtain ⟨ab, cb, eb, -⟩ := RB.out
          rw [rangesL_len] at eb
          subst eb
          generalize (okL ms rs1).length = N1 at *
          have hN1 : ¬ ((N0 : Int) < (N1 : Int)) := by omega
          have hN1' : decide ((N0 : Int) < (N1 : Int)) = false := by simpa using hN1
          go_wp2_with fail
          clear c0 l0 hmm hmn hN0 hN0' hN1 hN1' hnn
          refine (HMA.out v10 HBA.out).mono ?_
          rintro e v11 ⟨⟨m6, rfl, hm6⟩, hb⟩
          replace HXA := Lib.hid ((hb.block _ (lt_of_block HXA.out)).trans HXA.out)
          replace HBA := Lib.hid (below_to HBA.out hb)
          replace HXV := Lib.hid ((HXV.out.same (.below (Nat.le_refl _) hb)).up hb.size)
          replace HXW := Lib.hid ((HXW.out.same (.below (Nat.le_refl _) hb)).up hb.size)
          replace RA := Lib.hid ((RA.out.same (.below (Nat.le_refl _) hb)).up hb.size)
          replace RB := Lib.hid ((RB.out.same (.below (Nat.le_refl _) hb)).up hb.size)
          clear hb
          have HM6 := Lib.hid hm6
          clear hm6
          go_wp2_with fail
          refine (HRU.out v11 HBA.out).mono ?_
          rintro e v12 ⟨⟨r7, rfl, hr7⟩, hb⟩
          replace HXA := Lib.hid ((hb.block _ (lt_of_block HXA.out)).trans HXA.out)
          replace HBA := Lib.hid (below_to HBA.out hb)
          replace HXV := Lib.hid ((HXV.out.same (.below (Nat.le_refl _) hb)).up hb.size)
          replace HXW := Lib.hid ((HXW.out.same (.below (Nat.le_refl _) hb)).up hb.size)
          replace RA := Lib.hid ((RA.out.same (.below (Nat.le_refl _) hb)).up hb.size)
          replace RB := Lib.hid ((RB.out.same (.below (Nat.le_refl _) hb)).up hb.size)
          replace HM6 := Lib.hid ((HM6.out.same (.below (Nat.le_refl _) hb)).up hb.size)
          clear hb
          have HV7 : Hid (RoomV v12.heap.size v12 m6 r7 ms rs) := Lib.hid ⟨Nat.le_refl _, HM6.out, hr7⟩
          clear hr7 HM6
          go_wp2_with fail
          refine (HPA.out v12 HBA.out).mono ?_
          rintro e v13 ⟨⟨p8, rfl, hp8⟩, hb⟩
          replace HXA := Lib.hid ((hb.block _ (lt_of_block HXA.out)).trans HXA.out)
          replace HBA := Lib.hid (below_to HBA.out hb)
          replace HXV := Lib.hid ((HXV.out.same (.below (Nat.le_refl _) hb)).up hb.size)
          replace HXW := Lib.hid ((HXW.out.same (.below (Nat.le_refl _) hb)).up hb.size)
          replace RA := Lib.hid ((RA.out.same (.below (Nat.le_refl _) hb)).up hb.size)
          replace RB := Lib.hid ((RB.out.same (.below (Nat.le_refl _) hb)).up hb.size)
          replace HV7 : Hid (RoomV _ _ _ _ _ _) := Lib.hid ⟨Nat.le_refl _, (HV7.out.below hb).m.up hb.size, (HV7.out.below hb).r.up hb.size⟩
          clear hb
          have HS8 := Lib.hid (own_segs (l := ss) hp8)
          clear hp8
          go_wp2_with fail
          have hst := Stretch_ok v13.heap.size m6 r7 p8 ms rs ss v13 HK.out HV7.out HPO.out HS8.out HNE.out
          obtain ⟨x0, E0L⟩ : ∃ x, Hid ((stretchL (okL ms rs) ss).lo = x) := ⟨_, Lib.hid rfl⟩
          obtain ⟨y0, E0H⟩ : ∃ x, Hid ((stretchL (okL ms rs) ss).hi = x) := ⟨_, Lib.hid rfl⟩
          rw [E0L.out, E0H.out] at hst
          refine (hst).mono ?_
          rintro e v14 ⟨rfl, hb⟩
          replace HXA := Lib.hid ((hb.block _ (lt_of_block HXA.out)).trans HXA.out)
          replace HBA := Lib.hid (below_to HBA.out hb)
          replace HXV := Lib.hid ((HXV.out.same (.below (Nat.le_refl _) hb)).up hb.size)
          replace HXW := Lib.hid ((HXW.out.same (.below (Nat.le_refl _) hb)).up hb.size)
          replace RA := Lib.hid ((RA.out.same (.below (Nat.le_refl _) hb)).up hb.size)
          replace RB := Lib.hid ((RB.out.same (.below (Nat.le_refl _) hb)).up hb.size)
          replace HV7 : Hid (RoomV _ _ _ _ _ _) := Lib.hid ⟨Nat.le_refl _, (HV7.out.below hb).m.up hb.size, (HV7.out.below hb).r.up hb.size⟩
          replace HS8 := Lib.hid ((HS8.out.same (.below (Nat.le_refl _) hb)).up hb.size)
          clear hb
          clear hst HV7 HS8
          have c0 := cell_of_row v14 w.heap.size 0 _ _ _ HXA.out
          simp only [List.getElem?_toArray, List.getElem?_cons_zero] at c0
          have l0 := lt_of_block HXA.out
          go_wp2_with fail
          have hbx := box_below v14 (.cells #[.int .i64 x0, .int .i64 y0] 50)
          have hnx := heap_alloc_new v14 (.cells #[.int .i64 x0, .int .i64 y0] 50)
          replace HXA := Lib.hid ((hbx.block _ (lt_of_block HXA.out)).trans HXA.out)
          replace HBA := Lib.hid (below_to HBA.out hbx)
          replace HXV := Lib.hid ((HXV.out.same (.below (Nat.le_refl _) hbx)).up hbx.size)
          replace HXW := Lib.hid ((HXW.out.same (.below (Nat.le_refl _) hbx)).up hbx.size)
          replace RA := Lib.hid ((RA.out.same (.below (Nat.le_refl _) hbx)).up hbx.size)
          replace RB := Lib.hid ((RB.out.same (.below (Nat.le_refl _) hbx)).up hbx.size)
          have BX := Lib.hid hnx
          clear hbx hnx
          generalize World.alloc v14 _ = v15 at *
          generalize v14.heap.size = bx1 at *
          refine (HMA.out v15 HBA.out).mono ?_
          rintro e v16 ⟨⟨m6, rfl, hm6⟩, hb⟩
          replace HXA := Lib.hid ((hb.block _ (lt_of_block HXA.out)).trans HXA.out)
          replace HBA := Lib.hid (below_to HBA.out hb)
          replace HXV := Lib.hid ((HXV.out.same (.below (Nat.le_refl _) hb)).up hb.size)
          replace HXW := Lib.hid ((HXW.out.same (.below (Nat.le_refl _) hb)).up hb.size)
          replace RA := Lib.hid ((RA.out.same (.below (Nat.le_refl _) hb)).up hb.size)
          replace RB := Lib.hid ((RB.out.same (.below (Nat.le_refl _) hb)).up hb.size)
          replace BX := Lib.hid ((hb.block _ (lt_of_block BX.out)).trans BX.out)
          clear hb
          have HM6 := Lib.hid hm6
          clear hm6 c0 l0
          go_wp2_with fail
          have hru := Runs_any v16.heap.size _ rs1 v16 (by have := HK1.out.len; omega) (fun q hq => by have := (HK1.out.rn q hq).len; omega) HXV.out (Nat.le_refl _)
          refine (hru).mono ?_
          rintro e v17 ⟨⟨r7, rfl, hr7⟩, hb⟩
          replace HXA := Lib.hid ((hb.block _ (lt_of_block HXA.out)).trans HXA.out)
          replace HBA := Lib.hid (below_to HBA.out hb)
          replace HXV := Lib.hid ((HXV.out.same (.below (Nat.le_refl _) hb)).up hb.size)
          replace HXW := Lib.hid ((HXW.out.same (.below (Nat.le_refl _) hb)).up hb.size)
          replace RA := Lib.hid ((RA.out.same (.below (Nat.le_refl _) hb)).up hb.size)
          replace RB := Lib.hid ((RB.out.same (.below (Nat.le_refl _) hb)).up hb.size)
          replace BX := Lib.hid ((hb.block _ (lt_of_block BX.out)).trans BX.out)
          replace HM6 := Lib.hid ((HM6.out.same (.below (Nat.le_refl _) hb)).up hb.size)
          clear hb
          have HV7 : Hid (RoomV v17.heap.size v17 m6 r7 ms rs1) := Lib.hid ⟨Nat.le_refl _, HM6.out, hr7⟩
          clear hr7 hru HM6
          go_wp2_with fail
          refine (HPA.out v17 HBA.out).mono ?_
          rintro e v18 ⟨⟨p8, rfl, hp8⟩, hb⟩
          replace HXA := Lib.hid ((hb.block _ (lt_of_block HXA.out)).trans HXA.out)
          replace HBA := Lib.hid (below_to HBA.out hb)
          replace HXV := Lib.hid ((HXV.out.same (.below (Nat.le_refl _) hb)).up hb.size)
          replace HXW := Lib.hid ((HXW.out.same (.below (Nat.le_refl _) hb)).up hb.size)
          replace RA := Lib.hid ((RA.out.same (.below (Nat.le_refl _) hb)).up hb.size)
          replace RB := Lib.hid ((RB.out.same (.below (Nat.le_refl _) hb)).up hb.size)
          replace BX := Lib.hid ((hb.block _ (lt_of_block BX.out)).trans BX.out)
          replace HV7 : Hid (RoomV _ _ _ _ _ _) := Lib.hid ⟨Nat.le_refl _, (HV7.out.below hb).m.up hb.size, (HV7.out.below hb).r.up hb.size⟩
          clear hb
          have HS8 := Lib.hid (own_segs (l := ss) hp8)
          clear hp8
          go_wp2_with fail
          have hst := Stretch_ok v18.heap.size m6 r7 p8 ms rs1 ss v18 HK1.out HV7.out HPO.out HS8.out HNE1.out
          obtain ⟨x1, E1L⟩ : ∃ x, Hid ((stretchL (okL ms rs1) ss).lo = x) := ⟨_, Lib.hid rfl⟩
          obtain ⟨y1, E1H⟩ : ∃ x, Hid ((stretchL (okL ms rs1) ss).hi = x) := ⟨_, Lib.hid rfl⟩
          rw [E1L.out, E1H.out] at hst
          refine (hst).mono ?_
          rintro e v19 ⟨rfl, hb⟩
          replace HXA := Lib.hid ((hb.block _ (lt_of_block HXA.out)).trans HXA.out)
          replace HBA := Lib.hid (below_to HBA.out hb)
          replace HXV := Lib.hid ((HXV.out.same (.below (Nat.le_refl _) hb)).up hb.size)
          replace HXW := Lib.hid ((HXW.out.same (.below (Nat.le_refl _) hb)).up hb.size)
          replace RA := Lib.hid ((RA.out.same (.below (Nat.le_refl _) hb)).up hb.size)
          replace RB := Lib.hid ((RB.out.same (.below (Nat.le_refl _) hb)).up hb.size)
          replace BX := Lib.hid ((hb.block _ (lt_of_block BX.out)).trans BX.out)
          replace HV7 : Hid (RoomV _ _ _ _ _ _) := Lib.hid ⟨Nat.le_refl _, (HV7.out.below hb).m.up hb.size, (HV7.out.below hb).r.up hb.size⟩
          replace HS8 := Lib.hid ((HS8.out.same (.below (Nat.le_refl _) hb)).up hb.size)
          clear hb
          clear hst HV7 HS8
          have c0 := cell_of_row v19 w.heap.size 0 _ _ _ HXA.out
          simp only [List.getElem?_toArray, List.getElem?_cons_zero] at c0
          have l0 := lt_of_block HXA.out
          have z0 := cell_of_row v19 bx1 0 _ _ _ BX.out
          have z1 := cell_of_row v19 bx1 1 _ _ _ BX.out
          simp only [List.getElem?_toArray, List.getElem?_cons_zero, List.getElem?_cons_succ] at z0 z1
          have lz := lt_of_block BX.out
          go_wp2_with fail
          have hbx := box_below v19 (.cells #[.int .i64 x1, .int .i64 y1] 50)
          have hnx := heap_alloc_new v19 (.cells #[.int .i64 x1, .int .i64 y1] 50)
          replace HXA := Lib.hid ((hbx.block _ (lt_of_block HXA.out)).trans HXA.out)
          replace HBA := Lib.hid (below_to HBA.out hbx)
          replace HXV := Lib.hid ((HXV.out.same (.below (Nat.le_refl _) hbx)).up hbx.size)
          replace HXW := Lib.hid ((HXW.out.same (.below (Nat.le_refl _) hbx)).up hbx.size)
          replace RA := Lib.hid ((RA.out.same (.below (Nat.le_refl _) hbx)).up hbx.size)
          replace RB := Lib.hid ((RB.out.same (.below (Nat.le_refl _) hbx)).up hbx.size)
          replace BX := Lib.hid ((hbx.block _ (lt_of_block BX.out)).trans BX.out)
          have BU := Lib.hid hnx
          clear hbx hnx z0 z1 lz c0 l0
          generalize World.alloc v19 _ = v20 at *
          generalize v19.heap.size = bu1 at *
          have hin : insideB ⟨x1, y1⟩ ⟨x0, y0⟩ = true := by
            have := sub_stretch HNE1.out HSUB.out ss
            rw [E0L.out, E0H.out, E1L.out, E1H.out] at this
            simp only [insideB, Bool.and_eq_true, decide_eq_true_eq]
            exact this
          have hic := inside_any ⟨x1, y1⟩ ⟨x0, y0⟩ v20
          rw [hin] at hic
          refine (hic).mono ?_
          rintro e v21 ⟨rfl, hb⟩
          replace HXA := Lib.hid ((hb.block _ (lt_of_block HXA.out)).trans HXA.out)
          replace HBA := Lib.hid (below_to HBA.out hb)
          replace HXV := Lib.hid ((HXV.out.same (.below (Nat.le_refl _) hb)).up hb.size)
          replace HXW := Lib.hid ((HXW.out.same (.below (Nat.le_refl _) hb)).up hb.size)
          replace RA := Lib.hid ((RA.out.same (.below (Nat.le_refl _) hb)).up hb.size)
          replace RB := Lib.hid ((RB.out.same (.below (Nat.le_refl _) hb)).up hb.size)
          replace BX := Lib.hid ((hb.block _ (lt_of_block BX.out)).trans BX.out)
          replace BU := Lib.hid ((hb.block _ (lt_of_block BU.out)).trans BU.out)
          clear hb
          clear hic hin BX BU
          go_wp2_with fail
          have hW0 := HBA.out
          have HW0 := Lib.hid hW0
          clear hW0
          have HCE : Hid (∀ w', Below v21.heap.size v21 w' → w'.heap[w.heap.size]? = some (.cells #[.slice am ms.length capm] 24 (0, 0))) := Lib.hid fun w' h => (h.block _ (lt_of_block HXA.out)).trans HXA.out
          have HRX := Lib.hid fun w' (h : Below v21.heap.size v21 w') => Runs_any v21.heap.size _ rs1 w' (by have := HK1.out.len; omega) (fun q hq => by have := (HK1.out.rn q hq).len; omega) (HXV.out.same (.below (Nat.le_refl _) h)) h.size
          have HPA1 : Hid (∀ w', Below v21.heap.size v21 w' → ∀ k, k < ms.length → ∃ b off, aa = some ⟨b, off, none⟩ ∧ b < v21.heap.size ∧ w'.cell? ⟨b, off + k * 2, none⟩ = some (.int .i64 (lowR (okL ms rs) k)) ∧ w'.cell? ⟨b, off + k * 2 + 1, none⟩ = some (.int .i64 (highR (okL ms rs) k))) := Lib.hid fun w' h k hk => by
            obtain ⟨a', c', e, hp⟩ := RA.out.same (.below (Nat.le_refl _) h)
            rw [rangesL_len] at e hp
            simp only [Value.slice.injEq] at e
            obtain ⟨rfl, -, rfl⟩ := e
            obtain ⟨b, off, e, hb, hc⟩ := hp (by omega)
            have := hc k hk
            rw [rg_ranges hk] at this
            exact ⟨b, off, e, hb, this⟩
          have HPB1 : Hid (∀ w', Below v21.heap.size v21 w' → ∀ k, k < ms.length → ∃ b off, ab = some ⟨b, off, none⟩ ∧ b < v21.heap.size ∧ w'.cell? ⟨b, off + k * 2, none⟩ = some (.int .i64 (lowR (okL ms rs1) k)) ∧ w'.cell? ⟨b, off + k * 2 + 1, none⟩ = some (.int .i64 (highR (okL ms rs1) k))) := Lib.hid fun w' h k hk => by
            obtain ⟨a', c', e, hp⟩ := RB.out.same (.below (Nat.le_refl _) h)
            rw [rangesL_len] at e hp
            simp only [Value.slice.injEq] at e
            obtain ⟨rfl, -, rfl⟩ := e
            obtain ⟨b, off, e, hb, hc⟩ := hp (by omega)
            have := hc k hk
            rw [rg_ranges hk] at this
            exact ⟨b, off, e, hb, this⟩
          clear RA RB HXV HXA HXW HBA
          go_loopw [26] (fun i wr => ∃ (k : Nat), k ≤ ms.length ∧ i = .int .i64 k ∧ Hid (Below v21.heap.size v21 wr)) (fun i _ => ms.length - (intOf i).toNat)
          case atStart => exact ⟨0, Nat.zero_le _, rfl, Lib.hid (Below.refl _ _)⟩
          case round =>
            obtain ⟨k, hk, rfl, HBK⟩ := hrel
            by_cases hkl : k < ms.length
            · have hkn : (k : Int) < ms.length := by omega
              have hwk : IntKind.i64.wrap ((k : Int) + 1) = (k : Int) + 1 := IntWalk.i64_in _ (by omega)
              have hk0 : (0 : Int) ≤ k ∧ (k : Int) < ms.length := by omega
              have HK0 := Lib.hid hk0
              clear hk0
              have c0 := cell_of_row wr w.heap.size 0 _ _ _ (HCE.out wr HBK.out)
              simp only [List.getElem?_toArray, List.getElem?_cons_zero] at c0
              have l0 := lt_of_block (HCE.out wr HBK.out)
              go_wp2_with fail
              refine (HMA.out wr (below_to HW0.out HBK.out)).mono ?_
              rintro e q0 ⟨⟨m6, rfl, hm6⟩, hb⟩
              replace HBK := Lib.hid (below_to HBK.out hb)
              clear hb
              have HM6 := Lib.hid hm6
              clear hm6 c0 l0
              go_wp2_with fail
              refine (HRU.out q0 (below_to HW0.out HBK.out)).mono ?_
              rintro e q1 ⟨⟨r7, rfl, hr7⟩, hb⟩
              replace HBK := Lib.hid (below_to HBK.out hb)
              replace HM6 := Lib.hid ((HM6.out.same (.below (Nat.le_refl _) hb)).up hb.size)
              clear hb
              have HV7 : Hid (RoomV q1.heap.size q1 m6 r7 ms rs) := Lib.hid ⟨Nat.le_refl _, HM6.out, hr7⟩
              clear hr7 HM6
              go_wp2_with fail
              have hli := Life_ok q1.heap.size m6 r7 ms rs k st q1 HK.out HV7.out HK0.out (by have := HST.out; omega) HNE.out
              obtain ⟨vl, Evl⟩ : ∃ x, Hid ((lifeL (okL ms rs) k st).lo = x) := ⟨_, Lib.hid rfl⟩
              obtain ⟨vh, Evh⟩ : ∃ x, Hid ((lifeL (okL ms rs) k st).hi = x) := ⟨_, Lib.hid rfl⟩
              rw [Evl.out, Evh.out] at hli
              refine (hli).mono ?_
              rintro e q2 ⟨rfl, hb⟩
              replace HBK := Lib.hid (below_to HBK.out hb)
              replace HV7 : Hid (RoomV _ _ _ _ _ _) := Lib.hid ⟨Nat.le_refl _, (HV7.out.below hb).m.up hb.size, (HV7.out.below hb).r.up hb.size⟩
              clear hb
              clear hli HV7
              have c0 := cell_of_row q2 w.heap.size 0 _ _ _ (HCE.out q2 HBK.out)
              simp only [List.getElem?_toArray, List.getElem?_cons_zero] at c0
              have l0 := lt_of_block (HCE.out q2 HBK.out)
              go_wp2_with fail
              have hbx := box_below q2 (.cells #[.int .i64 vl, .int .i64 vh] 50)
              have hnx := heap_alloc_new q2 (.cells #[.int .i64 vl, .int .i64 vh] 50)
              replace HBK := Lib.hid (below_to HBK.out hbx)
              have LV := Lib.hid hnx
              clear hbx hnx
              generalize World.alloc q2 _ = q3 at *
              generalize q2.heap.size = bv at *
              refine (HMA.out q3 (below_to HW0.out HBK.out)).mono ?_
              rintro e q4 ⟨⟨m6, rfl, hm6⟩, hb⟩
              replace HBK := Lib.hid (below_to HBK.out hb)
              replace LV := Lib.hid ((hb.block _ (lt_of_block LV.out)).trans LV.out)
              clear hb
              have HM6 := Lib.hid hm6
              clear hm6 c0 l0
              go_wp2_with fail
              refine (HRX.out q4 HBK.out).mono ?_
              rintro e q5 ⟨⟨r7, rfl, hr7⟩, hb⟩
              replace HBK := Lib.hid (below_to HBK.out hb)
              replace LV := Lib.hid ((hb.block _ (lt_of_block LV.out)).trans LV.out)
              replace HM6 := Lib.hid ((HM6.out.same (.below (Nat.le_refl _) hb)).up hb.size)
              clear hb
              have HV7 : Hid (RoomV q5.heap.size q5 m6 r7 ms rs1) := Lib.hid ⟨Nat.le_refl _, HM6.out, hr7⟩
              clear hr7 HM6
              go_wp2_with fail
              have hli := Life_ok q5.heap.size m6 r7 ms rs1 k st q5 HK1.out HV7.out HK0.out (by have := HST.out; omega) HNE1.out
              obtain ⟨wl, Ewl⟩ : ∃ x, Hid ((lifeL (okL ms rs1) k st).lo = x) := ⟨_, Lib.hid rfl⟩
              obtain ⟨wh, Ewh⟩ : ∃ x, Hid ((lifeL (okL ms rs1) k st).hi = x) := ⟨_, Lib.hid rfl⟩
              rw [Ewl.out, Ewh.out] at hli
              refine (hli).mono ?_
              rintro e q6 ⟨rfl, hb⟩
              replace HBK := Lib.hid (below_to HBK.out hb)
              replace LV := Lib.hid ((hb.block _ (lt_of_block LV.out)).trans LV.out)
              replace HV7 : Hid (RoomV _ _ _ _ _ _) := Lib.hid ⟨Nat.le_refl _, (HV7.out.below hb).m.up hb.size, (HV7.out.below hb).r.up hb.size⟩
              clear hb
              clear hli HV7
              go_wp2_with fail
              have hbx := box_below q6 (.cells #[.int .i64 wl, .int .i64 wh] 50)
              have hnx := heap_alloc_new q6 (.cells #[.int .i64 wl, .int .i64 wh] 50)
              replace HBK := Lib.hid (below_to HBK.out hbx)
              replace LV := Lib.hid ((hbx.block _ (lt_of_block LV.out)).trans LV.out)
              have LW := Lib.hid hnx
              clear hbx hnx
              generalize World.alloc q6 _ = q7 at *
              generalize q6.heap.size = bw at *
              obtain ⟨ba, oa, ea, la, a0, a1⟩ := HPA1.out q7 HBK.out k hkl
              obtain ⟨bb, ob, eb, lb, b0, b1⟩ := HPB1.out q7 HBK.out k hkl
              subst ea eb
              have ta : ba < q7.heap.size := by have := HBK.out.size; omega
              have tb : bb < q7.heap.size := by have := HBK.out.size; omega
              have bv0 := cell_of_row q7 bv 0 _ _ _ LV.out
              have bv1 := cell_of_row q7 bv 1 _ _ _ LV.out
              have tbv := lt_of_block LV.out
              have bw0 := cell_of_row q7 bw 0 _ _ _ LW.out
              have bw1 := cell_of_row q7 bw 1 _ _ _ LW.out
              have tbw := lt_of_block LW.out
              simp only [List.getElem?_toArray, List.getElem?_cons_zero, List.getElem?_cons_succ] at bv0 bv1 bw0 bw1
              have hlf := sub_life (i := k) (st := st) HNE1.out HSUB.out (fun x hx => ok_rates HK.out.mat hx) HST.out.1
              rw [Evl.out, Evh.out, Ewl.out, Ewh.out] at hlf
              have hrg := sub_ranges HNE1.out HSUB.out k
              generalize lowR (okL ms rs) k = rl at *
              generalize highR (okL ms rs) k = rh at *
              generalize lowR (okL ms rs1) k = tl at *
              generalize highR (okL ms rs1) k = th at *
              have hin : insideB ⟨tl, th⟩ ⟨rl, rh⟩ = true := by
                simp only [insideB, Bool.and_eq_true, decide_eq_true_eq]
                exact hrg
              have HIN := Lib.hid fun w => inside_any ⟨tl, th⟩ ⟨rl, rh⟩ w
              rw [hin] at HIN
              clear hin hrg
              have ga0 := cell_regrown a0
              have ga1 := cell_regrown a1
              have gb0 := cell_regrown b0
              have gb1 := cell_regrown b1
              have gbv0 := cell_regrown bv0
              have gbv1 := cell_regrown bv1
              have gbw0 := cell_regrown bw0
              have gbw1 := cell_regrown bw1
              clear a0 a1 b0 b1 bv0 bv1 bw0 bw1
              obtain ⟨h1, h2⟩ := hlf
              have H1 := Lib.hid h1
              have H2 := Lib.hid h2
              clear h1 h2
              have HC1 : Hid (vh = -1 ∨ (vh ≠ -1 ∧ wh ≠ -1 ∧ wh ≤ vh)) := Lib.hid (by by_cases h : vh = -1; exact .inl h; exact .inr ⟨h, H1.out h⟩)
              have HC2 : Hid (wl = -1 ∨ (wl ≠ -1 ∧ vl ≠ -1 ∧ vl ≤ wl)) := Lib.hid (by by_cases h : wl = -1; exact .inl h; exact .inr ⟨h, H2.out h⟩)
              have hc1 := HC1.out
              have hc2 := HC2.out
              clear H1 H2 HC1 HC2
              have key : ∀ (b1 b2 b3 : Bool), True := fun _ _ _ => trivial
              clear key
              rcases hc1 with rfl | ⟨p1, p2, p3⟩
              · rcases hc2 with rfl | ⟨r1, r2, r3⟩
                · as_aux_lemma =>
                    refine wp_region_quiet_below (by kernel_rfl) (by kernel_rfl) ?_
                    repeat (quiet_step (first | with_reducible exact Calls.regrown_of (HIN.out _)))
                    refine wpQuiet_nil ?_
                    intro _ hw'
                    obtain ⟨⟨dq, osq⟩, hw''⟩ := hw'
                    subst hw''
                    have hbr := Lib.hid (below_to HBK.out (below_regrown q7 dq osq))
                    clear ga0 ga1 gb0 gb1 gbv0 gbv1 gbw0 gbw1 HBK LV LW
                    go_wp2
                    go_roundw
                    case rel => exact ⟨k + 1, by omega, by simp, hbr⟩
                    case measure => simp [intOf]; omega
                · as_aux_lemma =>
                    have d1 : (wl == -1) = false := by simpa using r1
                    have d2 : (wl != -1) = true := by simpa using r1
                    have d3 : (vl == -1) = false := by simpa using r2
                    have d4 : ¬ (wl < vl) := by omega
                    have d5 : decide (wl < vl) = false := by simpa using d4
                    refine wp_region_quiet_below (by kernel_rfl) (by kernel_rfl) ?_
                    repeat (quiet_step (first | with_reducible exact Calls.regrown_of (HIN.out _)))
                    refine wpQuiet_nil ?_
                    intro _ hw'
                    obtain ⟨⟨dq, osq⟩, hw''⟩ := hw'
                    subst hw''
                    have hbr := Lib.hid (below_to HBK.out (below_regrown q7 dq osq))
                    clear ga0 ga1 gb0 gb1 gbv0 gbv1 gbw0 gbw1 HBK LV LW
                    go_wp2
                    go_roundw
                    case rel => exact ⟨k + 1, by omega, by simp, hbr⟩
                    case measure => simp [intOf]; omega
              · rcases hc2 with rfl | ⟨r1, r2, r3⟩
                · as_aux_lemma =>
                    have e1 : (vh == -1) = false := by simpa using p1
                    have e2 : (vh != -1) = true := by simpa using p1
                    have e3 : (wh == -1) = false := by simpa using p2
                    have e4 : ¬ (vh < wh) := by omega
                    have e5 : decide (vh < wh) = false := by simpa using e4
                    refine wp_region_quiet_below (by kernel_rfl) (by kernel_rfl) ?_
                    repeat (quiet_step (first | with_reducible exact Calls.regrown_of (HIN.out _)))
                    refine wpQuiet_nil ?_
                    intro _ hw'
                    obtain ⟨⟨dq, osq⟩, hw''⟩ := hw'
                    subst hw''
                    have hbr := Lib.hid (below_to HBK.out (below_regrown q7 dq osq))
                    clear ga0 ga1 gb0 gb1 gbv0 gbv1 gbw0 gbw1 HBK LV LW
                    go_wp2
                    go_roundw
                    case rel => exact ⟨k + 1, by omega, by simp, hbr⟩
                    case measure => simp [intOf]; omega
                · as_aux_lemma =>
                    have e1 : (vh == -1) = false := by simpa using p1
                    have e2 : (vh != -1) = true := by simpa using p1
                    have e3 : (wh == -1) = false := by simpa using p2
                    have e4 : ¬ (vh < wh) := by omega
                    have e5 : decide (vh < wh) = false := by simpa using e4
                    have d1 : (wl == -1) = false := by simpa using r1
                    have d2 : (wl != -1) = true := by simpa using r1
                    have d3 : (vl == -1) = false := by simpa using r2
                    have d4 : ¬ (wl < vl) := by omega
                    have d5 : decide (wl < vl) = false := by simpa using d4
                    refine wp_region_quiet_below (by kernel_rfl) (by kernel_rfl) ?_
                    repeat (quiet_step (first | with_reducible exact Calls.regrown_of (HIN.out _)))
                    refine wpQuiet_nil ?_
                    intro _ hw'
                    obtain ⟨⟨dq, osq⟩, hw''⟩ := hw'
                    subst hw''
                    have hbr := Lib.hid (below_to HBK.out (below_regrown q7 dq osq))
                    clear ga0 ga1 gb0 gb1 gbv0 gbv1 gbw0 gbw1 HBK LV LW
                    go_wp2
                    go_roundw
                    case rel => exact ⟨k + 1, by omega, by simp, hbr⟩
                    case measure => simp [intOf]; omega
            · obtain rfl : k = ms.length := by omega
              have HBA := Lib.hid (below_to HW0.out HBK.out)
              go_wp2_with fail
              refine (HA.out wr).mono ?_
              rintro e wf ⟨rfl, hb⟩
              have HBF := Lib.hid (below_to HBA.out hb)
              clear hb
              go_wp2
              go_ret
              exact ⟨rfl, HBF.out⟩
end Go.Proofs.Ytfijaafkagcmmaa
