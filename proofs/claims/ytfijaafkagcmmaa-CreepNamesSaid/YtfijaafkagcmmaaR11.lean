/- The law CreepLonger, walked where the room and the plan are valid. Condition: this. -/
import Derived.Test.YtfijaafkagcmmaaR10
import Derived.StillTailTactics
namespace Go.Proofs.Ytfijaafkagcmmaa
open Go.RowKit Go.Shelf
attribute [local irreducible] arrV wpQuiet

theorem wpList_append_run {ops : Array Oper} {rest : List Oper} {o : Oper} {a : Act} {Q : Exit → Act → World → Prop} {W W' : World} {v y z : Value} (hgd : o.guard = none) (s x : Operand) (t u ty : TypeId)
    (ho : o.op = .call { callee := .builtin .append, args := #[s, x], argTypes := #[t, u] }) (hs : a.eval s = y) (hx : a.eval x = z) (hty : o.type = ty) (hr : (Builtin.append_ #[t, u] ty #[y, z]).run Try.prog W = .ok v W')
    (h : wpList Try.prog ops Q rest (a.put o.dst v) W') : wpList Try.prog ops Q (o :: rest) a W := by
  refine wpList_plain hgd fun K hK => ?_
  unfold Oper.wp
  have : (execOp a.eval o).run Try.prog W = .ok (.value v) W' := by
    simp [execOp, ho, resolve, invoke, builtin, hs, hx, hty, hr, Result.andThen]
  rw [this]
  exact hK _ _ h

/-- What lies while the segments are added up. -/
structure LS (w : World) (A : Value) (b0 b1 b2 : Nat) (x0 y0 x1 y1 x2 y2 s t : Int) (wr : World) : Prop where
  xa : wr.heap[w.heap.size]? = some (.cells #[A] 24 (0, 0))
  eb0 : wr.heap[b0]? = some (.cells #[.int .i64 x0, .int .i64 y0] 50 (0, 0))
  eb1 : wr.heap[b1]? = some (.cells #[.int .i64 x1, .int .i64 y1] 50 (0, 0))
  eb2 : wr.heap[b2]? = some (.cells #[.int .i64 x2, .int .i64 y2] 50 (0, 0))
  bs : wr.heap[b2 + 1]? = some (.cells #[.int .i64 s, .int .i64 t] 50 (0, 0))
  ba : Below w.heap.size w wr
theorem LS.below {w : World} {A : Value} {b0 b1 b2 : Nat} {x0 y0 x1 y1 x2 y2 s t : Int} {wr wr' : World} (h : LS w A b0 b1 b2 x0 y0 x1 y1 x2 y2 s t wr) (hb : Below wr.heap.size wr wr') : LS w A b0 b1 b2 x0 y0 x1 y1 x2 y2 s t wr' :=
  ⟨(hb.block _ (lt_of_block h.xa)).trans h.xa, (hb.block _ (lt_of_block h.eb0)).trans h.eb0, (hb.block _ (lt_of_block h.eb1)).trans h.eb1, (hb.block _ (lt_of_block h.eb2)).trans h.eb2, (hb.block _ (lt_of_block h.bs)).trans h.bs, below_to h.ba hb⟩
theorem LS.step {w : World} {A : Value} {b0 b1 b2 : Nat} {x0 y0 x1 y1 x2 y2 s t : Int} {wr : World} (h : LS w A b0 b1 b2 x0 y0 x1 y1 x2 y2 s t wr) (s' t' : Int) (h0 : b0 < b2) (h1 : b1 < b2) (hw : w.heap.size < b2) :
    LS w A b0 b1 b2 x0 y0 x1 y1 x2 y2 s' t' ((wr.setCell ⟨b2 + 1, 0, none⟩ (.int .i64 s')).setCell ⟨b2 + 1, 1, none⟩ (.int .i64 t')) :=
  ⟨(put2_other _ _ _ _ _ (by omega)).trans h.xa, (put2_other _ _ _ _ _ (by omega)).trans h.eb0, (put2_other _ _ _ _ _ (by omega)).trans h.eb1, (put2_other _ _ _ _ _ (by omega)).trans h.eb2, put2 _ _ _ _ _ _ _ h.bs, put2_below _ _ h.ba (by omega)⟩

set_option maxRecDepth 100000 in
set_option maxHeartbeats 4000000 in
theorem longer_yes (mv rv : Value) (ap : Option Addr) (capp : Nat) (ms : List Rg) (rs : List Rn) (ss : List Sg) (a y : Int) (w : World) (ha : 0 ≤ a ∧ a < 256) (hy : 0 ≤ y ∧ y < 65536) (hV : RgsV w.heap.size w mv ms) (hR : RunsV w.heap.size w rv rs) (hP : SegsV w.heap.size w (.slice ap ss.length capp) ss) (hcap : ss.length ≤ capp) (hz : readyB ms rs ss = true) (h0 : 0 < ss.length) :
    Calls Try.prog 13 #[.agg #[mv], rv, .slice ap ss.length capp, .int .u8 a, .int .u16 y] w fun e w' => e = .returned (.bool true) ∧ Below w.heap.size w w' := by
  have HR := Lib.hid fun w' (h : Below w.heap.size w w') => ready_any w.heap.size mv rv (.slice ap ss.length capp) ms rs ss w' (hV.same (.below (Nat.le_refl _) h)) (hR.same (.below (Nat.le_refl _) h)) (hP.same (.below (Nat.le_refl _) h)) h.size
  rw [hz] at HR
  obtain ⟨hK, hPL⟩ := readyB_ok hz
  have hone := hK.mat.one
  have hlen := hK.mat.len
  have hrl := hK.len
  have hpl := hPL.len
  have HMA := Lib.hid fun w' (h : Below w.heap.size w w') => Material_any w.heap.size mv ms w' (by omega) (hV.same (.below (Nat.le_refl _) h)) h.size
  have HRU := Lib.hid fun w' (h : Below w.heap.size w w') => Runs_any w.heap.size rv rs w' (by omega) (fun r hr => by have := (hK.rn r hr).len; omega) (hR.same (.below (Nat.le_refl _) h)) h.size
  have HPA := Lib.hid fun w' (h : Below w.heap.size w w') => Plan_any w.heap.size (.slice ap ss.length capp) ss w' (by omega) (hP.same (.below (Nat.le_refl _) h)) h.size
  have HPV := Lib.hid fun w' (h : Below w.heap.size w w') => hP.same (.below (n := w.heap.size) (Nat.le_refl _) h)
  have HK := Lib.hid hK
  have HPO := Lib.hid hPL
  obtain ⟨am, capm, rfl, -⟩ := hV
  obtain ⟨ar, capr, rfl, -⟩ := hR
  obtain ⟨ap', capp', e, hpc⟩ := hP
  cases e
  have HPC := Lib.hid hpc
  have HX := Lib.hid (heap_alloc_new w (.cells #[.slice am ms.length capm] 24))
  have HB := Lib.hid (box_below w (.cells #[.slice am ms.length capm] 24))
  have HA := Lib.hid awake_any
  have hlpos : (0 : Int) < ss.length := by omega
  have hlne : (ss.length : Int) ≠ 0 := by omega
  have hwa : IntKind.i64.wrap a = a := IntWalk.i64_in _ (by omega)
  have hwy : IntKind.i64.wrap y = y := IntWalk.i64_in _ (by omega)
  obtain ⟨j, hj, hjn⟩ : ∃ j : Nat, a % (ss.length : Int) = j ∧ j < ss.length := by
    have h1 := Int.emod_nonneg a hlne
    have h2 := Int.emod_lt_of_pos a hlpos
    exact ⟨(a % ss.length).toNat, by omega, by omega⟩
  have hji : (j : Int) < ss.length := by omega
  have HY := Lib.hid hy
  have HA8 := Lib.hid ha
  clear hz hK hPL hpc
  go_enter Try.func13, Try.ntmps13
  go_wp2_with fail
  refine (HR.out _ HB.out).mono ?_
  rintro e w1 ⟨rfl, hb1⟩
  have HX1 := Lib.hid ((hb1.block _ (lt_of_block HX.out)).trans HX.out)
  have HB1 := Lib.hid (below_to HB.out hb1)
  clear hb1
  obtain ⟨g1, cx1, w4, hrun1, hrow1, hg1, hb4⟩ := app_copy w.heap.size ap capp 52 ss w1 h0 (by omega) (HPV.out w1 HB1.out) HB1.out.size
  have HB4 := Lib.hid (below_to HB1.out hb4)
  obtain ⟨g2, cx2, w5, hrun2, hrow2, hg2, hb5⟩ := app_copy w.heap.size ap capp 52 ss w4 h0 (by omega) (HPV.out w4 HB4.out) HB4.out.size
  have HB5 := Lib.hid (below_to HB4.out hb5)
  have HX5 := Lib.hid (((below_to hb4 hb5).block _ (lt_of_block HX1.out)).trans HX1.out)
  have hg12 : g1 ≠ g2 := by have := hrow1.lt; omega
  have hg1w : w.heap.size < g1 := by have := lt_of_block HX1.out; omega
  have hg2w : w.heap.size < g2 := by have := hrow1.lt; omega
  have R1 := Lib.hid (hrow1.below hb5)
  have R2 := Lib.hid hrow2
  have HRUN1 := Lib.hid hrun1
  have HRUN2 := Lib.hid hrun2
  clear hrun1 hrun2 hrow1 hrow2 hb4 hb5 hg1 hg2
  go_wp2_with (first
    | (refine wpList_append_run (v := .slice (some ⟨g1, 0, none⟩) ss.length cx1) (W' := w4) (y := .slice (some ⟨w1.heap.size, 0, none⟩) 0 0) (z := .slice ap ss.length capp) rfl (.tmp 40) (.tmp 41) 52 52 52 rfl rfl rfl rfl HRUN1.out ?_)
    | (refine wpList_append_run (v := .slice (some ⟨g2, 0, none⟩) ss.length cx2) (W' := w5) (y := .slice (some ⟨w4.heap.size, 0, none⟩) 0 0) (z := .slice ap ss.length capp) rfl (.tmp 43) (.tmp 44) 52 52 52 rfl rfl rfl rfl HRUN2.out ?_
       obtain ⟨q0, q1, q2⟩ := R1.out.segs j hjn
       obtain ⟨f0, f1, f2⟩ := R1.out.at_ hjn
       have l1 := R1.out.lt
       have hwz : IntKind.i64.wrap ((sg ss j).h.hi + y) = (sg ss j).h.hi + y := IntWalk.i64_in _ (by have := (HPO.out.sg _ (sg_mem hjn)).hi; have := (HPO.out.sg _ (sg_mem hjn)).le; have := (HPO.out.sg _ (sg_mem hjn)).lo; omega)
       )
    | fail)
  rw [show j * 3 + 1 + 1 = j * 3 + 2 from rfl]
  have hZ0 : min 1000000 ((sg ss j).h.hi + y) = hi1 ss j y := rfl
  rw [hZ0]
  have hL1 := R1.out.set hjn 2 (hi1 ss j y) ⟨(sg ss j).b, ⟨(sg ss j).h.lo, hi1 ss j y⟩⟩ (.inr (.inr ⟨rfl, rfl⟩))
  have hL2 := R2.out.other (o := j * 3 + 2) (v := .int .i64 (hi1 ss j y)) (Ne.symm hg12)
  have hXa := (heap_setCell_other w5 ⟨g1, j * 3 + 2, none⟩ w.heap.size (.int .i64 (hi1 ss j y)) (by show w.heap.size ≠ g1; omega)).trans HX5.out
  have hBa := HB5.out.setCell (p := ⟨g1, j * 3 + 2, none⟩) (by show w.heap.size ≤ g1; omega) (.int .i64 (hi1 ss j y))
  clear q0 q1 q2 f0 f1 f2 l1 hwz hZ0
  generalize w5.setCell _ _ = A1 at *
  have hlj : sg (ss.set j ⟨(sg ss j).b, ⟨(sg ss j).h.lo, hi1 ss j y⟩⟩) j = ⟨(sg ss j).b, ⟨(sg ss j).h.lo, hi1 ss j y⟩⟩ := sg_set_same _ hjn
  have HLJ := Lib.hid hlj
  obtain ⟨q0, q1, q2⟩ := hL1.segs j hjn
  rw [hlj] at q0 q1 q2
  simp only at q0 q1 q2
  have hl1 := hL1.lt
  obtain ⟨lo, hlo⟩ : ∃ lo, (sg ss j).h.lo = lo := ⟨_, rfl⟩
  obtain ⟨Z, hZ⟩ : ∃ Z, hi1 ss j y = Z := ⟨_, rfl⟩
  have hlob : 0 ≤ lo ∧ lo ≤ 1000000 := by
    have h1 := HPO.out.sg _ (sg_mem hjn)
    have h2 := h1.lo
    have h3 := h1.le
    have h4 := h1.hi
    omega
  rw [hlo] at q1
  rw [hZ] at q2
  have HLO := Lib.hid hlo
  have HZ := Lib.hid hZ
  have H1 := Lib.hid hL1
  have H2 := Lib.hid hL2
  have HXA := Lib.hid hXa
  have HBA := Lib.hid hBa
  have hwh : IntKind.i64.wrap (lo + y / 2) = lo + y / 2 := IntWalk.i64_in _ (by have := HY.out; omega)
  have hyt : y.tdiv 2 = y / 2 := Int.tdiv_eq_ediv_of_nonneg HY.out.1
  have hwd : IntKind.i64.wrap (y / 2) = y / 2 := IntWalk.i64_in _ (by have := HY.out; omega)
  clear hL1 hL2 hXa hBa hlj hlo hZ
  go_still_tail 19, (by kernel_rfl)
  change wpList _ _ _ _ _ A1.drew
  have hbd := below_drawn A1
  have H1' := Lib.hid (H1.out.below hbd)
  have H2' := Lib.hid (H2.out.below hbd)
  have HXA' := Lib.hid ((hbd.block _ (lt_of_block HXA.out)).trans HXA.out)
  have HBA' := Lib.hid (below_to HBA.out hbd)
  change Hid (RowS _ _ _ A1.drew) at H1'
  change Hid (RowS _ _ _ A1.drew) at H2'
  change Hid (A1.drew.heap[_]? = _) at HXA'
  change Hid (Below _ _ A1.drew) at HBA'
  clear H1 H2 HXA HBA hbd q0 q1 q2 hl1
  generalize A1.drew = A2 at *
  clear A1
  have fr := H1'.out.at_ hjn
  obtain ⟨f0, f1, f2⟩ := fr
  have hl1 := H1'.out.lt
  have hc1 := (H1'.out.segs j hjn).2.1
  rw [HLJ.out] at hc1
  simp only at hc1
  rw [HLO.out] at hc1
  go_wp2
  have hE1 : min Z (lo + y / 2) = lo1 ss j y := by rw [← HZ.out, ← HLO.out]; rfl
  rw [hE1]
  have hL1 := H1'.out.set hjn 1 (lo1 ss j y) ⟨(sg ss j).b, ⟨lo1 ss j y, hi1 ss j y⟩⟩ (.inr (.inl ⟨rfl, by rw [HLJ.out]⟩))
  rw [List.set_set] at hL1
  have hL2 := H2'.out.other (o := j * 3 + 1) (v := .int .i64 (lo1 ss j y)) (Ne.symm hg12)
  have hXa := (heap_setCell_other A2 ⟨g1, j * 3 + 1, none⟩ w.heap.size (.int .i64 (lo1 ss j y)) (by show w.heap.size ≠ g1; omega)).trans HXA'.out
  have hBa := HBA'.out.setCell (p := ⟨g1, j * 3 + 1, none⟩) (by show w.heap.size ≤ g1; omega) (.int .i64 (lo1 ss j y))
  clear f0 f1 f2 hl1 hc1 hE1 hwh hyt hwd H1' H2' HXA' HBA' HLJ
  clear hlob
  generalize A2.setCell _ _ = A3 at *
  clear A2
  have hL1' : RowS g1 ss.length (longL ss j y) A3 := hL1
  have c0 := cell_of_row A3 w.heap.size 0 _ _ _ hXa
  simp at c0
  have l0 := lt_of_block hXa
  obtain ⟨q0, q1, q2⟩ := hL2.segs j hjn
  have hl2 := hL2.lt
  have hbb : 0 ≤ (sg ss j).b ∧ (sg ss j).b ≤ 3 := by
    have h1 := HPO.out.sg _ (sg_mem hjn)
    have h2 := h1.b0
    have h3 := h1.bn
    omega
  have hwm : IntKind.i64.wrap ((ms.length : Int) - 1) = (ms.length : Int) - 1 := IntWalk.i64_in _ (by omega)
  have hwb : IntKind.i64.wrap ((sg ss j).b + 1) = (sg ss j).b + 1 := IntWalk.i64_in _ (by omega)
  have H1 := Lib.hid hL1'
  have H2 := Lib.hid hL2
  have HXA := Lib.hid hXa
  have HBA := Lib.hid hBa
  clear hL1 hL1' hL2 hXa hBa q1 q2 hbb
  go_still_tail 13, (by kernel_rfl)
  change wpList _ _ _ _ _ A3.drew
  have hbd := below_drawn A3
  have H1' := Lib.hid (H1.out.below hbd)
  have H2' := Lib.hid (H2.out.below hbd)
  have HXA' := Lib.hid ((hbd.block _ (lt_of_block HXA.out)).trans HXA.out)
  have HBA' := Lib.hid (below_to HBA.out hbd)
  change Hid (RowS _ _ _ A3.drew) at H1'
  change Hid (RowS _ _ _ A3.drew) at H2'
  change Hid (A3.drew.heap[_]? = _) at HXA'
  change Hid (Below _ _ A3.drew) at HBA'
  clear H1 H2 HXA HBA hbd q0 hl2 c0 l0
  generalize A3.drew = A4 at *
  clear A3
  obtain ⟨f0, f1, f2⟩ := H2'.out.at_ hjn
  have hl2 := H2'.out.lt
  have hc2 := (H2'.out.segs j hjn).1
  have hL1 := H1'.out.other (o := j * 3) (v := .int .i64 (min ((ms.length : Int) - 1) ((sg ss j).b + 1))) hg12
  have hL2 := H2'.out.set hjn 0 (min ((ms.length : Int) - 1) ((sg ss j).b + 1)) ⟨min ((ms.length : Int) - 1) ((sg ss j).b + 1), (sg ss j).h⟩ (.inl ⟨rfl, rfl⟩)
  have hL2' : RowS g2 ss.length (hotL' ms.length ss j) (A4.setCell ⟨g2, j * 3, none⟩ (.int .i64 (min ((ms.length : Int) - 1) ((sg ss j).b + 1)))) := hL2
  have H1 := Lib.hid hL1
  have H2 := Lib.hid hL2'
  have hXa := (heap_setCell_other A4 ⟨g2, j * 3, none⟩ w.heap.size (.int .i64 (min ((ms.length : Int) - 1) ((sg ss j).b + 1))) (by show w.heap.size ≠ g2; omega)).trans HXA'.out
  have hBa := HBA'.out.setCell (p := ⟨g2, j * 3, none⟩) (by show w.heap.size ≤ g2; omega) (.int .i64 (min ((ms.length : Int) - 1) ((sg ss j).b + 1)))
  have c0 := cell_of_row _ w.heap.size 0 _ _ _ hXa
  simp only [List.getElem?_toArray, List.getElem?_cons_zero] at c0
  have l0 := lt_of_block hXa
  have HXA := Lib.hid hXa
  have HBA := Lib.hid hBa
  clear hL1 hL2 hL2' hXa hBa H1' H2' HXA' HBA'
  go_wp2_with fail
  generalize A4.setCell _ _ = A5 at *
  have HPO1 := Lib.hid (long_ok HPO.out hjn HY.out.1).1
  have HPO2 := Lib.hid (hot_ok HPO.out hjn)
  by_cases hne : okL ms rs = []
  · have HNE := Lib.hid hne
    clear hne
    refine (HMA.out _ HBA.out).mono ?_
    rintro e u1 ⟨⟨m6, rfl, hm6⟩, hb6⟩
    replace HXA := Lib.hid ((hb6.block _ (lt_of_block HXA.out)).trans HXA.out)
    replace HBA := Lib.hid (below_to HBA.out hb6)
    replace H1 := Lib.hid (H1.out.below hb6)
    replace H2 := Lib.hid (H2.out.below hb6)
    have HM6 := Lib.hid hm6
    clear hb6 hm6 c0 l0
    go_wp2_with fail
    refine (HRU.out _ HBA.out).mono ?_
    rintro e u2 ⟨⟨r7, rfl, hr7⟩, hb7⟩
    have HV7 : Hid (RoomV u2.heap.size u2 m6 r7 ms rs) := Lib.hid ⟨Nat.le_refl _, (HM6.out.same (.below (Nat.le_refl _) hb7)).up hb7.size, hr7⟩
    replace HXA := Lib.hid ((hb7.block _ (lt_of_block HXA.out)).trans HXA.out)
    replace HBA := Lib.hid (below_to HBA.out hb7)
    replace H1 := Lib.hid (H1.out.below hb7)
    replace H2 := Lib.hid (H2.out.below hb7)
    clear hb7 hr7 HM6
    go_wp2_with fail
    refine (HPA.out u2 HBA.out).mono ?_
    rintro e u3 ⟨⟨p8, rfl, hp8⟩, hb8⟩
    have HS8 := Lib.hid (own_segs (l := ss) hp8)
    have HV8 : Hid (RoomV u3.heap.size u3 m6 r7 ms rs) := Lib.hid ⟨Nat.le_refl _, (HV7.out.below hb8).m.up hb8.size, (HV7.out.below hb8).r.up hb8.size⟩
    replace HXA := Lib.hid ((hb8.block _ (lt_of_block HXA.out)).trans HXA.out)
    replace HBA := Lib.hid (below_to HBA.out hb8)
    replace H1 := Lib.hid (H1.out.below hb8)
    replace H2 := Lib.hid (H2.out.below hb8)
    clear hb8 hp8 HV7
    go_wp2_with fail
    refine (Stretch_fail u3.heap.size m6 r7 p8 ms rs ss u3 HK.out HV8.out HPO.out HS8.out HNE.out).mono ?_
    rintro e u4 ⟨rfl, hb9⟩
    replace HXA := Lib.hid ((hb9.block _ (lt_of_block HXA.out)).trans HXA.out)
    replace HBA := Lib.hid (below_to HBA.out hb9)
    replace H1 := Lib.hid (H1.out.below hb9)
    replace H2 := Lib.hid (H2.out.below hb9)
    clear hb9 HS8 HV8
    have c0 := cell_of_row u4 w.heap.size 0 _ _ _ HXA.out
    simp only [List.getElem?_toArray, List.getElem?_cons_zero] at c0
    have l0 := lt_of_block HXA.out
    go_wp2_with fail
    have hbx := box_below u4 (.cells #[.int .i64 0, .int .i64 0] 50)
    have BX0 := Lib.hid (heap_alloc_new u4 (.cells #[.int .i64 0, .int .i64 0] 50))
    replace HXA := Lib.hid ((hbx.block _ (lt_of_block HXA.out)).trans HXA.out)
    replace HBA := Lib.hid (below_to HBA.out hbx)
    replace H1 := Lib.hid (H1.out.below hbx)
    replace H2 := Lib.hid (H2.out.below hbx)
    clear hbx
    generalize World.alloc u4 _ = u5 at *
    generalize u4.heap.size = bx0 at *
    refine (HMA.out _ HBA.out).mono ?_
    rintro e u1 ⟨⟨m6, rfl, hm6⟩, hb6⟩
    replace HXA := Lib.hid ((hb6.block _ (lt_of_block HXA.out)).trans HXA.out)
    replace HBA := Lib.hid (below_to HBA.out hb6)
    replace H1 := Lib.hid (H1.out.below hb6)
    replace H2 := Lib.hid (H2.out.below hb6)
    replace BX0 := Lib.hid ((hb6.block _ (lt_of_block BX0.out)).trans BX0.out)
    have HM6 := Lib.hid hm6
    clear hb6 hm6 c0 l0
    go_wp2_with fail
    refine (HRU.out _ HBA.out).mono ?_
    rintro e u2 ⟨⟨r7, rfl, hr7⟩, hb7⟩
    have HV7 : Hid (RoomV u2.heap.size u2 m6 r7 ms rs) := Lib.hid ⟨Nat.le_refl _, (HM6.out.same (.below (Nat.le_refl _) hb7)).up hb7.size, hr7⟩
    replace HXA := Lib.hid ((hb7.block _ (lt_of_block HXA.out)).trans HXA.out)
    replace HBA := Lib.hid (below_to HBA.out hb7)
    replace H1 := Lib.hid (H1.out.below hb7)
    replace H2 := Lib.hid (H2.out.below hb7)
    replace BX0 := Lib.hid ((hb7.block _ (lt_of_block BX0.out)).trans BX0.out)
    clear hb7 hr7 HM6
    go_wp2_with fail
    refine (Plan_any u2.heap.size _ (longL ss j y) u2 (by simp [longL]; omega) (by simpa [longL] using H1.out.segsV cx1) (Nat.le_refl _)).mono ?_
    rintro e u3 ⟨⟨p8, rfl, hp8⟩, hb8⟩
    have HS8 := Lib.hid (own_segs (l := (longL ss j y)) hp8)
    have HV8 : Hid (RoomV u3.heap.size u3 m6 r7 ms rs) := Lib.hid ⟨Nat.le_refl _, (HV7.out.below hb8).m.up hb8.size, (HV7.out.below hb8).r.up hb8.size⟩
    replace HXA := Lib.hid ((hb8.block _ (lt_of_block HXA.out)).trans HXA.out)
    replace HBA := Lib.hid (below_to HBA.out hb8)
    replace H1 := Lib.hid (H1.out.below hb8)
    replace H2 := Lib.hid (H2.out.below hb8)
    replace BX0 := Lib.hid ((hb8.block _ (lt_of_block BX0.out)).trans BX0.out)
    clear hb8 hp8 HV7
    go_wp2_with fail
    refine (Stretch_fail u3.heap.size m6 r7 p8 ms rs (longL ss j y) u3 HK.out HV8.out HPO1.out HS8.out HNE.out).mono ?_
    rintro e u4 ⟨rfl, hb9⟩
    replace HXA := Lib.hid ((hb9.block _ (lt_of_block HXA.out)).trans HXA.out)
    replace HBA := Lib.hid (below_to HBA.out hb9)
    replace H1 := Lib.hid (H1.out.below hb9)
    replace H2 := Lib.hid (H2.out.below hb9)
    replace BX0 := Lib.hid ((hb9.block _ (lt_of_block BX0.out)).trans BX0.out)
    clear hb9 HS8 HV8
    have c0 := cell_of_row u4 w.heap.size 0 _ _ _ HXA.out
    simp only [List.getElem?_toArray, List.getElem?_cons_zero] at c0
    have l0 := lt_of_block HXA.out
    go_wp2_with fail
    have hbx := box_below u4 (.cells #[.int .i64 0, .int .i64 0] 50)
    have BX1 := Lib.hid (heap_alloc_new u4 (.cells #[.int .i64 0, .int .i64 0] 50))
    replace HXA := Lib.hid ((hbx.block _ (lt_of_block HXA.out)).trans HXA.out)
    replace HBA := Lib.hid (below_to HBA.out hbx)
    replace H1 := Lib.hid (H1.out.below hbx)
    replace H2 := Lib.hid (H2.out.below hbx)
    replace BX0 := Lib.hid ((hbx.block _ (lt_of_block BX0.out)).trans BX0.out)
    clear hbx
    generalize World.alloc u4 _ = u5 at *
    generalize u4.heap.size = bx1 at *
    refine (HMA.out _ HBA.out).mono ?_
    rintro e u1 ⟨⟨m6, rfl, hm6⟩, hb6⟩
    replace HXA := Lib.hid ((hb6.block _ (lt_of_block HXA.out)).trans HXA.out)
    replace HBA := Lib.hid (below_to HBA.out hb6)
    replace H1 := Lib.hid (H1.out.below hb6)
    replace H2 := Lib.hid (H2.out.below hb6)
    replace BX0 := Lib.hid ((hb6.block _ (lt_of_block BX0.out)).trans BX0.out)
    replace BX1 := Lib.hid ((hb6.block _ (lt_of_block BX1.out)).trans BX1.out)
    have HM6 := Lib.hid hm6
    clear hb6 hm6 c0 l0
    go_wp2_with fail
    refine (HRU.out _ HBA.out).mono ?_
    rintro e u2 ⟨⟨r7, rfl, hr7⟩, hb7⟩
    have HV7 : Hid (RoomV u2.heap.size u2 m6 r7 ms rs) := Lib.hid ⟨Nat.le_refl _, (HM6.out.same (.below (Nat.le_refl _) hb7)).up hb7.size, hr7⟩
    replace HXA := Lib.hid ((hb7.block _ (lt_of_block HXA.out)).trans HXA.out)
    replace HBA := Lib.hid (below_to HBA.out hb7)
    replace H1 := Lib.hid (H1.out.below hb7)
    replace H2 := Lib.hid (H2.out.below hb7)
    replace BX0 := Lib.hid ((hb7.block _ (lt_of_block BX0.out)).trans BX0.out)
    replace BX1 := Lib.hid ((hb7.block _ (lt_of_block BX1.out)).trans BX1.out)
    clear hb7 hr7 HM6
    go_wp2_with fail
    refine (Plan_any u2.heap.size _ (hotL' ms.length ss j) u2 (by simp [hotL']; omega) (by simpa [hotL'] using H2.out.segsV cx2) (Nat.le_refl _)).mono ?_
    rintro e u3 ⟨⟨p8, rfl, hp8⟩, hb8⟩
    have HS8 := Lib.hid (own_segs (l := (hotL' ms.length ss j)) hp8)
    have HV8 : Hid (RoomV u3.heap.size u3 m6 r7 ms rs) := Lib.hid ⟨Nat.le_refl _, (HV7.out.below hb8).m.up hb8.size, (HV7.out.below hb8).r.up hb8.size⟩
    replace HXA := Lib.hid ((hb8.block _ (lt_of_block HXA.out)).trans HXA.out)
    replace HBA := Lib.hid (below_to HBA.out hb8)
    replace H1 := Lib.hid (H1.out.below hb8)
    replace H2 := Lib.hid (H2.out.below hb8)
    replace BX0 := Lib.hid ((hb8.block _ (lt_of_block BX0.out)).trans BX0.out)
    replace BX1 := Lib.hid ((hb8.block _ (lt_of_block BX1.out)).trans BX1.out)
    clear hb8 hp8 HV7
    go_wp2_with fail
    refine (Stretch_fail u3.heap.size m6 r7 p8 ms rs (hotL' ms.length ss j) u3 HK.out HV8.out HPO2.out HS8.out HNE.out).mono ?_
    rintro e u4 ⟨rfl, hb9⟩
    replace HXA := Lib.hid ((hb9.block _ (lt_of_block HXA.out)).trans HXA.out)
    replace HBA := Lib.hid (below_to HBA.out hb9)
    replace H1 := Lib.hid (H1.out.below hb9)
    replace H2 := Lib.hid (H2.out.below hb9)
    replace BX0 := Lib.hid ((hb9.block _ (lt_of_block BX0.out)).trans BX0.out)
    replace BX1 := Lib.hid ((hb9.block _ (lt_of_block BX1.out)).trans BX1.out)
    clear hb9 HS8 HV8
    have c0 := cell_of_row u4 w.heap.size 0 _ _ _ HXA.out
    simp only [List.getElem?_toArray, List.getElem?_cons_zero] at c0
    have l0 := lt_of_block HXA.out
    go_wp2_with fail
    have hbx := box_below u4 (.cells #[.int .i64 0, .int .i64 0] 50)
    have BX2 := Lib.hid (heap_alloc_new u4 (.cells #[.int .i64 0, .int .i64 0] 50))
    replace HXA := Lib.hid ((hbx.block _ (lt_of_block HXA.out)).trans HXA.out)
    replace HBA := Lib.hid (below_to HBA.out hbx)
    replace H1 := Lib.hid (H1.out.below hbx)
    replace H2 := Lib.hid (H2.out.below hbx)
    replace BX0 := Lib.hid ((hbx.block _ (lt_of_block BX0.out)).trans BX0.out)
    replace BX1 := Lib.hid ((hbx.block _ (lt_of_block BX1.out)).trans BX1.out)
    clear hbx
    generalize World.alloc u4 _ = u5 at *
    generalize u4.heap.size = bx2 at *
    refine (HA.out _).mono ?_
    rintro e u7 ⟨rfl, hb12⟩
    have HB12 := Lib.hid (below_to HBA.out hb12)
    clear hb12
    go_wp2
    go_ret
    exact ⟨rfl, HB12.out⟩
  · have HNE := Lib.hid hne
    have HL := Lib.hid (long_of (y := y) HK.out hne HPO.out hjn HY.out.1)
    have hRR : ∀ x, x ∈ okL ms rs → Rates x := fun x hx => ok_rates HK.out.mat hx
    have HSB := Lib.hid (fun q (hq : q < ss.length) => one_bnd hne hRR (HPO.out.sg _ (sg_mem hq)))
    have HSM := Lib.hid (fun q => sum_bnd hne hRR (ss := ss.take q) (fun s hs => HPO.out.sg s (List.mem_of_mem_take hs)))
    clear hRR
    obtain ⟨x0, E0L⟩ : ∃ x, Hid ((stretchL (okL ms rs) ss).lo = x) := ⟨_, Lib.hid rfl⟩
    obtain ⟨y0, E0H⟩ : ∃ x, Hid ((stretchL (okL ms rs) ss).hi = x) := ⟨_, Lib.hid rfl⟩
    obtain ⟨x1, E1L⟩ : ∃ x, Hid ((stretchL (okL ms rs) (longL ss j y)).lo = x) := ⟨_, Lib.hid rfl⟩
    obtain ⟨y1, E1H⟩ : ∃ x, Hid ((stretchL (okL ms rs) (longL ss j y)).hi = x) := ⟨_, Lib.hid rfl⟩
    obtain ⟨x2, E2L⟩ : ∃ x, Hid ((stretchL (okL ms rs) (hotL' ms.length ss j)).lo = x) := ⟨_, Lib.hid rfl⟩
    obtain ⟨y2, E2H⟩ : ∃ x, Hid ((stretchL (okL ms rs) (hotL' ms.length ss j)).hi = x) := ⟨_, Lib.hid rfl⟩
    refine (HMA.out _ HBA.out).mono ?_
    rintro e u1 ⟨⟨m6, rfl, hm6⟩, hb6⟩
    replace HXA := Lib.hid ((hb6.block _ (lt_of_block HXA.out)).trans HXA.out)
    replace HBA := Lib.hid (below_to HBA.out hb6)
    replace H1 := Lib.hid (H1.out.below hb6)
    replace H2 := Lib.hid (H2.out.below hb6)
    have HM6 := Lib.hid hm6
    clear hb6 hm6 c0 l0
    go_wp2_with fail
    refine (HRU.out _ HBA.out).mono ?_
    rintro e u2 ⟨⟨r7, rfl, hr7⟩, hb7⟩
    have HV7 : Hid (RoomV u2.heap.size u2 m6 r7 ms rs) := Lib.hid ⟨Nat.le_refl _, (HM6.out.same (.below (Nat.le_refl _) hb7)).up hb7.size, hr7⟩
    replace HXA := Lib.hid ((hb7.block _ (lt_of_block HXA.out)).trans HXA.out)
    replace HBA := Lib.hid (below_to HBA.out hb7)
    replace H1 := Lib.hid (H1.out.below hb7)
    replace H2 := Lib.hid (H2.out.below hb7)
    clear hb7 hr7 HM6
    go_wp2_with fail
    refine (HPA.out u2 HBA.out).mono ?_
    rintro e u3 ⟨⟨p8, rfl, hp8⟩, hb8⟩
    have HS8 := Lib.hid (own_segs (l := ss) hp8)
    have HV8 : Hid (RoomV u3.heap.size u3 m6 r7 ms rs) := Lib.hid ⟨Nat.le_refl _, (HV7.out.below hb8).m.up hb8.size, (HV7.out.below hb8).r.up hb8.size⟩
    replace HXA := Lib.hid ((hb8.block _ (lt_of_block HXA.out)).trans HXA.out)
    replace HBA := Lib.hid (below_to HBA.out hb8)
    replace H1 := Lib.hid (H1.out.below hb8)
    replace H2 := Lib.hid (H2.out.below hb8)
    clear hb8 hp8 HV7
    go_wp2_with fail
    refine (Stretch_ok u3.heap.size m6 r7 p8 ms rs ss u3 HK.out HV8.out HPO.out HS8.out HNE.out).mono ?_
    rintro e u4 ⟨rfl, hb9⟩
    rw [E0L.out, E0H.out]
    replace HXA := Lib.hid ((hb9.block _ (lt_of_block HXA.out)).trans HXA.out)
    replace HBA := Lib.hid (below_to HBA.out hb9)
    replace H1 := Lib.hid (H1.out.below hb9)
    replace H2 := Lib.hid (H2.out.below hb9)
    clear hb9 HS8 HV8
    have c0 := cell_of_row u4 w.heap.size 0 _ _ _ HXA.out
    simp only [List.getElem?_toArray, List.getElem?_cons_zero] at c0
    have l0 := lt_of_block HXA.out
    go_wp2_with fail
    have hbx := box_below u4 (.cells #[.int .i64 x0, .int .i64 y0] 50)
    have BX0 := Lib.hid (heap_alloc_new u4 (.cells #[.int .i64 x0, .int .i64 y0] 50))
    replace HXA := Lib.hid ((hbx.block _ (lt_of_block HXA.out)).trans HXA.out)
    replace HBA := Lib.hid (below_to HBA.out hbx)
    replace H1 := Lib.hid (H1.out.below hbx)
    replace H2 := Lib.hid (H2.out.below hbx)
    clear hbx
    generalize World.alloc u4 _ = u5 at *
    generalize u4.heap.size = bx0 at *
    refine (HMA.out _ HBA.out).mono ?_
    rintro e u1 ⟨⟨m6, rfl, hm6⟩, hb6⟩
    replace HXA := Lib.hid ((hb6.block _ (lt_of_block HXA.out)).trans HXA.out)
    replace HBA := Lib.hid (below_to HBA.out hb6)
    replace H1 := Lib.hid (H1.out.below hb6)
    replace H2 := Lib.hid (H2.out.below hb6)
    replace BX0 := Lib.hid ((hb6.block _ (lt_of_block BX0.out)).trans BX0.out)
    have HM6 := Lib.hid hm6
    clear hb6 hm6 c0 l0
    go_wp2_with fail
    refine (HRU.out _ HBA.out).mono ?_
    rintro e u2 ⟨⟨r7, rfl, hr7⟩, hb7⟩
    have HV7 : Hid (RoomV u2.heap.size u2 m6 r7 ms rs) := Lib.hid ⟨Nat.le_refl _, (HM6.out.same (.below (Nat.le_refl _) hb7)).up hb7.size, hr7⟩
    replace HXA := Lib.hid ((hb7.block _ (lt_of_block HXA.out)).trans HXA.out)
    replace HBA := Lib.hid (below_to HBA.out hb7)
    replace H1 := Lib.hid (H1.out.below hb7)
    replace H2 := Lib.hid (H2.out.below hb7)
    replace BX0 := Lib.hid ((hb7.block _ (lt_of_block BX0.out)).trans BX0.out)
    clear hb7 hr7 HM6
    go_wp2_with fail
    refine (Plan_any u2.heap.size _ (longL ss j y) u2 (by simp [longL]; omega) (by simpa [longL] using H1.out.segsV cx1) (Nat.le_refl _)).mono ?_
    rintro e u3 ⟨⟨p8, rfl, hp8⟩, hb8⟩
    have HS8 := Lib.hid (own_segs (l := (longL ss j y)) hp8)
    have HV8 : Hid (RoomV u3.heap.size u3 m6 r7 ms rs) := Lib.hid ⟨Nat.le_refl _, (HV7.out.below hb8).m.up hb8.size, (HV7.out.below hb8).r.up hb8.size⟩
    replace HXA := Lib.hid ((hb8.block _ (lt_of_block HXA.out)).trans HXA.out)
    replace HBA := Lib.hid (below_to HBA.out hb8)
    replace H1 := Lib.hid (H1.out.below hb8)
    replace H2 := Lib.hid (H2.out.below hb8)
    replace BX0 := Lib.hid ((hb8.block _ (lt_of_block BX0.out)).trans BX0.out)
    clear hb8 hp8 HV7
    go_wp2_with fail
    refine (Stretch_ok u3.heap.size m6 r7 p8 ms rs (longL ss j y) u3 HK.out HV8.out HPO1.out HS8.out HNE.out).mono ?_
    rintro e u4 ⟨rfl, hb9⟩
    rw [E1L.out, E1H.out]
    replace HXA := Lib.hid ((hb9.block _ (lt_of_block HXA.out)).trans HXA.out)
    replace HBA := Lib.hid (below_to HBA.out hb9)
    replace H1 := Lib.hid (H1.out.below hb9)
    replace H2 := Lib.hid (H2.out.below hb9)
    replace BX0 := Lib.hid ((hb9.block _ (lt_of_block BX0.out)).trans BX0.out)
    clear hb9 HS8 HV8
    have c0 := cell_of_row u4 w.heap.size 0 _ _ _ HXA.out
    simp only [List.getElem?_toArray, List.getElem?_cons_zero] at c0
    have l0 := lt_of_block HXA.out
    go_wp2_with fail
    have hbx := box_below u4 (.cells #[.int .i64 x1, .int .i64 y1] 50)
    have BX1 := Lib.hid (heap_alloc_new u4 (.cells #[.int .i64 x1, .int .i64 y1] 50))
    replace HXA := Lib.hid ((hbx.block _ (lt_of_block HXA.out)).trans HXA.out)
    replace HBA := Lib.hid (below_to HBA.out hbx)
    replace H1 := Lib.hid (H1.out.below hbx)
    replace H2 := Lib.hid (H2.out.below hbx)
    replace BX0 := Lib.hid ((hbx.block _ (lt_of_block BX0.out)).trans BX0.out)
    clear hbx
    generalize World.alloc u4 _ = u5 at *
    generalize u4.heap.size = bx1 at *
    refine (HMA.out _ HBA.out).mono ?_
    rintro e u1 ⟨⟨m6, rfl, hm6⟩, hb6⟩
    replace HXA := Lib.hid ((hb6.block _ (lt_of_block HXA.out)).trans HXA.out)
    replace HBA := Lib.hid (below_to HBA.out hb6)
    replace H1 := Lib.hid (H1.out.below hb6)
    replace H2 := Lib.hid (H2.out.below hb6)
    replace BX0 := Lib.hid ((hb6.block _ (lt_of_block BX0.out)).trans BX0.out)
    replace BX1 := Lib.hid ((hb6.block _ (lt_of_block BX1.out)).trans BX1.out)
    have HM6 := Lib.hid hm6
    clear hb6 hm6 c0 l0
    go_wp2_with fail
    refine (HRU.out _ HBA.out).mono ?_
    rintro e u2 ⟨⟨r7, rfl, hr7⟩, hb7⟩
    have HV7 : Hid (RoomV u2.heap.size u2 m6 r7 ms rs) := Lib.hid ⟨Nat.le_refl _, (HM6.out.same (.below (Nat.le_refl _) hb7)).up hb7.size, hr7⟩
    replace HXA := Lib.hid ((hb7.block _ (lt_of_block HXA.out)).trans HXA.out)
    replace HBA := Lib.hid (below_to HBA.out hb7)
    replace H1 := Lib.hid (H1.out.below hb7)
    replace H2 := Lib.hid (H2.out.below hb7)
    replace BX0 := Lib.hid ((hb7.block _ (lt_of_block BX0.out)).trans BX0.out)
    replace BX1 := Lib.hid ((hb7.block _ (lt_of_block BX1.out)).trans BX1.out)
    clear hb7 hr7 HM6
    go_wp2_with fail
    refine (Plan_any u2.heap.size _ (hotL' ms.length ss j) u2 (by simp [hotL']; omega) (by simpa [hotL'] using H2.out.segsV cx2) (Nat.le_refl _)).mono ?_
    rintro e u3 ⟨⟨p8, rfl, hp8⟩, hb8⟩
    have HS8 := Lib.hid (own_segs (l := (hotL' ms.length ss j)) hp8)
    have HV8 : Hid (RoomV u3.heap.size u3 m6 r7 ms rs) := Lib.hid ⟨Nat.le_refl _, (HV7.out.below hb8).m.up hb8.size, (HV7.out.below hb8).r.up hb8.size⟩
    replace HXA := Lib.hid ((hb8.block _ (lt_of_block HXA.out)).trans HXA.out)
    replace HBA := Lib.hid (below_to HBA.out hb8)
    replace H1 := Lib.hid (H1.out.below hb8)
    replace H2 := Lib.hid (H2.out.below hb8)
    replace BX0 := Lib.hid ((hb8.block _ (lt_of_block BX0.out)).trans BX0.out)
    replace BX1 := Lib.hid ((hb8.block _ (lt_of_block BX1.out)).trans BX1.out)
    clear hb8 hp8 HV7
    go_wp2_with fail
    refine (Stretch_ok u3.heap.size m6 r7 p8 ms rs (hotL' ms.length ss j) u3 HK.out HV8.out HPO2.out HS8.out HNE.out).mono ?_
    rintro e u4 ⟨rfl, hb9⟩
    rw [E2L.out, E2H.out]
    replace HXA := Lib.hid ((hb9.block _ (lt_of_block HXA.out)).trans HXA.out)
    replace HBA := Lib.hid (below_to HBA.out hb9)
    replace H1 := Lib.hid (H1.out.below hb9)
    replace H2 := Lib.hid (H2.out.below hb9)
    replace BX0 := Lib.hid ((hb9.block _ (lt_of_block BX0.out)).trans BX0.out)
    replace BX1 := Lib.hid ((hb9.block _ (lt_of_block BX1.out)).trans BX1.out)
    clear hb9 HS8 HV8
    have c0 := cell_of_row u4 w.heap.size 0 _ _ _ HXA.out
    simp only [List.getElem?_toArray, List.getElem?_cons_zero] at c0
    have l0 := lt_of_block HXA.out
    go_wp2_with fail
    have hsz0 := lt_of_block HXA.out
    have hszb0 := lt_of_block BX0.out
    have hszb1 := lt_of_block BX1.out
    have hbx := below2 u4 (.cells #[.int .i64 x2, .int .i64 y2] 50) (.cells #[.int .i64 0, .int .i64 0] 50)
    obtain ⟨z1, z2⟩ := box2 u4 (.cells #[.int .i64 x2, .int .i64 y2] 50) (.cells #[.int .i64 0, .int .i64 0] 50)
    have HLS : Hid (LS w (.slice am ms.length capm) bx0 bx1 u4.heap.size x0 y0 x1 y1 x2 y2 (sumLo (okL ms rs) (ss.take 0)) (sumHi (okL ms rs) (ss.take 0)) (World.alloc (World.alloc u4 (.cells #[.int .i64 x2, .int .i64 y2] 50)) (.cells #[.int .i64 0, .int .i64 0] 50))) :=
      Lib.hid ⟨(hbx.block _ hsz0).trans HXA.out, (hbx.block _ hszb0).trans BX0.out, (hbx.block _ hszb1).trans BX1.out, z1, by simpa [sumLo, sumHi] using z2, below_to HBA.out hbx⟩
    clear hbx z1 z2 H1 H2 BX0 BX1 HXA HBA c0 l0
    have HQ : Hid (bx0 < u4.heap.size ∧ bx1 < u4.heap.size ∧ w.heap.size < u4.heap.size) := Lib.hid ⟨hszb0, hszb1, hsz0⟩
    clear hszb0 hszb1 hsz0
    generalize World.alloc (World.alloc u4 _) _ = A6 at *
    generalize u4.heap.size = bx2 at *
    go_loopw [21] (fun i wr => ∃ q : Nat, q ≤ ss.length ∧ i = .int .i64 q ∧ Hid (LS w (.slice am ms.length capm) bx0 bx1 bx2 x0 y0 x1 y1 x2 y2 (sumLo (okL ms rs) (ss.take q)) (sumHi (okL ms rs) (ss.take q)) wr)) (fun i _ => ss.length - (intOf i).toNat)
    case atStart => exact ⟨0, Nat.zero_le _, rfl, HLS⟩
    case round =>
      obtain ⟨q, hq, rfl, hs⟩ := hrel
      by_cases hlt : q < ss.length
      · obtain ⟨b, off, rfl, hbn, hc⟩ := HPC.out h0
        have CC := Lib.hid (hc q hlt)
        have hqn : (q : Int) < ss.length := by omega
        have hq1 : (q : Int) + 1 ≤ ss.length := by omega
        have hw9 : IntKind.i64.wrap ((q : Int) + 1) = (q : Int) + 1 := IntWalk.i64_in _ (by omega)
        clear hc
        go_wp2
        have HC : Hid (∀ w', Below wr.heap.size wr w' → w'.cell? ⟨w.heap.size, 0, none⟩ = some (.slice am ms.length capm)) := Lib.hid fun w' h =>
          cell_of_row w' w.heap.size 0 _ _ _ ((h.block _ (lt_of_block hs.out.xa)).trans hs.out.xa)
        have HV : Hid (∀ w' cq, Below wr.heap.size wr w' → SegsV w.heap.size w' (.slice (some ⟨b, off + q * 3, none⟩) 1 cq) [sg ss q]) := Lib.hid fun w' cq h =>
          ⟨_, cq, rfl, fun _ => ⟨b, off + q * 3, rfl, hbn, fun i hi => by
            have hi0 : i = 0 := by simp at hi; exact hi
            subst hi0
            have hbw := below_to hs.out.ba h
            exact ⟨(hbw.cell (p := ⟨b, off + q * 3, none⟩) hbn).trans CC.out.1, (hbw.cell (p := ⟨b, off + q * 3 + 1, none⟩) hbn).trans CC.out.2.1, (hbw.cell (p := ⟨b, off + q * 3 + 2, none⟩) hbn).trans CC.out.2.2⟩⟩⟩
        refine wp_region_noPanic ?_
        refine wp_region_acts (fun w' => Below wr.heap.size wr w') (fun _ _ h hb => grow_to h hb) (below_drawn _) (by kernel_rfl) (fun _ _ _ _ _ h => h)
          [.take 0, .take 2, .take 4, .take 5, .take 6, .take 7, .take 8, .float 14, .call 1, .call 3, .call 9, .call 10, .take 11, .take 12, .take 13, .join] [15, 16] (by kernel_rfl) ?_
        iterate 6
          (refine GWalk.takes rfl rfl ?_; apply Exists.intro; refine ⟨fun w' hS => ?_, ?_⟩; (have d0 := HC.out w' hS; clear hS; go_simp; with_reducible rfl); simp only [List.getElem_toArray, List.getElem_cons_succ, List.getElem_cons_zero, Act.put, List.setIfInBounds_toArray, List.set_cons_zero, List.set_cons_succ])
        refine GWalk.takes rfl rfl ?_
        refine ⟨.slice (some ⟨b, off + q * 3, none⟩) 1 (capp - q), fun w' hS => ?_, ?_⟩
        · clear hS
          have s1 : (0 : Int) ≤ (q : Int) + 1 := by omega
          have s2 : (q : Int) + 1 ≤ capp := by omega
          have s3 : ¬ capp = q := by omega
          go_simp
          first | done | with_reducible rfl
        simp only [List.getElem_toArray, List.getElem_cons_succ, List.getElem_cons_zero, Act.put, List.setIfInBounds_toArray, List.set_cons_zero, List.set_cons_succ]
        refine GWalk.floats (.cells #[.int .i64 0, .int .i64 0] 50) (fun b => .pointer (some ⟨b, 0, none⟩)) rfl rfl rfl (fun w1 => ?_) ?_
        · kernel_rfl
        simp only [List.nil_append, List.cons_append]
        refine GWalk.calls rfl rfl ?_; apply Exists.intro; apply Exists.intro; refine ⟨fun w' hS => ?_, fun v1 hb1 hS1 hO1 => ?_⟩; (clear hS; go_simp; exact ⟨rfl, rfl⟩)
        refine (HMA.out v1 (below_to hs.out.ba hS1)).mono ?_
        rintro e u1 ⟨⟨m6, rfl, hm6⟩, hbb1⟩
        refine ⟨_, rfl, hbb1, grow_to hS1 hbb1, ?_⟩
        simp only [List.getElem_toArray, List.getElem_cons_succ, List.getElem_cons_zero, Act.put, List.setIfInBounds_toArray, List.set_cons_zero, List.set_cons_succ]
        refine GWalk.calls rfl rfl ?_; apply Exists.intro; apply Exists.intro; refine ⟨fun w' hS => ?_, fun v2 hb2 hS2 hO2 => ?_⟩; (clear hS; go_simp; exact ⟨rfl, rfl⟩)
        refine (HRU.out v2 (below_to hs.out.ba hS2)).mono ?_
        rintro e u2 ⟨⟨r7, rfl, hr7⟩, hbb2⟩
        refine ⟨_, rfl, hbb2, grow_to hS2 hbb2, ?_⟩
        simp only [List.getElem_toArray, List.getElem_cons_succ, List.getElem_cons_zero, Act.put, List.setIfInBounds_toArray, List.set_cons_zero, List.set_cons_succ]
        have HV7 : Hid (RoomV u2.heap.size u2 m6 r7 ms rs) := Lib.hid ⟨Nat.le_refl _, (hm6.same (.below (Nat.le_refl _) (grow_to hb2 hbb2))).up (grow_to hb2 hbb2).size, hr7⟩
        clear hb1 hb2 hbb1 hbb2 hS1 hS2 hO1 hO2 hm6 hr7
        refine GWalk.calls rfl rfl ?_; apply Exists.intro; apply Exists.intro; refine ⟨fun w' hS => ?_, fun v3 hb3 hS3 hO3 => ?_⟩; (clear hS; go_simp; exact ⟨rfl, rfl⟩)
        refine (Plan_any w.heap.size _ [sg ss q] v3 (by simp) (HV.out v3 (capp - q) hS3) (below_to hs.out.ba hS3).size).mono ?_
        rintro e u3 ⟨⟨p8, rfl, hp8⟩, hbb3⟩
        refine ⟨_, rfl, hbb3, grow_to hS3 hbb3, ?_⟩
        simp only [List.getElem_toArray, List.getElem_cons_succ, List.getElem_cons_zero, Act.put, List.setIfInBounds_toArray, List.set_cons_zero, List.set_cons_succ]
        have HS8 := Lib.hid (own_segs (l := [sg ss q]) hp8)
        have K3 : Below u2.heap.size u2 u3 := grow_to hb3 hbb3
        have HV8 : Hid (RoomV u3.heap.size u3 m6 r7 ms rs) := Lib.hid ⟨Nat.le_refl _, (HV7.out.below K3).m.up K3.size, (HV7.out.below K3).r.up K3.size⟩
        clear hb3 hbb3 hS3 hO3 hp8 K3
        refine GWalk.calls rfl rfl ?_; apply Exists.intro; apply Exists.intro; refine ⟨fun w' hS => ?_, fun v6 hb6 hS6 hO6 => ?_⟩; (clear hS; go_simp; exact ⟨rfl, rfl⟩)
        refine (Stretch_ok u3.heap.size m6 r7 p8 ms rs [sg ss q] v6 HK.out (HV8.out.below hb6) (one_ok HPO.out hlt) (HS8.out.same (.below (Nat.le_refl _) hb6)) HNE.out).mono ?_
        rintro e u6 ⟨rfl, hbb6⟩
        refine ⟨_, rfl, hbb6, grow_to hS6 hbb6, ?_⟩
        simp only [List.getElem_toArray, List.getElem_cons_succ, List.getElem_cons_zero, Act.put, List.setIfInBounds_toArray, List.set_cons_zero, List.set_cons_succ]
        have ST := Lib.hid (sum_take (al := okL ms rs) hlt)
        have B1 := Lib.hid (HSB.out q hlt)
        have B2 := Lib.hid (HSM.out q)
        generalize (stretchL (okL ms rs) [sg ss q]).lo = xq at *
        generalize (stretchL (okL ms rs) [sg ss q]).hi = yq at *
        iterate 3
          (refine GWalk.takes rfl rfl ?_; apply Exists.intro; refine ⟨fun w' hS => ?_, ?_⟩; (clear hS; go_simp; with_reducible rfl); simp only [List.getElem_toArray, List.getElem_cons_succ, List.getElem_cons_zero, Act.put, List.setIfInBounds_toArray, List.set_cons_zero, List.set_cons_succ])
        refine GWalk.joins fun w9 b9 hb9 hb91 hb92 hb93 hb94 => ?_
        simp only [List.getElem_toArray, List.getElem_cons_succ, List.getElem_cons_zero, Act.put, List.setIfInBounds_toArray, List.set_cons_zero, List.set_cons_succ]
        refine GWalk.fin fun w10 hb10 hS10 => ?_
        have hz8 := (hb10.block _ hb92).trans hb94
        have n1 := set_whole b9 50 w10 #[.int .i64 0, .int .i64 0] #[.int .i64 xq, .int .i64 yq] rfl hz8
        have n3 := below_cells (b := b9) hb91 [.int .i64 xq, .int .i64 yq] 0 w10 hS10
        refine Tail.skip rfl rfl (exec_store_row 50 (.tmp 22) (.tmp 163) rfl b9 0 #[.int .i64 xq, .int .i64 yq] rfl rfl (there_block hz8 (Nat.le_refl _)) (by kernel_rfl) (by kernel_rfl)) n3 ?_
        simp only [List.getElem_toArray, List.getElem_cons_succ, List.getElem_cons_zero, Act.put, List.setIfInBounds_toArray, List.set_cons_zero, List.set_cons_succ]
        have hne9 : b9 ≠ bx2 + 1 := by have := lt_of_block hs.out.bs; omega
        generalize w10.setCells b9 0 _ = w11 at *
        refine Tail.value rfl rfl (by go_simp; with_reducible rfl) ?_
        simp only [List.getElem_toArray, List.getElem_cons_succ, List.getElem_cons_zero, Act.put, List.setIfInBounds_toArray, List.set_cons_zero, List.set_cons_succ]
        refine Tail.done (NoPanic.normal ?_)
        have HS9 := Lib.hid n1
        have HLS2 := Lib.hid (hs.out.below n3)
        clear n1 n3 hz8 hb9 hb10 hS10 hb91 hb92 hb93 hb94 hS6 hO6 hb6 hbb6 HC HV HS8 HV7 HV8 hs
        have s0 := cell_of_row w11 b9 0 _ _ _ HS9.out
        have s1 := cell_of_row w11 b9 1 _ _ _ HS9.out
        have t0 := cell_of_row w11 (bx2 + 1) 0 _ _ _ HLS2.out.bs
        have t1 := cell_of_row w11 (bx2 + 1) 1 _ _ _ HLS2.out.bs
        simp only [List.getElem?_toArray, List.getElem?_cons_zero, List.getElem?_cons_succ] at s0 s1 t0 t1
        have f0 := frozen_of_row w11 (bx2 + 1) 0 _ _ HLS2.out.bs
        have f1 := frozen_of_row w11 (bx2 + 1) 1 _ _ HLS2.out.bs
        have l9 := lt_of_block HS9.out
        have ls := lt_of_block HLS2.out.bs
        have hqt : ((ss.take q).length : Int) ≤ 8 := by simp; omega
        have w1' : IntKind.i64.wrap (sumLo (okL ms rs) (ss.take q) + xq) = sumLo (okL ms rs) (ss.take q) + xq := IntWalk.i64_in _ (by have := B1.out; have := B2.out; omega)
        have w2' : IntKind.i64.wrap (sumHi (okL ms rs) (ss.take q) + yq) = sumHi (okL ms rs) (ss.take q) + yq := IntWalk.i64_in _ (by have := B1.out; have := B2.out; omega)
        clear hqt
        go_wp2
        go_roundw
        case rel =>
          refine ⟨q + 1, by omega, by simp, Lib.hid ?_⟩
          rw [ST.out.1, ST.out.2]
          exact HLS2.out.step _ _ HQ.out.1 HQ.out.2.1 HQ.out.2.2
        case measure => simp [intOf]; omega
      · obtain rfl : q = ss.length := by omega
        rw [List.take_length] at hs
        have hL := HL.out
        have c00 := cell_of_row wr bx0 0 _ _ _ hs.out.eb0
        have c01 := cell_of_row wr bx0 1 _ _ _ hs.out.eb0
        have c10 := cell_of_row wr bx1 0 _ _ _ hs.out.eb1
        have c11 := cell_of_row wr bx1 1 _ _ _ hs.out.eb1
        have c20 := cell_of_row wr bx2 0 _ _ _ hs.out.eb2
        have c21 := cell_of_row wr bx2 1 _ _ _ hs.out.eb2
        have c30 := cell_of_row wr (bx2 + 1) 0 _ _ _ hs.out.bs
        have c31 := cell_of_row wr (bx2 + 1) 1 _ _ _ hs.out.bs
        simp only [List.getElem?_toArray, List.getElem?_cons_zero, List.getElem?_cons_succ] at c00 c01 c10 c11 c20 c21 c30 c31
        have la := lt_of_block hs.out.eb0
        have lb := lt_of_block hs.out.eb1
        have lc := lt_of_block hs.out.eb2
        have ld := lt_of_block hs.out.bs
        obtain ⟨k1, k2, k3, k4, k5, k6⟩ := hL
        rw [E0L.out] at k1 k3 k5
        rw [E0H.out] at k2 k4 k6
        rw [E1L.out] at k1
        rw [E1H.out] at k2
        rw [E2L.out] at k3
        rw [E2H.out] at k4
        have HBE := Lib.hid hs.out.ba
        clear hs HL
        generalize sumLo (okL ms rs) ss = sl at *
        generalize sumHi (okL ms rs) ss = sh at *
        go_wp2_with fail
        refine (HA.out _).mono ?_
        rintro e u7 ⟨rfl, hb12⟩
        have HB12 := Lib.hid (below_to HBE.out hb12)
        clear hb12
        go_wp2
        go_ret
        exact ⟨rfl, HB12.out⟩
end Go.Proofs.Ytfijaafkagcmmaa
