/- The reference's list of the points that may be the peak, the yield point or the meeting point, over a list of truths: its contract. Conditions: a valid curve, its truths. The law CurvePoints, walked where the curve or the rule is not valid, and where they are; two equal lists of numbers compared. Conditions: these. The statement CurvePoints holds: for every curve and rule the law returns true and leaves what it was given as it was. No condition. -/
import Derived.Test.YtfjlnejeffkdoaaCH
import Derived.Test.YtfjlnejeffkdoaaBG
import Derived.Deep.CutRange
namespace Go.Proofs.Ytfjlnejeffkdoaa
open Go.RowKit Go.Shelf
attribute [local irreducible] arrV wpQuiet
attribute [local go_sem] Oper.semAt_some

/-- May the point be so, by the first truths? -/
def mayA (ps : List Pt) (r : Rl) (kd : Int) (LL : List (List Int)) (i q : Nat) : Bool := (LL.take q).any fun L => atOf kd (readR ps r (pad L)) == (i : Int)
def mayI (ps : List Pt) (r : Rl) (kd : Int) (LL : List (List Int)) (i : Nat) : List Int := ((List.range i).filter fun j => mayA ps r kd LL j LL.length).map fun j : Nat => (j : Int)
theorem mayA_succ {ps : List Pt} {r : Rl} {kd : Int} {LL : List (List Int)} {i q : Nat} {L : List Int} (hL : LL[q]? = some L) : mayA ps r kd LL i (q + 1) = (mayA ps r kd LL i q || (atOf kd (readR ps r (pad L)) == (i : Int))) := by
  unfold mayA
  rw [List.take_add_one, hL, List.any_append]
  simp
theorem mayI_yes {ps : List Pt} {r : Rl} {kd : Int} {LL : List (List Int)} {i : Nat} (h : mayA ps r kd LL i LL.length = true) : mayI ps r kd LL (i + 1) = mayI ps r kd LL i ++ [(i : Int)] := by
  simp [mayI, List.range_succ, List.filter_append, h]
theorem mayI_no {ps : List Pt} {r : Rl} {kd : Int} {LL : List (List Int)} {i : Nat} (h : mayA ps r kd LL i LL.length = false) : mayI ps r kd LL (i + 1) = mayI ps r kd LL i := by
  simp [mayI, List.range_succ, List.filter_append, h]
theorem mayI_len (ps : List Pt) (r : Rl) (kd : Int) (LL : List (List Int)) (i : Nat) : (mayI ps r kd LL i).length ≤ i := by
  unfold mayI
  rw [List.length_map]
  exact Nat.le_trans (List.length_filter_le _ _) (by simp)

theorem mayI_all {ps : List Pt} {r : Rl} (F : Sane ps r) (hg : goodsB ps 0 = true) (kd : Int) (hk : kd = 0 ∨ kd = 1 ∨ kd = 2) : mayI ps r kd (allT ps) ps.length = mayP ps r kd := by
  have key : ∀ j : Nat, (mayA ps r kd (allT ps) j (allT ps).length = true ↔ (j : Int) ∈ mayP ps r kd) := fun j => by
    unfold mayA
    rw [List.take_length, List.any_eq_true]
    constructor
    · rintro ⟨L, hL, e⟩
      rw [beq_iff_eq] at e
      have := may_truth F hg kd hk (allT_tr F.len hL) (by rw [e]; omega)
      rwa [e] at this
    · intro h
      obtain ⟨u, hu, e, _⟩ := (mem_mayP F kd hk).1 h
      obtain ⟨L, hL, rfl⟩ := List.mem_map.1 (tr_allT F.len (ts_tr F kd u hu))
      exact ⟨L, hL, by rw [beq_iff_eq]; exact e⟩
  have hP : mayP ps r kd = ((List.range 20).filter fun j : Nat => decide ((j : Int) ∈ mayP ps r kd)).map fun j : Nat => (j : Int) := by
    unfold mayP mayTo
    congr 1
    refine List.filter_congr fun j hj => ?_
    rw [Bool.eq_iff_iff, decide_eq_true_eq]
    constructor
    · intro h
      exact List.mem_map.2 ⟨j, List.mem_filter.2 ⟨hj, h⟩, rfl⟩
    · intro h
      obtain ⟨k, hk, e⟩ := List.mem_map.1 h
      have : k = j := by have e2 : (k : Int) = j := e; omega
      subst this
      exact (List.mem_filter.1 hk).2
  have hlen := F.len
  have hsplit : List.range 20 = List.range ps.length ++ (List.range (20 - ps.length)).map (ps.length + ·) := by
    rw [← List.range_add]
    congr 1
    omega
  rw [hP, hsplit, List.filter_append, List.map_append]
  have h2 : ((List.range (20 - ps.length)).map (ps.length + ·)).filter (fun j : Nat => decide ((j : Int) ∈ mayP ps r kd)) = [] := by
    rw [List.filter_eq_nil_iff]
    intro j hj
    obtain ⟨k, hk2, rfl⟩ := List.mem_map.1 hj
    rw [decide_eq_true_eq]
    intro h
    obtain ⟨u, hu, e, hne⟩ := (mem_mayP F kd hk).1 h
    obtain ⟨m, hm, e2⟩ := at_in F kd hk (ts_tr F kd u hu) (by rw [e]; exact hne)
    omega
  rw [h2, List.map_nil, List.append_nil]
  unfold mayI
  congr 1
  refine List.filter_congr fun j hj => ?_
  rw [Bool.eq_iff_iff, decide_eq_true_eq]
  exact key j


theorem wpList_append_by {ops : Array Oper} {rest : List Oper} {o : Oper} {a : Act} {Q : Exit → Act → World → Prop} {W W' : World} {v y z : Value} (hgd : o.guard = none) (s x : Operand) (t u ty : TypeId)
    (ho : o.op = .call { callee := .builtin .append, args := #[s, x], argTypes := #[t, u] }) (hs : a.eval s = y) (hx : a.eval x = z) (hty : o.type = ty) (hr : (Builtin.append_ #[t, u] ty #[y, z]).run Try.prog W = .ok v W')
    (h : wpList Try.prog ops Q rest (a.put o.dst v) W') : wpList Try.prog ops Q (o :: rest) a W := by
  refine wpList_plain hgd fun K hK => ?_
  unfold Oper.wp
  rw [exec_append s x ho hs hx (by rw [hty]; exact hr)]
  exact hK _ _ h

def Nums1 (w : World) (L : List Int) (e : Ending) (w' : World) : Prop := ∃ v, e = .returned v ∧ NumV w' v L ∧ Below w.heap.size w w'
theorem own_zero {w : World} {base : Nat} {v : Value} {L : List Int} (h : w.ownsRow base 3 1 v L.length (L.map (Value.int .i64))) : NumV w v L := by
  refine ⟨h.1, ?_⟩
  rcases h.2 with h | ⟨g', cap', cur', e1, _, e2⟩
  · exact .inl h
  · exact .inr ⟨g', cap', cur', e1, Nat.zero_le _, e2⟩

set_option maxRecDepth 100000 in
set_option maxHeartbeats 4000000 in
theorem MayBe_ok (b off cap : Nat) (kd : Int) (ps : List Pt) (r : Rl) (base : Nat) (v : Value) (LL : List (List Int)) (w : World) (hk : kd = 0 ∨ kd = 1 ∨ kd = 2) (F : Sane ps r) (hp : PtsIn w b off ps) (hv : ListsV base w v LL) (hLL : LL.length ≤ 1000) (hG : ∀ L ∈ LL, Good ps r L) :
    Calls Try.prog 33 #[.agg #[.slice (some ⟨b, off, none⟩) ps.length cap], .agg #[.int .i64 r.d, .int .i64 r.k, .int .i64 r.o], .int .i64 kd, v] w (Nums1 w (mayI ps r kd LL ps.length)) := by
  obtain ⟨sa, cp, rfl, hlm, hget⟩ := hv.form
  have hltb := block_lt_of_cell (hp 0 F.pos).1
  have hn20 := F.len
  have hb2 := below2 w (.cells #[.slice (some ⟨b, off, none⟩) ps.length cap] 24) (.cells #[.int .i64 r.d, .int .i64 r.k, .int .i64 r.o] 26)
  obtain ⟨hx1, hx2⟩ := box2 w (.cells #[.slice (some ⟨b, off, none⟩) ps.length cap] 24) (.cells #[.int .i64 r.d, .int .i64 r.k, .int .i64 r.o] 26)
  have HRD := Lib.hid fun (q : Nat) (L : List Int) (h : LL[q]? = some L) (W : World) (hb : Below w.heap.size w W) => by
    have hmem := List.mem_of_getElem? h
    have G := hG L hmem
    obtain ⟨g, u, e, hu, hN⟩ := hget q L h
    obtain ⟨su, cu, rfl, h0, h1⟩ := hN.form
    cases su with
    | none => exact absurd (h0 rfl) (by have := G.tlen; have := G.pos; omega)
    | some ad =>
      obtain ⟨g2, rfl, hI⟩ := h1 ad rfl
      have hl2 := block_lt_of_cell (hI 0 (by have := G.tlen; have := G.pos; omega))
      have hc := (hb.cell (p := ⟨g, q, none⟩) (block_lt_of_cell hu)).trans hu
      rw [G.tlen] at hc
      exact (⟨g, g2, cu, e, hc, fun W' hb' => RefRead_any b off cap g2 0 cu ps r L W' G (hp.below hb' hltb) (hI.below hb' hl2)⟩ : ∃ g g2 cu, sa = some ⟨g, 0, none⟩ ∧ W.cell? ⟨g, q, none⟩ = some (.slice (some ⟨g2, 0, none⟩) ps.length cu) ∧
        ∀ W', Below w.heap.size w W' → Calls Try.prog 26 #[.agg #[.slice (some ⟨b, off, none⟩) ps.length cap], .agg #[.int .i64 r.d, .int .i64 r.k, .int .i64 r.o], .slice (some ⟨g2, 0, none⟩) ps.length cu] W' fun e w' => e = .returned (.agg (rsV (readR ps r (pad L)))) ∧ Below W'.heap.size W' w')
  have HK := Lib.hid hk
  have HMS := Lib.hid fun (i q : Nat) (L : List Int) (hL : LL[q]? = some L) => @mayA_succ ps r kd LL i q L hL
  have HM0 := Lib.hid fun (i : Nat) => (show mayA ps r kd LL i 0 = false by simp [mayA])
  have HIY := Lib.hid fun (i : Nat) => @mayI_yes ps r kd LL i
  have HIN := Lib.hid fun (i : Nat) => @mayI_no ps r kd LL i
  have HI0 : Hid (mayI ps r kd LL 0 = []) := Lib.hid rfl
  have HIL := Lib.hid fun i => mayI_len ps r kd LL i
  have hL20 : LL.length ≤ 1000 := hLL
  have HG : Hid (∀ q, q < LL.length → ∃ L, LL[q]? = some L) := Lib.hid fun q hq => ⟨_, List.getElem?_eq_getElem hq⟩
  clear hv hp hG hget hlm hltb hk F hLL
  generalize mayA ps r kd LL = mA at *
  generalize mayI ps r kd LL = mI at *
  go_enter Try.func33, Try.ntmps33
  go_wp2
  generalize World.alloc (World.alloc w _) _ = W0 at *
  have HBW := Lib.hid hb2
  have HC : Hid (∀ w', Below W0.heap.size W0 w' → w'.cell? ⟨w.heap.size, 0, none⟩ = some (.slice (some ⟨b, off, none⟩) ps.length cap) ∧ w'.cell? ⟨w.heap.size + 1, 0, none⟩ = some (.int .i64 r.d) ∧ w'.cell? ⟨w.heap.size + 1, 1, none⟩ = some (.int .i64 r.k) ∧ w'.cell? ⟨w.heap.size + 1, 2, none⟩ = some (.int .i64 r.o)) := Lib.hid fun w' h => by
    have y1 := (h.block _ (lt_of_block hx1)).trans hx1
    have y2 := (h.block _ (lt_of_block hx2)).trans hx2
    exact ⟨cell_of_row w' w.heap.size 0 _ _ _ y1, cell_of_row w' (w.heap.size + 1) 0 _ _ _ y2, cell_of_row w' (w.heap.size + 1) 1 _ _ _ y2, cell_of_row w' (w.heap.size + 1) 2 _ _ _ y2⟩
  clear hb2 hx1 hx2
  go_loopw [9, 10] (fun s i wr => ∃ q : Nat, q ≤ ps.length ∧ i = .int .i64 q ∧ Hid (wr.ownsRow W0.heap.size 3 1 s (mI q).length ((mI q).map (Value.int .i64))) ∧ Hid (Below W0.heap.size W0 wr)) (fun _ i _ => ps.length - (intOf i).toNat)
  case atStart => exact ⟨0, Nat.zero_le _, rfl, by rw [HI0.out]; exact Lib.hid (World.ownsRow_nil _ _ _ _), Lib.hid (Below.refl _ _)⟩
  case round =>
    obtain ⟨q, hq, rfl, HOW, HB⟩ := hrel
    obtain ⟨d0, -⟩ := HC.out wr HB.out
    by_cases hlt : q < ps.length
    · have hqn : (q : Int) < ps.length := by omega
      have hw8 : IntKind.i64.wrap ((q : Int) + 1) = (q : Int) + 1 := IntWalk.i64_in _ (by omega)
      have HW8 := Lib.hid hw8
      obtain ⟨wo, rfl⟩ : ∃ wo, wo = wr := ⟨_, rfl⟩
      go_wp2
      clear d0 hw8
      go_loopw [11, 12] (fun s i wr => ∃ p : Nat, p ≤ LL.length ∧ i = .int .i64 p ∧ s = .bool (mA q p) ∧ Hid (wr.ownsRow W0.heap.size 3 1 u9 (mI q).length ((mI q).map (Value.int .i64))) ∧ Hid (Below W0.heap.size W0 wr)) (fun _ i _ => LL.length - (intOf i).toNat)
      case atStart => exact ⟨0, Nat.zero_le _, rfl, by rw [HM0.out q], HOW, HB⟩
      case round =>
        obtain ⟨p, hpl, rfl, rfl, HOW2, HB2⟩ := hrel
        by_cases hltp : p < LL.length
        · have hpn : (p : Int) < LL.length := by omega
          have hw9 : IntKind.i64.wrap ((p : Int) + 1) = (p : Int) + 1 := IntWalk.i64_in _ (by omega)
          obtain ⟨L, hL⟩ := HG.out p hltp
          have HSUC := Lib.hid (HMS.out q p L hL)
          obtain ⟨g, g2, cu, rfl, hc, hcall⟩ := HRD.out p L hL wr (grow_to HBW.out HB2.out)
          have HLC := Lib.hid (block_lt_of_cell hc)
          have HQC := Lib.hid fun w' (h : Below wr.heap.size wr w') => (h.cell (p := ⟨g, p, none⟩) HLC.out).trans hc
          have HCALL := Lib.hid hcall
          clear hL hc hcall
          go_wp2
          refine wp_region_noPanic ?_
          refine wp_region_float (by kernel_rfl) (fun _ _ _ _ _ h => h) 7 _ rfl 13 rfl rfl (.cells zero37 47) (fun a w => by kernel_rfl)
            [(false, 0), (false, 1), (false, 2), (false, 3), (false, 4), (false, 5), (true, 6)] [8] (by kernel_rfl) ?_
          iterate 6
            (refine Walk.takes rfl rfl ?_; apply Exists.intro; refine ⟨fun w' hS => ?_, ?_⟩; (have u0 := HQC.out w' hS; obtain ⟨d0, d1, d2, d3⟩ := HC.out w' (grow_to HB2.out hS); clear hS; go_simp; with_reducible rfl); simp only [List.getElem_toArray, List.getElem_cons_succ, List.getElem_cons_zero, Act.put, List.setIfInBounds_toArray, List.set_cons_zero, List.set_cons_succ])
          refine Walk.calls rfl rfl ?_; apply Exists.intro; apply Exists.intro; refine ⟨fun w' hS => ?_, fun w' hba => ?_⟩; (clear hS; go_simp; exact ⟨rfl, rfl⟩)
          have hu0 := grow_to HBW.out (grow_to HB2.out (grow_to (below_drawn _) hba))
          refine (HCALL.out w' hu0).mono ?_
          rintro e u1 ⟨rfl, hbb⟩
          refine ⟨_, rfl, hbb, ?_⟩
          simp only [List.getElem_toArray, List.getElem_cons_succ, List.getElem_cons_zero, Act.put, List.setIfInBounds_toArray, List.set_cons_zero, List.set_cons_succ]
          clear hba hbb hu0
          refine Walk.fin ?_
          intro v7 hb7 b8 hbb8 hz8 hw7
          simp only [List.getElem_toArray, List.getElem_cons_succ, List.getElem_cons_zero, Act.put, List.setIfInBounds_toArray, List.set_cons_zero, List.set_cons_succ]
          have s47 : (Try.prog.info? 47).map (·.size) = some (rsV (readR ps r (pad L))).size := by kernel_rfl
          have n1 := set_whole b8 47 v7 zero37 (rsV (readR ps r (pad L))) rfl hz8
          have n3 := below_cells (b := b8) hbb8 (rsV (readR ps r (pad L))).toList 0 v7 hw7
          refine Tail.skip rfl rfl (exec_store_row 47 (.tmp 13) (.tmp 34) rfl b8 0 (rsV (readR ps r (pad L))) rfl rfl (there_block hz8 (Nat.le_refl _)) s47 (by simp [rsV, iV, Value.oneCell'])) n3 (Tail.done (NoPanic.normal ?_))
          simp only [List.getElem_toArray, List.getElem_cons_succ, List.getElem_cons_zero, Act.put, List.setIfInBounds_toArray, List.set_cons_zero, List.set_cons_succ]
          generalize v7.setCells b8 0 _ = w2 at *
          clear hz8 hw7 hb7 s47 hbb8
          clear v7 u1
          generalize readR ps r (pad L) = x at *
          rw [show rsV x = #[.int .i64 x.st, .int .i64 x.pk, .int .i64 x.ya, .int .i64 x.y, .int .i64 x.ma, .int .i64 x.pl, .int .i64 x.wk] from rfl] at n1
          have hal := grow_alloc w2 (.cells #[.int .i64 x.pk, .int .i64 x.ya, .int .i64 x.ma] 115)
          have HOW3 : Hid ((w2.alloc (.cells #[.int .i64 x.pk, .int .i64 x.ya, .int .i64 x.ma] 115)).ownsRow W0.heap.size 3 1 u9 (mI q).length ((mI q).map (Value.int .i64))) := Lib.hid (HOW2.out.kept (row := none) (grown_below (grow_to n3 hal)) (by cases u9.ownBlock <;> simp))
          have HB3 := Lib.hid (grow_to HB2.out (grow_to n3 hal))
          have hx9 := heap_alloc_new w2 (.cells #[.int .i64 x.pk, .int .i64 x.ya, .int .i64 x.ma] 115)
          have g0 := cell_of_row _ w2.heap.size 0 _ _ _ hx9
          have g1 := cell_of_row _ w2.heap.size 1 _ _ _ hx9
          have g2' := cell_of_row _ w2.heap.size 2 _ _ _ hx9
          have f1 := cell_of_row w2 b8 1 _ _ _ n1
          have f2 := cell_of_row w2 b8 2 _ _ _ n1
          have f4 := cell_of_row w2 b8 4 _ _ _ n1
          simp at f1 f2 f4
          clear n1 n3 HQC HLC HCALL HOW2 HB2 hal g0 g1 g2' hx9
          clear wr
          have HKK := HK.out
          generalize hmp : mA q p = mp at *
          have HMP := Lib.hid hmp
          clear hmp
          cases mp
          · rcases HKK with rfl | rfl | rfl
            · clear HRD
              go_wp2
              go_roundw
              case rel => exact ⟨p + 1, by omega, by simp, by rw [HSUC.out]; rfl, HOW3, HB3⟩
              case measure => simp [intOf] <;> omega
            · clear HRD
              go_wp2
              go_roundw
              case rel => exact ⟨p + 1, by omega, by simp, by rw [HSUC.out]; rfl, HOW3, HB3⟩
              case measure => simp [intOf] <;> omega
            · clear HRD
              go_wp2
              go_roundw
              case rel => exact ⟨p + 1, by omega, by simp, by rw [HSUC.out]; rfl, HOW3, HB3⟩
              case measure => simp [intOf] <;> omega
          · clear HRD
            rcases HKK with rfl | rfl | rfl
            · skip
              go_wp2
              go_roundw
              case rel => exact ⟨p + 1, by omega, by simp, by rw [HSUC.out]; rfl, HOW3, HB3⟩
              case measure => simp [intOf] <;> omega
            · skip
              go_wp2
              go_roundw
              case rel => exact ⟨p + 1, by omega, by simp, by rw [HSUC.out]; rfl, HOW3, HB3⟩
              case measure => simp [intOf] <;> omega
            · skip
              go_wp2
              go_roundw
              case rel => exact ⟨p + 1, by omega, by simp, by rw [HSUC.out]; rfl, HOW3, HB3⟩
              case measure => simp [intOf] <;> omega
        · obtain rfl : p = LL.length := by omega
          have hpn : ¬ (LL.length : Int) < LL.length := by omega
          generalize hma : mA q LL.length = ma at *
          have HMA := Lib.hid hma
          clear hma
          cases ma
          · have hw8 := HW8.out
            have HE := Lib.hid (HIN.out q HMA.out)
            go_wp2
            go_roundw
            case rel => exact ⟨q + 1, by omega, by simp, by rw [HE.out]; exact HOW2, HB2⟩
            case measure => simp [intOf] <;> omega
          · have HE := Lib.hid (HIY.out q HMA.out)
            have hal := grow_alloc wr (.cells #[.int .i64 (q : Int)] 3)
            have HB3 := grow_to HB2.out hal
            have hlen := HIL.out q
            obtain ⟨g, cg, w7, hrun, hown7, hgr7, hat7, hlt7⟩ := append_one3 (wr.alloc (.cells #[.int .i64 (q : Int)] 3)) W0.heap.size (mI q).length 27 u9 _ q wr.heap.size (HOW2.out.kept (row := none) (grown_below hal) (by cases u9.ownBlock <;> simp)) HB3.size (heap_alloc_new wr _) (by omega)
            have HRUN := Lib.hid hrun
            have HLT := HOW2.out.lt
            have HS7 : Hid (Below W0.heap.size W0 w7) := Lib.hid ⟨hgr7.os.trans HB3.os, hgr7.tape.trans HB3.tape, hgr7.output.trans HB3.output, Nat.le_trans HB3.size hgr7.size, fun k hk => (hgr7.block k (Nat.lt_of_lt_of_le hk HB3.size) (fun e => by have := (HLT k e.symm).1; omega)).trans (HB3.block k hk)⟩
            have HO7 : Hid (w7.ownsRow W0.heap.size 3 1 (.slice (some ⟨g, 0, none⟩) ((mI q).length + 1) cg) (mI (q + 1)).length ((mI (q + 1)).map (Value.int .i64))) := Lib.hid (by
              rw [HE.out, List.length_append, List.length_singleton, List.map_append, List.map_singleton]
              exact hown7)
            clear hrun hown7 hgr7 hat7 hlt7 HLT HB3 hal HE
            have hw8 := HW8.out
            go_wp2_with (first
              | (refine wpList_append_by (v := .slice (some ⟨g, 0, none⟩) ((mI q).length + 1) cg) (W' := w7) (y := u9) (z := .slice (some ⟨wr.heap.size, 0, none⟩) 1 1) rfl (.tmp 51) (.tmp 53) 27 27 27 rfl rfl rfl rfl HRUN.out ?_)
              | fail)
            go_roundw
            case rel => exact ⟨q + 1, by omega, by simp, HO7, HS7⟩
            case measure => simp [intOf] <;> omega
    · obtain rfl : q = ps.length := by omega
      have hqn : ¬ (ps.length : Int) < ps.length := by omega
      go_wp2
      go_ret
      exact ⟨_, rfl, own_zero HOW.out, grow_to HBW.out HB.out⟩
end Go.Proofs.Ytfjlnejeffkdoaa

namespace Go.Proofs.Ytfjlnejeffkdoaa
open Go.RowKit Go.Shelf
attribute [local irreducible] arrV wpQuiet

set_option maxRecDepth 100000 in
set_option maxHeartbeats 1000000 in
theorem ints_same (v u : Value) (L : List Int) (w : World) (hn : L.length ≤ 1000) (h : ListV w v L) (h' : ListV w u L) :
    Calls Try.prog 32 #[v, u] w fun e w' => e = .returned (.bool true) ∧ Below w.heap.size w w' := by
  obtain ⟨sa, cap, rfl, h1⟩ := h.sl
  obtain ⟨sb, cbp, rfl, h2⟩ := h'.sl
  clear h h'
  have H1 := Lib.hid h1
  have H2 := Lib.hid h2
  clear h1 h2
  go_enter Try.func32, Try.ntmps32
  go_wp2
  go_loopw [5] (fun i wr => ∃ q : Nat, q ≤ L.length ∧ i = .int .i64 q ∧ Hid (Below w.heap.size w wr)) (fun i _ => L.length - (intOf i).toNat)
  case atStart => exact ⟨0, Nat.zero_le _, by first | trivial | rfl, Lib.hid (Below.refl _ _)⟩
  case round =>
    obtain ⟨q, hq, rfl, HB⟩ := hrel
    by_cases hlt : q < L.length
    · obtain ⟨g, rfl, hi⟩ := H1.out (by omega)
      obtain ⟨g2, rfl, hi2⟩ := H2.out (by omega)
      have c0 := hi.below HB.out (block_lt_of_cell (hi q hlt)) q hlt
      have c1 := hi2.below HB.out (block_lt_of_cell (hi2 q hlt)) q hlt
      rw [Nat.zero_add] at c0 c1
      have hqn : (q : Int) < L.length := by omega
      generalize ld L q = y at *
      clear hi hi2
      go_wp2
      go_quiet (fail)
      have HB2 := Lib.hid (below_dN (n := nq) HB.out)
      clear c0 c1
      go_wp2
      go_roundw
      case rel => exact ⟨q + 1, by omega, by simp, HB2⟩
      case measure => simp [intOf]; omega
    · obtain rfl : q = L.length := by omega
      have hqn : ¬ (L.length : Int) < L.length := by omega
      go_wp2
      go_ret
      exact ⟨rfl, HB.out⟩

set_option maxRecDepth 100000 in
set_option maxHeartbeats 400000 in
theorem points_no (sa : Option Addr) (n cap : Nat) (d k o : Int) (w : World)
    (HF : ∀ W, Below w.heap.size w W → Calls Try.prog 27 #[.agg #[.slice sa n cap]] W fun e w' => e = .returned (.bool false) ∧ Below W.heap.size W w') :
    Calls Try.prog 5 #[.agg #[.slice sa n cap], .agg #[.int .i64 d, .int .i64 k, .int .i64 o]] w fun e w' => e = .returned (.bool true) ∧ Below w.heap.size w w' := by
  have HRR := Lib.hid HF
  have hb2 := below2 w (.cells #[.slice sa n cap] 24) (.cells #[.int .i64 d, .int .i64 k, .int .i64 o] 26)
  have HA := Lib.hid awake_any
  clear HF
  go_enter Try.func5, Try.ntmps5
  go_wp2_with fail
  refine (HRR.out _ hb2).mono ?_
  rintro e w1 ⟨rfl, hb1⟩
  have hbw := below_to hb2 hb1
  clear hb1 hb2
  go_wp2_with fail
  refine (HA.out _).mono ?_
  rintro e w2 ⟨rfl, hb3⟩
  have hbw2 := below_to hbw hb3
  clear hb3 hbw
  go_wp2
  go_ret
  exact ⟨rfl, hbw2⟩

set_option maxRecDepth 100000 in
set_option maxHeartbeats 4000000 in
theorem points_bad (sa : Option Addr) (n cap : Nat) (d k o E : Int) (ps : List Pt) (w : World) (hB : BadC sa n cap d k o E ps w)
    (HFEW : ∀ W, Below w.heap.size w W → Calls Try.prog 27 #[.agg #[.slice sa n cap]] W fun e w' => e = .returned (.bool true) ∧ Below W.heap.size W w') :
    Calls Try.prog 5 #[.agg #[.slice sa n cap], .agg #[.int .i64 d, .int .i64 k, .int .i64 o]] w fun e w' => e = .returned (.bool true) ∧ Below w.heap.size w w' := by
  have hne : (E == 0) = false := by rw [beq_eq_false_iff_ne]; exact hB.ne
  have hne' : (E != 0) = true := by rw [bne_iff_ne]; exact hB.ne
  have H1 := Lib.hid (CVp.grown hB.len)
  have H2 := Lib.hid HFEW
  have H3 := Lib.hid hB.cv
  have H4 : Hid (∀ v W, CVp n ps v W → Calls Try.prog 31 #[.agg #[v], .agg #[.int .i64 d, .int .i64 k, .int .i64 o]] W fun e w' => e = .returned (.tuple #[.slice none 0 0, .slice none 0 0, .slice none 0 0, .int .i64 E]) ∧ Below W.heap.size W w') := Lib.hid fun v W h => by
    obtain ⟨s, c, rfl, h1⟩ := h
    exact Points_bad s n c d k o E W hB.ne fun W' hb => hB.rc _ W' (CVp.grown hB.len _ _ _ ⟨s, c, rfl, h1⟩ hb)
  have H5 := Lib.hid hB.fl
  clear HFEW hB
  have hb2 := below2 w (.cells #[.slice sa n cap] 24) (.cells #[.int .i64 d, .int .i64 k, .int .i64 o] 26)
  obtain ⟨hx1, hx2⟩ := box2 w (.cells #[.slice sa n cap] 24) (.cells #[.int .i64 d, .int .i64 k, .int .i64 o] 26)
  have HA := Lib.hid awake_any
  go_enter Try.func5, Try.ntmps5
  go_wp2_with fail
  generalize World.alloc (World.alloc w _) _ = W1 at *
  refine (H2.out _ hb2).mono ?_
  rintro e w1 ⟨rfl, hb1⟩
  have HBW := Lib.hid (below_to hb2 hb1)
  have HC : Hid (∀ w', Below w1.heap.size w1 w' → w'.cell? ⟨w.heap.size, 0, none⟩ = some (.slice sa n cap) ∧ w'.cell? ⟨w.heap.size + 1, 0, none⟩ = some (.int .i64 d) ∧ w'.cell? ⟨w.heap.size + 1, 1, none⟩ = some (.int .i64 k) ∧ w'.cell? ⟨w.heap.size + 1, 2, none⟩ = some (.int .i64 o)) := Lib.hid fun w' h => by
    have z1 := (hb1.block _ (lt_of_block hx1)).trans hx1
    have z2 := (hb1.block _ (lt_of_block hx2)).trans hx2
    have y1 := (h.block _ (lt_of_block z1)).trans z1
    have y2 := (h.block _ (lt_of_block z2)).trans z2
    exact ⟨cell_of_row w' w.heap.size 0 _ _ _ y1, cell_of_row w' (w.heap.size + 1) 0 _ _ _ y2, cell_of_row w' (w.heap.size + 1) 1 _ _ _ y2, cell_of_row w' (w.heap.size + 1) 2 _ _ _ y2⟩
  clear hb1 hb2 hx1 hx2
  clear W1
  go_wp2
  refine wp_region_noPanic ?_
  refine wp_region_chain (fun w' => Below w1.heap.size w1 w') (fun _ _ h hb => grow_to h hb) (below_drawn _) (by kernel_rfl) (fun _ _ _ _ _ h => h)
    [(false, 0), (false, 2), (true, 1), (true, 3), (true, 4), (false, 5), (false, 6), (false, 7), (false, 8), (false, 9)] [10, 11, 12, 13] (by kernel_rfl) ?_
  iterate 2
    (refine Walk.takes rfl rfl ?_; apply Exists.intro; refine ⟨fun w' hS => ?_, ?_⟩; (obtain ⟨d0, d1, d2, d3⟩ := HC.out w' hS; clear hS; go_simp; with_reducible rfl); simp only [List.getElem_toArray, List.getElem_cons_succ, List.getElem_cons_zero, Act.put, List.setIfInBounds_toArray, List.set_cons_zero, List.set_cons_succ])
  refine Walk.calls rfl rfl ?_; apply Exists.intro; apply Exists.intro; refine ⟨fun w' hS => ?_, fun w' hba => ?_⟩; (clear hS; go_simp; exact ⟨rfl, rfl⟩)
  have hu0 := grow_to HBW.out (grow_to (below_drawn _) hba)
  refine (H3.out w' hu0).mono ?_
  rintro e u1 ⟨v2, rfl, hv2, hbb⟩
  refine ⟨_, rfl, hbb, ?_⟩
  simp only [List.getElem_toArray, List.getElem_cons_succ, List.getElem_cons_zero, Act.put, List.setIfInBounds_toArray, List.set_cons_zero, List.set_cons_succ]
  clear hba hbb hu0
  refine Walk.calls rfl rfl ?_; apply Exists.intro; apply Exists.intro; refine ⟨fun w' hS => ?_, fun w' hba => ?_⟩; (clear hS; go_simp; exact ⟨rfl, rfl⟩)
  refine (Rule_any d k o w').mono ?_
  rintro e u2 ⟨rfl, hbb⟩
  refine ⟨_, rfl, hbb, ?_⟩
  simp only [List.getElem_toArray, List.getElem_cons_succ, List.getElem_cons_zero, Act.put, List.setIfInBounds_toArray, List.set_cons_zero, List.set_cons_succ]
  replace hv2 := H1.out _ _ _ (H1.out _ _ _ hv2 hba) hbb
  clear hba hbb
  refine Walk.calls rfl rfl ?_; apply Exists.intro; apply Exists.intro; refine ⟨fun w' hS => ?_, fun w' hba => ?_⟩; (clear hS; go_simp; exact ⟨rfl, rfl⟩)
  refine (H4.out v2 w' (H1.out _ _ _ hv2 hba)).mono ?_
  rintro e u3 ⟨rfl, hbb⟩
  refine ⟨_, rfl, hbb, ?_⟩
  simp only [List.getElem_toArray, List.getElem_cons_succ, List.getElem_cons_zero, Act.put, List.setIfInBounds_toArray, List.set_cons_zero, List.set_cons_succ]
  clear hba hbb hv2
  iterate 5
    (refine Walk.takes rfl rfl ?_; apply Exists.intro; refine ⟨fun w' hS => ?_, ?_⟩; (clear hS; go_simp; with_reducible rfl); simp only [List.getElem_toArray, List.getElem_cons_succ, List.getElem_cons_zero, Act.put, List.setIfInBounds_toArray, List.set_cons_zero, List.set_cons_succ])
  refine Walk.fin ?_
  intro w2 hb9 hS9
  clear hb9
  iterate 4
    (refine Tail.value rfl rfl (by go_simp; with_reducible rfl) ?_; simp only [List.getElem_toArray, List.getElem_cons_succ, List.getElem_cons_zero, Act.put, List.setIfInBounds_toArray, List.set_cons_zero, List.set_cons_succ])
  refine Tail.done (NoPanic.normal ?_)
  have HB := Lib.hid hS9
  clear hS9 H3 H4 H1 H2
  obtain ⟨d0, d1, d2, d3⟩ := HC.out w2 HB.out
  go_wp2_with fail
  refine (H5.out w2 (grow_to HBW.out HB.out)).mono ?_
  rintro e w3 ⟨rfl, hb3⟩
  have HBG := Lib.hid (grow_to (grow_to HBW.out HB.out) hb3)
  clear hb3 d0 d1 d2 d3 H5
  go_wp2_with fail
  refine (HA.out _).mono ?_
  rintro e w4 ⟨rfl, hb4⟩
  have hbf := grow_to HBG.out hb4
  clear hb4
  go_wp2
  go_ret
  exact ⟨rfl, hbf⟩

set_option maxRecDepth 100000 in
set_option maxHeartbeats 4000000 in
theorem points_good (b off cap : Nat) (d k o : Int) (ps : List Pt) (w : World) (hG : GoodC b off cap d k o ps w)
    (HFEW : ∀ W, Below w.heap.size w W → Calls Try.prog 27 #[.agg #[.slice (some ⟨b, off, none⟩) ps.length cap]] W fun e w' => e = .returned (.bool true) ∧ Below W.heap.size W w') :
    Calls Try.prog 5 #[.agg #[.slice (some ⟨b, off, none⟩) ps.length cap], .agg #[.int .i64 d, .int .i64 k, .int .i64 o]] w fun e w' => e = .returned (.bool true) ∧ Below w.heap.size w w' := by
  have hltb := block_lt_of_cell (hG.p 0 hG.pos).1
  have H1 := Lib.hid (CVp.grown (n := ps.length) (ps := ps) rfl)
  have H2 := Lib.hid HFEW
  have H3 := Lib.hid hG.cv
  have H4 : Hid (∀ v W, CVp ps.length ps v W → Calls Try.prog 31 #[.agg #[v], .agg #[.int .i64 d, .int .i64 k, .int .i64 o]] W fun e w' => ∃ v0 v1 v2, e = .returned (.tuple #[v0, v1, v2, .int .i64 0]) ∧ ListV w' v0 (mayP ps ⟨d, k, o⟩ 0) ∧ ListV w' v1 (mayP ps ⟨d, k, o⟩ 1) ∧ ListV w' v2 (mayP ps ⟨d, k, o⟩ 2) ∧ Below W.heap.size W w') := Lib.hid fun v W h => by
    obtain ⟨s, c, rfl, h1⟩ := h
    obtain ⟨B, rfl, hB⟩ := h1 hG.pos
    exact Points_ok B 0 c ps ⟨d, k, o⟩ W hG.sane hG.both hB
  have H5 := Lib.hid hG.fl
  have H6 := Lib.hid fun W (hb : Below w.heap.size w W) => (Truths_all b off cap ps W hG.len hG.lo (by have := hG.few; omega) (hG.p.below hb hltb)).mono fun e w' (h : Lists1 W (allT ps) e w') => (⟨h.choose, h.choose_spec.1, h.choose_spec.2.1.mono (Nat.zero_le _), h.choose_spec.2.2⟩ : ∃ v, e = .returned v ∧ ListsV 0 w' v (allT ps) ∧ Below W.heap.size W w')
  have H7 : Hid (∀ (kd : Int) v W, (kd = 0 ∨ kd = 1 ∨ kd = 2) → ListsV 0 W v (allT ps) → Below w.heap.size w W → Calls Try.prog 33 #[.agg #[.slice (some ⟨b, off, none⟩) ps.length cap], .agg #[.int .i64 d, .int .i64 k, .int .i64 o], .int .i64 kd, v] W fun e w' => ∃ u, e = .returned u ∧ ListV w' u (mayP ps ⟨d, k, o⟩ kd) ∧ Below W.heap.size W w') := Lib.hid fun kd v W hk hv hb => by
    have := MayBe_ok b off cap kd ps ⟨d, k, o⟩ 0 v (allT ps) W hk hG.sane (hG.p.below hb hltb) hv (by have := hG.few; omega) hG.truth
    rw [mayI_all hG.sane hG.g kd hk] at this
    exact this.mono fun e w' (h : Nums1 W (mayP ps ⟨d, k, o⟩ kd) e w') => ⟨h.choose, h.choose_spec.1, ListV.of_own h.choose_spec.2.1, h.choose_spec.2.2⟩
  have HML := Lib.hid fun kd => mayP_len ps ⟨d, k, o⟩ kd
  clear HFEW hG hltb
  generalize mayP ps ⟨d, k, o⟩ = mp at *
  generalize allT ps = LT at *
  have hb2 := below2 w (.cells #[.slice (some ⟨b, off, none⟩) ps.length cap] 24) (.cells #[.int .i64 d, .int .i64 k, .int .i64 o] 26)
  obtain ⟨hx1, hx2⟩ := box2 w (.cells #[.slice (some ⟨b, off, none⟩) ps.length cap] 24) (.cells #[.int .i64 d, .int .i64 k, .int .i64 o] 26)
  have HA := Lib.hid awake_any
  go_enter Try.func5, Try.ntmps5
  go_wp2_with fail
  generalize World.alloc (World.alloc w _) _ = W1 at *
  refine (H2.out _ hb2).mono ?_
  rintro e w1 ⟨rfl, hb1⟩
  have HBW := Lib.hid (below_to hb2 hb1)
  have HC : Hid (∀ w', Below w1.heap.size w1 w' → w'.cell? ⟨w.heap.size, 0, none⟩ = some (.slice (some ⟨b, off, none⟩) ps.length cap) ∧ w'.cell? ⟨w.heap.size + 1, 0, none⟩ = some (.int .i64 d) ∧ w'.cell? ⟨w.heap.size + 1, 1, none⟩ = some (.int .i64 k) ∧ w'.cell? ⟨w.heap.size + 1, 2, none⟩ = some (.int .i64 o)) := Lib.hid fun w' h => by
    have z1 := (hb1.block _ (lt_of_block hx1)).trans hx1
    have z2 := (hb1.block _ (lt_of_block hx2)).trans hx2
    have y1 := (h.block _ (lt_of_block z1)).trans z1
    have y2 := (h.block _ (lt_of_block z2)).trans z2
    exact ⟨cell_of_row w' w.heap.size 0 _ _ _ y1, cell_of_row w' (w.heap.size + 1) 0 _ _ _ y2, cell_of_row w' (w.heap.size + 1) 1 _ _ _ y2, cell_of_row w' (w.heap.size + 1) 2 _ _ _ y2⟩
  clear hb1 hb2 hx1 hx2
  clear W1
  go_wp2
  refine wp_region_noPanic ?_
  refine wp_region_chain (fun w' => Below w1.heap.size w1 w') (fun _ _ h hb => grow_to h hb) (below_drawn _) (by kernel_rfl) (fun _ _ _ _ _ h => h)
    [(false, 0), (false, 2), (true, 1), (true, 3), (true, 4), (false, 5), (false, 6), (false, 7), (false, 8), (false, 9)] [10, 11, 12, 13] (by kernel_rfl) ?_
  iterate 2
    (refine Walk.takes rfl rfl ?_; apply Exists.intro; refine ⟨fun w' hS => ?_, ?_⟩; (obtain ⟨d0, d1, d2, d3⟩ := HC.out w' hS; clear hS; go_simp; with_reducible rfl); simp only [List.getElem_toArray, List.getElem_cons_succ, List.getElem_cons_zero, Act.put, List.setIfInBounds_toArray, List.set_cons_zero, List.set_cons_succ])
  refine Walk.calls rfl rfl ?_; apply Exists.intro; apply Exists.intro; refine ⟨fun w' hS => ?_, fun w' hba => ?_⟩; (clear hS; go_simp; exact ⟨rfl, rfl⟩)
  have hu0 := grow_to HBW.out (grow_to (below_drawn _) hba)
  refine (H3.out w' hu0).mono ?_
  rintro e u1 ⟨v2, rfl, hv2, hbb⟩
  refine ⟨_, rfl, hbb, ?_⟩
  simp only [List.getElem_toArray, List.getElem_cons_succ, List.getElem_cons_zero, Act.put, List.setIfInBounds_toArray, List.set_cons_zero, List.set_cons_succ]
  clear hba hbb hu0
  refine Walk.calls rfl rfl ?_; apply Exists.intro; apply Exists.intro; refine ⟨fun w' hS => ?_, fun w' hba => ?_⟩; (clear hS; go_simp; exact ⟨rfl, rfl⟩)
  refine (Rule_any d k o w').mono ?_
  rintro e u2 ⟨rfl, hbb⟩
  refine ⟨_, rfl, hbb, ?_⟩
  simp only [List.getElem_toArray, List.getElem_cons_succ, List.getElem_cons_zero, Act.put, List.setIfInBounds_toArray, List.set_cons_zero, List.set_cons_succ]
  replace hv2 := H1.out _ _ _ (H1.out _ _ _ hv2 hba) hbb
  clear hba hbb
  refine Walk.calls rfl rfl ?_; apply Exists.intro; apply Exists.intro; refine ⟨fun w' hS => ?_, fun w' hba => ?_⟩; (clear hS; go_simp; exact ⟨rfl, rfl⟩)
  refine (H4.out v2 w' (H1.out _ _ _ hv2 hba)).mono ?_
  rintro e u3 ⟨y0, y1, y2, rfl, hv0, hv1, hv3, hbb⟩
  refine ⟨_, rfl, hbb, ?_⟩
  simp only [List.getElem_toArray, List.getElem_cons_succ, List.getElem_cons_zero, Act.put, List.setIfInBounds_toArray, List.set_cons_zero, List.set_cons_succ]
  clear hba hbb hv2
  iterate 5
    (refine Walk.takes rfl rfl ?_; apply Exists.intro; refine ⟨fun w' hS => ?_, ?_⟩; (clear hS; go_simp; with_reducible rfl); simp only [List.getElem_toArray, List.getElem_cons_succ, List.getElem_cons_zero, Act.put, List.setIfInBounds_toArray, List.set_cons_zero, List.set_cons_succ])
  refine Walk.fin ?_
  intro w2 hb9 hS9
  have V0 := Lib.hid (hv0.below hb9)
  have V1 := Lib.hid (hv1.below hb9)
  have V2 := Lib.hid (hv3.below hb9)
  clear hb9 hv0 hv1 hv3
  iterate 4
    (refine Tail.value rfl rfl (by go_simp; with_reducible rfl) ?_; simp only [List.getElem_toArray, List.getElem_cons_succ, List.getElem_cons_zero, Act.put, List.setIfInBounds_toArray, List.set_cons_zero, List.set_cons_succ])
  refine Tail.done (NoPanic.normal ?_)
  have HB := Lib.hid hS9
  clear hS9 H3 H4 H1 H2
  obtain ⟨d0, d1, d2, d3⟩ := HC.out w2 HB.out
  go_wp2_with fail
  refine (H5.out w2 (grow_to HBW.out HB.out)).mono ?_
  rintro e w3 ⟨rfl, hb3⟩
  replace HB := Lib.hid (grow_to HB.out hb3)
  replace V0 := Lib.hid (V0.out.below hb3)
  replace V1 := Lib.hid (V1.out.below hb3)
  replace V2 := Lib.hid (V2.out.below hb3)
  clear hb3 d0 d1 d2 d3 H5
  clear w2
  obtain ⟨d0, d1, d2, d3⟩ := HC.out w3 HB.out
  go_wp2_with fail
  refine (H6.out w3 (grow_to HBW.out HB.out)).mono ?_
  rintro e w4 ⟨lv, rfl, hlv, hb4⟩
  replace HB := Lib.hid (grow_to HB.out hb4)
  replace V0 := Lib.hid (V0.out.below hb4)
  replace V1 := Lib.hid (V1.out.below hb4)
  replace V2 := Lib.hid (V2.out.below hb4)
  have HLV := Lib.hid hlv
  clear hb4 hlv d0 d1 d2 d3 H6
  clear w3
  obtain ⟨d0, d1, d2, d3⟩ := HC.out w4 HB.out
  go_wp2_with fail
  refine (H7.out 0 lv w4 (by omega) HLV.out (grow_to HBW.out HB.out)).mono ?_
  rintro e w5 ⟨z0, rfl, hz, hb4⟩
  replace HB := Lib.hid (grow_to HB.out hb4)
  replace V0 := Lib.hid (V0.out.below hb4)
  replace V1 := Lib.hid (V1.out.below hb4)
  replace V2 := Lib.hid (V2.out.below hb4)
  replace HLV := Lib.hid (HLV.out.below hb4)
  have HZ := Lib.hid hz
  clear hb4 hz d0 d1 d2 d3
  clear w4
  go_wp2_with fail
  refine (ints_same y0 z0 (mp 0) w5 (by have := HML.out 0; omega) V0.out HZ.out).mono ?_
  rintro e w6 ⟨rfl, hb4⟩
  replace HB := Lib.hid (grow_to HB.out hb4)
  replace V0 := Lib.hid (V0.out.below hb4)
  replace V1 := Lib.hid (V1.out.below hb4)
  replace V2 := Lib.hid (V2.out.below hb4)
  replace HLV := Lib.hid (HLV.out.below hb4)
  clear hb4 HZ
  clear w5
  obtain ⟨d0, d1, d2, d3⟩ := HC.out w6 HB.out
  go_wp2_with fail
  refine (H7.out 1 lv w6 (by omega) HLV.out (grow_to HBW.out HB.out)).mono ?_
  rintro e w7 ⟨z1, rfl, hz, hb4⟩
  replace HB := Lib.hid (grow_to HB.out hb4)
  replace V0 := Lib.hid (V0.out.below hb4)
  replace V1 := Lib.hid (V1.out.below hb4)
  replace V2 := Lib.hid (V2.out.below hb4)
  replace HLV := Lib.hid (HLV.out.below hb4)
  have HZ := Lib.hid hz
  clear hb4 hz d0 d1 d2 d3
  clear w6
  go_wp2_with fail
  refine (ints_same y1 z1 (mp 1) w7 (by have := HML.out 1; omega) V1.out HZ.out).mono ?_
  rintro e w8 ⟨rfl, hb4⟩
  replace HB := Lib.hid (grow_to HB.out hb4)
  replace V0 := Lib.hid (V0.out.below hb4)
  replace V1 := Lib.hid (V1.out.below hb4)
  replace V2 := Lib.hid (V2.out.below hb4)
  replace HLV := Lib.hid (HLV.out.below hb4)
  clear hb4 HZ
  clear w7
  obtain ⟨d0, d1, d2, d3⟩ := HC.out w8 HB.out
  go_wp2_with fail
  refine (H7.out 2 lv w8 (by omega) HLV.out (grow_to HBW.out HB.out)).mono ?_
  rintro e w9 ⟨z2, rfl, hz, hb4⟩
  replace HB := Lib.hid (grow_to HB.out hb4)
  replace V0 := Lib.hid (V0.out.below hb4)
  replace V1 := Lib.hid (V1.out.below hb4)
  replace V2 := Lib.hid (V2.out.below hb4)
  replace HLV := Lib.hid (HLV.out.below hb4)
  have HZ := Lib.hid hz
  clear hb4 hz d0 d1 d2 d3
  clear w8
  go_wp2_with fail
  refine (ints_same y2 z2 (mp 2) w9 (by have := HML.out 2; omega) V2.out HZ.out).mono ?_
  rintro e w10 ⟨rfl, hb4⟩
  replace HB := Lib.hid (grow_to HB.out hb4)
  replace V0 := Lib.hid (V0.out.below hb4)
  replace V1 := Lib.hid (V1.out.below hb4)
  replace V2 := Lib.hid (V2.out.below hb4)
  replace HLV := Lib.hid (HLV.out.below hb4)
  clear hb4 HZ
  clear w9
  go_wp2_with fail
  refine (HA.out _).mono ?_
  rintro e w11 ⟨rfl, hb4⟩
  have hbf := grow_to (grow_to HBW.out HB.out) hb4
  clear hb4
  go_wp2
  go_ret
  exact ⟨rfl, hbf⟩
end Go.Proofs.Ytfjlnejeffkdoaa

namespace Go.Proofs.Ytfjlnejeffkdoaa
open Go.ChangeShapes Go.WideShapes Go.ChangeAt Go.RowKit
attribute [local irreducible] arrV

/-- The law returns true: a curve and a rule, as they lie in memory. -/
theorem points_law (sa : Option Addr) (n cap : Nat) (d k o : Int) (w : World) (hnl : n ≤ maxLen) (hp0 : 0 < n → ∃ b off ps, sa = some ⟨b, off, none⟩ ∧ ps.length = n ∧ PtsIn w b off ps) :
    Calls Try.prog 5 #[.agg #[.slice sa n cap], .agg #[.int .i64 d, .int .i64 k, .int .i64 o]] w fun e w' => e = .returned (.bool true) ∧ Below w.heap.size w w' := by
  obtain ⟨q, hfew, hq⟩ := curve_cases sa n cap d k o w hnl hp0
  cases q with
  | false => exact points_no sa n cap d k o w hfew
  | true =>
    rcases hq rfl with ⟨ps, E, hB⟩ | ⟨b, off, ps, rfl, rfl, hG⟩
    · exact points_bad sa n cap d k o E ps w hB hfew
    · exact points_good b off cap d k o ps w hG hfew

set_option maxRecDepth 100000 in
theorem points_lifted (os : Os) (started : os.Started) (H : Type) (enc : TypeId × Value → H) :
    ReturnsInHanded {} Try.checked os 5 .any (Rows.curvePointsSpec.pre6 enc Try.prog Try.f5 Rows.curvePointsRow.domain false) (Rows.curvePointsSpec.post enc Try.prog Try.f5 false true false false) := by
  refine returnsInHanded_of_change (C := Try.checked) Try.own started (by kernel_rfl) Try.func5
    (ChangeSpec.witness6 (enc := enc) (C := Try.checked) false ⟨#[], #[.agg #[.slice none 0 0], .agg #[.int .i64 0, .int .i64 0, .int .i64 0]], []⟩ 8 (by kernel_rfl) (by kernel_rfl) (by kernel_rfl) (by kernel_rfl)) ?_
  intro W base args ds gs before hval0 hW _ _
  have hval : ∀ (j : Nat) t v, Try.f5.params[j]? = some t → args[j]? = some v → Value.okWide Try.prog W .any base t v := hval0
  have hW' := hW
  obtain ⟨p, q, hA0, hV, rfl, hfz, hnd⟩ := hW
  have hA : DataW.TrodAll enc Try.prog W 0 (fun _ => true) true Try.f5.params.toList args.toList ds p := hA0
  rw [Try.params5] at hA hval
  obtain ⟨v0, vs0, d0, ds0, p0, q0, hargs, rfl, rfl, h0, r0⟩ := trodAll_cons hA
  obtain ⟨v1, vs1, d1, ds1, p1, q1, rfl, rfl, rfl, h1, r1⟩ := trodAll_cons r0
  obtain ⟨rfl, rfl, rfl⟩ := trodAll_nil r1
  obtain ⟨args⟩ := args
  simp only at hargs
  subst hargs
  obtain ⟨rfl, rfl⟩ := trodVars_none hV
  obtain ⟨sa, n, cap, rfl, hn, hp⟩ := open_curve (hval 0 24 v0 rfl rfl) h0
  obtain ⟨d, k, o, rfl⟩ := open_rule (hval 1 26 v1 rfl rfl) h1
  clear hA0 hval0
  refine (points_law sa n cap d k o W hn hp).mono fun e W' ⟨he, hb⟩ => ?_
  subst he
  have hlt : ∀ x ∈ p0 ++ p1, x.block < W.heap.size := fun x hx => by simpa using hW'.lt x (by simpa using hx)
  have e1 : Rows.curvePointsSpec.fn H ([d0, d1] ++ []) = { results := [.lit (.bool true)], args := [d0, d1] } := rfl
  refine ⟨_, rfl, _, _, _, [], p0 ++ (p1 ++ []), [], hW', ?_, ?_, ?_, hb.frame _, fun h => by cases h⟩
  · rw [e1]
    exact trodAll_mk1 (shut_bool Try.underlying4 true)
  · rw [e1]
    exact trodAll_cons_mk (Below.trod Try.laidOut (by kernel_rfl) (of_decide_eq_true (by kernel_rfl)) h0 hb (fun x hx => hlt x (by simp [hx])))
      (trodAll_cons_mk (Below.trod Try.laidOut (by kernel_rfl) (of_decide_eq_true (by kernel_rfl)) h1 hb (fun x hx => hlt x (by simp [hx]))) trodAll_mk0)
  · rfl

theorem points_holds : Rows.CurvePointsSaid :=
  OpenClaim.holds_of_wide 5 Try.f5 rfl rfl rfl rfl rfl rfl rfl ⟨rfl, rfl, rfl, rfl, rfl⟩ rfl rfl rfl rfl rfl (by kernel_rfl) Try.func5 (by kernel_rfl)
    (of_decide_eq_true (by kernel_rfl)) (by unfold Func.isWrapper; rw [if_neg (of_decide_eq_false (by kernel_rfl))]; exact ⟨rfl, rfl⟩)
    (fun os started H enc _ => points_lifted os started H enc)
#print axioms points_holds
end Go.Proofs.Ytfjlnejeffkdoaa
