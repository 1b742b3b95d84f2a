/- The law CreepRates, walked. No condition. -/
import Derived.Test.YtfijaafkagcmmaaL5J
import Derived.BigRegion
import Derived.StillTailTactics
namespace Go.Proofs.Ytfijaafkagcmmaa
open Go.RowKit Go.Shelf
attribute [local irreducible] arrV wpQuiet

theorem lists_cell {base : Nat} {w : World} {sa : Option Addr} {n cap i : Nat} {LL : List (List Int)} {L : List Int} (h : ListsV base w (.slice sa n cap) LL) (hi : LL[i]? = some L) (h0 : 0 < L.length) :
    ∃ g h uc, sa = some ⟨g, 0, none⟩ ∧ w.cell? ⟨g, i, none⟩ = some (.slice (some ⟨h, 0, none⟩) L.length uc) ∧ ∀ j, j < L.length → w.cell? ⟨h, j, none⟩ = some (.int .i64 (ld L j)) := by
  obtain ⟨g, u, rfl, hc, hN⟩ := h.at_ hi
  obtain ⟨ua, uc, rfl, h1, h2⟩ := hN.form
  cases ua with
  | none => exact absurd (h1 rfl) (by omega)
  | some ad =>
    obtain ⟨g2, rfl, h3⟩ := h2 ad rfl
    exact ⟨g, g2, uc, rfl, hc, fun j hj => by have := h3 j hj; rwa [Nat.zero_add] at this⟩
def loT (LL : List (List Int)) (b i : Nat) : Int := ((LL.take i).map (ld · b)).foldl min (ld ((LL[0]?).getD []) b)
def hiT (LL : List (List Int)) (b i : Nat) : Int := ((LL.take i).map (ld · b)).foldl max (ld ((LL[0]?).getD []) b)
theorem loT_step {LL : List (List Int)} {b i : Nat} {L : List Int} (h : LL[i]? = some L) : loT LL b (i + 1) = min (loT LL b i) (ld L b) ∧ hiT LL b (i + 1) = max (hiT LL b i) (ld L b) := by
  unfold loT hiT
  rw [List.take_add_one, h]
  simp [List.foldl_append]
theorem loT_end {LL : List (List Int)} (h : LL ≠ []) (b : Nat) : loT LL b LL.length = lowR LL b ∧ hiT LL b LL.length = highR LL b := by
  cases LL with
  | nil => exact absurd rfl h
  | cons L LL =>
    unfold loT hiT lowR highR
    rw [List.take_of_length_le (Nat.le_refl _)]
    simp [leastL, greatL, rt_ld]
theorem allow_ok {ms : List Rg} {rs : List Rn} (h : allowE ms rs = 0) : RoomOk ms rs ∧ okL ms rs ≠ [] := by
  unfold allowE at h
  by_cases hf : faultE ms rs = 0
  · rw [if_pos hf] at h
    refine ⟨faultE_ok hf, fun e => ?_⟩
    rw [e] at h
    simp [failE, someB] at h
  · rw [if_neg hf] at h
    exact absurd h hf
theorem thin_held {nm np : Nat} {ms : List Rg} {rs : List Rn} (hm : ms.length = nm) (h : thinB nm rs np = true) : Held ms rs := by
  obtain ⟨h1, h2, _, h4⟩ := thin_all h
  exact ⟨by omega, by omega, fun r hr => by have := h4 r hr; omega⟩
theorem rg_ranges {al : List (List Int)} {n k : Nat} (h : k < n) : rg (rangesL al n) k = ⟨lowR al k, highR al k⟩ := by simp [rg, rangesL, h]

set_option maxRecDepth 100000 in
set_option maxHeartbeats 4000000 in
theorem rates_walk (mv rv : Value) (ms : List Rg) (rs : List Rn) (w : World) (hV : RgsV w.heap.size w mv ms) (hR : RunsV w.heap.size w rv rs) :
    Calls Try.prog 4 #[.agg #[mv], rv] w fun e w' => e = .returned (.bool true) ∧ Below w.heap.size w w' := by
  have HROOM : Hid (∀ w', Below w.heap.size w w' → RoomV w.heap.size w' mv rv ms rs) := Lib.hid fun w' h => ⟨h.size, hV.same (.below (Nat.le_refl _) h), hR.same (.below (Nat.le_refl _) h)⟩
  have HMA0 := Lib.hid fun (hl : ms.length ≤ 1000) w' (h : Below w.heap.size w w') => Material_any w.heap.size mv ms w' hl (hV.same (.below (Nat.le_refl _) h)) h.size
  have HRU0 := Lib.hid fun (hl : rs.length ≤ 1000) (hs : ∀ q, q ∈ rs → q.ss.length ≤ 1000) w' (h : Below w.heap.size w w') => Runs_any w.heap.size rv rs w' hl hs (hR.same (.below (Nat.le_refl _) h)) h.size
  obtain ⟨am, capm, rfl, -⟩ := hV
  have HTH := Lib.hid fun w' (h : Below w.heap.size w w') => Thin_any w.heap.size am ms.length capm rv none 0 0 rs w' (hR.same (.below (Nat.le_refl _) h)) h.size
  obtain ⟨ar, capr, rfl, -⟩ := hR
  have HX := Lib.hid (heap_alloc_new w (.cells #[.slice am ms.length capm] 24))
  have HB := Lib.hid (box_below w (.cells #[.slice am ms.length capm] 24))
  have HA := Lib.hid awake_any
  have HHE := Lib.hid fun h => @thin_held ms.length 0 ms rs rfl h
  generalize hz : thinB ms.length rs 0 = z at *
  clear hz
  go_enter Try.func4, Try.ntmps4
  go_wp2_with fail
  refine (HTH.out _ HB.out).mono ?_
  rintro e u0 ⟨rfl, hb⟩
  have HXA := Lib.hid ((hb.block _ (lt_of_block HX.out)).trans HX.out)
  have HBA := Lib.hid (below_to HB.out hb)
  clear hb HX HB HTH
  cases z with
  | false =>
    go_wp2_with fail
    refine (HA.out u0).mono ?_
    rintro e u1 ⟨rfl, hb⟩
    have HBF := Lib.hid (below_to HBA.out hb)
    clear hb
    go_wp2
    go_ret
    exact ⟨rfl, HBF.out⟩
  | true =>
    have HH := Lib.hid (HHE.out (by trivial))
    have HMA := Lib.hid (HMA0.out HH.out.m)
    have HRU := Lib.hid (HRU0.out HH.out.r HH.out.s)
    clear HHE HMA0 HRU0
    have c0 := cell_of_row u0 w.heap.size 0 _ _ _ HXA.out
    simp only [List.getElem?_toArray, List.getElem?_cons_zero] at c0
    have l0 := lt_of_block HXA.out
    by_cases hE : allowE ms rs ≠ 0
    · have HE := Lib.hid hE
      clear hE
      go_wp2_with fail
      refine (HMA.out u0 HBA.out).mono ?_
      rintro e u1 ⟨⟨m6, rfl, hm6⟩, hb⟩
      replace HXA := Lib.hid ((hb.block _ (lt_of_block HXA.out)).trans HXA.out)
      replace HBA := Lib.hid (below_to HBA.out hb)
      clear hb
      have HM6 := Lib.hid hm6
      clear hm6 c0 l0
      go_wp2_with fail
      refine (HRU.out u1 HBA.out).mono ?_
      rintro e u2 ⟨⟨r7, rfl, hr7⟩, hb⟩
      replace HXA := Lib.hid ((hb.block _ (lt_of_block HXA.out)).trans HXA.out)
      replace HBA := Lib.hid (below_to HBA.out hb)
      replace HM6 := Lib.hid ((HM6.out.same (.below (Nat.le_refl _) hb)).up hb.size)
      clear hb
      have HV7 : Hid (RoomV u2.heap.size u2 m6 r7 ms rs) := Lib.hid ⟨Nat.le_refl _, HM6.out, hr7⟩
      clear hr7 HM6
      go_wp2_with fail
      have hra := Rates_err u2.heap.size m6 r7 ms rs u2 HH.out HV7.out HE.out
      refine (hra).mono ?_
      rintro e u3 ⟨rfl, hb⟩
      replace HXA := Lib.hid ((hb.block _ (lt_of_block HXA.out)).trans HXA.out)
      replace HBA := Lib.hid (below_to HBA.out hb)
      clear hb
      clear hra HV7
      have c0 := cell_of_row u3 w.heap.size 0 _ _ _ HXA.out
      simp only [List.getElem?_toArray, List.getElem?_cons_zero] at c0
      have l0 := lt_of_block HXA.out
      go_wp2_with fail
      have has := asked_any w.heap.size _ _ ms rs u3 HH.out (HROOM.out u3 HBA.out)
      refine (has).mono ?_
      rintro e u4 ⟨rfl, hb⟩
      replace HXA := Lib.hid ((hb.block _ (lt_of_block HXA.out)).trans HXA.out)
      replace HBA := Lib.hid (below_to HBA.out hb)
      clear hb
      clear has c0 l0
      have he := HE.out
      generalize allowE ms rs = E at *
      have h1 : (E == 0) = false := by rw [beq_eq_false_iff_ne]; exact he
      have h2 : (E != 0) = true := by rw [bne_iff_ne]; exact he
      clear he HE
      go_wp2_with fail
      refine (HA.out u4).mono ?_
      rintro e u5 ⟨rfl, hb⟩
      have HBF := Lib.hid (below_to HBA.out hb)
      clear hb
      go_wp2
      go_ret
      exact ⟨rfl, HBF.out⟩
    · have hE0 : allowE ms rs = 0 := Classical.not_not.1 hE
      have HE := Lib.hid hE0
      have HK := Lib.hid (allow_ok hE0).1
      have HNE := Lib.hid (allow_ok hE0).2
      clear hE hE0
      go_wp2_with fail
      refine (HMA.out u0 HBA.out).mono ?_
      rintro e u1 ⟨⟨m6, rfl, hm6⟩, hb⟩
      replace HXA := Lib.hid ((hb.block _ (lt_of_block HXA.out)).trans HXA.out)
      replace HBA := Lib.hid (below_to HBA.out hb)
      clear hb
      have HM6 := Lib.hid hm6
      clear hm6 c0 l0
      go_wp2_with fail
      refine (HRU.out u1 HBA.out).mono ?_
      rintro e u2 ⟨⟨r7, rfl, hr7⟩, hb⟩
      replace HXA := Lib.hid ((hb.block _ (lt_of_block HXA.out)).trans HXA.out)
      replace HBA := Lib.hid (below_to HBA.out hb)
      replace HM6 := Lib.hid ((HM6.out.same (.below (Nat.le_refl _) hb)).up hb.size)
      clear hb
      have HV7 : Hid (RoomV u2.heap.size u2 m6 r7 ms rs) := Lib.hid ⟨Nat.le_refl _, HM6.out, hr7⟩
      clear hr7 HM6
      go_wp2_with fail
      have hra := Rates_ok u2.heap.size m6 r7 ms rs u2 HK.out HV7.out HNE.out
      refine (hra).mono ?_
      rintro e u3 ⟨⟨va, rfl, hown⟩, hb⟩
      replace HXA := Lib.hid ((hb.block _ (lt_of_block HXA.out)).trans HXA.out)
      replace HBA := Lib.hid (below_to HBA.out hb)
      clear hb
      have RA := Lib.hid (own_rgs hown)
      clear hown
      clear hra HV7
      have c0 := cell_of_row u3 w.heap.size 0 _ _ _ HXA.out
      simp only [List.getElem?_toArray, List.getElem?_cons_zero] at c0
      have l0 := lt_of_block HXA.out
      go_wp2_with fail
      have has := asked_any w.heap.size _ _ ms rs u3 HH.out (HROOM.out u3 HBA.out)
      rw [HE.out] at has
      refine (has).mono ?_
      rintro e u4 ⟨rfl, hb⟩
      replace HXA := Lib.hid ((hb.block _ (lt_of_block HXA.out)).trans HXA.out)
      replace HBA := Lib.hid (below_to HBA.out hb)
      replace RA := Lib.hid ((RA.out.same (.below (Nat.le_refl _) hb)).up hb.size)
      clear hb
      clear has c0 l0
      have c0 := cell_of_row u4 w.heap.size 0 _ _ _ HXA.out
      simp only [List.getElem?_toArray, List.getElem?_cons_zero] at c0
      have l0 := lt_of_block HXA.out
      go_wp2_with fail
      refine (Allowed_any w.heap.size _ _ ms rs u4 HK.out (HROOM.out u4 HBA.out)).mono ?_
      rintro e u5 ⟨v9, rfl, hl9, hb⟩
      replace HXA := Lib.hid ((hb.block _ (lt_of_block HXA.out)).trans HXA.out)
      replace HBA := Lib.hid (below_to HBA.out hb)
      replace RA := Lib.hid ((RA.out.same (.below (Nat.le_refl _) hb)).up hb.size)
      clear hb c0 l0
      have c0 := cell_of_row u5 w.heap.size 0 _ _ _ HXA.out
      simp only [List.getElem?_toArray, List.getElem?_cons_zero] at c0
      have l0 := lt_of_block HXA.out
      obtain ⟨sa, cap9, rfl, -, -⟩ := hl9.form
      have HL9 := Lib.hid (hl9.mono (Nat.zero_le _))
      clear hl9
      obtain ⟨aa, ca, ea, -⟩ := RA.out
      rw [rangesL_len] at ea
      subst ea
      have hlen := HK.out.mat.len
      have hone := HK.out.mat.one
      have HEL : Hid (∀ (k : Nat) (L : List Int), (okL ms rs)[k]? = some L → L.length = ms.length) := Lib.hid fun k L h => len_of (mem_okL.1 (List.mem_of_getElem? h)).1
      have HRL : Hid (∀ k, k < ms.length → rg (rangesL (okL ms rs) ms.length) k = ⟨loT (okL ms rs) k (okL ms rs).length, hiT (okL ms rs) k (okL ms rs).length⟩) := Lib.hid fun k hk => by rw [rg_ranges hk, (loT_end HNE.out k).1, (loT_end HNE.out k).2]
      have HPOS := Lib.hid (List.length_pos_iff.2 HNE.out)
      have HBIG : Hid ((okL ms rs).length ≤ 9261) := Lib.hid (by have h1 := rest_len HK.out.mat.toRgsOk []; rw [restL_nil] at h1; exact Nat.le_trans (List.length_filter_le _ _) h1)
      generalize hRL : rangesL (okL ms rs) ms.length = RL at *
      generalize okL ms rs = LL at *
      clear hRL HMA HRU HE HK HNE HROOM HH
      go_wp2
      have HRA : Hid (∀ w', Below u5.heap.size u5 w' → ∀ k, k < ms.length → ∃ b off, aa = some ⟨b, off, none⟩ ∧ b < u5.heap.size ∧ w'.cell? ⟨b, off + k * 2, none⟩ = some (.int .i64 (loT LL k LL.length)) ∧ w'.cell? ⟨b, off + k * 2 + 1, none⟩ = some (.int .i64 (hiT LL k LL.length))) := Lib.hid fun w' h k hk => by
        obtain ⟨a', c', e, hp⟩ := RA.out.same (.below (Nat.le_refl _) h)
        simp only [Value.slice.injEq] at e
        obtain ⟨rfl, h9, rfl⟩ := e
        obtain ⟨b, off, e, hb, hc⟩ := hp (by omega)
        have := hc k (by omega)
        rw [HRL.out k hk] at this
        exact ⟨b, off, e, hb, this⟩
      clear RA c0 l0
      go_loopw [10] (fun i wr => ∃ (k : Nat), k ≤ ms.length ∧ i = .int .i64 k ∧ Hid (Below u5.heap.size u5 wr)) (fun i _ => ms.length - (intOf i).toNat)
      case atStart => exact ⟨0, Nat.zero_le _, rfl, Lib.hid (Below.refl _ _)⟩
      case round =>
        obtain ⟨k, hk, rfl, HBK⟩ := hrel
        by_cases hkl : k < ms.length
        · have hkn : (k : Int) < ms.length := by omega
          have hwk : IntKind.i64.wrap ((k : Int) + 1) = (k : Int) + 1 := IntWalk.i64_in _ (by omega)
          obtain ⟨L0, hL0⟩ : ∃ L, LL[0]? = some L := ⟨_, List.getElem?_eq_getElem HPOS.out⟩
          have hll0 := HEL.out 0 L0 hL0
          obtain ⟨g0, h0, uc0, rfl, -, -⟩ := lists_cell HL9.out hL0 (by omega)
          have HCL : Hid (∀ w', Below u5.heap.size u5 w' → ∀ i, i < LL.length → ∃ L h uc, LL[i]? = some L ∧ w'.cell? ⟨g0, i, none⟩ = some (.slice (some ⟨h, 0, none⟩) ms.length uc) ∧ w'.cell? ⟨h, k, none⟩ = some (.int .i64 (ld L k))) := Lib.hid fun w' hw i hi => by
            have hLi := List.getElem?_eq_getElem hi
            have hli := HEL.out i _ hLi
            obtain ⟨g', h', uc', e, a1, a2⟩ := lists_cell (HL9.out.below hw) hLi (by omega)
            cases e
            rw [hli] at a1 a2
            exact ⟨_, h', uc', hLi, a1, a2 k hkl⟩
          have hT0 : ld L0 k = loT LL k 0 ∧ ld L0 k = hiT LL k 0 := by simp [loT, hiT, hL0]
          have HT0 := Lib.hid hT0
          have HL0 := Lib.hid hL0
          have HP0 := HPOS.out
          have hpi : (0 : Int) < LL.length := by omega
          have HBN := HBIG.out
          clear hT0 hL0 hll0
          go_wp2_with fail
          have HBK0 := HBK
          have HC0 : Hid (∀ w', Below wr.heap.size wr w' → ∃ h uc, w'.cell? ⟨g0, 0, none⟩ = some (.slice (some ⟨h, 0, none⟩) ms.length uc) ∧ w'.cell? ⟨h, k, none⟩ = some (.int .i64 (ld L0 k))) := Lib.hid fun w' hw => by
            obtain ⟨L, h, uc, e, a1, a2⟩ := HCL.out w' (grow_to HBK.out hw) 0 HPOS.out
            rw [HL0.out] at e
            cases e
            exact ⟨h, uc, a1, a2⟩
          obtain ⟨hh, uch, b0, b1⟩ := HC0.out wr (Below.refl _ _)
          have HC : Hid (∀ w', Below wr.heap.size wr w' → w'.cell? ⟨g0, 0, none⟩ = some (.slice (some ⟨hh, 0, none⟩) ms.length uch) ∧ w'.cell? ⟨hh, k, none⟩ = some (.int .i64 (ld L0 k)) ∧ g0 < w'.heap.size ∧ hh < w'.heap.size) := Lib.hid fun w' hw =>
            ⟨(hw.cell (p := ⟨g0, 0, none⟩) (block_lt_of_cell b0)).trans b0, (hw.cell (p := ⟨hh, k, none⟩) (block_lt_of_cell b1)).trans b1, Nat.lt_of_lt_of_le (block_lt_of_cell b0) hw.size, Nat.lt_of_lt_of_le (block_lt_of_cell b1) hw.size⟩
          clear b0 b1 HC0
          refine wp_region_noPanic ?_
          refine wp_region_acts (fun w' => Below wr.heap.size wr w') (fun _ _ h hb => grow_to h hb) (below_drawn _) (by kernel_rfl) (fun _ _ _ _ _ h => h)
            [.take 0, .take 1, .take 2, .take 3, .take 4, .take 5, .take 6, .take 7, .take 8, .take 9, .take 10, .take 11, .take 12, .float 13, .join] [14] (by kernel_rfl) ?_
          iterate 13
            (refine GWalk.takes rfl rfl ?_; apply Exists.intro; refine ⟨fun w' hS => ?_, ?_⟩; (obtain ⟨d0, d1, d2, d3⟩ := HC.out w' hS; clear hS; go_simp; with_reducible rfl); simp only [List.getElem_toArray, List.getElem_cons_succ, List.getElem_cons_zero, Act.put, List.setIfInBounds_toArray, List.set_cons_zero, List.set_cons_succ])
          refine GWalk.floats (.cells #[.int .i64 0, .int .i64 0] 50) (fun b => .pointer (some ⟨b, 0, none⟩)) rfl rfl rfl (fun w1 => ?_) ?_
          · kernel_rfl
          simp only [List.nil_append, List.cons_append]
          refine GWalk.joins fun y1 bx hv1 hr1 hr2 hr3 hr4 => ?_
          simp only [List.getElem_toArray, List.getElem_cons_succ, List.getElem_cons_zero, Act.put, List.setIfInBounds_toArray, List.set_cons_zero, List.set_cons_succ]
          refine GWalk.fin fun y2 hv2 hSv => ?_
          have hr9 := (hv2.block _ hr2).trans hr4
          have n1 := set_whole bx 50 y2 #[.int .i64 0, .int .i64 0] #[.int .i64 (ld L0 k), .int .i64 (ld L0 k)] rfl hr9
          have n2 : Below wr.heap.size wr (y2.setCells bx 0 [.int .i64 (ld L0 k), .int .i64 (ld L0 k)]) := below_cells (b := bx) hr1 _ 0 y2 hSv
          refine Tail.skip rfl rfl (exec_store_row 50 (.tmp 11) (.tmp 84) rfl bx 0 #[.int .i64 (ld L0 k), .int .i64 (ld L0 k)] rfl rfl (there_block hr9 (Nat.le_refl _)) (by kernel_rfl) (by simp [Value.oneCell'])) n2 (Tail.done (NoPanic.normal ?_))
          simp only [List.getElem_toArray, List.getElem_cons_succ, List.getElem_cons_zero, Act.put, List.setIfInBounds_toArray, List.set_cons_zero, List.set_cons_succ]
          have BX := Lib.hid n1
          change Hid ((World.setCells _ _ _ _).heap[_]? = _) at BX
          replace HBK := Lib.hid (grow_to HBK.out n2)
          have hbx5 : u5.heap.size ≤ bx := Nat.le_trans HBK0.out.size hr1
          clear hr9 n1 n2 hSv hv2 hv1 hr1 hr2 hr3 hr4 HC
          generalize World.setCells _ _ _ _ = y3 at *
          rw [HT0.out.1] at BX
          have BX2 : Hid (y3.heap[bx]? = some (.cells #[.int .i64 (loT LL k 0), .int .i64 (hiT LL k 0)] 50 (0, 0))) := Lib.hid (by rw [← HT0.out.2, HT0.out.1]; exact BX.out)
          clear BX y2 y1
          go_wp2_with fail
          go_loopw [12] (fun i wr => ∃ (j : Nat), j ≤ LL.length ∧ i = .int .i64 j ∧ Hid (wr.heap[bx]? = some (.cells #[.int .i64 (loT LL k j), .int .i64 (hiT LL k j)] 50 (0, 0))) ∧ Hid (Below u5.heap.size u5 wr)) (fun i _ => LL.length - (intOf i).toNat)
          case atStart => exact ⟨0, Nat.zero_le _, rfl, BX2, HBK⟩
          case round =>
            clear BX2 HBK HBK0
            obtain ⟨j, hj, rfl, BX, HBJ⟩ := hrel
            by_cases hjl : j < LL.length
            · have hjn : (j : Int) < LL.length := by omega
              have hwj : IntKind.i64.wrap ((j : Int) + 1) = (j : Int) + 1 := IntWalk.i64_in _ (by omega)
              obtain ⟨L, hh, uch, hL, d0, d1⟩ := HCL.out wr HBJ.out j hjl
              have hst := loT_step (b := k) hL
              have HST := Lib.hid hst
              clear hst hL
              have l0 := block_lt_of_cell d0
              have l1 := block_lt_of_cell d1
              have k0 := cell_of_row wr bx 0 _ _ _ BX.out
              have k1 := cell_of_row wr bx 1 _ _ _ BX.out
              simp only [List.getElem?_toArray, List.getElem?_cons_zero, List.getElem?_cons_succ] at k0 k1
              have lx := lt_of_block BX.out
              go_wp2_with fail
              go_still_tail 21, (by kernel_rfl)
              change wpList _ _ _ _ _ wr.drew
              have hbd := below_drawn wr
              replace BX := Lib.hid ((hbd.block _ (lt_of_block BX.out)).trans BX.out)
              replace HBJ := Lib.hid (grow_to HBJ.out hbd)
              change Hid (wr.drew.heap[_]? = _) at BX
              change Hid (Below _ _ wr.drew) at HBJ
              clear hbd d0 d1 l0 l1 k0 k1 lx
              generalize wr.drew = y4 at *
              have fr0 := frozen_of_row y4 bx 0 _ _ BX.out
              have fr1 := frozen_of_row y4 bx 1 _ _ BX.out
              have k0 := cell_of_row y4 bx 0 _ _ _ BX.out
              have k1 := cell_of_row y4 bx 1 _ _ _ BX.out
              simp only [List.getElem?_toArray, List.getElem?_cons_zero, List.getElem?_cons_succ] at k0 k1
              have lx := lt_of_block BX.out
              go_wp2
              have hz0 := put2 y4 bx _ _ (.int .i64 (min (loT LL k j) (ld L k))) (.int .i64 (max (hiT LL k j) (ld L k))) _ BX.out
              have hz1 := put2_below (b := bx) (.int .i64 (min (loT LL k j) (ld L k))) (.int .i64 (max (hiT LL k j) (ld L k))) HBJ.out hbx5
              have HZ0 := Lib.hid hz0
              have HZ1 := Lib.hid hz1
              rw [← HST.out.1, ← HST.out.2] at HZ0 HZ1
              go_roundw
              case rel => exact ⟨j + 1, by omega, by simp, by rw [HST.out.1, HST.out.2]; exact Lib.hid hz0, Lib.hid hz1⟩
              case measure => simp [intOf]; omega
            · obtain rfl : j = LL.length := by omega
              obtain ⟨ba, oa, rfl, la, a0, a1⟩ := HRA.out wr HBJ.out k hkl
              have ta : ba < wr.heap.size := by have := HBJ.out.size; omega
              have k0 := cell_of_row wr bx 0 _ _ _ BX.out
              have k1 := cell_of_row wr bx 1 _ _ _ BX.out
              simp only [List.getElem?_toArray, List.getElem?_cons_zero, List.getElem?_cons_succ] at k0 k1
              have lx := lt_of_block BX.out
              generalize loT LL k LL.length = x0 at *
              generalize hiT LL k LL.length = x1 at *
              go_wp2_with fail
              have ga0 := cell_regrown a0
              have ga1 := cell_regrown a1
              have gk0 := cell_regrown k0
              have gk1 := cell_regrown k1
              have hq := fun w => neqr50 x0 x1 w
              clear a0 a1 k0 k1
              refine wp_region_quiet_below (by kernel_rfl) (by kernel_rfl) ?_
              repeat (quiet_step (fail))
              refine wpQuiet_nil ?_
              intro _ hw'
              obtain ⟨⟨dq, osq⟩, hw''⟩ := hw'
              subst hw''
              have hbr := Lib.hid (grow_to HBJ.out (below_regrown wr dq osq))
              clear ga0 ga1 gk0 gk1 hq BX HBJ lx ta
              go_wp2
              go_roundw
              case rel => exact ⟨k + 1, by omega, by simp, hbr⟩
              case measure => simp [intOf]; omega
        · obtain rfl : k = ms.length := by omega
          replace HBA := Lib.hid (below_to HBA.out HBK.out)
          go_wp2_with fail
          refine (HA.out wr).mono ?_
          rintro e wf ⟨rfl, hb⟩
          have HBF := Lib.hid (below_to HBA.out hb)
          clear hb
          go_wp2
          go_ret
          exact ⟨rfl, HBF.out⟩
end Go.Proofs.Ytfijaafkagcmmaa
