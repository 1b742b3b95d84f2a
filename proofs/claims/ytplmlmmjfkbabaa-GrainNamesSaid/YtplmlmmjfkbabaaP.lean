/- The shelf of an album: contract. Condition: lists are no longer than any machine's. -/
import Derived.Test.YtplmlmmjfkbabaaO
namespace Go.Proofs.Ytplmlmmjfkbabaa
open Go.RowKit Go.Shelf

theorem Canon.mid {cs : List Cm} {d : Dm} (h : Canon cs d) : Mid d := fun i j hi hj => by have := h.bound hi hj; omega
theorem lay_drop {cs : List Cm} {q : Nat} (h : q < cs.length) (d : Dm) : layD (cs.drop q) d = if possD (stepD d (cm cs q)) = true then layD (cs.drop (q + 1)) (stepD d (cm cs q)) else none := by
  rw [List.drop_eq_getElem_cons h]
  simp only [layD, cm, h, List.getElem?_eq_getElem, Option.getD_some]
theorem take_cm {cs : List Cm} {q : Nat} (h : q < cs.length) : cs.take (q + 1) = cs.take q ++ [cm cs q] := by
  rw [take_snoc h]
  simp [cm, h]
def layE (n : Int) (cs : List Cm) (ps : List Int) : Int := if askE n cs ps ≠ 0 then askE n cs ps else if (distO cs).isSome = true then 0 else 9
attribute [local irreducible] arrV wpQuiet mat shl

set_option maxRecDepth 100000 in
set_option maxHeartbeats 4000000 in
theorem layOut_any (m : Nat) (n : Int) (v pv : Value) (cs : List Cm) (ps : List Int) (w : World) (hl : cs.length ≤ maxLen) (hp : ps.length ≤ maxLen) (hV : CmsV m w v cs) (hP : IntsV m w pv ps) (hm : m ≤ w.heap.size) :
    Calls Try.prog 47 #[.agg #[.int .i64 n, v], pv] w fun e w' => (∃ n' v' d', e = .returned (.tuple #[.agg (shl n' v' d'), .int .i64 (layE n cs ps)]) ∧ v'.oneCell' = true ∧ (layE n cs ps = 0 → distO cs = some d' ∧ n' = n ∧ v' = v)) ∧ Below w.heap.size w w' := by
  have HC := Lib.hid fun w' (h : Below w.heap.size w w') => checkPictures_any m n v pv cs ps w' hl hp (hV.same (.below hm h)) (hP.same (.below hm h)) (Nat.le_trans hm h.size)
  have e1 : askE n cs ps ≠ 0 → layE n cs ps = askE n cs ps := fun h => if_pos h
  have e2 : askE n cs ps = 0 → layE n cs ps = if (distO cs).isSome = true then 0 else 9 := fun h => if_neg (fun h2 => h2 h)
  have e3 : askE n cs ps = 0 → AlbOk n cs := fun h => by
    refine fault_ok ?_
    unfold askE at h
    refine Classical.byContradiction fun hc => ?_
    rw [if_pos hc] at h
    exact hc h
  obtain ⟨a, cap, rfl, hcp⟩ := hV
  obtain ⟨pa, pcap, rfl, -⟩ := hP
  have HCP := Lib.hid hcp
  have HX := Lib.hid (box2 w (.cells #[.int .i64 n, .slice a cs.length cap] 31) (.cells Try.zeroCells85 85))
  have HB := Lib.hid (below2 w (.cells #[.int .i64 n, .slice a cs.length cap] 31) (.cells Try.zeroCells85 85))
  have E1 := Lib.hid e1
  have E2 := Lib.hid e2
  have E3 := Lib.hid e3
  generalize layE n cs ps = E at *
  generalize askE n cs ps = A at *
  clear e1 e2 e3 hcp
  go_enter Try.func47, Try.ntmps47
  go_wp2_with fail
  generalize World.alloc (World.alloc w _) _ = W at *
  rw [zero85] at HX
  refine (HC.out _ HB.out).mono ?_
  rintro e w1 ⟨rfl, hb1⟩
  have HX1 := Lib.hid (And.intro ((hb1.block _ (lt_of_block HX.out.1)).trans HX.out.1) ((hb1.block _ (lt_of_block HX.out.2)).trans HX.out.2))
  have HB1 := Lib.hid (below_to HB.out hb1)
  clear hb1 HX HB
  have c0 := cell_of_row w1 w.heap.size 0 _ _ _ HX1.out.1
  have c1 := cell_of_row w1 w.heap.size 1 _ _ _ HX1.out.1
  simp only [List.getElem?_toArray, List.getElem?_cons_zero, List.getElem?_cons_succ] at c0 c1
  have l0 := lt_of_block HX1.out.1
  by_cases hf : A = 0
  · have EA := Lib.hid (E2.out hf)
    have HOK := Lib.hid (E3.out hf)
    subst hf
    have HW := Lib.hid widest_any
    have HCW : Hid (∀ w', Below w1.heap.size w1 w' → w'.cell? ⟨w.heap.size, 0, none⟩ = some (.int .i64 n) ∧ w'.cell? ⟨w.heap.size, 1, none⟩ = some (.slice a cs.length cap) ∧ w.heap.size < w'.heap.size) := Lib.hid fun w' h => by
      have z := (h.block _ (lt_of_block HX1.out.1)).trans HX1.out.1
      exact ⟨cell_of_row w' w.heap.size 0 _ _ _ z, cell_of_row w' w.heap.size 1 _ _ _ z, lt_of_block z⟩
    go_wp2
    clear c0 c1 l0
    refine wp_region_noPanic ?_
    refine wp_region_acts (fun w' => Below w1.heap.size w1 w') (fun _ _ h hb => grow_to h hb) (below_drawn _) (by kernel_rfl) (fun _ _ _ _ _ h => h)
      [.float 3, .take 0, .call 1, .take 2, .join] [4] (by kernel_rfl) ?_
    refine GWalk.floats (.cells Try.zeroCells85 85 (0, 0)) (fun b => .pointer (some ⟨b, 0, none⟩)) rfl rfl rfl (fun w1 => by kernel_rfl) ?_
    simp only [List.nil_append, List.cons_append]
    refine GWalk.takes rfl rfl ?_; apply Exists.intro; refine ⟨fun w' hS => ?_, ?_⟩; (obtain ⟨z1, z2, z3⟩ := HCW.out w' hS; clear hS; go_simp; with_reducible rfl); simp only [List.getElem_toArray, List.getElem_cons_succ, List.getElem_cons_zero, Act.put, List.setIfInBounds_toArray, List.set_cons_zero, List.set_cons_succ]
    refine GWalk.calls rfl rfl ?_; apply Exists.intro; apply Exists.intro; refine ⟨fun w' hS => ?_, fun v1 hb hS hO => ?_⟩; (clear hS; go_simp; exact ⟨rfl, rfl⟩)
    refine (HW.out v1).mono ?_
    rintro e v2 ⟨rfl, hb2⟩
    refine ⟨_, rfl, hb2, grow_to hS hb2, ?_⟩
    simp only [List.getElem_toArray, List.getElem_cons_succ, List.getElem_cons_zero, Act.put, List.setIfInBounds_toArray, List.set_cons_zero, List.set_cons_succ]
    clear hb hS hO hb2
    refine GWalk.takes rfl rfl ?_; apply Exists.intro; refine ⟨fun w' hS => exec_build85 (.tmp 17) (.tmp 18) rfl n (.slice a cs.length cap) wideD rfl rfl, ?_⟩; simp only [List.getElem_toArray, List.getElem_cons_succ, List.getElem_cons_zero, Act.put, List.setIfInBounds_toArray, List.set_cons_zero, List.set_cons_succ]
    refine GWalk.joins fun v3 b7 hb hj1 hj2 hj3 hj4 => ?_
    simp only [List.getElem_toArray, List.getElem_cons_succ, List.getElem_cons_zero, Act.put, List.setIfInBounds_toArray, List.set_cons_zero, List.set_cons_succ]
    refine GWalk.fin fun v4 hb4 hS4 => ?_
    have hx4 := (hb4.block _ (lt_of_block hj4)).trans hj4
    refine Tail.put_sh rfl rfl (.tmp 7) (.tmp 19) rfl b7 rfl n (.slice a cs.length cap) wideD rfl rfl 85 Try.zeroCells85 (by rw [zero85, shl_size]) hx4 fun v5 hp5 hx5 => ⟨hp5.below hS4 hj1, Tail.done (NoPanic.normal ?_)⟩
    have hS5 := hp5.below hS4 hj1
    simp only [List.getElem_toArray, List.getElem_cons_succ, List.getElem_cons_zero, Act.put, List.setIfInBounds_toArray, List.set_cons_zero, List.set_cons_succ]
    have HB5 := Lib.hid (below_to HB1.out hS5)
    have HX5 := Lib.hid hx5
    have HY5 := Lib.hid (And.intro ((hS5.block _ (lt_of_block HX1.out.1)).trans HX1.out.1) ((hS5.block _ (lt_of_block HX1.out.2)).trans HX1.out.2))
    have HLT : Hid (w.heap.size + 1 < b7) := Lib.hid (by have := lt_of_block HX1.out.2; omega)
    clear hb hj1 hj2 hj3 hj4 hb4 hS4 hx4 hp5 hx5 hS5 HCW HW HX1 HB1
    have c0 := cell_of_row v5 w.heap.size 0 _ _ _ HY5.out.1
    have c1 := cell_of_row v5 w.heap.size 1 _ _ _ HY5.out.1
    simp only [List.getElem?_toArray, List.getElem?_cons_zero, List.getElem?_cons_succ] at c0 c1
    have l0 := lt_of_block HY5.out.1
    have hlen := HOK.out.len
    go_wp2
    go_loopw [23] (fun v wr => ∃ (q : Nat) (d : Dm), q ≤ cs.length ∧ v = .int .i64 q ∧ Hid (layD (cs.drop q) d = distO cs) ∧ Hid (Canon (cs.take q) d) ∧ Hid (wr.heap[b7]? = some (.cells (shl n (.slice a cs.length cap) d) 85 (0, 0))) ∧ Hid (wr.heap[w.heap.size + 1]? = some (.cells (shl 0 (.slice none 0 0) nul) 85 (0, 0))) ∧ Hid (Below w.heap.size w wr)) (fun v _ => cs.length - (intOf v).toNat)
    case atStart => exact ⟨0, wideD, Nat.zero_le _, rfl, Lib.hid rfl, Lib.hid canon_nil, HX5, Lib.hid HY5.out.2, HB5⟩
    case round =>
      clear HX5 HY5 HB5 c0 c1 l0
      obtain ⟨q, d, hq, rfl, HL, HCA, HX5, HY5, HB5⟩ := hrel
      by_cases hlt : q < cs.length
      · obtain ⟨b, off, rfl, hbn, hcc⟩ := HCP.out (by omega)
        obtain ⟨h1, h2, h3, h4⟩ := hcc q hlt
        have hltb : b < w.heap.size := by omega
        have p1 := (HB5.out.cell (p := ⟨b, off + q * 4, none⟩) hltb).trans h1
        have p2 := (HB5.out.cell (p := ⟨b, off + q * 4 + 1, none⟩) hltb).trans h2
        have p3 := (HB5.out.cell (p := ⟨b, off + q * 4 + 2, none⟩) hltb).trans h3
        have p4 := (HB5.out.cell (p := ⟨b, off + q * 4 + 3, none⟩) hltb).trans h4
        have hqn : (q : Int) < cs.length := by omega
        have hw9 : IntKind.i64.wrap ((q : Int) + 1) = (q : Int) + 1 := IntWalk.i64_in _ (by omega)
        have hbx := box_below wr (.cells #[.int .i64 (cm cs q).l, .int .i64 (cm cs q).r, .int .i64 (cm cs q).lo, .int .i64 (cm cs q).hi] 67)
        have HXA := Lib.hid ((hbx.block _ (lt_of_block HX5.out)).trans HX5.out)
        have HYA := Lib.hid ((hbx.block _ (lt_of_block HY5.out)).trans HY5.out)
        have HBA := Lib.hid (below_to HB5.out hbx)
        have HOC := Lib.hid (HOK.out.cm _ (cm_mem hlt))
        have HWI := Lib.hid (with_any n (cm cs q) d (wr.alloc (.cells #[.int .i64 (cm cs q).l, .int .i64 (cm cs q).r, .int .i64 (cm cs q).lo, .int .i64 (cm cs q).hi] 67)) HOK.out.n8 HOC.out HCA.out.mid)
        have HLD := Lib.hid (HL.out.symm.trans (lay_drop hlt d))
        have HCS := Lib.hid fun (h : possD (stepD d (cm cs q)) = true) => canon_step HCA.out HOC.out HOK.out.n8 h
        rw [← take_cm hlt] at HCS
        have HIP := Lib.hid (isPossible_any (stepD d (cm cs q)))
        clear hcc h1 h2 h3 h4 hbx
        generalize stepD d (cm cs q) = d2 at *
        go_wp2_with (first
          | (refine wpList_load_shd rfl (.tmp 27) rfl b7 rfl 85 n (.slice (some ⟨b, off, none⟩) cs.length cap) d HXA.out ?_)
          | fail)
        refine HWI.out.mono ?_
        rintro e v6 ⟨rfl, hb6⟩
        have HX6 := Lib.hid ((hb6.block _ (lt_of_block HXA.out)).trans HXA.out)
        have HY6 := Lib.hid ((hb6.block _ (lt_of_block HYA.out)).trans HYA.out)
        have HB6 := Lib.hid (below_to HBA.out hb6)
        clear hb6 HXA HYA HBA HWI HX5 HY5 HB5 p1 p2 p3 p4
        go_wp2_with (first
          | (refine wpList_store_shd rfl (.tmp 31) (.tmp 30) rfl b7 rfl n (.slice (some ⟨b, off, none⟩) cs.length cap) d d2 rfl 85 HX6.out ?_
             intro v7 hp7 hx7
             have HX7 := Lib.hid hx7
             have HY7 := Lib.hid ((hp7.other _ (by have := HLT.out; omega)).trans HY6.out)
             have HB7 := Lib.hid (hp7.below HB6.out (by have := HLT.out; omega))
             clear hp7 hx7)
          | (refine wpList_load_shd rfl (.tmp 32) rfl b7 rfl 85 n (.slice (some ⟨b, off, none⟩) cs.length cap) d2 HX7.out ?_)
          | fail)
        refine (HIP.out _).mono ?_
        rintro e v8 ⟨rfl, hb8⟩
        have HX8 := Lib.hid ((hb8.block _ (lt_of_block HX7.out)).trans HX7.out)
        have HY8 := Lib.hid ((hb8.block _ (lt_of_block HY7.out)).trans HY7.out)
        have HB8 := Lib.hid (below_to HB7.out hb8)
        clear hb8 HX6 HY6 HB6 HX7 HY7 HB7
        cases hz : possD d2 with
        | true =>
          rw [hz, if_pos rfl] at HLD
          have HC8 := Lib.hid (HCS.out hz)
          clear hz HCS
          go_wp2
          go_roundw
          case rel => exact ⟨q + 1, d2, by omega, by simp, Lib.hid HLD.out.symm, HC8, HX8, HY8, HB8⟩
          case measure => simp [intOf]; omega
        | false =>
          rw [hz, if_neg (by simp)] at HLD
          have HE9 : Hid (E = 9) := Lib.hid (by rw [EA.out, HLD.out]; rfl)
          clear hz HCS
          go_wp2_with (first
            | (refine wpList_store_sh rfl (.tmp 4) (.tmp 36) rfl (w.heap.size + 1) rfl 0 (.slice none 0 0) nul rfl (congrArg Value.agg zero85) 85 _ (shl_size _ _ _) HY8.out ?_
               intro v9 hp9 hx9
               have HX9 := Lib.hid hx9
               have HB9 := Lib.hid (hp9.below HB8.out (by omega))
               clear hp9 hx9)
            | fail)
          refine bodyPost_ret (results_sh rfl _ _ (w.heap.size + 1) 85 0 (.slice none 0 0) nul rfl HX9.out (.int .i64 9) rfl) rfl ⟨⟨0, .slice none 0 0, nul, by rw [HE9.out], rfl, fun h => absurd (HE9.out.symm.trans h) (by decide)⟩, HB9.out⟩
      · obtain rfl : q = cs.length := by omega
        have HDI : Hid (distO cs = some d) := Lib.hid (by rw [← HL.out, List.drop_length]; rfl)
        have HE0 : Hid (E = 0) := Lib.hid (by rw [EA.out, HDI.out]; rfl)
        go_wp2_with (first
          | (refine wpList_load_sh rfl (.tmp 7) rfl b7 rfl 85 n (.slice a cs.length cap) d HX5.out ?_)
          | (refine wpList_store_sh rfl (.tmp 4) (.tmp 38) rfl (w.heap.size + 1) rfl n (.slice a cs.length cap) d rfl rfl 85 _ (shl_size _ _ _) HY5.out ?_
             intro v9 hp9 hx9
             have HX9 := Lib.hid hx9
             have HB9 := Lib.hid (hp9.below HB5.out (by omega))
             clear hp9 hx9)
          | fail)
        refine bodyPost_ret (results_sh rfl _ _ (w.heap.size + 1) 85 n (.slice a cs.length cap) d rfl HX9.out (.int .i64 0) rfl) rfl ⟨⟨n, .slice a cs.length cap, d, by rw [HE0.out], rfl, fun _ => ⟨HDI.out, rfl, rfl⟩⟩, HB9.out⟩
  · have EA := Lib.hid (E1.out hf)
    have hf1 : (A != 0) = true := by simp [hf]
    have hf2 : (A == 0) = false := by simp [hf]
    have HF := Lib.hid hf
    clear hf
    go_wp2_with (first
      | (refine wpList_store_sh rfl (.tmp 4) (.tmp 15) rfl (w.heap.size + 1) rfl 0 (.slice none 0 0) nul rfl (congrArg Value.agg zero85) 85 _ (shl_size _ _ _) HX1.out.2 ?_
         intro w2 hp2 hx2
         have HX2 := Lib.hid hx2
         have HB2 := Lib.hid (hp2.below HB1.out (by omega))
         clear hp2 hx2)
      | fail)
    refine bodyPost_ret (results_sh rfl _ _ (w.heap.size + 1) 85 0 (.slice none 0 0) nul rfl HX2.out (.int .i64 A) rfl) rfl ⟨⟨0, .slice none 0 0, nul, by rw [EA.out], rfl, fun h => absurd (EA.out.symm.trans h) HF.out⟩, HB2.out⟩
end Go.Proofs.Ytplmlmmjfkbabaa
