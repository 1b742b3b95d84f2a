/- Whether a picture may be the finest, by the reference: plain facts. No condition. Whether a picture may be the finest, by the reference. No condition. -/
import Derived.Test.YtplmlmmjfkbabaaRMJ
namespace Go.Proofs.Ytplmlmmjfkbabaa

/-- The comparisons that are added: the picture is at least as fine as all others. -/
def exL (pic : Nat) : Nat → List Cm
  | 0 => []
  | q + 1 => exL pic q ++ if q = pic then [] else [⟨pic, q, 0, 100⟩]
theorem exL_len (pic q : Nat) : (exL pic q).length ≤ q := by
  induction q with
  | zero => simp [exL]
  | succ q ih =>
    simp only [exL, List.length_append]
    split <;> simp <;> omega
theorem exL_same (pic : Nat) : exL pic (pic + 1) = exL pic pic := by simp [exL]
theorem exL_next {pic q : Nat} (h : q ≠ pic) : exL pic (q + 1) = exL pic q ++ [⟨pic, q, 0, 100⟩] := by simp [exL, h]
theorem mem_exL {pic q : Nat} {c : Cm} : c ∈ exL pic q ↔ ∃ k, k < q ∧ k ≠ pic ∧ c = ⟨pic, k, 0, 100⟩ := by
  induction q with
  | zero => simp [exL]
  | succ q ih =>
    simp only [exL, List.mem_append, ih]
    constructor
    · rintro (⟨k, hk, hn, rfl⟩ | h)
      · exact ⟨k, by omega, hn, rfl⟩
      · by_cases e : q = pic
        · simp [e] at h
        · rw [if_neg e, List.mem_singleton] at h
          exact ⟨q, by omega, e, h⟩
    · rintro ⟨k, hk, hn, rfl⟩
      by_cases e : k = q
      · subst e
        exact .inr (by simp [hn])
      · exact .inl ⟨k, by omega, hn, rfl⟩
theorem zs_ok {cs : List Cm} {N pic : Nat} (hA : AlbOk N cs) (hp : pic < N) : AlbW N (cs ++ exL pic N) := by
  have h8 := hA.n8
  have hl := hA.len
  have := exL_len pic N
  refine ⟨hA.n0, h8, by simp; omega, fun c hc => ?_⟩
  rcases List.mem_append.1 hc with hc | hc
  · exact hA.cm c hc
  · obtain ⟨k, hk, hn, rfl⟩ := mem_exL.1 hc
    exact ⟨by simp, by simp only; omega, by simp only; omega, by simp only; omega, by simp only; omega, by simp, by simp, by simp⟩
theorem Canon.near {n : Int} {cs : List Cm} {d : Dm} (h : Canon cs d) (hA : AlbOk n cs) {s : Nat} (hs : s < 9) : Fits cs (fun a => d 0 s - d a s) := by
  refine ⟨by simp, fun a ha => ?_, fun c hc => ?_⟩
  · have h1 := h.tri 0 a s (by omega) ha hs
    have h2 := h.wide 0 a (by omega) ha
    have h3 := h.tri a 0 s ha (by omega) hs
    have h4 := h.wide a 0 ha (by omega)
    have h5 := wide_le 0 a
    have h6 : wideD a 0 = 0 := by simp [wideD]
    omega
  · obtain ⟨h1, h2, h3, h4⟩ := (hA.cm c hc).pl hA.n8
    have s1 := h.says c hc
    have t1 := h.tri (pl c.r) (pl c.l) s h2 h1 hs
    have t2 := h.tri (pl c.l) (pl c.r) s h1 h2 hs
    omega
theorem fin_iff {cs : List Cm} {d : Dm} {N pic : Nat} (hA : AlbOk N cs) (hd : distO cs = some d) (hp : pic < N) : (distO (cs ++ exL pic N)).isSome = finB d N pic := by
  have h8 := hA.n8
  have hC := dist_some hA hd
  have hZ := zs_ok hA hp
  have e1 : pl (pic : Int) = pic + 1 := by unfold pl; omega
  have ek : ∀ k : Nat, pl (k : Int) = k + 1 := fun k => by unfold pl; omega
  cases hz : distO (cs ++ exL pic N) with
  | none =>
    refine (Bool.eq_false_iff.2 fun hf => ?_).symm
    unfold finB at hf
    rw [List.all_eq_true] at hf
    have hg := hC.near hA (s := pic + 1) (by omega)
    refine dist_noneW hZ hz _ ⟨hg.chart, hg.all, fun c hc => ?_⟩
    rcases List.mem_append.1 hc with hc | hc
    · exact hg.says c hc
    · obtain ⟨k, hk, hn, rfl⟩ := mem_exL.1 hc
      have h1 := of_decide_eq_true (hf k (List.mem_range.2 hk))
      have h2 := hC.diag (pic + 1) (by omega)
      have h3 := hC.bound (a := k + 1) (b := pic + 1) (by omega) (by omega)
      simp only [e1, ek]
      omega
  | some d' =>
    have hC' := dist_someW hZ hz
    have hg := canon_lo hC' hZ
    symm
    show finB d N pic = true
    unfold finB
    rw [List.all_eq_true]
    intro k hk
    have hk := List.mem_range.1 hk
    apply decide_eq_true
    have hs := hC.sound _ ⟨hg.chart, hg.all, fun c hc => hg.says c (List.mem_append_left _ hc)⟩ (k + 1) (pic + 1) (by omega) (by omega)
    by_cases e : k = pic
    · subst e
      have := hC.diag (k + 1) (by omega)
      omega
    · have h1 := (hg.says ⟨pic, k, 0, 100⟩ (List.mem_append_right _ (mem_exL.2 ⟨k, hk, e, rfl⟩))).1
      simp only [e1, ek] at h1
      omega
end Go.Proofs.Ytplmlmmjfkbabaa
namespace Go.Proofs.Ytplmlmmjfkbabaa
open Go.RowKit Go.Shelf
attribute [local irreducible] arrV wpQuiet mat shl

/-- A row is left alone by a change of another block. -/
theorem row_but {w w' : World} {base e sz n b : Nat} {v : Value} {xs : List Value} (h : w.ownsRow base e sz v n xs) (hb : v.ownBlock ≠ some b) (ho : ∀ k, k ≠ b → w'.heap[k]? = w.heap[k]?) : w'.ownsRow base e sz v n xs := by
  refine ⟨h.1, ?_⟩
  rcases h.2 with h2 | ⟨g, c, cur, rfl, hbg, hg, hr⟩
  · exact .inl h2
  · exact .inr ⟨g, c, cur, rfl, hbg, (ho g (fun e => hb (by rw [e]; rfl))).trans hg, hr⟩
set_option maxRecDepth 100000 in
set_option maxHeartbeats 8000000 in
theorem refMBF_any (N : Nat) (v : Value) (cs : List Cm) (pic : Nat) (w : World) (hA : AlbOk N cs) (hp : pic < N) (hV : CmsV w.heap.size w v cs) :
    Calls Try.prog 34 #[.agg #[.int .i64 N, v], .int .i64 pic] w fun e w' => e = .returned (.bool (distO (cs ++ exL pic N)).isSome) ∧ Below w.heap.size w w' := by
  have h8 := hA.n8
  have hl := hA.len
  have HOK := Lib.hid hA
  have HVS := Lib.hid fun w' (h : Below w.heap.size w w') => (hV.same (.below (Nat.le_refl _) h)).up h.size
  obtain ⟨a, cap, rfl, -⟩ := hV
  have HX := Lib.hid (heap_alloc_new w (.cells #[.int .i64 N, .slice a cs.length cap] 24))
  have HBA := Lib.hid (box_below w (.cells #[.int .i64 N, .slice a cs.length cap] 24))
  have hz : (w.alloc (.cells #[.int .i64 N, .slice a cs.length cap] 24)).heap.size = w.heap.size + 1 := by simp
  have HZ := Lib.hid hz
  clear hA hz
  go_enter Try.func34, Try.ntmps34
  go_wp2_with fail
  generalize w.alloc _ = u0 at *
  have HC : Hid (∀ w', Below u0.heap.size u0 w' → w'.cell? ⟨w.heap.size, 0, none⟩ = some (.int .i64 N) ∧ w'.cell? ⟨w.heap.size, 1, none⟩ = some (.slice a cs.length cap) ∧ w.heap.size < w'.heap.size) := Lib.hid fun w' h => by
    have z := (h.block _ (lt_of_block HX.out)).trans HX.out
    exact ⟨cell_of_row w' w.heap.size 0 _ _ _ z, cell_of_row w' w.heap.size 1 _ _ _ z, lt_of_block z⟩
  refine wp_region_noPanic ?_
  refine wp_region_acts (fun w' => Below u0.heap.size u0 w') (fun _ _ h hb => grow_to h hb) (below_drawn _) (by decide +kernel) (fun _ _ _ _ _ h => h)
    [.take 0, .take 1, .take 3, .take 4, .float 7, .act 2, .act 5, .take 6, .join] [8] (by decide +kernel) ?_
  iterate 4
    (refine GWalk.takes rfl rfl ?_; apply Exists.intro; refine ⟨fun w' hS => ?_, ?_⟩; (obtain ⟨z1, z2, z3⟩ := HC.out w' hS; clear hS; go_simp; with_reducible rfl); simp only [List.getElem_toArray, List.getElem_cons_succ, List.getElem_cons_zero, Act.put, List.setIfInBounds_toArray, List.set_cons_zero, List.set_cons_succ])
  refine GWalk.floats (.cells #[.int .i64 0, .slice none 0 0] 24 (0, 0)) (fun b => .pointer (some ⟨b, 0, none⟩)) rfl rfl rfl (fun w1 => by kernel_rfl) ?_
  simp only [List.nil_append, List.cons_append]
  refine GWalk.acts rfl rfl fun e1 he1 hSe1 hOe1 => ?_
  have hA1 := grow_to (below_drawn u0) he1
  have hA2 := grow_to hA1 (box_below e1 (.cells #[] 73 (0, 0)))
  refine ⟨.slice (some ⟨e1.heap.size, 0, none⟩) 0 0, e1.alloc (.cells #[] 73 (0, 0)), Mine (fun _ => False) e1 _, by kernel_rfl, hA2, kept_alloc _ e1 _ hOe1, ?_⟩
  simp only [List.getElem_toArray, List.getElem_cons_succ, List.getElem_cons_zero, Act.put, List.setIfInBounds_toArray, List.set_cons_zero, List.set_cons_succ]
  have ho1 := act_empty 73 4 u0.heap.size e1 hA1.size
  have hm1 := mine_empty e1 (.cells #[] 73 (0, 0))
  clear hSe1 hOe1 he1 hA1
  generalize e1.alloc (.cells #[] 73 (0, 0)) = f1 at *
  refine GWalk.acts rfl rfl fun e2 he2 hSe2 hOe2 => ?_
  have hA3 := grow_to hA2 he2
  obtain ⟨hp1, hp2⟩ := cms_cells (HVS.out e2 (below_to HBA.out hA3))
  obtain ⟨v2, f2, hr2, ho2, hb2, hk2, hm2, -⟩ := act_app2 el22 u0.heap.size 0 (.slice (some ⟨e1.heap.size, 0, none⟩) 0 0) [] a cs.length cap (flatC cs) e2 (Mine (fun _ => False) e1 f1) 22 (by simp [maxLen]; omega) (by omega) (row_kept ho1 he2) hA3.size (flatC_len cs) hp1 hp2 flatC_one hm1 hOe2
  have hA4 := hA3.trans hb2
  refine ⟨v2, f2, _, exec_append (.tmp 11) (.tmp 13) rfl rfl rfl hr2, hA4, hk2, ?_⟩
  simp only [List.getElem_toArray, List.getElem_cons_succ, List.getElem_cons_zero, Act.put, List.setIfInBounds_toArray, List.set_cons_zero, List.set_cons_succ]
  clear hr2 hp1 hp2 hSe2 hOe2 he2 hA3 hA2 ho1 hb2 hk2 hm1
  rw [Nat.zero_add, List.nil_append] at ho2
  obtain ⟨sa, sc, rfl⟩ := own_shape ho2
  refine GWalk.takes rfl rfl ?_; apply Exists.intro; refine ⟨fun w' hS => ?_, ?_⟩; (clear hS; go_simp; with_reducible rfl); simp only [List.getElem_toArray, List.getElem_cons_succ, List.getElem_cons_zero, Act.put, List.setIfInBounds_toArray, List.set_cons_zero, List.set_cons_succ]
  refine GWalk.joins fun e3 bx he3 hj1 hj2 hj3 hj4 => ?_
  simp only [List.getElem_toArray, List.getElem_cons_succ, List.getElem_cons_zero, Act.put, List.setIfInBounds_toArray, List.set_cons_zero, List.set_cons_succ]
  have hne : (Value.slice sa cs.length sc).ownBlock ≠ some bx := fun e => hj3 (hm2 bx e)
  refine GWalk.fin fun e4 he4 hS4 => ?_
  have y12 := (he4.block _ hj2).trans hj4
  have s24 : (Try.prog.info? 24).map (·.size) = some 2 := by kernel_rfl
  have n1 := (put_cells bx 0 [.int .i64 N, .slice sa cs.length sc] e4).below hS4 hj1
  refine Tail.skip rfl rfl (exec_store_row 24 (.tmp 5) (.tmp 15) rfl bx 0 #[.int .i64 N, .slice sa cs.length sc] rfl rfl (there_block y12 (Nat.le_refl _)) s24 (by simp [Value.oneCell'])) n1 (Tail.done (NoPanic.normal ?_))
  simp only [List.getElem_toArray, List.getElem_cons_succ, List.getElem_cons_zero, Act.put, List.setIfInBounds_toArray, List.set_cons_zero, List.set_cons_succ]
  have z12 := set_whole bx 24 e4 #[.int .i64 0, .slice none 0 0] #[.int .i64 N, .slice sa cs.length sc] rfl y12
  have z13 := row_but (row_kept (row_kept ho2 he3) he4) hne (put_cells bx 0 [.int .i64 N, .slice sa cs.length sc] e4).other
  simp only [Array.toList] at z12 z13 n1 ⊢
  generalize World.setCells e4 _ _ _ = u2 at *
  rw [HZ.out] at z13
  rw [HZ.out] at hj1
  replace HX := Lib.hid ((n1.block _ (lt_of_block HX.out)).trans HX.out)
  replace HBA := Lib.hid (below_to HBA.out n1)
  have HBX := Lib.hid z12
  have HO := Lib.hid z13
  have HNE := Lib.hid hne
  have HJ := Lib.hid hj1
  clear n1 z12 z13 hne hj1 hj2 hj3 hj4 he3 he4 hS4 y12 s24 hm2 ho2 hA4 HC HZ
  have HLE : Hid (∀ q, (cs ++ exL pic q).length ≤ 12 + q) := Lib.hid fun q => by
    have := exL_len pic q
    simp
    omega
  go_wp2_with fail
  go_loopw [6] (fun i wr => ∃ (q : Nat) (sa : Option Addr) (sc : Nat), q ≤ N ∧ i = .int .i64 q ∧ Hid (wr.heap[w.heap.size]? = some (.cells #[.int .i64 N, .slice a cs.length cap] 24 (0, 0))) ∧ Hid (wr.heap[bx]? = some (.cells #[.int .i64 N, .slice sa (cs ++ exL pic q).length sc] 24 (0, 0))) ∧ Hid (wr.ownsRow (w.heap.size + 1) 73 4 (.slice sa (cs ++ exL pic q).length sc) (cs ++ exL pic q).length (flatC (cs ++ exL pic q))) ∧ Hid ((Value.slice sa (cs ++ exL pic q).length sc).ownBlock ≠ some bx) ∧ Hid (Below w.heap.size w wr)) (fun i _ => N - (intOf i).toNat)
  case atStart =>
    have e : cs ++ exL pic 0 = cs := by simp [exL]
    exact ⟨0, sa, sc, Nat.zero_le _, rfl, HX, by rw [e]; exact HBX, by rw [e]; exact HO, by rw [e]; exact HNE, HBA⟩
  case round =>
    clear HX HBX HO HNE HBA
    obtain ⟨q, sa, sc, hq, rfl, HX, HBX, HO, HNE, HBA⟩ := hrel
    have c0 := cell_of_row wr w.heap.size 0 _ _ _ HX.out
    simp only [List.getElem?_toArray, List.getElem?_cons_zero, List.getElem?_cons_succ] at c0
    have l0 := lt_of_block HX.out
    by_cases hlt : q < N
    · have hqn : (q : Int) < N := by omega
      have hwq : IntKind.i64.wrap ((q : Int) + 1) = (q : Int) + 1 := IntWalk.i64_in _ (by omega)
      by_cases he : q = pic
      · subst he
        have e1 : ((q : Int) != q) = false := by simp
        go_wp2_with fail
        go_roundw
        case rel => exact ⟨q + 1, sa, sc, by omega, by simp, HX, by rw [exL_same]; exact HBX, by rw [exL_same]; exact HO, by rw [exL_same]; exact HNE, HBA⟩
        case measure => simp [intOf] <;> omega
      · have e1 : ((q : Int) != pic) = true := by simp; omega
        have hle := HLE.out q
        have HL1 : Hid ((cs ++ exL pic (q + 1)).length = (cs ++ exL pic q).length + 1) := Lib.hid (by rw [exL_next he]; simp; omega)
        have HF1 : Hid (flatC (cs ++ exL pic (q + 1)) = flatC (cs ++ exL pic q) ++ [.int .i64 pic, .int .i64 q, .int .i64 0, .int .i64 100]) := Lib.hid (by rw [exL_next he, ← List.append_assoc, flatC_snoc])
        clear he
        have hb1 := box_below wr (.cells #[.int .i64 pic, .int .i64 q, .int .i64 0, .int .i64 100] 73)
        have hnx := heap_alloc_new wr (.cells #[.int .i64 pic, .int .i64 q, .int .i64 0, .int .i64 100] 73)
        have ho1 := row_kept HO.out hb1
        have hx1 := (hb1.block _ (lt_of_block HX.out)).trans HX.out
        have hbx1 := (hb1.block _ (lt_of_block HBX.out)).trans HBX.out
        have hba1 := below_to HBA.out hb1
        obtain ⟨L, hL⟩ : ∃ L, L = (cs ++ exL pic q).length := ⟨_, rfl⟩
        rw [← hL] at ho1 hbx1 hle
        obtain ⟨ov, W3, hr3, ho3, hb3, -, hm3, hg3⟩ := act_app2 el22 (w.heap.size + 1) L (.slice sa L sc) (flatC (cs ++ exL pic q)) (some ⟨wr.heap.size, 0, none⟩) 1 1 [.int .i64 pic, .int .i64 q, .int .i64 0, .int .i64 100] (wr.alloc (.cells #[.int .i64 pic, .int .i64 q, .int .i64 0, .int .i64 100] 73)) (fun k => (Value.slice sa L sc).ownBlock = some k) 22 (by simp [maxLen]; omega) (by omega) ho1 (by have := hba1.size; have := lt_of_block hx1; omega) rfl (fun h => by cases h) (fun _ => ⟨wr.heap.size, 0, rfl, fun j u hj => by
            rw [Nat.zero_add, cell_of_row _ wr.heap.size j _ _ _ hnx]
            simpa using hj⟩) (by simp [Value.oneCell']) (fun k h => h) (fun k h => (own_lt ho1 h).2)
        have HRUN := Lib.hid hr3
        have hne1 : (Value.slice sa L sc).ownBlock ≠ some bx := by rw [hL]; exact HNE.out
        have HX3 := Lib.hid ((hb3.block _ (Nat.lt_succ_self _)).trans hx1)
        have HBX3 := Lib.hid ((hg3.block bx (lt_of_block hbx1) (fun e => hne1 e.symm)).trans hbx1)
        have HNE3 : Hid (ov.ownBlock ≠ some bx) := Lib.hid fun e => by
          rcases hm3 bx e with h | h
          · exact hne1 h
          · have := lt_of_block hbx1
            omega
        obtain ⟨L1, hL1⟩ : ∃ L1, L1 = (cs ++ exL pic (q + 1)).length := ⟨_, rfl⟩
        rw [← HF1.out, hL, ← HL1.out, ← hL1] at ho3
        have HO3 := Lib.hid ho3
        have HLL := Lib.hid hL1
        clear hL1
        have HBA3 := Lib.hid (hba1.trans (hb3.mono (Nat.le_succ _)))
        have c5 := cell_of_row wr bx 1 _ _ _ HBX.out
        simp only [List.getElem?_toArray, List.getElem?_cons_zero, List.getElem?_cons_succ] at c5
        rw [← hL] at c5
        have l5 := lt_of_block HBX.out
        clear hb1 hnx ho1 hx1 hbx1 hba1 hr3 ho3 hb3 hm3 hg3 hne1 HO HNE HBA hL HX HBX
        go_wp2_with (first
          | (refine wpList_append_by (v := ov) (W' := W3) (y := .slice sa L sc) (z := .slice (some ⟨wr.heap.size, 0, none⟩) 1 1) rfl (.tmp 26) (.tmp 30) 22 22 22 rfl rfl rfl rfl HRUN.out ?_
             clear c0 l0 c5 l5 HRUN
             obtain ⟨oa, oc, rfl⟩ := own_shape HO3.out
             have c7 := cell_of_row W3 bx 1 _ _ _ HBX3.out
             have f7 := frozen_of_row W3 bx 1 _ _ HBX3.out
             simp only [List.getElem?_toArray, List.getElem?_cons_zero, List.getElem?_cons_succ] at c7
             have l7 := lt_of_block HBX3.out
             skip)
          | fail)
        clear c7 f7 l7
        have y1 := (heap_setCell_other W3 ⟨bx, 1, none⟩ w.heap.size (.slice oa L1 oc) (by have := HJ.out; show w.heap.size ≠ bx; omega)).trans HX3.out
        have y2 := heap_setCell_same W3 bx 1 _ 24 (.slice oa L1 oc) HBX3.out
        have y3 := row_but HO3.out HNE3.out (fun k hk => heap_setCell_other W3 ⟨bx, 1, none⟩ k (.slice oa L1 oc) hk)
        have y4 := HBA3.out.setCell (p := ⟨bx, 1, none⟩) (by have := HJ.out; show w.heap.size ≤ bx; omega) (.slice oa L1 oc)
        simp only [List.setIfInBounds_toArray, List.set_cons_zero, List.set_cons_succ] at y2
        have HX5 := Lib.hid y1
        have HBX5 := Lib.hid y2
        have HO5 := Lib.hid y3
        have HBA5 := Lib.hid y4
        clear y1 y2 y3 y4 HX3 HBX3 HO3 HBA3
        go_roundw
        case rel => exact ⟨q + 1, oa, oc, by omega, by simp, HX5, by rw [← HLL.out]; exact HBX5, by rw [← HLL.out]; exact HO5, by rw [← HLL.out]; exact HNE3, HBA5⟩
        case measure => simp [intOf] <;> omega
    · obtain rfl : q = N := by omega
      have hZ := Lib.hid (zs_ok HOK.out hp)
      have d0 := cell_of_row wr bx 0 _ _ _ HBX.out
      have d1 := cell_of_row wr bx 1 _ _ _ HBX.out
      simp only [List.getElem?_toArray, List.getElem?_cons_zero, List.getElem?_cons_succ] at d0 d1
      have l1 := lt_of_block HBX.out
      obtain ⟨L, hL⟩ : ∃ L, L = (cs ++ exL pic q).length := ⟨_, rfl⟩
      rw [← hL] at d1
      have HLL := Lib.hid hL
      clear hL
      go_wp2_with fail
      obtain rfl := HLL.out
      refine (refGrades_anyW q _ (cs ++ exL pic q) wr hZ.out (own_cms HO.out)).mono ?_
      rintro e W5 ⟨hg, hb⟩
      have HF := Lib.hid (below_to HBA.out hb)
      clear hb c0 d0 d1 l0 l1
      rcases hg with ⟨d, r, hd, rfl, -⟩ | ⟨hd, rfl⟩
      · have HD := Lib.hid hd
        clear hd
        go_wp2
        go_ret
        exact ⟨by rw [HD.out]; rfl, HF.out⟩
      · have HD := Lib.hid hd
        clear hd
        go_wp2
        go_ret
        exact ⟨by rw [HD.out]; rfl, HF.out⟩
end Go.Proofs.Ytplmlmmjfkbabaa
