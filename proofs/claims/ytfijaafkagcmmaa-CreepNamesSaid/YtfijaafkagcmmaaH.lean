/- The closure that brings all rates from a band on: its contract. Conditions: a valid material. -/
import Derived.Test.YtfijaafkagcmmaaG
namespace Go.Proofs.Ytfijaafkagcmmaa
open Go.RowKit Go.Shelf
attribute [local irreducible] arrV
attribute [local go_sem] Oper.semAt_some

theorem doneL_prefix (s0 : Int) (rest : List Rg) (p : List Int) {k m : Nat} (h : k ≤ m) : doneL s0 k rest p <+: doneL s0 m rest p := by
  induction m with
  | zero =>
    obtain rfl : k = 0 := by omega
    exact List.prefix_refl _
  | succ m ih =>
    by_cases e : k = m + 1
    · rw [e]; exact List.prefix_refl _
    · rw [doneL_succ]
      exact (ih (by omega)).trans (List.prefix_append _ _)
/-- Between two rates of a band. -/
structure Mid (n Bm Bb Br Bg l : Nat) (a : Option Addr) (cap : Nat) (ms : List Rg) (T0 : Nat → Prop) (W : World) (J : (Nat → Prop) → List (List Int) → World → Prop) (done : List (List Int)) (band : Nat) (p : List Int) (T : Nat → Prop) (y : List Int) (A : World) : Prop where
  of : Of T0 W.heap.size T A
  dis : Dis n Bm Bb Br Bg T
  but : But T0 W A
  own : Own n Bm Bb Br Bg l a cap ms y A
  len : y.length = 3
  take : y.take band = p
  zero : ∀ i, ms.length ≤ i → i < 3 → ld y i = 0
  j : J T done A

set_option maxRecDepth 100000 in
set_option maxHeartbeats 4000000 in
theorem goOn_any (n Bm Bb Br Bg l : Nat) (a : Option Addr) (cap : Nat) (ms : List Rg) (T0 : Nat → Prop) (W : World) (J Jx : (Nat → Prop) → List (List Int) → World → Prop) (hm : RgsOk ms)
    (hd : Br ≠ Bm ∧ Br ≠ Bb ∧ Br ≠ Bg) (hnr : n ≤ Br) (hWr : W.heap.size ≤ Br)
    (hJ : ∀ T s A B, J T s A → Rfree T A B → J T s B) (hJx : ∀ T s A B, Jx T s A → Rfree T A B → Jx T s B)
    (hY : ∀ T pre x W1, x ∈ allL ms → pre ++ [x] <+: allL ms → J T pre W1 → Of T0 W.heap.size T W1 → But T0 W W1 → YieldAt Fence.wide 0 Try.prog l #[Value.agg (arrV (pad3 x))] W1 fun e W' =>
      But T W1 W' ∧ ((e = .returned (.bool true) ∧ J (more T W1 W') (pre ++ [x]) W') ∨ (e = .returned (.bool false) ∧ Jx (more T W1 W') (pre ++ [x]) W'))) :
    ∀ (k : Nat) (T : Nat → Prop) (pre : List (List Int)) (band : Nat) (least : Int) (p y : List Int) (A : World), ms.length - band = k → band ≤ ms.length → p.length = band → y.length = 3 → y.take band = p → (∀ i, ms.length ≤ i → i < 3 → ld y i = 0) →
      (∀ t, t ∈ listsL (ms.drop band) least → p ++ t ∈ allL ms) → pre ++ (listsL (ms.drop band) least).map (p ++ ·) <+: allL ms → (0 ≤ least ∧ least ≤ 1000) → Own n Bm Bb Br Bg l a cap ms y A → Dis n Bm Bb Br Bg T → Of T0 W.heap.size T A → But T0 W A → J T pre A →
      CallsIn Fence.wide 0 Try.prog 99 #[.int .i64 band, .int .i64 least, .pointer (some ⟨Bm, 0, none⟩), .pointer (some ⟨Bb, 0, none⟩), .pointer (some ⟨Br, 0, none⟩), .pointer (some ⟨Bg, 0, none⟩)] A
        (GoPost n Bm Bb Br Bg l a cap ms T0 W J Jx pre ((listsL (ms.drop band) least).map (p ++ ·)) band p)
  | 0, T, pre, band, least, p, y, A, hk, hbl, hp, hy3, hyt, hyz, hV, hpx, hle, hO, hD, hOf, hBut, h0 => by
    have hlen := hm.len
    obtain rfl : band = ms.length := by omega
    have hyp := pad3_of hy3 hyt hp hyz (by omega)
    subst hyp
    have hpa : p ∈ allL ms := by simpa [listsL] using hV [] (by simp [listsL])
    have hL : (listsL (ms.drop ms.length) least).map (p ++ ·) = [p] := by simp [listsL]
    rw [hL] at hpx ⊢
    refine callsIn_of_wp Try.func99 rfl trivial ?_ rfl
    simp only [Try.ntmps99, List.size_toArray, List.length_cons, List.length_nil, Nat.reduceAdd, Nat.reduceSub, Array.replicate_succ, Array.replicate_zero, List.push_toArray, List.append_toArray, List.nil_append, List.cons_append]
    have cm := cell_of_row A Bm 0 _ _ _ hO.m
    have cb := cell_of_row A Bb 0 _ _ _ hO.b
    simp at cm cb
    obtain ⟨fn, tmps, assign, body, hy, hR⟩ := hY T pre p A hpa hpx h0 hOf hBut
    have hrg := range_block (t := 105) (l := (pad3 p).map iV) (by rw [arr_list']; exact hO.r)
    have hsx : (Try.prog.info? 105).map (·.size) = some ((pad3 p).map iV).length := s105.trans (by rw [List.length_map, hy3])
    gi_wp2_with (first
      | (refine wpListIn_load_row rfl 105 (.tmp 4) rfl Br 0 rfl ((pad3 p).map iV) (.array 3 3) (by exact hrg) u105 rfl (by exact hsx) (arrV (pad3 p)) (arr_list' _) ?_)
      | fail)
    refine ⟨rfl, ?_⟩
    refine hR.mono ?_
    clear hy hR
    rintro e W2 ⟨hb2, (⟨rfl, hJ2⟩ | ⟨rfl, hJ2⟩)⟩
    · gi_wp2
      go_ret
      have hDm := hD.more hO (A' := W2)
      refine ⟨_, _, hOf.more hBut.size hb2.size, hDm, hOf.but (Nat.le_refl _) hBut hb2, hO.but hD hb2, hy3, hyt, hyz, .inl ⟨rfl, hJ2⟩⟩
    · gi_wp2
      go_ret
      have hDm := hD.more hO (A' := W2)
      refine ⟨_, _, hOf.more hBut.size hb2.size, hDm, hOf.but (Nat.le_refl _) hBut hb2, hO.but hD hb2, hy3, hyt, hyz, .inr ⟨rfl, _, List.prefix_refl _, hJ2⟩⟩
  | k + 1, T, pre, band, least, p, y, A, hk, hbl, hp, hy3, hyt, hyz, hV, hpx, hle, hO, hD, hOf, hBut, h0 => by
    have hlen := hm.len
    have hlt : band < ms.length := by omega
    have hdr := drop_rg hlt
    have hR := hm.rg _ (rg_mem hlt)
    rw [hdr] at hV hpx ⊢
    rw [doneL_all] at hpx ⊢
    have HV := Lib.hid hV
    obtain ⟨s0, hs0⟩ : ∃ s0, max least (rg ms band).lo = s0 := ⟨_, rfl⟩
    rw [hs0] at hpx ⊢
    have HPX := Lib.hid hpx
    clear hpx
    have hs1 : least ≤ s0 ∧ (rg ms band).lo ≤ s0 ∧ 0 ≤ s0 ∧ s0 ≤ 1000 := by omega
    have IH := goOn_any n Bm Bb Br Bg l a cap ms T0 W J Jx hm hd hnr hWr hJ hJx hY k
    refine callsIn_of_wp Try.func99 rfl trivial ?_ rfl
    simp only [Try.ntmps99, List.size_toArray, List.length_cons, List.length_nil, Nat.reduceAdd, Nat.reduceSub, Array.replicate_succ, Array.replicate_zero, List.push_toArray, List.append_toArray, List.nil_append, List.cons_append]
    have hO' := hO
    obtain ⟨am, cap', e1, hcell⟩ := hO.v
    obtain ⟨rfl, -, rfl⟩ : a = am ∧ True ∧ cap = cap' := by simpa using e1
    obtain ⟨b, off, rfl, hbn, hc⟩ := hcell (by omega)
    have cm := cell_of_row A Bm 0 _ _ _ hO.m
    simp at cm
    have p1 := (hc band hlt).1
    have p2 := (hc band hlt).2
    have hbI : (band : Int) < ms.length := by omega
    have hbI2 : ((band : Int) == ms.length) = false := by rw [beq_eq_false_iff_ne]; omega
    have hM0 : Hid (Mid n Bm Bb Br Bg l (some ⟨b, off, none⟩) cap ms T0 W J (pre ++ doneL s0 0 (ms.drop (band + 1)) p) band p T y A) := Lib.hid ⟨hOf, hD, hBut, hO, hy3, hyt, hyz, by simpa [doneL_zero] using h0⟩
    have hK := Lib.hid hk
    have hHI : (rg ms band).hi ≤ 1000 := hR.2.2.1
    have HR := Lib.hid hR
    have HDR := Lib.hid hdr
    clear hk hR hdr hcell hc hO' e1 hO hOf hBut h0 hD hyt hyz hV hy3
    gi_wp2_with fail
    gi_loopw [9] (fun v wr => ∃ (q : Nat) (T' : Nat → Prop) (y' : List Int), (q : Int) ≤ max 0 ((rg ms band).hi + 1 - s0) ∧ v = .int .i64 (s0 + q) ∧ Hid (Mid n Bm Bb Br Bg l (some ⟨b, off, none⟩) cap ms T0 W J (pre ++ doneL s0 q (ms.drop (band + 1)) p) band p T' y' wr)) (fun v _ => ((rg ms band).hi + 1 - intOf v).toNat)
    case atStart => exact ⟨0, T, y, by omega, by simp, hM0⟩
    case round =>
      obtain ⟨q, T', y', hq, rfl, hM⟩ := hrel
      obtain ⟨am2, cap2, e1, hcell⟩ := hM.out.own.v
      have cm := cell_of_row wr Bm 0 _ _ _ hM.out.own.m
      have cg := cell_of_row wr Bg 0 _ _ _ hM.out.own.g
      have cr := cell_of_row wr Br band _ _ _ hM.out.own.r
      have fr := frozen_of_row wr Br band _ _ hM.out.own.r
      simp at cm cg
      rw [arrV_get y' band (by have := hM.out.len; omega)] at cr
      obtain ⟨b', off', eb, hbn', hc⟩ := hcell (by omega)
      simp only [Value.slice.injEq] at e1
      obtain ⟨ea, -, -⟩ := e1
      rw [eb] at ea
      simp only [Option.some.injEq, Addr.mk.injEq] at ea
      obtain ⟨rfl, rfl, -⟩ := ea
      have p2 := (hc band hlt).2
      clear hc hcell eb
      have lr := lt_of_block hM.out.own.r
      have hb3 : (band : Int) < 3 := by omega
      have hw1 : IntKind.i64.wrap ((band : Int) + 1) = (band : Int) + 1 := IntWalk.i64_in _ (by omega)
      by_cases hle2 : s0 + (q : Int) ≤ (rg ms band).hi
      · gi_wp2_with fail
        refine ⟨trivial, rfl, ?_⟩
        have M := hM.out
        have hy3 := M.len
        have hs0b : (rg ms band).lo ≤ s0 ∧ least ≤ s0 := by omega
        have hset : (y'.set band (s0 + (q : Int))).take (band + 1) = p ++ [s0 + (q : Int)] := by
          have hl : band < (y'.set band (s0 + (q : Int))).length := by simp; omega
          rw [take_snoc hl, List.take_set_of_le (Nat.le_refl _), M.take]
          simp
        have hzr : ∀ i, ms.length ≤ i → i < 3 → ld (y'.set band (s0 + (q : Int))) i = 0 := fun i h1 h2 => by
          have := M.zero i h1 h2
          simp only [ld] at this ⊢
          rw [List.getElem?_set_ne (by omega)]
          exact this
        have hV' : ∀ t, t ∈ listsL (ms.drop (band + 1)) (s0 + (q : Int)) → (p ++ [s0 + (q : Int)]) ++ t ∈ allL ms := fun t ht => by
          rw [List.append_assoc]
          refine HV.out _ ?_
          rw [mem_listsL] at ht ⊢
          exact ⟨by omega, by omega, hle2, ht⟩
        have hpx' : (pre ++ doneL s0 q (ms.drop (band + 1)) p) ++ (listsL (ms.drop (band + 1)) (s0 + (q : Int))).map ((p ++ [s0 + (q : Int)]) ++ ·) <+: allL ms := by
          rw [List.append_assoc, ← doneL_succ]
          refine List.IsPrefix.trans ?_ HPX.out
          exact (List.prefix_append_right_inj _).2 (doneL_prefix s0 (ms.drop (band + 1)) p (by omega))
        have ih := IH T' (pre ++ doneL s0 q (ms.drop (band + 1)) p) (band + 1) (s0 + q) (p ++ [s0 + q]) (y'.set band (s0 + q)) (wr.setCell ⟨Br, band, none⟩ (.int .i64 (s0 + q))) (by have := hK.out; omega) (by omega) (by simp [hp]) (by simp [hy3]) hset hzr hV' hpx' (by omega)
          (M.own.set hd hnr band _) M.dis (M.of.grow (by simp [World.setCell])) (M.but.set_new hWr) (hJ _ _ _ _ M.j (rfree_set M.dis.r))
        rw [show ((band + 1 : Nat) : Int) = (band : Int) + 1 by omega] at ih
        refine ih.mono ?_
        clear ih hpx' hV' hzr hset M hs0b hy3 p2 cm cg cr fr lr hM
        have hw2 : IntKind.i64.wrap (s0 + (q : Int) + 1) = s0 + (q : Int) + 1 := IntWalk.i64_in _ (by omega)
        have hDS := Lib.hid (doneL_succ s0 q (ms.drop (band + 1)) p)
        have hDP := Lib.hid (doneL_prefix s0 (ms.drop (band + 1)) p (show q + 1 ≤ ((rg ms band).hi + 1 - s0).toNat by omega))
        rintro e W5 ⟨T5, y5, hO5, hD5, hB5, hW5, hl5, ht5, hz5, hend⟩
        have ht5' : y5.take band = p := by
          have h1 : (y5.take (band + 1)).take band = (p ++ [s0 + (q : Int)]).take band := by rw [ht5]
          rw [List.take_take] at h1
          have h2 : min band (band + 1) = band := by omega
          rw [h2] at h1
          rw [h1, ← hp]
          simp
        have hMid : ∀ done, J T5 done W5 → Hid (Mid n Bm Bb Br Bg l (some ⟨b, off, none⟩) cap ms T0 W J done band p T5 y5 W5) := fun done hj => Lib.hid ⟨hO5, hD5, hB5, hW5, hl5, ht5', hz5, hj⟩
        rcases hend with ⟨rfl, hj⟩ | ⟨rfl, pre5, hpf, hj⟩
        · rw [List.append_assoc, ← hDS.out] at hj
          have hM5 := hMid _ hj
          clear hMid hj ht5 ht5' hz5 hl5 hW5 hB5 hD5 hO5
          gi_wp2
          go_roundw
          case rel => exact ⟨q + 1, T5, y5, by omega, by simp; omega, hM5⟩
          case measure => simp [intOf]; omega
        · rw [List.append_assoc, ← hDS.out] at hpf
          gi_wp2
          go_ret
          refine ⟨T5, y5, hO5, hD5, hB5, hW5, hl5, ht5', hz5, .inr ⟨rfl, pre5, hpf.trans ?_, hj⟩⟩
          exact List.prefix_append_right_inj _ |>.2 hDP.out
      · have hqK : q = ((rg ms band).hi + 1 - s0).toNat := by omega
        have hQK := Lib.hid hqK
        clear hqK
        gi_wp2
        go_ret
        have M := hM.out
        refine ⟨T', y', M.of, M.dis, M.but, M.own, M.len, M.take, M.zero, .inl ⟨rfl, ?_⟩⟩
        have := M.j
        rw [hQK.out] at this
        exact this
end Go.Proofs.Ytfijaafkagcmmaa
