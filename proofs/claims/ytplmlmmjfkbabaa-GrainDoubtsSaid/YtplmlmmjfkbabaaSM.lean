/- An album without some comparisons, by the reference. No condition. -/
import Derived.Test.YtplmlmmjfkbabaaSL
import Derived.BigRegion
import Derived.BigQuiet
namespace Go.Proofs.Ytplmlmmjfkbabaa
open Go.RowKit Go.Shelf
attribute [local irreducible] arrV wpQuiet mat shl

theorem rest_snoc : ∀ {cs : List Cm} {bs : List Bool} {c : Cm} {b : Bool}, bs.length = cs.length → restS (cs ++ [c]) (bs ++ [b]) = restS cs bs ++ if b = true then [] else [c]
  | [], [], c, b, _ => by cases b <;> simp [restS]
  | x :: cs, y :: bs, c, b, h => by
    have := rest_snoc (cs := cs) (bs := bs) (c := c) (b := b) (by simpa using h)
    cases y <;> simp [restS, this]
  | [], _ :: _, _, _, h => by simp at h
  | _ :: _, [], _, _, h => by simp at h
theorem bits_snoc (nums : List Int) : ∀ (s : Nat) (cs : List Cm) (c : Cm), bitsF nums s (cs ++ [c]) = bitsF nums s cs ++ [nums.contains ((s + cs.length : Nat) : Int)]
  | s, [], c => by simp [bitsF]
  | s, x :: cs, c => by
    simp only [List.cons_append, bitsF, bits_snoc nums (s + 1) cs c, List.length_cons]
    rw [show s + 1 + cs.length = s + (cs.length + 1) by omega]
/-- What is kept of the first q comparisons. -/
def woP (cs : List Cm) (nums : List Int) (q : Nat) : List Cm := restS (cs.take q) (bitsF nums 0 (cs.take q))
theorem woP_next {cs : List Cm} {nums : List Int} {q : Nat} (h : q < cs.length) : woP cs nums (q + 1) = woP cs nums q ++ if nums.contains (q : Int) = true then [] else [cm cs q] := by
  have e : cs.take (q + 1) = cs.take q ++ [cm cs q] := by rw [List.take_succ_eq_append_getElem h]; simp [cm, h]
  unfold woP
  rw [e, bits_snoc, rest_snoc (bitsF_len _ _ _)]
  simp [Nat.min_eq_left (Nat.le_of_lt h)]
theorem woP_len (cs : List Cm) (nums : List Int) (q : Nat) : (woP cs nums q).length ≤ cs.length := by
  have := rest_len (q := 0) (cs := cs.take q) (bs := bitsF nums 0 (cs.take q)) (bitsF_len _ _ _)
  have h2 : (cs.take q).length ≤ cs.length := by simp [Nat.min_le_right]
  unfold woP
  omega
theorem contains_next {nums : List Int} {k : Nat} {x : Int} (h : k < nums.length) : (nums.take (k + 1)).contains x = ((nums.take k).contains x || (ld nums k == x)) := by
  have e : ld nums k = nums[k] := by simp [ld, h]
  rw [List.take_succ_eq_append_getElem h, e]
  simp only [List.contains_eq_mem, List.mem_append, List.mem_singleton]
  rw [Bool.eq_iff_iff]
  simp only [decide_eq_true_eq, Bool.or_eq_true, beq_iff_eq]
  exact ⟨fun h => h.imp id Eq.symm, fun h => h.imp id Eq.symm⟩
set_option maxRecDepth 100000 in
set_option maxHeartbeats 8000000 in
theorem Without_any (m : Nat) (n : Int) (v nv : Value) (cs : List Cm) (nums : List Int) (w : World) (hl : cs.length ≤ 16) (hnl : nums.length ≤ 1000) (hV : CmsV m w v cs) (hN : IntsV m w nv nums) (hm : m ≤ w.heap.size) :
    Calls Try.prog 45 #[.agg #[.int .i64 n, v], nv] w fun e w' => (∃ r, e = .returned (.agg #[.int .i64 n, r]) ∧ w'.ownsRow w.heap.size 73 4 r (woP cs nums cs.length).length (flatC (woP cs nums cs.length))) ∧ Below w.heap.size w w' := by
  obtain ⟨a, cap, rfl, hp⟩ := hV
  obtain ⟨na, ncap, rfl, hq⟩ := hN
  have HP := Lib.hid hp
  have HQ := Lib.hid hq
  have HLE := Lib.hid (woP_len cs nums)
  have HNX := Lib.hid fun q (h : q < cs.length) => woP_next (nums := nums) h
  obtain ⟨hx, hr, hxx⟩ := box3 w (.cells #[.int .i64 n, .slice a cs.length cap] 24) (.cells #[.int .i64 0, .slice none 0 0] 24) (.cells #[.int .i64 n, .slice none 0 0] 24)
  have HX := Lib.hid hx
  have HR := Lib.hid hr
  have HXX := Lib.hid hxx
  have HB := Lib.hid (below3 w (.cells #[.int .i64 n, .slice a cs.length cap] 24) (.cells #[.int .i64 0, .slice none 0 0] 24) (.cells #[.int .i64 n, .slice none 0 0] 24))
  clear hp hq hx hr hxx
  go_enter Try.func45, Try.ntmps45
  go_wp2_with fail
  generalize World.alloc (World.alloc (World.alloc w _) _) _ = W0 at *
  have HW0 : Hid (woP cs nums 0 = []) := Lib.hid (by simp [woP, restS])
  go_loopw [6] (fun i wr => ∃ (q : Nat) (sa : Option Addr) (sc : Nat), q ≤ cs.length ∧ i = .int .i64 q ∧ Hid (wr.heap[w.heap.size]? = some (.cells #[.int .i64 n, .slice a cs.length cap] 24 (0, 0))) ∧ Hid (wr.heap[w.heap.size + 1]? = some (.cells #[.int .i64 0, .slice none 0 0] 24 (0, 0))) ∧ Hid (wr.heap[w.heap.size + 1 + 1]? = some (.cells #[.int .i64 n, .slice sa (woP cs nums q).length sc] 24 (0, 0))) ∧ Hid (wr.ownsRow (w.heap.size + 3) 73 4 (.slice sa (woP cs nums q).length sc) (woP cs nums q).length (flatC (woP cs nums q))) ∧ Hid (Below w.heap.size w wr)) (fun i _ => cs.length - (intOf i).toNat)
  case atStart => exact ⟨0, none, 0, Nat.zero_le _, rfl, HX, HR, by rw [HW0.out]; exact HXX, by rw [HW0.out]; exact Lib.hid (World.ownsRow_nil _ _ _ _), HB⟩
  case round =>
    clear HX HR HXX HB HW0
    obtain ⟨q, sa, sc, hq, rfl, HX, HR, HXX, HO, HB⟩ := hrel
    have c1 := cell_of_row wr w.heap.size 1 _ _ _ HX.out
    simp only [List.getElem?_toArray, List.getElem?_cons_zero, List.getElem?_cons_succ] at c1
    have l1 := lt_of_block HX.out
    by_cases hlt : q < cs.length
    · have hqn : (q : Int) < cs.length := by omega
      have hwq : IntKind.i64.wrap ((q : Int) + 1) = (q : Int) + 1 := IntWalk.i64_in _ (by omega)
      have HNQ := Lib.hid (HNX.out q hlt)
      have HLQ := Lib.hid (HLE.out q)
      go_wp2_with fail
      rename World => w5
      go_loopw [7, 8] (fun b k wr => ∃ (K : Nat) (C : Bool), K ≤ nums.length ∧ b = .bool (!C) ∧ k = .int .i64 K ∧ Hid (C = (nums.take K).contains (q : Int)) ∧ wr = w5) (fun _ k _ => nums.length - (intOf k).toNat)
      case atStart => exact ⟨0, false, Nat.zero_le _, rfl, rfl, Lib.hid rfl, rfl⟩
      case round =>
        obtain ⟨K, C, hK, rfl, rfl, HC, rfl⟩ := hrel
        by_cases hlk : K < nums.length
        · have hkn : (K : Int) < nums.length := by omega
          have hwk : IntKind.i64.wrap ((K : Int) + 1) = (K : Int) + 1 := IntWalk.i64_in _ (by omega)
          have HCN := Lib.hid (contains_next (x := (q : Int)) hlk)
          obtain ⟨nb, noff, rfl, hnb, hnc⟩ := HQ.out (by omega)
          have p1 := (HB.out.cell (p := ⟨nb, noff + K, none⟩) (show nb < w.heap.size by omega)).trans (hnc K hlk)
          have lnb : nb < wr.heap.size := by have := HB.out.size; omega
          obtain ⟨X, hX⟩ : ∃ X, X = ld nums K := ⟨_, rfl⟩
          rw [← hX] at p1 HCN
          clear hnc hX
          cases C with
          | true =>
            go_wp2_with fail
            go_roundw
            case rel => exact ⟨K + 1, true, by omega, rfl, by simp, Lib.hid (by rw [HCN.out, ← HC.out]; rfl), trivial⟩
            case measure => simp [intOf] <;> omega
          | false =>
            go_wp2_with fail
            go_roundw
            case rel => exact ⟨K + 1, (X == (q : Int)), by omega, rfl, by simp, Lib.hid (by rw [HCN.out, ← HC.out]; rfl), trivial⟩
            case measure => simp [intOf] <;> omega
        · obtain rfl : K = nums.length := by omega
          rw [List.take_length] at HC
          rw [← HC.out] at HNQ
          cases C with
          | true =>
            rw [if_pos rfl, List.append_nil] at HNQ
            go_wp2_with fail
            go_roundw
            case rel => exact ⟨q + 1, sa, sc, by omega, by simp, HX, HR, by rw [HNQ.out]; exact HXX, by rw [HNQ.out]; exact HO, HB⟩
            case measure => simp [intOf] <;> omega
          | false =>
            rw [if_neg (by simp)] at HNQ
            go_wp2_with fail
            obtain ⟨cb, coff, rfl, hcb, hcc⟩ := HP.out (by omega)
            obtain ⟨d1, d2, d3, d4⟩ := hcc q hlt
            obtain ⟨⟨xl, xr, xlo, xhi⟩, hcm⟩ : ∃ c, c = cm cs q := ⟨_, rfl⟩
            rw [← hcm] at d1 d2 d3 d4 HNQ
            obtain ⟨LS, hLS⟩ : ∃ L, L = woP cs nums q := ⟨_, rfl⟩
            rw [← hLS] at HXX HO HNQ HLQ
            have HL1 : Hid ((woP cs nums (q + 1)).length = LS.length + 1) := Lib.hid (by rw [HNQ.out]; simp)
            have HF1 : Hid (flatC (woP cs nums (q + 1)) = flatC LS ++ [.int .i64 xl, .int .i64 xr, .int .i64 xlo, .int .i64 xhi]) := Lib.hid (by rw [HNQ.out, flatC_snoc])
            simp only at d1 d2 d3 d4
            have hcb2 : cb < w.heap.size := by omega
            have HCC : Hid (∀ w', But (fun k => k = w.heap.size + 1 + 1 ∨ (Value.slice sa LS.length sc).ownBlock = some k) wr w' → w'.cell? ⟨w.heap.size, 1, none⟩ = some (.slice (some ⟨cb, coff, none⟩) cs.length cap) ∧ w'.cell? ⟨cb, coff + q * 4, none⟩ = some (.int .i64 xl) ∧ w'.cell? ⟨cb, coff + q * 4 + 1, none⟩ = some (.int .i64 xr) ∧ w'.cell? ⟨cb, coff + q * 4 + 2, none⟩ = some (.int .i64 xlo) ∧ w'.cell? ⟨cb, coff + q * 4 + 3, none⟩ = some (.int .i64 xhi) ∧ w.heap.size < w'.heap.size ∧ cb < w'.heap.size) := Lib.hid fun w' hS => by
              have nt : ∀ k, k < w.heap.size + 1 → ¬ (k = w.heap.size + 1 + 1 ∨ (Value.slice sa LS.length sc).ownBlock = some k) := fun k hk h => by
                rcases h with h | h
                · omega
                · have := (own_lt HO.out h).1
                  omega
              have y := (hS.block _ (lt_of_block HX.out) (nt _ (Nat.lt_succ_self _))).trans HX.out
              have hc0 := nt cb (by omega)
              refine ⟨cell_of_row w' _ 1 _ _ _ y, hS.cell hc0 ((HB.out.cell (p := ⟨cb, coff + q * 4, none⟩) hcb2).trans d1), hS.cell hc0 ((HB.out.cell (p := ⟨cb, coff + q * 4 + 1, none⟩) hcb2).trans d2), hS.cell hc0 ((HB.out.cell (p := ⟨cb, coff + q * 4 + 2, none⟩) hcb2).trans d3), hS.cell hc0 ((HB.out.cell (p := ⟨cb, coff + q * 4 + 3, none⟩) hcb2).trans d4), lt_of_block y, by have := lt_of_block y; omega⟩
            clear hcc d1 d2 d3 d4 hcm hLS c1 l1 hcb
            refine wp_region_noPanic ?_
            refine wp_region_acts (fun w' => But (fun k => k = w.heap.size + 1 + 1 ∨ (Value.slice sa LS.length sc).ownBlock = some k) wr w') (fun _ _ h hb => h.trans (But.of_below hb)) (But.of_below (below_drawn _)) (by decide +kernel) (fun _ _ _ _ _ h => h)
              [.take 0, .take 2, .take 3, .take 4, .take 5, .take 6, .float 7, .act 1, .join] [8, 9, 10] (by decide +kernel) ?_
            iterate 6
              (refine GWalk.takes rfl rfl ?_; apply Exists.intro; refine ⟨fun w' hS => ?_, ?_⟩; (obtain ⟨z1, z2, z3, z4, z5, z6, z7⟩ := HCC.out w' hS; clear hS; go_simp; with_reducible rfl); simp only [List.getElem_toArray, List.getElem_cons_succ, List.getElem_cons_zero, Act.put, List.setIfInBounds_toArray, List.set_cons_zero, List.set_cons_succ])
            refine GWalk.floats (.cells #[.int .i64 xl, .int .i64 xr, .int .i64 xlo, .int .i64 xhi] 73 (0, 0)) (fun b => .slice (some ⟨b, 0, none⟩) 1 1) rfl rfl rfl (fun w1 => exec_buildSlice 22 73 1 _ rfl el22.u #[.int .i64 xl, .int .i64 xr, .int .i64 xlo, .int .i64 xhi] (by kernel_rfl)) ?_
            simp only [List.nil_append, List.cons_append]
            refine GWalk.acts rfl rfl fun e1 he1 hSe1 hOe1 => ?_
            have hA1 := grow_to (below_drawn wr) he1
            have y1 := (hA1.block _ (lt_of_block HXX.out)).trans HXX.out
            have k1 := cell_of_row e1 (w.heap.size + 1 + 1) 1 _ _ _ y1
            simp only [List.getElem?_toArray, List.getElem?_cons_zero, List.getElem?_cons_succ] at k1
            have ly1 := lt_of_block y1
            refine ⟨.slice sa LS.length sc, e1, (fun _ => False), (by go_simp), hSe1, Kept.below (Below.refl _ _) hOe1, ?_⟩
            simp only [List.getElem_toArray, List.getElem_cons_succ, List.getElem_cons_zero, Act.put, List.setIfInBounds_toArray, List.set_cons_zero, List.set_cons_succ]
            clear k1 ly1 y1 hSe1 hOe1 he1
            refine GWalk.joins fun e2 bJ he2 hj1 hj2 hj3 hj4 => ?_
            simp only [List.getElem_toArray, List.getElem_cons_succ, List.getElem_cons_zero, Act.put, List.setIfInBounds_toArray, List.set_cons_zero, List.set_cons_succ]
            refine GWalk.fin fun e4 he4 hS4 => ?_
            have hA4 := grow_to (grow_to hA1 he2) he4
            have hj5 := (he4.block _ hj2).trans hj4
            have ho4 := row_kept HO.out hA4
            have hb5 : w.heap.size + 3 ≤ e4.heap.size := by have := lt_of_block HXX.out; have := hA4.size; omega
            have hle2 := HLQ.out
            obtain ⟨v3, f3, hr3, ho3, hb3, -, -, hg3⟩ := act_app2 el22 (w.heap.size + 3) LS.length (.slice sa LS.length sc) (flatC LS) (some ⟨bJ, 0, none⟩) 1 1 [.int .i64 xl, .int .i64 xr, .int .i64 xlo, .int .i64 xhi] e4 (fun k => (Value.slice sa LS.length sc).ownBlock = some k) 22 (by simp [maxLen]; omega) (by omega) ho4 hb5 rfl (fun h => by cases h) (fun _ => ⟨bJ, 0, rfl, fun j u hj => by
              rw [Nat.zero_add, cell_of_row _ bJ j _ _ _ hj5]
              simpa using hj⟩) (by simp [Value.oneCell']) (fun k h => h) (fun k h => (own_lt ho4 h).2)
            have hBut : But (fun k => k = w.heap.size + 1 + 1 ∨ (Value.slice sa LS.length sc).ownBlock = some k) e4 f3 := ⟨hg3.os, hg3.tape, hg3.output, hg3.size, fun k hk hn => hg3.block k hk (fun e => hn (.inr e.symm))⟩
            refine Tail.grows rfl rfl (exec_append (.tmp 36) (.tmp 42) rfl rfl rfl hr3) (hS4.trans hBut) ?_
            simp only [List.getElem_toArray, List.getElem_cons_succ, List.getElem_cons_zero, Act.put, List.setIfInBounds_toArray, List.set_cons_zero, List.set_cons_succ]
            refine Tail.value rfl rfl (by go_simp; with_reducible rfl) ?_
            simp only [List.getElem_toArray, List.getElem_cons_succ, List.getElem_cons_zero, Act.put, List.setIfInBounds_toArray, List.set_cons_zero, List.set_cons_succ]
            rw [← HF1.out, ← HL1.out] at ho3
            obtain ⟨oa, oc, rfl⟩ := own_shape ho3
            have y6 := (hb3.block (w.heap.size + 1 + 1) (by omega)).trans ((hA4.block _ (lt_of_block HXX.out)).trans HXX.out)
            have hc6 := cell_of_row f3 (w.heap.size + 1 + 1) 1 _ _ _ y6
            have hf6 := frozen_of_row f3 (w.heap.size + 1 + 1) 1 _ _ y6
            simp only [List.getElem?_toArray, List.getElem?_cons_zero, List.getElem?_cons_succ] at hc6
            refine Tail.skip rfl rfl (exec_store_one 22 (.tmp 44) (.tmp 43) rfl rfl rfl hc6 hf6 (by kernel_rfl)) ((hS4.trans hBut).trans (But.setCell _ _ (.inl rfl))) (Tail.done (NoPanic.normal ?_))
            simp only [List.getElem_toArray, List.getElem_cons_succ, List.getElem_cons_zero, Act.put, List.setIfInBounds_toArray, List.set_cons_zero, List.set_cons_succ]
            obtain ⟨L1, hL1⟩ : ∃ L1, L1 = (woP cs nums (q + 1)).length := ⟨_, rfl⟩
            rw [← hL1] at ho3 ⊢
            have hx5 := (hb3.block w.heap.size (by omega)).trans ((hA4.block _ (lt_of_block HX.out)).trans HX.out)
            have hr5 := (hb3.block (w.heap.size + 1) (by omega)).trans ((hA4.block _ (lt_of_block HR.out)).trans HR.out)
            have u1 := (heap_setCell_other f3 ⟨w.heap.size + 1 + 1, 1, none⟩ w.heap.size (.slice oa L1 oc) (by show w.heap.size ≠ w.heap.size + 1 + 1; omega)).trans hx5
            have u2 := (heap_setCell_other f3 ⟨w.heap.size + 1 + 1, 1, none⟩ (w.heap.size + 1) (.slice oa L1 oc) (by show w.heap.size + 1 ≠ w.heap.size + 1 + 1; omega)).trans hr5
            have u3 := heap_setCell_same f3 (w.heap.size + 1 + 1) 1 _ 24 (.slice oa L1 oc) y6
            have u4 := row_but ho3 (b := w.heap.size + 1 + 1) (fun e => by have := (own_lt ho3 e).1; omega) (fun k hk => heap_setCell_other f3 ⟨w.heap.size + 1 + 1, 1, none⟩ k (.slice oa L1 oc) hk)
            have u5 := (((below_to HB.out hA4).trans (hb3.mono (by omega)) : Below w.heap.size w f3)).setCell (p := ⟨w.heap.size + 1 + 1, 1, none⟩) (by show w.heap.size ≤ w.heap.size + 1 + 1; omega) (.slice oa L1 oc)
            simp only [List.setIfInBounds_toArray, List.set_cons_zero, List.set_cons_succ] at u3
            have HX5 := Lib.hid u1
            have HR5 := Lib.hid u2
            have HXX5 := Lib.hid u3
            have HO5 := Lib.hid u4
            have HB5 := Lib.hid u5
            have HLL := Lib.hid hL1
            clear u1 u2 u3 u4 u5 hx5 hr5 y6 hc6 hf6 ho3 hb3 hg3 hr3 hBut hA1 hA4 hj1 hj2 hj3 hj4 hj5 ho4 he2 he4 hS4 hL1 HX HR HXX HO HB HCC
            generalize World.setCell f3 _ _ = W6 at *
            go_wp2_with fail
            go_roundw
            case rel => exact ⟨q + 1, oa, oc, by omega, by simp, HX5, HR5, by rw [← HLL.out]; exact HXX5, by rw [← HLL.out]; exact HO5, HB5⟩
            case measure => simp [intOf] <;> omega
    · obtain rfl : q = cs.length := by omega
      obtain ⟨L, hL⟩ : ∃ L, L = woP cs nums cs.length := ⟨_, rfl⟩
      rw [← hL] at HXX HO
      have HLL := Lib.hid hL
      clear hL
      have d0 := cell_of_row wr (w.heap.size + 1 + 1) 0 _ _ _ HXX.out
      have d1 := cell_of_row wr (w.heap.size + 1 + 1) 1 _ _ _ HXX.out
      simp only [List.getElem?_toArray, List.getElem?_cons_zero, List.getElem?_cons_succ] at d0 d1
      have l2 := lt_of_block HXX.out
      go_wp2_with (first
        | (refine wpList_store_mid rfl 24 (.tmp 4) (.tmp 45) rfl (w.heap.size + 1) 0 #[.int .i64 n, .slice sa L.length sc] rfl rfl (there_block HR.out (by simp)) (by kernel_rfl) (by simp [Value.oneCell']) ?_
           have hot := (put_cells (w.heap.size + 1) 0 [.int .i64 n, .slice sa L.length sc] wr).other
           have hbe := (put_cells (w.heap.size + 1) 0 [.int .i64 n, .slice sa L.length sc] wr).below HB.out (by omega)
           have y0 := set_pair (x := .int .i64 n) (y := .slice sa L.length sc) HR.out
           have y1 := row_but HO.out (b := w.heap.size + 1) (fun e => by have := (own_lt HO.out e).1; omega) hot
           have HB9 := Lib.hid hbe
           have HR9 := Lib.hid y0
           have HO9 := Lib.hid y1
           clear hot y0 y1 hbe d0 d1 l1 l2 c1 HX HR HXX HO HB
           simp only [Array.toList] at HR9 HB9 HO9 ⊢
           generalize World.setCells wr _ _ _ = W9 at *
           skip)
        | fail)
      have e0 := cell_of_row W9 (w.heap.size + 1) 0 _ _ _ HR9.out
      have e1 := cell_of_row W9 (w.heap.size + 1) 1 _ _ _ HR9.out
      simp only [List.getElem?_toArray, List.getElem?_cons_zero, List.getElem?_cons_succ] at e0 e1
      go_wp2
      refine bodyPost_ret (v := .agg #[.int .i64 n, .slice sa L.length sc]) ?_ rfl ⟨⟨_, rfl, by rw [← HLL.out]; exact ownsRow_mono (by omega) HO9.out⟩, HB9.out⟩
      simp [results, Try.results45, go_sem, e0, e1]
end Go.Proofs.Ytplmlmmjfkbabaa
