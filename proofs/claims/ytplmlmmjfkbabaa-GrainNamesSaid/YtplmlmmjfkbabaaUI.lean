/- A chain that tells the end of a picture's range is found: a contract. Condition: an album that is possible. -/
import Derived.Test.YtplmlmmjfkbabaaUH
namespace Go.Proofs.Ytplmlmmjfkbabaa
open Go.RowKit Go.Shelf
attribute [local irreducible] arrV wpQuiet mat shl

theorem bits_none : (#[Value.bool false, .bool false, .bool false, .bool false, .bool false, .bool false, .bool false, .bool false, .bool false] : Array Value) = bits9 fun _ => false := by rfl
theorem measL {c c' a a' : Nat} (h : (c' = c ∧ a' + 1 = a) ∨ (c' = c + 1 ∧ a' ≤ a + 8)) (h9 : c' ≤ 9) : (9 - c') * 10 + a' < (9 - c) * 10 + a := by omega
set_option maxRecDepth 100000 in
set_option maxHeartbeats 8000000 in
theorem chain_any (n : Int) (v : Value) (cs : List Cm) (d : Dm) (p : Int) (hi : Bool) (w : World) (hA : AlbOk n cs) (hV : CmsV w.heap.size w v cs) (hd : Mid d) (hC : Canon cs d) (hp : 0 ≤ p ∧ p < n) :
    Calls Try.prog 62 #[.agg (shl n v d), .int .i64 p, .func (.func (endF hi)) #[] #[]] w fun e w' => (∃ r, ∃ ch : List Int, e = .returned r ∧ w'.ownsRow w.heap.size 3 1 r ch.length (ch.map iV) ∧ (∃ q, tellR cs ch.reverse p = some q ∧ enR hi q = eD d hi p) ∧ ch.length ≤ 8) ∧ Below w.heap.size w w' := by
  have HTI := Lib.hid fun w' (h : Below w.heap.size w w') => tight_any n v cs d hi w' hA ((hV.same (.below (Nat.le_refl _) h)).up h.size) hd
  have HBG := Lib.hid fun f (hf : -1 ≤ f ∧ f < 8) w => begins_any n v d f hi w hf hd
  have HPL := Lib.hid fun f (hf : -1 ≤ f ∧ f < 8) w => place_any f w (by omega)
  have HOK := Lib.hid hA
  have HCN := Lib.hid hC
  have HPB := Lib.hid hp
  have HK0 := Lib.hid (heap_alloc_new w (.cells (shl n v d) 85))
  have HB := Lib.hid (box_below w (.cells (shl n v d) 85))
  have hn8 := hA.n8
  clear hA hd hC hV
  go_enter Try.func62, Try.ntmps62
  go_wp2_with fail
  refine wp_scope_straight ?_
  go_wp2_with (first
    | (refine wpList_load_sh rfl (.tmp 3) rfl w.heap.size rfl 85 n v d HK0.out ?_)
    | fail)
  generalize World.alloc w _ = u0 at *
  refine (HTI.out u0 HB.out).mono ?_
  rintro e u1 ⟨⟨bm, E, rfl, hbm, hme, htm⟩, hb⟩
  have hz0 := lt_of_block HK0.out
  replace HK0 := Lib.hid ((hb.block _ (lt_of_block HK0.out)).trans HK0.out)
  have HME := Lib.hid hme
  have HTM := Lib.hid htm.tmap
  replace HB := Lib.hid (below_to HB.out hb)
  clear hb hme htm HTI
  go_wp2_with fail
  refine wp_label ?_
  have hx2 := box2 u1 (.cells #[.int .i64 p, .slice none 0 0] 126) (.cells #[.bool false, .bool false, .bool false, .bool false, .bool false, .bool false, .bool false, .bool false, .bool false] 128)
  have hbx := below2 u1 (.cells #[.int .i64 p, .slice none 0 0] 126) (.cells #[.bool false, .bool false, .bool false, .bool false, .bool false, .bool false, .bool false, .bool false, .bool false] 128)
  have hwz : w.heap.size ≤ u1.heap.size := HB.out.size
  have HQ : Hid (Qu ((u1.alloc (.cells #[.int .i64 p, .slice none 0 0] 126)).alloc (.cells #[.bool false, .bool false, .bool false, .bool false, .bool false, .bool false, .bool false, .bool false, .bool false] 128)) w.heap.size (.slice (some ⟨u1.heap.size, 0, none⟩) 1 1) [(p, .slice none 0 0)]) := Lib.hid ⟨u1.heap.size, 0, 1, _, rfl, hwz, hx2.1, by simp, by simp [maxLen], by simp, by simp [flatQ]⟩
  have H9 : Hid (((u1.alloc (.cells #[.int .i64 p, .slice none 0 0] 126)).alloc (.cells #[.bool false, .bool false, .bool false, .bool false, .bool false, .bool false, .bool false, .bool false, .bool false] 128)).heap[u1.heap.size + 1]? = some (.cells (bits9 fun _ => false) 128 (0, 0))) := Lib.hid (by rw [← bits_none]; exact hx2.2)
  replace HME := Lib.hid (HME.out.block (hbx.block _ HME.out.lt))
  replace HK0 := Lib.hid ((hbx.block _ (lt_of_block HK0.out)).trans HK0.out)
  replace HB := Lib.hid (below_to HB.out hbx)
  clear hbx hx2
  have HTL : Hid (Trails n cs d hi p w.heap.size ((u1.alloc (.cells #[.int .i64 p, .slice none 0 0] 126)).alloc (.cells #[.bool false, .bool false, .bool false, .bool false, .bool false, .bool false, .bool false, .bool false, .bool false] 128)) [(p, .slice none 0 0)] (cardR fun _ => false)) := Lib.hid fun t ht => by
    obtain rfl := List.mem_singleton.1 ht
    exact ⟨[], World.ownsRow_nil _ _ _ _, leads_nil _ _ _ _, Nat.zero_le _, by have := HPB.out; show -1 ≤ p; omega, HPB.out.2⟩
  have HCP : Hid (ChP cs d hi p ([((p, .slice none 0 0) : Trl)].map (·.1)) fun _ => false) := Lib.hid (ChP.start cs d hi p)
  generalize World.alloc _ (.cells #[.bool false, .bool false, .bool false, .bool false, .bool false, .bool false, .bool false, .bool false, .bool false] 128) = u2 at *
  obtain ⟨b9, hb9⟩ : ∃ b, b = u1.heap.size + 1 := ⟨_, rfl⟩
  rw [← hb9] at H9 ⊢
  have hb9w : w.heap.size < b9 := by omega
  clear hb9 hwz
  go_wp2_with fail
  go_loopw [8, 10] (fun x y wr => ∃ (l : List Trl) (R : Nat → Bool), y = .slice none 0 0 ∧ Hid (Qu wr w.heap.size x l) ∧ Hid (Trails n cs d hi p w.heap.size wr l (cardR R)) ∧ Hid (ChP cs d hi p (l.map (·.1)) R) ∧ Hid (l.length ≤ 9 * cardR R + 1) ∧ Hid (wr.heap[b9]? = some (.cells (bits9 R) 128 (0, 0))) ∧ Hid (MapE wr bm E) ∧ Hid (wr.heap[w.heap.size]? = some (.cells (shl n v d) 85 (0, 0))) ∧ Hid (Below w.heap.size w wr)) (fun x _ wr => (9 - cntB wr b9) * 10 + lenV x)
  case atStart => exact ⟨_, _, rfl, HQ, HTL, HCP, Lib.hid (by simp), H9, HME, HK0, HB⟩
  case round =>
    clear HQ HTL HCP H9 HME HK0 HB hz0
    obtain ⟨l, R, rfl, HQ, HTL, HCP, HLN, H9, HME, HK0, HB⟩ := hrel
    generalize wr = ws at *
    cases l with
    | nil => exact (HCP.out.none HOK.out HCN.out (by have := HPB.out; unfold pl; omega)).elim
    | cons t rest =>
      obtain ⟨f, cv⟩ := t
      obtain ⟨ch, hown, hlead, hlen, hf1, hfn⟩ := HTL.out (f, cv) (by simp)
      simp only at hown hlead hf1 hfn
      obtain ⟨ca, cc, rfl⟩ := own_shape hown
      obtain ⟨gq, oq, oq', capq, rfl, hcap, ho', hbg, hgl, q0, q1, hqr⟩ := HQ.out.head
      simp only at q0 q1
      have HQR := Lib.hid hqr
      have HCO := Lib.hid hown
      have HLD := Lib.hid hlead
      have HTR := Lib.hid (HTL.out.sub (m := rest) (fun t ht => by simp [ht]) (Nat.le_refl _))
      clear HQ HTL hown hlead hqr
      have hbx := box_below ws (.cells #[.int .i64 f, .slice ca ch.length cc] 126)
      have H11 := Lib.hid (heap_alloc_new ws (.cells #[.int .i64 f, .slice ca ch.length cc] 126))
      have hz9 := lt_of_block H9.out
      have hmeas : cntB ws b9 = cardR R := cnt_bits H9.out
      replace HME := Lib.hid (HME.out.block (hbx.block _ HME.out.lt))
      replace HQR := Lib.hid (HQR.out.below hbx)
      replace HTR := Lib.hid (HTR.out.below hbx)
      replace HK0 := Lib.hid ((hbx.block _ (lt_of_block HK0.out)).trans HK0.out)
      replace HB := Lib.hid (below_to HB.out hbx)
      replace H9 := Lib.hid ((hbx.block _ (lt_of_block H9.out)).trans H9.out)
      replace HCO := Lib.hid (own_same HCO.out (fun g _ hg => hbx.block g hg))
      clear hbx
      have hposR : (0 : Int) < (rest.length + 1 : Nat) := by omega
      have hposR2 : (0 : Int) < (rest.length : Int) + 1 := by omega
      go_wp2_with (first
        | (refine wpList_slice_q rfl (.tmp 28) rfl gq oq (rest.length + 1) (capq + 1) rfl (by omega) (by omega) oq' ho' ?_
           simp only [Nat.add_sub_cancel])
        | (refine wpList_load_sh rfl (.tmp 3) rfl w.heap.size rfl 85 n v d HK0.out ?_)
        | fail)
      generalize World.alloc ws _ = v0 at *
      refine (HBG.out f ⟨hf1, by omega⟩ v0).mono ?_
      rintro e u1 ⟨rfl, hb⟩
      replace HME := Lib.hid (HME.out.block (hb.block _ HME.out.lt))
      replace HQR := Lib.hid (HQR.out.below hb)
      replace HTR := Lib.hid (HTR.out.below hb)
      replace HK0 := Lib.hid ((hb.block _ (lt_of_block HK0.out)).trans HK0.out)
      replace HB := Lib.hid (below_to HB.out hb)
      replace H9 := Lib.hid ((hb.block _ (lt_of_block H9.out)).trans H9.out)
      replace HCO := Lib.hid (own_same HCO.out (fun g _ hg => hb.block g hg))
      replace H11 := Lib.hid ((hb.block _ (lt_of_block H11.out)).trans H11.out)
      clear hb
      cases hbe : begB d hi f with
      | true =>
        have hbo : BegO d hi f := of_decide_eq_true hbe
        have c0 := cell_of_row u1 ws.heap.size 0 _ _ _ H11.out
        have c1 := cell_of_row u1 ws.heap.size 1 _ _ _ H11.out
        simp only [List.getElem?_toArray, List.getElem?_cons_zero, List.getElem?_cons_succ] at c0 c1
        have lc := lt_of_block H11.out
        go_wp2_with fail
        unfold Exit.noGoto
        dsimp only
        go_ret
        exact ⟨⟨_, ch, rfl, HCO.out, leads_tells HCN.out hbo HLD.out, Nat.le_trans hlen (card_eight HCP.out.r0)⟩, HB.out⟩
      | false =>
        have hbo : ¬ BegO d hi f := of_decide_eq_false hbe
        have c0 := cell_of_row u1 ws.heap.size 0 _ _ _ H11.out
        have c1 := cell_of_row u1 ws.heap.size 1 _ _ _ H11.out
        simp only [List.getElem?_toArray, List.getElem?_cons_zero, List.getElem?_cons_succ] at c0 c1
        have lc := lt_of_block H11.out
        go_wp2_with fail
        clear c0 c1 lc
        refine (HPL.out f ⟨hf1, by omega⟩ u1).mono ?_
        rintro e u2 ⟨rfl, hb⟩
        replace HME := Lib.hid (HME.out.block (hb.block _ HME.out.lt))
        replace HQR := Lib.hid (HQR.out.below hb)
        replace HTR := Lib.hid (HTR.out.below hb)
        replace HK0 := Lib.hid ((hb.block _ (lt_of_block HK0.out)).trans HK0.out)
        replace HB := Lib.hid (below_to HB.out hb)
        replace H9 := Lib.hid ((hb.block _ (lt_of_block H9.out)).trans H9.out)
        replace HCO := Lib.hid (own_same HCO.out (fun g _ hg => hb.block g hg))
        replace H11 := Lib.hid ((hb.block _ (lt_of_block H11.out)).trans H11.out)
        clear hb
        have hx9 : pl f < 9 := by unfold pl; omega
        obtain ⟨X, hX⟩ : ∃ X, pl f = X := ⟨_, rfl⟩
        have HXE := Lib.hid hX
        rw [hX] at hx9 ⊢
        clear hX
        have hx9i : (X : Int) < 9 := by omega
        obtain ⟨rx, hrx⟩ : ∃ rx, R X = rx := ⟨_, rfl⟩
        have d9 := (cell_of_row u2 b9 X _ _ _ H9.out).trans (bits_get R hx9)
        have f9 := frozen_of_row u2 b9 X _ _ H9.out
        have l9 := lt_of_block H9.out
        rw [hrx] at d9
        cases rx with
        | true =>
          go_wp2_with fail
          go_roundw
          case rel => exact ⟨rest, R, rfl, HQR, HTR, Lib.hid (HCP.out.skip (by rw [HXE.out]; exact hrx)), Lib.hid (by have := HLN.out; simp only [List.length_cons] at this; omega), H9, HME, HK0, HB⟩
          case measure =>
            rw [cnt_bits H9.out, hmeas]
            exact measL (.inl ⟨rfl, rfl⟩) (card_le R)
        | false =>
          have c0 := cell_of_row u2 ws.heap.size 0 _ _ _ H11.out
          have c1 := cell_of_row u2 ws.heap.size 1 _ _ _ H11.out
          simp only [List.getElem?_toArray, List.getElem?_cons_zero, List.getElem?_cons_succ] at c0 c1
          have lc := lt_of_block H11.out
          go_wp2_with fail
          clear d9 f9 l9
          clear c0 c1 lc
          refine (HPL.out f ⟨hf1, by omega⟩ u2).mono ?_
          rintro e u3 ⟨rfl, hb⟩
          replace HME := Lib.hid (HME.out.block (hb.block _ HME.out.lt))
          replace HQR := Lib.hid (HQR.out.below hb)
          replace HTR := Lib.hid (HTR.out.below hb)
          replace HK0 := Lib.hid ((hb.block _ (lt_of_block HK0.out)).trans HK0.out)
          replace HB := Lib.hid (below_to HB.out hb)
          replace H9 := Lib.hid ((hb.block _ (lt_of_block H9.out)).trans H9.out)
          replace HCO := Lib.hid (own_same HCO.out (fun g _ hg => hb.block g hg))
          replace H11 := Lib.hid ((hb.block _ (lt_of_block H11.out)).trans H11.out)
          clear hb
          rw [HXE.out]
          have d9 := (cell_of_row u3 b9 X _ _ _ H9.out).trans (bits_get R hx9)
          have f9 := frozen_of_row u3 b9 X _ _ H9.out
          have l9 := lt_of_block H9.out
          rw [hrx] at d9
          go_wp2_with fail
          clear d9 f9 l9
          obtain ⟨y0, hy0⟩ : ∃ y0, u3.setCell ⟨b9, X, none⟩ (.bool true) = y0 := ⟨_, rfl⟩
          rw [hy0]
          have hoth : ∀ k, k ≠ b9 → y0.heap[k]? = u3.heap[k]? := fun k hk => by rw [← hy0]; exact heap_setCell_other u3 ⟨b9, X, none⟩ k _ hk
          have J9 : Hid (y0.heap[b9]? = some (.cells (bits9 (withR R X)) 128 (0, 0))) := Lib.hid (by
            rw [← hy0, ← bits_set R hx9]
            exact heap_setCell_same u3 b9 X _ 128 (.bool true) H9.out)
          have JB : Hid (Below w.heap.size w y0) := Lib.hid (by rw [← hy0]; exact HB.out.setCell (p := ⟨b9, X, none⟩) (by show w.heap.size ≤ b9; omega) _)
          have htag : ∀ (k : Nat) (c : Array Value) (t : TypeId), u3.heap[k]? = some (Obj.cells c t (0, 0)) → t ≠ 128 → k ≠ b9 := fun k c t h1 h2 e => by
            rw [e, H9.out] at h1
            cases h1
            exact h2 rfl
          have JK0 := Lib.hid ((hoth _ (htag _ _ _ HK0.out (by decide))).trans HK0.out)
          have J11 := Lib.hid ((hoth _ (htag _ _ _ H11.out (by decide))).trans H11.out)
          have JME : Hid (MapE y0 bm E) := Lib.hid (HME.out.block (hoth _ fun e => by
            obtain ⟨es, ck, h1, -⟩ := HME.out
            rw [e, H9.out] at h1
            cases h1))
          have JQ : Hid (Qu y0 w.heap.size (.slice (some ⟨gq, oq', none⟩) rest.length capq) rest) := Lib.hid (HQR.out.block fun k hk _ => hoth k (by
            obtain ⟨c, e⟩ := qu_tag HQR.out hk
            exact htag _ _ _ e (by decide)))
          have JT : Hid (Trails n cs d hi p w.heap.size y0 rest (cardR R)) := Lib.hid (HTR.out.same fun k c e => hoth k (htag _ _ _ e (by decide)))
          have JCO : Hid (y0.ownsRow w.heap.size 3 1 (.slice ca ch.length cc) ch.length (ch.map iV)) := Lib.hid (own_block_same HCO.out fun k hk => hoth k (by
            obtain ⟨c, e⟩ := own_tag HCO.out hk
            exact htag _ _ _ e (by decide)))
          have hcd : cardR (withR R X) = cardR R + 1 := card_add hx9 hrx
          replace JT := Lib.hid (JT.out.sub (k' := cardR (withR R X)) (fun t ht => ht) (by omega))
          have hgne : gq ≠ ws.heap.size := by omega
          clear hoth htag H9 HB HK0 H11 HME HQR HTR HCO hy0 hrx
          go_loopw [8, 48] (fun x i w2 => ∃ (k : Nat) (l' : List Trl), k ≤ 9 ∧ i = .int .i64 k ∧ Hid (Qu w2 w.heap.size x l') ∧ Hid (x.ownBlock ≠ some ws.heap.size) ∧ Hid (Trails n cs d hi p w.heap.size w2 l' (cardR (withR R X))) ∧ Hid (∀ y, y ∈ rest.map (·.1) → y ∈ l'.map (·.1)) ∧ Hid (∀ i : Nat, i < cs.length → ∀ b, b ∈ bdsL (cm cs i) → TightB d hi b → b.t = f → pl b.f < k → b.f ∈ l'.map (·.1)) ∧ Hid (l'.length ≤ rest.length + k) ∧
            Hid (w2.heap[b9]? = some (.cells (bits9 (withR R X)) 128 (0, 0))) ∧ Hid (MapE w2 bm E) ∧ Hid (w2.heap[w.heap.size]? = some (.cells (shl n v d) 85 (0, 0))) ∧ Hid (w2.heap[ws.heap.size]? = some (.cells #[.int .i64 f, .slice ca ch.length cc] 126)) ∧ Hid (w2.ownsRow w.heap.size 3 1 (.slice ca ch.length cc) ch.length (ch.map iV)) ∧ Hid (Below w.heap.size w w2)) (fun _ i _ => 9 - (intOf i).toNat)
          case atStart => exact ⟨0, rest, Nat.zero_le _, rfl, JQ, Lib.hid (fun e => hgne (by simpa [Value.ownBlock] using e)), JT, Lib.hid (fun y hy => hy), Lib.hid (fun i _ b _ _ _ h => absurd h (Nat.not_lt_zero _)), Lib.hid (Nat.le_refl _), J9, JME, JK0, J11, JCO, JB⟩
          case round =>
            clear JQ JT J9 JME JK0 J11 JCO JB
            generalize wr = wp at *
            obtain ⟨k, l', hk, rfl, JQ, JN, JT, JS, JD, JL, J9, JME, JK0, J11, JCO, JB⟩ := hrel
            by_cases hk9 : k < 9
            · have hk9i : (k : Int) < 9 := by omega
              have hwk : IntKind.i64.wrap ((k : Int) + 1) = (k : Int) + 1 := IntWalk.i64_in _ (by omega)
              obtain ⟨fr, hfr⟩ : ∃ fr : Int, fr = (k : Int) - 1 := ⟨_, rfl⟩
              have hwf : IntKind.i64.wrap ((k : Int) + -1) = fr := by rw [IntWalk.i64_in _ (by omega)]; omega
              have HFR := Lib.hid hfr
              clear hfr
              have c0 := cell_of_row wp ws.heap.size 0 _ _ _ J11.out
              have c1 := cell_of_row wp ws.heap.size 1 _ _ _ J11.out
              simp only [List.getElem?_toArray, List.getElem?_cons_zero, List.getElem?_cons_succ] at c0 c1
              have lc := lt_of_block J11.out
              cases hfe : findE (fr, f) E with
              | none =>
                have hfe2 : (none : Option Int).getD 0 = 0 := rfl
                go_wp2_with (first
                  | (refine wpList_look rfl (.tmp 54) (.tmp 58) rfl bm E rfl JME.out (fr, f) rfl none hfe ?_)
                  | fail)
                go_roundw
                case rel =>
                  refine ⟨k + 1, l', by omega, by simp, JQ, JN, JT, JS, Lib.hid fun i hi' b hb ht hbt hlt => ?_, Lib.hid (by have := JL.out; omega), J9, JME, JK0, J11, JCO, JB⟩
                  by_cases hlk : pl b.f < k
                  · exact JD.out i hi' b hb ht hbt hlk
                  · have hc := HOK.out.cm _ (cm_mem hi')
                    have h1 := hc.l0; have h2 := hc.r0
                    have hbf : b.f = fr := by
                      have h3 : -1 ≤ b.f := by
                        rcases mem_bds.1 hb with rfl | rfl
                        · exact h2
                        · show -1 ≤ (cm cs i).l
                          omega
                      have := HFR.out
                      unfold pl at hlt hlk
                      omega
                    have := HTM.out.all i hi' b hb ht
                    simp only [hbf, hbt, hfe] at this
                    cases this
                case measure => simp [intOf]; omega
              | some num =>
                obtain ⟨i0, rfl, hi0, b0, hb0, hbf, hbt, hbT⟩ := HTM.out.says fr f num hfe
                have hsl := HOK.out.cm _ (cm_mem hi0)
                have hfr1 : -1 ≤ fr ∧ fr < n := by
                  have h1 := hsl.l0; have h2 := hsl.ln; have h3 := hsl.r0; have h4 := hsl.rn
                  rw [← hbf]
                  rcases mem_bds.1 hb0 with rfl | rfl
                  · exact ⟨h3, h4⟩
                  · exact ⟨by show -1 ≤ (cm cs i0).l; omega, h2⟩
                have hlead2 : LeadsC cs d hi ((i0 : Int) :: ch) fr p := by
                  rw [← hbf]
                  exact leads_step HOK.out HCN.out hi0 hb0 hbT (by rw [hbt]; exact fun e => hbo (.inl e)) (by rw [hbt]; unfold pl; omega) (by rw [hbt]; exact HLD.out)
                have HLD2 := Lib.hid hlead2
                have HSL : Hid (ch.length ≤ cardR R) := Lib.hid hlen
                clear hsl hlead2 hbT hb0 hbf hbt b0
                have hx2 := box2 wp (.cells #[.int .i64 i0] 3) (.cells #[.slice (some ⟨wp.heap.size, 0, none⟩) 1 1, .slice ca ch.length cc] 50)
                have hbx := below2 wp (.cells #[.int .i64 i0] 3) (.cells #[.slice (some ⟨wp.heap.size, 0, none⟩) 1 1, .slice ca ch.length cc] 50)
                have HNX := Lib.hid hx2.1
                have HNY := Lib.hid hx2.2
                have JMO := JME
                have hlt11 : ws.heap.size < wp.heap.size := lt_of_block J11.out
                replace JQ := Lib.hid (JQ.out.below hbx)
                replace JT := Lib.hid (JT.out.below hbx)
                replace JME := Lib.hid (JME.out.block (hbx.block _ JME.out.lt))
                replace J9 := Lib.hid ((hbx.block _ (lt_of_block J9.out)).trans J9.out)
                replace JK0 := Lib.hid ((hbx.block _ (lt_of_block JK0.out)).trans JK0.out)
                replace J11 := Lib.hid ((hbx.block _ (lt_of_block J11.out)).trans J11.out)
                replace JCO := Lib.hid (own_same JCO.out (fun g _ hg => hbx.block g hg))
                replace JB := Lib.hid (below_to JB.out hbx)
                clear hbx hx2
                go_wp2_with (first
                  | (refine wpList_look rfl (.tmp 54) (.tmp 58) rfl bm E rfl (by exact JMO.out) (fr, f) rfl (some (i0 : Int)) hfe ?_)
                  | fail)
                generalize World.alloc (World.alloc wp _) _ = wy at *
                have JBS := Lib.hid JB.out.size
                clear JMO
                have hi1 : IntsV wy.heap.size wy (.slice (some ⟨wp.heap.size, 0, none⟩) 1 1) [(i0 : Int)] := ⟨_, _, rfl, fun _ => ⟨wp.heap.size, 0, rfl, lt_of_block HNX.out, fun i hi => by
                  obtain rfl : i = 0 := by simp at hi; omega
                  exact cell_of_row wy wp.heap.size 0 _ _ _ HNX.out⟩⟩
                have hi2 : IntsV wy.heap.size wy (.slice ca ch.length cc) ch := own_ints (l := ch) JCO.out
                have hc8 : ch.length ≤ 9 := Nat.le_trans hlen (card_le R)
                have hcc := concat_any (wp.heap.size + 1) _ _ [(i0 : Int)] ch wy HNY.out hi1 hi2 (by simp) (by simp; omega)
                refine (hcc).mono ?_
                rintro e wz ⟨⟨r3, rfl, ho⟩, hb⟩
                replace JQ := Lib.hid (JQ.out.below hb)
                replace JT := Lib.hid (JT.out.below hb)
                replace JME := Lib.hid (JME.out.block (hb.block _ JME.out.lt))
                replace J9 := Lib.hid ((hb.block _ (lt_of_block J9.out)).trans J9.out)
                replace JK0 := Lib.hid ((hb.block _ (lt_of_block JK0.out)).trans JK0.out)
                replace J11 := Lib.hid ((hb.block _ (lt_of_block J11.out)).trans J11.out)
                replace JCO := Lib.hid (own_same JCO.out (fun g _ hg => hb.block g hg))
                replace JB := Lib.hid (below_to JB.out hb)
                clear hb
                clear hcc hi1 hi2 HNX HNY
                have hlc : [(i0 : Int)].length + ch.length = ((i0 : Int) :: ch).length := by simp; omega
                rw [hlc] at ho
                obtain ⟨ra, rc, rfl⟩ := own_shape ho
                have HRO := Lib.hid (ownsRow_mono (show w.heap.size ≤ wy.heap.size by exact JBS.out) ho)
                clear ho
                have hbx := box_below wz (.cells #[.int .i64 fr, .slice ra ((i0 : Int) :: ch).length rc] 126)
                have HNZ := Lib.hid (heap_alloc_new wz (.cells #[.int .i64 fr, .slice ra ((i0 : Int) :: ch).length rc] 126))
                have hzz : ws.heap.size < wz.heap.size := lt_of_block J11.out
                replace JQ := Lib.hid (JQ.out.below hbx)
                replace JT := Lib.hid (JT.out.below hbx)
                replace JME := Lib.hid (JME.out.block (hbx.block _ JME.out.lt))
                replace J9 := Lib.hid ((hbx.block _ (lt_of_block J9.out)).trans J9.out)
                replace JK0 := Lib.hid ((hbx.block _ (lt_of_block JK0.out)).trans JK0.out)
                replace J11 := Lib.hid ((hbx.block _ (lt_of_block J11.out)).trans J11.out)
                replace JCO := Lib.hid (own_same JCO.out (fun g _ hg => hbx.block g hg))
                replace JB := Lib.hid (below_to JB.out hbx)
                replace HRO := Lib.hid (own_same HRO.out (fun g _ hg => hbx.block g hg))
                clear hbx
                have hl9 : l'.length ≤ 1000 := by
                  have h1 := JL.out; have h2 := HLN.out; have h3 := card_le R
                  simp only [List.length_cons] at h2
                  omega
                have hbsz : w.heap.size ≤ (World.alloc wz (.cells #[.int .i64 fr, .slice ra ((i0 : Int) :: ch).length rc] 126)).heap.size := JB.out.size
                go_wp2_with (first
                  | (refine wpList_append_q rfl (.tmp 63) (.tmp 72) rfl w.heap.size _ l' (fr, .slice ra ((i0 : Int) :: ch).length rc) wz.heap.size rfl rfl JQ.out hbsz hl9 rfl (cell_of_row _ wz.heap.size 0 _ _ _ HNZ.out) (cell_of_row _ wz.heap.size 1 _ _ _ HNZ.out) ?_
                     intro v9 w9 hq9 hgr9 hob9
                     have HQ9 := Lib.hid hq9
                     have HGR9 := Lib.hid hgr9
                     have HOB9 := Lib.hid hob9
                     clear hq9 hgr9 hob9)
                  | fail)
                generalize World.alloc wz _ = wq at *
                have htag : ∀ (j : Nat) (c : Array Value) (t : TypeId), wq.heap[j]? = some (Obj.cells c t (0, 0)) → t ≠ 126 → some j ≠ Value.ownBlock u8 := fun j c t h1 h2 e => by
                  obtain ⟨c2, e2⟩ := qu_tag JQ.out e.symm
                  rw [h1] at e2
                  cases e2
                  exact h2 rfl
                have hG := HGR9.out
                have M9 := Lib.hid ((hG.block _ (lt_of_block J9.out) (htag _ _ _ J9.out (by decide))).trans J9.out)
                have MK0 := Lib.hid ((hG.block _ (lt_of_block JK0.out) (htag _ _ _ JK0.out (by decide))).trans JK0.out)
                have M11 := Lib.hid ((hG.block _ (lt_of_block J11.out) (fun e => JN.out e.symm)).trans J11.out)
                have MME : Hid (MapE w9 bm E) := Lib.hid (JME.out.block (hG.block _ JME.out.lt fun e => by
                  obtain ⟨c2, e2⟩ := qu_tag JQ.out e.symm
                  obtain ⟨es, ck, h1, -⟩ := JME.out
                  rw [h1] at e2
                  cases e2))
                have MCO : Hid (w9.ownsRow w.heap.size 3 1 (.slice ca ch.length cc) ch.length (ch.map iV)) := Lib.hid (own_block_same JCO.out fun j hj => hG.block j (own_lt JCO.out hj).2 (by
                  obtain ⟨c, e⟩ := own_tag JCO.out hj
                  exact htag _ _ _ e (by decide)))
                have MRO := own_block_same (w' := w9) HRO.out fun j hj => hG.block j (own_lt HRO.out hj).2 (by
                  obtain ⟨c, e⟩ := own_tag HRO.out hj
                  exact htag _ _ _ e (by decide))
                have MT0 := JT.out.grown JQ.out hG
                have MT : Hid (Trails n cs d hi p w.heap.size w9 (l' ++ [(fr, .slice ra ((i0 : Int) :: ch).length rc)]) (cardR (withR R X))) := Lib.hid fun t ht => by
                  rcases List.mem_append.1 ht with h1 | h1
                  · exact MT0 t h1
                  · obtain rfl := List.mem_singleton.1 h1
                    exact ⟨(i0 : Int) :: ch, MRO, HLD2.out, by rw [hcd]; have := HSL.out; simp only [List.length_cons]; omega, hfr1.1, hfr1.2⟩
                have MN : Hid (v9.ownBlock ≠ some ws.heap.size) := Lib.hid fun e => by
                  rcases HOB9.out with h1 | h1
                  · rw [h1] at e
                    exact JN.out e
                  · rw [h1] at e
                    have h2 : wq.heap.size = ws.heap.size := by simpa using e
                    have h3 := lt_of_block J11.out
                    omega
                have MB : Hid (Below w.heap.size w w9) := Lib.hid ⟨hG.os.trans JB.out.os, hG.tape.trans JB.out.tape, hG.output.trans JB.out.output, Nat.le_trans JB.out.size hG.size, fun j hj => (hG.block j (by omega) (fun e => by
                  obtain ⟨g9, o9, c9, cur9, he, hb9, -⟩ := JQ.out
                  rw [he] at e
                  have e2 : j = g9 := Option.some.inj e
                  omega)).trans (JB.out.block j hj)⟩
                clear hG MT0 MRO htag
                go_roundw
                case rel =>
                  refine ⟨k + 1, l' ++ [(fr, .slice ra ((i0 : Int) :: ch).length rc)], by omega, by simp, HQ9, MN, MT, Lib.hid fun y hy => ?_, Lib.hid fun i hi' b hb ht hbt hlt => ?_, Lib.hid (by have := JL.out; rw [List.length_append]; simp; omega), M9, MME, MK0, M11, MCO, MB⟩
                  · rw [List.map_append]
                    exact List.mem_append_left _ (JS.out y hy)
                  · rw [List.map_append]
                    by_cases hlk : pl b.f < k
                    · exact List.mem_append_left _ (JD.out i hi' b hb ht hbt hlk)
                    · refine List.mem_append_right _ ?_
                      have hc := HOK.out.cm _ (cm_mem hi')
                      have h1 := hc.l0; have h2 := hc.r0
                      have hbf : b.f = fr := by
                        have h3 : -1 ≤ b.f := by
                          rcases mem_bds.1 hb with rfl | rfl
                          · exact h2
                          · show -1 ≤ (cm cs i).l
                            omega
                        have := HFR.out
                        unfold pl at hlt hlk
                        omega
                      simp [hbf]
                case measure => simp [intOf]; omega
            · obtain rfl : k = 9 := by omega
              go_wp2_with fail
              go_roundw
              case rel => exact ⟨l', withR R X, rfl, JQ, JT, Lib.hid (by rw [← HXE.out]; exact HCP.out.open HOK.out hf1 hbo JS.out fun i hi' b hb ht hbt => JD.out i hi' b hb ht hbt (by
                  have hc := HOK.out.cm _ (cm_mem hi')
                  have h1 := hc.ln; have h2 := hc.rn; have h3 := hc.l0
                  rcases mem_bds.1 hb with rfl | rfl
                  · show pl (cm cs i).r < 9
                    unfold pl; omega
                  · show pl (cm cs i).l < 9
                    unfold pl; omega)), Lib.hid (by have h1 := HLN.out; have h2 := JL.out; simp only [List.length_cons] at h1; omega), J9, JME, JK0, JB⟩
              case measure =>
                obtain ⟨gx, ox, cx, curx, rfl, -⟩ := JQ.out
                rw [cnt_bits J9.out, hmeas]
                refine measL (.inr ⟨hcd, ?_⟩) (card_le _)
                have := JL.out
                show l'.length ≤ rest.length + 1 + 8
                omega
end Go.Proofs.Ytplmlmmjfkbabaa
