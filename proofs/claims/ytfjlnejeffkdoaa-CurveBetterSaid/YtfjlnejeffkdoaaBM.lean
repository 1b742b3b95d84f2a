/- The law CurveBetter, walked where the curve and the rule are valid; what is called given as contracts. Conditions: a valid curve and rule. -/
import Derived.Test.YtfjlnejeffkdoaaBL
import Derived.Deep.CutRange
import Derived.StillTailTactics
import Derived.BigQuiet
namespace Go.Proofs.Ytfjlnejeffkdoaa
open Go.RowKit Go.Shelf
attribute [local irreducible] arrV wpQuiet

theorem three_forms {w : World} {v0 v1 v2 : Value} {L : Int → List Int} (h0 : ListV w v0 (L 0)) (h1 : ListV w v1 (L 1)) (h2 : ListV w v2 (L 2)) : ∃ (S : Nat → Option Addr) (C : Nat → Nat), v0 = .slice (S 0) (L 0).length (C 0) ∧ v1 = .slice (S 1) (L 1).length (C 1) ∧ v2 = .slice (S 2) (L 2).length (C 2) ∧
    ∀ q : Nat, q < 3 → ∀ w', Below w.heap.size w w' → ListV w' (.slice (S q) (L q).length (C q)) (L q) := by
  obtain ⟨s0, c0, e0, _⟩ := h0.sl
  obtain ⟨s1, c1, e1, _⟩ := h1.sl
  obtain ⟨s2, c2, e2, _⟩ := h2.sl
  refine ⟨fun q => if q = 0 then s0 else if q = 1 then s1 else s2, fun q => if q = 0 then c0 else if q = 1 then c1 else c2, e0, e1, e2, fun q hq w' hb => ?_⟩
  subst e0 e1 e2
  rcases (show q = 0 ∨ q = 1 ∨ q = 2 by omega) with rfl | rfl | rfl
  · exact h0.below hb
  · exact h1.below hb
  · exact h2.below hb

theorem setP_setP (ps : List Pt) (j : Nat) (a b c d : Int) (h : j < ps.length) : setP (setP ps j a b) j c d = setP ps j c d := by
  unfold setP
  rw [List.set_set]
  congr 1
  simp [pt, h]

theorem wpList_append_run {ops : Array Oper} {rest : List Oper} {o : Oper} {a : Act} {Q : Exit → Act → World → Prop} {W W' : World} {v y z : Value} (hgd : o.guard = none) (s x : Operand) (t u ty : TypeId)
    (ho : o.op = .call { callee := .builtin .append, args := #[s, x], argTypes := #[t, u] }) (hs : a.eval s = y) (hx : a.eval x = z) (hty : o.type = ty) (hr : (Builtin.append_ #[t, u] ty #[y, z]).run Try.prog W = .ok v W')
    (h : wpList Try.prog ops Q rest (a.put o.dst v) W') : wpList Try.prog ops Q (o :: rest) a W :=
  wpList_run hgd (exec_append s x ho hs hx (by rw [hty]; exact hr)) h

set_option maxRecDepth 100000 in
set_option maxHeartbeats 4000000 in
theorem better_yes (b off cap : Nat) (ps : List Pt) (r : Rl) (wi l8 h8 : Int) (w : World) (hn : ps.length ≤ 20) (h0 : 0 < ps.length) (hg : goodsB ps 0 = true) (hr : ruleB r = true) (hp : PtsIn w b off ps)
    (hwi : 0 ≤ wi ∧ wi < 256) (hl8 : 0 ≤ l8 ∧ l8 < 256) (hh8 : 0 ≤ h8 ∧ h8 < 256)
    (HR : ∀ W, Below w.heap.size w W → Calls Try.prog 41 #[.agg #[.slice (some ⟨b, off, none⟩) ps.length cap], .agg #[.int .i64 r.d, .int .i64 r.k, .int .i64 r.o]] W fun e w' => e = .returned (.bool true) ∧ Below W.heap.size W w') :
    Calls Try.prog 10 #[.agg #[.slice (some ⟨b, off, none⟩) ps.length cap], .agg #[.int .i64 r.d, .int .i64 r.k, .int .i64 r.o], .int .u8 wi, .int .u8 l8, .int .u8 h8] w fun e w' => e = .returned (.bool true) ∧ Below w.heap.size w w' := by
  have F := sane_of hn h0 hg hr
  have HE : bothE ps r = 0 := by simp [bothE, hg, ruleE, hr]
  have hltb := block_lt_of_cell (hp 0 h0).1
  have hb2 := below2 w (.cells #[.slice (some ⟨b, off, none⟩) ps.length cap] 24) (.cells #[.int .i64 r.d, .int .i64 r.k, .int .i64 r.o] 26)
  obtain ⟨hx1, hx2⟩ := box2 w (.cells #[.slice (some ⟨b, off, none⟩) ps.length cap] 24) (.cells #[.int .i64 r.d, .int .i64 r.k, .int .i64 r.o] 26)
  have HCV := Lib.hid fun W (hb : Below w.heap.size w W) => Curve_any b off cap ps W hn h0 (hp.below hb hltb)
  have HPO := Lib.hid fun (B c : Nat) W (h : PtsIn W B 0 ps) => Points_ok B 0 c ps r W F HE h
  have HSP := Lib.hid fun (B c : Nat) (kd : Int) (hk : kd = 0 ∨ kd = 1 ∨ kd = 2 ∨ kd = 3) W (h : PtsIn W B 0 ps) => Span_kd B 0 c kd ps r W F HE hk h
  have HRR := Lib.hid HR
  have HA := Lib.hid awake_any
  have HH0 := Lib.hid h0
  have HF := Lib.hid F
  have HG := Lib.hid hg
  have HRU := Lib.hid hr
  have HN := Lib.hid hn
  have HP := Lib.hid fun W (hb : Below w.heap.size w W) => hp.below hb hltb
  have HLB := Lib.hid hltb
  clear HR hp hg hr hn F HE hltb
  go_enter Try.func10, Try.ntmps10
  go_wp2_with fail
  generalize World.alloc (World.alloc w _) _ = W1 at *
  refine (HRR.out _ hb2).mono ?_
  rintro e w1 ⟨rfl, hb1⟩
  have HBW := Lib.hid (below_to hb2 hb1)
  have HC : Hid (∀ w', Below w1.heap.size w1 w' → w'.cell? ⟨w.heap.size, 0, none⟩ = some (.slice (some ⟨b, off, none⟩) ps.length cap) ∧ w'.cell? ⟨w.heap.size + 1, 0, none⟩ = some (.int .i64 r.d) ∧ w'.cell? ⟨w.heap.size + 1, 1, none⟩ = some (.int .i64 r.k) ∧ w'.cell? ⟨w.heap.size + 1, 2, none⟩ = some (.int .i64 r.o)) := Lib.hid fun w' h => by
    have z1 := (hb1.block _ (lt_of_block hx1)).trans hx1
    have z2 := (hb1.block _ (lt_of_block hx2)).trans hx2
    have y1 := (h.block _ (lt_of_block z1)).trans z1
    have y2 := (h.block _ (lt_of_block z2)).trans z2
    exact ⟨cell_of_row w' w.heap.size 0 _ _ _ y1, cell_of_row w' (w.heap.size + 1) 0 _ _ _ y2, cell_of_row w' (w.heap.size + 1) 1 _ _ _ y2, cell_of_row w' (w.heap.size + 1) 2 _ _ _ y2⟩
  clear hb1 hb2 hx1 hx2
  clear W1
  have hal := grow_alloc w1 (.cells #[] 84)
  obtain ⟨c0, -⟩ := HC.out (w1.alloc (.cells #[] 84)) hal
  obtain ⟨v4, w4, hrun, hown4, hgr4, hat4⟩ := append_curve (some ⟨b, off, none⟩) ps.length cap 22 ps (w1.alloc (.cells #[] 84)) w1.heap.size w1.heap.size (by have := HN.out; omega) rfl (fun e => by cases e) (fun _ => ⟨b, off, rfl, HP.out _ (below_to HBW.out hal)⟩) hal.size (Nat.le_refl _) (heap_alloc_new w1 _)
  have hS4 : Below w1.heap.size w1 w4 := ⟨hgr4.os.trans hal.os, hgr4.tape.trans hal.tape, hgr4.output.trans hal.output, Nat.le_trans hal.size hgr4.size, fun k hk => (hgr4.block k (Nat.lt_of_lt_of_le hk hal.size) (fun e => by have := Option.some.inj e; omega)).trans (hal.block k hk)⟩
  obtain ⟨g, cx, rfl, hPg, hgb⟩ := pts_own84 hown4 h0
  obtain ⟨cur, hcur, hcn⟩ : ∃ cur, w4.heap[g]? = some (.cells cur 84 (0, 0)) ∧ ps.length * 3 ≤ cur.size := by
    rcases hown4.2 with ⟨hv, _⟩ | ⟨g', cap', cur, hv, _, hg', hn', _, hs', _⟩
    · cases hv
    · simp only [Value.slice.injEq, Option.some.injEq, Addr.mk.injEq] at hv
      obtain ⟨⟨rfl, -⟩, -, rfl⟩ := hv
      exact ⟨cur, hg', by omega⟩
  have HRUN := Lib.hid hrun
  clear hrun hgr4 hat4 hal hown4
  go_wp2_with (first
    | (refine wpList_append_run (v := .slice (some ⟨g, 0, none⟩) ps.length cx) (W' := w4) (y := .slice (some ⟨w1.heap.size, 0, none⟩) 0 0) (z := .slice (some ⟨b, off, none⟩) ps.length cap) rfl (.tmp 35) (.tmp 37) 22 22 22 rfl rfl rfl rfl HRUN.out ?_)
    | fail)
  obtain ⟨bx, hbx⟩ : ∃ bx, w4.heap.size = bx := ⟨_, rfl⟩
  have hal := grow_alloc w4 (.cells #[.slice (some ⟨g, 0, none⟩) ps.length cx] 24)
  have hL0 : Lay w1 bx g ps.length cx ps (w4.alloc (.cells #[.slice (some ⟨g, 0, none⟩) ps.length cx] 24)) :=
    ⟨grow_to hS4 hal, by rw [← hbx]; exact heap_alloc_new w4 _, ⟨cur, (hal.block _ (lt_of_block hcur)).trans hcur, hcn⟩, hPg.below hal (lt_of_block hcur), rfl, hgb, fun e => by have := lt_of_block hcur; omega⟩
  rw [hbx]
  generalize w4.alloc (.cells #[.slice (some ⟨g, 0, none⟩) ps.length cx] 24) = A0 at *
  have HL := Lib.hid hL0
  clear hal hbx hS4 hPg hgb hcur hcn HRUN hL0 c0
  clear w4 cur
  obtain ⟨j, hj, hjn⟩ : ∃ j : Nat, wi.tmod (ps.length : Int) = j ∧ j < ps.length := by
    have h1 := Int.tmod_nonneg (ps.length : Int) hwi.1
    have h2 := Int.tmod_lt_of_pos wi (show 0 < (ps.length : Int) by omega)
    exact ⟨(wi.tmod ps.length).toNat, by omega, by omega⟩
  have hji : (j : Int) < ps.length := by omega
  have hpos : (0 : Int) < ps.length := by omega
  obtain ⟨c0, c1, c2, c3, c4, c5, c6⟩ := HL.out.at_ hjn
  have hwu : 0 ≤ wi := hwi.1
  have hwv : wi < 256 := hwi.2
  go_quiet (fail)
  have hL1 := HL.out.grown (below_dN (n := nq) (Below.refl A0.heap.size A0))
  have HGB := Lib.hid (goodB_spec HG.out hjn)
  clear c0 c1 c2 c3 c4 c5 c6 hwu hwv hj hji hpos HL
  generalize A0.drewN nq = A1 at *
  clear A0
  have HL := Lib.hid hL1
  clear hL1
  obtain ⟨lo, hlo⟩ : ∃ lo, (pt ps j).lo = lo := ⟨_, rfl⟩
  obtain ⟨hi, hhi⟩ : ∃ hi, (pt ps j).hi = hi := ⟨_, rfl⟩
  have HLO := Lib.hid hlo
  have HHI := Lib.hid hhi
  rw [hlo, hhi] at HGB
  obtain ⟨c0, c1, c2, c3, c4, c5, c6⟩ := HL.out.at_ hjn
  rw [hlo] at c1
  rw [hhi] at c2
  clear hlo hhi
  have HL8 := Lib.hid hl8
  have HH8 := Lib.hid hh8
  clear hwi hh8
  go_wp2
  go_still_tail 16, (by kernel_rfl)
  change wpList _ _ _ _ _ A1.drew
  have hL1 := HL.out.grown (below_drawn A1)
  clear c0 c1 c2 c3 c4 c5 c6 HL
  have hL2 : Lay w1 bx g ps.length cx ps A1.drew := hL1
  clear hL1
  generalize A1.drew = A2 at *
  clear A1
  have HL := Lib.hid hL2
  clear hL2
  obtain ⟨c0, c1, c2, c3, c4, c5, c6⟩ := HL.out.at_ hjn
  rw [HLO.out] at c1
  rw [HHI.out] at c2
  go_wp2
  clear c0 c1 c2 c3 c4 c5 c6 hl8
  obtain ⟨z, hz, hz1, hz2⟩ : ∃ z, min hi (wrap64 (lo + l8 % 16)) = z ∧ lo ≤ z ∧ z ≤ hi := ⟨_, rfl, by
    have := HGB.out
    have := HL8.out
    rw [IntWalk.wrap64_in _ (by omega)]
    omega, by omega⟩
  rw [hz]
  clear hz
  have hL1 := HL.out.set hjn 1 z z (pt ps j).hi (.inl ⟨rfl, rfl, rfl⟩)
  generalize A2.setCell _ _ = A3 at *
  clear HL
  clear A2
  have hz3 : (pt (setP ps j z (pt ps j).hi) j).lo = z := by rw [pt_setP_same _ _ hjn]
  have hz4 : (pt (setP ps j z (pt ps j).hi) j).hi = hi := by rw [pt_setP_same _ _ hjn]; exact HHI.out
  obtain ⟨c0, c1, c2, c3, c4, c5, c6⟩ := hL1.at_ hjn
  rw [hz3] at c1
  rw [hz4] at c2
  have HZ3 := Lib.hid hz3
  have HZ4 := Lib.hid hz4
  have HL := Lib.hid hL1
  have hh8 := HH8.out
  clear hz3 hz4 hL1
  go_still_tail 16, (by kernel_rfl)
  change wpList _ _ _ _ _ A3.drew
  have hL1 := HL.out.grown (below_drawn A3)
  clear c0 c1 c2 c3 c4 c5 c6 HL
  have hL2 : Lay w1 bx g ps.length cx (setP ps j z (pt ps j).hi) A3.drew := hL1
  clear hL1
  generalize A3.drew = A4 at *
  clear A3
  have HL := Lib.hid hL2
  clear hL2
  obtain ⟨c0, c1, c2, c3, c4, c5, c6⟩ := HL.out.at_ hjn
  rw [HZ3.out] at c1
  rw [HZ4.out] at c2
  go_wp2
  clear c0 c1 c2 c3 c4 c5 c6 hh8
  obtain ⟨y, hy, hy1, hy2⟩ : ∃ y, max z (wrap64 (hi - h8 % 16)) = y ∧ z ≤ y ∧ y ≤ hi := ⟨_, rfl, by omega, by
    have := HGB.out
    have := HH8.out
    rw [IntWalk.wrap64_in _ (by omega)]
    omega⟩
  rw [hy, show j * 3 + 1 + 1 = j * 3 + 2 from rfl]
  clear hy
  have hL1 := HL.out.set hjn 2 y (pt (setP ps j z (pt ps j).hi) j).lo y (.inr ⟨rfl, rfl, rfl⟩)
  rw [HZ3.out, setP_setP ps j _ _ _ _ hjn] at hL1
  generalize A4.setCell _ _ = w6 at *
  clear HL
  clear A4
  have hgq := goods_setP (lo := z) (hi := y) HG.out hjn (by rw [HLO.out]; exact hz1) (by rw [HHI.out]; exact hy2) hy1
  have hnq := narrow_setP (ps := ps) (lo := z) (hi := y) hjn (by rw [HLO.out]; exact hz1) (by rw [HHI.out]; exact hy2)
  have hql : (setP ps j z y).length = ps.length := setP_len _ _ _ _
  generalize setP ps j z y = qs at *
  have G : Sane qs r := sane_of (by rw [hql]; exact HN.out) (by rw [hql]; exact h0) hgq HRU.out
  have HEQ : bothE qs r = 0 := by simp [bothE, hgq, ruleE, HRU.out]
  have HTO := Lib.hid (told2 HF.out G HG.out hnq)
  have HCX : Hid (∀ W, Below w6.heap.size w6 W → Calls Try.prog 18 #[.agg #[.slice (some ⟨g, 0, none⟩) ps.length cx]] W fun e w' => ∃ B c, e = .returned (.agg #[.slice (some ⟨B, 0, none⟩) qs.length c]) ∧ PtsIn w' B 0 qs ∧ W.heap.size ≤ B ∧ Below W.heap.size W w') := Lib.hid fun W hb => by
    have := Curve_any g 0 cx qs W (by rw [hql]; exact HN.out) (by rw [hql]; exact h0) (hL1.pts.below hb (by obtain ⟨cur, h, _⟩ := hL1.row; exact lt_of_block h))
    rw [hql] at this ⊢
    exact this
  have HPX := Lib.hid fun (B c : Nat) W (h : PtsIn W B 0 qs) => Points_ok B 0 c qs r W G HEQ h
  have HSX := Lib.hid fun (B c : Nat) (kd : Int) (hk : kd = 0 ∨ kd = 1 ∨ kd = 2 ∨ kd = 3) W (h : PtsIn W B 0 qs) => Span_kd B 0 c kd qs r W G HEQ hk h
  have HH1 := Lib.hid (show 0 < qs.length by rw [hql]; exact h0)
  have HC2 : Hid (∀ w', Below w6.heap.size w6 w' → w'.cell? ⟨w.heap.size, 0, none⟩ = some (.slice (some ⟨b, off, none⟩) ps.length cap) ∧ (w'.cell? ⟨w.heap.size + 1, 0, none⟩ = some (.int .i64 r.d) ∧ w'.cell? ⟨w.heap.size + 1, 1, none⟩ = some (.int .i64 r.k) ∧ w'.cell? ⟨w.heap.size + 1, 2, none⟩ = some (.int .i64 r.o)) ∧ w'.cell? ⟨bx, 0, none⟩ = some (.slice (some ⟨g, 0, none⟩) ps.length cx)) := Lib.hid fun w' h => by
    obtain ⟨d0, d1, d2, d3⟩ := HC.out w' (grow_to hL1.low h)
    exact ⟨d0, ⟨d1, d2, d3⟩, cell_of_row w' bx 0 _ _ _ ((h.block _ (lt_of_block hL1.box)).trans hL1.box)⟩
  have HW6 := Lib.hid (grow_to HBW.out hL1.low)
  clear HC HRR HG HRU HP HLB HGB HLO HHI HL8 HH8 HZ3 HZ4 hL1 hgq hnq G HEQ hz1 hz2 hy1 hy2 hjn hql HF HBW HN HH0
  have HH0 := Lib.hid h0
  clear h0
  have HSPL : Hid (∀ kd, (mayP qs r kd).length ≤ 20) := Lib.hid HTO.out.lenM
  generalize spanP ps r = sp at *
  generalize spanP qs r = sq at *
  generalize mayP ps r = mp at *
  generalize mayP qs r = mq at *
  have HB : Hid (Below w6.heap.size w6 w6) := Lib.hid (Below.refl _ _)
  go_wp2
  refine wp_region_noPanic ?_
  refine wp_region_chain (fun w' => Below w6.heap.size w6 w') (fun _ _ h hb => grow_to h hb) (below_drawn _) (by kernel_rfl) (fun _ _ _ _ _ h => h)
    [(false, 0), (false, 2), (true, 1), (true, 3), (true, 4), (false, 5), (false, 6), (false, 7), (false, 8), (false, 9)] [10, 11, 12, 13] (by kernel_rfl) ?_
  iterate 2
    (refine Walk.takes rfl rfl ?_; apply Exists.intro; refine ⟨fun w' hS => ?_, ?_⟩; (obtain ⟨d0, ⟨d1, d2, d3⟩, d4⟩ := HC2.out w' (grow_to HB.out hS); clear hS; go_simp; with_reducible rfl); simp only [List.getElem_toArray, List.getElem_cons_succ, List.getElem_cons_zero, Act.put, List.setIfInBounds_toArray, List.set_cons_zero, List.set_cons_succ])
  refine Walk.calls rfl rfl ?_; apply Exists.intro; apply Exists.intro; refine ⟨fun w' hS => ?_, fun w' hba => ?_⟩; (clear hS; go_simp; exact ⟨rfl, rfl⟩)
  have hu0 := grow_to HB.out (grow_to (below_drawn _) hba)
  refine (HCV.out w' (grow_to HW6.out hu0)).mono ?_
  rintro e u1 ⟨B2, c2, rfl, hp2, hB2, hbb⟩
  refine ⟨_, rfl, hbb, ?_⟩
  simp only [List.getElem_toArray, List.getElem_cons_succ, List.getElem_cons_zero, Act.put, List.setIfInBounds_toArray, List.set_cons_zero, List.set_cons_succ]
  have hl2 : B2 < u1.heap.size := block_lt_of_cell (hp2 0 HH0.out).1
  have hu1 := grow_to hu0 hbb
  clear hba hbb hB2 hu0
  refine Walk.calls rfl rfl ?_; apply Exists.intro; apply Exists.intro; refine ⟨fun w' hS => ?_, fun w' hba => ?_⟩; (clear hS; go_simp; exact ⟨rfl, rfl⟩)
  refine (Rule_any r.d r.k r.o w').mono ?_
  rintro e u2 ⟨rfl, hbb⟩
  refine ⟨_, rfl, hbb, ?_⟩
  simp only [List.getElem_toArray, List.getElem_cons_succ, List.getElem_cons_zero, Act.put, List.setIfInBounds_toArray, List.set_cons_zero, List.set_cons_succ]
  replace hp2 := (hp2.below hba hl2).below hbb (Nat.lt_of_lt_of_le hl2 hba.size)
  replace hl2 : B2 < u2.heap.size := block_lt_of_cell (hp2 0 HH0.out).1
  have hu2 := grow_to (grow_to hu1 hba) hbb
  clear hba hbb hu1
  refine Walk.calls rfl rfl ?_; apply Exists.intro; apply Exists.intro; refine ⟨fun w' hS => ?_, fun w' hba => ?_⟩; (clear hS; go_simp; exact ⟨rfl, rfl⟩)
  refine (HPO.out B2 c2 w' (hp2.below hba hl2)).mono ?_
  rintro e u3 ⟨v0, v1, v2, rfl, hv0, hv1, hv2, hbb⟩
  refine ⟨_, rfl, hbb, ?_⟩
  simp only [List.getElem_toArray, List.getElem_cons_succ, List.getElem_cons_zero, Act.put, List.setIfInBounds_toArray, List.set_cons_zero, List.set_cons_succ]
  clear hba hbb hp2 hl2 hu2
  clear u1 u2
  iterate 5
    (refine Walk.takes rfl rfl ?_; apply Exists.intro; refine ⟨fun w' hS => ?_, ?_⟩; (clear hS; go_simp; with_reducible rfl); simp only [List.getElem_toArray, List.getElem_cons_succ, List.getElem_cons_zero, Act.put, List.setIfInBounds_toArray, List.set_cons_zero, List.set_cons_succ])
  refine Walk.fin ?_
  intro w7 hb9 hS9
  have Vv0 := Lib.hid (hv0.below hb9)
  have Vv1 := Lib.hid (hv1.below hb9)
  have Vv2 := Lib.hid (hv2.below hb9)
  clear hb9 hv0 hv1 hv2
  clear u3
  iterate 4
    (refine Tail.value rfl rfl (by go_simp; with_reducible rfl) ?_; simp only [List.getElem_toArray, List.getElem_cons_succ, List.getElem_cons_zero, Act.put, List.setIfInBounds_toArray, List.set_cons_zero, List.set_cons_succ])
  refine Tail.done (NoPanic.normal ?_)
  have HB := Lib.hid hS9
  clear hS9
  go_wp2
  refine wp_region_noPanic ?_
  refine wp_region_chain (fun w' => Below w7.heap.size w7 w') (fun _ _ h hb => grow_to h hb) (below_drawn _) (by kernel_rfl) (fun _ _ _ _ _ h => h)
    [(false, 0), (false, 2), (true, 1), (true, 3), (true, 4), (false, 5), (false, 6), (false, 7), (false, 8), (false, 9)] [10, 11, 12, 13] (by kernel_rfl) ?_
  iterate 2
    (refine Walk.takes rfl rfl ?_; apply Exists.intro; refine ⟨fun w' hS => ?_, ?_⟩; (obtain ⟨d0, ⟨d1, d2, d3⟩, d4⟩ := HC2.out w' (grow_to HB.out hS); clear hS; go_simp; with_reducible rfl); simp only [List.getElem_toArray, List.getElem_cons_succ, List.getElem_cons_zero, Act.put, List.setIfInBounds_toArray, List.set_cons_zero, List.set_cons_succ])
  refine Walk.calls rfl rfl ?_; apply Exists.intro; apply Exists.intro; refine ⟨fun w' hS => ?_, fun w' hba => ?_⟩; (clear hS; go_simp; exact ⟨rfl, rfl⟩)
  have hu0 := grow_to HB.out (grow_to (below_drawn _) hba)
  refine (HCX.out w' hu0).mono ?_
  rintro e u1 ⟨B2, c2, rfl, hp2, hB2, hbb⟩
  refine ⟨_, rfl, hbb, ?_⟩
  simp only [List.getElem_toArray, List.getElem_cons_succ, List.getElem_cons_zero, Act.put, List.setIfInBounds_toArray, List.set_cons_zero, List.set_cons_succ]
  have hl2 : B2 < u1.heap.size := block_lt_of_cell (hp2 0 HH1.out).1
  have hu1 := grow_to hu0 hbb
  clear hba hbb hB2 hu0
  refine Walk.calls rfl rfl ?_; apply Exists.intro; apply Exists.intro; refine ⟨fun w' hS => ?_, fun w' hba => ?_⟩; (clear hS; go_simp; exact ⟨rfl, rfl⟩)
  refine (Rule_any r.d r.k r.o w').mono ?_
  rintro e u2 ⟨rfl, hbb⟩
  refine ⟨_, rfl, hbb, ?_⟩
  simp only [List.getElem_toArray, List.getElem_cons_succ, List.getElem_cons_zero, Act.put, List.setIfInBounds_toArray, List.set_cons_zero, List.set_cons_succ]
  replace hp2 := (hp2.below hba hl2).below hbb (Nat.lt_of_lt_of_le hl2 hba.size)
  replace hl2 : B2 < u2.heap.size := block_lt_of_cell (hp2 0 HH1.out).1
  have hu2 := grow_to (grow_to hu1 hba) hbb
  clear hba hbb hu1
  refine Walk.calls rfl rfl ?_; apply Exists.intro; apply Exists.intro; refine ⟨fun w' hS => ?_, fun w' hba => ?_⟩; (clear hS; go_simp; exact ⟨rfl, rfl⟩)
  refine (HPX.out B2 c2 w' (hp2.below hba hl2)).mono ?_
  rintro e u3 ⟨y0, y1, y2, rfl, hv0, hv1, hv2, hbb⟩
  refine ⟨_, rfl, hbb, ?_⟩
  simp only [List.getElem_toArray, List.getElem_cons_succ, List.getElem_cons_zero, Act.put, List.setIfInBounds_toArray, List.set_cons_zero, List.set_cons_succ]
  clear hba hbb hp2 hl2 hu2
  clear u1 u2
  iterate 5
    (refine Walk.takes rfl rfl ?_; apply Exists.intro; refine ⟨fun w' hS => ?_, ?_⟩; (clear hS; go_simp; with_reducible rfl); simp only [List.getElem_toArray, List.getElem_cons_succ, List.getElem_cons_zero, Act.put, List.setIfInBounds_toArray, List.set_cons_zero, List.set_cons_succ])
  refine Walk.fin ?_
  intro w8 hb9 hS9
  have Vy0 := Lib.hid (hv0.below hb9)
  have Vy1 := Lib.hid (hv1.below hb9)
  have Vy2 := Lib.hid (hv2.below hb9)
  clear hb9 hv0 hv1 hv2
  clear u3
  iterate 4
    (refine Tail.value rfl rfl (by go_simp; with_reducible rfl) ?_; simp only [List.getElem_toArray, List.getElem_cons_succ, List.getElem_cons_zero, Act.put, List.setIfInBounds_toArray, List.set_cons_zero, List.set_cons_succ])
  refine Tail.done (NoPanic.normal ?_)
  have HB8 := Lib.hid (grow_to HB.out hS9)
  obtain ⟨fS, fC, rfl, rfl, rfl, hfv⟩ := three_forms (L := mq) Vy0.out Vy1.out Vy2.out
  obtain ⟨mS, mC, rfl, rfl, rfl, hmv⟩ := three_forms (L := mp) (Vv0.out.below hS9) (Vv1.out.below hS9) (Vv2.out.below hS9)
  have HFV := Lib.hid hfv
  have HMV := Lib.hid hmv
  clear Vy0 Vy1 Vy2 Vv0 Vv1 Vv2 hfv hmv hS9 HB HPO HPX
  clear w7
  go_wp2
  -- LOOPS
  have hb9 := below2 w8 (.cells #[.slice (fS 0) (mq 0).length (fC 0), .slice (fS 1) (mq 1).length (fC 1), .slice (fS 2) (mq 2).length (fC 2)] 85) (.cells #[.slice (mS 0) (mp 0).length (mC 0), .slice (mS 1) (mp 1).length (mC 1), .slice (mS 2) (mp 2).length (mC 2)] 85)
  obtain ⟨hx1, hx2⟩ := box2 w8 (.cells #[.slice (fS 0) (mq 0).length (fC 0), .slice (fS 1) (mq 1).length (fC 1), .slice (fS 2) (mq 2).length (fC 2)] 85) (.cells #[.slice (mS 0) (mp 0).length (mC 0), .slice (mS 1) (mp 1).length (mC 1), .slice (mS 2) (mp 2).length (mC 2)] 85)
  generalize World.alloc (World.alloc w8 _) _ = w9 at *
  have HB9 := Lib.hid (grow_to HB8.out hb9)
  have HFW := Lib.hid fun (q : Nat) (hq : q < 3) (w' : World) (h : Below w9.heap.size w9 w') => HFV.out q hq w' (grow_to hb9 h)
  have HMW := Lib.hid fun (q : Nat) (hq : q < 3) (w' : World) (h : Below w9.heap.size w9 w') => HMV.out q hq w' (grow_to hb9 h)
  clear hb9 HB8 HFV HMV
  generalize w8.heap.size = b21 at *
  have HARR : Hid (∀ w', Below w9.heap.size w9 w' → ∀ q : Nat, q < 3 → w'.cell? ⟨b21, q, none⟩ = some (.slice (fS q) (mq q).length (fC q)) ∧ w'.cell? ⟨b21 + 1, q, none⟩ = some (.slice (mS q) (mp q).length (mC q))) := Lib.hid fun w' h q hq => by
    have y1 := (h.block _ (lt_of_block hx1)).trans hx1
    have y2 := (h.block _ (lt_of_block hx2)).trans hx2
    rw [cell_of_row w' b21 q _ _ _ y1, cell_of_row w' (b21 + 1) q _ _ _ y2]
    rcases (show q = 0 ∨ q = 1 ∨ q = 2 by omega) with rfl | rfl | rfl <;> exact ⟨rfl, rfl⟩
  have HTO1 := Lib.hid fun (q : Nat) (hq : q < 3) => HTO.out.may q (by omega)
  have HTOL := Lib.hid fun (q : Nat) => HTO.out.lenL q
  have HTOM := Lib.hid fun (q : Nat) => HTO.out.lenM q
  have HTO2 := Lib.hid HTO.out.span
  clear hx1 hx2 HTO HSPL
  clear w8
  have HB0 : Hid (Below w9.heap.size w9 w9) := Lib.hid (Below.refl _ _)
  go_loopw [23] (fun i wr => ∃ q : Nat, q ≤ 3 ∧ i = .int .i64 q ∧ Hid (Below w9.heap.size w9 wr)) (fun i _ => 3 - (intOf i).toNat)
  case atStart => exact ⟨0, by omega, rfl, HB0⟩
  case round =>
    obtain ⟨q, hq, rfl, HQ⟩ := hrel
    obtain ⟨wo, rfl⟩ : ∃ wo, wo = wr := ⟨_, rfl⟩
    by_cases hlt : q < 3
    · have hqi : (q : Int) < 3 := by omega
      have HL3 := Lib.hid hlt
      have hlm := HTOM.out q
      obtain ⟨n, hn⟩ : ∃ n, (mq q).length = n := ⟨_, rfl⟩
      rw [hn] at hlm
      have HNN := Lib.hid hn
      clear hn
      go_wp2
      go_loopw [24] (fun i wr => ∃ p : Nat, p ≤ n ∧ i = .int .i64 p ∧ Hid (Below w9.heap.size w9 wr)) (fun i _ => n - (intOf i).toNat)
      case atStart => exact ⟨0, Nat.zero_le _, rfl, HQ⟩
      case round =>
        obtain ⟨p, hp, rfl, HP⟩ := hrel
        obtain ⟨a0, a1⟩ := HARR.out wr HP.out q hlt
        rw [HNN.out] at a0
        by_cases hpn : p < n
        · have hpi : (p : Int) < n := by omega
          have hw9 : IntKind.i64.wrap ((p : Int) + 1) = (p : Int) + 1 := IntWalk.i64_in _ (by omega)
          go_wp2
          clear a0 a1
          obtain ⟨sa, cp, hsl, hin⟩ := (HFW.out q hlt w9 (Below.refl _ _)).sl
          obtain ⟨gq, rfl, hi⟩ := hin (by rw [HNN.out]; omega)
          have hfs : fS q = some ⟨gq, 0, none⟩ := by simp only [Value.slice.injEq] at hsl; exact hsl.1
          have hmem : ld (mq q) p ∈ mp q := HTO1.out q hlt _ (by
            have hl : p < (mq q).length := by rw [HNN.out]; exact hpn
            simp only [ld, List.getElem?_eq_getElem hl, Option.getD_some]
            exact List.getElem_mem hl)
          have HMEM := Lib.hid (decide_eq_true hmem)
          have hgl := block_lt_of_cell (hi p (by rw [HNN.out]; exact hpn))
          have HIC : Hid (∀ w', Below wr.heap.size wr w' → w'.cell? ⟨b21, q, none⟩ = some (.slice (some ⟨gq, 0, none⟩) n (fC q)) ∧ w'.cell? ⟨b21 + 1, q, none⟩ = some (.slice (mS q) (mp q).length (mC q)) ∧ w'.cell? ⟨gq, p, none⟩ = some (.int .i64 (ld (mq q) p))) := Lib.hid fun w' h => by
            obtain ⟨a0, a1⟩ := HARR.out w' (grow_to HP.out h) q hlt
            rw [HNN.out, hfs] at a0
            have a2 := hi.below (grow_to HP.out h) hgl p (by rw [HNN.out]; exact hpn)
            rw [Nat.zero_add] at a2
            exact ⟨a0, a1, a2⟩
          clear hsl hin hi hfs hmem hgl
          refine wp_region_noPanic ?_
          refine wp_region_chain (fun w' => Below wr.heap.size wr w') (fun _ _ h hb => grow_to h hb) (below_drawn _) (by kernel_rfl) (fun _ _ _ _ _ h => h)
            [(false, 0), (false, 1), (false, 2), (false, 3), (false, 4), (false, 5), (false, 6), (false, 7), (false, 8), (true, 9)] [10] (by kernel_rfl) ?_
          iterate 9
            (refine Walk.takes rfl rfl ?_; apply Exists.intro; refine ⟨fun w' hS => ?_, ?_⟩; (obtain ⟨a0, a1, a2⟩ := HIC.out w' hS; clear hS; go_simp; with_reducible rfl); simp only [List.getElem_toArray, List.getElem_cons_succ, List.getElem_cons_zero, Act.put, List.setIfInBounds_toArray, List.set_cons_zero, List.set_cons_succ])
          refine Walk.calls rfl rfl ?_; apply Exists.intro; apply Exists.intro; refine ⟨fun w' hS => ?_, fun w' hba => ?_⟩; (clear hS; go_simp; exact ⟨rfl, rfl⟩)
          have hu0 := grow_to HP.out (grow_to (below_drawn _) hba)
          refine (has_list _ (mp q) (ld (mq q) p) w' (by have := HTOL.out q; omega) (HMW.out q hlt w' hu0)).mono ?_
          rw [HMEM.out]
          rintro e u1 ⟨rfl, hbb⟩
          refine ⟨_, rfl, hbb, ?_⟩
          simp only [List.getElem_toArray, List.getElem_cons_succ, List.getElem_cons_zero, Act.put, List.setIfInBounds_toArray, List.set_cons_zero, List.set_cons_succ]
          have hu1 := grow_to hu0 hbb
          clear hba hbb hu0
          refine Walk.fin ?_
          intro v7 hb7 hS7
          have HP7 := Lib.hid (grow_to hu1 hb7)
          clear hb7 hS7 hu1 u1
          iterate 1
            (refine Tail.value rfl rfl (by go_simp; with_reducible rfl) ?_; simp only [List.getElem_toArray, List.getElem_cons_succ, List.getElem_cons_zero, Act.put, List.setIfInBounds_toArray, List.set_cons_zero, List.set_cons_succ])
          refine Tail.done (NoPanic.normal ?_)
          go_wp2
          go_roundw
          case rel => exact ⟨p + 1, by omega, by simp, HP7⟩
          case measure => simp [intOf] <;> omega
        · obtain rfl : p = n := by omega
          have hpi : ¬ (p : Int) < p := by omega
          go_wp2
          go_roundw
          case rel => exact ⟨q + 1, by omega, by simp, HP⟩
          case measure => simp [intOf] <;> omega
    · obtain rfl : q = 3 := by omega
      go_wp2
      clear HARR HFW HMW HTO1 HTOL HTOM
      go_loopw [25] (fun i wr => ∃ q : Nat, q ≤ 4 ∧ i = .int .u8 q ∧ Hid (Below w9.heap.size w9 wr)) (fun i _ => 4 - (intOf i).toNat)
      case atStart => exact ⟨0, by omega, rfl, HQ⟩
      case round =>
        obtain ⟨q, hq, rfl, HXq⟩ := hrel
        by_cases hlt : q < 4
        · have hq4 : (q : Int) < 4 := by omega
          have hkd : (q : Int) = 0 ∨ (q : Int) = 1 ∨ (q : Int) = 2 ∨ (q : Int) = 3 := by omega
          have HKD := Lib.hid hkd
          have hwu : IntKind.u8.wrap ((q : Int) + 1) = (q : Int) + 1 := by simp [IntKind.wrap, IntKind.signed, IntKind.bits]; omega
          have HB := Lib.hid (grow_to HB9.out HXq.out)
          clear hkd
          go_wp2
          refine wp_region_noPanic ?_
          refine wp_region_float (by kernel_rfl) (fun _ _ _ _ _ h => h) 9 _ rfl 26 rfl rfl (.cells #[.int .i64 0, .int .i64 0] 51) (fun a w => by kernel_rfl)
            [(false, 0), (false, 2), (false, 4), (true, 1), (true, 3), (true, 5), (false, 6), (false, 7), (false, 8)] [10, 11] (by kernel_rfl) ?_
          iterate 3
            (refine Walk.takes rfl rfl ?_; apply Exists.intro; refine ⟨fun w' hS => ?_, ?_⟩; (obtain ⟨d0, ⟨d1, d2, d3⟩, d4⟩ := HC2.out w' (grow_to HB.out hS); clear hS; go_simp; with_reducible rfl); simp only [List.getElem_toArray, List.getElem_cons_succ, List.getElem_cons_zero, Act.put, List.setIfInBounds_toArray, List.set_cons_zero, List.set_cons_succ])
          refine Walk.calls rfl rfl ?_; apply Exists.intro; apply Exists.intro; refine ⟨fun w' hS => ?_, fun w' hba => ?_⟩; (clear hS; go_simp; exact ⟨rfl, rfl⟩)
          have hu0 := grow_to HB.out (grow_to (below_drawn _) hba)
          refine (HCV.out w' (grow_to HW6.out hu0)).mono ?_
          rintro e u1 ⟨B2, c2, rfl, hp2, hB2, hbb⟩
          refine ⟨_, rfl, hbb, ?_⟩
          simp only [List.getElem_toArray, List.getElem_cons_succ, List.getElem_cons_zero, Act.put, List.setIfInBounds_toArray, List.set_cons_zero, List.set_cons_succ]
          have hl2 : B2 < u1.heap.size := block_lt_of_cell (hp2 0 HH0.out).1
          have hu1 := grow_to hu0 hbb
          clear hba hbb hB2 hu0
          refine Walk.calls rfl rfl ?_; apply Exists.intro; apply Exists.intro; refine ⟨fun w' hS => ?_, fun w' hba => ?_⟩; (clear hS; go_simp; exact ⟨rfl, rfl⟩)
          refine (Rule_any r.d r.k r.o w').mono ?_
          rintro e u2 ⟨rfl, hbb⟩
          refine ⟨_, rfl, hbb, ?_⟩
          simp only [List.getElem_toArray, List.getElem_cons_succ, List.getElem_cons_zero, Act.put, List.setIfInBounds_toArray, List.set_cons_zero, List.set_cons_succ]
          replace hp2 := (hp2.below hba hl2).below hbb (Nat.lt_of_lt_of_le hl2 hba.size)
          replace hl2 : B2 < u2.heap.size := block_lt_of_cell (hp2 0 HH0.out).1
          have hu2 := grow_to (grow_to hu1 hba) hbb
          clear hba hbb hu1
          refine Walk.calls rfl rfl ?_; apply Exists.intro; apply Exists.intro; refine ⟨fun w' hS => ?_, fun w' hba => ?_⟩; (clear hS; go_simp; exact ⟨rfl, rfl⟩)
          refine (HSP.out B2 c2 q HKD.out w' (hp2.below hba hl2)).mono ?_
          rintro e u3 ⟨rfl, hbb⟩
          refine ⟨_, rfl, hbb, ?_⟩
          simp only [List.getElem_toArray, List.getElem_cons_succ, List.getElem_cons_zero, Act.put, List.setIfInBounds_toArray, List.set_cons_zero, List.set_cons_succ]
          clear hba hbb hp2 hl2 hu2 u1 u2
          obtain ⟨lo1, hi1, ev1, hsr, hev⟩ := span_form (sp q)
          rw [hsr]
          have HEV1 := Lib.hid hev
          clear hsr hev
          iterate 3
            (refine Walk.takes rfl rfl ?_; apply Exists.intro; refine ⟨fun w' hS => ?_, ?_⟩; (clear hS; go_simp; with_reducible rfl); simp only [List.getElem_toArray, List.getElem_cons_succ, List.getElem_cons_zero, Act.put, List.setIfInBounds_toArray, List.set_cons_zero, List.set_cons_succ])
          refine Walk.fin ?_
          intro v7 hb7 b26 hbb8 hz8 hw7
          simp only [List.getElem_toArray, List.getElem_cons_succ, List.getElem_cons_zero, Act.put, List.setIfInBounds_toArray, List.set_cons_zero, List.set_cons_succ]
          have s51 : (Try.prog.info? 51).map (·.size) = some 2 := by kernel_rfl
          have n1 := set_whole b26 51 v7 #[.int .i64 0, .int .i64 0] #[.int .i64 lo1, .int .i64 hi1] rfl hz8
          have n3 := below_cells (b := b26) hbb8 [.int .i64 lo1, .int .i64 hi1] 0 v7 hw7
          refine Tail.skip rfl rfl (exec_store_row 51 (.tmp 26) (.tmp 150) rfl b26 0 #[.int .i64 lo1, .int .i64 hi1] rfl rfl (there_block hz8 (Nat.le_refl _)) s51 (by simp [Value.oneCell'])) n3 ?_
          simp only [List.getElem_toArray, List.getElem_cons_succ, List.getElem_cons_zero, Act.put, List.setIfInBounds_toArray, List.set_cons_zero, List.set_cons_succ]
          generalize v7.setCells b26 0 _ = w10 at *
          iterate 1
            (refine Tail.value rfl rfl (by go_simp; with_reducible rfl) ?_; simp only [List.getElem_toArray, List.getElem_cons_succ, List.getElem_cons_zero, Act.put, List.setIfInBounds_toArray, List.set_cons_zero, List.set_cons_succ])
          refine Tail.done (NoPanic.normal ?_)
          clear hz8 hw7 hb7 s51 hbb8 u3
          clear v7
          replace HXq := Lib.hid (grow_to HXq.out n3)
          replace HB := Lib.hid (grow_to HB.out n3)
          have N26 := Lib.hid n1
          clear n1 n3
          clear wr
          go_wp2
          refine wp_region_noPanic ?_
          refine wp_region_float (by kernel_rfl) (fun _ _ _ _ _ h => h) 9 _ rfl 28 rfl rfl (.cells #[.int .i64 0, .int .i64 0] 51) (fun a w => by kernel_rfl)
            [(false, 0), (false, 2), (false, 4), (true, 1), (true, 3), (true, 5), (false, 6), (false, 7), (false, 8)] [10, 11] (by kernel_rfl) ?_
          iterate 3
            (refine Walk.takes rfl rfl ?_; apply Exists.intro; refine ⟨fun w' hS => ?_, ?_⟩; (obtain ⟨d0, ⟨d1, d2, d3⟩, d4⟩ := HC2.out w' (grow_to HB.out hS); clear hS; go_simp; with_reducible rfl); simp only [List.getElem_toArray, List.getElem_cons_succ, List.getElem_cons_zero, Act.put, List.setIfInBounds_toArray, List.set_cons_zero, List.set_cons_succ])
          refine Walk.calls rfl rfl ?_; apply Exists.intro; apply Exists.intro; refine ⟨fun w' hS => ?_, fun w' hba => ?_⟩; (clear hS; go_simp; exact ⟨rfl, rfl⟩)
          have hu0 := grow_to HB.out (grow_to (below_drawn _) hba)
          refine (HCX.out w' hu0).mono ?_
          rintro e u1 ⟨B2, c2, rfl, hp2, hB2, hbb⟩
          refine ⟨_, rfl, hbb, ?_⟩
          simp only [List.getElem_toArray, List.getElem_cons_succ, List.getElem_cons_zero, Act.put, List.setIfInBounds_toArray, List.set_cons_zero, List.set_cons_succ]
          have hl2 : B2 < u1.heap.size := block_lt_of_cell (hp2 0 HH1.out).1
          have hu1 := grow_to hu0 hbb
          clear hba hbb hB2 hu0
          refine Walk.calls rfl rfl ?_; apply Exists.intro; apply Exists.intro; refine ⟨fun w' hS => ?_, fun w' hba => ?_⟩; (clear hS; go_simp; exact ⟨rfl, rfl⟩)
          refine (Rule_any r.d r.k r.o w').mono ?_
          rintro e u2 ⟨rfl, hbb⟩
          refine ⟨_, rfl, hbb, ?_⟩
          simp only [List.getElem_toArray, List.getElem_cons_succ, List.getElem_cons_zero, Act.put, List.setIfInBounds_toArray, List.set_cons_zero, List.set_cons_succ]
          replace hp2 := (hp2.below hba hl2).below hbb (Nat.lt_of_lt_of_le hl2 hba.size)
          replace hl2 : B2 < u2.heap.size := block_lt_of_cell (hp2 0 HH1.out).1
          have hu2 := grow_to (grow_to hu1 hba) hbb
          clear hba hbb hu1
          refine Walk.calls rfl rfl ?_; apply Exists.intro; apply Exists.intro; refine ⟨fun w' hS => ?_, fun w' hba => ?_⟩; (clear hS; go_simp; exact ⟨rfl, rfl⟩)
          refine (HSX.out B2 c2 q HKD.out w' (hp2.below hba hl2)).mono ?_
          rintro e u3 ⟨rfl, hbb⟩
          refine ⟨_, rfl, hbb, ?_⟩
          simp only [List.getElem_toArray, List.getElem_cons_succ, List.getElem_cons_zero, Act.put, List.setIfInBounds_toArray, List.set_cons_zero, List.set_cons_succ]
          clear hba hbb hp2 hl2 hu2 u1 u2
          obtain ⟨lo2, hi2, ev2, hsr, hev⟩ := span_form (sq q)
          rw [hsr]
          have HEV2 := Lib.hid hev
          clear hsr hev
          iterate 3
            (refine Walk.takes rfl rfl ?_; apply Exists.intro; refine ⟨fun w' hS => ?_, ?_⟩; (clear hS; go_simp; with_reducible rfl); simp only [List.getElem_toArray, List.getElem_cons_succ, List.getElem_cons_zero, Act.put, List.setIfInBounds_toArray, List.set_cons_zero, List.set_cons_succ])
          refine Walk.fin ?_
          intro v7 hb7 b28 hbb8 hz8 hw7
          simp only [List.getElem_toArray, List.getElem_cons_succ, List.getElem_cons_zero, Act.put, List.setIfInBounds_toArray, List.set_cons_zero, List.set_cons_succ]
          have s51 : (Try.prog.info? 51).map (·.size) = some 2 := by kernel_rfl
          have n1 := set_whole b28 51 v7 #[.int .i64 0, .int .i64 0] #[.int .i64 lo2, .int .i64 hi2] rfl hz8
          have n3 := below_cells (b := b28) hbb8 [.int .i64 lo2, .int .i64 hi2] 0 v7 hw7
          refine Tail.skip rfl rfl (exec_store_row 51 (.tmp 28) (.tmp 159) rfl b28 0 #[.int .i64 lo2, .int .i64 hi2] rfl rfl (there_block hz8 (Nat.le_refl _)) s51 (by simp [Value.oneCell'])) n3 ?_
          simp only [List.getElem_toArray, List.getElem_cons_succ, List.getElem_cons_zero, Act.put, List.setIfInBounds_toArray, List.set_cons_zero, List.set_cons_succ]
          generalize v7.setCells b28 0 _ = w11 at *
          iterate 1
            (refine Tail.value rfl rfl (by go_simp; with_reducible rfl) ?_; simp only [List.getElem_toArray, List.getElem_cons_succ, List.getElem_cons_zero, Act.put, List.setIfInBounds_toArray, List.set_cons_zero, List.set_cons_succ])
          refine Tail.done (NoPanic.normal ?_)
          clear hz8 hw7 hb7 s51 hbb8 u3
          clear v7
          replace HXq := Lib.hid (grow_to HXq.out n3)
          replace N26 := Lib.hid ((n3.block _ (lt_of_block N26.out)).trans N26.out)
          have N28 := Lib.hid n1
          clear n1 n3 HB
          clear w10
          have g0 := cell_of_row w11 b26 0 _ _ _ N26.out
          have g1 := cell_of_row w11 b26 1 _ _ _ N26.out
          have g2 := cell_of_row w11 b28 0 _ _ _ N28.out
          have g3 := cell_of_row w11 b28 1 _ _ _ N28.out
          simp at g0 g1 g2 g3
          have HTQ := Lib.hid (HTO2.out q HKD.out)
          generalize sp q = spq at *
          generalize sq q = sqq at *
          rcases HEV2.out with ⟨hs2, he2⟩ | ⟨hs2, he2⟩
          · subst he2
            clear hs2
            go_wp2
            go_roundw
            case rel => exact ⟨q + 1, by omega, by simp, HXq⟩
            case measure => simp [intOf] <;> omega
          · subst he2
            obtain ⟨lo', hi', h1, h2, h3⟩ := HTQ.out _ _ hs2
            rcases HEV1.out with ⟨hs1, he1⟩ | ⟨hs1, he1⟩
            · rw [hs1] at h1
              cases h1
            · subst he1
              rw [hs1] at h1
              cases h1
              have k1 : decide (lo2 < lo1) = false := decide_eq_false (by omega)
              have k2 : decide (hi2 > hi1) = false := decide_eq_false (by omega)
              clear hs1 hs2
              go_wp2
              go_roundw
              case rel => exact ⟨q + 1, by omega, by simp, HXq⟩
              case measure => simp [intOf] <;> omega
        · obtain rfl : q = 4 := by omega
          have HBo := Lib.hid (grow_to HW6.out (grow_to HB9.out HXq.out))
          go_wp2_with fail
          refine (HA.out _).mono ?_
          rintro e w13 ⟨rfl, hb13⟩
          have hbf := grow_to HBo.out hb13
          clear hb13
          go_wp2
          go_ret
          exact ⟨rfl, hbf⟩
end Go.Proofs.Ytfjlnejeffkdoaa
