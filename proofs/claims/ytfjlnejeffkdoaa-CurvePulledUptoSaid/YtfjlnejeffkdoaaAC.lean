/- CurvePulled, walked. -/
import Derived.Test.YtfjlnejeffkdoaaAB
import Derived.Test.YtfjlnejeffkdoaaWW
namespace Go.Proofs.Ytfjlnejeffkdoaa
open Go.RowKit Go.Shelf
attribute [local irreducible] arrV wpQuiet

set_option maxRecDepth 100000 in
set_option maxHeartbeats 4000000 in
theorem pulled_walk (sa : Option Addr) (n cap m capw : Nat) (aw : Option Addr) (ps : List Pt) (r : Rl) (p : Pt) (wd : Nat → Int) (lv : Int) (w : World) (hn : n ≤ 1048576) (hps : ps.length = n) (h0 : sa = none → n = 0) (hp : 0 < n → ∃ b off, sa = some ⟨b, off, none⟩ ∧ PtsIn w b off ps)
    (hm : m ≤ maxLen) (hw : ∀ j, j < m → ∃ bw ow, aw = some ⟨bw, ow, none⟩ ∧ w.cell? ⟨bw, ow + j, none⟩ = some (.int .u16 (wd j)) ∧ 0 ≤ wd j ∧ wd j < 65536) (hlv : 0 ≤ lv ∧ lv < 65536)
    (q : Bool) (hq : q = true → 0 < n ∧ n ≤ 20 ∧ goodsB ps 0 = true ∧ ruleB r = true)
    (HR : ∀ W, Below w.heap.size w W → Calls Try.prog 41 #[.agg #[.slice sa n cap], .agg #[.int .i64 r.d, .int .i64 r.k, .int .i64 r.o]] W fun e w' => e = .returned (.bool q) ∧ Below W.heap.size W w') :
    Calls Try.prog 13 #[.agg #[.slice sa n cap], .agg #[.int .i64 r.d, .int .i64 r.k, .int .i64 r.o], .slice aw m capw, .agg #[.int .i64 p.s, .int .i64 p.lo, .int .i64 p.hi], .int .u16 lv] w fun e w' => e = .returned (.bool true) ∧ Below w.heap.size w w' := by
  obtain ⟨x1, x2, x3⟩ := boxes3 w (.cells #[.slice sa n cap] 24) (.cells #[.int .i64 r.d, .int .i64 r.k, .int .i64 r.o] 26) (.cells #[.int .i64 p.s, .int .i64 p.lo, .int .i64 p.hi] 84)
  have hb3 := below3 w (.cells #[.slice sa n cap] 24) (.cells #[.int .i64 r.d, .int .i64 r.k, .int .i64 r.o] 26) (.cells #[.int .i64 p.s, .int .i64 p.lo, .int .i64 p.hi] 84)
  have HRR := Lib.hid HR
  have HA := Lib.hid awake_any
  have HQ := Lib.hid hq
  have HP := Lib.hid hp
  have HW := Lib.hid hw
  clear HR hq hw hp
  go_enter Try.func13, Try.ntmps13
  go_wp2_with fail
  generalize World.alloc (World.alloc (World.alloc w _) _) _ = W1 at *
  have X1 := Lib.hid x1
  have X2 := Lib.hid x2
  have X3 := Lib.hid x3
  have HB := Lib.hid hb3
  clear x1 x2 x3 hb3
  refine wp_region_noPanic ?_
  refine wp_region_acts (fun w' => Below W1.heap.size W1 w') (fun _ _ h hb => grow_to h hb) (below_drawn _) (by kernel_rfl) (fun _ _ _ _ _ h => h)
    [.take 1, .take 2, .take 4, .float 5, .float 8, .act 0, .act 3, .join, .act 6, .take 7, .join] [9] (by kernel_rfl) ?_
  iterate 3
    (refine GWalk.takes rfl rfl ?_; apply Exists.intro; refine ⟨fun w' hS => ?_, ?_⟩; (have e1 := (hS.block _ (lt_of_block X1.out)).trans X1.out; have e3 := (hS.block _ (lt_of_block X3.out)).trans X3.out; have u0 := cell_of_row w' w.heap.size 0 _ _ _ e1; have v0 := cell_of_row w' (w.heap.size + 1 + 1) 0 _ _ _ e3; have v1 := cell_of_row w' (w.heap.size + 1 + 1) 1 _ _ _ e3; have v2 := cell_of_row w' (w.heap.size + 1 + 1) 2 _ _ _ e3; clear e1 e3 hS; simp at u0 v0 v1 v2; go_simp; with_reducible rfl); simp only [List.getElem_toArray, List.getElem_cons_succ, List.getElem_cons_zero, Act.put, List.setIfInBounds_toArray, List.set_cons_zero, List.set_cons_succ])
  refine GWalk.floats (.cells #[.int .i64 p.s, .int .i64 p.lo, .int .i64 p.hi] 84) (fun b => .slice (some ⟨b, 0, none⟩) 1 1) rfl rfl rfl (fun w1 => ?_) ?_
  · have hbu := pt_built84 p.s p.lo p.hi
    go_simp
  refine GWalk.floats (.cells #[.slice none 0 0] 24) (fun b => .pointer (some ⟨b, 0, none⟩)) rfl rfl rfl (fun w1 => ?_) ?_
  · kernel_rfl
  simp only [List.nil_append, List.cons_append]
  refine GWalk.acts rfl rfl fun w1 hb1 hS1 hO1 => ?_
  refine ⟨.slice (some ⟨w1.heap.size, 0, none⟩) 0 0, w1.alloc (.cells #[] 84), fun k => k = w1.heap.size, ?_, grow_to hS1 (grow_alloc _ _), ⟨by simp, fun k hk _ => (grow_alloc w1 _).block k hk, fun k hk => by subst hk; simp⟩, ?_⟩
  · kernel_rfl
  simp only [List.getElem_toArray, List.getElem_cons_succ, List.getElem_cons_zero, Act.put, List.setIfInBounds_toArray, List.set_cons_zero, List.set_cons_succ]
  have hrow0 := heap_alloc_new w1 (.cells #[] 84)
  have hg0 := hS1.size
  have hS2 := grow_to hS1 (grow_alloc w1 (.cells #[] 84))
  generalize w1.alloc (.cells #[] 84) = w2 at *
  generalize w1.heap.size = g0 at *
  clear hb1 hS1 hO1
  clear w1
  refine GWalk.acts rfl rfl fun w3 hb3 hS3 hO3 => ?_
  have hr3 := (hb3.block _ (lt_of_block hrow0)).trans hrow0
  have hw3 := grow_to HB.out hS3
  obtain ⟨v4, w4, hrun, hown4, hgr4, hat4⟩ := append_curve sa n cap 22 ps w3 W1.heap.size g0 hn hps h0 (fun h => by
    obtain ⟨b, off, e, hP⟩ := HP.out h
    refine ⟨b, off, e, hP.below hw3 (block_lt_of_cell (hP 0 (by omega)).1)⟩) hS3.size hg0 hr3
  have hg0w := lt_of_block hr3
  have hS4 : Below W1.heap.size W1 w4 := ⟨hgr4.os.trans hS3.os, hgr4.tape.trans hS3.tape, hgr4.output.trans hS3.output, Nat.le_trans hS3.size hgr4.size, fun k hk => (hgr4.block k (Nat.lt_of_lt_of_le hk hS3.size) (fun e => by cases e; omega)).trans (hS3.block k hk)⟩
  refine ⟨v4, w4, fun k => k = g0 ∨ (w3.heap.size ≤ k ∧ k < w4.heap.size), ?_, hS4, ⟨hgr4.size, fun k hk ho => hgr4.block k hk (fun e => ho (Or.inl (by cases e; rfl))), fun k hk => ?_⟩, ?_⟩
  · exact exec_append (.tmp 18) (.tmp 20) rfl rfl rfl hrun
  · have := hgr4.size
    rcases hk with rfl | ⟨h1, h2⟩
    · exact ⟨Or.inl rfl, by omega⟩
    · exact ⟨Or.inr h1, h2⟩
  simp only [List.getElem_toArray, List.getElem_cons_succ, List.getElem_cons_zero, Act.put, List.setIfInBounds_toArray, List.set_cons_zero, List.set_cons_succ]
  have hv4 : ∀ k, v4.ownBlock = some k → k = g0 ∨ (w3.heap.size ≤ k ∧ k < w4.heap.size) := fun k hk => by
    rcases hat4 with h | h
    · rw [h] at hk; cases hk; exact Or.inl rfl
    · rw [h] at hk
      cases hk
      refine Or.inr ⟨Nat.le_refl _, ?_⟩
      rcases hown4.2 with ⟨hv, _⟩ | ⟨g', _, _, hv, _, hgg, _⟩
      · rw [hv] at h; simp [Value.ownBlock] at h
      · rw [hv] at h
        simp [Value.ownBlock] at h
        rw [← h]
        exact lt_of_block hgg
  have hgg4 : W1.heap.size ≤ w3.heap.size := hS3.size
  clear hrun hgr4 hat4 hS3 hO3 hb3 hr3 hw3 hS2 hrow0
  refine GWalk.joins fun w5 ab hb5 hab1 hab2 hab3 hab4 => ?_
  simp only [List.getElem_toArray, List.getElem_cons_succ, List.getElem_cons_zero, Act.put, List.setIfInBounds_toArray, List.set_cons_zero, List.set_cons_succ]
  refine GWalk.acts rfl rfl fun w6 hb6 hS6 hO6 => ?_
  have hb46 := grow_to hb5 hb6
  have hown6 := hown4.kept (row := none) ⟨hb46.os, hb46.tape, hb46.output, hb46.size, fun k hk _ => hb46.block k hk⟩ (by cases h : v4.ownBlock <;> simp)
  obtain ⟨g, kx, w7, hrun, hown7, hgr7, hat7, hlt7⟩ := append_one84 w6 W1.heap.size n 22 v4 (flatT ps) p ab hown6 hS6.size ((hb6.block _ hab2).trans hab4) hn
  have hv4b : ∀ k, v4.ownBlock = some k → W1.heap.size ≤ k := fun k hk => by
    rcases hv4 k hk with h | h <;> omega
  have hS7 : Below W1.heap.size W1 w7 := ⟨hgr7.os.trans hS6.os, hgr7.tape.trans hS6.tape, hgr7.output.trans hS6.output, Nat.le_trans hS6.size hgr7.size, fun k hk => (hgr7.block k (Nat.lt_of_lt_of_le hk hS6.size) (fun e => by have := hv4b k e.symm; omega)).trans (hS6.block k hk)⟩
  have hOg : (g = g0 ∨ (w3.heap.size ≤ g ∧ g < w4.heap.size)) ∨ (w6.heap.size ≤ g ∧ g < w7.heap.size) := by
    rcases hat7 with h | h
    · exact Or.inl (hv4 g h)
    · exact Or.inr ⟨by omega, hlt7⟩
  refine ⟨.slice (some ⟨g, 0, none⟩) (n + 1) kx, w7, fun k => (k = g0 ∨ (w3.heap.size ≤ k ∧ k < w4.heap.size)) ∨ (w6.heap.size ≤ k ∧ k < w7.heap.size), ?_, hS7, ⟨hgr7.size, fun k hk ho => hgr7.block k hk (fun e => ho (Or.inl (hv4 k e.symm))), fun k hk => ?_⟩, ?_⟩
  · exact exec_append (.tmp 21) (.tmp 23) rfl rfl rfl hrun
  · rcases hk with h | ⟨h1, h2⟩
    · exact ⟨Or.inl h, Nat.lt_of_lt_of_le (hO6 k h) hgr7.size⟩
    · exact ⟨Or.inr h1, h2⟩
  simp only [List.getElem_toArray, List.getElem_cons_succ, List.getElem_cons_zero, Act.put, List.setIfInBounds_toArray, List.set_cons_zero, List.set_cons_succ]
  refine GWalk.takes rfl rfl ?_; apply Exists.intro; refine ⟨fun w' hS => ?_, ?_⟩; (clear hS; go_simp; with_reducible rfl); simp only [List.getElem_toArray, List.getElem_cons_succ, List.getElem_cons_zero, Act.put, List.setIfInBounds_toArray, List.set_cons_zero, List.set_cons_succ]
  refine GWalk.joins fun w8 bX hb8 hX1 hX2 hX3 hX4 => ?_
  simp only [List.getElem_toArray, List.getElem_cons_succ, List.getElem_cons_zero, Act.put, List.setIfInBounds_toArray, List.set_cons_zero, List.set_cons_succ]
  refine GWalk.fin fun w9 hb9 hS9 => ?_
  have hgX : g ≠ bX := fun e => hX3 (by rw [← e]; exact hOg)
  have hl1 : (ps ++ [p]).length = n + 1 := by simp [hps]
  have hown7' : w7.ownsRow W1.heap.size 84 3 (.slice (some ⟨g, 0, none⟩) (n + 1) kx) (ps ++ [p]).length (flatT (ps ++ [p])) := by
    rw [hl1, show flatT (ps ++ [p]) = flatT ps ++ [.int .i64 p.s, .int .i64 p.lo, .int .i64 p.hi] by simp [flatT]]
    exact hown7
  obtain ⟨g', kx', e, hP7, -⟩ := pts_own84 hown7' (by omega)
  have hgg' : g' = g := by
    have := congrArg Value.ownBlock e
    simp only [Value.ownBlock, Option.some.injEq] at this
    exact this.symm
  subst hgg'
  have hP9 := (hP7.below hb8 hlt7).below hb9 (Nat.lt_of_lt_of_le hlt7 hb8.size)
  have hX9 := (hb9.block _ hX2).trans hX4
  have s24 : (Try.prog.info? 24).map (·.size) = some 1 := by kernel_rfl
  have n1 := set_whole bX 24 w9 #[.slice none 0 0] #[.slice (some ⟨g', 0, none⟩) (n + 1) kx] rfl hX9
  have n2 : Below W1.heap.size W1 (w9.setCells bX 0 [.slice (some ⟨g', 0, none⟩) (n + 1) kx]) := below_cells (b := bX) hX1 [.slice (some ⟨g', 0, none⟩) (n + 1) kx] 0 w9 hS9
  have n3 := hP9.block (heap_cells bX [.slice (some ⟨g', 0, none⟩) (n + 1) kx] 0 w9 g' hgX)
  refine Tail.skip rfl rfl (exec_store_row 24 (.tmp 11) (.tmp 25) rfl bX 0 #[.slice (some ⟨g', 0, none⟩) (n + 1) kx] rfl rfl (there_block hX9 (Nat.le_refl _)) s24 (by simp [Value.oneCell'])) n2 (Tail.done (NoPanic.normal ?_))
  simp only [List.getElem_toArray, List.getElem_cons_succ, List.getElem_cons_zero, Act.put, List.setIfInBounds_toArray, List.set_cons_zero, List.set_cons_succ]
  generalize w9.setCells bX 0 _ = w10 at *
  have HBW := Lib.hid (grow_to HB.out n2)
  replace X1 := Lib.hid ((n2.block _ (lt_of_block X1.out)).trans X1.out)
  replace X2 := Lib.hid ((n2.block _ (lt_of_block X2.out)).trans X2.out)
  replace X3 := Lib.hid ((n2.block _ (lt_of_block X3.out)).trans X3.out)
  have XX := Lib.hid n1
  have XP := Lib.hid n3
  have HL1 := Lib.hid hl1
  clear n1 n2 n3 hX9 hP9 hP7 e hown7' hl1 hgX hS9 hb9 hX4 hX3 hX2 hX1 hb8 hOg hS7 hv4b hlt7 hat7 hgr7 hown7 hrun hown6 hb46 hO6 hS6 hb6 hab4 hab3 hab2 hab1 hb5 hgg4 hv4 hS4 hg0w hown4 hg0 s24 HB
  clear w9 w8 w7 w6 w5 w4 w3 w2 W1
  have HC : Hid (∀ w', Below w10.heap.size w10 w' → w'.cell? ⟨w.heap.size, 0, none⟩ = some (.slice sa n cap) ∧ (w'.cell? ⟨w.heap.size + 1, 0, none⟩ = some (.int .i64 r.d) ∧ w'.cell? ⟨w.heap.size + 1, 1, none⟩ = some (.int .i64 r.k) ∧ w'.cell? ⟨w.heap.size + 1, 2, none⟩ = some (.int .i64 r.o)) ∧ w'.cell? ⟨bX, 0, none⟩ = some (.slice (some ⟨g', 0, none⟩) (n + 1) kx) ∧
      w'.cell? ⟨w.heap.size + 1 + 1, 0, none⟩ = some (.int .i64 p.s) ∧ w'.cell? ⟨w.heap.size + 1 + 1, 1, none⟩ = some (.int .i64 p.lo) ∧ w'.cell? ⟨w.heap.size + 1 + 1, 2, none⟩ = some (.int .i64 p.hi)) := Lib.hid fun w' h => by
    have y1 := (h.block _ (lt_of_block X1.out)).trans X1.out
    have y2 := (h.block _ (lt_of_block X2.out)).trans X2.out
    have y3 := (h.block _ (lt_of_block X3.out)).trans X3.out
    have y4 := (h.block _ (lt_of_block XX.out)).trans XX.out
    exact ⟨cell_of_row w' w.heap.size 0 _ _ _ y1, ⟨cell_of_row w' (w.heap.size + 1) 0 _ _ _ y2, cell_of_row w' (w.heap.size + 1) 1 _ _ _ y2, cell_of_row w' (w.heap.size + 1) 2 _ _ _ y2⟩, cell_of_row w' bX 0 _ _ _ y4, cell_of_row w' (w.heap.size + 1 + 1) 0 _ _ _ y3, cell_of_row w' (w.heap.size + 1 + 1) 1 _ _ _ y3, cell_of_row w' (w.heap.size + 1 + 1) 2 _ _ _ y3⟩
  clear X1 X2 X3 XX h0
  obtain ⟨a0, ⟨a1, a2, a3⟩, a4, -⟩ := HC.out w10 (Below.refl _ _)
  go_wp2_with fail
  refine (HRR.out _ HBW.out).mono ?_
  rintro e w11 ⟨rfl, hb11⟩
  have HB11 := Lib.hid hb11
  clear hb11 a0 a1 a2 a3 a4
  obtain ⟨a0, ⟨a1, a2, a3⟩, a4, -⟩ := HC.out w11 HB11.out
  cases q
  · go_wp2_with fail
    refine (HA.out _).mono ?_
    rintro e w12 ⟨rfl, hb12⟩
    have hbf := below_to HBW.out (grow_to HB11.out hb12)
    clear hb12 a0 a1 a2 a3 a4
    go_wp2
    go_ret
    exact ⟨rfl, hbf⟩
  obtain ⟨hn0, hn20, hg, hr⟩ := HQ.out rfl
  obtain ⟨b, off, rfl, hP⟩ := HP.out hn0
  obtain ⟨qx, hqx, HX⟩ := ready_more g' kx (ps ++ [p]) r.d r.k r.o (by rw [HL1.out]; omega) (by rw [HL1.out]; omega)
  rw [HL1.out] at HX
  have hltb := block_lt_of_cell (hP 0 (by omega)).1
  have HXP := Lib.hid XP.out
  have hlg := block_lt_of_cell (XP.out 0 (by rw [HL1.out]; omega)).1
  go_wp2_with fail
  refine (HX w11 (XP.out.below HB11.out hlg)).mono ?_
  rintro e w12 ⟨rfl, hb12⟩
  have HB12 := Lib.hid (grow_to HB11.out hb12)
  clear hb12 a0 a1 a2 a3 a4 HB11
  clear w11
  cases qx
  · go_wp2_with fail
    refine (HA.out _).mono ?_
    rintro e w13 ⟨rfl, hb13⟩
    have hbf := below_to HBW.out (grow_to HB12.out hb13)
    clear hb13
    go_wp2
    go_ret
    exact ⟨rfl, hbf⟩
  obtain ⟨hl20, hgx, -⟩ := hqx rfl
  subst hps
  have HBG := Lib.hid (grow_to HBW.out HB12.out)
  replace HXP := Lib.hid (HXP.out.below HB12.out hlg)
  replace HC := Lib.hid fun w' (h : Below w12.heap.size w12 w') => HC.out w' (grow_to HB12.out h)
  have hp4 := goodB_spec hgx (i := ps.length) (by rw [HL1.out]; omega)
  rw [show pt (ps ++ [p]) ps.length = p by simp [pt]] at hp4
  obtain ⟨-, ⟨-, -⟩, hp5, hp6, hp7⟩ := hp4
  have hlo : ∀ i, i < ps.length → 0 ≤ (pt ps i).lo ∧ (pt ps i).lo ≤ (pt ps i).hi ∧ (pt ps i).hi ≤ 100000 := fun i hi => (goodB_spec hg hi).2.2
  have hfit := pickL_fits (m := m) (wd := wd) (fun i hi => (hlo i hi).2.1) (fun j hj => by obtain ⟨_, _, _, _, h, _⟩ := HW.out j hj; exact h)
  have hlen := pickL_len ps m wd ps.length
  have HPK := Lib.hid fun W (hb : Below w.heap.size w W) => Picked_any b off cap m capw aw ps wd W hn20 hn0 (hP.below hb hltb) hlo hm (fun j hj => by
    obtain ⟨bw, ow, h1, h2, h3⟩ := HW.out j hj
    exact ⟨bw, ow, h1, (hb.cell (p := ⟨bw, ow + j, none⟩) (block_lt_of_cell h2)).trans h2, h3⟩)
  generalize ht : pickL ps m wd ps.length = t at *
  clear ht hlo
  have ht0 := Int.tmod_nonneg (p.hi - p.lo + 1) hlv.1
  have ht1 := Int.tmod_lt_of_pos lv (show 0 < p.hi - p.lo + 1 by omega)
  obtain ⟨v, hv⟩ : ∃ v, p.lo + lv.tmod (p.hi - p.lo + 1) = v := ⟨_, rfl⟩
  have G : Good ps r t := ⟨hn20, hn0, hg, hr, hlen, hfit⟩
  have G2 : Good (ps ++ [p]) r (t ++ [v]) := ⟨hl20, by rw [HL1.out]; omega, hgx, hr, by simp [hlen], by
    simp only [fitsB, decide_eq_true_eq] at hfit ⊢
    intro j hj _
    rw [HL1.out] at hj
    by_cases hjn : j < ps.length
    · have := hfit j hjn (Nat.zero_le _)
      unfold fitB at this ⊢
      rw [pt_more hjn]
      rw [show ld (t ++ [v]) j = ld t j by simp [ld, List.getElem?_append_left (show j < t.length by omega)]]
      exact this
    · obtain rfl : j = ps.length := by omega
      unfold fitB hasB
      rw [show pt (ps ++ [p]) ps.length = p by simp [pt], show ld (t ++ [v]) ps.length = v by rw [← hlen]; simp [ld]]
      rw [decide_eq_true_eq]
      omega⟩
  have HPUL := pulled_read G G2
  have HCV := Lib.hid fun W (hb : Below w.heap.size w W) => Curve_any b off cap ps W hn20 hn0 (hP.below hb hltb)
  have HCX := Lib.hid fun W (h : PtsIn W g' 0 (ps ++ [p])) => Curve_any g' 0 kx (ps ++ [p]) W hl20 (by rw [HL1.out]; omega) h
  rw [HL1.out] at HCX
  have HRD1 := Lib.hid fun (B2 c2 B3 c3 : Nat) W h1 h2 => Read_ok B2 0 c2 B3 0 c3 ps r t W G h1 h2
  have HRD2 := Lib.hid fun (B2 c2 B3 c3 : Nat) W h1 h2 => Read_ok B2 0 c2 B3 0 c3 (ps ++ [p]) r (t ++ [v]) W G2 h1 h2
  rw [HL1.out] at HRD2
  have HT := Lib.hid hlen
  have HH0 := Lib.hid hn0
  have HN := Lib.hid hn20
  generalize readR ps r (pad t) = x at *
  generalize readR (ps ++ [p]) r (pad (t ++ [v])) = y at *
  have HLG := Lib.hid (block_lt_of_cell (HXP.out 0 (by rw [HL1.out]; omega)).1)
  have hne : (p.hi - p.lo + 1 == 0) = false := by rw [beq_eq_false_iff_ne]; omega
  have hne' : p.hi - p.lo + 1 ≠ 0 := by omega
  have hwa : IntKind.i64.wrap (p.hi - p.lo) = p.hi - p.lo := IntWalk.i64_in _ (by omega)
  have hwb : IntKind.i64.wrap (p.hi - p.lo + 1) = p.hi - p.lo + 1 := IntWalk.i64_in _ (by omega)
  have hwl : IntKind.i64.wrap lv = lv := IntWalk.i64_in _ (by omega)
  have hwt : IntKind.i64.wrap (lv.tmod (p.hi - p.lo + 1)) = lv.tmod (p.hi - p.lo + 1) := IntWalk.i64_in _ (by omega)
  have hws : IntKind.i64.wrap (p.lo + lv.tmod (p.hi - p.lo + 1)) = p.lo + lv.tmod (p.hi - p.lo + 1) := IntWalk.i64_in _ (by omega)
  have HV := Lib.hid hv
  clear G G2 hfit hlen hg hr hgx hl20 hn20 hqx HX HQ HP HW HRR hm hlv hP hv hp5 hp6 hp7 ht0 ht1 hltb hlg HBW XP
  clear HB12
  obtain ⟨a0, -⟩ := HC.out w12 (Below.refl _ _)
  go_wp2_with fail
  refine (HPK.out _ HBG.out).mono ?_
  rintro e w13 ⟨B1, c1, rfl, hi1, hB1, hb13⟩
  replace HBG := Lib.hid (grow_to HBG.out hb13)
  replace HXP := Lib.hid (HXP.out.below hb13 HLG.out)
  replace HLG := Lib.hid (Nat.lt_of_lt_of_le HLG.out hb13.size)
  replace HC := Lib.hid fun w' (h : Below w13.heap.size w13 w') => HC.out w' (grow_to hb13 h)
  have HI1 := Lib.hid hi1
  have HB1l := Lib.hid (block_lt_of_cell (hi1 0 (by rw [HT.out]; exact HH0.out)))
  clear hi1 hB1 hb13 a0 HPK
  clear w12
  go_wp2
  refine wp_region_noPanic ?_
  refine wp_region_chain (fun w' => Below w13.heap.size w13 w') (fun _ _ h hb => grow_to h hb) (below_drawn _) (by kernel_rfl) (fun _ _ _ _ _ h => h)
    [(false, 0), (false, 1), (false, 2), (false, 3), (false, 4), (false, 5), (false, 6), (false, 7), (false, 8), (false, 9), (false, 10), (false, 11), (false, 12), (false, 13), (false, 14)] [15] (by kernel_rfl) ?_
  iterate 15
    (refine Walk.takes rfl rfl ?_; apply Exists.intro; refine ⟨fun w' hS => ?_, ?_⟩; (obtain ⟨-, -, -, d0, d1, d2⟩ := HC.out w' hS; clear hS; go_simp; with_reducible rfl); simp only [List.getElem_toArray, List.getElem_cons_succ, List.getElem_cons_zero, Act.put, List.setIfInBounds_toArray, List.set_cons_zero, List.set_cons_succ])
  rw [HV.out]
  clear hwa hwb hwl hwt hws hne hne'
  refine Walk.fin fun w14 hb14 hS14 => ?_
  (refine Tail.value rfl rfl (by go_simp; with_reducible rfl) ?_; simp only [List.getElem_toArray, List.getElem_cons_succ, List.getElem_cons_zero, Act.put, List.setIfInBounds_toArray, List.set_cons_zero, List.set_cons_succ])
  refine Tail.done (NoPanic.normal ?_)
  replace HBG := Lib.hid (grow_to HBG.out hS14)
  replace HXP := Lib.hid (HXP.out.below hS14 HLG.out)
  replace HLG := Lib.hid (Nat.lt_of_lt_of_le HLG.out hS14.size)
  replace HC := Lib.hid fun w' (h : Below w14.heap.size w14 w') => HC.out w' (grow_to hS14 h)
  replace HI1 := Lib.hid (HI1.out.below hS14 HB1l.out)
  replace HB1l := Lib.hid (Nat.lt_of_lt_of_le HB1l.out hS14.size)
  clear hS14 hb14
  clear w13
  go_wp2
  refine wp_region_noPanic ?_
  refine wp_region_float (by kernel_rfl) (fun _ _ _ _ _ h => h) 10 _ rfl 14 rfl rfl (.cells zero37 37) (fun a w => by kernel_rfl)
    [(false, 0), (false, 2), (false, 4), (true, 1), (true, 3), (true, 5), (true, 6), (false, 7), (false, 8), (false, 9)] [11, 12] (by kernel_rfl) ?_
  iterate 3
    (refine Walk.takes rfl rfl ?_; apply Exists.intro; refine ⟨fun w' hS => ?_, ?_⟩; (obtain ⟨d0, ⟨d1, d2, d3⟩, -⟩ := HC.out w' hS; go_simp; with_reducible rfl); simp only [List.getElem_toArray, List.getElem_cons_succ, List.getElem_cons_zero, Act.put, List.setIfInBounds_toArray, List.set_cons_zero, List.set_cons_succ])
  refine Walk.calls rfl rfl ?_; apply Exists.intro; apply Exists.intro; refine ⟨fun w' hS => ?_, fun w' hba => ?_⟩; (clear hS; go_simp; exact ⟨rfl, rfl⟩)
  refine (HCV.out w' (below_to HBG.out (grow_to (below_drawn _) hba))).mono ?_
  rintro e u1 ⟨B2, c2, rfl, hp2, hB2, hbb⟩
  refine ⟨_, rfl, hbb, ?_⟩
  simp only [List.getElem_toArray, List.getElem_cons_succ, List.getElem_cons_zero, Act.put, List.setIfInBounds_toArray, List.set_cons_zero, List.set_cons_succ]
  have hl2 := block_lt_of_cell (hp2 0 HH0.out).1
  have hu1 := grow_to (grow_to (below_drawn _) hba) hbb
  clear hba hbb hB2
  refine Walk.calls rfl rfl ?_; apply Exists.intro; apply Exists.intro; refine ⟨fun w' hS => ?_, fun w' hba => ?_⟩; (clear hS; go_simp; exact ⟨rfl, rfl⟩)
  refine (Rule_any r.d r.k r.o w').mono ?_
  rintro e u2 ⟨rfl, hbb⟩
  refine ⟨_, rfl, hbb, ?_⟩
  simp only [List.getElem_toArray, List.getElem_cons_succ, List.getElem_cons_zero, Act.put, List.setIfInBounds_toArray, List.set_cons_zero, List.set_cons_succ]
  replace hp2 := (hp2.below hba hl2).below hbb (Nat.lt_of_lt_of_le hl2 hba.size)
  replace hl2 := block_lt_of_cell (hp2 0 HH0.out).1
  have hu2 := grow_to (grow_to hu1 hba) hbb
  clear hba hbb hu1
  refine Walk.calls rfl rfl ?_; apply Exists.intro; apply Exists.intro; refine ⟨fun w' hS => ?_, fun w' hba => ?_⟩; (clear hS; go_simp; exact ⟨rfl, rfl⟩)
  have hu3 := grow_to hu2 hba
  have hlist := list_any B1 0 c1 t w' (by rw [HT.out]; exact HH0.out) (by rw [HT.out]; have := HN.out; omega) (HI1.out.below hu3 HB1l.out)
  rw [HT.out] at hlist
  refine hlist.mono ?_
  rintro e u3 ⟨B3, c3, rfl, hi3, hB3, hbb⟩
  refine ⟨_, rfl, hbb, ?_⟩
  simp only [List.getElem_toArray, List.getElem_cons_succ, List.getElem_cons_zero, Act.put, List.setIfInBounds_toArray, List.set_cons_zero, List.set_cons_succ]
  replace hp2 := (hp2.below hba hl2).below hbb (Nat.lt_of_lt_of_le hl2 hba.size)
  replace hl2 := block_lt_of_cell (hp2 0 HH0.out).1
  have hl3 := block_lt_of_cell (hi3 0 (by rw [HT.out]; exact HH0.out))
  clear hba hbb hu2 hu3 hB3 hlist
  refine Walk.calls rfl rfl ?_; apply Exists.intro; apply Exists.intro; refine ⟨fun w' hS => ?_, fun w' hba => ?_⟩; (clear hS; go_simp; exact ⟨rfl, rfl⟩)
  refine (HRD1.out B2 c2 B3 c3 w' (hp2.below hba hl2) (hi3.below hba hl3)).mono ?_
  rintro e u4 ⟨rfl, hbb⟩
  refine ⟨_, rfl, hbb, ?_⟩
  simp only [List.getElem_toArray, List.getElem_cons_succ, List.getElem_cons_zero, Act.put, List.setIfInBounds_toArray, List.set_cons_zero, List.set_cons_succ]
  clear hba hbb hp2 hi3 hl2 hl3 u1 u2 u3
  iterate 3
    (refine Walk.takes rfl rfl ?_; apply Exists.intro; refine ⟨fun w' hS => ?_, ?_⟩; (clear hS; go_simp; with_reducible rfl); simp only [List.getElem_toArray, List.getElem_cons_succ, List.getElem_cons_zero, Act.put, List.setIfInBounds_toArray, List.set_cons_zero, List.set_cons_succ])
  refine Walk.fin ?_
  intro v7 hb7 b8 hbb8 hz8 hw7
  simp only [List.getElem_toArray, List.getElem_cons_succ, List.getElem_cons_zero, Act.put, List.setIfInBounds_toArray, List.set_cons_zero, List.set_cons_succ]
  have hs37 : (Try.prog.info? 37).map (·.size) = some (rsV x).size := s37
  have n1 := set_whole b8 37 v7 zero37 (rsV x) rfl hz8
  have n3 := below_cells (b := b8) hbb8 (rsV x).toList 0 v7 hw7
  refine Tail.skip rfl rfl (exec_store_row 37 (.tmp 14) (.tmp 63) rfl b8 0 (rsV x) rfl rfl (there_block hz8 (Nat.le_refl _)) hs37 (by simp [rsV, iV, Value.oneCell'])) n3 ?_
  simp only [List.getElem_toArray, List.getElem_cons_succ, List.getElem_cons_zero, Act.put, List.setIfInBounds_toArray, List.set_cons_zero, List.set_cons_succ]
  generalize v7.setCells b8 0 (rsV x).toList = w15 at *
  (refine Tail.value rfl rfl (by go_simp; with_reducible rfl) ?_; simp only [List.getElem_toArray, List.getElem_cons_succ, List.getElem_cons_zero, Act.put, List.setIfInBounds_toArray, List.set_cons_zero, List.set_cons_succ])
  refine Tail.done (NoPanic.normal ?_)
  clear hz8 hw7 hb7 hs37
  clear v7
  have N1 := Lib.hid n1
  replace HBG := Lib.hid (grow_to HBG.out n3)
  replace HXP := Lib.hid (HXP.out.below n3 HLG.out)
  replace HLG := Lib.hid (Nat.lt_of_lt_of_le HLG.out n3.size)
  replace HC := Lib.hid fun w' (h : Below w15.heap.size w15 w') => HC.out w' (grow_to n3 h)
  replace HI1 := Lib.hid (HI1.out.below n3 HB1l.out)
  replace HB1l := Lib.hid (Nat.lt_of_lt_of_le HB1l.out n3.size)
  clear n1 n3 hbb8 HCV HRD1
  clear w14
  go_wp2
  refine wp_region_noPanic ?_
  refine wp_region_acts (fun w' => Below w15.heap.size w15 w') (fun _ _ h hb => grow_to h hb) (below_drawn _) (by kernel_rfl) (fun _ _ _ _ _ h => h)
    [.take 0, .take 2, .take 4, .take 6, .float 7, .float 13, .call 1, .call 3, .call 5, .join, .act 8, .call 9, .take 10, .take 11, .take 12, .join] [14, 15] (by kernel_rfl) ?_
  iterate 4
    (refine GWalk.takes rfl rfl ?_; apply Exists.intro; refine ⟨fun w' hS => ?_, ?_⟩; (obtain ⟨-, ⟨d1, d2, d3⟩, d0, -⟩ := HC.out w' hS; clear hS; go_simp; with_reducible rfl); simp only [List.getElem_toArray, List.getElem_cons_succ, List.getElem_cons_zero, Act.put, List.setIfInBounds_toArray, List.set_cons_zero, List.set_cons_succ])
  refine GWalk.floats (.cells #[.int .i64 v] 3) (fun b => .slice (some ⟨b, 0, none⟩) 1 1) rfl rfl rfl (fun w1 => ?_) ?_
  · have hbu : Try.prog.builtSlice 3 1 [(0, .int .i64 v)] = some #[.int .i64 v] := by kernel_rfl
    go_simp
  refine GWalk.floats (.cells zero37 37) (fun b => .pointer (some ⟨b, 0, none⟩)) rfl rfl rfl (fun w1 => ?_) ?_
  · kernel_rfl
  simp only [List.nil_append, List.cons_append]
  refine GWalk.calls rfl rfl ?_; apply Exists.intro; apply Exists.intro; refine ⟨fun w' hS => ?_, fun w1 hb1 hS1 hO1 => ?_⟩; (clear hS; go_simp; exact ⟨rfl, rfl⟩)
  refine (HCX.out w1 (HXP.out.below hS1 HLG.out)).mono ?_
  rintro e u1 ⟨B2, c2, rfl, hp2, hB2, hbb⟩
  refine ⟨_, rfl, hbb, grow_to hS1 hbb, ?_⟩
  simp only [List.getElem_toArray, List.getElem_cons_succ, List.getElem_cons_zero, Act.put, List.setIfInBounds_toArray, List.set_cons_zero, List.set_cons_succ]
  have hl2 : B2 < u1.heap.size := block_lt_of_cell (hp2 0 (by rw [HL1.out]; omega)).1
  clear hbb hB2 hb1 hS1 hO1
  refine GWalk.calls rfl rfl ?_; apply Exists.intro; apply Exists.intro; refine ⟨fun w' hS => ?_, fun w2 hb2 hS2 hO2 => ?_⟩; (clear hS; go_simp; exact ⟨rfl, rfl⟩)
  refine (Rule_any r.d r.k r.o w2).mono ?_
  rintro e u2 ⟨rfl, hbb⟩
  refine ⟨_, rfl, hbb, grow_to hS2 hbb, ?_⟩
  simp only [List.getElem_toArray, List.getElem_cons_succ, List.getElem_cons_zero, Act.put, List.setIfInBounds_toArray, List.set_cons_zero, List.set_cons_succ]
  replace hp2 := (hp2.below hb2 hl2).below hbb (Nat.lt_of_lt_of_le hl2 hb2.size)
  replace hl2 : B2 < u2.heap.size := block_lt_of_cell (hp2 0 (by rw [HL1.out]; omega)).1
  clear hbb hb2 hS2 hO2
  clear w2 w1
  refine GWalk.owns rfl rfl ?_; apply Exists.intro; apply Exists.intro; refine ⟨fun w' hS => ?_, fun w3 hb3 hS3 hO3 => ?_⟩; (clear hS; go_simp; exact ⟨rfl, rfl⟩)
  have hlist := list_row B1 0 c1 t w3 (by rw [HT.out]; exact HH0.out) (by rw [HT.out]; have := HN.out; omega) (HI1.out.below hS3 HB1l.out)
  rw [HT.out] at hlist
  refine hlist.mono ?_
  rintro e u3 ⟨B3, c3, rfl, hown, hB3, hB3l, hbb⟩
  refine ⟨_, B3, rfl, hbb, grow_to hS3 hbb, hB3, hB3l, ?_⟩
  simp only [List.getElem_toArray, List.getElem_cons_succ, List.getElem_cons_zero, Act.put, List.setIfInBounds_toArray, List.set_cons_zero, List.set_cons_succ]
  replace hp2 := (hp2.below hb3 hl2)
  replace hl2 := Nat.lt_of_lt_of_le hl2 hb3.size
  have hne23 : B2 ≠ B3 := by omega
  replace hp2 := hp2.below hbb hl2
  replace hl2 := Nat.lt_of_lt_of_le hl2 hbb.size
  have h3u := hbb.size
  have hB15 : w15.heap.size ≤ B3 := Nat.le_trans hS3.size hB3
  clear hb3 hO3 hbb hlist hB3
  refine GWalk.joins fun w5 ab hb5 hab1 hab2 hab3 hab4 => ?_
  simp only [List.getElem_toArray, List.getElem_cons_succ, List.getElem_cons_zero, Act.put, List.setIfInBounds_toArray, List.set_cons_zero, List.set_cons_succ]
  refine GWalk.acts rfl rfl fun w6 hb6 hS6 hO6 => ?_
  have hb56 := grow_to hb5 hb6
  have hown6 := hown.kept (row := none) ⟨hb56.os, hb56.tape, hb56.output, hb56.size, fun k hk _ => hb56.block k hk⟩ (by simp [Value.ownBlock])
  obtain ⟨g, cg, w7, hrun, hown7, hgr7, hat7, hlt7⟩ := append_one3 w6 w3.heap.size ps.length 27 _ _ v ab hown6 (by have := hb56.size; have := hb5.size; omega) ((hb6.block _ hab2).trans hab4) hn
  simp only [Value.ownBlock, Option.some.injEq] at hgr7 hat7
  have hS7 : Below w15.heap.size w15 w7 := ⟨hgr7.os.trans hS6.os, hgr7.tape.trans hS6.tape, hgr7.output.trans hS6.output, Nat.le_trans hS6.size hgr7.size, fun k hk => (hgr7.block k (Nat.lt_of_lt_of_le hk hS6.size) (fun e => by have := Option.some.inj e; omega)).trans (hS6.block k hk)⟩
  refine ⟨.slice (some ⟨g, 0, none⟩) (ps.length + 1) cg, w7, fun k => (False ∨ k = B3) ∨ (w6.heap.size ≤ k ∧ k < w7.heap.size), ?_, hS7, ⟨hgr7.size, fun k hk ho => hgr7.block k hk (fun e => ho (Or.inl (Or.inr (Option.some.inj e)))), fun k hk => ?_⟩, ?_⟩
  · exact exec_append (.tmp 71) (.tmp 73) rfl rfl rfl hrun
  · rcases hk with h | ⟨h1, h2⟩
    · exact ⟨Or.inl h, Nat.lt_of_lt_of_le (hO6 k h) hgr7.size⟩
    · exact ⟨Or.inr h1, h2⟩
  simp only [List.getElem_toArray, List.getElem_cons_succ, List.getElem_cons_zero, Act.put, List.setIfInBounds_toArray, List.set_cons_zero, List.set_cons_succ]
  have hp7 := (hp2.below hb56 hl2).block (hgr7.block B2 (Nat.lt_of_lt_of_le hl2 hb56.size) (fun e => hne23 (Option.some.inj e)))
  have hown7' : w7.ownsRow w3.heap.size 3 1 (.slice (some ⟨g, 0, none⟩) (ps.length + 1) cg) (t ++ [v]).length ((t ++ [v]).map (Value.int .i64)) := by
    rw [show (t ++ [v]).length = ps.length + 1 by simp [HT.out], show (t ++ [v]).map (Value.int .i64) = t.map (Value.int .i64) ++ [.int .i64 v] by simp]
    exact hown7
  obtain ⟨g2, cg2, e, hi7, -⟩ := intsIn_own hown7' (by simp)
  have hgg2 : g2 = g := by
    have := congrArg Value.ownBlock e
    simp only [Value.ownBlock, Option.some.injEq] at this
    exact this.symm
  subst hgg2
  have hl7 := block_lt_of_cell (hp7 0 (by rw [HL1.out]; omega)).1
  clear hown7' hown7 hrun hgr7 hat7 hown6 hb56 hb6 hS6 hO6 hab4 hab3 hab2 hab1 hb5 hp2 hl2 hown hB3l e hS3
  refine GWalk.calls rfl rfl ?_; apply Exists.intro; apply Exists.intro; refine ⟨fun w' hS => ?_, fun w8 hb8 hS8 hO8 => ?_⟩; (clear hS; go_simp; exact ⟨rfl, rfl⟩)
  refine (HRD2.out B2 c2 g2 cg w8 (hp7.below hb8 hl7) (hi7.below hb8 hlt7)).mono ?_
  rintro e u4 ⟨rfl, hbb⟩
  refine ⟨_, rfl, hbb, grow_to hS8 hbb, ?_⟩
  simp only [List.getElem_toArray, List.getElem_cons_succ, List.getElem_cons_zero, Act.put, List.setIfInBounds_toArray, List.set_cons_zero, List.set_cons_succ]
  iterate 3
    (refine GWalk.takes rfl rfl ?_; apply Exists.intro; refine ⟨fun w' hS => ?_, ?_⟩; (clear hS; go_simp; with_reducible rfl); simp only [List.getElem_toArray, List.getElem_cons_succ, List.getElem_cons_zero, Act.put, List.setIfInBounds_toArray, List.set_cons_zero, List.set_cons_succ])
  refine GWalk.joins fun w9 b9 hb9 hb91 hb92 hb93 hb94 => ?_
  simp only [List.getElem_toArray, List.getElem_cons_succ, List.getElem_cons_zero, Act.put, List.setIfInBounds_toArray, List.set_cons_zero, List.set_cons_succ]
  refine GWalk.fin fun w10 hb10 hS10 => ?_
  have hz8 := (hb10.block _ hb92).trans hb94
  have hs37 : (Try.prog.info? 37).map (·.size) = some (rsV y).size := s37
  have n1 := set_whole b9 37 w10 zero37 (rsV y) rfl hz8
  have n3 := below_cells (b := b9) hb91 (rsV y).toList 0 w10 hS10
  refine Tail.skip rfl rfl (exec_store_row 37 (.tmp 16) (.tmp 76) rfl b9 0 (rsV y) rfl rfl (there_block hz8 (Nat.le_refl _)) hs37 (by simp [rsV, iV, Value.oneCell'])) n3 ?_
  simp only [List.getElem_toArray, List.getElem_cons_succ, List.getElem_cons_zero, Act.put, List.setIfInBounds_toArray, List.set_cons_zero, List.set_cons_succ]
  generalize w10.setCells b9 0 (rsV y).toList = w16 at *
  (refine Tail.value rfl rfl (by go_simp; with_reducible rfl) ?_; simp only [List.getElem_toArray, List.getElem_cons_succ, List.getElem_cons_zero, Act.put, List.setIfInBounds_toArray, List.set_cons_zero, List.set_cons_succ])
  refine Tail.done (NoPanic.normal ?_)
  clear hz8 hs37 hb10 hS10 hb9 hb91 hb92 hb93 hb94 hbb hb8 hS8 hO8 hl7 hi7 hp7 hS7 hne23 hB15 hlt7 h3u
  clear w10 w9 w8 w7 w6 w5 w3
  have y1 := (n3.block _ (lt_of_block N1.out)).trans N1.out
  replace HBG := Lib.hid (grow_to HBG.out n3)
  replace HC := Lib.hid fun w' (h : Below w16.heap.size w16 w') => HC.out w' (grow_to n3 h)
  obtain ⟨p1, p2, p3, p4, p5⟩ := HPUL
  obtain ⟨st, pk, ya, yv, ma, pl, wk⟩ := x
  obtain ⟨st2, pk2, ya2, yv2, ma2, pl2, wk2⟩ := y
  simp only at p1 p2 p3 p4 p5
  obtain ⟨d0, -⟩ := HC.out w16 (Below.refl _ _)
  have a0 := cell_of_row w16 b8 0 _ _ _ y1
  have a1 := cell_of_row w16 b8 1 _ _ _ y1
  have a2 := cell_of_row w16 b8 2 _ _ _ y1
  have a3 := cell_of_row w16 b8 3 _ _ _ y1
  have a4 := cell_of_row w16 b8 4 _ _ _ y1
  have a5 := cell_of_row w16 b8 5 _ _ _ y1
  have a6 := cell_of_row w16 b8 6 _ _ _ y1
  have f0 := cell_of_row w16 b9 0 _ _ _ n1
  have f1 := cell_of_row w16 b9 1 _ _ _ n1
  have f2 := cell_of_row w16 b9 2 _ _ _ n1
  have f3 := cell_of_row w16 b9 3 _ _ _ n1
  have f4 := cell_of_row w16 b9 4 _ _ _ n1
  have f5 := cell_of_row w16 b9 5 _ _ _ n1
  have f6 := cell_of_row w16 b9 6 _ _ _ n1
  simp [rsV, iV] at a0 a1 a2 a3 a4 a5 a6 f0 f1 f2 f3 f4 f5 f6
  clear y1 n1 n3 HC HB1l HI1 HLG HXP HN HH0 HT HRD2 HCX N1 HL1 HV
  have q1 : ¬ st2 < st := by omega
  have q2 : ¬ wk2 < wk := by omega
  clear p1 p2
  replace p4 : ya < 0 ∨ ¬ ya < 0 ∧ ya2 = ya ∧ yv2 = yv := by omega
  replace p5 : ma < 0 ∨ ¬ ma < 0 ∧ ma2 = ma ∧ pl2 = pl := by omega
  replace p3 : pk2 = pk ∨ ¬ (ps.length : Int) = pk ∧ pk2 = ps.length := by omega
  rcases p3 with rfl | ⟨p3, rfl⟩ <;> rcases p4 with p4 | ⟨p4, rfl, rfl⟩ <;> rcases p5 with p5 | ⟨p5, rfl, rfl⟩
  all_goals
    go_wp2_with fail
    refine (HA.out _).mono ?_
    rintro e w17 ⟨rfl, hb17⟩
    have hbf := below_to HBG.out hb17
    clear hb17 a0 a1 a2 a3 a4 a5 a6 f0 f1 f2 f3 f4 f5 f6 d0
    go_wp2
    go_ret
    exact ⟨rfl, hbf⟩
end Go.Proofs.Ytfjlnejeffkdoaa
