/- The reference's small functions: the line at a point, a division rounded down, the result for the program, whether a list is a truth; and the program's check of a curve. Conditions: points and numbers within the limits. -/
import Derived.Test.YtfjlnejeffkdoaaVV
import Derived.Test.YtfjlnejeffkdoaaWW
namespace Go.Proofs.Ytfjlnejeffkdoaa
open Go.RowKit Go.Shelf
attribute [local irreducible] arrV wpQuiet

/-- A walk may pass an operation that its guard shuts out. -/
theorem Walk.skips {P : Program} {ops : Array Oper} {S : World → Prop} {Fin : Act → World → Prop} {σ : List (Bool × Nat)} {a : Act} {w : World} {i : Nat} {o : Oper} (ho : ops[i]? = some o) (hw : Region.wanted o (yielded ops a.tmps) = false)
    (h : Walk P ops S Fin σ (a.put o.dst undef) w) : Walk P ops S Fin ((false, i) :: σ) a w := ⟨o, undef, ho, .inr ⟨hw, rfl⟩, h⟩

set_option maxRecDepth 100000 in
set_option maxHeartbeats 1000000 in
theorem Line_any (b off n cap i : Nat) (d k o s : Int) (w : World) (hi : i < n) (hn : n ≤ 100) (hs : w.cell? ⟨b, off + i * 3, none⟩ = some (.int .i64 s))
   (h1 : 0 ≤ s) (h2 : s ≤ 1000) (h3 : 0 ≤ o) (h4 : o ≤ 1000) (h5 : 0 ≤ k) (h6 : k ≤ 1000) :
    Calls Try.prog 52 #[.agg #[.slice (some ⟨b, off, none⟩) n cap], .agg #[.int .i64 d, .int .i64 k, .int .i64 o], .int .i64 i] w fun e w' => e = .returned (.int .i64 (k * (s - o))) ∧ Below w.heap.size w w' := by
  have hlt := block_lt_of_cell hs
  obtain ⟨x1, x2⟩ := box2 w (.cells #[.slice (some ⟨b, off, none⟩) n cap] 24) (.cells #[.int .i64 d, .int .i64 k, .int .i64 o] 26)
  have hB := below2 w (.cells #[.slice (some ⟨b, off, none⟩) n cap] 24) (.cells #[.int .i64 d, .int .i64 k, .int .i64 o] 26)
  have hs' := (hB.cell (p := ⟨b, off + i * 3, none⟩) hlt).trans hs
  have hm := mul_le_of k (s - o) 1000 1000 h5 h6 (by omega) (by omega) (by omega)
  have hin : (i : Int) < n := by omega
  have hwa : IntKind.i64.wrap (s - o) = s - o := IntWalk.i64_in _ (by omega)
  have hwb : IntKind.i64.wrap (k * (s - o)) = k * (s - o) := IntWalk.i64_in _ (by omega)
  go_enter Try.func52, Try.ntmps52
  clear hs
  go_wp2
  generalize World.alloc (World.alloc w _) _ = W at *
  have c0 := cell_of_row W w.heap.size 0 _ _ _ x1
  have c1 := cell_of_row W (w.heap.size + 1) 1 _ _ _ x2
  have c2 := cell_of_row W (w.heap.size + 1) 2 _ _ _ x2
  simp at c0 c1 c2
  clear x1 x2
  go_quiet (fail)
  go_wp2
  go_ret
  exact ⟨rfl, hB.trans ⟨rfl, rfl, rfl, Nat.le_refl _, fun _ _ => rfl⟩⟩

theorem down_eq (n D : Int) (hD : 0 < D) : n / D = if n < 0 ∧ n.tdiv D * D ≠ n then n.tdiv D - 1 else n.tdiv D := by
  have h := Int.tdiv_eq_ediv (a := n) (b := D)
  have hs : D.sign = 1 := Int.sign_eq_one_of_pos hD
  by_cases h0 : 0 ≤ n
  · rw [if_neg (by omega), h, if_pos (.inl h0)]
    simp
  · by_cases hd : D ∣ n
    · rw [if_neg (fun hh => hh.2 (Int.tdiv_mul_cancel hd)), h, if_pos (.inr hd)]
      simp
    · rw [if_pos ⟨by omega, fun e => hd ⟨n.tdiv D, by rw [Int.mul_comm]; exact e.symm⟩⟩, h, if_neg (by
        rintro (h | h)
        · exact h0 h
        · exact hd h), hs]
      omega

set_option maxRecDepth 100000 in
set_option maxHeartbeats 1000000 in
theorem down_any (n D : Int) (w : World) (hD : 0 < D) (hn : -9000000000000000000 ≤ n ∧ n ≤ 9000000000000000000) :
    Calls Try.prog 53 #[.int .i64 n, .int .i64 D] w fun e w' => e = .returned (.int .i64 (n / D)) ∧ Below w.heap.size w w' := by
  have he := down_eq n D hD
  have HE := Lib.hid he
  have hne : (D == 0) = false := by rw [beq_eq_false_iff_ne]; omega
  have hne' : D ≠ 0 := by omega
  have hq : -9000000000000000000 ≤ n.tdiv D ∧ n.tdiv D ≤ 9000000000000000000 := by
    have h1 : (n.tdiv D).natAbs ≤ n.natAbs := by
      rw [Int.natAbs_tdiv]
      exact Nat.div_le_self _ _
    omega
  have hm : -9000000000000000000 ≤ n.tdiv D * D ∧ n.tdiv D * D ≤ 9000000000000000000 := by
    have h1 : (n.tdiv D * D).natAbs ≤ n.natAbs := by
      rw [Int.natAbs_mul, Int.natAbs_tdiv]
      exact Nat.div_mul_le_self _ _
    omega
  have hw1 : IntKind.i64.wrap (n.tdiv D) = n.tdiv D := IntWalk.i64_in _ (by omega)
  have hw2 : IntKind.i64.wrap (n.tdiv D * D) = n.tdiv D * D := IntWalk.i64_in _ (by omega)
  have hw3 : IntKind.i64.wrap (n.tdiv D - 1) = n.tdiv D - 1 := IntWalk.i64_in _ (by omega)
  clear he hq hm
  by_cases h0 : n < 0
  · by_cases h1 : n.tdiv D * D = n
    · have h1' : ((n.tdiv D * D) == n) = true := by simpa using h1
      have HF : Hid (n / D = n.tdiv D) := by rw [HE.out, if_neg (fun h => h.2 h1)]; exact Lib.hid rfl
      go_enter Try.func53, Try.ntmps53
      go_wp2
      go_ret
      exact ⟨by rw [HF.out]; rfl, Below.refl _ _⟩
    · have h1' : ((n.tdiv D * D) != n) = true := by simpa using h1
      have HF : Hid (n / D = n.tdiv D - 1) := by rw [HE.out, if_pos ⟨h0, h1⟩]; exact Lib.hid rfl
      go_enter Try.func53, Try.ntmps53
      go_wp2
      go_ret
      exact ⟨by rw [HF.out]; rfl, Below.refl _ _⟩
  · have HF : Hid (n / D = n.tdiv D) := by rw [HE.out, if_neg (fun h => h0 h.1)]; exact Lib.hid rfl
    go_enter Try.func53, Try.ntmps53
    go_wp2
    go_ret
    exact ⟨by rw [HF.out]; rfl, Below.refl _ _⟩

set_option maxRecDepth 100000 in
set_option maxHeartbeats 1000000 in
theorem result_any (x : Rs) (w : World) : Calls Try.prog 25 #[.agg (rsV x)] w fun e w' => e = .returned (.agg (rsV x)) ∧ Below w.heap.size w w' := by
  obtain ⟨st, pk, ya, y, ma, pl, wk⟩ := x
  show Calls Try.prog 25 #[.agg #[.int .i64 st, .int .i64 pk, .int .i64 ya, .int .i64 y, .int .i64 ma, .int .i64 pl, .int .i64 wk]] w fun e w' => e = .returned (.agg #[.int .i64 st, .int .i64 pk, .int .i64 ya, .int .i64 y, .int .i64 ma, .int .i64 pl, .int .i64 wk]) ∧ Below w.heap.size w w'
  obtain ⟨x1, x2⟩ := box2 w (.cells #[.int .i64 st, .int .i64 pk, .int .i64 ya, .int .i64 y, .int .i64 ma, .int .i64 pl, .int .i64 wk] 47) (.cells zero37 37)
  have hB := below2 w (.cells #[.int .i64 st, .int .i64 pk, .int .i64 ya, .int .i64 y, .int .i64 ma, .int .i64 pl, .int .i64 wk] 47) (.cells zero37 37)
  unfold zero37 at *
  go_enter Try.func25, Try.ntmps25
  go_wp2
  refine bodyPost_ret (v := .agg #[.int .i64 st, .int .i64 pk, .int .i64 ya, .int .i64 y, .int .i64 ma, .int .i64 pl, .int .i64 wk]) (by simp [results, Try.results25, go_sem]) rfl ⟨rfl, below2 _ _ _⟩

theorem CheckCurve_of (v : Value) (E : Int) (w : World) (HC : ∀ W, Below w.heap.size w W → Calls Try.prog 47 #[.agg #[v]] W fun e w' => e = .returned (.int .i64 E) ∧ Below W.heap.size W w') :
    Calls Try.prog 17 #[.agg #[v]] w fun e w' => e = .returned (.int .i64 E) ∧ Below w.heap.size w w' := by
  have hb := box_below w (.cells #[v] 34)
  have HH := Lib.hid HC
  clear HC
  go_enter Try.func17, Try.ntmps17
  go_wp2_with fail
  refine (HH.out _ hb).mono ?_
  rintro e w1 ⟨rfl, hb1⟩
  have hbf := below_to hb hb1
  clear hb hb1
  go_wp2
  go_ret
  exact ⟨rfl, hbf⟩

set_option maxRecDepth 100000 in
set_option maxHeartbeats 1000000 in
theorem IsTruth_ne (sa st : Option Addr) (n cap m capt : Nat) (w : World) (h : m ≠ n) :
    Calls Try.prog 24 #[.agg #[.slice sa n cap], .slice st m capt] w fun e w' => e = .returned (.bool false) ∧ Below w.heap.size w w' := by
  have hne : ((m : Int) == n) = false := by rw [beq_eq_false_iff_ne]; omega
  have hne' : ((m : Int) != n) = true := by rw [bne_iff_ne]; omega
  have hne2 : ¬ (m : Int) = n := by omega
  go_enter Try.func24, Try.ntmps24
  go_wp2
  go_ret
  exact ⟨rfl, box_below _ _⟩

set_option maxRecDepth 100000 in
set_option maxHeartbeats 2000000 in
theorem IsTruth_eq (b off cap bt offt capt : Nat) (ps : List Pt) (t : List Int) (w : World) (hn : ps.length ≤ 20) (h0 : 0 < ps.length) (hp : PtsIn w b off ps) (ht : t.length = ps.length) (hi : IntsIn w bt offt t) :
    Calls Try.prog 24 #[.agg #[.slice (some ⟨b, off, none⟩) ps.length cap], .slice (some ⟨bt, offt, none⟩) ps.length capt] w fun e w' => e = .returned (.bool (fitsB ps t 0)) ∧ Below w.heap.size w w' := by
  have hltb := block_lt_of_cell (hp 0 h0).1
  have hltt : bt < w.heap.size := block_lt_of_cell (hi 0 (by omega))
  have hX := Lib.hid (heap_alloc_new w (.cells #[.slice (some ⟨b, off, none⟩) ps.length cap] 24))
  have hB := Lib.hid (box_below w (.cells #[.slice (some ⟨b, off, none⟩) ps.length cap] 24))
  have HI := Lib.hid In_any
  go_enter Try.func24, Try.ntmps24
  go_wp2
  go_loopw [5] (fun i wr => ∃ q : Nat, q ≤ ps.length ∧ i = .int .i64 q ∧ Hid (fitsB ps t 0 = fitsB ps t q) ∧ Hid (wr.heap[w.heap.size]? = some (.cells #[.slice (some ⟨b, off, none⟩) ps.length cap] 24 (0, 0))) ∧ Hid (Below w.heap.size w wr)) (fun i _ => ps.length - (intOf i).toNat)
  case atStart => exact ⟨0, Nat.zero_le _, rfl, Lib.hid rfl, hX, hB⟩
  case round =>
    obtain ⟨q, hq, rfl, hg, hx, hb⟩ := hrel
    by_cases hlt : q < ps.length
    · have hqn : (q : Int) < ps.length := by omega
      have hw9 : IntKind.i64.wrap ((q : Int) + 1) = (q : Int) + 1 := IntWalk.i64_in _ (by omega)
      have HP : Hid (∀ w', Below wr.heap.size wr w' → w'.cell? ⟨w.heap.size, 0, none⟩ = some (.slice (some ⟨b, off, none⟩) ps.length cap) ∧ w'.cell? ⟨b, off + q * 3 + 1, none⟩ = some (.int .i64 (pt ps q).lo) ∧ w'.cell? ⟨b, off + q * 3 + 2, none⟩ = some (.int .i64 (pt ps q).hi) ∧ w'.cell? ⟨bt, offt + q, none⟩ = some (.int .i64 (ld t q))) := Lib.hid fun w' h => by
        have hb' := grow_to hb.out h
        have e1 := (h.block _ (lt_of_block hx.out)).trans hx.out
        exact ⟨cell_of_row w' w.heap.size 0 _ _ _ e1, (hb'.cell (p := ⟨b, off + q * 3 + 1, none⟩) hltb).trans (hp q hlt).2.1, (hb'.cell (p := ⟨b, off + q * 3 + 2, none⟩) hltb).trans (hp q hlt).2.2, (hb'.cell (p := ⟨bt, offt + q, none⟩) hltt).trans (hi q (by omega))⟩
      have Hyes := Lib.hid (fitsB_yes ps t q)
      have Hno := Lib.hid (fitsB_no ps t q hlt)
      have HF : Hid (fitB ps t q = hasB (pt ps q).lo (pt ps q).hi (ld t q)) := Lib.hid rfl
      have hll := hb.out.size
      generalize fitB ps t q = gb at *
      generalize ld t q = v at *
      generalize (pt ps q).lo = lo at *
      generalize (pt ps q).hi = hi' at *
      go_wp2
      refine wp_region_noPanic ?_
      refine wp_region_chain (fun w' => Below wr.heap.size wr w') (fun _ _ h hb => grow_to h hb) (below_drawn _) (by kernel_rfl) (fun _ _ _ _ _ h => h)
        [(false, 0), (false, 1), (false, 2), (false, 3), (false, 4), (false, 5), (false, 6), (false, 7), (false, 8), (false, 9), (false, 10), (false, 11), (false, 12), (false, 13), (false, 14), (false, 15), (false, 16), (false, 17), (true, 18), (false, 19)] [] (by kernel_rfl) ?_
      iterate 18
        (refine Walk.takes rfl rfl ?_; apply Exists.intro; refine ⟨fun w' hS => ?_, ?_⟩; (obtain ⟨d0, d1, d2, d3⟩ := HP.out w' hS; clear hS; go_simp; with_reducible rfl); simp only [List.getElem_toArray, List.getElem_cons_succ, List.getElem_cons_zero, Act.put, List.setIfInBounds_toArray, List.set_cons_zero, List.set_cons_succ])
      refine Walk.calls rfl rfl ?_; apply Exists.intro; apply Exists.intro; refine ⟨fun w' hS => ?_, fun w' hba => ?_⟩; (clear hS; go_simp; exact ⟨rfl, rfl⟩)
      refine (HI.out v lo hi' w').mono ?_
      rintro e u1 ⟨rfl, hbb⟩
      refine ⟨_, rfl, hbb, ?_⟩
      simp only [List.getElem_toArray, List.getElem_cons_succ, List.getElem_cons_zero, Act.put, List.setIfInBounds_toArray, List.set_cons_zero, List.set_cons_succ]
      rw [← HF.out]
      (refine Walk.takes rfl rfl ?_; apply Exists.intro; refine ⟨fun w' hS => ?_, ?_⟩; (clear hS; go_simp; with_reducible rfl); simp only [List.getElem_toArray, List.getElem_cons_succ, List.getElem_cons_zero, Act.put, List.setIfInBounds_toArray, List.set_cons_zero, List.set_cons_succ])
      refine Walk.fin fun w4 hb4 hS4 => ?_
      refine Tail.done (NoPanic.normal ?_)
      have hx4 := Lib.hid ((hS4.block _ (lt_of_block hx.out)).trans hx.out)
      have hb5 := Lib.hid (grow_to hb.out hS4)
      clear hb4 hS4 hbb hba HP
      cases gb
      · go_wp2
        go_ret
        exact ⟨by rw [hg.out.trans (Hno.out (by first | trivial | rfl))]; rfl, hb5.out⟩
      · go_wp2
        go_roundw
        case rel => exact ⟨q + 1, by omega, by simp, Lib.hid (hg.out.trans (Hyes.out (by first | trivial | rfl))), hx4, hb5⟩
        case measure => simp [intOf] <;> omega
    · obtain rfl : q = ps.length := by omega
      have he := hg.out.trans (fitsB_end ps t ps.length (Nat.le_refl _))
      have HE := Lib.hid he
      clear he
      go_wp2
      go_ret
      exact ⟨by rw [HE.out]; rfl, hb.out⟩
end Go.Proofs.Ytfjlnejeffkdoaa
