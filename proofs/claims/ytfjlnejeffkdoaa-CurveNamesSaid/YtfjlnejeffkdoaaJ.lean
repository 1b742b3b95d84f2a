/- The pull of a truth: its contract. -/
import Derived.Test.YtfjlnejeffkdoaaI
import Derived.Deep.DeepCutAuto
namespace Go.Proofs.Ytfjlnejeffkdoaa
open Go.RowKit
attribute [local irreducible] pullV arrV zero124

/-- What is read in a truth. -/
def readR (ps : List Pt) (r : Rl) (t : List Int) : Rs :=
  ⟨grt (t.take ps.length), fst (fun i => grt (t.take ps.length) == ld t i) ps.length, fst (dropB r.d t) (ps.length - 1),
   if fst (dropB r.d t) (ps.length - 1) = -1 then 0 else ld t (fst (dropB r.d t) (ps.length - 1)).toNat, fst (meetB ps r t) ps.length,
   if fst (meetB ps r t) ps.length = -1 then 0 else plI ps r t (fst (meetB ps r t) ps.length).toNat, wkTo ps t (ps.length - 1)⟩
theorem readR_eq {ps : List Pt} {r : Rl} {t : List Int} {st pk ya y ma pl wk : Int} (h1 : grt (t.take ps.length) = st) (h2 : fst (fun i => st == ld t i) ps.length = pk) (h3 : fst (dropB r.d t) (ps.length - 1) = ya)
    (h4 : (if ya = -1 then 0 else ld t ya.toNat) = y) (h5 : fst (meetB ps r t) ps.length = ma) (h6 : (if ma = -1 then 0 else plI ps r t ma.toNat) = pl) (h7 : wkTo ps t (ps.length - 1) = wk) :
    rsV (readR ps r t) = #[.int .i64 st, .int .i64 pk, .int .i64 ya, .int .i64 y, .int .i64 ma, .int .i64 pl, .int .i64 wk] := by
  subst h1 h2 h3 h4 h5 h6 h7; rfl

theorem set7 (w : World) (b : Nat) (v0 v1 v2 v3 v4 v5 v6 : Value) (h : w.heap[b]? = some (.cells zero37 37 (0, 0))) :
    (w.setCells b 0 [v0, v1, v2, v3, v4, v5, v6]).heap[b]? = some (.cells #[v0, v1, v2, v3, v4, v5, v6] 37 (0, 0)) := by
  have h0 := heap_setCell_same w b 0 zero37 37 v0 h
  have h1 := heap_setCell_same _ b 1 _ 37 v1 h0
  have h2 := heap_setCell_same _ b 2 _ 37 v2 h1
  have h3 := heap_setCell_same _ b 3 _ 37 v3 h2
  have h4 := heap_setCell_same _ b 4 _ 37 v4 h3
  have h5 := heap_setCell_same _ b 5 _ 37 v5 h4
  have h6 := heap_setCell_same _ b 6 _ 37 v6 h5
  simpa [zero37, World.setCells] using h6
theorem s37 : (Try.prog.info? 37).map (·.size) = some 7 := by kernel_rfl
theorem there37 (w : World) (b : Nat) (h : w.heap[b]? = some (.cells zero37 37 (0, 0))) : w.there b 0 7 := fun j hj => by
  rw [Nat.zero_add]
  exact ⟨by rw [cell_of_row w b j zero37 37 (0, 0) h]; simp [zero37]; omega, frozen_of_row w b j zero37 37 h⟩
theorem below_drawn (w : World) : Below w.heap.size w { w with drawn := w.drawn + 1 } := ⟨rfl, rfl, rfl, Nat.le_refl _, fun _ _ => rfl⟩

theorem below_setW {W X : World} {b j : Nat} {v : Value} (h : Below W.heap.size W X) (hb : W.heap.size ≤ b) : Below W.heap.size W (X.setCell ⟨b, j, none⟩ v) := h.setCell (p := ⟨b, j, none⟩) hb v

set_option maxRecDepth 100000 in
set_option maxHeartbeats 2000000 in
theorem read_any (b off cap : Nat) (ps : List Pt) (r : Rl) (t : List Int) (w : World) (F : Fine ps r t) (hp : PtsIn w b off ps) :
    Calls Try.prog 50 #[.agg #[.slice (some ⟨b, off, none⟩) ps.length cap, .int .i64 r.d, .int .i64 r.k, .int .i64 r.o], .agg (arrV t)] w fun e w' => e = .returned (.agg (rsV (readR ps r t))) ∧ Below w.heap.size w w' := by
  have hbld := Lib.hid (fun w => build_pull b off ps.length cap r.d r.k r.o t F.tlen w)
  have htl : Hid (t.length = 20) := F.tlen
  have hone := Lib.hid (fun (x1 x2 x3 : Value) => one_of w (.slice (some ⟨b, off, none⟩) ps.length cap) x1 x2 x3 r t F.tlen)
  have hlen := F.len
  have hpos := F.pos
  have hc3 := Lib.hid (fun W => calls3 w W b off cap ps r t F hp)
  go_enter Try.func50, Try.ntmps50
  go_wp2_with (first
    | (refine wpList_load_mid rfl 97 (.tmp 3) rfl (w.heap.size + 1) 0 rfl (t.map iV) (.array 20 3) ?d1 u97 rfl ?d2 ?d3; (case d1 => exact range_two _ _ _ _); (case d2 => exact s97.trans (by simp [htl.out])); rw [arrV_mk])
    | (refine wpList_build_run rfl 124 #[(0, .tmp 8), (1, .tmp 9)] rfl #[(0, .agg #[.slice (some ⟨b, off, none⟩) ps.length cap, .int .i64 r.d, .int .i64 r.k, .int .i64 r.o]), (1, .agg (arrV t))] (by simp [go_sem]) _ (hbld.out _) ?_)
    | (refine wpList_alloc_run rfl 124 rfl _ _ (alloc124_at _ (w.heap.size + 1 + 1 + 1) (by simp)) ?_)
    | (refine wpList_store_mid rfl 124 (.tmp 5) (.tmp 10) rfl (w.heap.size + 1 + 1 + 1) 0 (pullV (.slice (some ⟨b, off, none⟩) ps.length cap) ⟨r.d, r.k, r.o⟩ t) rfl rfl ?c1 ?c2 ?c3 ?c4; (case c1 => (rw [pullV_size _ _ _ htl.out]; refine there_at ?_ _ _ _ ?_; (simp); (rw [zero124_size]; decide))); (case c2 => (rw [pullV_size _ _ _ htl.out]; exact s124)); (case c3 => exact pullV_one _ _ _ rfl); have hW := hone.out (.int .i64 r.d) (.int .i64 r.k) (.int .i64 r.o); unfold zero37 at hW; generalize World.setCells _ _ _ _ = W at *; have c0 := hW.c0)
    | fail)
  have H3 := hc3.out W hW
  have hpu := Lib.hid (hW.pu)
  have hsz := Lib.hid (hW.size)
  clear hbld hone hc3 c0
  have hn20 : (ps.length : Int) ≤ 20 := by omega
  have hn0 : (0 : Int) < ps.length := by omega
  have hwr : IntKind.i64.wrap ((ps.length : Int) - 1) = (ps.length : Int) - 1 := IntWalk.i64_in _ (by omega)
  have hpuS : ∀ w1, Below W.heap.size W w1 → w1.rangeAt (w.heap.size + 1 + 1 + 1) 0 (pullL (.slice (some ⟨b, off, none⟩) ps.length cap) r t) := fun w1 h => World.rangeAt_below hpu.out h (by rw [hsz.out]; omega)
  have s124l : (Try.prog.info? 124).map (·.size) = some (pullL (.slice (some ⟨b, off, none⟩) ps.length cap) r t).length := s124.trans (by simp [pullL, htl.out])
  refine wp_region_noPanic ?_
  refine wp_region_float (by kernel_rfl) (fun _ _ _ _ _ h => h) 15 _ rfl 7 rfl rfl (.cells zero37 37) (fun a w => by kernel_rfl)
    [(false, 0), (false, 1), (false, 3), (false, 4), (false, 5), (false, 6), (false, 8), (false, 9), (false, 10), (false, 12), (true, 2), (true, 7), (true, 11), (true, 13), (false, 14)] [16] (by kernel_rfl) ?_
  (refine Walk.takes rfl rfl ?_; apply Exists.intro; refine ⟨fun w1 hS => ?_, ?_⟩; ((try dsimp only at hS); go_simp; with_reducible rfl); simp only [List.getElem_toArray, List.getElem_cons_succ, List.getElem_cons_zero, Act.put, List.setIfInBounds_toArray, List.set_cons_zero, List.set_cons_succ])
  (refine Walk.takes rfl rfl ?_; apply Exists.intro; refine ⟨fun w1 hS => ?_, ?_⟩; ((try dsimp only at hS); go_simp; with_reducible rfl); simp only [List.getElem_toArray, List.getElem_cons_succ, List.getElem_cons_zero, Act.put, List.setIfInBounds_toArray, List.set_cons_zero, List.set_cons_succ])
  (refine Walk.takes rfl rfl ?_; apply Exists.intro; refine ⟨fun w1 hS => ?_, ?_⟩; ((try dsimp only at hS); go_simp; with_reducible rfl); simp only [List.getElem_toArray, List.getElem_cons_succ, List.getElem_cons_zero, Act.put, List.setIfInBounds_toArray, List.set_cons_zero, List.set_cons_succ])
  (refine Walk.takes rfl rfl ?_; apply Exists.intro; refine ⟨fun w1 hS => ?_, ?_⟩; ((try dsimp only at hS); go_simp; with_reducible rfl); simp only [List.getElem_toArray, List.getElem_cons_succ, List.getElem_cons_zero, Act.put, List.setIfInBounds_toArray, List.set_cons_zero, List.set_cons_succ])
  (refine Walk.take (v := .agg (pullV (.slice (some ⟨b, off, none⟩) ps.length cap) r t)) rfl rfl (fun w1 hS => exec_load_row 124 (.tmp 5) rfl (w.heap.size + 1 + 1 + 1) 0 rfl _ _ (hpuS w1 hS) Try.underlying124 rfl s124l _ (pullL_arr _ _ _)) ?_; simp only [List.getElem_toArray, List.getElem_cons_succ, List.getElem_cons_zero, Act.put, List.setIfInBounds_toArray, List.set_cons_zero, List.set_cons_succ])
  (refine Walk.takes rfl rfl ?_; apply Exists.intro; refine ⟨fun w1 hS => ?_, ?_⟩; ((try dsimp only at hS); go_simp; with_reducible rfl); simp only [List.getElem_toArray, List.getElem_cons_succ, List.getElem_cons_zero, Act.put, List.setIfInBounds_toArray, List.set_cons_zero, List.set_cons_succ])
  (refine Walk.takes rfl rfl ?_; apply Exists.intro; refine ⟨fun w1 hS => ?_, ?_⟩; ((try dsimp only at hS); go_simp; with_reducible rfl); simp only [List.getElem_toArray, List.getElem_cons_succ, List.getElem_cons_zero, Act.put, List.setIfInBounds_toArray, List.set_cons_zero, List.set_cons_succ])
  (refine Walk.take (v := .agg (pullV (.slice (some ⟨b, off, none⟩) ps.length cap) r t)) rfl rfl (fun w1 hS => exec_load_row 124 (.tmp 5) rfl (w.heap.size + 1 + 1 + 1) 0 rfl _ _ (hpuS w1 hS) Try.underlying124 rfl s124l _ (pullL_arr _ _ _)) ?_; simp only [List.getElem_toArray, List.getElem_cons_succ, List.getElem_cons_zero, Act.put, List.setIfInBounds_toArray, List.set_cons_zero, List.set_cons_succ])
  (refine Walk.takes rfl rfl ?_; apply Exists.intro; refine ⟨fun w1 hS => ?_, ?_⟩; ((try dsimp only at hS); go_simp; with_reducible rfl); simp only [List.getElem_toArray, List.getElem_cons_succ, List.getElem_cons_zero, Act.put, List.setIfInBounds_toArray, List.set_cons_zero, List.set_cons_succ])
  (refine Walk.take (v := .agg (pullV (.slice (some ⟨b, off, none⟩) ps.length cap) r t)) rfl rfl (fun w1 hS => exec_load_row 124 (.tmp 5) rfl (w.heap.size + 1 + 1 + 1) 0 rfl _ _ (hpuS w1 hS) Try.underlying124 rfl s124l _ (pullL_arr _ _ _)) ?_; simp only [List.getElem_toArray, List.getElem_cons_succ, List.getElem_cons_zero, Act.put, List.setIfInBounds_toArray, List.set_cons_zero, List.set_cons_succ])
  refine Walk.calls rfl rfl ?_; apply Exists.intro; apply Exists.intro; refine ⟨fun w1 hS => ?_, fun w1 hb => ?_⟩; ((try dsimp only at hS); go_simp; exact ⟨rfl, rfl⟩)
  have hb1 := grow_to (below_drawn W) hb
  refine (H3.g w1 hb1).mono ?_
  rintro e w2 ⟨rfl, rfl⟩
  refine ⟨_, rfl, Below.refl _ _, ?_⟩
  simp only [List.getElem_toArray, List.getElem_cons_succ, List.getElem_cons_zero, Act.put, List.setIfInBounds_toArray, List.set_cons_zero, List.set_cons_succ]
  clear hb
  refine Walk.calls rfl rfl ?_; apply Exists.intro; apply Exists.intro; refine ⟨fun w1 hS => ?_, fun w1 hb => ?_⟩; ((try dsimp only at hS); go_simp; exact ⟨rfl, rfl⟩)
  have hb3 := grow_to hb1 hb
  refine (H3.d w1 hb3).mono ?_
  rintro e w4 ⟨rfl, hb4⟩
  refine ⟨_, rfl, hb4, ?_⟩
  simp only [List.getElem_toArray, List.getElem_cons_succ, List.getElem_cons_zero, Act.put, List.setIfInBounds_toArray, List.set_cons_zero, List.set_cons_succ]
  have hb5 := grow_to hb3 hb4
  clear hb hb4 hb1 hb3
  refine Walk.calls rfl rfl ?_; apply Exists.intro; apply Exists.intro; refine ⟨fun w1 hS => ?_, fun w1 hb => ?_⟩; ((try dsimp only at hS); go_simp; exact ⟨rfl, rfl⟩)
  have hb6 := grow_to hb5 hb
  refine (H3.m w1 hb6).mono ?_
  rintro e w7 ⟨rfl, hb7⟩
  refine ⟨_, rfl, hb7, ?_⟩
  simp only [List.getElem_toArray, List.getElem_cons_succ, List.getElem_cons_zero, Act.put, List.setIfInBounds_toArray, List.set_cons_zero, List.set_cons_succ]
  have hb8 := grow_to hb6 hb7
  clear hb hb7 hb5 hb6
  refine Walk.calls rfl rfl ?_; apply Exists.intro; apply Exists.intro; refine ⟨fun w1 hS => ?_, fun w1 hb => ?_⟩; ((try dsimp only at hS); go_simp; exact ⟨rfl, rfl⟩)
  have hb9 := grow_to hb8 hb
  refine (H3.k w1 hb9).mono ?_
  rintro e w10 ⟨rfl, hb10⟩
  refine ⟨_, rfl, hb10, ?_⟩
  simp only [List.getElem_toArray, List.getElem_cons_succ, List.getElem_cons_zero, Act.put, List.setIfInBounds_toArray, List.set_cons_zero, List.set_cons_succ]
  have hb11 := grow_to hb9 hb10
  clear hb hb10 hb8 hb9
  (refine Walk.takes rfl rfl ?_; apply Exists.intro; refine ⟨fun w1 hS => ?_, ?_⟩; ((try dsimp only at hS); go_simp; with_reducible rfl); simp only [List.getElem_toArray, List.getElem_cons_succ, List.getElem_cons_zero, Act.put, List.setIfInBounds_toArray, List.set_cons_zero, List.set_cons_succ])
  refine Walk.fin ?_
  intro w12 _ b' hb' hO hS
  simp only [List.getElem_toArray, List.getElem_cons_succ, List.getElem_cons_zero, Act.put, List.setIfInBounds_toArray, List.set_cons_zero, List.set_cons_succ]
  have hz37 : w12.heap[b']? = some (.cells zero37 37 (0, 0)) := hO
  have HK := Lib.hid (And.intro H3.i (And.intro H3.p0 H3.p1))
  clear H3
  generalize hst : grt (t.take ps.length) = st at *
  generalize hya : fst (dropB r.d t) (ps.length - 1) = ya at *
  generalize hma : fst (meetB ps r t) ps.length = ma at *
  generalize hwk : wkTo ps t (ps.length - 1) = wk at *
  have hR := set7 w12 b' (.int .i64 st) (.int .i64 0) (.int .i64 ya) (.int .i64 0) (.int .i64 ma) (.int .i64 0) (.int .i64 wk) hz37
  have hbS : Below W.heap.size W (w12.setCells b' 0 [.int .i64 st, .int .i64 0, .int .i64 ya, .int .i64 0, .int .i64 ma, .int .i64 0, .int .i64 wk]) := below_cells hb' _ _ _ hS
  refine Tail.skip rfl rfl (exec_store_row 37 (.tmp 7) (.tmp 29) rfl b' 0 #[.int .i64 st, .int .i64 0, .int .i64 ya, .int .i64 0, .int .i64 ma, .int .i64 0, .int .i64 wk] rfl rfl (there37 _ _ hz37) s37 (by simp [Value.oneCell'])) hbS (Tail.done (NoPanic.normal ?_))
  simp only [List.getElem_toArray, List.getElem_cons_succ, List.getElem_cons_zero, Act.put, List.setIfInBounds_toArray, List.set_cons_zero, List.set_cons_succ]
  show Exit.then _ _ _ _ (w12.setCells b' 0 [.int .i64 st, .int .i64 0, .int .i64 ya, .int .i64 0, .int .i64 ma, .int .i64 0, .int .i64 wk])
  generalize World.setCells _ _ _ _ = W2 at *
  clear hz37 hO hS s124l
  have Hst := Lib.hid hst
  have Hya := Lib.hid hya
  have Hma := Lib.hid hma
  have Hwk := Lib.hid hwk
  clear hst hya hma hwk hwr
  have HR := Lib.hid hR
  clear hR
  have hpuS' := Lib.hid hpuS
  clear hpuS
  generalize hpk : fst (fun i => st == ld t i) ps.length = pk at *
  have Hpk := Lib.hid hpk
  clear hpk
  go_wp2_with fail
  have hb2lt : b' < W2.heap.size := lt_of_block HR.out
  refine wp_region_noPanic ?_
  refine wp_region_chain (fun w' => Below W.heap.size W w' ∧ ∃ x, w'.heap[b']? = some (.cells #[.int .i64 st, x, .int .i64 ya, .int .i64 0, .int .i64 ma, .int .i64 0, .int .i64 wk] 37 (0, 0)))
    (fun w1 w2 h hb => ⟨grow_to h.1 hb, h.2.elim fun x hx => ⟨x, (hb.block b' (lt_of_block hx)).trans hx⟩⟩) ⟨grow_to hbS (below_drawn _), _, HR.out⟩ (by kernel_rfl) (fun _ _ _ _ _ h => h)
    [(false, 0), (false, 1), (false, 2), (false, 3), (true, 4), (false, 5)] [6] (by kernel_rfl) ?_
  (refine Walk.takes rfl rfl ?_; apply Exists.intro; refine ⟨fun w1 hS => ?_, ?_⟩; (obtain ⟨_, x, hx⟩ := hS; have hcx := cell_of_row w1 b' 0 _ _ _ hx; simp at hcx; clear hx; go_simp; with_reducible rfl); simp only [List.getElem_toArray, List.getElem_cons_succ, List.getElem_cons_zero, Act.put, List.setIfInBounds_toArray, List.set_cons_zero, List.set_cons_succ])
  (refine Walk.takes rfl rfl ?_; apply Exists.intro; refine ⟨fun w1 hS => ?_, ?_⟩; (obtain ⟨_, x, hx⟩ := hS; have hcx := cell_of_row w1 b' 0 _ _ _ hx; simp at hcx; clear hx; go_simp; with_reducible rfl); simp only [List.getElem_toArray, List.getElem_cons_succ, List.getElem_cons_zero, Act.put, List.setIfInBounds_toArray, List.set_cons_zero, List.set_cons_succ])
  (refine Walk.takes rfl rfl ?_; apply Exists.intro; refine ⟨fun w1 hS => ?_, ?_⟩; (obtain ⟨_, x, hx⟩ := hS; have hcx := cell_of_row w1 b' 0 _ _ _ hx; simp at hcx; clear hx; go_simp; with_reducible rfl); simp only [List.getElem_toArray, List.getElem_cons_succ, List.getElem_cons_zero, Act.put, List.setIfInBounds_toArray, List.set_cons_zero, List.set_cons_succ])
  (refine Walk.takes rfl rfl ?_; apply Exists.intro; refine ⟨fun w1 hS => ?_, ?_⟩; (obtain ⟨_, x, hx⟩ := hS; have hcx := cell_of_row w1 b' 0 _ _ _ hx; simp at hcx; clear hx; go_simp; with_reducible rfl); simp only [List.getElem_toArray, List.getElem_cons_succ, List.getElem_cons_zero, Act.put, List.setIfInBounds_toArray, List.set_cons_zero, List.set_cons_succ])
  refine Walk.calls rfl rfl ?_; apply Exists.intro; apply Exists.intro; refine ⟨fun w1 hS => ?_, fun w1 hb => ?_⟩; (clear hS; go_simp; exact ⟨rfl, rfl⟩)
  refine (HK.out.1 w1 (grow_to (grow_to hbS (below_drawn _)) hb)).mono ?_
  rintro e w3 ⟨rfl, rfl⟩
  refine ⟨_, rfl, Below.refl _ _, ?_⟩
  simp only [List.getElem_toArray, List.getElem_cons_succ, List.getElem_cons_zero, Act.put, List.setIfInBounds_toArray, List.set_cons_zero, List.set_cons_succ]
  clear hb
  (refine Walk.takes rfl rfl ?_; apply Exists.intro; refine ⟨fun w1 hS => ?_, ?_⟩; (obtain ⟨_, x, hx⟩ := hS; have hcx := cell_of_row w1 b' 0 _ _ _ hx; simp at hcx; clear hx; go_simp; with_reducible rfl); simp only [List.getElem_toArray, List.getElem_cons_succ, List.getElem_cons_zero, Act.put, List.setIfInBounds_toArray, List.set_cons_zero, List.set_cons_succ])
  refine Walk.fin ?_
  rintro w4 _ ⟨hb4, x, hx⟩
  try simp only [List.getElem_toArray, List.getElem_cons_succ, List.getElem_cons_zero, Act.put, List.setIfInBounds_toArray, List.set_cons_zero, List.set_cons_succ]
  have hc1 := cell_of_row w4 b' 1 _ _ _ hx
  have hf1 := frozen_of_row w4 b' 1 _ _ hx
  simp at hc1
  have hx1 := heap_setCell_same w4 b' 1 _ 37 (.int .i64 pk) hx
  simp at hx1
  refine Tail.skip rfl rfl (w' := w4.setCell ⟨b', 1, none⟩ (.int .i64 pk)) (by clear hx hx1; go_simp) ⟨below_setW hb4 hb', _, hx1⟩ (Tail.done (NoPanic.normal ?_))
  simp only [List.getElem_toArray, List.getElem_cons_succ, List.getElem_cons_zero, Act.put, List.setIfInBounds_toArray, List.set_cons_zero, List.set_cons_succ]
  have hb5 := below_setW (j := 1) (v := .int .i64 pk) hb4 hb'
  have HX := Lib.hid hx1
  generalize World.setCell w4 _ _ = W3 at *
  clear hx1 hx hc1 hf1 hb4 HR hbS hb2lt
  have hne : b' ≠ w.heap.size + 1 + 1 := by have := hsz.out; omega
  have hrs := Lib.hid hW.rs
  have htr := Lib.hid hW.tr
  have s124l : (Try.prog.info? 124).map (·.size) = some (pullL (.slice (some ⟨b, off, none⟩) ps.length cap) r t).length := s124.trans (by simp [pullL, htl.out])
  have hIN : ∀ w', Below W.heap.size W w' → ∀ k : Nat, k < 20 → w'.cell? ⟨w.heap.size + 1, k, none⟩ = some (.int .i64 (ld t k)) := fun w' h k hk => by
    have h1 := htr.out k (iV (ld t k)) (by simp [ld, show k < t.length by rw [htl.out]; exact hk])
    rw [Nat.zero_add] at h1
    exact (h.cell (p := ⟨w.heap.size + 1, k, none⟩) (by show w.heap.size + 1 < W.heap.size; rw [hsz.out]; omega)).trans h1
  have HIN := Lib.hid hIN
  have hWb := Lib.hid hW.below
  clear hIN hW
  show Exit.then _ _ _ _ _
  have Hyc := Lib.hid (fst_cases (dropB r.d t) (ps.length - 1))
  have Hmc := Lib.hid (fst_cases (meetB ps r t) ps.length)
  rw [Hya.out] at Hyc
  rw [Hma.out] at Hmc
  rcases Hyc.out with ⟨rfl, _⟩ | ⟨k, hk, rfl, _, _⟩
  · rcases Hmc.out with ⟨rfl, _⟩ | ⟨m, hm, rfl, _, _⟩
    · skip
      have h0 := cell_of_row W3 b' 0 _ _ _ HX.out
      have h1 := cell_of_row W3 b' 1 _ _ _ HX.out
      have h2 := cell_of_row W3 b' 2 _ _ _ HX.out
      have h3 := cell_of_row W3 b' 3 _ _ _ HX.out
      have h4 := cell_of_row W3 b' 4 _ _ _ HX.out
      have h5 := cell_of_row W3 b' 5 _ _ _ HX.out
      have h6 := cell_of_row W3 b' 6 _ _ _ HX.out
      have f3 := frozen_of_row W3 b' 3 _ _ HX.out
      have f5 := frozen_of_row W3 b' 5 _ _ HX.out
      simp at h0 h1 h2 h3 h4 h5 h6
      have blkX := HX.out
      have bX := hb5
      have BLK := Lib.hid blkX
      have BX := Lib.hid bX
      clear blkX bX
      go_upto_region 9 with (fail)
      have R5 := BLK.out
      have b9 := BX.out
      clear h0 h1 h2 h3 h4 h5 h6 f3 f5
      obtain ⟨W5, rfl⟩ : ∃ W5, W5 = W3 := ⟨_, rfl⟩
      have Z5 := (b9.block (w.heap.size + 1 + 1) (by rw [hsz.out]; omega)).trans hrs.out
      have blow := grow_to hWb.out b9
      have c0 := cell_of_row W5 b' 0 _ _ _ R5
      have c1 := cell_of_row W5 b' 1 _ _ _ R5
      have c2 := cell_of_row W5 b' 2 _ _ _ R5
      have c3 := cell_of_row W5 b' 3 _ _ _ R5
      have c4 := cell_of_row W5 b' 4 _ _ _ R5
      have c5 := cell_of_row W5 b' 5 _ _ _ R5
      have c6 := cell_of_row W5 b' 6 _ _ _ R5
      simp at c0 c1 c2 c3 c4 c5 c6
      have z0 := cell_of_row W5 (w.heap.size + 1 + 1) 0 _ _ _ Z5
      have g0 := frozen_of_row W5 (w.heap.size + 1 + 1) 0 _ _ Z5
      have z1 := cell_of_row W5 (w.heap.size + 1 + 1) 1 _ _ _ Z5
      have g1 := frozen_of_row W5 (w.heap.size + 1 + 1) 1 _ _ Z5
      have z2 := cell_of_row W5 (w.heap.size + 1 + 1) 2 _ _ _ Z5
      have g2 := frozen_of_row W5 (w.heap.size + 1 + 1) 2 _ _ Z5
      have z3 := cell_of_row W5 (w.heap.size + 1 + 1) 3 _ _ _ Z5
      have g3 := frozen_of_row W5 (w.heap.size + 1 + 1) 3 _ _ Z5
      have z4 := cell_of_row W5 (w.heap.size + 1 + 1) 4 _ _ _ Z5
      have g4 := frozen_of_row W5 (w.heap.size + 1 + 1) 4 _ _ Z5
      have z5 := cell_of_row W5 (w.heap.size + 1 + 1) 5 _ _ _ Z5
      have g5 := frozen_of_row W5 (w.heap.size + 1 + 1) 5 _ _ Z5
      have z6 := cell_of_row W5 (w.heap.size + 1 + 1) 6 _ _ _ Z5
      have g6 := frozen_of_row W5 (w.heap.size + 1 + 1) 6 _ _ Z5
      simp [zero37] at z0 z1 z2 z3 z4 z5 z6
      have hyv : (if (-1 : Int) = -1 then 0 else ld t (-1 : Int).toNat) = 0 := rfl
      have hpv : (if (-1 : Int) = -1 then 0 else plI ps r t (-1 : Int).toNat) = 0 := rfl
      have hfin := Lib.hid (readR_eq Hst.out Hpk.out Hya.out hyv Hma.out hpv Hwk.out)
      have BL := Lib.hid blow
      clear hyv hpv R5 Z5 blow b9
      go_wp2
      refine bodyPost_ret (v := .agg #[.int .i64 st, .int .i64 pk, .int .i64 (-1), .int .i64 0, .int .i64 (-1), .int .i64 0, .int .i64 wk]) (by simp [results, Try.results50, go_sem, *]) rfl ⟨?_, ?_⟩
      · rw [hfin.out]; try rfl
      · iterate 7 (refine Below.setCell (p := ⟨w.heap.size + 1 + 1, _, none⟩) ?_ (by show w.heap.size ≤ w.heap.size + 1 + 1; omega) _)
        exact BL.out
    · rcases Nat.eq_zero_or_pos m with hm0 | hm0
      · subst hm0
        have h0 := cell_of_row W3 b' 0 _ _ _ HX.out
        have h1 := cell_of_row W3 b' 1 _ _ _ HX.out
        have h2 := cell_of_row W3 b' 2 _ _ _ HX.out
        have h3 := cell_of_row W3 b' 3 _ _ _ HX.out
        have h4 := cell_of_row W3 b' 4 _ _ _ HX.out
        have h5 := cell_of_row W3 b' 5 _ _ _ HX.out
        have h6 := cell_of_row W3 b' 6 _ _ _ HX.out
        have f3 := frozen_of_row W3 b' 3 _ _ HX.out
        have f5 := frozen_of_row W3 b' 5 _ _ HX.out
        simp at h0 h1 h2 h3 h4 h5 h6
        have blkX := HX.out
        have bX := hb5
        have CON := Lib.hid (HK.out.2.1 (by rfl) _ bX)
        have BLK := Lib.hid blkX
        have BX := Lib.hid bX
        clear blkX bX
        go_upto_region 9 with (first
          | (refine wpList_load_mid rfl 124 (.tmp 5) rfl _ _ rfl (pullL (.slice (some ⟨b, off, none⟩) ps.length cap) r t) _ (by exact hpuS'.out _ BX.out) Try.underlying124 rfl (by exact s124l) ?_; rw [pullL_arr])
          | (go_at_call 74; refine (CON.out).mono ?_; rintro e w6 ⟨rfl, hb6⟩; have blk6 := (hb6.block b' (lt_of_block BLK.out)).trans BLK.out; have b6 := grow_to BX.out hb6; have g5 := cell_of_row w6 b' 5 _ _ _ blk6; have fg5 := frozen_of_row w6 b' 5 _ _ blk6; have BLK6 := Lib.hid blk6; have B6 := Lib.hid b6; clear blk6 b6 hb6; simp at g5))
        have R5 := heap_setCell_same w6 b' 5 _ 37 (.int .i64 (plI ps r t 0)) BLK6.out
        simp at R5
        have b9 := below_setW (j := 5) (v := .int .i64 (plI ps r t 0)) B6.out hb'
        clear h0 h1 h2 h3 h4 h5 h6 f3 f5 g5 fg5
        generalize World.setCell w6 _ _ = W5 at *
        have Z5 := (b9.block (w.heap.size + 1 + 1) (by rw [hsz.out]; omega)).trans hrs.out
        have blow := grow_to hWb.out b9
        have c0 := cell_of_row W5 b' 0 _ _ _ R5
        have c1 := cell_of_row W5 b' 1 _ _ _ R5
        have c2 := cell_of_row W5 b' 2 _ _ _ R5
        have c3 := cell_of_row W5 b' 3 _ _ _ R5
        have c4 := cell_of_row W5 b' 4 _ _ _ R5
        have c5 := cell_of_row W5 b' 5 _ _ _ R5
        have c6 := cell_of_row W5 b' 6 _ _ _ R5
        simp at c0 c1 c2 c3 c4 c5 c6
        have z0 := cell_of_row W5 (w.heap.size + 1 + 1) 0 _ _ _ Z5
        have g0 := frozen_of_row W5 (w.heap.size + 1 + 1) 0 _ _ Z5
        have z1 := cell_of_row W5 (w.heap.size + 1 + 1) 1 _ _ _ Z5
        have g1 := frozen_of_row W5 (w.heap.size + 1 + 1) 1 _ _ Z5
        have z2 := cell_of_row W5 (w.heap.size + 1 + 1) 2 _ _ _ Z5
        have g2 := frozen_of_row W5 (w.heap.size + 1 + 1) 2 _ _ Z5
        have z3 := cell_of_row W5 (w.heap.size + 1 + 1) 3 _ _ _ Z5
        have g3 := frozen_of_row W5 (w.heap.size + 1 + 1) 3 _ _ Z5
        have z4 := cell_of_row W5 (w.heap.size + 1 + 1) 4 _ _ _ Z5
        have g4 := frozen_of_row W5 (w.heap.size + 1 + 1) 4 _ _ Z5
        have z5 := cell_of_row W5 (w.heap.size + 1 + 1) 5 _ _ _ Z5
        have g5 := frozen_of_row W5 (w.heap.size + 1 + 1) 5 _ _ Z5
        have z6 := cell_of_row W5 (w.heap.size + 1 + 1) 6 _ _ _ Z5
        have g6 := frozen_of_row W5 (w.heap.size + 1 + 1) 6 _ _ Z5
        simp [zero37] at z0 z1 z2 z3 z4 z5 z6
        have hyv : (if (-1 : Int) = -1 then 0 else ld t (-1 : Int).toNat) = 0 := rfl
        have hpv : (if ((0 : Nat) : Int) = -1 then 0 else plI ps r t ((0 : Nat) : Int).toNat) = plI ps r t 0 := rfl
        have hfin := Lib.hid (readR_eq Hst.out Hpk.out Hya.out hyv Hma.out hpv Hwk.out)
        have BL := Lib.hid blow
        clear hyv hpv R5 Z5 blow b9
        go_wp2
        refine bodyPost_ret (v := .agg #[.int .i64 st, .int .i64 pk, .int .i64 (-1), .int .i64 0, .int .i64 0, .int .i64 (plI ps r t 0), .int .i64 wk]) (by simp [results, Try.results50, go_sem, *]) rfl ⟨?_, ?_⟩
        · rw [hfin.out]; try rfl
        · iterate 7 (refine Below.setCell (p := ⟨w.heap.size + 1 + 1, _, none⟩) ?_ (by show w.heap.size ≤ w.heap.size + 1 + 1; omega) _)
          exact BL.out
      · obtain ⟨m, rfl⟩ : ∃ j, m = j + 1 := ⟨m - 1, by omega⟩
        have h0 := cell_of_row W3 b' 0 _ _ _ HX.out
        have h1 := cell_of_row W3 b' 1 _ _ _ HX.out
        have h2 := cell_of_row W3 b' 2 _ _ _ HX.out
        have h3 := cell_of_row W3 b' 3 _ _ _ HX.out
        have h4 := cell_of_row W3 b' 4 _ _ _ HX.out
        have h5 := cell_of_row W3 b' 5 _ _ _ HX.out
        have h6 := cell_of_row W3 b' 6 _ _ _ HX.out
        have f3 := frozen_of_row W3 b' 3 _ _ HX.out
        have f5 := frozen_of_row W3 b' 5 _ _ HX.out
        simp at h0 h1 h2 h3 h4 h5 h6
        have hmn : ((m : Int) + 1 == -1) = false := by rw [beq_eq_false_iff_ne]; omega
        have hmn' : ((m : Int) + 1 != -1) = true := by rw [bne_iff_ne]; omega
        have blkX := HX.out
        have bX := hb5
        have CON := Lib.hid (HK.out.2.2 m (by omega) _ bX)
        have BLK := Lib.hid blkX
        have BX := Lib.hid bX
        clear blkX bX
        go_upto_region 9 with (first
          | (refine wpList_load_mid rfl 124 (.tmp 5) rfl _ _ rfl (pullL (.slice (some ⟨b, off, none⟩) ps.length cap) r t) _ (by exact hpuS'.out _ BX.out) Try.underlying124 rfl (by exact s124l) ?_; rw [pullL_arr])
          | (go_at_call 74; refine (CON.out).mono ?_; rintro e w6 ⟨rfl, hb6⟩; have blk6 := (hb6.block b' (lt_of_block BLK.out)).trans BLK.out; have b6 := grow_to BX.out hb6; have g5 := cell_of_row w6 b' 5 _ _ _ blk6; have fg5 := frozen_of_row w6 b' 5 _ _ blk6; have BLK6 := Lib.hid blk6; have B6 := Lib.hid b6; clear blk6 b6 hb6; simp at g5))
        have R5 := heap_setCell_same w6 b' 5 _ 37 (.int .i64 (plI ps r t (m + 1))) BLK6.out
        simp at R5
        have b9 := below_setW (j := 5) (v := .int .i64 (plI ps r t (m + 1))) B6.out hb'
        clear h0 h1 h2 h3 h4 h5 h6 f3 f5 g5 fg5
        generalize World.setCell w6 _ _ = W5 at *
        have Z5 := (b9.block (w.heap.size + 1 + 1) (by rw [hsz.out]; omega)).trans hrs.out
        have blow := grow_to hWb.out b9
        have c0 := cell_of_row W5 b' 0 _ _ _ R5
        have c1 := cell_of_row W5 b' 1 _ _ _ R5
        have c2 := cell_of_row W5 b' 2 _ _ _ R5
        have c3 := cell_of_row W5 b' 3 _ _ _ R5
        have c4 := cell_of_row W5 b' 4 _ _ _ R5
        have c5 := cell_of_row W5 b' 5 _ _ _ R5
        have c6 := cell_of_row W5 b' 6 _ _ _ R5
        simp at c0 c1 c2 c3 c4 c5 c6
        have z0 := cell_of_row W5 (w.heap.size + 1 + 1) 0 _ _ _ Z5
        have g0 := frozen_of_row W5 (w.heap.size + 1 + 1) 0 _ _ Z5
        have z1 := cell_of_row W5 (w.heap.size + 1 + 1) 1 _ _ _ Z5
        have g1 := frozen_of_row W5 (w.heap.size + 1 + 1) 1 _ _ Z5
        have z2 := cell_of_row W5 (w.heap.size + 1 + 1) 2 _ _ _ Z5
        have g2 := frozen_of_row W5 (w.heap.size + 1 + 1) 2 _ _ Z5
        have z3 := cell_of_row W5 (w.heap.size + 1 + 1) 3 _ _ _ Z5
        have g3 := frozen_of_row W5 (w.heap.size + 1 + 1) 3 _ _ Z5
        have z4 := cell_of_row W5 (w.heap.size + 1 + 1) 4 _ _ _ Z5
        have g4 := frozen_of_row W5 (w.heap.size + 1 + 1) 4 _ _ Z5
        have z5 := cell_of_row W5 (w.heap.size + 1 + 1) 5 _ _ _ Z5
        have g5 := frozen_of_row W5 (w.heap.size + 1 + 1) 5 _ _ Z5
        have z6 := cell_of_row W5 (w.heap.size + 1 + 1) 6 _ _ _ Z5
        have g6 := frozen_of_row W5 (w.heap.size + 1 + 1) 6 _ _ Z5
        simp [zero37] at z0 z1 z2 z3 z4 z5 z6
        have hyv : (if (-1 : Int) = -1 then 0 else ld t (-1 : Int).toNat) = 0 := rfl
        have hpv : (if ((m + 1 : Nat) : Int) = -1 then 0 else plI ps r t ((m + 1 : Nat) : Int).toNat) = plI ps r t (m + 1) := by rw [if_neg (by omega)]; simp
        have hfin := Lib.hid (readR_eq Hst.out Hpk.out Hya.out hyv Hma.out hpv Hwk.out)
        have BL := Lib.hid blow
        clear hyv hpv R5 Z5 blow b9
        go_wp2
        refine bodyPost_ret (v := .agg #[.int .i64 st, .int .i64 pk, .int .i64 (-1), .int .i64 0, .int .i64 ((m : Int) + 1), .int .i64 (plI ps r t (m + 1)), .int .i64 wk]) (by simp [results, Try.results50, go_sem, *]) rfl ⟨?_, ?_⟩
        · rw [hfin.out]; try rfl
        · iterate 7 (refine Below.setCell (p := ⟨w.heap.size + 1 + 1, _, none⟩) ?_ (by show w.heap.size ≤ w.heap.size + 1 + 1; omega) _)
          exact BL.out
  · rcases Hmc.out with ⟨rfl, _⟩ | ⟨m, hm, rfl, _, _⟩
    · skip
      have h0 := cell_of_row W3 b' 0 _ _ _ HX.out
      have h1 := cell_of_row W3 b' 1 _ _ _ HX.out
      have h2 := cell_of_row W3 b' 2 _ _ _ HX.out
      have h3 := cell_of_row W3 b' 3 _ _ _ HX.out
      have h4 := cell_of_row W3 b' 4 _ _ _ HX.out
      have h5 := cell_of_row W3 b' 5 _ _ _ HX.out
      have h6 := cell_of_row W3 b' 6 _ _ _ HX.out
      have f3 := frozen_of_row W3 b' 3 _ _ HX.out
      have f5 := frozen_of_row W3 b' 5 _ _ HX.out
      simp at h0 h1 h2 h3 h4 h5 h6
      have hkb : (k : Int) < 20 := by omega
      have hkn : ((k : Int) == -1) = false := by rw [beq_eq_false_iff_ne]; omega
      have hkn' : ((k : Int) != -1) = true := by rw [bne_iff_ne]; omega
      have hin := HIN.out W3 hb5 k (by omega)
      have blkX := heap_setCell_same W3 b' 3 _ 37 (.int .i64 (ld t k)) HX.out
      simp at blkX
      have bX := below_setW (j := 3) (v := .int .i64 (ld t k)) hb5 hb'
      have BLK := Lib.hid blkX
      have BX := Lib.hid bX
      clear blkX bX
      go_upto_region 9 with (fail)
      have R5 := BLK.out
      have b9 := BX.out
      clear h0 h1 h2 h3 h4 h5 h6 f3 f5
      generalize World.setCell W3 _ _ = W5 at *
      have Z5 := (b9.block (w.heap.size + 1 + 1) (by rw [hsz.out]; omega)).trans hrs.out
      have blow := grow_to hWb.out b9
      have c0 := cell_of_row W5 b' 0 _ _ _ R5
      have c1 := cell_of_row W5 b' 1 _ _ _ R5
      have c2 := cell_of_row W5 b' 2 _ _ _ R5
      have c3 := cell_of_row W5 b' 3 _ _ _ R5
      have c4 := cell_of_row W5 b' 4 _ _ _ R5
      have c5 := cell_of_row W5 b' 5 _ _ _ R5
      have c6 := cell_of_row W5 b' 6 _ _ _ R5
      simp at c0 c1 c2 c3 c4 c5 c6
      have z0 := cell_of_row W5 (w.heap.size + 1 + 1) 0 _ _ _ Z5
      have g0 := frozen_of_row W5 (w.heap.size + 1 + 1) 0 _ _ Z5
      have z1 := cell_of_row W5 (w.heap.size + 1 + 1) 1 _ _ _ Z5
      have g1 := frozen_of_row W5 (w.heap.size + 1 + 1) 1 _ _ Z5
      have z2 := cell_of_row W5 (w.heap.size + 1 + 1) 2 _ _ _ Z5
      have g2 := frozen_of_row W5 (w.heap.size + 1 + 1) 2 _ _ Z5
      have z3 := cell_of_row W5 (w.heap.size + 1 + 1) 3 _ _ _ Z5
      have g3 := frozen_of_row W5 (w.heap.size + 1 + 1) 3 _ _ Z5
      have z4 := cell_of_row W5 (w.heap.size + 1 + 1) 4 _ _ _ Z5
      have g4 := frozen_of_row W5 (w.heap.size + 1 + 1) 4 _ _ Z5
      have z5 := cell_of_row W5 (w.heap.size + 1 + 1) 5 _ _ _ Z5
      have g5 := frozen_of_row W5 (w.heap.size + 1 + 1) 5 _ _ Z5
      have z6 := cell_of_row W5 (w.heap.size + 1 + 1) 6 _ _ _ Z5
      have g6 := frozen_of_row W5 (w.heap.size + 1 + 1) 6 _ _ Z5
      simp [zero37] at z0 z1 z2 z3 z4 z5 z6
      have hyv : (if (k : Int) = -1 then 0 else ld t (k : Int).toNat) = ld t k := by rw [if_neg (by omega)]; simp
      have hpv : (if (-1 : Int) = -1 then 0 else plI ps r t (-1 : Int).toNat) = 0 := rfl
      have hfin := Lib.hid (readR_eq Hst.out Hpk.out Hya.out hyv Hma.out hpv Hwk.out)
      have BL := Lib.hid blow
      clear hyv hpv R5 Z5 blow b9
      go_wp2
      refine bodyPost_ret (v := .agg #[.int .i64 st, .int .i64 pk, .int .i64 (k : Int), .int .i64 (ld t k), .int .i64 (-1), .int .i64 0, .int .i64 wk]) (by simp [results, Try.results50, go_sem, *]) rfl ⟨?_, ?_⟩
      · rw [hfin.out]; try rfl
      · iterate 7 (refine Below.setCell (p := ⟨w.heap.size + 1 + 1, _, none⟩) ?_ (by show w.heap.size ≤ w.heap.size + 1 + 1; omega) _)
        exact BL.out
    · rcases Nat.eq_zero_or_pos m with hm0 | hm0
      · subst hm0
        have h0 := cell_of_row W3 b' 0 _ _ _ HX.out
        have h1 := cell_of_row W3 b' 1 _ _ _ HX.out
        have h2 := cell_of_row W3 b' 2 _ _ _ HX.out
        have h3 := cell_of_row W3 b' 3 _ _ _ HX.out
        have h4 := cell_of_row W3 b' 4 _ _ _ HX.out
        have h5 := cell_of_row W3 b' 5 _ _ _ HX.out
        have h6 := cell_of_row W3 b' 6 _ _ _ HX.out
        have f3 := frozen_of_row W3 b' 3 _ _ HX.out
        have f5 := frozen_of_row W3 b' 5 _ _ HX.out
        simp at h0 h1 h2 h3 h4 h5 h6
        have hkb : (k : Int) < 20 := by omega
        have hkn : ((k : Int) == -1) = false := by rw [beq_eq_false_iff_ne]; omega
        have hkn' : ((k : Int) != -1) = true := by rw [bne_iff_ne]; omega
        have hin := HIN.out W3 hb5 k (by omega)
        have blkX := heap_setCell_same W3 b' 3 _ 37 (.int .i64 (ld t k)) HX.out
        simp at blkX
        have bX := below_setW (j := 3) (v := .int .i64 (ld t k)) hb5 hb'
        have CON := Lib.hid (HK.out.2.1 (by rfl) _ bX)
        have BLK := Lib.hid blkX
        have BX := Lib.hid bX
        clear blkX bX
        go_upto_region 9 with (first
          | (refine wpList_load_mid rfl 124 (.tmp 5) rfl _ _ rfl (pullL (.slice (some ⟨b, off, none⟩) ps.length cap) r t) _ (by exact hpuS'.out _ BX.out) Try.underlying124 rfl (by exact s124l) ?_; rw [pullL_arr])
          | (go_at_call 74; refine (CON.out).mono ?_; rintro e w6 ⟨rfl, hb6⟩; have blk6 := (hb6.block b' (lt_of_block BLK.out)).trans BLK.out; have b6 := grow_to BX.out hb6; have g5 := cell_of_row w6 b' 5 _ _ _ blk6; have fg5 := frozen_of_row w6 b' 5 _ _ blk6; have BLK6 := Lib.hid blk6; have B6 := Lib.hid b6; clear blk6 b6 hb6; simp at g5))
        have R5 := heap_setCell_same w6 b' 5 _ 37 (.int .i64 (plI ps r t 0)) BLK6.out
        simp at R5
        have b9 := below_setW (j := 5) (v := .int .i64 (plI ps r t 0)) B6.out hb'
        clear h0 h1 h2 h3 h4 h5 h6 f3 f5 g5 fg5
        generalize World.setCell w6 _ _ = W5 at *
        have Z5 := (b9.block (w.heap.size + 1 + 1) (by rw [hsz.out]; omega)).trans hrs.out
        have blow := grow_to hWb.out b9
        have c0 := cell_of_row W5 b' 0 _ _ _ R5
        have c1 := cell_of_row W5 b' 1 _ _ _ R5
        have c2 := cell_of_row W5 b' 2 _ _ _ R5
        have c3 := cell_of_row W5 b' 3 _ _ _ R5
        have c4 := cell_of_row W5 b' 4 _ _ _ R5
        have c5 := cell_of_row W5 b' 5 _ _ _ R5
        have c6 := cell_of_row W5 b' 6 _ _ _ R5
        simp at c0 c1 c2 c3 c4 c5 c6
        have z0 := cell_of_row W5 (w.heap.size + 1 + 1) 0 _ _ _ Z5
        have g0 := frozen_of_row W5 (w.heap.size + 1 + 1) 0 _ _ Z5
        have z1 := cell_of_row W5 (w.heap.size + 1 + 1) 1 _ _ _ Z5
        have g1 := frozen_of_row W5 (w.heap.size + 1 + 1) 1 _ _ Z5
        have z2 := cell_of_row W5 (w.heap.size + 1 + 1) 2 _ _ _ Z5
        have g2 := frozen_of_row W5 (w.heap.size + 1 + 1) 2 _ _ Z5
        have z3 := cell_of_row W5 (w.heap.size + 1 + 1) 3 _ _ _ Z5
        have g3 := frozen_of_row W5 (w.heap.size + 1 + 1) 3 _ _ Z5
        have z4 := cell_of_row W5 (w.heap.size + 1 + 1) 4 _ _ _ Z5
        have g4 := frozen_of_row W5 (w.heap.size + 1 + 1) 4 _ _ Z5
        have z5 := cell_of_row W5 (w.heap.size + 1 + 1) 5 _ _ _ Z5
        have g5 := frozen_of_row W5 (w.heap.size + 1 + 1) 5 _ _ Z5
        have z6 := cell_of_row W5 (w.heap.size + 1 + 1) 6 _ _ _ Z5
        have g6 := frozen_of_row W5 (w.heap.size + 1 + 1) 6 _ _ Z5
        simp [zero37] at z0 z1 z2 z3 z4 z5 z6
        have hyv : (if (k : Int) = -1 then 0 else ld t (k : Int).toNat) = ld t k := by rw [if_neg (by omega)]; simp
        have hpv : (if ((0 : Nat) : Int) = -1 then 0 else plI ps r t ((0 : Nat) : Int).toNat) = plI ps r t 0 := rfl
        have hfin := Lib.hid (readR_eq Hst.out Hpk.out Hya.out hyv Hma.out hpv Hwk.out)
        have BL := Lib.hid blow
        clear hyv hpv R5 Z5 blow b9
        go_wp2
        refine bodyPost_ret (v := .agg #[.int .i64 st, .int .i64 pk, .int .i64 (k : Int), .int .i64 (ld t k), .int .i64 0, .int .i64 (plI ps r t 0), .int .i64 wk]) (by simp [results, Try.results50, go_sem, *]) rfl ⟨?_, ?_⟩
        · rw [hfin.out]; try rfl
        · iterate 7 (refine Below.setCell (p := ⟨w.heap.size + 1 + 1, _, none⟩) ?_ (by show w.heap.size ≤ w.heap.size + 1 + 1; omega) _)
          exact BL.out
      · obtain ⟨m, rfl⟩ : ∃ j, m = j + 1 := ⟨m - 1, by omega⟩
        have h0 := cell_of_row W3 b' 0 _ _ _ HX.out
        have h1 := cell_of_row W3 b' 1 _ _ _ HX.out
        have h2 := cell_of_row W3 b' 2 _ _ _ HX.out
        have h3 := cell_of_row W3 b' 3 _ _ _ HX.out
        have h4 := cell_of_row W3 b' 4 _ _ _ HX.out
        have h5 := cell_of_row W3 b' 5 _ _ _ HX.out
        have h6 := cell_of_row W3 b' 6 _ _ _ HX.out
        have f3 := frozen_of_row W3 b' 3 _ _ HX.out
        have f5 := frozen_of_row W3 b' 5 _ _ HX.out
        simp at h0 h1 h2 h3 h4 h5 h6
        have hkb : (k : Int) < 20 := by omega
        have hkn : ((k : Int) == -1) = false := by rw [beq_eq_false_iff_ne]; omega
        have hkn' : ((k : Int) != -1) = true := by rw [bne_iff_ne]; omega
        have hin := HIN.out W3 hb5 k (by omega)
        have hmn : ((m : Int) + 1 == -1) = false := by rw [beq_eq_false_iff_ne]; omega
        have hmn' : ((m : Int) + 1 != -1) = true := by rw [bne_iff_ne]; omega
        have blkX := heap_setCell_same W3 b' 3 _ 37 (.int .i64 (ld t k)) HX.out
        simp at blkX
        have bX := below_setW (j := 3) (v := .int .i64 (ld t k)) hb5 hb'
        have CON := Lib.hid (HK.out.2.2 m (by omega) _ bX)
        have BLK := Lib.hid blkX
        have BX := Lib.hid bX
        clear blkX bX
        go_upto_region 9 with (first
          | (refine wpList_load_mid rfl 124 (.tmp 5) rfl _ _ rfl (pullL (.slice (some ⟨b, off, none⟩) ps.length cap) r t) _ (by exact hpuS'.out _ BX.out) Try.underlying124 rfl (by exact s124l) ?_; rw [pullL_arr])
          | (go_at_call 74; refine (CON.out).mono ?_; rintro e w6 ⟨rfl, hb6⟩; have blk6 := (hb6.block b' (lt_of_block BLK.out)).trans BLK.out; have b6 := grow_to BX.out hb6; have g5 := cell_of_row w6 b' 5 _ _ _ blk6; have fg5 := frozen_of_row w6 b' 5 _ _ blk6; have BLK6 := Lib.hid blk6; have B6 := Lib.hid b6; clear blk6 b6 hb6; simp at g5))
        have R5 := heap_setCell_same w6 b' 5 _ 37 (.int .i64 (plI ps r t (m + 1))) BLK6.out
        simp at R5
        have b9 := below_setW (j := 5) (v := .int .i64 (plI ps r t (m + 1))) B6.out hb'
        clear h0 h1 h2 h3 h4 h5 h6 f3 f5 g5 fg5
        generalize World.setCell w6 _ _ = W5 at *
        have Z5 := (b9.block (w.heap.size + 1 + 1) (by rw [hsz.out]; omega)).trans hrs.out
        have blow := grow_to hWb.out b9
        have c0 := cell_of_row W5 b' 0 _ _ _ R5
        have c1 := cell_of_row W5 b' 1 _ _ _ R5
        have c2 := cell_of_row W5 b' 2 _ _ _ R5
        have c3 := cell_of_row W5 b' 3 _ _ _ R5
        have c4 := cell_of_row W5 b' 4 _ _ _ R5
        have c5 := cell_of_row W5 b' 5 _ _ _ R5
        have c6 := cell_of_row W5 b' 6 _ _ _ R5
        simp at c0 c1 c2 c3 c4 c5 c6
        have z0 := cell_of_row W5 (w.heap.size + 1 + 1) 0 _ _ _ Z5
        have g0 := frozen_of_row W5 (w.heap.size + 1 + 1) 0 _ _ Z5
        have z1 := cell_of_row W5 (w.heap.size + 1 + 1) 1 _ _ _ Z5
        have g1 := frozen_of_row W5 (w.heap.size + 1 + 1) 1 _ _ Z5
        have z2 := cell_of_row W5 (w.heap.size + 1 + 1) 2 _ _ _ Z5
        have g2 := frozen_of_row W5 (w.heap.size + 1 + 1) 2 _ _ Z5
        have z3 := cell_of_row W5 (w.heap.size + 1 + 1) 3 _ _ _ Z5
        have g3 := frozen_of_row W5 (w.heap.size + 1 + 1) 3 _ _ Z5
        have z4 := cell_of_row W5 (w.heap.size + 1 + 1) 4 _ _ _ Z5
        have g4 := frozen_of_row W5 (w.heap.size + 1 + 1) 4 _ _ Z5
        have z5 := cell_of_row W5 (w.heap.size + 1 + 1) 5 _ _ _ Z5
        have g5 := frozen_of_row W5 (w.heap.size + 1 + 1) 5 _ _ Z5
        have z6 := cell_of_row W5 (w.heap.size + 1 + 1) 6 _ _ _ Z5
        have g6 := frozen_of_row W5 (w.heap.size + 1 + 1) 6 _ _ Z5
        simp [zero37] at z0 z1 z2 z3 z4 z5 z6
        have hyv : (if (k : Int) = -1 then 0 else ld t (k : Int).toNat) = ld t k := by rw [if_neg (by omega)]; simp
        have hpv : (if ((m + 1 : Nat) : Int) = -1 then 0 else plI ps r t ((m + 1 : Nat) : Int).toNat) = plI ps r t (m + 1) := by rw [if_neg (by omega)]; simp
        have hfin := Lib.hid (readR_eq Hst.out Hpk.out Hya.out hyv Hma.out hpv Hwk.out)
        have BL := Lib.hid blow
        clear hyv hpv R5 Z5 blow b9
        go_wp2
        refine bodyPost_ret (v := .agg #[.int .i64 st, .int .i64 pk, .int .i64 (k : Int), .int .i64 (ld t k), .int .i64 ((m : Int) + 1), .int .i64 (plI ps r t (m + 1)), .int .i64 wk]) (by simp [results, Try.results50, go_sem, *]) rfl ⟨?_, ?_⟩
        · rw [hfin.out]; try rfl
        · iterate 7 (refine Below.setCell (p := ⟨w.heap.size + 1 + 1, _, none⟩) ?_ (by show w.heap.size ≤ w.heap.size + 1 + 1; omega) _)
          exact BL.out

end Go.Proofs.Ytfjlnejeffkdoaa
