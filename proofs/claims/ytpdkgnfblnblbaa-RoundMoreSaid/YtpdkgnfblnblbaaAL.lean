/- The trial of one laboratory by itself: contract. Condition: the round is valid, and there is such a laboratory. -/
import Derived.Test.YtpdkgnfblnblbaaRP
import Derived.Test.YtpdkgnfblnblbaaP
namespace Go.Proofs.Ytpdkgnfblnblbaa
open Go.RowKit Go.Shelf
attribute [local irreducible] arrV wpQuiet
theorem wpList_skip {ops : Array Oper} {rest : List Oper} {o : Oper} {a : Act} {Q : Exit → Act → World → Prop} {w w' : World} (hgd : o.guard = none) (hr : (execOp a.eval o).run Try.prog w = .ok .skip w') (h : wpList Try.prog ops Q rest (a.put o.dst undef) w') : wpList Try.prog ops Q (o :: rest) a w := by
  refine wpList_plain hgd fun K hK => ?_
  unfold Oper.wp
  rw [hr]
  exact hK _ _ h
/-- The laboratory by itself, with lots of any value. -/
def aloneR (R : Rd) (k : Nat) : Rd := ⟨List.replicate R.lots.length ⟨0, 1000⟩, R.smp, R.sp, [lb R.labs k]⟩
theorem alone_ok {R : Rd} (hR : RdOk R) {k : Nat} (hk : k < R.labs.length) : RdOk (aloneR R k) := by
  refine ⟨by simp [aloneR, hR.l4], by simp [aloneR, hR.l0], hR.s8, by simp [aloneR], hR.sp, fun l hl => ?_, fun s hs => ?_, fun x hx => ?_, fun x hx => ?_, fun x hx => ?_⟩
  · simp only [aloneR, List.mem_replicate] at hl
    rw [hl.2]
    exact ⟨by decide, by decide, by decide⟩
  · have := hR.smp s hs
    simpa [aloneR] using this
  · obtain rfl := List.mem_singleton.1 hx
    exact hR.tol _ (lb_mem hk)
  · obtain rfl := List.mem_singleton.1 hx
    exact hR.len _ (lb_mem hk)
  · obtain rfl := List.mem_singleton.1 hx
    exact hR.rs _ (lb_mem hk)
/-- One laboratory of a list, as a list. -/
theorem labs_one {n : Nat} {w : World} {a : Option Addr} {cap k : Nat} {xs : List Lb} (h : LabsV n w (.slice a xs.length cap) xs) (hk : k < xs.length) : ∃ b off, a = some ⟨b, off, none⟩ ∧ b < n ∧ ∀ c, LabsV n w (.slice (some ⟨b, off + k * 2, none⟩) 1 c) [lb xs k] := by
  obtain ⟨a', c', e, hp⟩ := h
  simp only [Value.slice.injEq, true_and] at e
  obtain ⟨rfl, rfl⟩ := e
  obtain ⟨b, off, rfl, hb, hc⟩ := hp (by omega)
  refine ⟨b, off, rfl, hb, fun c => ⟨_, c, rfl, fun _ => ⟨b, off + k * 2, rfl, hb, fun i hi => ?_⟩⟩⟩
  obtain rfl : i = 0 := by simpa using hi
  obtain ⟨h1, r, h2, h3⟩ := hc k hk
  exact ⟨by simpa [lb] using h1, r, by simpa using h2, by simpa [lb] using h3⟩

set_option maxRecDepth 100000 in
set_option maxHeartbeats 2000000 in
theorem alone_any (n : Nat) (p : Rp) (R : Rd) (k : Nat) (w : World) (hR : RdOk R) (hk : k < R.labs.length) (hcap : R.labs.length ≤ p.bc) (hV : RdV n w p R) (hn : n ≤ w.heap.size) :
    Calls Try.prog 72 #[rdV p R, .int .i64 k] w fun e w' => (∃ q : Rp, e = .returned (.agg #[.slice q.la R.lots.length q.lc, .slice q.sa R.smp.length q.sc, .int .i64 R.sp, .slice q.ba 1 q.bc, .bool false, .bool false, .bool false, .bool false, .bool false, .bool false]) ∧ RdV w'.heap.size w' q (aloneR R k)) ∧ Below w.heap.size w w' := by
  have hL : R.lots.length = 1 ∨ R.lots.length = 2 ∨ R.lots.length = 3 ∨ R.lots.length = 4 := by have := hR.l4; have := hR.l0; omega
  obtain ⟨b, off, hba, hbn, hone⟩ := labs_one (k := k) hV.labs hk
  obtain ⟨pla, plc, psa, psc, pba, pbc⟩ := p
  simp only at hba hcap
  subst hba
  have HSM := Lib.hid hV.smp
  have HONE := Lib.hid (hone (pbc - k))
  have HEV := Lib.hid everyValue_any
  have HRE := Lib.hid fun g w h => repeat_any R.lots.length g hL w h
  have HX := Lib.hid (box2 w (.cells #[.slice pla R.lots.length plc, .slice psa R.smp.length psc, .int .i64 R.sp, .slice (some ⟨b, off, none⟩) R.labs.length pbc] 34) (.cells #[.slice none 0 0, .slice none 0 0, .int .i64 0, .slice none 0 0, .bool false, .bool false, .bool false, .bool false, .bool false, .bool false] 83))
  have HB := Lib.hid (below2 w (.cells #[.slice pla R.lots.length plc, .slice psa R.smp.length psc, .int .i64 R.sp, .slice (some ⟨b, off, none⟩) R.labs.length pbc] 34) (.cells #[.slice none 0 0, .slice none 0 0, .int .i64 0, .slice none 0 0, .bool false, .bool false, .bool false, .bool false, .bool false, .bool false] 83))
  have HSZ : Hid (w.heap.size + 2 = ((w.alloc (.cells #[.slice pla R.lots.length plc, .slice psa R.smp.length psc, .int .i64 R.sp, .slice (some ⟨b, off, none⟩) R.labs.length pbc] 34)).alloc (.cells #[.slice none 0 0, .slice none 0 0, .int .i64 0, .slice none 0 0, .bool false, .bool false, .bool false, .bool false, .bool false, .bool false] 83)).heap.size) := Lib.hid (by simp)
  have hk6 := hR.k6
  have hsmv := hV.smp.up hn
  have hlbv := (hone (pbc - k)).up hn
  have HSMV := Lib.hid hsmv
  have HLBV := Lib.hid hlbv
  clear hV hR hL hsmv hlbv hone
  unfold rdV
  have hwk : IntKind.i64.wrap ((k : Int) + 1) = (k : Int) + 1 := IntWalk.i64_in _ (by omega)
  go_enter Try.func72, Try.ntmps72
  go_wp2_with fail
  generalize World.alloc (World.alloc w _) _ = W at *
  have HC : Hid (∀ w', Below W.heap.size W w' → w'.cell? ⟨w.heap.size, 0, none⟩ = some (.slice pla R.lots.length plc) ∧ w.heap.size < w'.heap.size) := Lib.hid fun w' hS => by
    have hx := (hS.block _ (lt_of_block HX.out.1)).trans HX.out.1
    exact ⟨cell_of_row w' _ 0 _ _ _ hx, lt_of_block hx⟩
  refine wp_region_noPanic ?_
  refine wp_region_walkT (fun w' => Below W.heap.size W w') 6 [(0, 2), (0, 3), (0, 4), (1, 0), (2, 1), (1, 5)] (below_drawn _) (by decide +kernel) (fun _ _ _ _ _ h => h) (by decide +kernel) ?_
  iterate 3
    (refine WalkT.takes rfl rfl ?_; apply Exists.intro; refine ⟨fun w' hS => ?_, ?_⟩; (obtain ⟨z0, z1⟩ := HC.out w' hS; clear hS; go_simp; with_reducible rfl); simp only [List.getElem_toArray, List.getElem_cons_succ, List.getElem_cons_zero, Act.put, List.setIfInBounds_toArray, List.set_cons_zero, List.set_cons_succ])
  refine WalkT.calls rfl rfl ?_; apply Exists.intro; apply Exists.intro; refine ⟨(by go_simp; exact ⟨rfl, rfl⟩), ?_⟩
  refine (HEV.out _).mono ?_
  rintro e w2 ⟨rfl, hb2⟩
  have hS2 : Below W.heap.size W w2 := grow_to (below_drawn W) hb2
  refine ⟨_, rfl, hS2, ?_⟩
  simp only [List.getElem_toArray, List.getElem_cons_succ, List.getElem_cons_zero, Act.put, List.setIfInBounds_toArray, List.set_cons_zero, List.set_cons_succ]
  have hS3 : Below W.heap.size W (w2.alloc (.cells #[.int .i64 0, .int .i64 1000] 46)) := grow_to hS2 (box_below _ _)
  refine WalkT.acts rfl rfl (exec_buildSlice 31 46 1 _ rfl el31.u #[.int .i64 0, .int .i64 1000] (by kernel_rfl)) hS3 ?_
  simp only [List.getElem_toArray, List.getElem_cons_succ, List.getElem_cons_zero, Act.put, List.setIfInBounds_toArray, List.set_cons_zero, List.set_cons_succ]
  refine WalkT.calls rfl rfl ?_; apply Exists.intro; apply Exists.intro; refine ⟨(by go_simp; exact ⟨rfl, rfl⟩), ?_⟩
  refine (HRE.out w2.heap.size _ (heap_alloc_new w2 _)).mono ?_
  rintro e w4 ⟨⟨v, rfl, ho⟩, hb4⟩
  have hS4 := grow_to hS3 hb4
  refine ⟨_, rfl, hS4, ?_⟩
  obtain ⟨va, vc, rfl⟩ := own_shape ho
  simp only [List.getElem_toArray, List.getElem_cons_succ, List.getElem_cons_zero, Act.put, List.setIfInBounds_toArray, List.set_cons_zero, List.set_cons_succ]
  refine WalkT.fin ?_
  simp only [List.drop_succ_cons, List.drop_zero]
  refine wpList_is rfl (.pointer (some ⟨w.heap.size, 0, none⟩)) (by go_simp) ?_
  simp only [List.getElem_toArray, List.getElem_cons_succ, List.getElem_cons_zero, Act.put, List.setIfInBounds_toArray, List.set_cons_zero, List.set_cons_succ]
  have hx4 := (hS4.block _ (lt_of_block HX.out.1)).trans HX.out.1
  refine wpList_skip rfl (exec_store_one 31 (.tmp 11) (.tmp 10) rfl rfl rfl (cell_of_row w4 w.heap.size 0 _ _ _ hx4) (frozen_of_row w4 w.heap.size 0 _ _ hx4) (by kernel_rfl)) ?_
  simp only [List.getElem_toArray, List.getElem_cons_succ, List.getElem_cons_zero, Act.put, List.setIfInBounds_toArray, List.set_cons_zero, List.set_cons_succ]
  simp only [wpList]
  refine NoPanic.normal ?_
  have hx5 : (w4.setCell ⟨w.heap.size, 0, none⟩ (.slice va R.lots.length vc)).heap[w.heap.size]? = some (.cells #[.slice va R.lots.length vc, .slice psa R.smp.length psc, .int .i64 R.sp, .slice (some ⟨b, off, none⟩) R.labs.length pbc] 34 (0, 0)) := heap_setCell_same w4 w.heap.size 0 _ 34 _ hx4
  have hx52 : (w4.setCell ⟨w.heap.size, 0, none⟩ (.slice va R.lots.length vc)).heap[w.heap.size + 1]? = some (.cells #[.slice none 0 0, .slice none 0 0, .int .i64 0, .slice none 0 0, .bool false, .bool false, .bool false, .bool false, .bool false, .bool false] 83 (0, 0)) := (heap_setCell_other w4 ⟨w.heap.size, 0, none⟩ (w.heap.size + 1) _ (by show w.heap.size + 1 ≠ w.heap.size; omega)).trans ((hS4.block _ (lt_of_block HX.out.2)).trans HX.out.2)
  have HB5 : Hid (Below w.heap.size w (w4.setCell ⟨w.heap.size, 0, none⟩ (.slice va R.lots.length vc))) := Lib.hid ((below_to HB.out hS4).setCell (p := ⟨w.heap.size, 0, none⟩) (Nat.le_refl _) _)
  have HO5 : Hid ((w4.setCell ⟨w.heap.size, 0, none⟩ (.slice va R.lots.length vc)).ownsRow (w.heap.size + 2) 46 2 (.slice va R.lots.length vc) R.lots.length (flatR (List.replicate R.lots.length ⟨0, 1000⟩))) := Lib.hid (own_put (ownsRow_mono (by have := hS2.size; rw [HSZ.out]; simp; omega) ho) (by omega))
  have HX52 := Lib.hid hx52
  clear hx4 hS2 hS3 hb4 hb2 ho hS4 HC HRE HEV HX hx52
  generalize World.setCell w4 _ _ = w5 at *
  have HX5 := Lib.hid hx5
  have c0 := cell_of_row w5 w.heap.size 0 _ _ _ hx5
  have c1 := cell_of_row w5 w.heap.size 1 _ _ _ hx5
  have c2 := cell_of_row w5 w.heap.size 2 _ _ _ hx5
  have c3 := cell_of_row w5 w.heap.size 3 _ _ _ hx5
  have f3 := frozen_of_row w5 w.heap.size 3 _ _ hx5
  simp only [List.getElem?_toArray, List.getElem?_cons_zero, List.getElem?_cons_succ] at c0 c1 c2 c3
  have l5 := lt_of_block hx5
  have hk0 : (0 : Int) ≤ k := by omega
  have hk1 : (k : Int) ≤ (k : Int) + 1 := by omega
  have hk2 : (k : Int) + 1 ≤ pbc := by omega
  have hk3 : k + 1 ≤ pbc := by omega
  have hk4 : ¬ pbc = k := by omega
  have hk5 : k ≤ pbc := by omega
  have hk7 : k + 1 - k = 1 := by omega
  have hk8 : ((k : Int) + 1).toNat = k + 1 := by omega
  clear hx5
  go_wp2_with (first
    | (refine wpList_store_mid rfl 83 (.tmp 4) (.tmp 20) rfl (w.heap.size + 1) 0 #[.slice va R.lots.length vc, .slice psa R.smp.length psc, .int .i64 R.sp, .slice (some ⟨b, off + k * 2, none⟩) 1 (pbc - k), .bool false, .bool false, .bool false, .bool false, .bool false, .bool false] rfl rfl (there_block ((heap_setCell_other w5 ⟨w.heap.size, 3, none⟩ (w.heap.size + 1) (.slice (some ⟨b, off + k * 2, none⟩) 1 (pbc - k)) (by show w.heap.size + 1 ≠ w.heap.size; omega)).trans HX52.out) (n := 10) (by simp)) (by kernel_rfl) (by simp [Value.oneCell']) ?_)
    | fail)
  obtain ⟨w6, hw6⟩ : ∃ w6, w6 = w5.setCell ⟨w.heap.size, 3, none⟩ (.slice (some ⟨b, off + k * 2, none⟩) 1 (pbc - k)) := ⟨_, rfl⟩
  have hx6 : w6.heap[w.heap.size + 1]? = some (.cells #[.slice none 0 0, .slice none 0 0, .int .i64 0, .slice none 0 0, .bool false, .bool false, .bool false, .bool false, .bool false, .bool false] 83 (0, 0)) := by rw [hw6]; exact (heap_setCell_other w5 ⟨w.heap.size, 3, none⟩ (w.heap.size + 1) _ (by show w.heap.size + 1 ≠ w.heap.size; omega)).trans HX52.out
  have hb6 : Below w.heap.size w w6 := by rw [hw6]; exact HB5.out.setCell (p := ⟨w.heap.size, 3, none⟩) (Nat.le_refl _) _
  have ho6 : w6.ownsRow (w.heap.size + 2) 46 2 (.slice va R.lots.length vc) R.lots.length (flatR (List.replicate R.lots.length ⟨0, 1000⟩)) := by rw [hw6]; exact own_put HO5.out (by omega)
  rw [← hw6]
  have hx7 := set_whole (w.heap.size + 1) 83 w6 #[.slice none 0 0, .slice none 0 0, .int .i64 0, .slice none 0 0, .bool false, .bool false, .bool false, .bool false, .bool false, .bool false] #[.slice va R.lots.length vc, .slice psa R.smp.length psc, .int .i64 R.sp, .slice (some ⟨b, off + k * 2, none⟩) 1 (pbc - k), .bool false, .bool false, .bool false, .bool false, .bool false, .bool false] rfl hx6
  have hp7 := put_cells (w.heap.size + 1) 0 (#[.slice va R.lots.length vc, .slice psa R.smp.length psc, .int .i64 R.sp, .slice (some ⟨b, off + k * 2, none⟩) 1 (pbc - k), .bool false, .bool false, .bool false, .bool false, .bool false, .bool false] : Array Value).toList w6
  have hb7 := hp7.below hb6 (by omega)
  have ho7 := own_at ho6 fun g hg => hp7.other g (by have := (own_lt ho6 hg).1; omega)
  obtain ⟨w7, hw7⟩ : ∃ w7, w7 = w6.setCells (w.heap.size + 1) 0 (#[.slice va R.lots.length vc, .slice psa R.smp.length psc, .int .i64 R.sp, .slice (some ⟨b, off + k * 2, none⟩) 1 (pbc - k), .bool false, .bool false, .bool false, .bool false, .bool false, .bool false] : Array Value).toList := ⟨_, rfl⟩
  rw [← hw7] at hx7 hb7 ho7
  have e7 : w6.setCells (w.heap.size + 1) 0 [.slice va R.lots.length vc, .slice psa R.smp.length psc, .int .i64 R.sp, .slice (some ⟨b, off + k * 2, none⟩) 1 (pbc - k), .bool false, .bool false, .bool false, .bool false, .bool false, .bool false] = w7 := hw7.symm
  rw [e7]
  have d0 := cell_of_row w7 (w.heap.size + 1) 0 _ _ _ hx7
  have d1 := cell_of_row w7 (w.heap.size + 1) 1 _ _ _ hx7
  have d2 := cell_of_row w7 (w.heap.size + 1) 2 _ _ _ hx7
  have d3 := cell_of_row w7 (w.heap.size + 1) 3 _ _ _ hx7
  have d4 := cell_of_row w7 (w.heap.size + 1) 4 _ _ _ hx7
  have d5 := cell_of_row w7 (w.heap.size + 1) 5 _ _ _ hx7
  have d6 := cell_of_row w7 (w.heap.size + 1) 6 _ _ _ hx7
  have d7 := cell_of_row w7 (w.heap.size + 1) 7 _ _ _ hx7
  have d8 := cell_of_row w7 (w.heap.size + 1) 8 _ _ _ hx7
  have d9 := cell_of_row w7 (w.heap.size + 1) 9 _ _ _ hx7
  simp only [List.getElem?_toArray, List.getElem?_cons_zero, List.getElem?_cons_succ] at d0 d1 d2 d3 d4 d5 d6 d7 d8 d9
  have hlr : RgsV w7.heap.size w7 (.slice va R.lots.length vc) (List.replicate R.lots.length ⟨0, 1000⟩) := own_rgs (l := List.replicate R.lots.length ⟨0, 1000⟩) (by rw [List.length_replicate]; exact ho7)
  have hlen : (List.replicate R.lots.length (⟨0, 1000⟩ : Rg)).length = R.lots.length := List.length_replicate
  have hrv : RdV w7.heap.size w7 ⟨va, vc, psa, psc, some ⟨b, off + k * 2, none⟩, pbc - k⟩ (aloneR R k) := by
    refine ⟨?_, (HSMV.out.same (.below (Nat.le_refl _) hb7)).up hb7.size, (HLBV.out.same (.below (Nat.le_refl _) hb7)).up hb7.size⟩
    unfold lotsV aloneR
    rw [hlen]
    exact hlr
  refine bodyPost_ret (v := .agg #[.slice va R.lots.length vc, .slice psa R.smp.length psc, .int .i64 R.sp, .slice (some ⟨b, off + k * 2, none⟩) 1 (pbc - k), .bool false, .bool false, .bool false, .bool false, .bool false, .bool false]) ?_ rfl ⟨⟨⟨va, vc, psa, psc, some ⟨b, off + k * 2, none⟩, pbc - k⟩, rfl, hrv⟩, hb7⟩
  simp [results, Try.results72, go_sem, d0, d1, d2, d3, d4, d5, d6, d7, d8, d9]
end Go.Proofs.Ytpdkgnfblnblbaa
