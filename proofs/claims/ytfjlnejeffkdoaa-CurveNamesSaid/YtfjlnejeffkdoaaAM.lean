/- A truth in which a kind has a number: its contract, where there is one. Conditions: a valid curve and rule. -/
import Derived.Test.YtfjlnejeffkdoaaAK
import Derived.Test.YtfjlnejeffkdoaaWW
namespace Go.Proofs.Ytfjlnejeffkdoaa
open Go.RowKit Go.Shelf
attribute [local irreducible] arrV
attribute [local go_sem] Oper.semAt_some

/-- An array's first elements, as a list that lies in memory. -/
theorem arr_in {w : World} {B : Nat} {t : List Int} {n : Nat} (h : w.heap[B]? = some (.cells (arrV t) 97 (0, 0))) (hn : n ≤ t.length) : IntsIn w B 0 (t.take n) := fun i hi => by
  simp only [List.length_take] at hi
  rw [Nat.zero_add, cell_of_row w B i _ _ _ h, arrV_get t i (by omega), ld_take t n i (by omega)]

theorem show_end {w W9 : World} {D B n' : Nat} {tmps : Array Value} {len c : Nat} (h6 : tmps[6]? = some (.pointer (some ⟨w.heap.size + 1 + 1 + 1, 0, none⟩)))
    (q1 : W9.heap[w.heap.size + 1 + 1 + 1]? = some (.cells #[.slice (some ⟨B, 0, none⟩) len c] 27 (0, 0))) (q3 : W9.heap[D]? = some (.deferred (some []))) (q4 : Below w.heap.size w W9) (hD : w.heap.size + 4 ≤ D) {Q : Value → World → Prop}
    (hQ : ∀ w', Below w.heap.size w w' → (∀ k, k ≠ D → w'.heap[k]? = W9.heap[k]?) → Q (.slice (some ⟨B, 0, none⟩) len c) w') :
    LeavesInM Fence.wide n' Try.prog Try.f60 tmps (fun e w' => ∃ v, e = .returned v ∧ Q v w') [{ target := .collected D, args := #[] }] .returning W9 := by
  refine ⟨by simp, .inl ⟨_, _, rfl, run_takeDeferred q3, ?_⟩⟩
  have r1 := (World.putObj_heap_other (w := W9) (r := D) (o := .deferred none) (k := w.heap.size + 1 + 1 + 1) (by omega)).trans q1
  have c0 := cell_of_row _ (w.heap.size + 1 + 1 + 1) 0 _ _ _ r1
  simp at c0
  refine ⟨_, ?_, _, rfl, hQ _ ⟨q4.os, q4.tape, q4.output, by simpa using q4.size, fun k hk => (World.putObj_heap_other (by omega)).trans (q4.block k hk)⟩ fun k hk => World.putObj_heap_other hk⟩
  simp [results, Try.results60, go_sem, *]

/-- The kind has the number in a truth. -/
def Mt (fnd : Rs → Int × Int) (ps : List Pt) (r : Rl) (nn : Int) (t : List Int) : Prop := (fnd (readR ps r t)).1 ≠ -1 ∧ (fnd (readR ps r t)).2 = nn

set_option maxRecDepth 100000 in
set_option maxHeartbeats 2000000 in
theorem show_ok (ft fg b off cap : Nat) (nn : Int) (ps : List Pt) (r : Rl) (ts : List (List Int)) (fnd : Rs → Int × Int) (w : World) (F : Sane ps r) (HT : TruthsOf ps r b off cap ft ts) (HF : FoundBy fg fnd) (hp : PtsIn w b off ps)
    (HCL : ∀ (b off cap : Nat) (t : List Int) (w : World), 0 < t.length → t.length ≤ 100 → IntsIn w b off t → Calls Try.prog 87 #[.slice (some ⟨b, off, none⟩) t.length cap] w fun e w' => ∃ B c, e = .returned (.slice (some ⟨B, 0, none⟩) t.length c) ∧ IntsIn w' B 0 t ∧ w.heap.size ≤ B ∧ Below w.heap.size w w')
    (hex : ∃ t ∈ ts, (fnd (readR ps r t)).1 ≠ -1 ∧ (fnd (readR ps r t)).2 = nn) :
    Calls Try.prog 60 #[.agg #[.slice (some ⟨b, off, none⟩) ps.length cap, .int .i64 r.d, .int .i64 r.k, .int .i64 r.o], .agg #[.func (.func ft) #[] #[], .func (.func fg) #[] #[]], .int .i64 nn] w fun e w' => ∃ v, e = .returned v ∧
      ∃ t B c, IsTr ps t ∧ (fnd (readR ps r t)).1 ≠ -1 ∧ (fnd (readR ps r t)).2 = nn ∧ v = .slice (some ⟨B, 0, none⟩) ps.length c ∧ IntsIn w' B 0 (t.take ps.length) ∧ w.heap.size ≤ B ∧ Below w.heap.size w w' := by
  have hltb : b < w.heap.size := block_lt_of_cell (hp 0 F.pos).1
  obtain ⟨x0, x1, x2⟩ := box3 w (.cells #[.slice (some ⟨b, off, none⟩) ps.length cap, .int .i64 r.d, .int .i64 r.k, .int .i64 r.o] 94) (.cells #[.func (.func ft) #[] #[], .func (.func fg) #[] #[]] 105) (.cells #[.int .i64 nn] 3)
  have hb3 := below3 w (.cells #[.slice (some ⟨b, off, none⟩) ps.length cap, .int .i64 r.d, .int .i64 r.k, .int .i64 r.o] 94) (.cells #[.func (.func ft) #[] #[], .func (.func fg) #[] #[]] 105) (.cells #[.int .i64 nn] 3)
  have hb4 := grow_alloc (((w.alloc (.cells #[.slice (some ⟨b, off, none⟩) ps.length cap, .int .i64 r.d, .int .i64 r.k, .int .i64 r.o] 94)).alloc (.cells #[.func (.func ft) #[] #[], .func (.func fg) #[] #[]] 105)).alloc (.cells #[.int .i64 nn] 3)) (.cells #[.slice none 0 0] 27)
  have x3 := heap_alloc_new (((w.alloc (.cells #[.slice (some ⟨b, off, none⟩) ps.length cap, .int .i64 r.d, .int .i64 r.k, .int .i64 r.o] 94)).alloc (.cells #[.func (.func ft) #[] #[], .func (.func fg) #[] #[]] 105)).alloc (.cells #[.int .i64 nn] 3)) (.cells #[.slice none 0 0] 27)
  simp only [World.size_alloc] at x3
  have y0 := (hb4.block _ (lt_of_block x0)).trans x0
  have y1 := (hb4.block _ (lt_of_block x1)).trans x1
  have y2 := (hb4.block _ (lt_of_block x2)).trans x2
  have hbw := below_to hb3 hb4
  have hsz : ((((w.alloc (.cells #[.slice (some ⟨b, off, none⟩) ps.length cap, .int .i64 r.d, .int .i64 r.k, .int .i64 r.o] 94)).alloc (.cells #[.func (.func ft) #[] #[], .func (.func fg) #[] #[]] 105)).alloc (.cells #[.int .i64 nn] 3)).alloc (.cells #[.slice none 0 0] 27)).heap.size = w.heap.size + 4 := by simp
  clear x0 x1 x2 hb3 hb4
  have hec := HT.1
  refine (callsIn_wide (n := 0)).1 ?_
  refine callsIn_of_wp_marks Try.func60 rfl trivial ?_ rfl
  simp only [Try.ntmps60, List.size_toArray, List.length_cons, List.length_nil, Nat.reduceAdd, Nat.reduceSub, Array.replicate_succ, Array.replicate_zero, List.push_toArray, List.append_toArray, List.nil_append, List.cons_append]
  gi_wp2_with fail
  generalize World.alloc (World.alloc (World.alloc (World.alloc w _) _) _) _ = W4 at *
  refine ⟨trivial, rfl, ?_⟩
  refine (callsIn_wide.2 (HT.2 W4 (hp.below hbw hltb))).mono ?_
  rintro e w1 ⟨gf, lb, rfl, hb1, hgf, C, hC, hseq⟩
  have z0 := (hb1.block _ (lt_of_block y0)).trans y0
  have z1 := (hb1.block _ (lt_of_block y1)).trans y1
  have z2 := (hb1.block _ (lt_of_block y2)).trans y2
  have z3 := (hb1.block _ (lt_of_block x3)).trans x3
  have hs1 := hb1.size
  rw [hsz] at hs1 hC
  have hbw1 := below_to hbw hb1
  have Z0 := Lib.hid z0
  have Z1 := Lib.hid z1
  have Z2 := Lib.hid z2
  have Z3 := Lib.hid z3
  have HC1 := Lib.hid hC
  have HBW := Lib.hid hbw1
  have HSQ := Lib.hid hseq
  clear y0 y1 y2 x3 z0 z1 z2 z3 hC hbw hbw1 hb1 hseq hec hsz
  clear W4
  gi_wp2
  have hpc : ∀ k, k < w.heap.size + 4 → k ≠ w.heap.size + 1 + 1 + 1 → ¬ withLoop (fun k => k = w.heap.size + 1 + 1 + 1) w1.heap.size k := fun k hk hne h => by
    rcases h with h | h | h <;> omega
  refine wp_rangeT rfl hgf HSQ.out (Below.refl _ w1) (fun _ => rfl) (fun k => k = w.heap.size + 1 + 1 + 1) ?tc ⟨by omega, by omega⟩ ?rr (fun _ _ _ h => h.elim)
    (fun pre A => (∀ t ∈ pre, ¬ Mt fnd ps r nn t) ∧ A.heap[w.heap.size + 1 + 1 + 1]? = some (.cells #[.slice none 0 0] 27 (0, 0)))
    (fun c _ A => c = .ret ∧ ∃ t B c', IsTr ps t ∧ (fnd (readR ps r t)).1 ≠ -1 ∧ (fnd (readR ps r t)).2 = nn ∧ A.heap[w.heap.size + 1 + 1 + 1]? = some (.cells #[.slice (some ⟨B, 0, none⟩) ps.length c'] 27 (0, 0)) ∧ IntsIn A B 0 (t.take ps.length) ∧ w1.heap.size + 2 ≤ B)
    ?ir (fun _ _ _ _ _ h => h.elim) ?ig ?ip ?ixp ⟨fun _ h => (by cases h), Z3.out⟩
    (fun t a' A => ∃ Bx, w1.heap.size + 2 ≤ Bx ∧ A.heap[Bx]? = some (.cells (arrV t) 97 (0, 0)) ∧ a' = { tmps := #[.agg #[.slice (some ⟨b, off, none⟩) ps.length cap, .int .i64 r.d, .int .i64 r.k, .int .i64 r.o], .agg #[.func (.func ft) #[] #[], .func (.func fg) #[] #[]], .int .i64 nn, .pointer (some ⟨w.heap.size, 0, none⟩),
      .pointer (some ⟨w.heap.size + 1, 0, none⟩), .pointer (some ⟨w.heap.size + 1 + 1, 0, none⟩), .pointer (some ⟨w.heap.size + 1 + 1 + 1, 0, none⟩), .pointer (some ⟨Bx, 0, none⟩), undef, undef, .pointer (some ⟨w.heap.size + 1, 0, none⟩), .func (.func ft) #[] #[],
      .agg #[.slice (some ⟨b, off, none⟩) ps.length cap, .int .i64 r.d, .int .i64 r.k, .int .i64 r.o], .func (.func gf) #[] lb, .agg (arrV t), undef, undef, undef, undef, undef, undef, undef, undef, undef, undef, undef, undef, undef, undef, undef, undef, undef, undef, undef, undef, undef, undef], defers := [] })
    ?ax ?assign ?body ?done ?stop
  case tc =>
    rintro W1 hb1 hs2 k (rfl | rfl | rfl)
    · refine ⟨by omega, fun hc => ?_⟩
      rcases HC1.out _ hc with h | h <;> omega
    · refine ⟨by omega, fun hc => ?_⟩
      rcases HC1.out _ hc with h | h <;> omega
    · refine ⟨by omega, fun hc => ?_⟩
      rcases HC1.out _ hc with h | h <;> omega
  case rr =>
    rintro A B k hR hk _
    exact hR.2 k (.inr hk)
  case ir => exact fun s A B ⟨h1, h2⟩ hR => ⟨h1, (hR.2 _ (.inl rfl)).trans h2⟩
  case ig => exact fun s A B ⟨h1, h2⟩ hb => ⟨h1, (hb.block _ (lt_of_block h2)).trans h2⟩
  case ip => exact fun s A k o ⟨h1, h2⟩ hk => ⟨h1, (World.putObj_heap_other (by omega)).trans h2⟩
  case ixp =>
    rintro c s A k o ⟨h1, t, B, c', h2, h3, h4, h5, h6, h7⟩ hk
    refine ⟨h1, t, B, c', h2, h3, h4, (World.putObj_heap_other (by omega)).trans h5, fun i hi => ?_, h7⟩
    exact (cell_block (World.putObj_heap_other (by omega)) _).trans (h6 i hi)
  case ax =>
    rintro t a' A o ⟨Bx, h1, h2, h3⟩
    exact ⟨Bx, h1, (World.putObj_heap_other (by omega)).trans h2, h3⟩
  case assign =>
    rintro l2 t A ht hA
    have hlz : (arrV t).size = 20 := by rw [arrV_size, ht.1]
    have HLZ := Lib.hid hlz
    have hs97 : Hid ((Try.prog.info? 97).map (·.size) = some (arrV t).size) := s97.trans (by rw [hlz])
    clear hlz
    simp only [List.zip, List.foldl]
    gi_wp2_with (first
      | (refine wpListIn_store_gen rfl 97 (.tmp 7) (.tmp 14) rfl _ 0 (arrV t) rfl rfl (there_block (heap_alloc_new _ _) (by rw [HLZ.out]; exact Nat.le_refl _)) (by exact hs97.out) (arrV_one _) ?_
         intro w2 hw2
         have hbx : Below A.heap.size A w2 := by rw [hw2]; exact below_cells (Nat.le_refl _) _ 0 _ ((Below.refl _ A).alloc (Nat.le_refl _) _)
         have hSb : w2.heap[A.heap.size]? = some (.cells (arrV t) 97 (0, 0)) := by rw [hw2]; exact set_whole A.heap.size 97 _ _ _ (by rw [HLZ.out]; rfl) (heap_alloc_new A _)
         clear hw2)
      | fail)
    exact ⟨⟨A.heap.size, by omega, hSb, rfl⟩, hbx⟩
  case body =>
    rintro l2 pre t a' A ht ⟨h1, h2⟩ hb hs ⟨Bx, hBx, hx, rfl⟩
    have k0 := (hb.block _ (by omega) (hpc w.heap.size (by omega) (by omega))).trans Z0.out
    have k1 := (hb.block _ (by omega) (hpc (w.heap.size + 1) (by omega) (by omega))).trans Z1.out
    have k2 := (hb.block _ (by omega) (hpc (w.heap.size + 1 + 1) (by omega) (by omega))).trans Z2.out
    have hpA : PtsIn A b off ps := (hp.below HBW.out hltb).block (hb.block b (by have := HBW.out.size; omega) (hpc b (by omega) (by omega)))
    have hltA := block_lt_of_cell (hpA 0 F.pos).1
    have HC : Hid (∀ w2, Below A.heap.size A w2 → (w2.cell? ⟨w.heap.size, 0, none⟩ = some (.slice (some ⟨b, off, none⟩) ps.length cap) ∧ w2.cell? ⟨w.heap.size, 1, none⟩ = some (.int .i64 r.d) ∧ w2.cell? ⟨w.heap.size, 2, none⟩ = some (.int .i64 r.k) ∧ w2.cell? ⟨w.heap.size, 3, none⟩ = some (.int .i64 r.o)) ∧ w2.cell? ⟨w.heap.size + 1, 1, none⟩ = some (.func (.func fg) #[] #[]) ∧ w2.cell? ⟨w.heap.size + 1 + 1, 0, none⟩ = some (.int .i64 nn) ∧ w2.heap[w.heap.size + 1 + 1 + 1]? = some (.cells #[.slice none 0 0] 27 (0, 0))) := Lib.hid fun w2 h => by
      have q1 := (h.block _ (lt_of_block k0)).trans k0
      have q2 := (h.block _ (lt_of_block k1)).trans k1
      have q3 := (h.block _ (lt_of_block k2)).trans k2
      exact ⟨⟨cell_of_row w2 w.heap.size 0 _ _ _ q1, cell_of_row w2 w.heap.size 1 _ _ _ q1, cell_of_row w2 w.heap.size 2 _ _ _ q1, cell_of_row w2 w.heap.size 3 _ _ _ q1⟩, cell_of_row w2 (w.heap.size + 1) 1 _ _ _ q2, cell_of_row w2 (w.heap.size + 1 + 1) 0 _ _ _ q3, (h.block _ (lt_of_block h2)).trans h2⟩
    have hrg : ∀ w2, Below A.heap.size A w2 → w2.rangeAt Bx 0 (t.map iV) := fun w2 h => range_block (t := 97) (by rw [arr_list']; exact (h.block Bx (lt_of_block hx)).trans hx)
    have HRG := Lib.hid hrg
    have hs97a : (Try.prog.info? 97).map (·.size) = some (t.map iV).length := s97.trans (by rw [List.length_map, ht.1])
    have hfin := isTr_fine (r := r) F ht
    have HPT := Lib.hid fun w2 (h : Below A.heap.size A w2) => hpA.below h hltA
    have hfec := HF.1
    have HX := Lib.hid hx
    have HPRE := Lib.hid h1
    clear hrg k0 k1 k2 hpA hltA h1 h2 hx
    gi_wp2
    refine wpIn_region_noPanic ?_
    refine wpIn_region_chain_round (fun w' => Below A.heap.size A w') (fun ⟨_, _, h⟩ => h) (fun w1 w2 h hb => grow_to h hb) (below_drawn _) (by kernel_rfl) (fun _ _ _ _ _ h => h)
      [(false, 0), (false, 1), (false, 2), (false, 3), (true, 4), (true, 5), (false, 6), (false, 7), (false, 8)] [9, 10] (by kernel_rfl) ?_
    iterate 3
      (refine Walk.takes rfl rfl ?_; apply Exists.intro; refine ⟨fun w2 hS => ?_, ?_⟩; (obtain ⟨⟨d0, d1, d2, d3⟩, e1, -⟩ := HC.out w2 hS; go_simp; with_reducible rfl); simp only [List.getElem_toArray, List.getElem_cons_succ, List.getElem_cons_zero, Act.put, List.setIfInBounds_toArray, List.set_cons_zero, List.set_cons_succ])
    (refine Walk.take (v := .agg (arrV t)) rfl rfl (fun w2 hS => exec_load_row 97 (.tmp 7) rfl Bx 0 rfl (t.map iV) (.array 20 3) (HRG.out w2 hS) u97 rfl hs97a (arrV t) (arr_list' _)) ?_; simp only [List.getElem_toArray, List.getElem_cons_succ, List.getElem_cons_zero, Act.put, List.setIfInBounds_toArray, List.set_cons_zero, List.set_cons_succ])
    refine Walk.calls rfl rfl ?_; apply Exists.intro; apply Exists.intro; refine ⟨fun w2 hS => ?_, fun w2 hb2 => ?_⟩; (clear hS; go_simp; exact ⟨rfl, rfl⟩)
    refine (read_any b off cap ps r t w2 hfin (HPT.out w2 (grow_to (below_drawn _) hb2))).mono ?_
    rintro e w3 ⟨rfl, hb3⟩
    refine ⟨_, rfl, hb3, ?_⟩
    simp only [List.getElem_toArray, List.getElem_cons_succ, List.getElem_cons_zero, Act.put, List.setIfInBounds_toArray, List.set_cons_zero, List.set_cons_succ]
    refine Walk.calls rfl rfl ?_; apply Exists.intro; apply Exists.intro; refine ⟨fun w2 hS => ?_, fun w2 hb2 => ?_⟩; (clear hS; go_simp; exact ⟨rfl, rfl⟩)
    refine (HF.2 (readR ps r t) w2).mono ?_
    rintro e w3 ⟨rfl, hb3⟩
    refine ⟨_, rfl, hb3, ?_⟩
    simp only [List.getElem_toArray, List.getElem_cons_succ, List.getElem_cons_zero, Act.put, List.setIfInBounds_toArray, List.set_cons_zero, List.set_cons_succ]
    generalize hz : fnd (readR ps r t) = z
    have HZ := Lib.hid hz
    clear hz
    obtain ⟨za, zn⟩ := z
    iterate 3
      (refine Walk.takes rfl rfl ?_; apply Exists.intro; refine ⟨fun w2 hS => ?_, ?_⟩; (clear hS; go_simp; with_reducible rfl); simp only [List.getElem_toArray, List.getElem_cons_succ, List.getElem_cons_zero, Act.put, List.setIfInBounds_toArray, List.set_cons_zero, List.set_cons_succ])
    refine Walk.fin ?_
    rintro w4 hb4 hS4
    iterate 2
      (refine Tail.value rfl rfl (by go_simp; with_reducible rfl) ?_; simp only [List.getElem_toArray, List.getElem_cons_succ, List.getElem_cons_zero, Act.put, List.setIfInBounds_toArray, List.set_cons_zero, List.set_cons_succ])
    refine Tail.done ?_
    obtain ⟨⟨d0, -⟩, -, e2, e3⟩ := HC.out w4 hS4
    have hx4 := (hS4.block _ (lt_of_block HX.out)).trans HX.out
    have HS4 := Lib.hid hS4
    have E3 := Lib.hid e3
    have HX4 := Lib.hid hx4
    clear hfec hfin hb4 hS4 e3 hx4
    by_cases hm : za ≠ -1 ∧ zn = nn
    · obtain ⟨m1, m2⟩ := hm
      have g2 : (za != -1) = true := by simpa using m1
      have g3 : (zn == nn) = true := by simpa using m2
      have HM := Lib.hid (show za ≠ -1 ∧ zn = nn from ⟨m1, m2⟩)
      clear m1 m2
      have hlt0 : w.heap.size < w4.heap.size := by have := HS4.out.size; omega
      have hlen : ps.length ≤ 20 := F.len
      have ha : Try.prog.arrayLen 97 = 20 := by kernel_rfl
      have hal : (ps.length : Int) ≤ (Try.prog.arrayLen 97 : Int) := by rw [ha]; omega
      have hal2 : (ps.length : Int) ≤ 20 := by omega
      gi_wp2_with fail
      refine ⟨trivial, rfl, ?_⟩
      have hin := arr_in (n := ps.length) HX4.out (by rw [ht.1]; exact hlen)
      have hcl := HCL Bx 0 20 (t.take ps.length) w4 (by simp [ht.1]; have := F.pos; omega) (by simp; omega) hin
      rw [show (t.take ps.length).length = ps.length by simp [ht.1, hlen]] at hcl
      refine CallsIn.mono (CallsIn.inRound l2 ((callsIn_wide (n := 0)).2 hcl)) ?_
      rintro e w5 ⟨B, c5, rfl, hi5, hB5, hb5⟩
      have e5 := (hb5.block _ (lt_of_block E3.out)).trans E3.out
      have c5' := cell_of_row w5 (w.heap.size + 1 + 1 + 1) 0 _ _ _ e5
      have f5 := frozen_of_row w5 (w.heap.size + 1 + 1 + 1) 0 _ _ e5
      simp at c5'
      have HI5 := Lib.hid hi5
      have HB5 := Lib.hid hb5
      have E5 := Lib.hid e5
      have hBs : w1.heap.size + 2 ≤ B := by have := HS4.out.size; omega
      clear hin hcl hi5 hb5 e5
      gi_wp2
      refine ⟨(But.of_below HS4.out).trans ((But.of_below HB5.out).trans (But.setCell _ _ rfl)), rfl, t, B, c5, ht, by rw [HZ.out]; exact HM.out.1, by rw [HZ.out]; exact HM.out.2, heap_setCell_same w5 (w.heap.size + 1 + 1 + 1) 0 _ 27 _ E5.out, fun i hi => ?_, hBs⟩
      exact (cell_block (heap_setCell_other w5 ⟨w.heap.size + 1 + 1 + 1, 0, none⟩ B _ (by show B ≠ w.heap.size + 1 + 1 + 1; omega)) _).trans (HI5.out i hi)
    · have HM := Lib.hid hm
      by_cases h1 : za = -1
      · have g1 : (za == -1) = true := by simpa using h1
        have g2 : (za != -1) = false := by simpa using h1
        clear hm h1
        gi_wp2
        refine ⟨But.of_below HS4.out, fun u hu => ?_, E3.out⟩
        rcases List.mem_append.1 hu with hu | hu
        · exact fun p => HPRE.out u hu p
        · obtain rfl : u = t := by simpa using hu
          intro p
          unfold Mt at p
          rw [HZ.out] at p
          exact HM.out p
      · have g1 : (za == -1) = false := by simpa using h1
        have g2 : (za != -1) = true := by simpa using h1
        have g3 : (zn == nn) = false := by simp; exact fun h => hm ⟨h1, h⟩
        clear hm h1
        gi_wp2
        refine ⟨But.of_below HS4.out, fun u hu => ?_, E3.out⟩
        rcases List.mem_append.1 hu with hu | hu
        · exact fun p => HPRE.out u hu p
        · obtain rfl : u = t := by simpa using hu
          intro p
          unfold Mt at p
          rw [HZ.out] at p
          exact HM.out p
  case done =>
    rintro xs A rfl ⟨h1, h2⟩ hb hK
    obtain ⟨t, ht, hm⟩ := hex
    exact absurd hm (h1 t ht)
  case stop =>
    rintro c pre A _ ⟨rfl, t, B, c', h2, h3, h4, h5, h6, h7⟩ hb hK
    gi_wp2
    refine show_end rfl h5 hK ⟨hb.os.trans HBW.out.os, hb.tape.trans HBW.out.tape, hb.output.trans HBW.out.output, Nat.le_trans HBW.out.size hb.size, fun k hk => (hb.block k (by omega) (hpc k (by omega) (by omega))).trans (HBW.out.block k hk)⟩ (by omega) fun w' hb' hk' => ?_
    refine ⟨t, B, c', h2, h3, h4, rfl, fun i hi => ?_, by omega, hb'⟩
    exact (cell_block (hk' B (by omega)) _).trans (h6 i hi)
end Go.Proofs.Ytfjlnejeffkdoaa
