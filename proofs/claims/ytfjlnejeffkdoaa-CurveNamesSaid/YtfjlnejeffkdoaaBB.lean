/- The numbers of a kind: an iterator, its contract. -/
import Derived.Test.YtfjlnejeffkdoaaAA
import Derived.Test.YtfjlnejeffkdoaaBA
namespace Go.Proofs.Ytfjlnejeffkdoaa
open Go.RowKit Go.Shelf
attribute [local irreducible] arrV
attribute [local go_sem] Oper.semAt_some

/-- The function ft, called with the reading, gives back an iterator over the truths ts. -/
def TruthsOf (ps : List Pt) (r : Rl) (b off cap ft : Nat) (ts : List (List Int)) : Prop :=
  (∀ args w, (callFunc ft args).run Try.prog w = .ok (.enter ft args) w) ∧
  ∀ w, PtsIn w b off ps → Calls Try.prog ft #[.agg #[.slice (some ⟨b, off, none⟩) ps.length cap, .int .i64 r.d, .int .i64 r.k, .int .i64 r.o]] w fun e w' =>
    ∃ gf lb, e = .returned (.func (.func gf) #[] lb) ∧ Below w.heap.size w w' ∧ (∀ args w, (callFunc gf args).run Try.prog w = .ok (.enter gf args) w) ∧
      ∃ C : Nat → Prop, (∀ k, C k → (w.heap.size ≤ k ∧ k < w'.heap.size) ∨ k = b) ∧ SeqT Try.prog gf lb (fun t : List Int => #[Value.agg (arrV t)]) (IsTr ps) Rfree Never (TCx C) (fun xs => xs = ts) (fun _ => True) w'
/-- The function fg, called with what is read, gives back a place and a number. -/
def FoundBy (fg : Nat) (fnd : Rs → Int × Int) : Prop :=
  (∀ args w, (callFunc fg args).run Try.prog w = .ok (.enter fg args) w) ∧
  ∀ (x : Rs) (w : World), Calls Try.prog fg #[.agg (rsV x)] w fun e w' => e = .returned (.tuple #[.int .i64 (fnd x).1, .int .i64 (fnd x).2]) ∧ Below w.heap.size w w'

def numsL (ps : List Pt) (r : Rl) (fnd : Rs → Int × Int) (ts : List (List Int)) : List (Int × Int) := (ts.map fun t => fnd (readR ps r t)).filter fun x => x.1 != -1

theorem numsL_snoc (ps : List Pt) (r : Rl) (fnd : Rs → Int × Int) (ts : List (List Int)) (t : List Int) : numsL ps r fnd (ts ++ [t]) = if (fnd (readR ps r t)).1 = -1 then numsL ps r fnd ts else numsL ps r fnd ts ++ [fnd (readR ps r t)] := by
  simp only [numsL, List.map_append, List.map_cons, List.map_nil, List.filter_append, List.filter_cons, List.filter_nil]
  by_cases h : (fnd (readR ps r t)).1 = -1 <;> simp [h]
theorem isTr_fine {ps : List Pt} {r : Rl} {t : List Int} (F : Sane ps r) (h : IsTr ps t) : Fine ps r t where
  len := F.len
  pos := F.pos
  tlen := h.1
  st := F.st
  k := F.k
  o := F.o
  d := F.d
  ld := fun i => by
    by_cases hi : i < ps.length
    · have := h.2.1 i hi
      have := F.lo i hi
      omega
    · rw [h.2.2 i (by omega)]; omega

set_option maxRecDepth 100000 in
set_option maxHeartbeats 2000000 in
theorem numbers_seq (ft fg Bq Br b off cap : Nat) (ps : List Pt) (r : Rl) (ts : List (List Int)) (fnd : Rs → Int × Int) (V : Int × Int → Prop) (w : World) (F : Sane ps r) (HT : TruthsOf ps r b off cap ft ts) (HF : FoundBy fg fnd)
    (hV : ∀ t, IsTr ps t → (fnd (readR ps r t)).1 ≠ -1 → V (fnd (readR ps r t)))
    (hB : Box w Br b off cap ps r) (hQ : w.heap[Bq]? = some (.cells #[.func (.func ft) #[] #[], .func (.func fg) #[] #[]] 105 (0, 0))) :
    SeqT Try.prog 90 #[.pointer (some ⟨Bq, 0, none⟩), .pointer (some ⟨Br, 0, none⟩)] (fun x : Int × Int => #[Value.int .i64 x.1, Value.int .i64 x.2]) V Rfree Rfree (TCx (fun k => k = Br ∨ k = b ∨ k = Bq)) (fun xs => xs = numsL ps r fnd ts) (fun _ => True) w := by
  intro l T J Jx W hW hTC hJ hJx hY h0
  have hBW : Box W Br b off cap ps r := hB.but (But.of_below (T := fun _ => False) hW) id id
  have hQW := (hW.block Bq (lt_of_block hQ)).trans hQ
  have hnBr : ¬ T Br := fun h => (hTC Br h).2 (.inl rfl)
  have hnb : ¬ T b := fun h => (hTC b h).2 (.inr (.inl rfl))
  have hnBq : ¬ T Bq := fun h => (hTC Bq h).2 (.inr (.inr rfl))
  have hTl : ∀ k, T k → k < W.heap.size := fun k h => (hTC k h).1
  have hnew : ∀ k, W.heap.size ≤ k → ¬ T k := fun k hk h => by have := (hTC k h).1; omega
  refine callsIn_of_wp_marks Try.func90 rfl trivial ?_ rfl
  simp only [Try.ntmps90, List.size_toArray, List.length_cons, List.length_nil, Nat.reduceAdd, Nat.reduceSub, Array.replicate_succ, Array.replicate_zero, List.push_toArray, List.append_toArray, List.nil_append, List.cons_append]
  have c0 := cell_of_row W Br 0 _ _ _ hBW.blk
  have c1 := cell_of_row W Br 1 _ _ _ hBW.blk
  have c2 := cell_of_row W Br 2 _ _ _ hBW.blk
  have c3 := cell_of_row W Br 3 _ _ _ hBW.blk
  have e0 := cell_of_row W Bq 0 _ _ _ hQW
  have e1 := cell_of_row W Bq 1 _ _ _ hQW
  simp at c0 c1 c2 c3 e0 e1
  have hBrl := lt_of_block hBW.blk
  have hBql := lt_of_block hQW
  have hec := HT.1
  gi_wp2_with fail
  refine ⟨trivial, rfl, ?_⟩
  have hbx := box_below W (.cells #[.func (.yield l) #[] #[]] 87)
  refine (callsIn_wide.2 (HT.2 _ (hBW.pts.below hbx (block_lt_of_cell (hBW.pts 0 F.pos).1)))).mono ?_
  rintro e w1 ⟨gf, lb, rfl, hb1, hgf, C, hC, hseq⟩
  have hy1 := (hb1.block W.heap.size (by simp)).trans (heap_alloc_new W _)
  have hb01 := below_to hbx hb1
  have hsz1 : W.heap.size + 1 ≤ w1.heap.size := by simpa using hb1.size
  simp only [World.size_alloc] at hC
  have HC1 := Lib.hid hC
  have HY1 := Lib.hid hy1
  have HB1 := Lib.hid hb01
  have HSeq := Lib.hid hseq
  clear hC hy1 hb01 hseq hb1 hbx
  gi_wp2
  have hRt : ∀ n A B, Rfree (withLoop T n) A B → Rfree T A B := fun n A B h => ⟨h.1, fun k hk => h.2 k (.inl hk)⟩
  have hltb : b < W.heap.size := block_lt_of_cell (hBW.pts 0 F.pos).1
  have hfin : ∀ A, But (withLoop T w1.heap.size) w1 A → ∀ o, But T W (A.putObj w1.heap.size o) := fun A hb o =>
    ⟨hb.os.trans HB1.out.os, hb.tape.trans HB1.out.tape, hb.output.trans HB1.out.output, by have := hb.size; simp; omega, fun k hk hn => (World.putObj_heap_other (by omega)).trans ((hb.block k (by omega) (fun h => by
      rcases h with h | h | h
      · exact hn h
      · omega
      · omega)).trans (HB1.out.block k hk))⟩
  refine wp_rangeT rfl hgf HSeq.out (Below.refl _ w1) (fun _ => rfl) T ?tc ⟨hnew _ (by omega), hnew _ (by omega)⟩ ?rr (fun _ _ _ h => h.elim)
    (fun pre A => J (numsL ps r fnd pre) A ∧ W.heap.size ≤ A.heap.size)
    (fun c pre A => c = .ret ∧ (∃ ys, Jx ys A) ∧ W.heap.size ≤ A.heap.size)
    ?ir ?ixr ?ig ?ip ?ixp ?h0
    (fun t a' A => ∃ Bx, w1.heap.size + 2 ≤ Bx ∧ A.heap[Bx]? = some (.cells (arrV t) 97 (0, 0)) ∧ a' = { tmps := #[.func (.yield l) #[] #[], .pointer (some ⟨Bq, 0, none⟩), .pointer (some ⟨Br, 0, none⟩), .pointer (some ⟨W.heap.size, 0, none⟩), .pointer (some ⟨Bx, 0, none⟩), undef, undef, .pointer (some ⟨Bq, 0, none⟩), .func (.func ft) #[] #[],
      .agg #[.slice (some ⟨b, off, none⟩) ps.length cap, .int .i64 r.d, .int .i64 r.k, .int .i64 r.o], .func (.func gf) #[] lb, .agg (arrV t), undef, undef, undef, undef, undef, undef, undef, undef, undef, undef, undef, undef, undef, undef, undef, undef, undef, undef], defers := [] })
    ?ax ?assign ?body ?done ?stop
  case tc =>
    rintro W2 hb2 hs2 k (hk | hk | hk)
    · refine ⟨by have := hTl k hk; omega, fun hc => ?_⟩
      rcases HC1.out k hc with h | h
      · exact hnew k (by omega) hk
      · exact hnb (h ▸ hk)
    · subst hk
      refine ⟨by omega, fun hc => ?_⟩
      rcases HC1.out _ hc with h | h <;> omega
    · subst hk
      refine ⟨by omega, fun hc => ?_⟩
      rcases HC1.out _ hc with h | h <;> omega
  case rr =>
    rintro A B k hR hk _
    exact hR.2 k (.inr hk)
  case ir =>
    rintro s A B ⟨h1, h2⟩ hR
    exact ⟨hJ _ _ _ h1 (hRt _ _ _ hR), Nat.le_trans h2 hR.1⟩
  case ixr => exact fun _ _ _ _ _ h => h.elim
  case ig =>
    rintro s A B ⟨h1, h2⟩ hb
    exact ⟨hJ _ _ _ h1 (Rfree.of_below hTC h2 hb), Nat.le_trans h2 hb.size⟩
  case ip =>
    rintro s A k o ⟨h1, h2⟩ hk
    refine ⟨hJ _ _ _ h1 ⟨by simp, fun j hj => World.putObj_heap_other (by have := hTl j hj; omega)⟩, by simpa using h2⟩
  case ixp =>
    rintro c s A k o ⟨h1, ⟨ys, h2⟩, h3⟩ hk
    exact ⟨h1, ⟨ys, hJx _ _ _ h2 ⟨by simp, fun j hj => World.putObj_heap_other (by have := hTl j hj; omega)⟩⟩, by simpa using h3⟩
  case h0 => exact ⟨hJ _ _ _ h0 ⟨HB1.out.size, fun k hk => HB1.out.block k (hTl k hk)⟩, by omega⟩
  case ax =>
    rintro t a' A o ⟨Bx, h1, h2, h3⟩
    exact ⟨Bx, h1, (World.putObj_heap_other (by omega)).trans h2, h3⟩
  case assign =>
    rintro l2 t A ht hA
    have hlz : (arrV t).size = 20 := by rw [arrV_size, ht.1]
    have HLZ := Lib.hid hlz
    have hs97 : Hid ((Try.prog.info? 97).map (·.size) = some (arrV t).size) := s97.trans (by rw [hlz])
    clear hlz
    simp only [List.zip, List.foldl]
    gi_wp2_with (first
      | (refine wpListIn_store_gen rfl 97 (.tmp 4) (.tmp 11) rfl _ 0 (arrV t) rfl rfl (there_block (heap_alloc_new _ _) (by rw [HLZ.out]; exact Nat.le_refl _)) (by exact hs97.out) (arrV_one _) ?_
         intro w2 hw2
         have hbx : Below A.heap.size A w2 := by rw [hw2]; exact below_cells (Nat.le_refl _) _ 0 _ ((Below.refl _ A).alloc (Nat.le_refl _) _)
         have hSb : w2.heap[A.heap.size]? = some (.cells (arrV t) 97 (0, 0)) := by rw [hw2]; exact set_whole A.heap.size 97 _ _ _ (by rw [HLZ.out]; rfl) (heap_alloc_new A _)
         clear hw2)
      | fail)
    exact ⟨⟨A.heap.size, by omega, hSb, rfl⟩, hbx⟩
  case body =>
    rintro l2 pre t a' A ht ⟨h1, h2⟩ hb hs ⟨Bx, hBx, hx, rfl⟩
    have hnl : ∀ k, k < W.heap.size + 1 → ¬ T k → ¬ withLoop T w1.heap.size k := fun k hk hn h => by
      rcases h with h | h | h
      · exact hn h
      · omega
      · omega
    have hBA : Box A Br b off cap ps r := (hBW.but (But.of_below (T := fun _ => False) HB1.out) id id).but hb (hnl Br (by omega) hnBr) (hnl b (by omega) hnb)
    have hQA : A.heap[Bq]? = some (.cells #[.func (.func ft) #[] #[], .func (.func fg) #[] #[]] 105 (0, 0)) := (hb.block Bq (by omega) (hnl Bq (by omega) hnBq)).trans ((HB1.out.block Bq hBql).trans hQW)
    have hYA : A.heap[W.heap.size]? = some (.cells #[.func (.yield l) #[] #[]] 87 (0, 0)) := (hb.block W.heap.size (by omega) (hnl _ (by omega) (hnew _ (Nat.le_refl _)))).trans HY1.out
    have HC : Hid (∀ w2, Below A.heap.size A w2 → (w2.cell? ⟨Br, 0, none⟩ = some (.slice (some ⟨b, off, none⟩) ps.length cap) ∧ w2.cell? ⟨Br, 1, none⟩ = some (.int .i64 r.d) ∧ w2.cell? ⟨Br, 2, none⟩ = some (.int .i64 r.k) ∧ w2.cell? ⟨Br, 3, none⟩ = some (.int .i64 r.o)) ∧ w2.cell? ⟨Bq, 1, none⟩ = some (.func (.func fg) #[] #[]) ∧ w2.cell? ⟨W.heap.size, 0, none⟩ = some (.func (.yield l) #[] #[])) := Lib.hid fun w2 h => by
      have q1 := (h.block Br (lt_of_block hBA.blk)).trans hBA.blk
      have q2 := (h.block Bq (lt_of_block hQA)).trans hQA
      have q3 := (h.block W.heap.size (lt_of_block hYA)).trans hYA
      exact ⟨⟨cell_of_row w2 Br 0 _ _ _ q1, cell_of_row w2 Br 1 _ _ _ q1, cell_of_row w2 Br 2 _ _ _ q1, cell_of_row w2 Br 3 _ _ _ q1⟩, cell_of_row w2 Bq 1 _ _ _ q2, cell_of_row w2 W.heap.size 0 _ _ _ q3⟩
    have hrg : ∀ w2, Below A.heap.size A w2 → w2.rangeAt Bx 0 (t.map iV) := fun w2 h => range_block (t := 97) (by rw [arr_list']; exact (h.block Bx (lt_of_block hx)).trans hx)
    have HRG := Lib.hid hrg
    have hs97a : (Try.prog.info? 97).map (·.size) = some (t.map iV).length := s97.trans (by rw [List.length_map, ht.1])
    have hfin := isTr_fine (r := r) F ht
    have HPT := Lib.hid fun w2 (h : Below A.heap.size A w2) => hBA.pts.below h (block_lt_of_cell (hBA.pts 0 F.pos).1)
    have HBA := Lib.hid hBA
    have hfec := HF.1
    have HX := Lib.hid hx
    clear hrg hnl hBA hQA hYA hx c0 c1 c2 c3 e0 e1
    gi_wp2
    refine wpIn_region_noPanic ?_
    refine wpIn_region_chain_round (fun w' => Below A.heap.size A w') (fun ⟨_, _, h⟩ => h) (fun w1 w2 h hb => grow_to h hb) (below_drawn _) (by kernel_rfl) (fun _ _ _ _ _ h => h)
      [(false, 0), (false, 1), (false, 2), (false, 3), (true, 4), (true, 5), (false, 6), (false, 7), (false, 8)] [9, 10] (by kernel_rfl) ?_
    iterate 3
      (refine Walk.takes rfl rfl ?_; apply Exists.intro; refine ⟨fun w2 hS => ?_, ?_⟩; (obtain ⟨⟨d0, d1, d2, d3⟩, e1, e2⟩ := HC.out w2 hS; go_simp; with_reducible rfl); simp only [List.getElem_toArray, List.getElem_cons_succ, List.getElem_cons_zero, Act.put, List.setIfInBounds_toArray, List.set_cons_zero, List.set_cons_succ])
    (refine Walk.take (v := .agg (arrV t)) rfl rfl (fun w2 hS => exec_load_row 97 (.tmp 4) rfl Bx 0 rfl (t.map iV) (.array 20 3) (HRG.out w2 hS) u97 rfl hs97a (arrV t) (arr_list' _)) ?_; simp only [List.getElem_toArray, List.getElem_cons_succ, List.getElem_cons_zero, Act.put, List.setIfInBounds_toArray, List.set_cons_zero, List.set_cons_succ])
    refine Walk.calls rfl rfl ?_; apply Exists.intro; apply Exists.intro; refine ⟨fun w2 hS => ?_, fun w2 hb2 => ?_⟩; (clear hS; go_simp; exact ⟨rfl, rfl⟩)
    refine (read_any b off cap ps r t w2 hfin (HPT.out w2 (grow_to (below_drawn _) hb2))).mono ?_
    rintro e w3 ⟨rfl, hb3⟩
    refine ⟨_, rfl, hb3, ?_⟩
    simp only [List.getElem_toArray, List.getElem_cons_succ, List.getElem_cons_zero, Act.put, List.setIfInBounds_toArray, List.set_cons_zero, List.set_cons_succ]
    refine Walk.calls rfl rfl ?_; apply Exists.intro; apply Exists.intro; refine ⟨fun w2 hS => ?_, fun w2 hb2 => ?_⟩; (clear hS; go_simp; exact ⟨rfl, rfl⟩)
    refine (HF.2 (readR ps r t) w2).mono ?_
    rintro e w3 ⟨rfl, hb3⟩
    refine ⟨_, rfl, hb3, ?_⟩
    simp only [List.getElem_toArray, List.getElem_cons_succ, List.getElem_cons_zero, Act.put, List.setIfInBounds_toArray, List.set_cons_zero, List.set_cons_succ]
    have hvz := hV t ht
    have hsn := numsL_snoc ps r fnd pre t
    generalize fnd (readR ps r t) = z at *
    obtain ⟨za, zn⟩ := z
    iterate 3
      (refine Walk.takes rfl rfl ?_; apply Exists.intro; refine ⟨fun w2 hS => ?_, ?_⟩; (clear hS; go_simp; with_reducible rfl); simp only [List.getElem_toArray, List.getElem_cons_succ, List.getElem_cons_zero, Act.put, List.setIfInBounds_toArray, List.set_cons_zero, List.set_cons_succ])
    refine Walk.fin ?_
    rintro w4 hb4 hS4
    iterate 2
      (refine Tail.value rfl rfl (by go_simp; with_reducible rfl) ?_; simp only [List.getElem_toArray, List.getElem_cons_succ, List.getElem_cons_zero, Act.put, List.setIfInBounds_toArray, List.set_cons_zero, List.set_cons_succ])
    refine Tail.done ?_
    obtain ⟨-, -, e2⟩ := HC.out w4 hS4
    have hbt4 : But T A w4 := But.of_below hS4
    have hJ4 := hJ _ _ _ h1 (Rfree.of_below hTC h2 hS4)
    have hs4 : W.heap.size ≤ w4.heap.size := Nat.le_trans h2 hS4.size
    have hY0l : W.heap.size < w4.heap.size := by have := hS4.size; omega
    have HSN := Lib.hid hsn
    clear hfec hfin hsn
    by_cases hz : za = -1
    · subst hz
      have HSN' : Hid (numsL ps r fnd (pre ++ [t]) = numsL ps r fnd pre) := Lib.hid (by rw [HSN.out]; simp)
      gi_wp2
      refine ⟨fun _ _ => trivial, ?_⟩
      gi_wp2
      refine ⟨hbt4, ?_, hs4⟩
      rw [HSN'.out]
      exact hJ4
    · have HSN' : Hid (numsL ps r fnd (pre ++ [t]) = numsL ps r fnd pre ++ [(za, zn)]) := Lib.hid (by rw [HSN.out]; simp [hz])
      have g1 : (za == -1) = false := by simpa using hz
      have g2 : (za != -1) = true := by simpa using hz
      have hfl : But T W w4 := ⟨hbt4.os.trans (hb.os.trans HB1.out.os), hbt4.tape.trans (hb.tape.trans HB1.out.tape), hbt4.output.trans (hb.output.trans HB1.out.output), by omega, fun k hk hn => (hbt4.block k (by omega) hn).trans ((hb.block k (by omega) (fun h => by
        rcases h with h | h | h
        · exact hn h
        · omega
        · omega)).trans (HB1.out.block k hk))⟩
      obtain ⟨fn, tmps, assign, body, hy, hR⟩ := hY (numsL ps r fnd pre) (za, zn) w4 (hvz hz) hJ4 hfl
      have HR := Lib.hid hR
      clear hR hvz hz
      gi_wp2_with fail
      refine ⟨rfl, ?_⟩
      refine RoundIn.mono (F := Fence.wide) HR.out ?_
      clear hy HR
      rintro e W5 (⟨rfl, hJ5, hbt5⟩ | ⟨rfl, hJx5, hbt5⟩)
      · gi_wp2
        refine ⟨hbt4.trans hbt5, ?_, Nat.le_trans hs4 hbt5.size⟩
        rw [HSN'.out]
        exact hJ5
      · gi_wp2
        exact ⟨hbt4.trans hbt5, rfl, ⟨_, hJx5⟩, Nat.le_trans hs4 hbt5.size⟩
  case done =>
    rintro xs A rfl ⟨h1, h2⟩ hb hK
    gi_wp2
    refine ⟨by simp, .inl ⟨_, _, rfl, run_takeDeferred hK, ?_⟩⟩
    refine ⟨_, results_none rfl _ _ _, ⟨_, rfl⟩, hfin _ hb _, .inl ⟨_, rfl, hJ _ _ _ h1 ⟨by simp, fun k hk => World.putObj_heap_other (by have := hTl k hk; omega)⟩⟩⟩
  case stop =>
    rintro c pre A _ ⟨rfl, ⟨ys, h2⟩, h3⟩ hb hK
    gi_wp2
    refine ⟨by simp, .inl ⟨_, _, rfl, run_takeDeferred hK, ?_⟩⟩
    refine ⟨_, results_none rfl _ _ _, ⟨_, rfl⟩, hfin _ hb _, .inr ⟨_, trivial, hJx _ _ _ h2 ⟨by simp, fun k hk => World.putObj_heap_other (by have := hTl k hk; omega)⟩⟩⟩
end Go.Proofs.Ytfjlnejeffkdoaa
