/- The reference's reading of a truth: its contract. Conditions: a valid curve and rule, a truth of it. -/
import Derived.Test.YtfjlnejeffkdoaaAE
import Derived.Test.YtfjlnejeffkdoaaAF
import Derived.Test.YtfjlnejeffkdoaaOO
import Derived.Deep.CutRange
import Derived.StillTailTactics
namespace Go.Proofs.Ytfjlnejeffkdoaa
open Go.RowKit Go.Shelf
attribute [local irreducible] arrV wpQuiet

/-- The blocks of the reference's reading. -/
structure InR (w : World) (sl : Value) (r : Rl) (cs : Array Value) (w' : World) : Prop where
  c : w'.heap[w.heap.size]? = some (.cells #[sl] 24 (0, 0))
  r : w'.heap[w.heap.size + 1]? = some (.cells #[.int .i64 r.d, .int .i64 r.k, .int .i64 r.o] 26 (0, 0))
  z : w'.heap[w.heap.size + 1 + 1]? = some (.cells zero37 47 (0, 0))
  o : w'.heap[w.heap.size + 1 + 1 + 1]? = some (.cells cs 47 (0, 0))
  b : Below w.heap.size w w'
theorem InR.grown {w w' w'' : World} {sl : Value} {r : Rl} {cs : Array Value} (h : InR w sl r cs w') (hb : Below w'.heap.size w' w'') : InR w sl r cs w'' :=
  ⟨(hb.block _ (lt_of_block h.c)).trans h.c, (hb.block _ (lt_of_block h.r)).trans h.r, (hb.block _ (lt_of_block h.z)).trans h.z, (hb.block _ (lt_of_block h.o)).trans h.o, grow_to h.b hb⟩
theorem InR.set {w w' : World} {sl : Value} {r : Rl} {cs : Array Value} (h : InR w sl r cs w') (j : Nat) (v : Value) : InR w sl r (cs.setIfInBounds j v) (w'.setCell ⟨w.heap.size + 1 + 1 + 1, j, none⟩ v) := by
  have ot : ∀ k, k ≠ w.heap.size + 1 + 1 + 1 → (w'.setCell ⟨w.heap.size + 1 + 1 + 1, j, none⟩ v).heap[k]? = w'.heap[k]? := fun k hk => heap_setCell_other _ ⟨w.heap.size + 1 + 1 + 1, j, none⟩ k v hk
  exact ⟨(ot _ (by omega)).trans h.c, (ot _ (by omega)).trans h.r, (ot _ (by omega)).trans h.z, heap_setCell_same w' (w.heap.size + 1 + 1 + 1) j cs 47 v h.o, h.b.setCell (p := ⟨w.heap.size + 1 + 1 + 1, j, none⟩) (by show w.heap.size ≤ w.heap.size + 1 + 1 + 1; omega) v⟩

def rowX (x : Rs) : Array Value := #[.int .i64 x.st, .int .i64 x.pk, .int .i64 x.ya, .int .i64 x.y, .int .i64 x.ma, .int .i64 x.pl, .int .i64 x.wk]

theorem inR_start (w : World) (sl : Value) (r : Rl) : InR w sl r (rowX ⟨-1, 0, -1, 0, -1, 0, 0⟩) ((((w.alloc (.cells #[sl] 24)).alloc (.cells #[.int .i64 r.d, .int .i64 r.k, .int .i64 r.o] 26)).alloc (.cells zero37 47)).alloc (.cells (rowX ⟨-1, 0, -1, 0, -1, 0, 0⟩) 47)) := by
  obtain ⟨x1, x2, x3⟩ := boxes3 w (.cells #[sl] 24) (.cells #[.int .i64 r.d, .int .i64 r.k, .int .i64 r.o] 26) (.cells zero37 47)
  have hb := grow_alloc (((w.alloc (.cells #[sl] 24)).alloc (.cells #[.int .i64 r.d, .int .i64 r.k, .int .i64 r.o] 26)).alloc (.cells zero37 47)) (.cells (rowX ⟨-1, 0, -1, 0, -1, 0, 0⟩) 47)
  have hn := heap_alloc_new (((w.alloc (.cells #[sl] 24)).alloc (.cells #[.int .i64 r.d, .int .i64 r.k, .int .i64 r.o] 26)).alloc (.cells zero37 47)) (.cells (rowX ⟨-1, 0, -1, 0, -1, 0, 0⟩) 47)
  simp only [World.size_alloc] at hn
  exact ⟨(hb.block _ (lt_of_block x1)).trans x1, (hb.block _ (lt_of_block x2)).trans x2, (hb.block _ (lt_of_block x3)).trans x3, hn, grow_to (below3 w _ _ _) hb⟩

theorem mul_bd {x y A B : Int} (hx : -A ≤ x ∧ x ≤ A) (hy : -B ≤ y ∧ y ≤ B) : -(A * B) ≤ x * y ∧ x * y ≤ A * B := by
  have h1 : x.natAbs ≤ A.toNat := by omega
  have h2 : y.natAbs ≤ B.toNat := by omega
  have h3 := Nat.mul_le_mul h1 h2
  rw [← Int.natAbs_mul] at h3
  have h4 : ((A.toNat * B.toNat : Nat) : Int) = A * B := by
    rw [Int.natCast_mul, Int.toNat_of_nonneg (by omega), Int.toNat_of_nonneg (by omega)]
  omega

/-- What is asked of the numbers of a round. -/
structure Bds (l l0 L L0 s s0 wk : Int) : Prop where
  l : 0 ≤ l ∧ l ≤ 100000
  l0 : 0 ≤ l0 ∧ l0 ≤ 100000
  L : -1000000 ≤ L ∧ L ≤ 1000000
  L0 : -1000000 ≤ L0 ∧ L0 ≤ 1000000
  s : 0 ≤ s ∧ s ≤ 1000
  s0 : 0 ≤ s0 ∧ s0 ≤ 1000
  wk : -4000000000 ≤ wk ∧ wk ≤ 4000000000

theorem line_bd {ps : List Pt} {r : Rl} {t : List Int} (F : Fine ps r t) {q : Nat} (hq : q < ps.length) : -1000000 ≤ lineI ps r q ∧ lineI ps r q ≤ 1000000 := by
  have hs := F.st q hq
  have hk := F.k
  have ho := F.o
  exact mul_bd (x := r.k) (y := (pt ps q).s - r.o) (A := 1000) (B := 1000) (by omega) (by omega)

set_option maxRecDepth 100000 in
set_option maxHeartbeats 4000000 in
theorem RefRead_any (b off cap bt offt capt : Nat) (ps : List Pt) (r : Rl) (t : List Int) (w : World) (G : Good ps r t) (hp : PtsIn w b off ps) (hi : IntsIn w bt offt t) :
    Calls Try.prog 26 #[.agg #[.slice (some ⟨b, off, none⟩) ps.length cap], .agg #[.int .i64 r.d, .int .i64 r.k, .int .i64 r.o], .slice (some ⟨bt, offt, none⟩) ps.length capt] w
      fun e w' => e = .returned (.agg (rsV (readR ps r (pad t)))) ∧ Below w.heap.size w w' := by
  have hltb : b < w.heap.size := block_lt_of_cell (hp 0 G.pos).1
  have hltt : bt < w.heap.size := block_lt_of_cell (hi 0 (by have := G.tlen; have := G.pos; omega))
  have hlen := G.len
  have hpos := G.pos
  have htl := G.tlen
  have F := G.fine
  have HSTEP := Lib.hid fun q (hq : q < ps.length) => refX_step F (q := q) hq
  have HEND := Lib.hid (refX_end ps r (pad t) hpos)
  have HZERO := Lib.hid (refX_zero ps r (pad t))
  have HCELL : Hid (∀ q, q < ps.length → ∀ w', Below w.heap.size w w' → w'.cell? ⟨bt, offt + q, none⟩ = some (.int .i64 (ld (pad t) q)) ∧ w'.cell? ⟨b, off + q * 3, none⟩ = some (.int .i64 (pt ps q).s)) := Lib.hid fun q hq w' hb => by
    refine ⟨?_, (hb.cell (p := ⟨b, off + q * 3, none⟩) hltb).trans (hp q hq).1⟩
    rw [pad_ld t q (by omega)]
    exact (hb.cell (p := ⟨bt, offt + q, none⟩) hltt).trans (hi q (by omega))
  have HF := Lib.hid F
  have HLINE : Hid (∀ q, q < ps.length → ∀ W, Below w.heap.size w W → Calls Try.prog 52 #[.agg #[.slice (some ⟨b, off, none⟩) ps.length cap], .agg #[.int .i64 r.d, .int .i64 r.k, .int .i64 r.o], .int .i64 q] W fun e w' => e = .returned (.int .i64 (lineI ps r q)) ∧ Below W.heap.size W w') := Lib.hid fun q hq W hb => by
    have hs := F.st q hq
    exact Line_any b off ps.length cap q r.d r.k r.o (pt ps q).s W hq (by omega) ((hb.cell (p := ⟨b, off + q * 3, none⟩) hltb).trans (hp q hq).1) hs.1 hs.2 F.o.1 F.o.2 (by have := F.k; omega) F.k.2
  have HBDS : Hid (∀ q, q < ps.length → Bds (ld (pad t) q) (ld (pad t) (q - 1)) (lineI ps r q) (lineI ps r (q - 1)) (pt ps q).s (pt ps (q - 1)).s (refX ps r (pad t) q).wk) := Lib.hid fun q hq => by
    refine ⟨F.ld q, F.ld (q - 1), line_bd F hq, line_bd F (show q - 1 < ps.length by omega), F.st q hq, F.st (q - 1) (by omega), ?_⟩
    have := wkTo_bd F (q - 1) (by omega)
    show -4000000000 ≤ wkTo ps (pad t) (q - 1) ∧ wkTo ps (pad t) (q - 1) ≤ 4000000000
    omega
  clear hp hi G F
  go_enter Try.func26, Try.ntmps26
  go_wp2
  go_loopw [8] (fun i wr => ∃ q : Nat, q ≤ ps.length ∧ i = .int .i64 q ∧ Hid (InR w (.slice (some ⟨b, off, none⟩) ps.length cap) r (rowX (refX ps r (pad t) q)) wr)) (fun i _ => ps.length - (intOf i).toNat)
  case atStart => exact ⟨0, Nat.zero_le _, rfl, Lib.hid (by rw [HZERO.out]; exact inR_start w _ r)⟩
  case round =>
    obtain ⟨q, hq, rfl, HI⟩ := hrel
    by_cases hlt : q < ps.length
    · have hqn : (q : Int) < ps.length := by omega
      have hw9 : IntKind.i64.wrap ((q : Int) + 1) = (q : Int) + 1 := IntWalk.i64_in _ (by omega)
      have hp1 : (0 : Int) ≤ (q : Int) + 1 := by omega
      have hn1 : ((q : Int) + 1).toNat = q + 1 := by omega
      have hB := HBDS.out q hlt
      have HS := HSTEP.out q hlt
      have HNX : Hid (q + 1 < ps.length → ∀ w', Below w.heap.size w w' → w'.cell? ⟨bt, offt + (q + 1), none⟩ = some (.int .i64 (ld (pad t) (q + 1)))) := Lib.hid fun h w' hb => (HCELL.out (q + 1) h w' hb).1
      have HNB : Hid (0 ≤ ld (pad t) (q + 1) ∧ ld (pad t) (q + 1) ≤ 100000) := Lib.hid (HF.out.ld (q + 1))
      have HLQ := Lib.hid (HLINE.out q hlt)
      generalize refX ps r (pad t) q = x at *
      generalize hyy : refX ps r (pad t) (q + 1) = y at *
      obtain ⟨st, pk, ya, yv, ma, pl, wk⟩ := x
      obtain ⟨st2, pk2, ya2, yv2, ma2, pl2, wk2⟩ := y
      obtain ⟨h1, h2, h3, h4⟩ := HS
      simp only at h1 h2 h3 h4 hB
      have H1 := Lib.hid h1
      have H3 := Lib.hid h3
      have H4 := Lib.hid h4
      have HYY := Lib.hid hyy
      have HBD := Lib.hid hB
      obtain ⟨e7, h7⟩ : ∃ e7 : Bool, (e7 = true ∧ ya < 0 ∧ q + 1 < ps.length ∧ r.d ≤ ld (pad t) q - ld (pad t) (q + 1) ∧ ya2 = q ∧ yv2 = ld (pad t) q) ∨ (e7 = false ∧ ya < 0 ∧ q + 1 < ps.length ∧ ¬ r.d ≤ ld (pad t) q - ld (pad t) (q + 1) ∧ ya2 = ya ∧ yv2 = yv) ∨
          (e7 = false ∧ ya < 0 ∧ ¬ q + 1 < ps.length ∧ ya2 = ya ∧ yv2 = yv) ∨ (e7 = false ∧ ¬ ya < 0 ∧ ya2 = ya ∧ yv2 = yv) := by
        rcases h2 with h | h | h | h
        · exact ⟨true, .inl ⟨rfl, h⟩⟩
        · exact ⟨false, .inr (.inl ⟨rfl, h⟩)⟩
        · exact ⟨false, .inr (.inr (.inl ⟨rfl, h⟩))⟩
        · exact ⟨false, .inr (.inr (.inr ⟨rfl, h⟩))⟩
      have H7 := Lib.hid h7
      obtain ⟨e9, h9⟩ : ∃ e9 : Bool, (e9 = true ∧ ma < 0 ∧ ld (pad t) q ≤ lineI ps r q) ∨ (e9 = false ∧ ma < 0 ∧ ¬ ld (pad t) q ≤ lineI ps r q ∧ ma2 = ma ∧ pl2 = pl) ∨ (e9 = false ∧ ¬ ma < 0 ∧ ma2 = ma ∧ pl2 = pl) := by
        rcases h3 with ⟨ha, hb, _⟩ | ⟨ha, hb, _⟩ | h | h
        · exact ⟨true, .inl ⟨rfl, ha, hb⟩⟩
        · exact ⟨true, .inl ⟨rfl, ha, hb⟩⟩
        · exact ⟨false, .inr (.inl ⟨rfl, h⟩)⟩
        · exact ⟨false, .inr (.inr ⟨rfl, h⟩)⟩
      have H9 := Lib.hid h9
      clear hyy h1 h2 h3 h4 h7 h9 hB HBDS HSTEP
      go_wp2
      refine wp_region_noPanic ?_
      refine wp_region_chain (InR w (.slice (some ⟨b, off, none⟩) ps.length cap) r (rowX ⟨st, pk, ya, yv, ma, pl, wk⟩)) (fun _ _ h hb => h.grown hb) (HI.out.grown (below_drawn _)) (by kernel_rfl) (fun _ _ _ _ _ h => h)
        [(false, 0), (false, 1), (false, 2), (false, 3), (false, 4), (false, 5), (false, 6)] [] (by kernel_rfl) ?_
      (iterate 7 (refine Walk.takes rfl rfl ?_; apply Exists.intro; refine ⟨fun w' hS => ?_, ?_⟩; (obtain ⟨ec, er, ez, eo, eb⟩ := hS; have c0 := cell_of_row w' w.heap.size 0 _ _ _ ec; have r0 := cell_of_row w' (w.heap.size + 1) 0 _ _ _ er; have r1 := cell_of_row w' (w.heap.size + 1) 1 _ _ _ er; have r2 := cell_of_row w' (w.heap.size + 1) 2 _ _ _ er; have o0 := cell_of_row w' (w.heap.size + 1 + 1 + 1) 0 _ _ _ eo; have o1 := cell_of_row w' (w.heap.size + 1 + 1 + 1) 1 _ _ _ eo; have o2 := cell_of_row w' (w.heap.size + 1 + 1 + 1) 2 _ _ _ eo; have o3 := cell_of_row w' (w.heap.size + 1 + 1 + 1) 3 _ _ _ eo; have o4 := cell_of_row w' (w.heap.size + 1 + 1 + 1) 4 _ _ _ eo; have o5 := cell_of_row w' (w.heap.size + 1 + 1 + 1) 5 _ _ _ eo; have o6 := cell_of_row w' (w.heap.size + 1 + 1 + 1) 6 _ _ _ eo; obtain ⟨v0, v1⟩ := HCELL.out q hlt w' eb; clear ec er ez eo eb; simp [rowX] at c0 r0 r1 r2 o0 o1 o2 o3 o4 o5 o6; go_simp; with_reducible rfl); simp only [List.getElem_toArray, List.getElem_cons_succ, List.getElem_cons_zero, Act.put, List.setIfInBounds_toArray, List.set_cons_zero, List.set_cons_succ]))
      refine Walk.fin fun w4 hb4 hS4 => ?_
      refine Tail.done (NoPanic.normal ?_)
      replace HI := Lib.hid hS4
      clear hb4 hS4
      go_upto_if 26 with fail
      go_cut [] from 14 to 155 (fun wx => Hid (InR w (.slice (some ⟨b, off, none⟩) ps.length cap) r (rowX ⟨st2, pk2, ya, yv, ma, pl, wk⟩) wx))
      case first => as_aux_lemma =>
        obtain ⟨ec, er, ez, eo, eb⟩ := HI.out
        have c0 := cell_of_row w4 w.heap.size 0 _ _ _ ec
        have o0 := cell_of_row w4 (w.heap.size + 1 + 1 + 1) 0 _ _ _ eo
        have g0 := frozen_of_row w4 (w.heap.size + 1 + 1 + 1) 0 _ _ eo
        have o1 := cell_of_row w4 (w.heap.size + 1 + 1 + 1) 1 _ _ _ eo
        have g1 := frozen_of_row w4 (w.heap.size + 1 + 1 + 1) 1 _ _ eo
        have o2 := cell_of_row w4 (w.heap.size + 1 + 1 + 1) 2 _ _ _ eo
        have g2 := frozen_of_row w4 (w.heap.size + 1 + 1 + 1) 2 _ _ eo
        have o3 := cell_of_row w4 (w.heap.size + 1 + 1 + 1) 3 _ _ _ eo
        have g3 := frozen_of_row w4 (w.heap.size + 1 + 1 + 1) 3 _ _ eo
        have o4 := cell_of_row w4 (w.heap.size + 1 + 1 + 1) 4 _ _ _ eo
        have g4 := frozen_of_row w4 (w.heap.size + 1 + 1 + 1) 4 _ _ eo
        have o5 := cell_of_row w4 (w.heap.size + 1 + 1 + 1) 5 _ _ _ eo
        have g5 := frozen_of_row w4 (w.heap.size + 1 + 1 + 1) 5 _ _ eo
        have o6 := cell_of_row w4 (w.heap.size + 1 + 1 + 1) 6 _ _ _ eo
        have g6 := frozen_of_row w4 (w.heap.size + 1 + 1 + 1) 6 _ _ eo
        simp [rowX] at c0 o0 o1 o2 o3 o4 o5 o6
        obtain ⟨v0, v1⟩ := HCELL.out q hlt w4 eb
        rcases H1.out with ⟨h1, e1, e2⟩ | ⟨h1, e1, e2⟩
        · go_wp2_with fail
          go_meet
          case rel =>
            rw [e1, e2]
            exact Lib.hid ((HI.out.set 0 (.int .i64 (ld (pad t) q))).set 1 (.int .i64 q))
        · go_wp2_with fail
          go_meet
          case rel =>
            rw [e1, e2]
            exact HI
      case rest =>
        replace HI := hcut
        clear hcut H1
        go_wp2
        go_cut [58] from 14 to 155 (fun s58 wx => s58 = .bool e7 ∧ Hid (InR w (.slice (some ⟨b, off, none⟩) ps.length cap) r (rowX ⟨st2, pk2, ya, yv, ma, pl, wk⟩) wx))
        case first => as_aux_lemma =>
          have hqn1 : q + 1 < ps.length → (q : Int) + 1 < ps.length := fun h => by omega
          have hqn2 : ¬ q + 1 < ps.length → ¬ (q : Int) + 1 < ps.length := fun h => by omega
          have hwl : IntKind.i64.wrap (ld (pad t) q - ld (pad t) (q + 1)) = ld (pad t) q - ld (pad t) (q + 1) := IntWalk.i64_in _ (by have := HNB.out; have := HBD.out.l; omega)
          rcases H7.out with ⟨e1, h1, h2, h3, -⟩ | ⟨e1, h1, h2, h3, -⟩ | ⟨e1, h1, h2, -⟩ | ⟨e1, h1, -⟩
          · as_aux_lemma =>
            subst e1
            have hq1 := hqn1 h2
            clear hqn1 hqn2
            refine wp_region_noPanic ?_
            refine wp_region_chain (InR w (.slice (some ⟨b, off, none⟩) ps.length cap) r (rowX ⟨st2, pk2, ya, yv, ma, pl, wk⟩)) (fun _ _ h hb => h.grown hb) (HI.out.grown (below_drawn _)) (by kernel_rfl) (fun _ _ _ _ _ h => h)
              [(false, 0), (false, 1), (false, 2), (false, 3), (false, 4), (false, 5), (false, 6), (false, 7), (false, 8), (false, 9), (false, 10), (false, 11), (false, 12), (false, 13), (false, 14), (false, 15), (false, 16), (false, 17), (false, 18), (false, 19), (false, 20), (false, 21), (false, 22), (false, 23), (false, 24)] [] (by kernel_rfl) ?_
            (iterate 25 (first | (refine Walk.takes rfl rfl ?_; apply Exists.intro; refine ⟨fun w' hS => ?_, ?_⟩; (obtain ⟨ec, er, ez, eo, eb⟩ := hS; have c0 := cell_of_row w' w.heap.size 0 _ _ _ ec; have r0 := cell_of_row w' (w.heap.size + 1) 0 _ _ _ er; have r1 := cell_of_row w' (w.heap.size + 1) 1 _ _ _ er; have r2 := cell_of_row w' (w.heap.size + 1) 2 _ _ _ er; have o0 := cell_of_row w' (w.heap.size + 1 + 1 + 1) 0 _ _ _ eo; have o1 := cell_of_row w' (w.heap.size + 1 + 1 + 1) 1 _ _ _ eo; have o2 := cell_of_row w' (w.heap.size + 1 + 1 + 1) 2 _ _ _ eo; have o3 := cell_of_row w' (w.heap.size + 1 + 1 + 1) 3 _ _ _ eo; have o4 := cell_of_row w' (w.heap.size + 1 + 1 + 1) 4 _ _ _ eo; have o5 := cell_of_row w' (w.heap.size + 1 + 1 + 1) 5 _ _ _ eo; have o6 := cell_of_row w' (w.heap.size + 1 + 1 + 1) 6 _ _ _ eo; obtain ⟨v0, v1⟩ := HCELL.out q hlt w' eb; have v2 := HNX.out h2 w' eb; clear ec er ez eo eb; simp [rowX] at c0 r0 r1 r2 o0 o1 o2 o3 o4 o5 o6; go_simp; with_reducible rfl); simp only [List.getElem_toArray, List.getElem_cons_succ, List.getElem_cons_zero, Act.put, List.setIfInBounds_toArray, List.set_cons_zero, List.set_cons_succ]) | (refine Walk.skips rfl rfl ?_; simp only [List.getElem_toArray, List.getElem_cons_succ, List.getElem_cons_zero, Act.put, List.setIfInBounds_toArray, List.set_cons_zero, List.set_cons_succ])))
            refine Walk.fin fun w4 hb4 hS4 => ?_
            refine Tail.done (NoPanic.normal ?_)
            replace HI := Lib.hid hS4
            clear hb4 hS4
            go_wp2
            go_meet
            case rel => exact ⟨rfl, HI⟩
          · as_aux_lemma =>
            subst e1
            have hq1 := hqn1 h2
            have hd3 : decide (r.d ≤ ld (pad t) q - ld (pad t) (q + 1)) = false := by simp; omega
            clear hqn1 hqn2
            refine wp_region_noPanic ?_
            refine wp_region_chain (InR w (.slice (some ⟨b, off, none⟩) ps.length cap) r (rowX ⟨st2, pk2, ya, yv, ma, pl, wk⟩)) (fun _ _ h hb => h.grown hb) (HI.out.grown (below_drawn _)) (by kernel_rfl) (fun _ _ _ _ _ h => h)
              [(false, 0), (false, 1), (false, 2), (false, 3), (false, 4), (false, 5), (false, 6), (false, 7), (false, 8), (false, 9), (false, 10), (false, 11), (false, 12), (false, 13), (false, 14), (false, 15), (false, 16), (false, 17), (false, 18), (false, 19), (false, 20), (false, 21), (false, 22), (false, 23), (false, 24)] [] (by kernel_rfl) ?_
            (iterate 25 (first | (refine Walk.takes rfl rfl ?_; apply Exists.intro; refine ⟨fun w' hS => ?_, ?_⟩; (obtain ⟨ec, er, ez, eo, eb⟩ := hS; have c0 := cell_of_row w' w.heap.size 0 _ _ _ ec; have r0 := cell_of_row w' (w.heap.size + 1) 0 _ _ _ er; have r1 := cell_of_row w' (w.heap.size + 1) 1 _ _ _ er; have r2 := cell_of_row w' (w.heap.size + 1) 2 _ _ _ er; have o0 := cell_of_row w' (w.heap.size + 1 + 1 + 1) 0 _ _ _ eo; have o1 := cell_of_row w' (w.heap.size + 1 + 1 + 1) 1 _ _ _ eo; have o2 := cell_of_row w' (w.heap.size + 1 + 1 + 1) 2 _ _ _ eo; have o3 := cell_of_row w' (w.heap.size + 1 + 1 + 1) 3 _ _ _ eo; have o4 := cell_of_row w' (w.heap.size + 1 + 1 + 1) 4 _ _ _ eo; have o5 := cell_of_row w' (w.heap.size + 1 + 1 + 1) 5 _ _ _ eo; have o6 := cell_of_row w' (w.heap.size + 1 + 1 + 1) 6 _ _ _ eo; obtain ⟨v0, v1⟩ := HCELL.out q hlt w' eb; have v2 := HNX.out h2 w' eb; clear ec er ez eo eb; simp [rowX] at c0 r0 r1 r2 o0 o1 o2 o3 o4 o5 o6; go_simp; with_reducible rfl); simp only [List.getElem_toArray, List.getElem_cons_succ, List.getElem_cons_zero, Act.put, List.setIfInBounds_toArray, List.set_cons_zero, List.set_cons_succ]) | (refine Walk.skips rfl rfl ?_; simp only [List.getElem_toArray, List.getElem_cons_succ, List.getElem_cons_zero, Act.put, List.setIfInBounds_toArray, List.set_cons_zero, List.set_cons_succ])))
            refine Walk.fin fun w4 hb4 hS4 => ?_
            refine Tail.done (NoPanic.normal ?_)
            replace HI := Lib.hid hS4
            clear hb4 hS4
            go_wp2
            go_meet
            case rel => exact ⟨rfl, HI⟩
          · as_aux_lemma =>
            subst e1
            have hq1 := hqn2 h2
            clear hqn1 hqn2
            refine wp_region_noPanic ?_
            refine wp_region_chain (InR w (.slice (some ⟨b, off, none⟩) ps.length cap) r (rowX ⟨st2, pk2, ya, yv, ma, pl, wk⟩)) (fun _ _ h hb => h.grown hb) (HI.out.grown (below_drawn _)) (by kernel_rfl) (fun _ _ _ _ _ h => h)
              [(false, 0), (false, 1), (false, 2), (false, 3), (false, 4), (false, 5), (false, 6), (false, 7), (false, 8), (false, 9), (false, 10), (false, 11), (false, 12), (false, 13), (false, 14), (false, 15), (false, 16), (false, 17), (false, 18), (false, 19), (false, 20), (false, 21), (false, 22), (false, 23), (false, 24)] [] (by kernel_rfl) ?_
            (iterate 25 (first | (refine Walk.takes rfl rfl ?_; apply Exists.intro; refine ⟨fun w' hS => ?_, ?_⟩; (obtain ⟨ec, er, ez, eo, eb⟩ := hS; have c0 := cell_of_row w' w.heap.size 0 _ _ _ ec; have r0 := cell_of_row w' (w.heap.size + 1) 0 _ _ _ er; have r1 := cell_of_row w' (w.heap.size + 1) 1 _ _ _ er; have r2 := cell_of_row w' (w.heap.size + 1) 2 _ _ _ er; have o0 := cell_of_row w' (w.heap.size + 1 + 1 + 1) 0 _ _ _ eo; have o1 := cell_of_row w' (w.heap.size + 1 + 1 + 1) 1 _ _ _ eo; have o2 := cell_of_row w' (w.heap.size + 1 + 1 + 1) 2 _ _ _ eo; have o3 := cell_of_row w' (w.heap.size + 1 + 1 + 1) 3 _ _ _ eo; have o4 := cell_of_row w' (w.heap.size + 1 + 1 + 1) 4 _ _ _ eo; have o5 := cell_of_row w' (w.heap.size + 1 + 1 + 1) 5 _ _ _ eo; have o6 := cell_of_row w' (w.heap.size + 1 + 1 + 1) 6 _ _ _ eo; obtain ⟨v0, v1⟩ := HCELL.out q hlt w' eb; clear ec er ez eo eb; simp [rowX] at c0 r0 r1 r2 o0 o1 o2 o3 o4 o5 o6; go_simp; with_reducible rfl); simp only [List.getElem_toArray, List.getElem_cons_succ, List.getElem_cons_zero, Act.put, List.setIfInBounds_toArray, List.set_cons_zero, List.set_cons_succ]) | (refine Walk.skips rfl rfl ?_; simp only [List.getElem_toArray, List.getElem_cons_succ, List.getElem_cons_zero, Act.put, List.setIfInBounds_toArray, List.set_cons_zero, List.set_cons_succ])))
            refine Walk.fin fun w4 hb4 hS4 => ?_
            refine Tail.done (NoPanic.normal ?_)
            replace HI := Lib.hid hS4
            clear hb4 hS4
            go_wp2
            go_meet
            case rel => exact ⟨rfl, HI⟩
          · as_aux_lemma =>
            subst e1
            have hd1 : decide (ya < 0) = false := by simp; omega
            clear hqn1 hqn2
            refine wp_region_noPanic ?_
            refine wp_region_chain (InR w (.slice (some ⟨b, off, none⟩) ps.length cap) r (rowX ⟨st2, pk2, ya, yv, ma, pl, wk⟩)) (fun _ _ h hb => h.grown hb) (HI.out.grown (below_drawn _)) (by kernel_rfl) (fun _ _ _ _ _ h => h)
              [(false, 0), (false, 1), (false, 2), (false, 3), (false, 4), (false, 5), (false, 6), (false, 7), (false, 8), (false, 9), (false, 10), (false, 11), (false, 12), (false, 13), (false, 14), (false, 15), (false, 16), (false, 17), (false, 18), (false, 19), (false, 20), (false, 21), (false, 22), (false, 23), (false, 24)] [] (by kernel_rfl) ?_
            (iterate 25 (first | (refine Walk.takes rfl rfl ?_; apply Exists.intro; refine ⟨fun w' hS => ?_, ?_⟩; (obtain ⟨ec, er, ez, eo, eb⟩ := hS; have c0 := cell_of_row w' w.heap.size 0 _ _ _ ec; have r0 := cell_of_row w' (w.heap.size + 1) 0 _ _ _ er; have r1 := cell_of_row w' (w.heap.size + 1) 1 _ _ _ er; have r2 := cell_of_row w' (w.heap.size + 1) 2 _ _ _ er; have o0 := cell_of_row w' (w.heap.size + 1 + 1 + 1) 0 _ _ _ eo; have o1 := cell_of_row w' (w.heap.size + 1 + 1 + 1) 1 _ _ _ eo; have o2 := cell_of_row w' (w.heap.size + 1 + 1 + 1) 2 _ _ _ eo; have o3 := cell_of_row w' (w.heap.size + 1 + 1 + 1) 3 _ _ _ eo; have o4 := cell_of_row w' (w.heap.size + 1 + 1 + 1) 4 _ _ _ eo; have o5 := cell_of_row w' (w.heap.size + 1 + 1 + 1) 5 _ _ _ eo; have o6 := cell_of_row w' (w.heap.size + 1 + 1 + 1) 6 _ _ _ eo; obtain ⟨v0, v1⟩ := HCELL.out q hlt w' eb; clear ec er ez eo eb; simp [rowX] at c0 r0 r1 r2 o0 o1 o2 o3 o4 o5 o6; go_simp; with_reducible rfl); simp only [List.getElem_toArray, List.getElem_cons_succ, List.getElem_cons_zero, Act.put, List.setIfInBounds_toArray, List.set_cons_zero, List.set_cons_succ]) | (refine Walk.skips rfl rfl ?_; simp only [List.getElem_toArray, List.getElem_cons_succ, List.getElem_cons_zero, Act.put, List.setIfInBounds_toArray, List.set_cons_zero, List.set_cons_succ])))
            refine Walk.fin fun w4 hb4 hS4 => ?_
            refine Tail.done (NoPanic.normal ?_)
            replace HI := Lib.hid hS4
            clear hb4 hS4
            go_wp2
            go_meet
            case rel => exact ⟨rfl, HI⟩
        case rest =>
          obtain ⟨rfl, hc⟩ := hcut
          replace HI := hc
          clear hc
          go_upto_if 58 with fail
          go_cut [] from 14 to 155 (fun wx => Hid (InR w (.slice (some ⟨b, off, none⟩) ps.length cap) r (rowX ⟨st2, pk2, ya2, yv2, ma, pl, wk⟩) wx))
          case first => as_aux_lemma =>
            rcases H7.out with ⟨e1, h1, h2, h3, e2, e3⟩ | ⟨e1, h1, h2, h3, e2, e3⟩ | ⟨e1, h1, h2, e2, e3⟩ | ⟨e1, h1, e2, e3⟩
            · as_aux_lemma =>
              subst e1
              go_wp2
              refine wp_region_noPanic ?_
              refine wp_region_chain (fun w' => ∃ x y : Int, InR w (.slice (some ⟨b, off, none⟩) ps.length cap) r (rowX ⟨st2, pk2, x, y, ma, pl, wk⟩) w') (fun _ _ ⟨x, y, h⟩ hb => ⟨x, y, h.grown hb⟩) ⟨_, _, HI.out.grown (below_drawn _)⟩ (by kernel_rfl) (fun _ _ _ _ _ h => h)
                [(false, 0), (false, 1), (false, 2), (false, 3), (false, 4), (false, 5)] [6, 7, 8] (by kernel_rfl) ?_
              (iterate 6 (refine Walk.takes rfl rfl ?_; apply Exists.intro; refine ⟨fun w' hS => ?_, ?_⟩; (obtain ⟨x', y', hS⟩ := hS; obtain ⟨ec, er, ez, eo, eb⟩ := hS; have c0 := cell_of_row w' w.heap.size 0 _ _ _ ec; have r0 := cell_of_row w' (w.heap.size + 1) 0 _ _ _ er; have r1 := cell_of_row w' (w.heap.size + 1) 1 _ _ _ er; have r2 := cell_of_row w' (w.heap.size + 1) 2 _ _ _ er; have o0 := cell_of_row w' (w.heap.size + 1 + 1 + 1) 0 _ _ _ eo; have o1 := cell_of_row w' (w.heap.size + 1 + 1 + 1) 1 _ _ _ eo; have o2 := cell_of_row w' (w.heap.size + 1 + 1 + 1) 2 _ _ _ eo; have o3 := cell_of_row w' (w.heap.size + 1 + 1 + 1) 3 _ _ _ eo; have o4 := cell_of_row w' (w.heap.size + 1 + 1 + 1) 4 _ _ _ eo; have o5 := cell_of_row w' (w.heap.size + 1 + 1 + 1) 5 _ _ _ eo; have o6 := cell_of_row w' (w.heap.size + 1 + 1 + 1) 6 _ _ _ eo; obtain ⟨v0, v1⟩ := HCELL.out q hlt w' eb; clear ec er ez eo eb; simp [rowX] at c0 r0 r1 r2 o0 o1 o2 o3 o4 o5 o6; go_simp; with_reducible rfl); simp only [List.getElem_toArray, List.getElem_cons_succ, List.getElem_cons_zero, Act.put, List.setIfInBounds_toArray, List.set_cons_zero, List.set_cons_succ]))
              refine Walk.fin fun w4 hb4 hS4 => ?_
              have HI4 := (HI.out.grown (below_drawn _)).grown hb4
              clear hb4 hS4
              have c4 := cell_of_row w4 (w.heap.size + 1 + 1 + 1) 2 _ _ _ HI4.o
              have g4 := frozen_of_row w4 (w.heap.size + 1 + 1 + 1) 2 _ _ HI4.o
              simp [rowX] at c4
              refine Tail.skip rfl rfl (by go_simp <;> with_reducible rfl) ⟨(q : Int), yv, HI4.set 2 (.int .i64 (q : Int))⟩ ?_
              simp only [List.getElem_toArray, List.getElem_cons_succ, List.getElem_cons_zero, Act.put, List.setIfInBounds_toArray, List.set_cons_zero, List.set_cons_succ]
              have HI5 : InR w (.slice (some ⟨b, off, none⟩) ps.length cap) r (rowX ⟨st2, pk2, q, yv, ma, pl, wk⟩) (w4.setCell ⟨w.heap.size + 1 + 1 + 1, 2, none⟩ (.int .i64 (q : Int))) := HI4.set 2 (.int .i64 (q : Int))
              clear c4 g4
              generalize World.setCell w4 _ _ = w5 at *
              (refine Tail.value rfl rfl (by go_simp; with_reducible rfl) ?_; simp only [List.getElem_toArray, List.getElem_cons_succ, List.getElem_cons_zero, Act.put, List.setIfInBounds_toArray, List.set_cons_zero, List.set_cons_succ])
              have c4 := cell_of_row w5 (w.heap.size + 1 + 1 + 1) 3 _ _ _ HI5.o
              have g4 := frozen_of_row w5 (w.heap.size + 1 + 1 + 1) 3 _ _ HI5.o
              simp [rowX] at c4
              refine Tail.skip rfl rfl (by go_simp <;> with_reducible rfl) ⟨(q : Int), (ld (pad t) q), HI5.set 3 (.int .i64 (ld (pad t) q))⟩ (Tail.done (NoPanic.normal ?_))
              simp only [List.getElem_toArray, List.getElem_cons_succ, List.getElem_cons_zero, Act.put, List.setIfInBounds_toArray, List.set_cons_zero, List.set_cons_succ]
              replace HI := Lib.hid (HI5.set 3 (.int .i64 (ld (pad t) q)))
              clear c4 g4 HI4 HI5
              generalize World.setCell w5 _ _ = w6 at *
              go_wp2
              go_meet
              case rel =>
                rw [e2, e3]
                exact HI
            all_goals
              subst e1
              go_wp2
              go_meet
              case rel =>
                rw [e2, e3]
                exact HI
          case rest =>
            replace HI := hcut
            clear hcut H7
            go_wp2
            go_cut [79] from 14 to 155 (fun s79 wx => s79 = .bool e9 ∧ Hid (InR w (.slice (some ⟨b, off, none⟩) ps.length cap) r (rowX ⟨st2, pk2, ya2, yv2, ma, pl, wk⟩) wx))
            case first => as_aux_lemma =>
              rcases H9.out with ⟨e1, h1, h2⟩ | ⟨e1, h1, h2, -⟩ | ⟨e1, h1, -⟩
              · as_aux_lemma =>
                subst e1
                refine wp_region_noPanic ?_
                refine wp_region_chain (InR w (.slice (some ⟨b, off, none⟩) ps.length cap) r (rowX ⟨st2, pk2, ya2, yv2, ma, pl, wk⟩)) (fun _ _ h hb => h.grown hb) (HI.out.grown (below_drawn _)) (by kernel_rfl) (fun _ _ _ _ _ h => h)
                  [(false, 0), (false, 1), (false, 2), (false, 3), (false, 4), (false, 5), (false, 6), (false, 7), (false, 8), (false, 9), (false, 10), (true, 11), (false, 12), (false, 13)] [] (by kernel_rfl) ?_
                (iterate 11 (refine Walk.takes rfl rfl ?_; apply Exists.intro; refine ⟨fun w' hS => ?_, ?_⟩; (obtain ⟨ec, er, ez, eo, eb⟩ := hS; have c0 := cell_of_row w' w.heap.size 0 _ _ _ ec; have r0 := cell_of_row w' (w.heap.size + 1) 0 _ _ _ er; have r1 := cell_of_row w' (w.heap.size + 1) 1 _ _ _ er; have r2 := cell_of_row w' (w.heap.size + 1) 2 _ _ _ er; have o0 := cell_of_row w' (w.heap.size + 1 + 1 + 1) 0 _ _ _ eo; have o1 := cell_of_row w' (w.heap.size + 1 + 1 + 1) 1 _ _ _ eo; have o2 := cell_of_row w' (w.heap.size + 1 + 1 + 1) 2 _ _ _ eo; have o3 := cell_of_row w' (w.heap.size + 1 + 1 + 1) 3 _ _ _ eo; have o4 := cell_of_row w' (w.heap.size + 1 + 1 + 1) 4 _ _ _ eo; have o5 := cell_of_row w' (w.heap.size + 1 + 1 + 1) 5 _ _ _ eo; have o6 := cell_of_row w' (w.heap.size + 1 + 1 + 1) 6 _ _ _ eo; obtain ⟨v0, v1⟩ := HCELL.out q hlt w' eb; clear ec er ez eo eb; simp [rowX] at c0 r0 r1 r2 o0 o1 o2 o3 o4 o5 o6; go_simp; with_reducible rfl); simp only [List.getElem_toArray, List.getElem_cons_succ, List.getElem_cons_zero, Act.put, List.setIfInBounds_toArray, List.set_cons_zero, List.set_cons_succ]))
                refine Walk.calls rfl rfl ?_; apply Exists.intro; apply Exists.intro; refine ⟨fun w' hS => ?_, fun w' hba => ?_⟩; (clear hS; go_simp; exact ⟨rfl, rfl⟩)
                refine (HLQ.out w' ((HI.out.grown (below_drawn _)).grown hba).b).mono ?_
                rintro e u1 ⟨rfl, hbb⟩
                refine ⟨_, rfl, hbb, ?_⟩
                simp only [List.getElem_toArray, List.getElem_cons_succ, List.getElem_cons_zero, Act.put, List.setIfInBounds_toArray, List.set_cons_zero, List.set_cons_succ]
                clear hba hbb
                (iterate 2 (refine Walk.takes rfl rfl ?_; apply Exists.intro; refine ⟨fun w' hS => ?_, ?_⟩; (obtain ⟨ec, er, ez, eo, eb⟩ := hS; have c0 := cell_of_row w' w.heap.size 0 _ _ _ ec; have r0 := cell_of_row w' (w.heap.size + 1) 0 _ _ _ er; have r1 := cell_of_row w' (w.heap.size + 1) 1 _ _ _ er; have r2 := cell_of_row w' (w.heap.size + 1) 2 _ _ _ er; have o0 := cell_of_row w' (w.heap.size + 1 + 1 + 1) 0 _ _ _ eo; have o1 := cell_of_row w' (w.heap.size + 1 + 1 + 1) 1 _ _ _ eo; have o2 := cell_of_row w' (w.heap.size + 1 + 1 + 1) 2 _ _ _ eo; have o3 := cell_of_row w' (w.heap.size + 1 + 1 + 1) 3 _ _ _ eo; have o4 := cell_of_row w' (w.heap.size + 1 + 1 + 1) 4 _ _ _ eo; have o5 := cell_of_row w' (w.heap.size + 1 + 1 + 1) 5 _ _ _ eo; have o6 := cell_of_row w' (w.heap.size + 1 + 1 + 1) 6 _ _ _ eo; obtain ⟨v0, v1⟩ := HCELL.out q hlt w' eb; clear ec er ez eo eb; simp [rowX] at c0 r0 r1 r2 o0 o1 o2 o3 o4 o5 o6; go_simp; with_reducible rfl); simp only [List.getElem_toArray, List.getElem_cons_succ, List.getElem_cons_zero, Act.put, List.setIfInBounds_toArray, List.set_cons_zero, List.set_cons_succ]))
                refine Walk.fin fun w4 hb4 hS4 => ?_
                refine Tail.done (NoPanic.normal ?_)
                replace HI := Lib.hid hS4
                clear hb4 hS4
                go_wp2
                go_meet
                case rel => exact ⟨rfl, HI⟩
              · as_aux_lemma =>
                subst e1
                have hd1 : decide (ld (pad t) q ≤ lineI ps r q) = false := by simp; omega
                refine wp_region_noPanic ?_
                refine wp_region_chain (InR w (.slice (some ⟨b, off, none⟩) ps.length cap) r (rowX ⟨st2, pk2, ya2, yv2, ma, pl, wk⟩)) (fun _ _ h hb => h.grown hb) (HI.out.grown (below_drawn _)) (by kernel_rfl) (fun _ _ _ _ _ h => h)
                  [(false, 0), (false, 1), (false, 2), (false, 3), (false, 4), (false, 5), (false, 6), (false, 7), (false, 8), (false, 9), (false, 10), (true, 11), (false, 12), (false, 13)] [] (by kernel_rfl) ?_
                (iterate 11 (refine Walk.takes rfl rfl ?_; apply Exists.intro; refine ⟨fun w' hS => ?_, ?_⟩; (obtain ⟨ec, er, ez, eo, eb⟩ := hS; have c0 := cell_of_row w' w.heap.size 0 _ _ _ ec; have r0 := cell_of_row w' (w.heap.size + 1) 0 _ _ _ er; have r1 := cell_of_row w' (w.heap.size + 1) 1 _ _ _ er; have r2 := cell_of_row w' (w.heap.size + 1) 2 _ _ _ er; have o0 := cell_of_row w' (w.heap.size + 1 + 1 + 1) 0 _ _ _ eo; have o1 := cell_of_row w' (w.heap.size + 1 + 1 + 1) 1 _ _ _ eo; have o2 := cell_of_row w' (w.heap.size + 1 + 1 + 1) 2 _ _ _ eo; have o3 := cell_of_row w' (w.heap.size + 1 + 1 + 1) 3 _ _ _ eo; have o4 := cell_of_row w' (w.heap.size + 1 + 1 + 1) 4 _ _ _ eo; have o5 := cell_of_row w' (w.heap.size + 1 + 1 + 1) 5 _ _ _ eo; have o6 := cell_of_row w' (w.heap.size + 1 + 1 + 1) 6 _ _ _ eo; obtain ⟨v0, v1⟩ := HCELL.out q hlt w' eb; clear ec er ez eo eb; simp [rowX] at c0 r0 r1 r2 o0 o1 o2 o3 o4 o5 o6; go_simp; with_reducible rfl); simp only [List.getElem_toArray, List.getElem_cons_succ, List.getElem_cons_zero, Act.put, List.setIfInBounds_toArray, List.set_cons_zero, List.set_cons_succ]))
                refine Walk.calls rfl rfl ?_; apply Exists.intro; apply Exists.intro; refine ⟨fun w' hS => ?_, fun w' hba => ?_⟩; (clear hS; go_simp; exact ⟨rfl, rfl⟩)
                refine (HLQ.out w' ((HI.out.grown (below_drawn _)).grown hba).b).mono ?_
                rintro e u1 ⟨rfl, hbb⟩
                refine ⟨_, rfl, hbb, ?_⟩
                simp only [List.getElem_toArray, List.getElem_cons_succ, List.getElem_cons_zero, Act.put, List.setIfInBounds_toArray, List.set_cons_zero, List.set_cons_succ]
                clear hba hbb
                (iterate 2 (refine Walk.takes rfl rfl ?_; apply Exists.intro; refine ⟨fun w' hS => ?_, ?_⟩; (obtain ⟨ec, er, ez, eo, eb⟩ := hS; have c0 := cell_of_row w' w.heap.size 0 _ _ _ ec; have r0 := cell_of_row w' (w.heap.size + 1) 0 _ _ _ er; have r1 := cell_of_row w' (w.heap.size + 1) 1 _ _ _ er; have r2 := cell_of_row w' (w.heap.size + 1) 2 _ _ _ er; have o0 := cell_of_row w' (w.heap.size + 1 + 1 + 1) 0 _ _ _ eo; have o1 := cell_of_row w' (w.heap.size + 1 + 1 + 1) 1 _ _ _ eo; have o2 := cell_of_row w' (w.heap.size + 1 + 1 + 1) 2 _ _ _ eo; have o3 := cell_of_row w' (w.heap.size + 1 + 1 + 1) 3 _ _ _ eo; have o4 := cell_of_row w' (w.heap.size + 1 + 1 + 1) 4 _ _ _ eo; have o5 := cell_of_row w' (w.heap.size + 1 + 1 + 1) 5 _ _ _ eo; have o6 := cell_of_row w' (w.heap.size + 1 + 1 + 1) 6 _ _ _ eo; obtain ⟨v0, v1⟩ := HCELL.out q hlt w' eb; clear ec er ez eo eb; simp [rowX] at c0 r0 r1 r2 o0 o1 o2 o3 o4 o5 o6; go_simp; with_reducible rfl); simp only [List.getElem_toArray, List.getElem_cons_succ, List.getElem_cons_zero, Act.put, List.setIfInBounds_toArray, List.set_cons_zero, List.set_cons_succ]))
                refine Walk.fin fun w4 hb4 hS4 => ?_
                refine Tail.done (NoPanic.normal ?_)
                replace HI := Lib.hid hS4
                clear hb4 hS4
                go_wp2
                go_meet
                case rel => exact ⟨rfl, HI⟩
              · as_aux_lemma =>
                subst e1
                have hd1 : decide (ma < 0) = false := by simp; omega
                refine wp_region_noPanic ?_
                refine wp_region_chain (InR w (.slice (some ⟨b, off, none⟩) ps.length cap) r (rowX ⟨st2, pk2, ya2, yv2, ma, pl, wk⟩)) (fun _ _ h hb => h.grown hb) (HI.out.grown (below_drawn _)) (by kernel_rfl) (fun _ _ _ _ _ h => h)
                  [(false, 0), (false, 1), (false, 2), (false, 3), (false, 4), (false, 5), (false, 6), (false, 7), (false, 8), (false, 9), (false, 10), (false, 11), (false, 12), (false, 13)] [] (by kernel_rfl) ?_
                (iterate 14 (first | (refine Walk.takes rfl rfl ?_; apply Exists.intro; refine ⟨fun w' hS => ?_, ?_⟩; (obtain ⟨ec, er, ez, eo, eb⟩ := hS; have c0 := cell_of_row w' w.heap.size 0 _ _ _ ec; have r0 := cell_of_row w' (w.heap.size + 1) 0 _ _ _ er; have r1 := cell_of_row w' (w.heap.size + 1) 1 _ _ _ er; have r2 := cell_of_row w' (w.heap.size + 1) 2 _ _ _ er; have o0 := cell_of_row w' (w.heap.size + 1 + 1 + 1) 0 _ _ _ eo; have o1 := cell_of_row w' (w.heap.size + 1 + 1 + 1) 1 _ _ _ eo; have o2 := cell_of_row w' (w.heap.size + 1 + 1 + 1) 2 _ _ _ eo; have o3 := cell_of_row w' (w.heap.size + 1 + 1 + 1) 3 _ _ _ eo; have o4 := cell_of_row w' (w.heap.size + 1 + 1 + 1) 4 _ _ _ eo; have o5 := cell_of_row w' (w.heap.size + 1 + 1 + 1) 5 _ _ _ eo; have o6 := cell_of_row w' (w.heap.size + 1 + 1 + 1) 6 _ _ _ eo; obtain ⟨v0, v1⟩ := HCELL.out q hlt w' eb; clear ec er ez eo eb; simp [rowX] at c0 r0 r1 r2 o0 o1 o2 o3 o4 o5 o6; go_simp; with_reducible rfl); simp only [List.getElem_toArray, List.getElem_cons_succ, List.getElem_cons_zero, Act.put, List.setIfInBounds_toArray, List.set_cons_zero, List.set_cons_succ]) | (refine Walk.skips rfl rfl ?_; simp only [List.getElem_toArray, List.getElem_cons_succ, List.getElem_cons_zero, Act.put, List.setIfInBounds_toArray, List.set_cons_zero, List.set_cons_succ])))
                refine Walk.fin fun w4 hb4 hS4 => ?_
                refine Tail.done (NoPanic.normal ?_)
                replace HI := Lib.hid hS4
                clear hb4 hS4
                go_wp2
                go_meet
                case rel => exact ⟨rfl, HI⟩
            case rest =>
              obtain ⟨rfl, hc⟩ := hcut
              replace HI := hc
              clear hc
              go_upto_if 79 with fail
              go_cut [] from 14 to 155 (fun wx => Hid (InR w (.slice (some ⟨b, off, none⟩) ps.length cap) r (rowX ⟨st2, pk2, ya2, yv2, ma2, pl2, wk⟩) wx))
              case first => as_aux_lemma =>
                rcases H9.out with ⟨e1, h1, h2⟩ | ⟨e1, h1, h2, e2, e3⟩ | ⟨e1, h1, e2, e3⟩
                · as_aux_lemma =>
                  subst e1
                  go_wp2
                  refine wp_region_noPanic ?_
                  refine wp_region_chain (fun w' => ∃ x y : Int, InR w (.slice (some ⟨b, off, none⟩) ps.length cap) r (rowX ⟨st2, pk2, ya2, yv2, x, y, wk⟩) w') (fun _ _ ⟨x, y, h⟩ hb => ⟨x, y, h.grown hb⟩) ⟨_, _, HI.out.grown (below_drawn _)⟩ (by kernel_rfl) (fun _ _ _ _ _ h => h)
                    [(false, 0), (false, 1), (false, 2), (false, 3), (false, 4), (false, 5)] [6, 7, 8] (by kernel_rfl) ?_
                  (iterate 6 (refine Walk.takes rfl rfl ?_; apply Exists.intro; refine ⟨fun w' hS => ?_, ?_⟩; (obtain ⟨x', y', hS⟩ := hS; obtain ⟨ec, er, ez, eo, eb⟩ := hS; have c0 := cell_of_row w' w.heap.size 0 _ _ _ ec; have r0 := cell_of_row w' (w.heap.size + 1) 0 _ _ _ er; have r1 := cell_of_row w' (w.heap.size + 1) 1 _ _ _ er; have r2 := cell_of_row w' (w.heap.size + 1) 2 _ _ _ er; have o0 := cell_of_row w' (w.heap.size + 1 + 1 + 1) 0 _ _ _ eo; have o1 := cell_of_row w' (w.heap.size + 1 + 1 + 1) 1 _ _ _ eo; have o2 := cell_of_row w' (w.heap.size + 1 + 1 + 1) 2 _ _ _ eo; have o3 := cell_of_row w' (w.heap.size + 1 + 1 + 1) 3 _ _ _ eo; have o4 := cell_of_row w' (w.heap.size + 1 + 1 + 1) 4 _ _ _ eo; have o5 := cell_of_row w' (w.heap.size + 1 + 1 + 1) 5 _ _ _ eo; have o6 := cell_of_row w' (w.heap.size + 1 + 1 + 1) 6 _ _ _ eo; obtain ⟨v0, v1⟩ := HCELL.out q hlt w' eb; clear ec er ez eo eb; simp [rowX] at c0 r0 r1 r2 o0 o1 o2 o3 o4 o5 o6; go_simp; with_reducible rfl); simp only [List.getElem_toArray, List.getElem_cons_succ, List.getElem_cons_zero, Act.put, List.setIfInBounds_toArray, List.set_cons_zero, List.set_cons_succ]))
                  refine Walk.fin fun w4 hb4 hS4 => ?_
                  have HI4 := (HI.out.grown (below_drawn _)).grown hb4
                  clear hb4 hS4
                  have c4 := cell_of_row w4 (w.heap.size + 1 + 1 + 1) 4 _ _ _ HI4.o
                  have g4 := frozen_of_row w4 (w.heap.size + 1 + 1 + 1) 4 _ _ HI4.o
                  simp [rowX] at c4
                  refine Tail.skip rfl rfl (by go_simp <;> with_reducible rfl) ⟨(q : Int), pl, HI4.set 4 (.int .i64 (q : Int))⟩ ?_
                  simp only [List.getElem_toArray, List.getElem_cons_succ, List.getElem_cons_zero, Act.put, List.setIfInBounds_toArray, List.set_cons_zero, List.set_cons_succ]
                  have HI5 : InR w (.slice (some ⟨b, off, none⟩) ps.length cap) r (rowX ⟨st2, pk2, ya2, yv2, q, pl, wk⟩) (w4.setCell ⟨w.heap.size + 1 + 1 + 1, 4, none⟩ (.int .i64 (q : Int))) := HI4.set 4 (.int .i64 (q : Int))
                  clear c4 g4
                  generalize World.setCell w4 _ _ = w5 at *
                  (refine Tail.value rfl rfl (by go_simp; with_reducible rfl) ?_; simp only [List.getElem_toArray, List.getElem_cons_succ, List.getElem_cons_zero, Act.put, List.setIfInBounds_toArray, List.set_cons_zero, List.set_cons_succ])
                  have c4 := cell_of_row w5 (w.heap.size + 1 + 1 + 1) 5 _ _ _ HI5.o
                  have g4 := frozen_of_row w5 (w.heap.size + 1 + 1 + 1) 5 _ _ HI5.o
                  simp [rowX] at c4
                  refine Tail.skip rfl rfl (by go_simp <;> with_reducible rfl) ⟨(q : Int), (ld (pad t) q), HI5.set 5 (.int .i64 (ld (pad t) q))⟩ (Tail.done (NoPanic.normal ?_))
                  simp only [List.getElem_toArray, List.getElem_cons_succ, List.getElem_cons_zero, Act.put, List.setIfInBounds_toArray, List.set_cons_zero, List.set_cons_succ]
                  replace HI := Lib.hid (HI5.set 5 (.int .i64 (ld (pad t) q)))
                  clear c4 g4 HI4 HI5
                  generalize World.setCell w5 _ _ = w6 at *
                  rcases H3.out with ⟨ha, hb, e2, e4, e3⟩ | ⟨ha, hb, e2, e4, hD, e3⟩ | ⟨ha, hb, -⟩ | ⟨ha, -⟩
                  · have hz : ¬ (0 : Int) < (q : Int) := by omega
                    have hzd : decide ((0 : Int) < (q : Int)) = false := by simp; omega
                    have hzn : decide (0 < q) = false := by simp; omega
                    clear e4
                    go_wp2
                    go_meet
                    case rel =>
                      rw [e2, e3]
                      exact HI
                  · obtain ⟨q0, hq0⟩ : ∃ q0, q = q0 + 1 := ⟨q - 1, by omega⟩
                    have hqm : q - 1 = q0 := by omega
                    rw [hqm] at hD e3
                    have hzp : (0 : Int) < (q : Int) := by omega
                    have hwm : IntKind.i64.wrap ((q : Int) - 1) = (q0 : Int) := by rw [IntWalk.i64_in _ (by omega)]; omega
                    have hq0n : (q0 : Int) < ps.length := by omega
                    have hw0 : IntKind.i64.wrap (q0 : Int) = (q0 : Int) := IntWalk.i64_in _ (by omega)
                    have HQ0 : Hid (∀ w', Below w.heap.size w w' → w'.cell? ⟨bt, offt + q0, none⟩ = some (.int .i64 (ld (pad t) q0)) ∧ w'.cell? ⟨b, off + q0 * 3, none⟩ = some (.int .i64 (pt ps q0).s)) := Lib.hid fun w' hb => HCELL.out q0 (by omega) w' hb
                    have HLQ0 := Lib.hid (HLINE.out q0 (by omega))
                    have hBd := HBD.out
                    rw [hqm] at hBd
                    obtain ⟨b1, b2, b3, b4, b5, b6, b7⟩ := hBd
                    have HD := Lib.hid hD
                    have HE := Lib.hid e3
                    have HE2 := Lib.hid e2
                    have hm1 := mul_bd (x := ld (pad t) q - ld (pad t) q0) (y := ld (pad t) q0 - lineI ps r q0) (A := 100000) (B := 1100000) (by omega) (by omega)
                    have hk1 : IntKind.i64.wrap (ld (pad t) q - ld (pad t) q0) = ld (pad t) q - ld (pad t) q0 := IntWalk.i64_in _ (by omega)
                    have hk2 : IntKind.i64.wrap (ld (pad t) q0 - lineI ps r q0) = ld (pad t) q0 - lineI ps r q0 := IntWalk.i64_in _ (by omega)
                    have hk3 : IntKind.i64.wrap ((ld (pad t) q - ld (pad t) q0) * (ld (pad t) q0 - lineI ps r q0)) = (ld (pad t) q - ld (pad t) q0) * (ld (pad t) q0 - lineI ps r q0) := IntWalk.i64_in _ (by omega)
                    have hk4 : IntKind.i64.wrap (ld (pad t) q0 - lineI ps r q0 + lineI ps r q) = ld (pad t) q0 - lineI ps r q0 + lineI ps r q := IntWalk.i64_in _ (by omega)
                    have hk5 : IntKind.i64.wrap (ld (pad t) q0 - lineI ps r q0 + lineI ps r q - ld (pad t) q) = ld (pad t) q0 - lineI ps r q0 + lineI ps r q - ld (pad t) q := IntWalk.i64_in _ (by omega)
                    have HDN := Lib.hid fun w' => down_any ((ld (pad t) q - ld (pad t) q0) * (ld (pad t) q0 - lineI ps r q0)) (ld (pad t) q0 - lineI ps r q0 + lineI ps r q - ld (pad t) q) w' hD (by omega)
                    have hdv0 : Hid (q = q0 + 1) := Lib.hid hq0
                    clear hq0 hqm
                    have hdv : -9000000000000000000 ≤ ((ld (pad t) q - ld (pad t) q0) * (ld (pad t) q0 - lineI ps r q0)) / (ld (pad t) q0 - lineI ps r q0 + lineI ps r q - ld (pad t) q) ∧ ((ld (pad t) q - ld (pad t) q0) * (ld (pad t) q0 - lineI ps r q0)) / (ld (pad t) q0 - lineI ps r q0 + lineI ps r q - ld (pad t) q) ≤ 9000000000000000000 := by
                      refine ⟨Int.le_ediv_of_mul_le hD (by omega), Int.ediv_le_of_le_mul hD (by omega)⟩
                    go_wp2
                    refine wp_region_noPanic ?_
                    refine wp_region_chain (InR w (.slice (some ⟨b, off, none⟩) ps.length cap) r (rowX ⟨st2, pk2, ya2, yv2, q, ld (pad t) q, wk⟩)) (fun _ _ h hb => h.grown hb) (HI.out.grown (below_drawn _)) (by kernel_rfl) (fun _ _ _ _ _ h => h)
                      [(false, 0), (false, 1), (false, 2), (false, 3), (false, 4), (false, 5), (false, 6), (false, 7), (false, 8), (false, 9), (false, 10), (false, 11), (false, 12), (false, 14), (false, 15), (false, 16), (true, 13), (true, 17)] [18, 19, 20, 21] (by kernel_rfl) ?_
                    (iterate 16 (refine Walk.takes rfl rfl ?_; apply Exists.intro; refine ⟨fun w' hS => ?_, ?_⟩; (obtain ⟨ec, er, ez, eo, eb⟩ := hS; have c0 := cell_of_row w' w.heap.size 0 _ _ _ ec; have r0 := cell_of_row w' (w.heap.size + 1) 0 _ _ _ er; have r1 := cell_of_row w' (w.heap.size + 1) 1 _ _ _ er; have r2 := cell_of_row w' (w.heap.size + 1) 2 _ _ _ er; have o0 := cell_of_row w' (w.heap.size + 1 + 1 + 1) 0 _ _ _ eo; have o1 := cell_of_row w' (w.heap.size + 1 + 1 + 1) 1 _ _ _ eo; have o2 := cell_of_row w' (w.heap.size + 1 + 1 + 1) 2 _ _ _ eo; have o3 := cell_of_row w' (w.heap.size + 1 + 1 + 1) 3 _ _ _ eo; have o4 := cell_of_row w' (w.heap.size + 1 + 1 + 1) 4 _ _ _ eo; have o5 := cell_of_row w' (w.heap.size + 1 + 1 + 1) 5 _ _ _ eo; have o6 := cell_of_row w' (w.heap.size + 1 + 1 + 1) 6 _ _ _ eo; obtain ⟨v0, v1⟩ := HCELL.out q hlt w' eb; have v2 := HQ0.out w' eb; obtain ⟨v2, v3⟩ := v2; clear ec er ez eo eb; simp [rowX] at c0 r0 r1 r2 o0 o1 o2 o3 o4 o5 o6; go_simp; with_reducible rfl); simp only [List.getElem_toArray, List.getElem_cons_succ, List.getElem_cons_zero, Act.put, List.setIfInBounds_toArray, List.set_cons_zero, List.set_cons_succ]))
                    refine Walk.calls rfl rfl ?_; apply Exists.intro; apply Exists.intro; refine ⟨fun w' hS => ?_, fun w' hba => ?_⟩; (clear hS; go_simp; exact ⟨rfl, rfl⟩)
                    refine (HLQ0.out w' ((HI.out.grown (below_drawn _)).grown hba).b).mono ?_
                    rintro e u1 ⟨rfl, hbb⟩
                    refine ⟨_, rfl, hbb, ?_⟩
                    simp only [List.getElem_toArray, List.getElem_cons_succ, List.getElem_cons_zero, Act.put, List.setIfInBounds_toArray, List.set_cons_zero, List.set_cons_succ]
                    have hI1 := ((HI.out.grown (below_drawn _)).grown hba).grown hbb
                    clear hba hbb
                    refine Walk.calls rfl rfl ?_; apply Exists.intro; apply Exists.intro; refine ⟨fun w' hS => ?_, fun w' hba => ?_⟩; (clear hS; go_simp; exact ⟨rfl, rfl⟩)
                    refine (HLQ.out w' (hI1.grown hba).b).mono ?_
                    rintro e u2 ⟨rfl, hbb⟩
                    refine ⟨_, rfl, hbb, ?_⟩
                    simp only [List.getElem_toArray, List.getElem_cons_succ, List.getElem_cons_zero, Act.put, List.setIfInBounds_toArray, List.set_cons_zero, List.set_cons_succ]
                    clear hba hbb hI1
                    refine Walk.fin fun w7 hb7 hS7 => ?_
                    iterate 4
                      (refine Tail.value rfl rfl (by go_simp; with_reducible rfl) ?_; simp only [List.getElem_toArray, List.getElem_cons_succ, List.getElem_cons_zero, Act.put, List.setIfInBounds_toArray, List.set_cons_zero, List.set_cons_succ])
                    refine Tail.done (NoPanic.normal ?_)
                    replace HI := Lib.hid hS7
                    clear hb7 hS7
                    go_wp2_with fail
                    refine (HDN.out _).mono ?_
                    rintro e w8 ⟨rfl, hb8⟩
                    replace HI := Lib.hid (HI.out.grown hb8)
                    clear hb8
                    have hk6 : IntKind.i64.wrap (ld (pad t) q0 + ((ld (pad t) q - ld (pad t) q0) * (ld (pad t) q0 - lineI ps r q0)) / (ld (pad t) q0 - lineI ps r q0 + lineI ps r q - ld (pad t) q)) = ld (pad t) q0 + ((ld (pad t) q - ld (pad t) q0) * (ld (pad t) q0 - lineI ps r q0)) / (ld (pad t) q0 - lineI ps r q0 + lineI ps r q - ld (pad t) q) := IntWalk.i64_in _ (by omega)
                    have c4 := cell_of_row w8 (w.heap.size + 1 + 1 + 1) 5 _ _ _ HI.out.o
                    have g4 := frozen_of_row w8 (w.heap.size + 1 + 1 + 1) 5 _ _ HI.out.o
                    simp [rowX] at c4
                    go_wp2
                    go_meet
                    case rel =>
                      rw [HE2.out, HE.out]
                      exact Lib.hid (HI.out.set 5 _)
                  · omega
                  · omega
                all_goals
                  subst e1
                  go_wp2
                  go_meet
                  case rel =>
                    rw [e2, e3]
                    exact HI
              case rest =>
                replace HI := hcut
                clear hcut H9 H3
                rcases H4.out with ⟨e4, e5⟩ | ⟨hz, e5⟩
                · have HE5 := Lib.hid e5
                  have hzd : decide ((0 : Int) < (q : Int)) = false := by simp; omega
                  have hzn : decide (0 < q) = false := by simp; omega
                  clear e4 e5
                  go_wp2
                  go_roundw
                  case rel => exact ⟨q + 1, by omega, by simp, Lib.hid (by rw [HYY.out, HE5.out]; exact HI.out)⟩
                  case measure => simp [intOf] <;> omega
                · obtain ⟨q0, hq0⟩ : ∃ q0, q = q0 + 1 := ⟨q - 1, by omega⟩
                  have hqm : q - 1 = q0 := by omega
                  rw [hqm] at e5
                  have hzp : (0 : Int) < (q : Int) := by omega
                  have hwm : IntKind.i64.wrap ((q : Int) - 1) = (q0 : Int) := by rw [IntWalk.i64_in _ (by omega)]; omega
                  have hq0n : (q0 : Int) < ps.length := by omega
                  have hw0 : IntKind.i64.wrap (q0 : Int) = (q0 : Int) := IntWalk.i64_in _ (by omega)
                  have HQ0 : Hid (∀ w', Below w.heap.size w w' → w'.cell? ⟨bt, offt + q0, none⟩ = some (.int .i64 (ld (pad t) q0)) ∧ w'.cell? ⟨b, off + q0 * 3, none⟩ = some (.int .i64 (pt ps q0).s)) := Lib.hid fun w' hb => HCELL.out q0 (by omega) w' hb
                  have hBd := HBD.out
                  rw [hqm] at hBd
                  obtain ⟨b1, b2, b3, b4, b5, b6, b7⟩ := hBd
                  have hm1 := mul_bd (x := ld (pad t) q0 + ld (pad t) q) (y := (pt ps q).s - (pt ps q0).s) (A := 200000) (B := 1000) (by omega) (by omega)
                  have hk1 : IntKind.i64.wrap (ld (pad t) q0 + ld (pad t) q) = ld (pad t) q0 + ld (pad t) q := IntWalk.i64_in _ (by omega)
                  have hk2 : IntKind.i64.wrap ((pt ps q).s - (pt ps q0).s) = (pt ps q).s - (pt ps q0).s := IntWalk.i64_in _ (by omega)
                  have hk3 : IntKind.i64.wrap ((ld (pad t) q0 + ld (pad t) q) * ((pt ps q).s - (pt ps q0).s)) = (ld (pad t) q0 + ld (pad t) q) * ((pt ps q).s - (pt ps q0).s) := IntWalk.i64_in _ (by omega)
                  have hk4 : IntKind.i64.wrap (wk + (ld (pad t) q0 + ld (pad t) q) * ((pt ps q).s - (pt ps q0).s)) = wk + (ld (pad t) q0 + ld (pad t) q) * ((pt ps q).s - (pt ps q0).s) := IntWalk.i64_in _ (by omega)
                  have HE5 := Lib.hid e5
                  clear e5 hm1 b1 b2 b3 b4 b5 b6 b7 hqm hq0 hz
                  go_wp2
                  obtain ⟨ec, er, ez, eo, eb⟩ := HI.out
                  have c0 := cell_of_row wc w.heap.size 0 _ _ _ ec
                  have o0 := cell_of_row wc (w.heap.size + 1 + 1 + 1) 0 _ _ _ eo
                  have g0 := frozen_of_row wc (w.heap.size + 1 + 1 + 1) 0 _ _ eo
                  have o1 := cell_of_row wc (w.heap.size + 1 + 1 + 1) 1 _ _ _ eo
                  have g1 := frozen_of_row wc (w.heap.size + 1 + 1 + 1) 1 _ _ eo
                  have o2 := cell_of_row wc (w.heap.size + 1 + 1 + 1) 2 _ _ _ eo
                  have g2 := frozen_of_row wc (w.heap.size + 1 + 1 + 1) 2 _ _ eo
                  have o3 := cell_of_row wc (w.heap.size + 1 + 1 + 1) 3 _ _ _ eo
                  have g3 := frozen_of_row wc (w.heap.size + 1 + 1 + 1) 3 _ _ eo
                  have o4 := cell_of_row wc (w.heap.size + 1 + 1 + 1) 4 _ _ _ eo
                  have g4 := frozen_of_row wc (w.heap.size + 1 + 1 + 1) 4 _ _ eo
                  have o5 := cell_of_row wc (w.heap.size + 1 + 1 + 1) 5 _ _ _ eo
                  have g5 := frozen_of_row wc (w.heap.size + 1 + 1 + 1) 5 _ _ eo
                  have o6 := cell_of_row wc (w.heap.size + 1 + 1 + 1) 6 _ _ _ eo
                  have g6 := frozen_of_row wc (w.heap.size + 1 + 1 + 1) 6 _ _ eo
                  simp [rowX] at c0 o0 o1 o2 o3 o4 o5 o6
                  obtain ⟨v0, v1⟩ := HCELL.out q hlt wc eb
                  obtain ⟨v2, v3⟩ := HQ0.out wc eb
                  go_still_tail 29, (by kernel_rfl)
                  change wpList _ _ _ _ _ wc.drew
                  have hI4 := HI.out.grown (below_drawn wc)
                  clear c0 o0 o1 o2 o3 o4 o5 o6 g0 g1 g2 g3 g4 g5 g6 v0 v1 v2 v3 ec er ez eo eb
                  have hI5 : InR w (.slice (some ⟨b, off, none⟩) ps.length cap) r (rowX ⟨st2, pk2, ya2, yv2, ma2, pl2, wk⟩) wc.drew := hI4
                  clear hI4 HI
                  generalize wc.drew = w4 at *
                  have HI4 := Lib.hid hI5
                  clear hI5
                  have c4 := cell_of_row w4 (w.heap.size + 1 + 1 + 1) 6 _ _ _ HI4.out.o
                  have g4 := frozen_of_row w4 (w.heap.size + 1 + 1 + 1) 6 _ _ HI4.out.o
                  simp [rowX] at c4
                  go_wp2
                  have HI := Lib.hid (HI4.out.set 6 (.int .i64 (wk + (ld (pad t) q0 + ld (pad t) q) * ((pt ps q).s - (pt ps q0).s))))
                  go_roundw
                  case rel => exact ⟨q + 1, by omega, by simp, Lib.hid (by rw [HYY.out, HE5.out]; exact HI.out)⟩
                  case measure => simp [intOf] <;> omega
    · obtain rfl : q = ps.length := by omega
      have HI2 := HI.out
      rw [HEND.out] at HI2
      obtain ⟨x, hx⟩ : ∃ x, readR ps r (pad t) = x := ⟨_, rfl⟩
      rw [hx] at HI2
      have HX := Lib.hid hx
      clear hx HI
      obtain ⟨ec, er, ez, eo, eb⟩ := HI2
      have o0 := cell_of_row wr (w.heap.size + 1 + 1 + 1) 0 _ _ _ eo
      have o1 := cell_of_row wr (w.heap.size + 1 + 1 + 1) 1 _ _ _ eo
      have o2 := cell_of_row wr (w.heap.size + 1 + 1 + 1) 2 _ _ _ eo
      have o3 := cell_of_row wr (w.heap.size + 1 + 1 + 1) 3 _ _ _ eo
      have o4 := cell_of_row wr (w.heap.size + 1 + 1 + 1) 4 _ _ _ eo
      have o5 := cell_of_row wr (w.heap.size + 1 + 1 + 1) 5 _ _ _ eo
      have o6 := cell_of_row wr (w.heap.size + 1 + 1 + 1) 6 _ _ _ eo
      have z0 := cell_of_row wr (w.heap.size + 1 + 1) 0 _ _ _ ez
      have g0 := frozen_of_row wr (w.heap.size + 1 + 1) 0 _ _ ez
      have z1 := cell_of_row wr (w.heap.size + 1 + 1) 1 _ _ _ ez
      have g1 := frozen_of_row wr (w.heap.size + 1 + 1) 1 _ _ ez
      have z2 := cell_of_row wr (w.heap.size + 1 + 1) 2 _ _ _ ez
      have g2 := frozen_of_row wr (w.heap.size + 1 + 1) 2 _ _ ez
      have z3 := cell_of_row wr (w.heap.size + 1 + 1) 3 _ _ _ ez
      have g3 := frozen_of_row wr (w.heap.size + 1 + 1) 3 _ _ ez
      have z4 := cell_of_row wr (w.heap.size + 1 + 1) 4 _ _ _ ez
      have g4 := frozen_of_row wr (w.heap.size + 1 + 1) 4 _ _ ez
      have z5 := cell_of_row wr (w.heap.size + 1 + 1) 5 _ _ _ ez
      have g5 := frozen_of_row wr (w.heap.size + 1 + 1) 5 _ _ ez
      have z6 := cell_of_row wr (w.heap.size + 1 + 1) 6 _ _ _ ez
      have g6 := frozen_of_row wr (w.heap.size + 1 + 1) 6 _ _ ez
      simp [rowX, zero37] at o0 o1 o2 o3 o4 o5 o6 z0 z1 z2 z3 z4 z5 z6
      have HBF := Lib.hid eb
      clear ec er ez eo eb
      go_wp2
      refine bodyPost_ret (v := .agg #[.int .i64 x.st, .int .i64 x.pk, .int .i64 x.ya, .int .i64 x.y, .int .i64 x.ma, .int .i64 x.pl, .int .i64 x.wk]) (by simp [results, Try.results26, go_sem, *]) rfl ⟨?_, ?_⟩
      · rw [HX.out]; rfl
      · iterate 7 (refine Below.setCell (p := ⟨w.heap.size + 1 + 1, _, none⟩) ?_ (by show w.heap.size ≤ w.heap.size + 1 + 1; omega) _)
        exact HBF.out
end Go.Proofs.Ytfjlnejeffkdoaa
