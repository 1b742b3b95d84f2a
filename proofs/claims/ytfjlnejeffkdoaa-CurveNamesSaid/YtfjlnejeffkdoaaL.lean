/- Read: its contract. -/
import Derived.Test.YtfjlnejeffkdoaaJ
import Derived.Laws.CopyOwn
namespace Go.Proofs.Ytfjlnejeffkdoaa
open Go.RowKit
attribute [local irreducible] arrV

def pad (t : List Int) : List Int := t ++ List.replicate (20 - t.length) 0
theorem pad_len (t : List Int) (h : t.length ≤ 20) : (pad t).length = 20 := by simp [pad]; omega
theorem pad_ld (t : List Int) (i : Nat) (h : i < t.length) : ld (pad t) i = ld t i := by simp [pad, ld, List.getElem?_append_left h]
theorem pad_splice (t : List Int) : splice (List.replicate 20 (Value.int .i64 0)) 0 (t.map iV) = (pad t).map iV := by
  unfold splice pad
  rw [List.take_zero, List.nil_append, Nat.zero_add, List.length_map, List.drop_replicate, List.map_append, List.map_replicate]
  rfl
theorem u27 : Try.prog.underlying 27 = some (.slice 3) := Try.underlying27
theorem s3 : (Try.prog.info? 3).map (·.size) = some 1 := by kernel_rfl

/-- The world in which Read has laid what it begins with. -/
structure Rd (w W : World) (v d k o : Value) : Prop where
  below : Below w.heap.size w W
  size : W.heap.size = w.heap.size + 4
  c0 : W.cell? ⟨w.heap.size, 0, none⟩ = some v
  rs : W.heap[w.heap.size + 1 + 1]? = some (.cells zero37 37 (0, 0))
  e0 : W.cell? ⟨w.heap.size + 1 + 1 + 1, 0, none⟩ = some v
  e1 : W.cell? ⟨w.heap.size + 1 + 1 + 1, 1, none⟩ = some d
  e2 : W.cell? ⟨w.heap.size + 1 + 1 + 1, 2, none⟩ = some k
  e3 : W.cell? ⟨w.heap.size + 1 + 1 + 1, 3, none⟩ = some o
theorem rd_of (w : World) (v d k o : Value) : Rd w ((((w.alloc (.cells #[v] 34)).alloc (.cells #[d, k, o] 40)).alloc (.cells #[.int .i64 0, .int .i64 0, .int .i64 0, .int .i64 0, .int .i64 0, .int .i64 0, .int .i64 0] 37)).alloc (.cells #[v, d, k, o] 94)) v d k o := by
  refine ⟨?_, by simp, by simp [go_sem], ?_, by simp [go_sem], by simp [go_sem], by simp [go_sem], by simp [go_sem]⟩
  · exact ((((Below.refl _ w).alloc (Nat.le_refl _) _).alloc (by simp) _).alloc (by simp; omega) _).alloc (by simp; omega) _
  · rw [heap_alloc_low _ _ _ (by simp)]
    have := heap_alloc_new ((w.alloc (.cells #[v] 34)).alloc (.cells #[d, k, o] 40)) (.cells zero37 37)
    simpa [zero37] using this

set_option maxRecDepth 100000 in
set_option maxHeartbeats 1000000 in
theorem Read_bad (sl : Value) (d k o : Int) (E : Int) (a : Option Addr) (m capt : Nat) (w : World) (hE : E = 1 ∨ E = 3) (hsl : ∃ a n c, sl = .slice a n c)
    (hrc : ∀ W, Below w.heap.size w W → Calls Try.prog 48 #[.agg #[sl, .int .i64 d, .int .i64 k, .int .i64 o]] W fun e w' => e = .returned (.int .i64 E) ∧ Below W.heap.size W w') :
    Calls Try.prog 19 #[.agg #[sl], .agg #[.int .i64 d, .int .i64 k, .int .i64 o], .slice a m capt] w
      fun e w' => e = .returned (.tuple #[.agg (rsV ⟨0, 0, 0, 0, 0, 0, 0⟩), .int .i64 E]) ∧ Below w.heap.size w w' := by
  obtain ⟨a1, n1, c1, rfl⟩ := hsl
  have Hrc := Lib.hid hrc
  clear hrc
  have hR := rd_of w (.slice a1 n1 c1) (.int .i64 d) (.int .i64 k) (.int .i64 o)
  go_enter Try.func19, Try.ntmps19
  go_wp2_with fail
  generalize World.alloc (World.alloc (World.alloc (World.alloc w _) _) _) _ = W at *
  refine (Hrc.out W hR.below).mono ?_
  rintro e w1 ⟨rfl, hb1⟩
  have Z5 := (hb1.block (w.heap.size + 1 + 1) (by rw [hR.size]; omega)).trans hR.rs
  have z0 := cell_of_row w1 (w.heap.size + 1 + 1) 0 _ _ _ Z5
  have g0 := frozen_of_row w1 (w.heap.size + 1 + 1) 0 _ _ Z5
  have z1 := cell_of_row w1 (w.heap.size + 1 + 1) 1 _ _ _ Z5
  have g1 := frozen_of_row w1 (w.heap.size + 1 + 1) 1 _ _ Z5
  have z2 := cell_of_row w1 (w.heap.size + 1 + 1) 2 _ _ _ Z5
  have g2 := frozen_of_row w1 (w.heap.size + 1 + 1) 2 _ _ Z5
  have z3 := cell_of_row w1 (w.heap.size + 1 + 1) 3 _ _ _ Z5
  have g3 := frozen_of_row w1 (w.heap.size + 1 + 1) 3 _ _ Z5
  have z4 := cell_of_row w1 (w.heap.size + 1 + 1) 4 _ _ _ Z5
  have g4 := frozen_of_row w1 (w.heap.size + 1 + 1) 4 _ _ Z5
  have z5 := cell_of_row w1 (w.heap.size + 1 + 1) 5 _ _ _ Z5
  have g5 := frozen_of_row w1 (w.heap.size + 1 + 1) 5 _ _ Z5
  have z6 := cell_of_row w1 (w.heap.size + 1 + 1) 6 _ _ _ Z5
  have g6 := frozen_of_row w1 (w.heap.size + 1 + 1) 6 _ _ Z5
  simp [zero37] at z0 z1 z2 z3 z4 z5 z6
  have BL := Lib.hid (grow_to hR.below hb1)
  clear Z5 hb1 hR
  rcases hE with rfl | rfl
  all_goals
    go_wp2
    refine bodyPost_ret (v := .tuple #[.agg #[.int .i64 0, .int .i64 0, .int .i64 0, .int .i64 0, .int .i64 0, .int .i64 0, .int .i64 0], .int .i64 _]) (by simp [results, Try.results19, go_sem, *]; rfl) rfl ⟨?_, ?_⟩
    · rfl
    · iterate 7 (refine Below.setCell (p := ⟨w.heap.size + 1 + 1, _, none⟩) ?_ (by show w.heap.size ≤ w.heap.size + 1 + 1; omega) _)
      exact BL.out

set_option maxRecDepth 100000 in
set_option maxHeartbeats 1000000 in
theorem Read_no (sl : Value) (d k o : Int) (a : Option Addr) (m capt : Nat) (w : World) (hsl : ∃ a n c, sl = .slice a n c)
    (hrc : ∀ W, Below w.heap.size w W → Calls Try.prog 48 #[.agg #[sl, .int .i64 d, .int .i64 k, .int .i64 o]] W fun e w' => e = .returned (.int .i64 0) ∧ Below W.heap.size W w')
    (hal : ∀ W, Below w.heap.size w W → Calls Try.prog 49 #[.agg #[sl], .slice a m capt] W fun e w' => e = .returned (.bool false) ∧ Below W.heap.size W w') :
    Calls Try.prog 19 #[.agg #[sl], .agg #[.int .i64 d, .int .i64 k, .int .i64 o], .slice a m capt] w
      fun e w' => e = .returned (.tuple #[.agg (rsV ⟨0, 0, 0, 0, 0, 0, 0⟩), .int .i64 2]) ∧ Below w.heap.size w w' := by
  obtain ⟨a1, n1, c1, rfl⟩ := hsl
  have Hrc := Lib.hid hrc
  have Hal := Lib.hid hal
  clear hrc hal
  have hR := rd_of w (.slice a1 n1 c1) (.int .i64 d) (.int .i64 k) (.int .i64 o)
  go_enter Try.func19, Try.ntmps19
  go_wp2_with fail
  generalize World.alloc (World.alloc (World.alloc (World.alloc w _) _) _) _ = W at *
  refine (Hrc.out W hR.below).mono ?_
  rintro e w1 ⟨rfl, hb1⟩
  have q0 := (hb1.cell (p := ⟨w.heap.size, 0, none⟩) (by show w.heap.size < W.heap.size; rw [hR.size]; omega)).trans hR.c0
  have B1 := Lib.hid (grow_to hR.below hb1)
  have Z1 := Lib.hid ((hb1.block (w.heap.size + 1 + 1) (by rw [hR.size]; omega)).trans hR.rs)
  clear hb1 hR
  go_wp2_with fail
  refine (Hal.out w1 B1.out).mono ?_
  rintro e w2 ⟨rfl, hb2⟩
  have Z5 := (hb2.block (w.heap.size + 1 + 1) (lt_of_block Z1.out)).trans Z1.out
  have z0 := cell_of_row w2 (w.heap.size + 1 + 1) 0 _ _ _ Z5
  have g0 := frozen_of_row w2 (w.heap.size + 1 + 1) 0 _ _ Z5
  have z1 := cell_of_row w2 (w.heap.size + 1 + 1) 1 _ _ _ Z5
  have g1 := frozen_of_row w2 (w.heap.size + 1 + 1) 1 _ _ Z5
  have z2 := cell_of_row w2 (w.heap.size + 1 + 1) 2 _ _ _ Z5
  have g2 := frozen_of_row w2 (w.heap.size + 1 + 1) 2 _ _ Z5
  have z3 := cell_of_row w2 (w.heap.size + 1 + 1) 3 _ _ _ Z5
  have g3 := frozen_of_row w2 (w.heap.size + 1 + 1) 3 _ _ Z5
  have z4 := cell_of_row w2 (w.heap.size + 1 + 1) 4 _ _ _ Z5
  have g4 := frozen_of_row w2 (w.heap.size + 1 + 1) 4 _ _ Z5
  have z5 := cell_of_row w2 (w.heap.size + 1 + 1) 5 _ _ _ Z5
  have g5 := frozen_of_row w2 (w.heap.size + 1 + 1) 5 _ _ Z5
  have z6 := cell_of_row w2 (w.heap.size + 1 + 1) 6 _ _ _ Z5
  have g6 := frozen_of_row w2 (w.heap.size + 1 + 1) 6 _ _ Z5
  simp [zero37] at z0 z1 z2 z3 z4 z5 z6
  have BL := Lib.hid (grow_to B1.out hb2)
  clear Z5 hb2
  go_wp2
  refine bodyPost_ret (v := .tuple #[.agg #[.int .i64 0, .int .i64 0, .int .i64 0, .int .i64 0, .int .i64 0, .int .i64 0, .int .i64 0], .int .i64 2]) (by simp [results, Try.results19, go_sem, *]) rfl ⟨?_, ?_⟩
  · rfl
  · iterate 7 (refine Below.setCell (p := ⟨w.heap.size + 1 + 1, _, none⟩) ?_ (by show w.heap.size ≤ w.heap.size + 1 + 1; omega) _)
    exact BL.out

theorem range_block {w : World} {b : Nat} {l : List Value} {t : TypeId} (h : w.heap[b]? = some (.cells l.toArray t (0, 0))) : w.rangeAt b 0 l := fun j v hv => by
  rw [Nat.zero_add, cell_of_row w b j _ _ _ h]; simpa using hv

/-- The points and the rule are valid, and the truth is one of theirs. -/
structure Good (ps : List Pt) (r : Rl) (t : List Int) : Prop where
  len : ps.length ≤ 20
  pos : 0 < ps.length
  pts : goodsB ps 0 = true
  rule : ruleB r = true
  tlen : t.length = ps.length
  fit : fitsB ps t 0 = true
theorem goodB_spec {ps : List Pt} (h : goodsB ps 0 = true) {i : Nat} (hi : i < ps.length) :
    (i = 0 ∨ (pt ps (i - 1)).s < (pt ps i).s) ∧ (0 ≤ (pt ps i).s ∧ (pt ps i).s ≤ 1000) ∧ (0 ≤ (pt ps i).lo ∧ (pt ps i).lo ≤ (pt ps i).hi ∧ (pt ps i).hi ≤ 100000) := by
  simp only [goodsB, decide_eq_true_eq] at h
  have := h i hi (Nat.zero_le _)
  simp only [goodB, risesB, hasB, withinB, Bool.and_eq_true, decide_eq_true_eq] at this
  exact this
theorem ruleB_spec {r : Rl} (h : ruleB r = true) : (1 ≤ r.d ∧ r.d ≤ 100000) ∧ (1 ≤ r.k ∧ r.k ≤ 1000) ∧ (0 ≤ r.o ∧ r.o ≤ 1000) := by
  simpa only [ruleB, hasB, Bool.and_eq_true, decide_eq_true_eq] using h
theorem fitB_spec {ps : List Pt} {t : List Int} (h : fitsB ps t 0 = true) {i : Nat} (hi : i < ps.length) : (pt ps i).lo ≤ ld t i ∧ ld t i ≤ (pt ps i).hi := by
  simp only [fitsB, decide_eq_true_eq] at h
  simpa only [fitB, hasB, decide_eq_true_eq] using h i hi (Nat.zero_le _)
theorem Good.fine {ps : List Pt} {r : Rl} {t : List Int} (G : Good ps r t) : Fine ps r (pad t) where
  len := G.len
  pos := G.pos
  tlen := pad_len t (by have := G.tlen; have := G.len; omega)
  st := fun i hi => (goodB_spec G.pts hi).2.1
  k := (ruleB_spec G.rule).2.1
  o := (ruleB_spec G.rule).2.2
  d := (ruleB_spec G.rule).1
  ld := fun i => by
    by_cases h : i < t.length
    · rw [pad_ld t i h]
      have h1 := fitB_spec G.fit (show i < ps.length by have := G.tlen; omega)
      have h2 := (goodB_spec G.pts (show i < ps.length by have := G.tlen; omega)).2.2
      omega
    · have : ld (pad t) i = 0 := by
        simp only [ld, pad]
        rw [List.getElem?_append_right (by omega)]
        rw [List.getElem?_replicate]
        split <;> rfl
      omega

set_option maxRecDepth 100000 in
set_option maxHeartbeats 2000000 in
theorem Read_ok (b off cap bt offt capt : Nat) (ps : List Pt) (r : Rl) (t : List Int) (w : World) (G : Good ps r t) (hp : PtsIn w b off ps) (hi : IntsIn w bt offt t) :
    Calls Try.prog 19 #[.agg #[.slice (some ⟨b, off, none⟩) ps.length cap], .agg #[.int .i64 r.d, .int .i64 r.k, .int .i64 r.o], .slice (some ⟨bt, offt, none⟩) ps.length capt] w
      fun e w' => e = .returned (.tuple #[.agg (rsV (readR ps r (pad t))), .int .i64 0]) ∧ Below w.heap.size w w' := by
  have hltb : b < w.heap.size := block_lt_of_cell (hp 0 G.pos).1
  have hltt : bt < w.heap.size := block_lt_of_cell (hi 0 (by have := G.tlen; have := G.pos; omega))
  have Hrc := Lib.hid (fun W (hb : Below w.heap.size w W) => rcheck_pts b off cap ps r.d r.k r.o W G.len G.pos (hp.below hb hltb))
  have HE : Hid (bothE ps ⟨r.d, r.k, r.o⟩ = 0) := by
    have h1 := G.pts
    have h2 : ruleB ⟨r.d, r.k, r.o⟩ = true := G.rule
    simp [Hid, bothE, h1, ruleE, h2]
  have Hal := Lib.hid (fun W (hb : Below w.heap.size w W) => allows_any b off cap bt offt capt ps t W G.len G.pos (hp.below hb hltb) G.tlen (hi.below hb hltt))
  have HF := Lib.hid G.fit
  have Hrd := Lib.hid (fun W (hb : Below w.heap.size w W) => read_any b off cap ps r (pad t) W G.fine (hp.below hb hltb))
  have HL := Lib.hid G.tlen
  have hlen := G.len
  have hpos := G.pos
  have hmin : Hid (Nat.min ps.length 20 = ps.length) := Nat.min_eq_left G.len
  have HI := Lib.hid hi
  clear hi hp G
  have hR := rd_of w (.slice (some ⟨b, off, none⟩) ps.length cap) (.int .i64 r.d) (.int .i64 r.k) (.int .i64 r.o)
  go_enter Try.func19, Try.ntmps19
  go_wp2_with fail
  generalize World.alloc (World.alloc (World.alloc (World.alloc w _) _) _) _ = W at *
  refine (Hrc.out W hR.below).mono ?_
  rintro e w1 ⟨rfl, hb1⟩
  rw [HE.out]
  have q0 := (hb1.cell (p := ⟨w.heap.size, 0, none⟩) (by show w.heap.size < W.heap.size; rw [hR.size]; omega)).trans hR.c0
  have B1 := Lib.hid (grow_to hR.below hb1)
  have Z1 := Lib.hid ((hb1.block (w.heap.size + 1 + 1) (by rw [hR.size]; omega)).trans hR.rs)
  have E0 := Lib.hid ((hb1.cell (p := ⟨w.heap.size + 1 + 1 + 1, 0, none⟩) (by show w.heap.size + 1 + 1 + 1 < W.heap.size; rw [hR.size]; omega)).trans hR.e0)
  have E1 := Lib.hid ((hb1.cell (p := ⟨w.heap.size + 1 + 1 + 1, 1, none⟩) (by show w.heap.size + 1 + 1 + 1 < W.heap.size; rw [hR.size]; omega)).trans hR.e1)
  have E2 := Lib.hid ((hb1.cell (p := ⟨w.heap.size + 1 + 1 + 1, 2, none⟩) (by show w.heap.size + 1 + 1 + 1 < W.heap.size; rw [hR.size]; omega)).trans hR.e2)
  have E3 := Lib.hid ((hb1.cell (p := ⟨w.heap.size + 1 + 1 + 1, 3, none⟩) (by show w.heap.size + 1 + 1 + 1 < W.heap.size; rw [hR.size]; omega)).trans hR.e3)
  clear hb1 hR
  go_wp2_with fail
  refine (Hal.out w1 B1.out).mono ?_
  rintro e w2 ⟨rfl, hb2⟩
  rw [HF.out]
  have lt3 : w.heap.size + 1 + 1 + 1 < w1.heap.size := block_lt_of_cell E0.out
  have Z2 := Lib.hid ((hb2.block (w.heap.size + 1 + 1) (lt_of_block Z1.out)).trans Z1.out)
  have e0 := Lib.hid ((hb2.cell (p := ⟨w.heap.size + 1 + 1 + 1, 0, none⟩) lt3).trans E0.out)
  have e1 := Lib.hid ((hb2.cell (p := ⟨w.heap.size + 1 + 1 + 1, 1, none⟩) lt3).trans E1.out)
  have e2 := Lib.hid ((hb2.cell (p := ⟨w.heap.size + 1 + 1 + 1, 2, none⟩) lt3).trans E2.out)
  have e3 := Lib.hid ((hb2.cell (p := ⟨w.heap.size + 1 + 1 + 1, 3, none⟩) lt3).trans E3.out)
  have B2 := Lib.hid (grow_to B1.out hb2)
  clear hb2 lt3 q0 Z1 E0 E1 E2 E3
  have hsrc : Hid (∀ (o : Obj) (j : Nat) (v : Value), (t.map iV)[j]? = some v → (w2.alloc o).cell? ((⟨bt, offt, none⟩ : Addr).add j) = some v) := fun o j v hv => by
    have hj : j < t.length := by have := (List.getElem?_eq_some_iff.1 hv).1; simpa using this
    have e : v = .int .i64 (ld t j) := by
      rw [List.getElem?_map, List.getElem?_eq_getElem hj] at hv
      simp only [Option.map_some, Option.some.injEq] at hv
      rw [← hv]; simp [ld, hj, iV]
    rw [e, Addr.add_mid]
    exact ((grow_to B2.out (grow_alloc w2 o)).cell (p := ⟨bt, offt + j, none⟩) hltt).trans (HI.out j hj)
  have lt4 : w.heap.size + 1 + 1 + 1 < w2.heap.size := block_lt_of_cell e0.out
  have s97p : Hid ((Try.prog.info? 97).map (·.size) = some ((pad t).map iV).length) := s97.trans (by rw [List.length_map, pad_len t (by rw [HL.out]; exact hlen)])
  go_wp2_with (first
    | (refine wpList_copy_splice rfl (.tmp 25) (.tmp 26) 27 27 rfl 3 u27 s3 _ _ _ _ _ _ rfl rfl w2.heap.size 0 (List.replicate 20 (.int .i64 0)) 97 (by exact heap_alloc_new w2 _) (t.map iV) (by rw [List.length_map, HL.out]; exact hmin.out.symm) (fun _ => ⟨rfl, _, rfl, fun j v hv => hsrc.out _ j v hv⟩) (by simp; rw [HL.out]; omega) (by simp [iV, Value.oneCell']) w2.heap.size w2 (grow_alloc w2 _) (Nat.le_refl _) ?_; intro W5 HG5 HB5; have m0 := (HB5.cell (p := ⟨w.heap.size + 1 + 1 + 1, 0, none⟩) lt4).trans e0.out; have m1 := (HB5.cell (p := ⟨w.heap.size + 1 + 1 + 1, 1, none⟩) lt4).trans e1.out; have m2 := (HB5.cell (p := ⟨w.heap.size + 1 + 1 + 1, 2, none⟩) lt4).trans e2.out; have m3 := (HB5.cell (p := ⟨w.heap.size + 1 + 1 + 1, 3, none⟩) lt4).trans e3.out; have B5 := Lib.hid (grow_to B2.out HB5); have Z6 := Lib.hid ((HB5.block (w.heap.size + 1 + 1) (lt_of_block Z2.out)).trans Z2.out); clear HB5; rw [pad_splice] at HG5; have HR5 := Lib.hid (range_block HG5.out); clear HG5)
    | (refine wpList_load_mid rfl 97 (.tmp 10) rfl _ _ rfl ((pad t).map iV) (.array 20 3) (by exact HR5.out) u97 rfl (by exact s97p.out) ?_; rw [arrV_mk])
    | (go_at_call 50; refine (Hrd.out _ B5.out).mono ?_; rintro e w6 ⟨rfl, hb6⟩; have Z5 := (hb6.block (w.heap.size + 1 + 1) (lt_of_block Z6.out)).trans Z6.out; have B6 := Lib.hid (grow_to B5.out hb6); clear hb6; have z0 := cell_of_row w6 (w.heap.size + 1 + 1) 0 _ _ _ Z5; have g0 := frozen_of_row w6 (w.heap.size + 1 + 1) 0 _ _ Z5; have z1 := cell_of_row w6 (w.heap.size + 1 + 1) 1 _ _ _ Z5; have g1 := frozen_of_row w6 (w.heap.size + 1 + 1) 1 _ _ Z5; have z2 := cell_of_row w6 (w.heap.size + 1 + 1) 2 _ _ _ Z5; have g2 := frozen_of_row w6 (w.heap.size + 1 + 1) 2 _ _ Z5; have z3 := cell_of_row w6 (w.heap.size + 1 + 1) 3 _ _ _ Z5; have g3 := frozen_of_row w6 (w.heap.size + 1 + 1) 3 _ _ Z5; have z4 := cell_of_row w6 (w.heap.size + 1 + 1) 4 _ _ _ Z5; have g4 := frozen_of_row w6 (w.heap.size + 1 + 1) 4 _ _ Z5; have z5 := cell_of_row w6 (w.heap.size + 1 + 1) 5 _ _ _ Z5; have g5 := frozen_of_row w6 (w.heap.size + 1 + 1) 5 _ _ Z5; have z6 := cell_of_row w6 (w.heap.size + 1 + 1) 6 _ _ _ Z5; have g6 := frozen_of_row w6 (w.heap.size + 1 + 1) 6 _ _ Z5; simp [zero37] at z0 z1 z2 z3 z4 z5 z6; clear Z5; generalize hxx : readR ps r (pad t) = x; have HXX := Lib.hid hxx; clear hxx; rw [show rsV x = #[.int .i64 x.st, .int .i64 x.pk, .int .i64 x.ya, .int .i64 x.y, .int .i64 x.ma, .int .i64 x.pl, .int .i64 x.wk] from rfl])
    | fail)
  refine bodyPost_ret (v := .tuple #[.agg #[.int .i64 x.st, .int .i64 x.pk, .int .i64 x.ya, .int .i64 x.y, .int .i64 x.ma, .int .i64 x.pl, .int .i64 x.wk], .int .i64 0]) (by simp [results, Try.results19, go_sem, *]) rfl ⟨?_, ?_⟩
  · rw [HXX.out]; rfl
  · iterate 7 (refine Below.setCell (p := ⟨w.heap.size + 1 + 1, _, none⟩) ?_ (by show w.heap.size ≤ w.heap.size + 1 + 1; omega) _)
    exact B6.out
end Go.Proofs.Ytfjlnejeffkdoaa
