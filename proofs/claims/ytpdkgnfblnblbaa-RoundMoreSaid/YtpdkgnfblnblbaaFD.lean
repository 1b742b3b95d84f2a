/- The search of the court: contract. Condition: the round is valid. -/
import Derived.Test.YtpdkgnfblnblbaaCT
import Derived.Test.YtpdkgnfblnblbaaWS
import Derived.Test.YtpdkgnfblnblbaaBA
namespace Go.Proofs.Ytpdkgnfblnblbaa
open Go.RowKit Go.Shelf
attribute [local irreducible] arrV wpQuiet
/-- The search, as a function. -/
def loopP (sp : Int) (g : Nat → Option (List Int)) : Nat → Nat → Option (List Int)
  | 0, _ => none
  | c + 1, i => if (i : Int) = sp then loopP sp g c (i + 1) else match g i with
    | some x => some x
    | none => loopP sp g c (i + 1)
def findP (R : Rd) (sp : Int) : Nat → (Nat → Bool) → Nat → Option (List Int)
  | 0, o, _ => if explB R o = true then some (offT o 6) else none
  | m + 1, o, i => loopP sp (fun j => findP R sp m (updO o j) (j + 1)) (R.labs.length - i) i
theorem loopP_skip {sp : Int} {g : Nat → Option (List Int)} {n i : Nat} (hi : i < n) (h : (i : Int) = sp) : loopP sp g (n - i) i = loopP sp g (n - (i + 1)) (i + 1) := by
  rw [show n - i = (n - (i + 1)) + 1 by omega, loopP, if_pos h]
theorem loopP_some {sp : Int} {g : Nat → Option (List Int)} {n i : Nat} {x : List Int} (hi : i < n) (h : ¬ (i : Int) = sp) (hg : g i = some x) : loopP sp g (n - i) i = some x := by
  rw [show n - i = (n - (i + 1)) + 1 by omega, loopP, if_neg h, hg]
theorem loopP_none {sp : Int} {g : Nat → Option (List Int)} {n i : Nat} (hi : i < n) (h : ¬ (i : Int) = sp) (hg : g i = none) : loopP sp g (n - i) i = loopP sp g (n - (i + 1)) (i + 1) := by
  rw [show n - i = (n - (i + 1)) + 1 by omega, loopP, if_neg h, hg]
theorem loopP_end {sp : Int} {g : Nat → Option (List Int)} {n : Nat} : loopP sp g (n - n) n = none := by
  rw [Nat.sub_self]
  rfl

def pz (k : Nat) : Value := .pointer (some ⟨k, 0, none⟩)
/-- What the search has in memory: the court, who is spared, the two functions, the map. -/
structure FindW (z n bm : Nat) (p : Rp) (R : Rd) (sp : Int) (W : World) : Prop where
  hc : W.heap[z]? = some (.cells #[.slice p.la R.lots.length p.lc, .slice p.sa R.smp.length p.sc, .int .i64 R.sp, .slice p.ba R.labs.length p.bc, .map (some bm)] 92 (0, 0))
  hs : W.heap[z + 1]? = some (.cells #[.int .i64 sp] 3 (0, 0))
  he : W.heap[z + 2]? = some (.cells #[.func (.func 68) #[.agg #[.slice p.la R.lots.length p.lc, .slice p.sa R.smp.length p.sc, .int .i64 R.sp, .slice p.ba R.labs.length p.bc, .map (some bm)]] #[]] 110 (0, 0))
  hf : W.heap[z + 3]? = some (.cells #[.func (.func 69) #[] #[pz (z + 2), pz z, pz (z + 1), pz (z + 3)]] 111 (0, 0))
  hm : CMap W bm R
  hv : RdV n W p R
  hn : n ≤ bm
  hz : bm < z
theorem FindW.but {z n bm : Nat} {p : Rp} {R : Rd} {sp : Int} {W W' : World} (h : FindW z n bm p R sp W) (hb : But (fun k => k = bm) W W') (hM : CMap W' bm R) : FindW z n bm p R sp W' := by
  have hz := h.hz
  have hn := h.hn
  exact ⟨(hb.block _ (lt_of_block h.hc) (by omega)).trans h.hc, (hb.block _ (lt_of_block h.hs) (by omega)).trans h.hs, (hb.block _ (lt_of_block h.he) (by omega)).trans h.he, (hb.block _ (lt_of_block h.hf) (by omega)).trans h.hf, hM, h.hv.same fun k hk => hb.block k (by have := h.hm.lt; omega) (by omega), h.hn, h.hz⟩
theorem FindW.below {z n bm : Nat} {p : Rp} {R : Rd} {sp : Int} {W W' : World} (h : FindW z n bm p R sp W) (hb : Below W.heap.size W W') : FindW z n bm p R sp W' :=
  h.but (But.of_below hb) (h.hm.block (hb.block _ h.hm.lt))

/-- What a search returns. -/
def FndP (W : World) (r : Option (List Int)) (e : Ending) (W' : World) : Prop :=
  ∃ a k c, e = .returned (.tuple #[.slice a k c, .bool r.isSome]) ∧ ∀ l, r = some l → k = l.length ∧ W'.ownsRow W.heap.size 3 1 (.slice a k c) k (l.map iV)

set_option maxRecDepth 100000 in
set_option maxHeartbeats 1500000 in
theorem find_any (z n bm : Nat) (p : Rp) (R : Rd) (sp : Int) (hR : RdOk R) : ∀ (m : Nat) (o : Nat → Bool) (i : Nat) (W : World), m ≤ 6 → i ≤ R.labs.length → FindW z n bm p R sp W →
    Calls Try.prog 69 #[.agg #[.bool (o 0), .bool (o 1), .bool (o 2), .bool (o 3), .bool (o 4), .bool (o 5)], .int .i64 i, .int .i64 m, pz (z + 2), pz z, pz (z + 1), pz (z + 3)] W fun e W' => FndP W (findP R sp m o i) e W' ∧ But (fun k => k = bm) W W' ∧ FindW z n bm p R sp W' := by
  intro m
  induction m with
  | zero =>
    intro o i W hm6 hi hW
    have HEX := Lib.hid fun w' (h : CMap w' bm R) (hv : RdV n w' p R) => explain_any n bm p R o w' hR hv hW.hn h
    have HLI := Lib.hid (offList_any o)
    have HW := Lib.hid (hW.below (box_below W (.cells #[.bool (o 0), .bool (o 1), .bool (o 2), .bool (o 3), .bool (o 4), .bool (o 5)] 81)))
    have H7 := Lib.hid (heap_alloc_new W (.cells #[.bool (o 0), .bool (o 1), .bool (o 2), .bool (o 3), .bool (o 4), .bool (o 5)] 81))
    have HB := Lib.hid (box_below W (.cells #[.bool (o 0), .bool (o 1), .bool (o 2), .bool (o 3), .bool (o 4), .bool (o 5)] 81))
    have HFP : Hid (findP R sp 0 o i = if explB R o = true then some (offT o 6) else none) := Lib.hid rfl
    have HZB := Lib.hid (show ¬ W.heap.size = bm by have := hW.hm.lt; omega)
    unfold offA at HLI
    clear hW hi hm6
    unfold pz
    go_enter Try.func69, Try.ntmps69
    go_wp2_with fail
    generalize World.alloc W _ = W1 at *
    have HC : Hid (∀ w', But (fun k => k = bm) W1 w' → w'.heap[W.heap.size]? = some (.cells #[.bool (o 0), .bool (o 1), .bool (o 2), .bool (o 3), .bool (o 4), .bool (o 5)] 81 (0, 0)) ∧ w'.cell? ⟨W.heap.size, 0, none⟩ = some (.bool (o 0)) ∧ w'.cell? ⟨W.heap.size, 1, none⟩ = some (.bool (o 1)) ∧ w'.cell? ⟨W.heap.size, 2, none⟩ = some (.bool (o 2)) ∧ w'.cell? ⟨W.heap.size, 3, none⟩ = some (.bool (o 3)) ∧ w'.cell? ⟨W.heap.size, 4, none⟩ = some (.bool (o 4)) ∧ w'.cell? ⟨W.heap.size, 5, none⟩ = some (.bool (o 5)) ∧ w'.cell? ⟨z + 2, 0, none⟩ = some (.func (.func 68) #[.agg #[.slice p.la R.lots.length p.lc, .slice p.sa R.smp.length p.sc, .int .i64 R.sp, .slice p.ba R.labs.length p.bc, .map (some bm)]] #[]) ∧ W.heap.size < w'.heap.size ∧ z + 2 < w'.heap.size) := Lib.hid fun w' hS => by
      have h7 := (hS.block _ (lt_of_block H7.out) HZB.out).trans H7.out
      have h2 := (hS.block _ (lt_of_block HW.out.he) (by have := HW.out.hz; omega)).trans HW.out.he
      exact ⟨h7, cell_of_row w' _ 0 _ _ _ h7, cell_of_row w' _ 1 _ _ _ h7, cell_of_row w' _ 2 _ _ _ h7, cell_of_row w' _ 3 _ _ _ h7, cell_of_row w' _ 4 _ _ _ h7, cell_of_row w' _ 5 _ _ _ h7, cell_of_row w' _ 0 _ _ _ h2, lt_of_block h7, lt_of_block h2⟩
    refine wp_region_noPanic ?_
    refine wp_region_walkS (fun w' => But (fun k => k = bm) W1 w') (But.of_below (below_drawn _)) (by decide +kernel) (fun _ _ _ _ _ h => h)
      [(false, 0), (false, 2), (false, 3), (true, 1), (true, 4), (false, 5), (false, 6)] (by decide +kernel) ?_
    iterate 3
      (refine WalkS.takes rfl rfl ?_; apply Exists.intro; refine ⟨fun w' hS => ?_, ?_⟩; (obtain ⟨zz, z0, z1, z2, z3, z4, z5, z6, z7, z8⟩ := HC.out w' hS; clear hS; go_simp; with_reducible rfl); simp only [List.getElem_toArray, List.getElem_cons_succ, List.getElem_cons_zero, Act.put, List.setIfInBounds_toArray, List.set_cons_zero, List.set_cons_succ])
    refine WalkS.calls rfl rfl ?_; apply Exists.intro; apply Exists.intro; refine ⟨(by go_simp; exact ⟨rfl, rfl⟩), ?_⟩
    have hS1 : But (fun k => k = bm) W1 { W1 with drawn := W1.drawn + 1 } := But.of_below (below_drawn _)
    refine (HLI.out _).mono ?_
    rintro e w2 ⟨⟨v, rfl, ho⟩, hb2⟩
    have hS2 := hS1.trans (But.of_below hb2)
    refine ⟨_, rfl, hS2, ?_⟩
    obtain ⟨va, vc, rfl⟩ := own_shape ho
    simp only [List.getElem_toArray, List.getElem_cons_succ, List.getElem_cons_zero, Act.put, List.setIfInBounds_toArray, List.set_cons_zero, List.set_cons_succ]
    refine WalkS.calls rfl rfl ?_; apply Exists.intro; apply Exists.intro; refine ⟨(by go_simp; exact ⟨rfl, rfl⟩), ?_⟩
    have hb3 : Below W1.heap.size W1 w2 := grow_to (below_drawn W1) hb2
    have hW2 := HW.out.below hb3
    refine (HEX.out w2 hW2.hm hW2.hv).mono ?_
    rintro e w3 ⟨rfl, hbt3, hm3⟩
    have hS3 := hS2.trans hbt3
    refine ⟨_, rfl, hS3, ?_⟩
    simp only [List.getElem_toArray, List.getElem_cons_succ, List.getElem_cons_zero, Act.put, List.setIfInBounds_toArray, List.set_cons_zero, List.set_cons_succ]
    iterate 2
      (refine WalkS.takes rfl rfl ?_; apply Exists.intro; refine ⟨fun w' hS => ?_, ?_⟩; (clear hS; go_simp; with_reducible rfl); simp only [List.getElem_toArray, List.getElem_cons_succ, List.getElem_cons_zero, Act.put, List.setIfInBounds_toArray, List.set_cons_zero, List.set_cons_succ])
    have hW3 := hW2.but hbt3 hm3
    have ho3 : w3.ownsRow W.heap.size 3 1 (.slice va (offT o 6).length vc) (offT o 6).length ((offT o 6).map iV) := by
      have hg : ∀ g, (Value.slice va (offT o 6).length vc).ownBlock = some g → w3.heap[g]? = w2.heap[g]? := fun g hg => hbt3.block g (own_lt ho hg).2 (by
        have h1 := (own_lt ho hg).1
        have h2 := HW.out.hm.lt
        have h3 : g ≥ W1.heap.size := h1
        omega)
      exact ownsRow_mono (by have := HB.out.size; show W.heap.size ≤ W1.heap.size; omega) (own_at ho hg)
    have HO := Lib.hid ho3
    have HBT := Lib.hid ((But.of_below HB.out : But (fun k => k = bm) W W1).trans hS3)
    have HWF := Lib.hid hW3
    clear hS1 hS2 hS3 hb2 hb3 ho ho3 hW2 hW3 hbt3 hm3 HC
    refine WalkS.fin (NoPanic.normal ?_)
    go_wp2
    go_ret2
    refine ⟨⟨va, (offT o 6).length, vc, ?_, fun l hl => ?_⟩, HBT.out, HWF.out⟩
    · rw [HFP.out]
      cases explB R o <;> rfl
    · rw [HFP.out] at hl
      split at hl
      · cases hl
        exact ⟨rfl, HO.out⟩
      · cases hl
  | succ m ih =>
    intro o i W hm6 hi hW
    have hk6 := hR.k6
    have HIH := Lib.hid ih
    have HWI := Lib.hid with_any
    have HW := Lib.hid (hW.below (box_below W (.cells #[.bool (o 0), .bool (o 1), .bool (o 2), .bool (o 3), .bool (o 4), .bool (o 5)] 81)))
    have H7 := Lib.hid (heap_alloc_new W (.cells #[.bool (o 0), .bool (o 1), .bool (o 2), .bool (o 3), .bool (o 4), .bool (o 5)] 81))
    have HB := Lib.hid (box_below W (.cells #[.bool (o 0), .bool (o 1), .bool (o 2), .bool (o 3), .bool (o 4), .bool (o 5)] 81))
    have HFP : Hid (findP R sp (m + 1) o i = loopP sp (fun j => findP R sp m (updO o j) (j + 1)) (R.labs.length - i) i) := Lib.hid rfl
    have HZB := Lib.hid (show ¬ W.heap.size = bm by have := hW.hm.lt; omega)
    have HBT0 : Hid (But (fun k => k = bm) W (W.alloc (.cells #[.bool (o 0), .bool (o 1), .bool (o 2), .bool (o 3), .bool (o 4), .bool (o 5)] 81))) := Lib.hid (But.of_below HB.out)
    have HZW : Hid (z + 3 < W.heap.size) := Lib.hid (lt_of_block hW.hf)
    obtain ⟨G, hG⟩ : ∃ G, G = fun j => findP R sp m (updO o j) (j + 1) := ⟨_, rfl⟩
    rw [← hG] at HFP
    have HG : Hid (∀ j, G j = findP R sp m (updO o j) (j + 1)) := Lib.hid fun j => by rw [hG]
    have HSK := Lib.hid fun j (h1 : j < R.labs.length) (h2 : (j : Int) = sp) => loopP_skip (g := G) h1 h2
    have HSO := Lib.hid fun j x (h1 : j < R.labs.length) (h2 : ¬ (j : Int) = sp) h3 => loopP_some (g := G) (x := x) h1 h2 h3
    have HNO := Lib.hid fun j (h1 : j < R.labs.length) (h2 : ¬ (j : Int) = sp) h3 => loopP_none (g := G) h1 h2 h3
    have HEN := Lib.hid (loopP_end (sp := sp) (g := G) (n := R.labs.length))
    unfold offA at HWI
    clear hW ih hG
    have hm1 : (((m + 1 : Nat) : Int) == 0) = false := by rw [beq_eq_false_iff_ne]; omega
    have hm2 : ((m : Int) + 1 == 0) = false := by rw [beq_eq_false_iff_ne]; omega
    have hwm : IntKind.i64.wrap (((m + 1 : Nat) : Int) - 1) = (m : Int) := by rw [IntWalk.i64_in _ (by omega)]; omega
    have hwm3 : IntKind.i64.wrap (m : Int) = (m : Int) := IntWalk.i64_in _ (by omega)
    have hwm2 : IntKind.i64.wrap ((m : Int) + 1 - 1) = (m : Int) := by rw [IntWalk.i64_in _ (by omega)]; omega
    unfold pz
    go_enter Try.func69, Try.ntmps69
    go_wp2_with fail
    generalize World.alloc W _ = W1 at *
    go_loopw [12] (fun x wr => ∃ j : Nat, j ≤ R.labs.length ∧ x = .int .i64 j ∧ Hid (loopP sp G (R.labs.length - i) i = loopP sp G (R.labs.length - j) j) ∧ Hid (wr.heap[W.heap.size]? = some (.cells #[.bool (o 0), .bool (o 1), .bool (o 2), .bool (o 3), .bool (o 4), .bool (o 5)] 81 (0, 0))) ∧ Hid (FindW z n bm p R sp wr) ∧ Hid (But (fun k => k = bm) W wr)) (fun x _ => R.labs.length - (intOf x).toNat)
    case atStart => exact ⟨i, hi, rfl, Lib.hid rfl, H7, HW, HBT0⟩
    case round =>
      clear H7 HW HBT0 HB
      obtain ⟨j, hj, rfl, HLP, H7, HW, HBT⟩ := hrel
      have a0 := cell_of_row wr z 0 _ _ _ HW.out.hc
      have a1 := cell_of_row wr z 1 _ _ _ HW.out.hc
      have a2 := cell_of_row wr z 2 _ _ _ HW.out.hc
      have a3 := cell_of_row wr z 3 _ _ _ HW.out.hc
      have a4 := cell_of_row wr z 4 _ _ _ HW.out.hc
      simp only [List.getElem?_toArray, List.getElem?_cons_zero, List.getElem?_cons_succ] at a0 a1 a2 a3 a4
      have k5 := cell_of_row wr (z + 1) 0 _ _ _ HW.out.hs
      simp only [List.getElem?_toArray, List.getElem?_cons_zero, List.getElem?_cons_succ] at k5
      have la := lt_of_block HW.out.hc
      have l5 := lt_of_block HW.out.hs
      by_cases hlt : j < R.labs.length
      · have hjn : (j : Int) < R.labs.length := by omega
        have hwj : IntKind.i64.wrap ((j : Int) + 1) = (j : Int) + 1 := IntWalk.i64_in _ (by omega)
        by_cases hsp : (j : Int) = sp
        · have he : ((j : Int) == sp) = true := by simp [hsp]
          have HN := Lib.hid (HLP.out.trans (HSK.out j hlt hsp))
          clear hsp
          go_wp2
          go_roundw
          case rel => exact ⟨j + 1, by omega, by simp, HN, H7, HW, HBT⟩
          case measure => simp [intOf]; omega
        · have he : ((j : Int) == sp) = false := by simp [hsp]
          have HSPN := Lib.hid hsp
          clear hsp
          go_wp2_with fail
          have HC : Hid (∀ w', But (fun k => k = bm) wr w' → w'.cell? ⟨W.heap.size, 0, none⟩ = some (.bool (o 0)) ∧ w'.cell? ⟨W.heap.size, 1, none⟩ = some (.bool (o 1)) ∧ w'.cell? ⟨W.heap.size, 2, none⟩ = some (.bool (o 2)) ∧ w'.cell? ⟨W.heap.size, 3, none⟩ = some (.bool (o 3)) ∧ w'.cell? ⟨W.heap.size, 4, none⟩ = some (.bool (o 4)) ∧ w'.cell? ⟨W.heap.size, 5, none⟩ = some (.bool (o 5)) ∧ w'.cell? ⟨z + 3, 0, none⟩ = some (.func (.func 69) #[] #[pz (z + 2), pz z, pz (z + 1), pz (z + 3)]) ∧ W.heap.size < w'.heap.size ∧ z + 3 < w'.heap.size) := Lib.hid fun w' hS => by
            have h7 := (hS.block _ (lt_of_block H7.out) HZB.out).trans H7.out
            have h2 := (hS.block _ (lt_of_block HW.out.hf) (by have := HW.out.hz; omega)).trans HW.out.hf
            exact ⟨cell_of_row w' _ 0 _ _ _ h7, cell_of_row w' _ 1 _ _ _ h7, cell_of_row w' _ 2 _ _ _ h7, cell_of_row w' _ 3 _ _ _ h7, cell_of_row w' _ 4 _ _ _ h7, cell_of_row w' _ 5 _ _ _ h7, cell_of_row w' _ 0 _ _ _ h2, lt_of_block h7, lt_of_block h2⟩
          clear a0 a1 a2 a3 a4 k5 la l5 he
          refine wp_region_noPanic ?_
          refine wp_region_walkS (fun w' => But (fun k => k = bm) wr w') (But.of_below (below_drawn _)) (by decide +kernel) (fun _ _ _ _ _ h => h)
            [(false, 0), (false, 1), (false, 2), (false, 4), (false, 5), (false, 6), (false, 7), (true, 3), (true, 8), (false, 9), (false, 10), (false, 11), (false, 12), (false, 13)] (by decide +kernel) ?_
          iterate 7
            (refine WalkS.takes rfl rfl ?_; apply Exists.intro; refine ⟨fun w' hS => ?_, ?_⟩; (obtain ⟨z0, z1, z2, z3, z4, z5, z6, z7, z8⟩ := HC.out w' hS; clear hS; go_simp; with_reducible rfl); simp only [List.getElem_toArray, List.getElem_cons_succ, List.getElem_cons_zero, Act.put, List.setIfInBounds_toArray, List.set_cons_zero, List.set_cons_succ])
          refine WalkS.calls rfl rfl ?_; apply Exists.intro; apply Exists.intro; refine ⟨(by go_simp; exact ⟨rfl, rfl⟩), ?_⟩
          have hS1 : But (fun k => k = bm) wr { wr with drawn := wr.drawn + 1 } := But.of_below (below_drawn _)
          refine (HWI.out o j (by omega) _).mono ?_
          rintro e w2 ⟨rfl, hb2⟩
          have hS2 := hS1.trans (But.of_below hb2)
          refine ⟨_, rfl, hS2, ?_⟩
          simp only [List.getElem_toArray, List.getElem_cons_succ, List.getElem_cons_zero, Act.put, List.setIfInBounds_toArray, List.set_cons_zero, List.set_cons_succ]
          refine WalkS.calls rfl rfl ?_; apply Exists.intro; apply Exists.intro; refine ⟨(by go_simp; exact ⟨rfl, rfl⟩), ?_⟩
          have hW2 := HW.out.below (grow_to (below_drawn wr) hb2)
          have hih := HIH.out (updO o j) (j + 1) w2 (by omega) hlt hW2
          rw [show ((j + 1 : Nat) : Int) = (j : Int) + 1 from by omega] at hih
          (with_reducible refine hih.mono ?_)
          clear hih
          rintro e w3 ⟨⟨va, k, vc, rfl, hl⟩, hbt3, hW3⟩
          rw [← HG.out j] at hl ⊢
          have hS3 := hS2.trans hbt3
          refine ⟨_, rfl, hS3, ?_⟩
          simp only [List.getElem_toArray, List.getElem_cons_succ, List.getElem_cons_zero, Act.put, List.setIfInBounds_toArray, List.set_cons_zero, List.set_cons_succ]
          iterate 5
            (refine WalkS.takes rfl rfl ?_; apply Exists.intro; refine ⟨fun w' hS => ?_, ?_⟩; (clear hS; go_simp; with_reducible rfl); simp only [List.getElem_toArray, List.getElem_cons_succ, List.getElem_cons_zero, Act.put, List.setIfInBounds_toArray, List.set_cons_zero, List.set_cons_succ])
          have HBT3 := Lib.hid (HBT.out.trans hS3)
          have H73 := Lib.hid ((hS3.block _ (lt_of_block H7.out) HZB.out).trans H7.out)
          have HW3 := Lib.hid hW3
          have HL : Hid (∀ l, G j = some l → k = l.length ∧ w3.ownsRow W.heap.size 3 1 (.slice va k vc) k (l.map iV)) := Lib.hid fun l h => ⟨(hl l h).1, ownsRow_mono (by have := HBT.out.size; have := hb2.size; have h9 : wr.heap.size ≤ w2.heap.size := hb2.size; omega) (hl l h).2⟩
          clear hS1 hS2 hS3 hb2 hl hW2 hbt3 hW3 HC H7 HW HBT
          refine WalkS.fin (NoPanic.normal ?_)
          obtain ⟨g, hg⟩ : ∃ g, G j = g := ⟨_, rfl⟩
          have HGJ := Lib.hid hg
          rw [hg] at HL ⊢
          clear hg
          cases g with
          | none =>
            have HN := Lib.hid (HLP.out.trans (HNO.out j hlt HSPN.out HGJ.out))
            simp only [Option.isSome_none]
            go_wp2
            go_roundw
            case rel => exact ⟨j + 1, by omega, by simp, HN, H73, HW3, HBT3⟩
            case measure => simp [intOf]; omega
          | some l =>
            have HN := Lib.hid ((HFP.out.trans HLP.out).trans (HSO.out j l hlt HSPN.out HGJ.out))
            simp only [Option.isSome_some]
            go_wp2
            go_ret2
            refine ⟨⟨va, k, vc, (by rw [HN.out]; rfl), fun l2 hl2 => ?_⟩, HBT3.out, HW3.out⟩
            rw [HN.out] at hl2
            exact HL.out l2 hl2
      · obtain rfl : j = R.labs.length := by omega
        have HN := Lib.hid ((HFP.out.trans HLP.out).trans HEN.out)
        go_wp2
        go_ret2
        exact ⟨⟨none, 0, 0, (by rw [HN.out]; rfl), fun l hl => by rw [HN.out] at hl; cases hl⟩, HBT.out, HW.out⟩
end Go.Proofs.Ytpdkgnfblnblbaa
