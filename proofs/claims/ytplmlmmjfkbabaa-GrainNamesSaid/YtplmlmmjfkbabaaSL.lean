/- The doubtful comparisons, by the program. No condition. -/
import Derived.Test.YtplmlmmjfkbabaaSK
namespace Go.Proofs.Ytplmlmmjfkbabaa
open Go.RowKit Go.Shelf
attribute [local irreducible] arrV wpQuiet mat shl

theorem box5 (w : World) (A B C D E : Obj) : (((((w.alloc A).alloc B).alloc C).alloc D).alloc E).heap[w.heap.size]? = some A ∧ (((((w.alloc A).alloc B).alloc C).alloc D).alloc E).heap[w.heap.size + 1]? = some B ∧ (((((w.alloc A).alloc B).alloc C).alloc D).alloc E).heap[w.heap.size + 2]? = some C ∧ (((((w.alloc A).alloc B).alloc C).alloc D).alloc E).heap[w.heap.size + 3]? = some D ∧ (((((w.alloc A).alloc B).alloc C).alloc D).alloc E).heap[w.heap.size + 4]? = some E := by
  obtain ⟨h1, h2, h3⟩ := box3 w A B C
  have h4 := heap_alloc_new (((w.alloc A).alloc B).alloc C) D
  have h5 := heap_alloc_new ((((w.alloc A).alloc B).alloc C).alloc D) E
  simp only [World.size_alloc] at h4 h5
  refine ⟨?_, ?_, ?_, ?_, h5⟩
  · rw [heap_alloc_low _ _ _ (by simp <;> omega), heap_alloc_low _ _ _ (by simp <;> omega)]; exact h1
  · rw [heap_alloc_low _ _ _ (by simp <;> omega), heap_alloc_low _ _ _ (by simp <;> omega)]; exact h2
  · rw [heap_alloc_low _ _ _ (by simp <;> omega), heap_alloc_low _ _ _ (by simp <;> omega)]; exact h3
  · rw [heap_alloc_low _ _ _ (by simp <;> omega)]; exact h4
set_option maxRecDepth 100000 in
set_option maxHeartbeats 4000000 in
theorem doubtful_any (n : Int) (v : Value) (cs : List Cm) (w : World) (hA : AlbOk n cs) (hV : CmsV w.heap.size w v cs) :
    Calls Try.prog 64 #[.agg #[.int .i64 n, v]] w fun e w' => (∃ r, e = .returned r ∧ w'.ownsRow w.heap.size 3 1 r (doubtL cs).length ((doubtL cs).map iV)) ∧ Below w.heap.size w w' := by
  have hl := hA.len
  obtain ⟨a, cap, rfl⟩ : ∃ a cap, v = .slice a cs.length cap := by obtain ⟨a, c, e, -⟩ := hV; exact ⟨a, c, e⟩
  obtain ⟨h1, h2, h3, h4, h5⟩ := box5 w (.cells #[.int .i64 n, .slice a cs.length cap] 31) (.cells #[.slice none 0 0] 50) (.cells #[.slice none 0 0] 50) (.cells #[.int .i64 cs.length] 3) (.cells #[closV w.heap.size] 132)
  have hb : Below w.heap.size w (((((w.alloc (.cells #[.int .i64 n, .slice a cs.length cap] 31)).alloc (.cells #[.slice none 0 0] 50)).alloc (.cells #[.slice none 0 0] 50)).alloc (.cells #[.int .i64 cs.length] 3)).alloc (.cells #[closV w.heap.size] 132)) :=
    grow_to (grow_to (below3 w _ _ _) (box_below _ _)) (box_below _ _)
  have HOK := Lib.hid hA
  have HCV := Lib.hid (hV.same (.below (Nat.le_refl _) hb))
  have HB := Lib.hid hb
  have HH := Lib.hid (And.intro h1 (And.intro h2 (And.intro h3 (And.intro h4 h5))))
  clear hV hA hb h1 h2 h3 h4 h5
  have HW0 : Hid (∀ W0, W0 = (((((w.alloc (.cells #[.int .i64 n, .slice a cs.length cap] 31)).alloc (.cells #[.slice none 0 0] 50)).alloc (.cells #[.slice none 0 0] 50)).alloc (.cells #[.int .i64 cs.length] 3)).alloc (.cells #[closV w.heap.size] 132)) →
      LookW w.heap.size n (.slice a cs.length cap) cs W0 [] [] cs.length (.slice none 0 0) (.slice none 0 0) ∧ Below w.heap.size w W0) := Lib.hid fun W0 h0 => by
    subst h0
    exact ⟨⟨HH.out.1, HH.out.2.1, HH.out.2.2.1, HH.out.2.2.2.1, HH.out.2.2.2.2, World.ownsRow_nil _ _ _ _, World.ownsRow_nil _ _ _ _, fun k hk => by simp [Value.ownBlock] at hk, HCV.out⟩, HB.out⟩
  clear HB HCV HH
  go_enter Try.func64, Try.ntmps64
  go_wp2_with fail
  generalize hW : World.alloc _ _ = W0
  obtain ⟨hLW, hB0⟩ := HW0.out W0 hW.symm
  have HLW := Lib.hid hLW
  have HB0 := Lib.hid hB0
  clear hW hLW hB0 HW0
  have HCC : Hid (∀ w', But (TS w.heap.size (.slice none 0 0)) W0 w' → w'.cell? ⟨w.heap.size + 4, 0, none⟩ = some (closV w.heap.size) ∧ w.heap.size + 4 < w'.heap.size) := Lib.hid fun w' hS => by
    have y := (hS.block _ (lt_of_block HLW.out.hl) (by
      rintro (h | h | h | h)
      · omega
      · omega
      · omega
      · simp [Value.ownBlock] at h)).trans HLW.out.hl
    exact ⟨cell_of_row w' _ 0 _ _ _ y, lt_of_block y⟩
  refine wp_region_noPanic ?_
  refine wp_region_last (fun w' => But (TS w.heap.size (.slice none 0 0)) W0 w') (fun _ _ h hb => h.trans (But.of_below hb)) (But.of_below (below_drawn _)) (by decide +kernel) (fun _ _ _ _ _ h => h)
    [(false, 0), (true, 1)] 2 (by decide +kernel) ?_
  refine Walk.takes rfl rfl ?_; apply Exists.intro; refine ⟨fun w' hS => ?_, ?_⟩; (obtain ⟨z1, z2⟩ := HCC.out w' hS; clear hS; go_simp; with_reducible rfl); simp only [List.getElem_toArray, List.getElem_cons_succ, List.getElem_cons_zero, Act.put, List.setIfInBounds_toArray, List.set_cons_zero, List.set_cons_succ]
  refine Walk.calls rfl rfl ?_; apply Exists.intro; apply Exists.intro; refine ⟨fun w' hS => ?_, fun v1 hb => ?_⟩; (clear hS; go_simp; exact ⟨rfl, rfl⟩)
  refine (widest_any v1).mono ?_
  rintro e v2 ⟨rfl, hb2⟩
  refine ⟨_, rfl, hb2, ?_⟩
  simp only [List.getElem_toArray, List.getElem_cons_succ, List.getElem_cons_zero, Act.put, List.setIfInBounds_toArray, List.set_cons_zero, List.set_cons_succ]
  have hA2 := grow_to (grow_to (below_drawn W0) hb) hb2
  clear hb hb2
  refine Walk.fin fun v3 hb3 hS3 => ?_
  have hA3 := grow_to hA2 hb3
  have hLW3 := HLW.out.below hA3
  clear hb3 hA2
  apply Exists.intro; apply Exists.intro; apply Exists.intro; refine ⟨rfl, rfl, (by go_simp; first | exact ⟨rfl, rfl⟩ | rfl), ?_⟩
  refine (look_any w.heap.size n _ cs HOK.out cs 0 wideD [] [] cs.length v3 (.slice none 0 0) (.slice none 0 0) rfl (Nat.zero_le _) (fun _ => ⟨[], canon_nil⟩) (Nat.le_refl _) hLW3).mono ?_
  rintro e w3 ⟨rfl, sl3, fv3, hL3, hB3, -⟩
  refine ⟨_, rfl, hS3.trans hB3, ?_⟩
  simp only [List.getElem_toArray, List.getElem_cons_succ, List.getElem_cons_zero, Act.put, List.setIfInBounds_toArray, List.set_cons_zero, List.set_cons_succ]
  refine NoPanic.normal ?_
  have HL3 := Lib.hid hL3
  have HBF : Hid (Below w.heap.size w w3) := Lib.hid (by
    have hbb := below_to HB0.out hA3
    refine ⟨hB3.os.trans hbb.os, hB3.tape.trans hbb.tape, hB3.output.trans hbb.output, Nat.le_trans hbb.size hB3.size, fun k hk => (hB3.block k (by have := hbb.size; omega) ?_).trans (hbb.block k hk)⟩
    rintro (h | h | h | h)
    · omega
    · omega
    · omega
    · simp [Value.ownBlock] at h)
  have c1 := cell_of_row w3 (w.heap.size + 2) 0 _ _ _ HL3.out.hf
  simp only [List.getElem?_toArray, List.getElem?_cons_zero, List.getElem?_cons_succ] at c1
  have l1 := lt_of_block HL3.out.hf
  clear hL3 hB3 hS3 hA3 hLW3 HCC HLW HB0
  go_wp2
  go_ret
  exact ⟨⟨fv3, rfl, ownsRow_mono (by omega) HL3.out.few⟩, HBF.out⟩
set_option maxHeartbeats 1000000 in
theorem Doubtful_any (m : Nat) (n : Int) (v : Value) (cs : List Cm) (w : World) (hl : cs.length ≤ maxLen) (hV : CmsV m w v cs) (hm : m ≤ w.heap.size) :
    Calls Try.prog 39 #[.agg #[.int .i64 n, v]] w fun e w' => (∃ r, e = .returned (.tuple #[r, .int .i64 (faultA n cs)]) ∧ (faultA n cs ≠ 0 → r = .slice none 0 0) ∧ (faultA n cs = 0 → w'.ownsRow w.heap.size 3 1 r (doubtL cs).length ((doubtL cs).map iV))) ∧ Below w.heap.size w w' := by
  have HCK := Lib.hid fun w' (h : Below w.heap.size w w') => check_any m n v cs w' hl (hV.same (.below hm h)) (Nat.le_trans hm h.size)
  have HDO := Lib.hid fun (hf : faultA n cs = 0) w' (h : Below w.heap.size w w') => doubtful_any n v cs w' (fault_ok hf) ((hV.same (.below hm h)).up (Nat.le_trans hm h.size))
  obtain ⟨a, cap, rfl, -⟩ := hV
  have HX := Lib.hid (heap_alloc_new w (.cells #[.int .i64 n, .slice a cs.length cap] 31))
  have HB := Lib.hid (box_below w (.cells #[.int .i64 n, .slice a cs.length cap] 31))
  generalize faultA n cs = F at *
  generalize doubtL cs = DL at *
  go_enter Try.func39, Try.ntmps39
  go_wp2_with fail
  refine (HCK.out _ HB.out).mono ?_
  rintro e w1 ⟨rfl, hb1⟩
  replace HX := Lib.hid ((hb1.block _ (lt_of_block HX.out)).trans HX.out)
  replace HB := Lib.hid (below_to HB.out hb1)
  clear hb1
  by_cases hF : F = 0
  · have h1 : (F != 0) = false := by simp [hF]
    have HF := Lib.hid hF
    clear hF
    have c0 := cell_of_row w1 w.heap.size 0 _ _ _ HX.out
    have c1 := cell_of_row w1 w.heap.size 1 _ _ _ HX.out
    simp only [List.getElem?_toArray, List.getElem?_cons_zero, List.getElem?_cons_succ] at c0 c1
    have l1 := lt_of_block HX.out
    go_wp2_with fail
    refine (HDO.out HF.out _ HB.out).mono ?_
    rintro e w2 ⟨⟨r, rfl, ho⟩, hb⟩
    have HO := Lib.hid (ownsRow_mono HB.out.size ho)
    have HB2 := Lib.hid (below_to HB.out hb)
    clear hb ho c0 c1 l1
    go_wp2
    go_ret2
    exact ⟨⟨r, by rw [HF.out]; rfl, fun h => absurd HF.out h, fun _ => HO.out⟩, HB2.out⟩
  · have h1 : (F != 0) = true := by simp [hF]
    have HF := Lib.hid hF
    clear hF
    go_wp2
    go_ret2
    exact ⟨⟨.slice none 0 0, rfl, fun _ => rfl, fun h => absurd h HF.out⟩, HB.out⟩
end Go.Proofs.Ytplmlmmjfkbabaa
