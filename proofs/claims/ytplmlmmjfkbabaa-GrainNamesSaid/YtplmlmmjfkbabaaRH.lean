/- The ranges of all pictures of a valid album, by the reference. No condition. -/
import Derived.Test.YtplmlmmjfkbabaaRF
namespace Go.Proofs.Ytplmlmmjfkbabaa
open Go.RowKit Go.Shelf
attribute [local irreducible] arrV wpQuiet mat shl

theorem RefV.of_rgs {n : Nat} {w : World} {v : Value} {l : List Rg} (h : RgsV n w v l) : RefV n w v l := by
  obtain ⟨a, cap, rfl, hp⟩ := h
  refine ⟨a, cap, rfl, fun h0 => ?_⟩
  obtain ⟨b, off, rfl, hb, hc⟩ := hp h0
  refine ⟨b, off, rfl, hb, fun j u hj => ?_⟩
  have hj2 : j < l.length * 2 := by
    have := (List.getElem?_eq_some_iff.1 hj).1
    rw [flatR_length] at this
    exact this
  obtain ⟨k1, k2⟩ := flatR_get l (j / 2) (by omega)
  obtain ⟨c1, c2⟩ := hc (j / 2) (by omega)
  rcases Nat.mod_two_eq_zero_or_one j with hm | hm
  · have e : j / 2 * 2 = j := by omega
    rw [e] at k1 c1
    rw [k1] at hj
    cases hj
    exact c1
  · have e : j / 2 * 2 + 1 = j := by omega
    rw [e] at k2
    rw [show off + j / 2 * 2 + 1 = off + j by omega] at c2
    rw [k2] at hj
    cases hj
    exact c2
/-- The reference's answer: the ranges, or that the album is not possible. -/
def GotR (cs : List Cm) (n B : Nat) (e : Ending) (w' : World) : Prop :=
  (∃ d r, distO cs = some d ∧ e = .returned (.tuple #[r, .bool true]) ∧ w'.ownsRow B 43 2 r n (flatR (gradesL d n))) ∨ (distO cs = none ∧ e = .returned (.tuple #[.slice none 0 0, .bool false]))
theorem Rest.got {cs : List Cm} {n B : Nat} {e : Ending} {w' : World} (hA : AlbW n cs) (h : Rest cs n (freeL n) B e w') : GotR cs n B e w' := by
  rcases h with ⟨r, xs, rfl, hN, hs, hne, ho⟩ | ⟨rfl, xs, p, hN, hp, he⟩
  · cases hd : distO cs with
    | none => exact (nar_never hA hd hN hs hne).elim
    | some d =>
      rw [nar_grades hA hd hN hs hne] at ho
      exact .inl ⟨d, r, hd, rfl, ho⟩
  · cases hd : distO cs with
    | none => exact .inr ⟨hd, rfl⟩
    | some d => exact (nar_empty hA hd hN hp he).elim
theorem GotR.down {cs : List Cm} {n B B' : Nat} {e : Ending} {w' : World} (h : GotR cs n B e w') (hB : B' ≤ B) : GotR cs n B' e w' := by
  rcases h with ⟨d, r, h1, h2, ho⟩ | h
  · exact .inl ⟨d, r, h1, h2, ownsRow_mono hB ho⟩
  · exact .inr h
theorem refGrades_anyW (n : Nat) (v : Value) (cs : List Cm) (w : World) (hA : AlbW n cs) (hV : CmsV w.heap.size w v cs) :
    Calls Try.prog 23 #[.agg #[.int .i64 n, v]] w fun e w' => GotR cs n w.heap.size e w' ∧ Below w.heap.size w w' := by
  have h8 := hA.n8
  have hb0 := box_below w (.cells #[.int .i64 n, v] 24)
  have HVB := Lib.hid ((hV.same (.below (Nat.le_refl _) hb0)).up (show w.heap.size ≤ (w.alloc (.cells #[.int .i64 n, v] 24)).heap.size by simp))
  have HX := Lib.hid (heap_alloc_new w (.cells #[.int .i64 n, v] 24))
  have HB := Lib.hid hb0
  have HOK := Lib.hid hA
  clear hV hA hb0
  go_enter Try.func23, Try.ntmps23
  go_wp2_with fail
  generalize hW : w.alloc _ = W at *
  have HC : Hid (∀ w', Below W.heap.size W w' → w'.cell? ⟨w.heap.size, 0, none⟩ = some (.int .i64 n) ∧ w'.cell? ⟨w.heap.size, 1, none⟩ = some v ∧ w.heap.size < w'.heap.size) := Lib.hid fun w' hS => by
    have h := (hS.block _ (lt_of_block HX.out)).trans HX.out
    exact ⟨cell_of_row w' w.heap.size 0 _ _ _ h, cell_of_row w' w.heap.size 1 _ _ _ h, lt_of_block h⟩
  have hin : w.heap.size ≤ W.heap.size := HB.out.size
  refine wp_region_noPanic ?_
  refine wp_region_acts (fun w' => Below W.heap.size W w') (fun _ _ h hb => below_to h hb) (below_drawn _) (by decide +kernel) (fun _ _ _ _ _ h => h)
    [.take 0, .take 1, .call 2, .call 3, .take 4, .take 5] [6, 7] (by decide +kernel) ?_
  iterate 2
    (refine GWalk.takes rfl rfl ?_; apply Exists.intro; refine ⟨fun w' hS => ?_, ?_⟩; (obtain ⟨z1, z2, z3⟩ := HC.out w' hS; clear hS; go_simp; with_reducible rfl); simp only [List.getElem_toArray, List.getElem_cons_succ, List.getElem_cons_zero, Act.put, List.setIfInBounds_toArray, List.set_cons_zero, List.set_cons_succ])
  refine GWalk.calls rfl rfl ?_; apply Exists.intro; apply Exists.intro; refine ⟨fun w' hS => ?_, fun v1 hb hS hO => ?_⟩; (clear hS; go_simp; exact ⟨rfl, rfl⟩)
  refine (free_any n v v1 (by omega)).mono ?_
  rintro e v2 ⟨⟨r, rfl, ho⟩, hb2⟩
  refine ⟨_, rfl, hb2, below_to hS hb2, ?_⟩
  simp only [List.getElem_toArray, List.getElem_cons_succ, List.getElem_cons_zero, Act.put, List.setIfInBounds_toArray, List.set_cons_zero, List.set_cons_succ]
  have HS2 := Lib.hid (below_to hS hb2)
  have HO2 := Lib.hid ho
  clear hb hb2 hS hO ho
  refine GWalk.calls rfl rfl ?_; apply Exists.intro; apply Exists.intro; refine ⟨fun w' hS => ?_, fun v3 hb3 hS hO => ?_⟩; (clear hS; go_simp; exact ⟨rfl, rfl⟩)
  have hr : RefV v3.heap.size v3 r (freeL n) := RefV.of_rgs (((own_rgs (l := freeL n) (by simpa [freeL] using HO2.out)).same (.below (Nat.le_refl _) hb3)).up hb3.size)
  have hv : CmsV v3.heap.size v3 v cs := ((HVB.out.same (.below (Nat.le_refl _) hS)).up hS.size)
  refine (narrow_any n v r cs (freeL n) v3 HOK.out (by simp [freeL]) (fun p hp => by rw [free_rg hp]; exact ⟨by decide, by decide⟩) hv hr).mono ?_
  rintro e v4 ⟨hR, hb4⟩
  have HF := Lib.hid (below_to HB.out (below_to hS hb4))
  rcases (hR.got HOK.out).down (Nat.le_trans hin hS.size) with ⟨d, r', hd, rfl, ho⟩ | ⟨hd, rfl⟩
  · refine ⟨_, rfl, hb4, below_to hS hb4, ?_⟩
    simp only [List.getElem_toArray, List.getElem_cons_succ, List.getElem_cons_zero, Act.put, List.setIfInBounds_toArray, List.set_cons_zero, List.set_cons_succ]
    have HO := Lib.hid ho
    clear ho
    clear hR hr hv hb3 hS hO
    iterate 2
      (refine GWalk.takes rfl rfl ?_; apply Exists.intro; refine ⟨fun w' hS => ?_, ?_⟩; (clear hS; go_simp; with_reducible rfl); simp only [List.getElem_toArray, List.getElem_cons_succ, List.getElem_cons_zero, Act.put, List.setIfInBounds_toArray, List.set_cons_zero, List.set_cons_succ])
    refine GWalk.fin fun v5 hb5 hS5 => ?_
    have HF5 := Lib.hid (below_to HF.out hb5)
    have HO5 := Lib.hid (own_same HO.out (fun g _ hg => hb5.block g hg))
    clear hb5 hS5 hb4
    refine Tail.value rfl rfl (by go_simp; with_reducible rfl) ?_
    simp only [List.getElem_toArray, List.getElem_cons_succ, List.getElem_cons_zero, Act.put, List.setIfInBounds_toArray, List.set_cons_zero, List.set_cons_succ]
    refine Tail.value rfl rfl (by go_simp; with_reducible rfl) ?_
    simp only [List.getElem_toArray, List.getElem_cons_succ, List.getElem_cons_zero, Act.put, List.setIfInBounds_toArray, List.set_cons_zero, List.set_cons_succ]
    refine Tail.done (NoPanic.normal ?_)
    go_wp2
    go_ret2
    exact ⟨.inl ⟨d, r', hd, rfl, HO5.out⟩, HF5.out⟩
  · refine ⟨_, rfl, hb4, below_to hS hb4, ?_⟩
    simp only [List.getElem_toArray, List.getElem_cons_succ, List.getElem_cons_zero, Act.put, List.setIfInBounds_toArray, List.set_cons_zero, List.set_cons_succ]
    clear hR hr hv hb3 hS hO
    iterate 2
      (refine GWalk.takes rfl rfl ?_; apply Exists.intro; refine ⟨fun w' hS => ?_, ?_⟩; (clear hS; go_simp; with_reducible rfl); simp only [List.getElem_toArray, List.getElem_cons_succ, List.getElem_cons_zero, Act.put, List.setIfInBounds_toArray, List.set_cons_zero, List.set_cons_succ])
    refine GWalk.fin fun v5 hb5 hS5 => ?_
    have HF5 := Lib.hid (below_to HF.out hb5)
    clear hb5 hS5 hb4
    refine Tail.value rfl rfl (by go_simp; with_reducible rfl) ?_
    simp only [List.getElem_toArray, List.getElem_cons_succ, List.getElem_cons_zero, Act.put, List.setIfInBounds_toArray, List.set_cons_zero, List.set_cons_succ]
    refine Tail.value rfl rfl (by go_simp; with_reducible rfl) ?_
    simp only [List.getElem_toArray, List.getElem_cons_succ, List.getElem_cons_zero, Act.put, List.setIfInBounds_toArray, List.set_cons_zero, List.set_cons_succ]
    refine Tail.done (NoPanic.normal ?_)
    go_wp2
    go_ret2
    exact ⟨.inr ⟨hd, rfl⟩, HF5.out⟩
theorem refGrades_any (n : Nat) (v : Value) (cs : List Cm) (w : World) (hA : AlbOk n cs) (hV : CmsV w.heap.size w v cs) :
    Calls Try.prog 23 #[.agg #[.int .i64 n, v]] w fun e w' => GotR cs n w.heap.size e w' ∧ Below w.heap.size w w' := refGrades_anyW n v cs w hA.w hV
end Go.Proofs.Ytplmlmmjfkbabaa
