/- A drawn region whose last operation is a call that may write; a copy of a list. No condition. -/
import Derived.Test.YtplmlmmjfkbabaaSC
import Derived.Test.YtplmlmmjfkbabaaSH
namespace Go.Proofs.Ytplmlmmjfkbabaa
open Go.RowKit Go.Shelf
attribute [local irreducible] arrV wpQuiet mat shl

section
variable {P : Program} {ops : Array Oper} {Q : Exit → Act → World → Prop}
/-- The last operation: a call that may write what S leaves free. -/
def LastC (P : Program) (ops : Array Oper) (S : World → Prop) (Q : Exit → Act → World → Prop) (i : Nat) (a : Act) (w : World) : Prop :=
  ∃ o f args, ops[i]? = some o ∧ Region.wanted o (yielded ops a.tmps) = true ∧ (execOp a.eval o).run P w = .ok (.enter f args) w ∧
    Calls P f args w fun e w2 => ∃ v, e = .returned v ∧ S w2 ∧ Q .normal (a.put o.dst v) w2
theorem walk_last {S : World → Prop} (hSg : ∀ w w', S w → Below w.heap.size w w' → S w') (hs : Region.noSelect ops = true) (hQ : ∀ c a d v w, Q (.panic c) (a.put d v) w → Q (.panic c) a w) (z : Nat) :
    ∀ (σ : List (Bool × Nat)) (L : Array Bool) (a : Act) (w : World), chainB ops [z] σ L = true → S w →
      Walk P ops S (fun a' w' => S w' → LastC P ops S Q z a' w') σ a w →
      wpAnyH P .any ops Q S (σ.length + 1) L a w
  | [], L, a, w, hB, hS, hW => by
    simp only [chainB, tailB, Bool.and_eq_true] at hB
    obtain ⟨o, f, args, ho, hw, hrun, hc⟩ := hW w (Below.refl _ _) hS
    rw [show ([] : List (Bool × Nat)).length + 1 = 0 + 1 from rfl]
    refine wpAnyH_all (eq_of_beq hB.1) (by simp) fun j hj => ?_
    obtain rfl : j = z := by simpa using hj
    unfold wpOp
    simp only [ho]
    rw [if_pos hw]
    refine .inl ?_
    unfold Oper.wp
    rw [hrun]
    refine hc.mono ?_
    rintro e w2 ⟨v, rfl, hS2, hq⟩
    exact ⟨hS2, wpAnyH_done (by have h9 := hB.2; unfold setL at h9; simpa using h9) hq _⟩
  | (false, i) :: σ, L, a, w, hB, hS, hW => by
    simp only [chainB, Bool.and_eq_true] at hB
    obtain ⟨⟨hf, hr⟩, hB'⟩ := hB
    obtain ⟨o, v, ho, hy, hw⟩ := hW
    have ih := walk_last hSg hs hQ z σ (setL L i) (a.put o.dst v) w hB' hS hw
    have := wpAnyH_take (md := .any) (Q := Q) (S := S) (fuel := σ.length + 1) (listed := L) (w := w) ho hs hf hr (fun c a w h => hQ c a _ _ w h) hy hS ih
    rw [show ((false, i) :: σ).length + 1 = σ.length + 1 + 1 by simp]
    exact this
  | (true, i) :: σ, L, a, w, hB, hS, hW => by
    simp only [chainB, Bool.and_eq_true] at hB
    obtain ⟨hr, hB'⟩ := hB
    obtain ⟨o, f, args, ho, hw, hrun, hc⟩ := hW
    rw [show ((true, i) :: σ).length + 1 = σ.length + 1 + 1 by simp]
    refine wpAnyH_all (eq_of_beq hr) (by simp) fun j hj => ?_
    obtain rfl : j = i := by simpa using hj
    unfold wpOp
    simp only [ho]
    rw [if_pos hw]
    refine .inl ?_
    unfold Oper.wp
    rw [hrun w hS]
    refine (hc w (Below.refl _ _)).mono ?_
    rintro e w2 ⟨v, rfl, hb2, hw2⟩
    exact ⟨hSg _ _ hS hb2, walk_last hSg hs hQ z σ (setL L j) (a.put o.dst v) w2 hB' (hSg _ _ hS hb2) hw2⟩
theorem wp_region_last (S : World → Prop) {id : Nat} {a : Act} {w : World} (hSg : ∀ w w', S w → Below w.heap.size w w' → S w') (hS0 : S { w with drawn := w.drawn + 1 }) (hm : P.follows .mixedOrders = true) (hQ : ∀ c a d v w, Q (.panic c) (a.put d v) w → Q (.panic c) a w)
    (σ : List (Bool × Nat)) (z : Nat)
    (hB : (Region.noSelect ops && chainB ops [z] σ (Array.replicate ops.size false) && (ops.size == σ.length + 1)) = true)
    (h : Walk P ops S (fun a' w' => S w' → LastC P ops S Q z a' w') σ a { w with drawn := w.drawn + 1 }) :
    (Code.region id ops true).wp P Q a w := by
  simp only [Bool.and_eq_true] at hB
  obtain ⟨⟨hs, hf⟩, hz⟩ := hB
  have hz' : ops.size = σ.length + 1 := by simpa using hz
  refine wp_region_held (S := S) hm ?_
  have := walk_last (Q := Q) (P := P) (ops := ops) hSg hs hQ z σ (Array.replicate ops.size false) a { w with drawn := w.drawn + 1 } hf hS0 h
  rw [← hz'] at this
  exact this
end
theorem own_cells {w : World} {base : Nat} {v : Value} {xs : List Int} (h : w.ownsRow base 3 1 v xs.length (xs.map iV)) :
    ∃ a cap, v = .slice a xs.length cap ∧ (a = none → xs.length = 0) ∧ (0 < xs.length → ∃ b off, a = some ⟨b, off, none⟩ ∧ ∀ j u, (xs.map iV)[j]? = some u → w.cell? ⟨b, off + j, none⟩ = some u) := by
  obtain ⟨a, cap, rfl⟩ := own_shape h
  exact ⟨a, cap, rfl, ints_cells (own_ints (l := xs) (by simpa using h))⟩
theorem nil_yes (w : World) : (binOp .eql 50 (.slice none 0 0) (.slice none 0 0)).run Try.prog w = .ok (.bool true) w := by kernel_rfl
theorem nil_no (ad : Addr) (n c : Nat) (w : World) : (binOp .eql 50 (.slice (some ad) n c) (.slice none 0 0)).run Try.prog w = .ok (.bool false) w := by kernel_rfl
set_option maxRecDepth 100000 in
set_option maxHeartbeats 1000000 in
theorem clone_any (B : Nat) (v : Value) (xs : List Int) (w : World) (hl : xs.length ≤ 100) (h : w.ownsRow B 3 1 v xs.length (xs.map iV)) :
    Calls Try.prog 86 #[v] w fun e w' => (∃ r, e = .returned r ∧ w'.ownsRow w.heap.size 3 1 r xs.length (xs.map iV)) ∧ Below w.heap.size w w' := by
  obtain ⟨a, cap, rfl, h0, hc⟩ := own_cells h
  cases a with
  | none =>
    have hz := h0 rfl
    obtain rfl := List.eq_nil_of_length_eq_zero hz
    rcases h.2 with ⟨hv, -⟩ | ⟨g, c, cur, hv, -⟩
    · cases hv
      clear h h0 hc hz
      have q1 := nil_yes
      go_enter Try.func86, Try.ntmps86
      go_wp2
      go_ret
      exact ⟨⟨_, rfl, World.ownsRow_nil _ _ _ _⟩, Below.refl _ _⟩
    · cases hv
  | some ad =>
    have hb1 := box_below w (.cells #[] 3)
    have ho1 := act_empty 3 1 w.heap.size w (Nat.le_refl _)
    have hca : 0 < xs.length → ∃ b off, (some ad : Option Addr) = some ⟨b, off, none⟩ ∧ ∀ j u, (xs.map iV)[j]? = some u → (w.alloc (.cells #[] 3)).cell? ⟨b, off + j, none⟩ = some u := fun hp => by
      obtain ⟨b, off, e, hcc⟩ := hc hp
      exact ⟨b, off, e, fun j u hj => by
        have hx := hcc j u hj
        exact (hb1.cell (p := ⟨b, off + j, none⟩) (block_lt_of_cell hx)).trans hx⟩
    obtain ⟨ov, W3, hr3, ho3, hb3, -, -, -⟩ := act_app2 el50 w.heap.size 0 (.slice (some ⟨w.heap.size, 0, none⟩) 0 0) [] (some ad) xs.length cap (xs.map iV) (w.alloc (.cells #[] 3)) (fun k => k < (w.alloc (.cells #[] 3)).heap.size) 50 (by simp [maxLen]; omega) (by omega) ho1 (by simp) (by simp) (fun h => by cases h) hca (by simp [iV, Value.oneCell']) (fun k hk => by simp [Value.ownBlock] at hk; subst hk; simp) (fun k h => h)
    rw [Nat.zero_add, List.nil_append] at ho3
    have HR := Lib.hid hr3
    have HO := Lib.hid ho3
    have HB := Lib.hid (hb1.trans hb3)
    clear h h0 hc hca hr3 ho3 hb3 ho1 hb1
    have q1 := nil_no ad xs.length cap
    go_enter Try.func86, Try.ntmps86
    go_wp2_with (first
      | (refine wpList_append_by (v := ov) (W' := W3) (y := .slice (some ⟨w.heap.size, 0, none⟩) 0 0) (z := .slice (some ad) xs.length cap) rfl (.tmp 5) (.tmp 6) 50 50 50 rfl rfl rfl rfl HR.out ?_)
      | fail)
    go_ret
    exact ⟨⟨_, rfl, HO.out⟩, HB.out⟩
end Go.Proofs.Ytplmlmmjfkbabaa
