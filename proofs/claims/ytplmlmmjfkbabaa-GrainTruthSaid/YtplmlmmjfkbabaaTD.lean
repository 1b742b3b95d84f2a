/- An album whose comparisons say what is so: it is valid, and the grades fit it. Condition: a valid album before. -/
import Derived.Test.YtplmlmmjfkbabaaTB
namespace Go.Proofs.Ytplmlmmjfkbabaa
open Go.RowKit Go.Shelf

def gN (x : List Int) (a : Nat) : Int := if a = 0 then 0 else ld x (a - 1)
theorem gN_of (x : List Int) {p : Int} (hp : -1 ≤ p) : gN x (pl p) = gOf x p := by
  unfold gN gOf pl
  by_cases h : 0 ≤ p
  · rw [if_neg (by omega), if_pos h, show (p + 1).toNat - 1 = p.toNat by omega]
  · rw [if_pos (by omega), if_neg h]
theorem mem_cm {cs : List Cm} {c : Cm} (h : c ∈ cs) : ∃ i, i < cs.length ∧ cm cs i = c := by
  obtain ⟨i, hi, he⟩ := List.mem_iff_getElem.1 h
  exact ⟨i, hi, by simp [cm, hi, he]⟩
theorem made_ok {N : Nat} {cs out : List Cm} {x : List Int} (hA : AlbOk N cs) (hl : out.length = cs.length) (hm : MadeC cs out x) : AlbOk N out := by
  refine ⟨hA.n0, hA.n8, by rw [hl]; exact hA.len, fun c hc => ?_⟩
  obtain ⟨i, hi, rfl⟩ := mem_cm hc
  obtain ⟨h1, h2, h3, h4, h5, h6⟩ := hm i hi
  have h := hA.cm _ (cm_mem (show i < cs.length by omega))
  exact ⟨by rw [h1]; exact h.l0, by rw [h1]; exact h.ln, by rw [h2]; exact h.r0, by rw [h2]; exact h.rn, by rw [h1, h2]; exact h.ne, h3, by omega, h6⟩
theorem made_fits {N : Nat} {cs out : List Cm} {x : List Int} (hA : AlbOk N cs) (hl : out.length = cs.length) (hm : MadeC cs out x) (hg : GrOk x) : Fits out (gN x) := by
  refine ⟨rfl, fun a ha => ?_, fun c hc => ?_⟩
  · unfold gN
    by_cases h0 : a = 0
    · rw [if_pos h0]; omega
    · rw [if_neg h0]
      by_cases h1 : a - 1 < x.length
      · exact hg _ h1
      · have : ld x (a - 1) = 0 := by simp [ld, List.getElem?_eq_none (show x.length ≤ a - 1 by omega)]
        rw [this]
        omega
  · obtain ⟨i, hi, rfl⟩ := mem_cm hc
    obtain ⟨h1, h2, h3, h4, h5, h6⟩ := hm i hi
    have h := hA.cm _ (cm_mem (show i < cs.length by omega))
    rw [gN_of x (by rw [h1]; have := h.l0; omega), gN_of x (by rw [h2]; exact h.r0), h1, h2]
    exact ⟨h4, h5⟩
/-- What a chain tells of a picture has its grade, where the grades fit. -/
theorem tell_has {n : Int} {cs : List Cm} {x : List Int} (hA : AlbOk n cs) (hf : Fits cs (gN x)) : ∀ (l : List Int) (p : Int) (r : Rg), -1 ≤ p → p < 8 → tellR cs l p = some r → r.lo ≤ gOf x p ∧ gOf x p ≤ r.hi := by
  intro l
  induction l with
  | nil =>
    intro p r h1 h2 h
    unfold tellR at h
    split at h
    · rename_i hp
      cases h
      subst hp
      exact ⟨Int.le_refl _, Int.le_refl _⟩
    · cases h
      rw [← gN_of x h1]
      exact hf.all _ (by unfold pl; omega)
  | cons y l ih =>
    intro p r h1 h2 h
    unfold tellR at h
    split at h
    · cases h
    · cases hL : lastO cs y p with
      | none => rw [hL] at h; cases h
      | some b =>
        rw [hL] at h
        obtain ⟨r0, h0, rfl⟩ := Option.map_eq_some_iff.1 h
        unfold lastO at hL
        split at hL
        · rename_i hy
          have hk : y.toNat < cs.length := by omega
          have hc := hA.cm _ (cm_mem hk)
          have hs := hf.says _ (cm_mem hk)
          have b1 := hc.l0
          have b2 := hc.ln
          have b3 := hc.r0
          have b4 := hc.rn
          have b5 := hA.n8
          rw [gN_of x (by omega), gN_of x b3] at hs
          have hp := hf.all (pl p) (by unfold pl; omega)
          rw [gN_of x h1] at hp
          unfold leadO at hL
          split at hL
          · rename_i he
            cases hL
            obtain ⟨i1, i2⟩ := ih (cm cs y.toNat).r r0 b3 (by omega) h0
            rw [he] at hs
            show max (r0.lo + (cm cs y.toNat).lo) 0 ≤ gOf x p ∧ gOf x p ≤ min (r0.hi + (cm cs y.toNat).hi) 100
            omega
          · split at hL
            · rename_i he
              cases hL
              obtain ⟨i1, i2⟩ := ih (cm cs y.toNat).l r0 (by omega) (by omega) h0
              rw [he] at hs
              show max (r0.lo + -(cm cs y.toNat).hi) 0 ≤ gOf x p ∧ gOf x p ≤ min (r0.hi + -(cm cs y.toNat).lo) 100
              omega
            · cases hL
        · cases hL
end Go.Proofs.Ytplmlmmjfkbabaa
