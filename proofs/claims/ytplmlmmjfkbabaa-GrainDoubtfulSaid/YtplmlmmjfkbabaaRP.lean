/- Whether a picture may be the finest, by the reference: plain facts. No condition. -/
import Derived.Test.YtplmlmmjfkbabaaRMJ
namespace Go.Proofs.Ytplmlmmjfkbabaa

/-- The comparisons that are added: the picture is at least as fine as all others. -/
def exL (pic : Nat) : Nat → List Cm
  | 0 => []
  | q + 1 => exL pic q ++ if q = pic then [] else [⟨pic, q, 0, 100⟩]
theorem exL_len (pic q : Nat) : (exL pic q).length ≤ q := by
  induction q with
  | zero => simp [exL]
  | succ q ih =>
    simp only [exL, List.length_append]
    split <;> simp <;> omega
theorem exL_same (pic : Nat) : exL pic (pic + 1) = exL pic pic := by simp [exL]
theorem exL_next {pic q : Nat} (h : q ≠ pic) : exL pic (q + 1) = exL pic q ++ [⟨pic, q, 0, 100⟩] := by simp [exL, h]
theorem mem_exL {pic q : Nat} {c : Cm} : c ∈ exL pic q ↔ ∃ k, k < q ∧ k ≠ pic ∧ c = ⟨pic, k, 0, 100⟩ := by
  induction q with
  | zero => simp [exL]
  | succ q ih =>
    simp only [exL, List.mem_append, ih]
    constructor
    · rintro (⟨k, hk, hn, rfl⟩ | h)
      · exact ⟨k, by omega, hn, rfl⟩
      · by_cases e : q = pic
        · simp [e] at h
        · rw [if_neg e, List.mem_singleton] at h
          exact ⟨q, by omega, e, h⟩
    · rintro ⟨k, hk, hn, rfl⟩
      by_cases e : k = q
      · subst e
        exact .inr (by simp [hn])
      · exact .inl ⟨k, by omega, hn, rfl⟩
theorem zs_ok {cs : List Cm} {N pic : Nat} (hA : AlbOk N cs) (hp : pic < N) : AlbW N (cs ++ exL pic N) := by
  have h8 := hA.n8
  have hl := hA.len
  have := exL_len pic N
  refine ⟨hA.n0, h8, by simp; omega, fun c hc => ?_⟩
  rcases List.mem_append.1 hc with hc | hc
  · exact hA.cm c hc
  · obtain ⟨k, hk, hn, rfl⟩ := mem_exL.1 hc
    exact ⟨by simp, by simp only; omega, by simp only; omega, by simp only; omega, by simp only; omega, by simp, by simp, by simp⟩
theorem Canon.near {n : Int} {cs : List Cm} {d : Dm} (h : Canon cs d) (hA : AlbOk n cs) {s : Nat} (hs : s < 9) : Fits cs (fun a => d 0 s - d a s) := by
  refine ⟨by simp, fun a ha => ?_, fun c hc => ?_⟩
  · have h1 := h.tri 0 a s (by omega) ha hs
    have h2 := h.wide 0 a (by omega) ha
    have h3 := h.tri a 0 s ha (by omega) hs
    have h4 := h.wide a 0 ha (by omega)
    have h5 := wide_le 0 a
    have h6 : wideD a 0 = 0 := by simp [wideD]
    omega
  · obtain ⟨h1, h2, h3, h4⟩ := (hA.cm c hc).pl hA.n8
    have s1 := h.says c hc
    have t1 := h.tri (pl c.r) (pl c.l) s h2 h1 hs
    have t2 := h.tri (pl c.l) (pl c.r) s h1 h2 hs
    omega
theorem fin_iff {cs : List Cm} {d : Dm} {N pic : Nat} (hA : AlbOk N cs) (hd : distO cs = some d) (hp : pic < N) : (distO (cs ++ exL pic N)).isSome = finB d N pic := by
  have h8 := hA.n8
  have hC := dist_some hA hd
  have hZ := zs_ok hA hp
  have e1 : pl (pic : Int) = pic + 1 := by unfold pl; omega
  have ek : ∀ k : Nat, pl (k : Int) = k + 1 := fun k => by unfold pl; omega
  cases hz : distO (cs ++ exL pic N) with
  | none =>
    refine (Bool.eq_false_iff.2 fun hf => ?_).symm
    unfold finB at hf
    rw [List.all_eq_true] at hf
    have hg := hC.near hA (s := pic + 1) (by omega)
    refine dist_noneW hZ hz _ ⟨hg.chart, hg.all, fun c hc => ?_⟩
    rcases List.mem_append.1 hc with hc | hc
    · exact hg.says c hc
    · obtain ⟨k, hk, hn, rfl⟩ := mem_exL.1 hc
      have h1 := of_decide_eq_true (hf k (List.mem_range.2 hk))
      have h2 := hC.diag (pic + 1) (by omega)
      have h3 := hC.bound (a := k + 1) (b := pic + 1) (by omega) (by omega)
      simp only [e1, ek]
      omega
  | some d' =>
    have hC' := dist_someW hZ hz
    have hg := canon_lo hC' hZ
    symm
    show finB d N pic = true
    unfold finB
    rw [List.all_eq_true]
    intro k hk
    have hk := List.mem_range.1 hk
    apply decide_eq_true
    have hs := hC.sound _ ⟨hg.chart, hg.all, fun c hc => hg.says c (List.mem_append_left _ hc)⟩ (k + 1) (pic + 1) (by omega) (by omega)
    by_cases e : k = pic
    · subst e
      have := hC.diag (k + 1) (by omega)
      omega
    · have h1 := (hg.says ⟨pic, k, 0, 100⟩ (List.mem_append_right _ (mem_exL.2 ⟨k, hk, e, rfl⟩))).1
      simp only [e1, ek] at h1
      omega
end Go.Proofs.Ytplmlmmjfkbabaa
