/- What the calls tell of an album that is made from grades: plain facts. Condition: grades that fit. -/
import Derived.Test.YtplmlmmjfkbabaaTD
import Derived.Test.YtplmlmmjfkbabaaSC
import Derived.Test.YtplmlmmjfkbabaaSL
namespace Go.Proofs.Ytplmlmmjfkbabaa
open Go.RowKit Go.Shelf

theorem zero_doubt (cs : List Cm) : (distO cs).isSome = decide ((doubtL cs).length = 0) := by
  obtain ⟨b, hb, hD, hp, hmin⟩ := doubt_spec cs
  rw [Bool.eq_iff_iff, decide_eq_true_iff]
  constructor
  · intro h
    have := hmin (cs.map fun _ => false) (by simp) (by rw [rest_all]; exact h)
    rw [num_none] at this
    have := ((less_def _ _).1 this).1
    simpa using this
  · intro h
    have hn : numS 0 b = [] := by rw [← hD]; exact List.eq_nil_of_length_eq_zero h
    rw [num_nil hb hn, rest_all] at hp
    exact hp
theorem ints_at {m : Nat} {w : World} {v : Value} {gs : List Int} {k : Nat} (h : IntsV m w v gs) (hk : k < gs.length) : ∃ b off cap, v = .slice (some ⟨b, off, none⟩) gs.length cap ∧ b < m ∧ w.cell? ⟨b, off + k, none⟩ = some (.int .i64 (ld gs k)) := by
  obtain ⟨a, cap, rfl, hp⟩ := h
  obtain ⟨b, off, rfl, hb, hc⟩ := hp (by omega)
  exact ⟨b, off, cap, rfl, hb, hc k hk⟩
theorem gOf_nat (x : List Int) (p : Nat) : gOf x (p : Int) = ld x p := by
  unfold gOf
  rw [if_pos (by omega)]
  rfl
theorem gN_pl (x : List Int) (p : Nat) : gN x (pl (p : Int)) = ld x p := by rw [gN_of x (by omega), gOf_nat]
theorem gN_succ (x : List Int) (p : Nat) : gN x (p + 1) = ld x p := by unfold gN; rw [if_neg (by omega)]; rfl
theorem ofL_gOf (x : List Int) {p : Int} (h : -1 ≤ p) : ofL x p = gOf x p := by
  unfold ofL gOf
  by_cases h1 : p = -1
  · rw [if_pos h1, if_neg (by omega)]
  · rw [if_neg h1, if_pos (by omega)]
theorem truth_dist {n : Int} {out : List Cm} {x : List Int} (hA : AlbOk n out) (hf : Fits out (gN x)) : ∃ d, distO out = some d ∧ Canon out d := by
  obtain ⟨d, hd⟩ := dist_fit hA hf
  exact ⟨d, hd, dist_some hA hd⟩
theorem truth_grade {out : List Cm} {x : List Int} {d : Dm} (hc : Canon out d) (hf : Fits out (gN x)) {N p : Nat} (hN : N ≤ 8) (hp : p < N) : (rg (gradesL d N) p).lo ≤ ld x p ∧ ld x p ≤ (rg (gradesL d N) p).hi := by
  rw [grades_at hp, ← gN_succ]
  have h1 := hc.sound _ hf (p + 1) 0 (by omega) (by omega)
  have h2 := hc.sound _ hf 0 (p + 1) (by omega) (by omega)
  rw [hf.chart] at h1 h2
  show -d (p + 1) 0 ≤ _ ∧ _ ≤ d 0 (p + 1)
  omega
theorem truth_between {out : List Cm} {x : List Int} {d : Dm} (hc : Canon out d) (hf : Fits out (gN x)) {N p q : Nat} (hN : N ≤ 8) (hp : p < N) (hq : q < N) : -d (pl p) (pl q) ≤ ld x p - ld x q ∧ ld x p - ld x q ≤ d (pl q) (pl p) := by
  rw [pl_nat, pl_nat, ← gN_succ, ← gN_succ]
  have h1 := hc.sound _ hf (p + 1) (q + 1) (by omega) (by omega)
  have h2 := hc.sound _ hf (q + 1) (p + 1) (by omega) (by omega)
  omega
theorem truth_doubt {out : List Cm} {d : Dm} (hd : distO out = some d) : doubtL out = [] := by
  have h := zero_doubt out
  rw [hd] at h
  exact List.eq_nil_of_length_eq_zero (of_decide_eq_true h.symm)
theorem truth_prove {N : Nat} {out : List Cm} {x : List Int} (hA : AlbOk N out) (hf : Fits out (gN x)) (hl : x.length = N) (hg : GrOk x) : proveB N out x = true := by
  unfold proveB fitB
  rw [fault_of hA, hl]
  simp only [decide_true, Bool.true_and, Bool.and_eq_true, List.all_eq_true]
  refine ⟨fun y hy => ?_, fun c hc => ?_⟩
  · obtain ⟨i, hi, rfl⟩ := List.mem_iff_getElem.1 hy
    have := hg i hi
    simp only [ld, List.getElem?_eq_getElem hi, Option.getD_some] at this
    simp only [hasB, decide_eq_true_eq]
    exact this
  · have h1 := hf.says c hc
    have h2 := hA.cm c hc
    have b1 := h2.l0
    have b2 := h2.r0
    rw [gN_of x (by omega), gN_of x b2] at h1
    simp only [agreeB, hasB, decide_eq_true_eq]
    rw [ofL_gOf x (by omega), ofL_gOf x b2]
    exact h1
theorem truth_finest {out : List Cm} {x : List Int} {d : Dm} (hc : Canon out d) (hf : Fits out (gN x)) {N p : Nat} (hN : N ≤ 8) (hp : p < N) (hm : ∀ q, q < N → ld x q ≤ ld x p) : p ∈ finestL d N := by
  refine mem_finest.2 ⟨hp, fun q hq => ?_⟩
  have h1 := hc.sound _ hf (q + 1) (p + 1) (by omega) (by omega)
  have := hm q hq
  rw [gN_succ, gN_succ] at h1
  omega
end Go.Proofs.Ytplmlmmjfkbabaa
