/- The statement CreepMore holds, in its first form: for every material, runs, plan, one more run and stretch the law returns true and leaves what it was given as it was. No condition. -/
import Derived.Test.YtfijaafkagcmmaaH2
import Derived.SizedLaws
namespace Go.Proofs.Ytfijaafkagcmmaa
open Go.ChangeShapes Go.WideShapes Go.ChangeAt Go.RowKit Go.Deep

theorem knob_own : ownKnob Try.prog.godebug = none := by kernel_rfl
theorem laid_out : laidOutB Try.prog = true := by kernel_rfl
theorem bytes90 : Try.prog.bytesOf 90 = 40 := by kernel_rfl

set_option maxRecDepth 100000
section
variable {H : Type} {enc : TypeId × Value → H} {w : World} {base fuel : Nat} {spare : Nat → Bool} {held : Bool}
theorem run_room {v : Value} {d : DataW H} {p : List MemPlace} (h : DataW.Trod enc Try.prog w base spare held 25 v d p)
    (hs : ∀ elems rest, d = .slice elems rest → (elems.length + rest.length) * Try.prog.bytesOf 90 ≤ reachBytes) {a : Option Addr} {n c : Nat} (e : v = .slice a n c) : n * 40 ≤ reachBytes := by
  subst e
  obtain ⟨fuel, hf⟩ := h
  rcases open_slice Try.underlying25 hf with ⟨hcs, _⟩ | ⟨a', len', cap', m, n', D, Pl, hcs, hb, hl, hm, hmm, hx, _⟩
  · simp only [Value.cells, List.cons.injEq, Value.slice.injEq, and_true] at hcs
    obtain ⟨-, rfl, -⟩ := hcs
    simp
  · simp only [Value.cells, List.cons.injEq, Value.slice.injEq, and_true] at hcs
    obtain ⟨-, rfl, -⟩ := hcs
    have hd : d = .slice ((List.range n).map D) ((List.range (m - n)).map fun j => D (n + j)) := congrArg Prod.fst hx
    have h1 := hs _ _ hd
    rw [bytes90] at h1
    simp only [List.length_map, List.length_range] at h1
    exact Nat.le_trans (Nat.mul_le_mul_right 40 (Nat.le_add_right _ _)) h1
end
theorem more_room {n : Nat} (h : n * 40 ≤ reachBytes) : (n + 1) * 40 ≤ 140737488355328 := by
  have e : reachBytes + 40 ≤ 140737488355328 := by decide
  rw [Nat.add_mul, Nat.one_mul]
  exact Nat.le_trans (Nat.add_le_add_right h 40) e

theorem law_more (mv pv sv : Value) (rv : Value) (ms : List Rg) (rs : List Rn) (ss : List Sg) (r : Rn) (st : Int) (w : World) (hst : 0 ≤ st ∧ st < 4294967296) (hV : RgsV w.heap.size w mv ms) (hR : RunsV w.heap.size w rv rs) (hP : SegsV w.heap.size w pv ss) (hS : SegsV w.heap.size w sv r.ss)
    (hs : ∀ a n c, rv = .slice a n c → n * 40 ≤ reachBytes) :
    Calls Try.prog 11 #[.agg #[mv], rv, pv, .agg #[sv, .int .i64 r.seen.lo, .int .i64 r.seen.hi], .int .u32 st] w fun e w' => e = .returned (.bool true) ∧ Below w.heap.size w w' := by
  have hR' := hR
  obtain ⟨ar, capr, rfl, -⟩ := hR'
  exact more_walk mv pv sv ar capr ms rs ss r st w hst hV hR hP hS (more_room (hs _ _ _ rfl))

theorem more_lifted (os : Os) (started : os.Started) (H : Type) (enc : TypeId × Value → H) :
    ReturnsInHanded {} Try.checked os 11 .any (Rows.creepMoreSpec.pre6 enc Try.prog Try.f11 Rows.creepMoreRow.domain false) (Rows.creepMoreSpec.post enc Try.prog Try.f11 false true false false) := by
  refine returnsInHanded_of_change_sized (C := Try.checked) knob_own started (by kernel_rfl) Try.func11
    (ChangeSpec.witness6 (enc := enc) (C := Try.checked) false ⟨#[], #[.agg #[.slice none 0 0], .slice none 0 0, .slice none 0 0, .agg #[.slice none 0 0, .int .i64 0, .int .i64 0], .int .u32 0], []⟩ 8 (by kernel_rfl) (by kernel_rfl) (by kernel_rfl) (by kernel_rfl)) ?_
  intro W base args ds gs before hval0 hW _ hsz0 _
  have hval : ∀ (j : Nat) t v, Try.f11.params[j]? = some t → args[j]? = some v → Value.okWide Try.prog W .any base t v := hval0
  have hsz : (DataW.weightsEach Try.prog (Try.f11.params.toList ++ Rows.creepMoreSpec.plain.varTypes Try.prog) (ds ++ gs)).all (· ≤ reachBytes) = true := hsz0
  have hW' := hW
  obtain ⟨p, q, hA0, hV, rfl, hfz, hnd⟩ := hW
  have hA : DataW.TrodAll enc Try.prog W 0 (fun _ => true) true Try.f11.params.toList args.toList ds p := hA0
  rw [Try.params11] at hA hval hsz
  obtain ⟨v0, vs0, d0, ds0, p0, q0, hargs, rfl, rfl, h0, r0⟩ := trodAll_cons hA
  obtain ⟨v1, vs1, d1, ds1, p1, q1, rfl, rfl, rfl, h1, r1⟩ := trodAll_cons r0
  obtain ⟨v2, vs2, d2, ds2, p2, q2, rfl, rfl, rfl, h2, r2⟩ := trodAll_cons r1
  obtain ⟨v3, vs3, d3, ds3, p3, q3, rfl, rfl, rfl, h3, r3⟩ := trodAll_cons r2
  obtain ⟨v4, vs4, d4, ds4, p4, q4, rfl, rfl, rfl, h4, r4⟩ := trodAll_cons r3
  obtain ⟨rfl, rfl, rfl⟩ := trodAll_nil r4
  obtain ⟨args⟩ := args
  simp only at hargs
  subst hargs
  obtain ⟨rfl, rfl⟩ := trodVars_none hV
  obtain ⟨mv, ms, rfl, hm⟩ := open_material (hval 0 24 v0 rfl rfl) h0
  obtain ⟨rs, hr⟩ := open_run_list (hval 1 25 v1 rfl rfl) h1
  have hroom : ∀ a n c, v1 = .slice a n c → n * 40 ≤ reachBytes := fun a n c e =>
    run_room h1 (fun elems rest e' => sized_slice hsz (j := 1) (t := 25) (elems := elems) (spare := rest) rfl (by rw [e']; rfl) Try.underlying25) e
  obtain ⟨ss, hss⟩ := open_plan (hval 2 52 v2 rfl rfl) h2
  obtain ⟨sv, r, rfl, hsv⟩ := open_run (hval 3 90 v3 rfl rfl) h3
  obtain ⟨oa, rfl, rfl, rfl, wb⟩ := open_int Try.underlying80 (hval 4 80 v4 rfl rfl) h4
  have hoa : 0 ≤ oa ∧ oa < 4294967296 := by
    simp [Lit.wf, IntKind.min, IntKind.max, IntKind.signed, IntKind.bits] at wb
    omega
  clear hA0 hval0
  refine (law_more mv v2 sv v1 ms rs ss r oa W hoa hm hr hss hsv hroom).mono fun e W' ⟨he, hb⟩ => ?_
  subst he
  have hlt : ∀ x ∈ p0 ++ (p1 ++ (p2 ++ p3)), x.block < W.heap.size := fun x hx => by simpa using hW'.lt x (by simpa using hx)
  have e1 : Rows.creepMoreSpec.fn H ([d0, d1, d2, d3, .lit (.int .u32 oa)] ++ []) = { results := [.lit (.bool true)], args := [d0, d1, d2, d3, .lit (.int .u32 oa)] } := rfl
  refine ⟨_, rfl, _, _, _, [], p0 ++ (p1 ++ (p2 ++ (p3 ++ ([] ++ [])))), [], hW', ?_, ?_, ?_, hb.frame _, fun h => by cases h⟩
  · rw [e1]
    exact trodAll_mk1 (shut_bool Try.underlying4 true)
  · rw [e1]
    exact trodAll_cons_mk (Below.trod laid_out (by kernel_rfl) (of_decide_eq_true (by kernel_rfl)) h0 hb (fun x hx => hlt x (by simp [hx])))
      (trodAll_cons_mk (Below.trod laid_out (by kernel_rfl) (of_decide_eq_true (by kernel_rfl)) h1 hb (fun x hx => hlt x (by simp [hx])))
      (trodAll_cons_mk (Below.trod laid_out (by kernel_rfl) (of_decide_eq_true (by kernel_rfl)) h2 hb (fun x hx => hlt x (by simp [hx])))
      (trodAll_cons_mk (Below.trod laid_out (by kernel_rfl) (of_decide_eq_true (by kernel_rfl)) h3 hb (fun x hx => hlt x (by simp [hx])))
      (trodAll_cons_mk (shut_int Try.underlying80 wb) trodAll_mk0))))
  · rfl

theorem more_holds : Rows.CreepMoreSaid :=
  OpenClaim.holds_of_wide 11 Try.f11 rfl rfl rfl rfl rfl rfl rfl ⟨rfl, rfl, rfl, rfl, rfl⟩ rfl rfl rfl rfl rfl (by kernel_rfl) Try.func11 (by kernel_rfl)
    (of_decide_eq_true (by kernel_rfl)) (by unfold Func.isWrapper; rw [if_neg (of_decide_eq_false (by kernel_rfl))]; exact ⟨rfl, rfl⟩)
    (fun os started H enc _ => more_lifted os started H enc)
#print axioms more_holds
end Go.Proofs.Ytfijaafkagcmmaa
