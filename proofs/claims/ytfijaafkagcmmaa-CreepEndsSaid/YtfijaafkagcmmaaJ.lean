/- Whether an iterator brings anything: its contract. Condition: the iterator's own. -/
import Derived.Test.YtfijaafkagcmmaaI
namespace Go.Proofs.Ytfijaafkagcmmaa
open Go.RowKit Go.Shelf
attribute [local irreducible] arrV
attribute [local go_sem] Oper.semAt_some

def someB (L : List (List Int)) : Bool := !L.isEmpty
theorem someB_yes {pre L : List (List Int)} (h : pre <+: L) (hp : pre ≠ []) : someB L = true := by
  cases L with
  | nil => exact absurd (List.prefix_nil.1 h) hp
  | cons a L => rfl

theorem some_end {w A : World} {D n' : Nat} {tmps : Array Value} {z : Bool} {L : List (List Int)} (h2 : tmps[2]? = some (.pointer (some ⟨w.heap.size, 0, none⟩))) (hr : A.heap[w.heap.size]? = some (.cells #[.bool z] 4 (0, 0)))
    (hK : A.heap[D]? = some (.deferred (some []))) (hb : Below w.heap.size w A) (hD : w.heap.size < D) (hz : Value.bool z = .bool (someB L)) :
    LeavesInM Fence.wide n' Try.prog Try.f73 tmps (fun e w' => e = .returned (.bool (someB L)) ∧ Below w.heap.size w w') [{ target := .collected D, args := #[] }] .returning A := by
  refine ⟨by simp, .inl ⟨_, _, rfl, run_takeDeferred hK, ?_⟩⟩
  have r1 := (World.putObj_heap_other (w := A) (r := D) (o := .deferred none) (k := w.heap.size) (by omega)).trans hr
  have c0 := cell_of_row _ w.heap.size 0 _ _ _ r1
  simp at c0
  refine ⟨.bool z, ?_, by rw [hz], ⟨hb.os, hb.tape, hb.output, by simpa using hb.size, fun k hk => (World.putObj_heap_other (by omega)).trans (hb.block k hk)⟩⟩
  simp [results, Try.results73, go_sem, *]

set_option maxRecDepth 100000 in
set_option maxHeartbeats 4000000 in
theorem some_any (gf : Nat) (lb : Array Value) (V : List Int → Prop) (C : Nat → Prop) (L : List (List Int)) (w0 w : World) (hgf : ∀ args w, (callFunc gf args).run Try.prog w = .ok (.enter gf args) w)
    (hseq : SeqD Try.prog gf lb encX V C (fun xs => xs = L) (fun pre => pre <+: L) w0) (hb0 : Below w0.heap.size w0 w) (hC : ∀ k, C k → k < w.heap.size) (hV3 : ∀ x, V x → (pad3 x).length = 3) :
    Calls Try.prog 73 #[.func (.func gf) #[] lb] w fun e w' => e = .returned (.bool (someB L)) ∧ Below w.heap.size w w' := by
  have hbx := box_below w (.cells #[.bool false] 4)
  have hx := heap_alloc_new w (.cells #[.bool false] 4)
  have hsz : (w.alloc (.cells #[.bool false] 4)).heap.size = w.heap.size + 1 := by simp
  refine (callsIn_wide (n := 0)).1 ?_
  refine callsIn_of_wp_marks Try.func73 rfl trivial ?_ rfl
  simp only [Try.ntmps73, List.size_toArray, List.length_cons, List.length_nil, Nat.reduceAdd, Nat.reduceSub, Array.replicate_succ, Array.replicate_zero, List.push_toArray, List.append_toArray, List.nil_append, List.cons_append]
  gi_wp2_with fail
  generalize World.alloc w _ = w1 at *
  have HBX := Lib.hid hbx
  have HX := Lib.hid hx
  have HS := Lib.hid hsz
  have HSQ := Lib.hid hseq
  clear hbx hx hsz hseq
  refine wp_rangeD rfl hgf HSQ.out (hb0.trans (HBX.out.mono hb0.size)) (fun _ => rfl) (fun k => k = w.heap.size) ?t0 ?hc
    (fun T pre A => T w.heap.size ∧ pre = [] ∧ A.heap[w.heap.size]? = some (.cells #[.bool false] 4 (0, 0)))
    (fun c T pre A => c = .ret ∧ T w.heap.size ∧ pre ≠ [] ∧ A.heap[w.heap.size]? = some (.cells #[.bool true] 4 (0, 0)))
    ?ir ?ixr ⟨rfl, rfl, HX.out⟩
    (fun t a' A => a' = { tmps := #[.func (.func gf) #[] lb, undef, .pointer (some ⟨w.heap.size, 0, none⟩), .func (.func gf) #[] lb, .agg (arrV (pad3 t))], defers := [] }) (fun _ _ _ _ h => h) ?assign ?body ?done ?stop
  case t0 =>
    rintro k rfl
    exact ⟨by rw [HS.out]; omega, fun h => by have := hC _ h; omega⟩
  case hc => exact fun k hk => by have := hC k hk; rw [HS.out]; omega
  case ir => exact fun T s A B ⟨h1, h2, h3⟩ hR => ⟨h1, h2, (hR.2 _ h1).trans h3⟩
  case ixr => exact fun c T s A B ⟨h0, h1, h2, h3⟩ hR => ⟨h0, h1, h2, (hR.2 _ h1).trans h3⟩
  case assign =>
    rintro l2 t A ht hA
    gi_wp2
    exact ⟨by simp [encX], Below.refl _ _⟩
  case body =>
    rintro l2 T pre x a' A hx hSp ⟨h1, rfl, h3⟩ hOf hb hs rfl
    have c0 := cell_of_row A w.heap.size 0 _ _ _ h3
    have f0 := frozen_of_row A w.heap.size 0 _ _ h3
    have l0 := lt_of_block h3
    simp at c0
    gi_wp2
    have hbt : But T A (A.setCell ⟨w.heap.size, 0, none⟩ (.bool true)) := But.setCell _ _ h1
    exact ⟨hbt, rfl, .inl h1, by simp, heap_setCell_same A w.heap.size 0 _ 4 (.bool true) h3⟩
  case done =>
    rintro T xs A rfl ⟨h1, rfl, h3⟩ hOf hb n0 n1 hK
    have c0 := cell_of_row A w.heap.size 0 _ _ _ h3
    have f0 := frozen_of_row A w.heap.size 0 _ _ h3
    have l0 := lt_of_block h3
    simp at c0
    gi_wp2
    have h4 := heap_setCell_same A w.heap.size 0 _ 4 (.bool false) h3
    have hK4 := (heap_setCell_other A ⟨w.heap.size, 0, none⟩ w1.heap.size (.bool false) (by have := HS.out; show w1.heap.size ≠ w.heap.size; omega)).trans hK
    have hb4 : Below w.heap.size w (A.setCell ⟨w.heap.size, 0, none⟩ (.bool false)) := ⟨hb.os.trans HBX.out.os, hb.tape.trans HBX.out.tape, hb.output.trans HBX.out.output, by have := hb.size; have := HS.out; simp [World.setCell]; omega, fun k hk => (heap_setCell_other A ⟨w.heap.size, 0, none⟩ k _ (by show k ≠ w.heap.size; omega)).trans ((hb.block k (by have := HS.out; omega) (fun h => by have := HS.out; rcases h with h | h | h <;> omega)).trans (HBX.out.block k hk))⟩
    exact some_end rfl h4 hK4 hb4 (by have := HS.out; omega) rfl
  case stop =>
    rintro c T pre A hpf ⟨rfl, h1, h2, h3⟩ hOf hb n0 n1 hK
    have hb4 : Below w.heap.size w A := ⟨hb.os.trans HBX.out.os, hb.tape.trans HBX.out.tape, hb.output.trans HBX.out.output, by have := hb.size; have := HS.out; omega, fun k hk => ((hb.block k (by have := HS.out; omega) (fun h => by have := HS.out; rcases h with h | h | h <;> omega)).trans (HBX.out.block k hk))⟩
    gi_wp2
    exact some_end rfl h3 hK hb4 (by have := HS.out; omega) (by rw [someB_yes hpf h2])
end Go.Proofs.Ytfijaafkagcmmaa
