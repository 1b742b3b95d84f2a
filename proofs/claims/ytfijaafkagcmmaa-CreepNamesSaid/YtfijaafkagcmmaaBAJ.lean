/- Whether an iterator brings anything: its contract. Condition: the iterator's own. A region whose operands are drawn in a free order, within a round of a range over a function. No condition. -/
import Derived.Test.YtfijaafkagcmmaaI
import Derived.Test.YtfijaafkagcmmaaR
import Derived.RangeFuncCalls
import Derived.OrdersIn
import Derived.OwnWalkIn
namespace Go.Proofs.Ytfijaafkagcmmaa
open Go.RowKit Go.Shelf
attribute [local irreducible] arrV
attribute [local go_sem] Oper.semAt_some

def someB (L : List (List Int)) : Bool := !L.isEmpty
theorem someB_yes {pre L : List (List Int)} (h : pre <+: L) (hp : pre ≠ []) : someB L = true := by
  cases L with
  | nil => exact absurd (List.prefix_nil.1 h) hp
  | cons a L => rfl

theorem some_end {w A : World} {D n' : Nat} {tmps : Array Value} {z : Bool} {L : List (List Int)} (h2 : tmps[2]? = some (.pointer (some ⟨w.heap.size, 0, none⟩))) (hr : A.heap[w.heap.size]? = some (.cells #[.bool z] 4 (0, 0)))
    (hK : A.heap[D]? = some (.deferred (some []))) (hb : Below w.heap.size w A) (hD : w.heap.size < D) (hz : Value.bool z = .bool (someB L)) :
    LeavesInM Fence.wide n' Try.prog Try.f73 tmps (fun e w' => e = .returned (.bool (someB L)) ∧ Below w.heap.size w w') [{ target := .collected D, args := #[] }] .returning A := by
  refine ⟨by simp, .inl ⟨_, _, rfl, run_takeDeferred hK, ?_⟩⟩
  have r1 := (World.putObj_heap_other (w := A) (r := D) (o := .deferred none) (k := w.heap.size) (by omega)).trans hr
  have c0 := cell_of_row _ w.heap.size 0 _ _ _ r1
  simp at c0
  refine ⟨.bool z, ?_, by rw [hz], ⟨hb.os, hb.tape, hb.output, by simpa using hb.size, fun k hk => (World.putObj_heap_other (by omega)).trans (hb.block k hk)⟩⟩
  simp [results, Try.results73, go_sem, *]

set_option maxRecDepth 100000 in
set_option maxHeartbeats 4000000 in
theorem some_any (gf : Nat) (lb : Array Value) (V : List Int → Prop) (C : Nat → Prop) (L : List (List Int)) (w0 w : World) (hgf : ∀ args w, (callFunc gf args).run Try.prog w = .ok (.enter gf args) w)
    (hseq : SeqD Try.prog gf lb encX V C (fun xs => xs = L) (fun pre => pre <+: L) w0) (hb0 : Below w0.heap.size w0 w) (hC : ∀ k, C k → k < w.heap.size) (hV3 : ∀ x, V x → (pad3 x).length = 3) :
    Calls Try.prog 73 #[.func (.func gf) #[] lb] w fun e w' => e = .returned (.bool (someB L)) ∧ Below w.heap.size w w' := by
  have hbx := box_below w (.cells #[.bool false] 4)
  have hx := heap_alloc_new w (.cells #[.bool false] 4)
  have hsz : (w.alloc (.cells #[.bool false] 4)).heap.size = w.heap.size + 1 := by simp
  refine (callsIn_wide (n := 0)).1 ?_
  refine callsIn_of_wp_marks Try.func73 rfl trivial ?_ rfl
  simp only [Try.ntmps73, List.size_toArray, List.length_cons, List.length_nil, Nat.reduceAdd, Nat.reduceSub, Array.replicate_succ, Array.replicate_zero, List.push_toArray, List.append_toArray, List.nil_append, List.cons_append]
  gi_wp2_with fail
  generalize World.alloc w _ = w1 at *
  have HBX := Lib.hid hbx
  have HX := Lib.hid hx
  have HS := Lib.hid hsz
  have HSQ := Lib.hid hseq
  clear hbx hx hsz hseq
  refine wp_rangeD rfl hgf HSQ.out (hb0.trans (HBX.out.mono hb0.size)) (fun _ => rfl) (fun k => k = w.heap.size) ?t0 ?hc
    (fun T pre A => T w.heap.size ∧ pre = [] ∧ A.heap[w.heap.size]? = some (.cells #[.bool false] 4 (0, 0)))
    (fun c T pre A => c = .ret ∧ T w.heap.size ∧ pre ≠ [] ∧ A.heap[w.heap.size]? = some (.cells #[.bool true] 4 (0, 0)))
    ?ir ?ixr ⟨rfl, rfl, HX.out⟩
    (fun t a' A => a' = { tmps := #[.func (.func gf) #[] lb, undef, .pointer (some ⟨w.heap.size, 0, none⟩), .func (.func gf) #[] lb, .agg (arrV (pad3 t))], defers := [] }) (fun _ _ _ _ h => h) ?assign ?body ?done ?stop
  case t0 =>
    rintro k rfl
    exact ⟨by rw [HS.out]; omega, fun h => by have := hC _ h; omega⟩
  case hc => exact fun k hk => by have := hC k hk; rw [HS.out]; omega
  case ir => exact fun T s A B ⟨h1, h2, h3⟩ hR => ⟨h1, h2, (hR.2 _ h1).trans h3⟩
  case ixr => exact fun c T s A B ⟨h0, h1, h2, h3⟩ hR => ⟨h0, h1, h2, (hR.2 _ h1).trans h3⟩
  case assign =>
    rintro l2 t A ht hA
    gi_wp2
    exact ⟨by simp [encX], Below.refl _ _⟩
  case body =>
    rintro l2 T pre x a' A hx hSp ⟨h1, rfl, h3⟩ hOf hb hs rfl
    have c0 := cell_of_row A w.heap.size 0 _ _ _ h3
    have f0 := frozen_of_row A w.heap.size 0 _ _ h3
    have l0 := lt_of_block h3
    simp at c0
    gi_wp2
    have hbt : But T A (A.setCell ⟨w.heap.size, 0, none⟩ (.bool true)) := But.setCell _ _ h1
    exact ⟨hbt, rfl, .inl h1, by simp, heap_setCell_same A w.heap.size 0 _ 4 (.bool true) h3⟩
  case done =>
    rintro T xs A rfl ⟨h1, rfl, h3⟩ hOf hb n0 n1 hK
    have c0 := cell_of_row A w.heap.size 0 _ _ _ h3
    have f0 := frozen_of_row A w.heap.size 0 _ _ h3
    have l0 := lt_of_block h3
    simp at c0
    gi_wp2
    have h4 := heap_setCell_same A w.heap.size 0 _ 4 (.bool false) h3
    have hK4 := (heap_setCell_other A ⟨w.heap.size, 0, none⟩ w1.heap.size (.bool false) (by have := HS.out; show w1.heap.size ≠ w.heap.size; omega)).trans hK
    have hb4 : Below w.heap.size w (A.setCell ⟨w.heap.size, 0, none⟩ (.bool false)) := ⟨hb.os.trans HBX.out.os, hb.tape.trans HBX.out.tape, hb.output.trans HBX.out.output, by have := hb.size; have := HS.out; simp [World.setCell]; omega, fun k hk => (heap_setCell_other A ⟨w.heap.size, 0, none⟩ k _ (by show k ≠ w.heap.size; omega)).trans ((hb.block k (by have := HS.out; omega) (fun h => by have := HS.out; rcases h with h | h | h <;> omega)).trans (HBX.out.block k hk))⟩
    exact some_end rfl h4 hK4 hb4 (by have := HS.out; omega) rfl
  case stop =>
    rintro c T pre A hpf ⟨rfl, h1, h2, h3⟩ hOf hb n0 n1 hK
    have hb4 : Below w.heap.size w A := ⟨hb.os.trans HBX.out.os, hb.tape.trans HBX.out.tape, hb.output.trans HBX.out.output, by have := hb.size; have := HS.out; omega, fun k hk => ((hb.block k (by have := HS.out; omega) (fun h => by have := HS.out; rcases h with h | h | h <;> omega)).trans (HBX.out.block k hk))⟩
    gi_wp2
    exact some_end rfl h3 hK hb4 (by have := HS.out; omega) (by rw [someB_yes hpf h2])
end Go.Proofs.Ytfijaafkagcmmaa
namespace Go.Proofs.Ytfijaafkagcmmaa
open Go.RowKit
variable {P : Program} {ops : Array Oper} {Q : Exit → Act → World → Prop}

theorem Oper.wpIn_round_of {l : Nat} {o : Oper} {a : Act} {w : World} {K : Act → World → Prop} (hd : ∀ c, o.op ≠ .defer c) (h : o.wp P a w K Q) : o.wpIn (Fence.wide.inRound l) 0 P a w K Q := by
  refine ⟨fun _ _ => trivial, ?_⟩
  rw [Oper.semAt_plain _ _ _ hd]
  unfold Oper.wp at h
  generalize (execOp a.eval o).run P w = x at *
  cases x with
  | ok n w' =>
    cases n with
    | value v => exact h
    | skip => exact h
    | defer d => exact h
    | enter f args => exact ⟨fun h0 => by simp [Fence.inRound, Fence.wide] at h0, CallsIn.inRound l (callsIn_wide.2 h)⟩
    | row r args => exact ⟨fun h0 => by simp [Fence.inRound, Fence.wide] at h0, fun c cs _ => let ⟨v, w2, r, s⟩ := h c cs; ⟨v, w2, r, stepsIn_wide.2 s⟩⟩
    | _ => exact h.elim
  | halt x w' => cases x <;> exact h

def noDefer (ops : Array Oper) : Bool := ops.all fun o => match o.op with
  | .defer _ => false
  | _ => true
theorem noDefer_at (h : noDefer ops = true) {i : Nat} {o : Oper} (ho : ops[i]? = some o) : ∀ c, o.op ≠ .defer c := fun c hc => by
  obtain ⟨hi, he⟩ := Array.getElem?_eq_some_iff.1 ho
  have := (Array.all_eq_true.1 h) i hi
  rw [he, hc] at this
  cases this

theorem wpAny_round {l : Nat} {md : Region.Mode} (hd : noDefer ops = true) (hlo : ¬ LetsOut Q) : ∀ (fuel : Nat) (L : Array Bool) (a : Act) (w : World), wpAny P md ops Q fuel L a w → wpAnyIn (Fence.wide.inRound l) 0 P md ops Q fuel L a w
  | 0, _, _, _, h => h
  | fuel + 1, L, a, w, h => ⟨h.1, fun i hi => by
      have h2 := h.2 i hi
      unfold wpOp at h2
      unfold wpOpIn
      cases ho : ops[i]? with
      | none =>
        simp only [ho] at h2
        exact wpAny_round hd hlo fuel _ a w h2
      | some o =>
        simp only [ho] at h2 ⊢
        split at h2
        · rename_i hw
          rw [if_pos hw]
          refine Oper.wpIn_round_of (noDefer_at hd ho) ?_
          rcases h2 with h2 | ⟨_, h2⟩
          · exact Oper.wp_mono (fun a w h => wpAny_round hd hlo fuel _ a w h) h2
          · exact absurd h2 hlo
        · rename_i hw
          rw [if_neg hw]
          exact ⟨fun _ _ => trivial, wpAny_round hd hlo fuel _ _ w h2⟩⟩

/-- **THE REGION WITHOUT A FLOATING BLOCK, IN A ROUND.** -/
theorem wpIn_region_chain_round {l : Nat} (S : World → Prop) {id : Nat} {a : Act} {w : World} (hlo : ¬ LetsOut Q) (hSg : ∀ w w', S w → Below w.heap.size w w' → S w') (hS0 : S { w with drawn := w.drawn + 1 }) (hm : P.follows .mixedOrders = true) (hQ : ∀ c a d v w, Q (.panic c) (a.put d v) w → Q (.panic c) a w)
    (σ : List (Bool × Nat)) (τ : List Nat)
    (hB : (Region.noSelect ops && chainB ops τ σ (Array.replicate ops.size false) && (ops.size == σ.length + τ.length) && noDefer ops) = true)
    (h : Walk P ops S (fun a' w' => S w' → Tail P ops S Q τ a' w') σ a { w with drawn := w.drawn + 1 }) :
    (Code.region id ops true).wpIn (Fence.wide.inRound l) 0 P Q a w := by
  simp only [Bool.and_eq_true] at hB
  obtain ⟨⟨⟨hs, hf⟩, hz⟩, hd⟩ := hB
  have hz' : ops.size = σ.length + τ.length := by simpa using hz
  refine wpIn_region_any hm (wpAny_round hd hlo _ _ _ _ (wpAny_of_held (S := S) _ _ _ _ ?_))
  have := walk_plain (Q := Q) (P := P) (ops := ops) hSg hs hQ τ σ (Array.replicate ops.size false) a { w with drawn := w.drawn + 1 } hf hS0 h
  rw [← hz'] at this
  exact this
/-- A way out by a panic, and one that is outgrown, are struck. -/
theorem wpIn_region_noPanic {F : Fence} {n' id : Nat} {a : Act} {w : World} {o : Array Oper} {m : Bool} {K : Act → World → Prop}
    (h : (Code.region id o m).wpIn F n' P (Exit.then K (fun _ _ _ => False)) a w) : (Code.region id o m).wpIn F n' P (Exit.then K Q) a w :=
  wpIn_mono h fun e a w hh => by
    cases e with
    | normal => exact hh
    | _ => exact hh.elim
end Go.Proofs.Ytfijaafkagcmmaa
