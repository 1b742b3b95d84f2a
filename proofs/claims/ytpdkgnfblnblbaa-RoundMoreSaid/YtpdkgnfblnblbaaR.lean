/- A region that draws its order, of reads, calls in a chain that make memory, one new block that floats, and a tail: one walk in a given order serves every order. No condition. -/
import Derived.Deep.RegionHeld3
import Derived.WalkKit
import Derived.Below
namespace Go.Proofs.Ytpdkgnfblnblbaa
open Go.RowKit

theorem grow_to {w W W' : World} (h : Below w.heap.size w W) (h' : Below W.heap.size W W') : Below w.heap.size w W' := h.trans (h'.mono h.size)
theorem grow_alloc (w : World) (o : Obj) : Below w.heap.size w (w.alloc o) := (Below.refl _ _).alloc (Nat.le_refl _) _

section
variable {P : Program} {ops : Array Oper} {Q : Exit → Act → World → Prop}

/-- The walk in the given order: (false, i): operation i yields its value; (true, i): operation i is a call. Each call may meet a world that has grown. -/
def Walk (P : Program) (ops : Array Oper) (S : World → Prop) (Fin : Act → World → Prop) : List (Bool × Nat) → Act → World → Prop
  | [], a, w => ∀ w1, Below w.heap.size w w1 → Fin a w1
  | (false, i) :: σ, a, w => ∃ o v, ops[i]? = some o ∧ YieldsIf P ops S o v a ∧ Walk P ops S Fin σ (a.put o.dst v) w
  | (true, i) :: σ, a, w => ∃ o f args, ops[i]? = some o ∧ Region.wanted o (yielded ops a.tmps) = true ∧
      (∀ w1, S w1 → (execOp a.eval o).run P w1 = .ok (.enter f args) w1) ∧
      ∀ w1, Below w.heap.size w w1 → Calls P f args w1 fun e w2 => ∃ v, e = .returned v ∧ Below w1.heap.size w1 w2 ∧ Walk P ops S Fin σ (a.put o.dst v) w2

theorem Walk.fin {S : World → Prop} {Fin : Act → World → Prop} {a : Act} {w : World} (h : ∀ w1, Below w.heap.size w w1 → Fin a w1) : Walk P ops S Fin [] a w := h
theorem Walk.take {S : World → Prop} {Fin : Act → World → Prop} {σ : List (Bool × Nat)} {a : Act} {w : World} {i : Nat} {o : Oper} {v : Value} (ho : ops[i]? = some o) (hw : Region.wanted o (yielded ops a.tmps) = true)
    (hy : ∀ w1, S w1 → (execOp a.eval o).run P w1 = .ok (.value v) w1) (h : Walk P ops S Fin σ (a.put o.dst v) w) : Walk P ops S Fin ((false, i) :: σ) a w := ⟨o, v, ho, .inl ⟨hw, hy⟩, h⟩
theorem Walk.call {S : World → Prop} {Fin : Act → World → Prop} {σ : List (Bool × Nat)} {a : Act} {w : World} {i : Nat} {o : Oper} {f : FuncId} {args : Array Value} (ho : ops[i]? = some o) (hw : Region.wanted o (yielded ops a.tmps) = true)
    (hr : ∀ w1, S w1 → (execOp a.eval o).run P w1 = .ok (.enter f args) w1)
    (h : ∀ w1, Below w.heap.size w w1 → Calls P f args w1 fun e w2 => ∃ v, e = .returned v ∧ Below w1.heap.size w1 w2 ∧ Walk P ops S Fin σ (a.put o.dst v) w2) : Walk P ops S Fin ((true, i) :: σ) a w := ⟨o, f, args, ho, hw, hr, h⟩

theorem Walk.takes {S : World → Prop} {Fin : Act → World → Prop} {σ : List (Bool × Nat)} {a : Act} {w : World} {i : Nat} {o : Oper} (ho : ops[i]? = some o) (hw : Region.wanted o (yielded ops a.tmps) = true)
    (h : ∃ v, (∀ w1, S w1 → (execOp a.eval o).run P w1 = .ok (.value v) w1) ∧ Walk P ops S Fin σ (a.put o.dst v) w) : Walk P ops S Fin ((false, i) :: σ) a w :=
  let ⟨_, hy, hn⟩ := h; Walk.take ho hw hy hn
theorem Walk.calls {S : World → Prop} {Fin : Act → World → Prop} {σ : List (Bool × Nat)} {a : Act} {w : World} {i : Nat} {o : Oper} (ho : ops[i]? = some o) (hw : Region.wanted o (yielded ops a.tmps) = true)
    (h : ∃ f args, (∀ w1, S w1 → (execOp a.eval o).run P w1 = .ok (.enter f args) w1) ∧ ∀ w1, Below w.heap.size w w1 → Calls P f args w1 fun e w2 => ∃ v, e = .returned v ∧ Below w1.heap.size w1 w2 ∧ Walk P ops S Fin σ (a.put o.dst v) w2) : Walk P ops S Fin ((true, i) :: σ) a w :=
  let ⟨_, _, hr, hn⟩ := h; Walk.call ho hw hr hn

theorem Walk.grown {S : World → Prop} {Fin : Act → World → Prop} : ∀ {σ : List (Bool × Nat)} {a : Act} {w w1 : World}, Walk P ops S Fin σ a w → Below w.heap.size w w1 → Walk P ops S Fin σ a w1
  | [], _, _, _, h, hb => fun w2 h2 => h w2 (grow_to hb h2)
  | (false, _) :: _, _, _, _, ⟨o, v, ho, hy, h⟩, hb => ⟨o, v, ho, hy, Walk.grown h hb⟩
  | (true, _) :: _, _, _, _, ⟨o, f, args, ho, hw, hr, h⟩, hb => ⟨o, f, args, ho, hw, hr, fun w2 h2 => h w2 (grow_to hb h2)⟩

def setL (L : Array Bool) (i : Nat) : Array Bool := L.setIfInBounds i true
def lastL : List (Bool × Nat) → Array Bool → Array Bool
  | [], L => L
  | s :: σ, L => lastL σ (setL L s.2)

/-- What is asked of the region, operation by operation: a Bool. -/
def floatB (ops : Array Oper) (ia : Nat) (oa : Oper) : List (Bool × Nat) → Array Bool → Bool
  | [], L => Region.ready .any ops L == [ia]
  | (false, i) :: σ, L => (i != ia) && (Region.free .any ops L i) && ((Region.ready .any ops L).contains i) && (Region.free .any ops (setL L ia) i) && ((Region.ready .any ops (setL L ia)).contains i) &&
      (match ops[i]? with | some o => oa.apart ops o | none => false) && floatB ops ia oa σ (setL L i)
  | (true, i) :: σ, L => (i != ia) && ((Region.ready .any ops L == [i, ia]) || (Region.ready .any ops L == [ia, i])) && (Region.ready .any ops (setL L ia) == [i]) &&
      (match ops[i]? with | some o => oa.apart ops o | none => false) && floatB ops ia oa σ (setL L i)

theorem walk_any {W : World} {Fin : Act → World → Prop} (hs : Region.noSelect ops = true) (hQ : ∀ c a d v w, Q (.panic c) (a.put d v) w → Q (.panic c) a w)
    {ia : Nat} {oa : Oper} (hoa : ops[ia]? = some oa) {p : Tmp} (hp : oa.dst = some p) (hga : oa.guard = none) {O : Obj}
    (hal : ∀ (a : Act) w, (execOp a.eval oa).run P w = .ok (.value (.pointer (some ⟨w.heap.size, 0, none⟩))) (w.alloc O)) (m : Nat) :
    ∀ (σ : List (Bool × Nat)) (L : Array Bool) (a : Act),
      (∀ a w b, Fin a w → Below W.heap.size W w → W.heap.size ≤ b → w.heap[b]? = some O → wpAnyH P .any ops Q (fun w' => Below W.heap.size W w') m (setL (lastL σ L) ia) (a.put (some p) (.pointer (some ⟨b, 0, none⟩))) w) →
      floatB ops ia oa σ L = true →
      (∀ w b, Below W.heap.size W w → Walk P ops (fun w' => Below W.heap.size W w') Fin σ a w → W.heap.size ≤ b → w.heap[b]? = some O →
        wpAnyH P .any ops Q (fun w' => Below W.heap.size W w') (σ.length + m) (setL L ia) (a.put (some p) (.pointer (some ⟨b, 0, none⟩))) w) ∧
      (∀ w, Below W.heap.size W w → Walk P ops (fun w' => Below W.heap.size W w') Fin σ a w → wpAnyH P .any ops Q (fun w' => Below W.heap.size W w') (σ.length + m + 1) L a w)
  | [], L, a, hT, hB => by
    have hr : Region.ready .any ops L = [ia] := by simpa [floatB] using hB
    refine ⟨fun w b hS hW hb hO => ?_, fun w hS hW => ?_⟩
    · simpa [lastL, setL] using hT a w b (hW w (Below.refl _ _)) hS hb hO
    · refine wpAnyH_all hr (by simp) fun i hi => ?_
      obtain rfl : i = ia := by simpa using hi
      have hS' : Below W.heap.size W (w.alloc O) := grow_to hS (grow_alloc w O)
      unfold wpOp
      simp only [hoa]
      rw [if_pos (by simp [Region.wanted, hga])]
      refine .inl ?_
      unfold Oper.wp
      rw [hal a w]
      show _ ∧ _
      refine ⟨hS', ?_⟩
      rw [hp]
      simpa [lastL, setL] using hT a (w.alloc O) w.heap.size (hW _ (grow_alloc w O)) hS' hS.size (heap_alloc_new w O)
  | (false, i) :: σ, L, a, hT, hB => by
    simp only [floatB, Bool.and_eq_true, bne_iff_ne] at hB
    obtain ⟨⟨⟨⟨⟨⟨hne, hf⟩, hr⟩, hfa⟩, hra⟩, hap⟩, hB'⟩ := hB
    refine ⟨fun w b hS hW hb hO => ?_, fun w hS hW => ?_⟩
    · obtain ⟨o, v, ho, hy, hw⟩ := hW
      simp only [ho] at hap
      obtain ⟨h1, h2, h3⟩ := Oper.apart_spec hap
      have hsel : ∀ cs b, o.op ≠ .select cs b := fun cs b => Region.noSelect_spec hs i o cs b ho
      have hd : ∀ d, (some p : Option Tmp) = some d → d ∉ o.looksAt ops := fun d e => h1 d (hp.trans e)
      have hd2 : ∀ d, (some p : Option Tmp) = some d → o.dst ≠ some d := fun d e => h2 d (hp.trans e)
      have ih := (walk_any hs hQ hoa hp hga hal m σ (setL L i) (a.put o.dst v) hT hB').1 w b hS hw hb hO
      have hy' : YieldsIf P ops (fun w' => Below W.heap.size W w') o v (a.put (some p) (.pointer (some ⟨b, 0, none⟩))) :=
        hy.of_same (execOp_put o hsel a (some p) _ hd) (wanted_put o a (some p) _ hd)
      have := wpAnyH_take (md := .any) (Q := Q) (S := fun w' => Below W.heap.size W w') (fuel := σ.length + m) (listed := setL L ia) (w := w) ho hs hfa hra (fun c a w h => hQ c a _ _ w h) hy' hS (by
        rw [Act.put_comm a _ v hd2]
        have e : (setL L ia).setIfInBounds i true = setL (setL L i) ia := Array.setIfInBounds_comm _ _ (Ne.symm hne)
        rw [e]; exact ih)
      rw [show ((false, i) :: σ).length + m = σ.length + m + 1 by simp; omega]
      exact this
    · obtain ⟨o, v, ho, hy, hw⟩ := hW
      have ih := (walk_any hs hQ hoa hp hga hal m σ (setL L i) (a.put o.dst v) hT hB').2 w hS hw
      have := wpAnyH_take (md := .any) (Q := Q) (S := fun w' => Below W.heap.size W w') (fuel := σ.length + m + 1) (listed := L) (w := w) ho hs hf hr (fun c a w h => hQ c a _ _ w h) hy hS ih
      rw [show ((false, i) :: σ).length + m + 1 = σ.length + m + 1 + 1 by simp; omega]
      exact this
  | (true, i) :: σ, L, a, hT, hB => by
    simp only [floatB, Bool.and_eq_true, bne_iff_ne] at hB
    obtain ⟨⟨⟨⟨hne, hr⟩, hra⟩, hap⟩, hB'⟩ := hB
    have ih := fun v => fun (o : Oper) => walk_any hs hQ hoa hp hga hal m σ (setL L i) (a.put o.dst v) hT hB'
    have A : ∀ w b, Below W.heap.size W w → Walk P ops (fun w' => Below W.heap.size W w') Fin ((true, i) :: σ) a w → W.heap.size ≤ b → w.heap[b]? = some O →
        wpAnyH P .any ops Q (fun w' => Below W.heap.size W w') (σ.length + m + 1) (setL L ia) (a.put (some p) (.pointer (some ⟨b, 0, none⟩))) w := fun w b hS hW hb hO => by
      obtain ⟨o, f, args, ho, hw, hrun, hc⟩ := hW
      simp only [ho] at hap
      obtain ⟨h1, h2, h3⟩ := Oper.apart_spec hap
      have hsel : ∀ cs b, o.op ≠ .select cs b := fun cs b => Region.noSelect_spec hs i o cs b ho
      have hd : ∀ d, (some p : Option Tmp) = some d → d ∉ o.looksAt ops := fun d e => h1 d (hp.trans e)
      have hd2 : ∀ d, (some p : Option Tmp) = some d → o.dst ≠ some d := fun d e => h2 d (hp.trans e)
      refine wpAnyH_all (eq_of_beq hra) (by simp) fun j hj => ?_
      obtain rfl : j = i := by simpa using hj
      unfold wpOp
      simp only [ho]
      rw [if_pos (by rw [wanted_put o a (some p) _ hd]; exact hw)]
      refine .inl ?_
      unfold Oper.wp
      rw [execOp_put o hsel a (some p) _ hd, hrun w hS]
      refine (hc w (Below.refl _ _)).mono ?_
      rintro e w2 ⟨v, rfl, hb2, hw2⟩
      refine ⟨grow_to hS hb2, ?_⟩
      rw [Act.put_comm a _ v hd2]
      have e : (setL L ia).setIfInBounds j true = setL (setL L j) ia := Array.setIfInBounds_comm _ _ (Ne.symm hne)
      rw [e]
      exact (ih v o).1 w2 b (grow_to hS hb2) hw2 hb ((hb2.block b (Array.getElem?_eq_some_iff.1 hO).1).trans hO)
    refine ⟨fun w b hS hW hb hO => ?_, fun w hS hW => ?_⟩
    · rw [show ((true, i) :: σ).length + m = σ.length + m + 1 by simp; omega]
      exact A w b hS hW hb hO
    · rw [show ((true, i) :: σ).length + m + 1 = σ.length + m + 1 + 1 by simp; omega]
      have two : ∀ j, j = i ∨ j = ia → wpOp P ops Q j (fun a' w' => Below W.heap.size W w' ∧ wpAnyH P .any ops Q (fun w' => Below W.heap.size W w') (σ.length + m + 1) (L.setIfInBounds j true) a' w') a w := by
        rintro j (rfl | rfl)
        · obtain ⟨o, f, args, ho, hw, hrun, hc⟩ := hW
          unfold wpOp
          simp only [ho]
          rw [if_pos hw]
          refine .inl ?_
          unfold Oper.wp
          rw [hrun w hS]
          refine (hc w (Below.refl _ _)).mono ?_
          rintro e w2 ⟨v, rfl, hb2, hw2⟩
          exact ⟨grow_to hS hb2, (ih v o).2 w2 (grow_to hS hb2) hw2⟩
        · have hS' : Below W.heap.size W (w.alloc O) := grow_to hS (grow_alloc w O)
          unfold wpOp
          simp only [hoa]
          rw [if_pos (by simp [Region.wanted, hga])]
          refine .inl ?_
          unfold Oper.wp
          rw [hal a w]
          refine ⟨hS', ?_⟩
          rw [hp]
          exact A (w.alloc O) w.heap.size hS' (hW.grown (grow_alloc w O)) hS.size (heap_alloc_new w O)
      rcases Bool.or_eq_true _ _ ▸ hr with hr | hr
      · exact wpAnyH_all (eq_of_beq hr) (by simp) fun j hj => two j (by simpa using hj)
      · exact wpAnyH_all (eq_of_beq hr) (by simp) fun j hj => two j (by rcases (by simpa using hj : j = ia ∨ j = i) with h | h <;> simp [h])

/-- The tail, in its one order. -/
def Tail (P : Program) (ops : Array Oper) (S : World → Prop) (Q : Exit → Act → World → Prop) : List Nat → Act → World → Prop
  | [], a, w => Q .normal a w
  | i :: τ, a, w => ∃ o, ops[i]? = some o ∧ Region.wanted o (yielded ops a.tmps) = true ∧
      ((∃ v, (execOp a.eval o).run P w = .ok (.value v) w ∧ Tail P ops S Q τ (a.put o.dst v) w) ∨
       (∃ w', (execOp a.eval o).run P w = .ok .skip w' ∧ S w' ∧ Tail P ops S Q τ (a.put o.dst undef) w') ∨
       (∃ v w', (execOp a.eval o).run P w = .ok (.value v) w' ∧ S w' ∧ Tail P ops S Q τ (a.put o.dst v) w'))
def tailB (ops : Array Oper) : List Nat → Array Bool → Bool
  | [], L => Region.ready .any ops L == []
  | i :: τ, L => (Region.ready .any ops L == [i]) && tailB ops τ (setL L i)

theorem tail_any {S : World → Prop} : ∀ (τ : List Nat) (L : Array Bool) (a : Act) (w : World), tailB ops τ L = true → S w → Tail P ops S Q τ a w → wpAnyH P .any ops Q S τ.length L a w
  | [], L, a, w, hB, _, h => wpAnyH_done (by simpa [tailB] using hB) h _
  | i :: τ, L, a, w, hB, hS, h => by
    simp only [tailB, Bool.and_eq_true] at hB
    refine wpAnyH_all (eq_of_beq hB.1) (by simp) fun j hj => ?_
    obtain rfl : j = i := by simpa using hj
    obtain ⟨o, ho, hw, h⟩ := h
    unfold wpOp
    simp only [ho]
    rw [if_pos hw]
    refine .inl ?_
    unfold Oper.wp
    rcases h with ⟨v, hr, h⟩ | ⟨w', hr, hS', h⟩ | ⟨v, w', hr, hS', h⟩
    · rw [hr]; exact ⟨hS, tail_any τ _ _ _ hB.2 hS h⟩
    · rw [hr]; exact ⟨hS', tail_any τ _ _ _ hB.2 hS' h⟩
    · rw [hr]; exact ⟨hS', tail_any τ _ _ _ hB.2 hS' h⟩

/-- **THE REGION.** -/
theorem wp_region_float {id : Nat} {a : Act} {w : World} (hm : P.follows .mixedOrders = true) (hQ : ∀ c a d v w, Q (.panic c) (a.put d v) w → Q (.panic c) a w)
    (ia : Nat) (oa : Oper) (hoa : ops[ia]? = some oa) (p : Tmp) (hp : oa.dst = some p) (hga : oa.guard = none) (O : Obj)
    (hal : ∀ (a : Act) w, (execOp a.eval oa).run P w = .ok (.value (.pointer (some ⟨w.heap.size, 0, none⟩))) (w.alloc O))
    (σ : List (Bool × Nat)) (τ : List Nat)
    (hB : (Region.noSelect ops && floatB ops ia oa σ (Array.replicate ops.size false) && tailB ops τ (setL (lastL σ (Array.replicate ops.size false)) ia) && (ops.size == σ.length + τ.length + 1)) = true)
    (h : Walk P ops (fun w' => Below w.heap.size w w') (fun a' w' => ∀ b, w.heap.size ≤ b → w'.heap[b]? = some O → Below w.heap.size w w' → Tail P ops (fun w' => Below w.heap.size w w') Q τ (a'.put (some p) (.pointer (some ⟨b, 0, none⟩))) w') σ a { w with drawn := w.drawn + 1 }) :
    (Code.region id ops true).wp P Q a w := by
  simp only [Bool.and_eq_true] at hB
  obtain ⟨⟨⟨hs, hf⟩, ht⟩, hz⟩ := hB
  have hz' : ops.size = σ.length + τ.length + 1 := by simpa using hz
  refine wp_region_held (S := fun w' => Below w.heap.size w w') hm ?_
  have := (walk_any (W := w) (Q := Q) (P := P) (ops := ops) hs hQ hoa hp hga hal τ.length σ (Array.replicate ops.size false) a
    (fun a w' b hF hS hb hO => tail_any τ _ _ _ ht hS (hF b hb hO hS)) hf).2 { w with drawn := w.drawn + 1 } ⟨rfl, rfl, rfl, Nat.le_refl _, fun _ _ => rfl⟩ h
  rw [← hz'] at this
  exact this

def chainB (ops : Array Oper) (τ : List Nat) : List (Bool × Nat) → Array Bool → Bool
  | [], L => tailB ops τ L
  | (false, i) :: σ, L => (Region.free .any ops L i) && ((Region.ready .any ops L).contains i) && chainB ops τ σ (setL L i)
  | (true, i) :: σ, L => (Region.ready .any ops L == [i]) && chainB ops τ σ (setL L i)

theorem walk_plain {S : World → Prop} (hSg : ∀ w w', S w → Below w.heap.size w w' → S w') (hs : Region.noSelect ops = true) (hQ : ∀ c a d v w, Q (.panic c) (a.put d v) w → Q (.panic c) a w) (τ : List Nat) :
    ∀ (σ : List (Bool × Nat)) (L : Array Bool) (a : Act) (w : World), chainB ops τ σ L = true → S w →
      Walk P ops S (fun a' w' => S w' → Tail P ops S Q τ a' w') σ a w →
      wpAnyH P .any ops Q S (σ.length + τ.length) L a w
  | [], L, a, w, hB, hS, hW => by
    have := tail_any (Q := Q) (P := P) (S := S) τ L a w hB hS (hW w (Below.refl _ _) hS)
    simpa using this
  | (false, i) :: σ, L, a, w, hB, hS, hW => by
    simp only [chainB, Bool.and_eq_true] at hB
    obtain ⟨⟨hf, hr⟩, hB'⟩ := hB
    obtain ⟨o, v, ho, hy, hw⟩ := hW
    have ih := walk_plain hSg hs hQ τ σ (setL L i) (a.put o.dst v) w hB' hS hw
    have := wpAnyH_take (md := .any) (Q := Q) (S := S) (fuel := σ.length + τ.length) (listed := L) (w := w) ho hs hf hr (fun c a w h => hQ c a _ _ w h) hy hS ih
    rw [show ((false, i) :: σ).length + τ.length = σ.length + τ.length + 1 by simp; omega]
    exact this
  | (true, i) :: σ, L, a, w, hB, hS, hW => by
    simp only [chainB, Bool.and_eq_true] at hB
    obtain ⟨hr, hB'⟩ := hB
    obtain ⟨o, f, args, ho, hw, hrun, hc⟩ := hW
    rw [show ((true, i) :: σ).length + τ.length = σ.length + τ.length + 1 by simp; omega]
    refine wpAnyH_all (eq_of_beq hr) (by simp) fun j hj => ?_
    obtain rfl : j = i := by simpa using hj
    unfold wpOp
    simp only [ho]
    rw [if_pos hw]
    refine .inl ?_
    unfold Oper.wp
    rw [hrun w hS]
    refine (hc w (Below.refl _ _)).mono ?_
    rintro e w2 ⟨v, rfl, hb2, hw2⟩
    exact ⟨hSg _ _ hS hb2, walk_plain hSg hs hQ τ σ (setL L j) (a.put o.dst v) w2 hB' (hSg _ _ hS hb2) hw2⟩

/-- **THE REGION WITHOUT A FLOATING BLOCK.** -/
theorem wp_region_chain (S : World → Prop) {id : Nat} {a : Act} {w : World} (hSg : ∀ w w', S w → Below w.heap.size w w' → S w') (hS0 : S { w with drawn := w.drawn + 1 }) (hm : P.follows .mixedOrders = true) (hQ : ∀ c a d v w, Q (.panic c) (a.put d v) w → Q (.panic c) a w)
    (σ : List (Bool × Nat)) (τ : List Nat)
    (hB : (Region.noSelect ops && chainB ops τ σ (Array.replicate ops.size false) && (ops.size == σ.length + τ.length)) = true)
    (h : Walk P ops S (fun a' w' => S w' → Tail P ops S Q τ a' w') σ a { w with drawn := w.drawn + 1 }) :
    (Code.region id ops true).wp P Q a w := by
  simp only [Bool.and_eq_true] at hB
  obtain ⟨⟨hs, hf⟩, hz⟩ := hB
  have hz' : ops.size = σ.length + τ.length := by simpa using hz
  refine wp_region_held (S := S) hm ?_
  have := walk_plain (Q := Q) (P := P) (ops := ops) hSg hs hQ τ σ (Array.replicate ops.size false) a { w with drawn := w.drawn + 1 } hf hS0 h
  rw [← hz'] at this
  exact this

theorem Tail.skip {S : World → Prop} {τ : List Nat} {a : Act} {w w' : World} {i : Nat} {o : Oper} (ho : ops[i]? = some o) (hw : Region.wanted o (yielded ops a.tmps) = true)
    (hr : (execOp a.eval o).run P w = .ok .skip w') (hS : S w') (h : Tail P ops S Q τ (a.put o.dst undef) w') : Tail P ops S Q (i :: τ) a w := ⟨o, ho, hw, .inr (.inl ⟨w', hr, hS, h⟩)⟩
theorem Tail.value {S : World → Prop} {τ : List Nat} {a : Act} {w : World} {i : Nat} {o : Oper} {v : Value} (ho : ops[i]? = some o) (hw : Region.wanted o (yielded ops a.tmps) = true)
    (hr : (execOp a.eval o).run P w = .ok (.value v) w) (h : Tail P ops S Q τ (a.put o.dst v) w) : Tail P ops S Q (i :: τ) a w := ⟨o, ho, hw, .inl ⟨v, hr, h⟩⟩
theorem Tail.grows {S : World → Prop} {τ : List Nat} {a : Act} {w w' : World} {i : Nat} {o : Oper} {v : Value} (ho : ops[i]? = some o) (hw : Region.wanted o (yielded ops a.tmps) = true)
    (hr : (execOp a.eval o).run P w = .ok (.value v) w') (hS : S w') (h : Tail P ops S Q τ (a.put o.dst v) w') : Tail P ops S Q (i :: τ) a w := ⟨o, ho, hw, .inr (.inr ⟨v, w', hr, hS, h⟩)⟩
theorem Tail.done {S : World → Prop} {a : Act} {w : World} (h : Q .normal a w) : Tail P ops S Q [] a w := h

/-- A row or a struct is loaded, is stored. -/
theorem exec_load_row {a : Act} {o : Oper} {w : World} (ty : TypeId) (x : Operand) (ho : o.op = .load ty x) (b off : Nat) (hx : a.eval x = .pointer (some ⟨b, off, none⟩)) (cs : List Value) (d : TypeDesc)
    (hc : w.rangeAt b off cs) (hu : P.underlying ty = some d) (hd : d.isRow = true) (hi : (P.info? ty).map (·.size) = some cs.length) (A : Array Value) (hA : cs.toArray = A) :
    (execOp a.eval o).run P w = .ok (.value (.agg A)) w := by
  subst hA
  unfold execOp
  simp only [ho, hx, Instr.loadAt, Instr.sureAddr, Sem.run_bind, Sem.run_pure, Result.andThen_ok, run_loadVar_mid w b off ty cs d hc hu hd hi]
theorem exec_store_row {a : Act} {o : Oper} {w : World} (ty : TypeId) (x y : Operand) (ho : o.op = .store ty x y) (b off : Nat) (cells : Array Value) (hx : a.eval x = .pointer (some ⟨b, off, none⟩)) (hy : a.eval y = .agg cells)
    (ht : w.there b off cells.size) (hi : (P.info? ty).map (·.size) = some cells.size) (h1 : cells.all (·.oneCell') = true) :
    (execOp a.eval o).run P w = .ok .skip (w.setCells b off cells.toList) := by
  unfold execOp
  simp only [ho, hx, hy, Instr.storeAt, Instr.sureAddr, Sem.run_bind, Sem.run_pure, Result.andThen_ok, run_storeVar_mid w b off ty cells ht hi h1]

end
end Go.Proofs.Ytpdkgnfblnblbaa
