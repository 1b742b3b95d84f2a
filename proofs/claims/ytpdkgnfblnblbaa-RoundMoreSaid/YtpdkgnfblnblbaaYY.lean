/- A region that draws its order, of reads, calls and acts in a chain, and several new blocks that float, each up to where it is used: one walk in a given order serves every order. No condition. -/
import Derived.Test.YtpdkgnfblnblbaaR
namespace Go.Proofs.Ytpdkgnfblnblbaa
open Go.RowKit

/-- An operation that makes one new block, at any time: its place, its slot, its block, its value by the block's number. -/
structure Ent where
  i : Nat
  p : Tmp
  O : Obj
  V : Nat → Value

inductive Stp where
  | take (i : Nat)
  | float (i : Nat)
  | act (i : Nat)
  | call (i : Nat)
  | join

section
variable {P : Program} {ops : Array Oper} {Q : Exit → Act → World → Prop} {S : World → Prop}

/-- What a step of the chain may do: it leaves all that isn't its own as it was, and what becomes its own is new. -/
structure Kept (Own Own' : Nat → Prop) (w1 w2 : World) : Prop where
  size : w1.heap.size ≤ w2.heap.size
  block : ∀ k, k < w1.heap.size → ¬ Own' k → w2.heap[k]? = w1.heap[k]?
  own : ∀ k, Own' k → (Own k ∨ w1.heap.size ≤ k) ∧ k < w2.heap.size
theorem Kept.below {Own : Nat → Prop} {w1 w2 : World} (h : Below w1.heap.size w1 w2) (ho : ∀ k, Own k → k < w1.heap.size) : Kept Own Own w1 w2 :=
  ⟨h.size, fun k hk _ => h.block k hk, fun k hk => ⟨.inl hk, Nat.lt_of_lt_of_le (ho k hk) h.size⟩⟩

/-- The walk in the given order. -/
def GWalk (P : Program) (ops : Array Oper) (S : World → Prop) (B : Nat) (Fin : (Nat → Prop) → Act → World → Prop) : List Stp → List Ent → (Nat → Prop) → Act → World → Prop
  | [], E, Own, a, w => E = [] ∧ ∀ w1, Below w.heap.size w w1 → Fin Own a w1
  | .take i :: σ, E, Own, a, w => ∃ o v, ops[i]? = some o ∧ YieldsIf P ops S o v a ∧ GWalk P ops S B Fin σ E Own (a.put o.dst v) w
  | .float i :: σ, E, Own, a, w => ∃ o p O V, ops[i]? = some o ∧ o.dst = some p ∧ o.guard = none ∧ (∀ w1, (execOp a.eval o).run P w1 = .ok (.value (V w1.heap.size)) (w1.alloc O)) ∧
      GWalk P ops S B Fin σ (E ++ [⟨i, p, O, V⟩]) Own a w
  | .act i :: σ, E, Own, a, w => ∃ o, ops[i]? = some o ∧ Region.wanted o (yielded ops a.tmps) = true ∧
      ∀ w1, Below w.heap.size w w1 → S w1 → (∀ k, Own k → k < w1.heap.size) → ∃ v w2 Own', (execOp a.eval o).run P w1 = .ok (.value v) w2 ∧ S w2 ∧ Kept Own Own' w1 w2 ∧ GWalk P ops S B Fin σ E Own' (a.put o.dst v) w2
  | .call i :: σ, E, Own, a, w => ∃ o, ops[i]? = some o ∧ Region.wanted o (yielded ops a.tmps) = true ∧
      ∀ w1, Below w.heap.size w w1 → S w1 → (∀ k, Own k → k < w1.heap.size) → ∃ f args, (execOp a.eval o).run P w1 = .ok (.enter f args) w1 ∧
        Calls P f args w1 fun e w2 => ∃ v Own', e = .returned v ∧ S w2 ∧ Kept Own Own' w1 w2 ∧ GWalk P ops S B Fin σ E Own' (a.put o.dst v) w2
  | .join :: _, [], _, _, _ => False
  | .join :: σ, e :: E, Own, a, w => ∀ w1 b, Below w.heap.size w w1 → B ≤ b → b < w1.heap.size → ¬ Own b → w1.heap[b]? = some e.O → GWalk P ops S B Fin σ E Own (a.put (some e.p) (e.V b)) w1

theorem GWalk.grown {B : Nat} {Fin : (Nat → Prop) → Act → World → Prop} : ∀ {σ : List Stp} {E : List Ent} {Own : Nat → Prop} {a : Act} {w w1 : World}, GWalk P ops S B Fin σ E Own a w → Below w.heap.size w w1 → GWalk P ops S B Fin σ E Own a w1
  | [], _, _, _, _, _, h, hb => ⟨h.1, fun w2 h2 => h.2 w2 (grow_to hb h2)⟩
  | .take _ :: _, _, _, _, _, _, ⟨o, v, ho, hy, h⟩, hb => ⟨o, v, ho, hy, GWalk.grown h hb⟩
  | .float _ :: _, _, _, _, _, _, ⟨o, p, O, V, h1, h2, h3, h4, h⟩, hb => ⟨o, p, O, V, h1, h2, h3, h4, GWalk.grown h hb⟩
  | .act _ :: _, _, _, _, _, _, ⟨o, h1, h2, h⟩, hb => ⟨o, h1, h2, fun w2 hw => h w2 (grow_to hb hw)⟩
  | .call _ :: _, _, _, _, _, _, ⟨o, h1, h2, h⟩, hb => ⟨o, h1, h2, fun w2 hw => h w2 (grow_to hb hw)⟩
  | .join :: _, [], _, _, _, _, h, _ => h
  | .join :: _, _ :: _, _, _, _, _, h, hb => fun w2 b hw => h w2 b (grow_to hb hw)

/-- What is asked of the region: a Bool. -/
def subsL : List Nat → List (List Nat)
  | [] => [[]]
  | x :: l => subsL l ++ (subsL l).map (x :: ·)
def markL (L : Array Bool) (T : List Nat) : Array Bool := T.foldl setL L
def okR (l : List Nat) (p : Nat → Bool) : Bool := !l.isEmpty && l.all p
def aptB (ops : Array Oper) (i j : Nat) : Bool := (i != j) && match ops[i]?, ops[j]? with
  | some o, some o' => o.apart ops o'
  | _, _ => false
def actB (ops : Array Oper) (i : Nat) (Ei : List Nat) (L : Array Bool) : Bool :=
  (subsL Ei).all (fun T => okR (Region.ready .any ops (markL L T)) (fun j => j == i || (Ei.contains j && !T.contains j))) && Ei.all (fun j => aptB ops j i)
def GB (ops : Array Oper) (τ : List Nat) : List Stp → List Nat → Array Bool → Bool
  | [], Ei, L => Ei.isEmpty && tailB ops τ L
  | .take i :: σ, Ei, L => (subsL Ei).all (fun T => Region.free .any ops (markL L T) i && (Region.ready .any ops (markL L T)).contains i) && Ei.all (fun j => aptB ops j i) && GB ops τ σ Ei (setL L i)
  | .float i :: σ, Ei, L => Ei.all (fun j => aptB ops j i) && GB ops τ σ (Ei ++ [i]) L
  | .act i :: σ, Ei, L => actB ops i Ei L && GB ops τ σ Ei (setL L i)
  | .call i :: σ, Ei, L => actB ops i Ei L && GB ops τ σ Ei (setL L i)
  | .join :: _, [], _ => false
  | .join :: σ, j :: Ei, L => (subsL Ei).all (fun T => okR (Region.ready .any ops (markL L T)) (fun k => k == j || (Ei.contains k && !T.contains k))) && GB ops τ σ Ei (setL L j)

def Apt (ops : Array Oper) (i j : Nat) : Prop := i ≠ j ∧ ∃ o o', ops[i]? = some o ∧ ops[j]? = some o' ∧
  (∀ d, o.dst = some d → d ∉ o'.looksAt ops) ∧ (∀ d, o.dst = some d → o'.dst ≠ some d) ∧ (∀ d, o'.dst = some d → d ∉ o.looksAt ops)
theorem aptB_spec {i j : Nat} (h : aptB ops i j = true) : Apt ops i j := by
  simp only [aptB, Bool.and_eq_true, bne_iff_ne] at h
  obtain ⟨h1, h2⟩ := h
  split at h2
  · rename_i o o' h3 h4
    obtain ⟨a, b, c⟩ := Oper.apart_spec h2
    exact ⟨h1, o, o', h3, h4, a, b, c⟩
  · cases h2
theorem Apt.symm {i j : Nat} (h : Apt ops i j) : Apt ops j i := by
  obtain ⟨h1, o, o', h2, h3, a, b, c⟩ := h
  exact ⟨fun e => h1 e.symm, o', o, h3, h2, c, fun d hd hd' => b d hd' hd, a⟩

/-- The floating operations at hand, with the blocks of those that have come up. -/
abbrev Ents := List (Ent × Option Nat)
def tookX (X : Ents) : List Nat := X.filterMap fun x => x.2.map fun _ => x.1.i
def stepA (a : Act) (x : Ent × Option Nat) : Act := match x.2 with
  | some b => a.put (some x.1.p) (x.1.V b)
  | none => a
def stepL (L : Array Bool) (x : Ent × Option Nat) : Array Bool := match x.2 with
  | some _ => setL L x.1.i
  | none => L
def actX (a : Act) (X : Ents) : Act := X.foldl stepA a
def markX (L : Array Bool) (X : Ents) : Array Bool := X.foldl stepL L
def unt (X : Ents) : Nat := (X.filter fun x => x.2.isNone).length
def idX (X : Ents) : List Nat := X.map fun x => x.1.i
def cnt : List Stp → Nat
  | [] => 0
  | .join :: σ => cnt σ
  | _ :: σ => cnt σ + 1

theorem took_subs : ∀ X : Ents, tookX X ∈ subsL (idX X)
  | [] => by simp [tookX, subsL, idX]
  | (e, none) :: X => by
    have := took_subs X
    simp only [tookX, idX, List.filterMap_cons, Option.map_none, List.map_cons, subsL, List.mem_append] at this ⊢
    exact .inl this
  | (e, some b) :: X => by
    have := took_subs X
    simp only [tookX, idX, List.filterMap_cons, Option.map_some, List.map_cons, subsL, List.mem_append, List.mem_map] at this ⊢
    exact .inr ⟨_, this, rfl⟩
theorem markX_eq : ∀ (X : Ents) (L : Array Bool), markX L X = markL L (tookX X)
  | [], _ => rfl
  | (e, none) :: X, L => markX_eq X L
  | (e, some b) :: X, L => markX_eq X (setL L e.i)
theorem setL_comm (L : Array Bool) (i j : Nat) : setL (setL L i) j = setL (setL L j) i := by
  by_cases h : i = j
  · rw [h]
  · exact Array.setIfInBounds_comm _ _ h
theorem markX_set : ∀ (X : Ents) (L : Array Bool) (i : Nat), markX (setL L i) X = setL (markX L X) i
  | [], _, _ => rfl
  | (e, none) :: X, L, i => markX_set X L i
  | (e, some b) :: X, L, i => by
    show markX (setL (setL L i) e.i) X = setL (markX (setL L e.i) X) i
    rw [setL_comm, markX_set X (setL L e.i) i]
theorem markX_app (X Y : Ents) (L : Array Bool) : markX L (X ++ Y) = markX (markX L X) Y := by simp [markX, List.foldl_append]
theorem actX_app (X Y : Ents) (a : Act) : actX a (X ++ Y) = actX (actX a X) Y := by simp [actX, List.foldl_append]
theorem actX_put : ∀ (X : Ents) (a : Act) (d : Option Tmp) (v : Value), (∀ x ∈ X, d ≠ some x.1.p) → actX (a.put d v) X = (actX a X).put d v
  | [], _, _, _, _ => rfl
  | (e, none) :: X, a, d, v, h => actX_put X a d v fun x hx => h x (by simp [hx])
  | (e, some b) :: X, a, d, v, h => by
    show actX ((a.put d v).put (some e.p) (e.V b)) X = (actX (a.put (some e.p) (e.V b)) X).put d v
    rw [Act.put_comm a v (e.V b) (fun t ht ht' => h (e, some b) (by simp) (ht.trans ht'.symm)), actX_put X _ d v fun x hx => h x (by simp [hx])]
theorem actX_exec (hs : Region.noSelect ops = true) {i : Nat} {o : Oper} (ho : ops[i]? = some o) : ∀ (X : Ents) (a : Act), (∀ x ∈ X, x.1.p ∉ o.looksAt ops) →
    execOp (actX a X).eval o = execOp a.eval o ∧ Region.wanted o (yielded ops (actX a X).tmps) = Region.wanted o (yielded ops a.tmps)
  | [], _, _ => ⟨rfl, rfl⟩
  | (e, none) :: X, a, h => actX_exec hs ho X a fun x hx => h x (by simp [hx])
  | (e, some b) :: X, a, h => by
    have hd : ∀ d, (some e.p : Option Tmp) = some d → d ∉ o.looksAt ops := fun d hd => by
      cases hd
      exact h (e, some b) (by simp)
    obtain ⟨h1, h2⟩ := actX_exec hs ho X (a.put (some e.p) (e.V b)) fun x hx => h x (by simp [hx])
    exact ⟨h1.trans (execOp_put o (fun cs b => Region.noSelect_spec hs i o cs b ho) a _ _ hd), h2.trans (wanted_put o a _ _ hd)⟩

/-- What is known of the floating operations. -/
structure EntOK (P : Program) (ops : Array Oper) (a : Act) (e : Ent) : Prop where
  is : ∃ o, ops[e.i]? = some o ∧ o.dst = some e.p ∧ o.guard = none ∧ ∀ w1, (execOp a.eval o).run P w1 = .ok (.value (e.V w1.heap.size)) (w1.alloc e.O)
theorem EntOK.put {a : Act} {e : Ent} (hs : Region.noSelect ops = true) (h : EntOK P ops a e) {i : Nat} {o : Oper} (ho : ops[i]? = some o) (hap : Apt ops e.i i) (v : Value) : EntOK P ops (a.put o.dst v) e := by
  obtain ⟨o', h1, h2, h3, h4⟩ := h
  obtain ⟨-, p, q, hp, hq, a1, a2, a3⟩ := hap
  rw [h1] at hp
  rw [ho] at hq
  cases hp
  cases hq
  exact ⟨o', h1, h2, h3, fun w1 => by rw [execOp_put o' (fun cs b => Region.noSelect_spec hs e.i o' cs b h1) a o.dst v a3]; exact h4 w1⟩
theorem EntOK.off {a : Act} {e : Ent} (h : EntOK P ops a e) {i : Nat} {o : Oper} (ho : ops[i]? = some o) (hap : Apt ops e.i i) : e.p ∉ o.looksAt ops ∧ o.dst ≠ some e.p := by
  obtain ⟨o', h1, h2, h3, h4⟩ := h
  obtain ⟨-, p, q, hp, hq, a1, a2, a3⟩ := hap
  rw [h1] at hp
  rw [ho] at hq
  cases hp
  cases hq
  exact ⟨a1 _ h2, a2 _ h2⟩

def InvX (B : Nat) (Own : Nat → Prop) (X : Ents) (w : World) : Prop := ∀ x ∈ X, ∀ b, x.2 = some b → B ≤ b ∧ b < w.heap.size ∧ w.heap[b]? = some x.1.O ∧ ¬ Own b

theorem unt_mid (X1 X2 : Ents) (e : Ent) (b : Nat) : unt (X1 ++ (e, none) :: X2) = unt (X1 ++ (e, some b) :: X2) + 1 := by
  simp [unt, List.filter_append]
  omega

/-- One floating operation comes up. -/
theorem run_float {B : Nat} {L : Array Bool} {a : Act} {w : World} {F : Nat} (hSg : ∀ w w', S w → Below w.heap.size w w' → S w') (hs : Region.noSelect ops = true) {X1 X2 : Ents} {e : Ent}
    (hE : EntOK P ops a e) (hap : ∀ x ∈ X1 ++ X2, Apt ops x.1.i e.i) (hEx : ∀ x ∈ X1 ++ X2, EntOK P ops a x.1) (hS : S w)
    (h : wpAnyH P .any ops Q S F (markX L (X1 ++ (e, some w.heap.size) :: X2)) (actX a (X1 ++ (e, some w.heap.size) :: X2)) (w.alloc e.O)) :
    wpOp P ops Q e.i (fun a' w' => S w' ∧ wpAnyH P .any ops Q S F ((markX L (X1 ++ (e, none) :: X2)).setIfInBounds e.i true) a' w') (actX a (X1 ++ (e, none) :: X2)) w := by
  obtain ⟨o, h1, h2, h3, h4⟩ := hE
  have hoff : ∀ x ∈ X1 ++ (e, none) :: X2, x.1.p ∉ o.looksAt ops ∨ x = (e, none) := fun x hx => by
    rcases List.mem_append.1 hx with hx | hx
    · exact .inl ((hEx x (by simp [hx])).off h1 (hap x (by simp [hx]))).1
    · rcases List.mem_cons.1 hx with rfl | hx
      · exact .inr rfl
      · exact .inl ((hEx x (by simp [hx])).off h1 (hap x (by simp [hx]))).1
  have e1 : actX a (X1 ++ (e, none) :: X2) = actX a (X1 ++ X2) := by
    rw [actX_app, actX_app]
    rfl
  have hex := actX_exec hs h1 (X1 ++ X2) a fun x hx => ((hEx x hx).off h1 (hap x hx)).1
  unfold wpOp
  simp only [h1]
  rw [if_pos (by simp [Region.wanted, h3])]
  refine .inl ?_
  unfold Oper.wp
  rw [e1, hex.1, h4 w]
  refine ⟨hSg _ _ hS (grow_alloc w e.O), ?_⟩
  have e2 : (markX L (X1 ++ (e, none) :: X2)).setIfInBounds e.i true = markX L (X1 ++ (e, some w.heap.size) :: X2) := by
    rw [markX_app, markX_app]
    show setL (markX (markX L X1) X2) e.i = markX (setL (markX L X1) e.i) X2
    rw [markX_set]
  have e3 : (actX a (X1 ++ X2)).put o.dst (e.V w.heap.size) = actX a (X1 ++ (e, some w.heap.size) :: X2) := by
    rw [actX_app, actX_app, h2]
    show (actX (actX a X1) X2).put (some e.p) (e.V w.heap.size) = actX ((actX a X1).put (some e.p) (e.V w.heap.size)) X2
    rw [actX_put]
    intro x hx
    obtain ⟨-, p, q, hp, hq, a1, a2, a3⟩ := hap x (by simp [hx])
    obtain ⟨o', g1, g2, -⟩ := hEx x (by simp [hx])
    rw [g1] at hp
    rw [h1] at hq
    cases hp
    cases hq
    exact fun hh => a2 _ g2 (h2.trans hh)
  rw [e2, e3]
  exact h

theorem mid_of {X : Ents} {j : Nat} (h1 : j ∈ idX X) (h2 : j ∉ tookX X) : ∃ X1 X2 e, X = X1 ++ (e, none) :: X2 ∧ e.i = j := by
  obtain ⟨⟨e, tb⟩, hx, rfl⟩ := List.mem_map.1 h1
  cases tb with
  | some b => exact absurd (show e.i ∈ X.filterMap (fun x => x.2.map fun _ => x.1.i) from List.mem_filterMap.2 ⟨(e, some b), hx, rfl⟩) h2
  | none =>
    obtain ⟨X1, X2, rfl⟩ := List.append_of_mem hx
    exact ⟨X1, X2, e, rfl, rfl⟩

theorem InvX.float {B : Nat} {Own : Nat → Prop} {X1 X2 : Ents} {e : Ent} {w : World} (h : InvX B Own (X1 ++ (e, none) :: X2) w) (hB : B ≤ w.heap.size) (hO : ∀ k, Own k → k < w.heap.size) : InvX B Own (X1 ++ (e, some w.heap.size) :: X2) (w.alloc e.O) := by
  intro x hx b hb
  have old : ∀ x ∈ X1 ++ (e, none) :: X2, ∀ b, x.2 = some b → B ≤ b ∧ b < (w.alloc e.O).heap.size ∧ (w.alloc e.O).heap[b]? = some x.1.O ∧ ¬ Own b := fun x hx b hb => by
    obtain ⟨h1, h2, h3, h4⟩ := h x hx b hb
    exact ⟨h1, by simp; omega, ((grow_alloc w e.O).block b h2).trans h3, h4⟩
  rcases List.mem_append.1 hx with hx | hx
  · exact old x (by simp [hx]) b hb
  · rcases List.mem_cons.1 hx with rfl | hx
    · cases hb
      exact ⟨hB, by simp, heap_alloc_new w e.O, fun ho => Nat.lt_irrefl _ (hO _ ho)⟩
    · exact old x (by simp [hx]) b hb
theorem InvX.kept {B : Nat} {Own Own' : Nat → Prop} {X : Ents} {w w' : World} (h : InvX B Own X w) (hk : Kept Own Own' w w') : InvX B Own' X w' := by
  intro x hx b hb
  obtain ⟨h1, h2, h3, h4⟩ := h x hx b hb
  have hn : ¬ Own' b := fun ho => by
    rcases (hk.own b ho).1 with h | h
    · exact h4 h
    · omega
  exact ⟨h1, Nat.lt_of_lt_of_le h2 hk.size, (hk.block b h2 hn).trans h3, hn⟩

theorem gwalk_any {B : Nat} (hSg : ∀ w w', S w → Below w.heap.size w w' → S w') (hs : Region.noSelect ops = true) (hQ : ∀ c a d v w, Q (.panic c) (a.put d v) w → Q (.panic c) a w) (τ : List Nat) :
    ∀ (N : Nat) (σ : List Stp) (X : Ents) (Own : Nat → Prop) (L : Array Bool) (a : Act) (w : World), 2 * σ.length + unt X ≤ N → GB ops τ σ (idX X) L = true → S w → B ≤ w.heap.size → (∀ k, Own k → k < w.heap.size) →
      (∀ x ∈ X, EntOK P ops a x.1) → (idX X).Pairwise (Apt ops) → InvX B Own X w →
      GWalk P ops S B (fun _ a' w' => S w' → Tail P ops S Q τ a' w') σ (X.map (·.1)) Own a w →
      wpAnyH P .any ops Q S (cnt σ + unt X + τ.length) (markX L X) (actX a X) w := by
  intro N
  induction N with
  | zero =>
    intro σ X Own L a w hN hB hS _ _ _ _ _ hW
    obtain rfl : σ = [] := List.eq_nil_of_length_eq_zero (by omega)
    simp only [GB, Bool.and_eq_true, List.isEmpty_iff] at hB
    obtain rfl : X = [] := List.map_eq_nil_iff.1 hB.1
    have := tail_any (Q := Q) (P := P) (S := S) τ L a w hB.2 hS (hW.2 w (Below.refl _ _) hS)
    simpa [cnt, unt, markX, actX] using this
  | succ N ih =>
    intro σ X Own L a w hN hB hS hBw hO hX hpw hI hW
    -- a floating operation comes up
    have float : ∀ (σ' : List Stp) (j : Nat), σ' = σ → j ∈ idX X → j ∉ tookX X → ∀ F, F + 1 = cnt σ + unt X + τ.length →
        wpOp P ops Q j (fun a' w' => S w' ∧ wpAnyH P .any ops Q S F ((markX L X).setIfInBounds j true) a' w') (actX a X) w := by
      rintro σ' j rfl hj1 hj2 F hF
      obtain ⟨X1, X2, e, rfl, rfl⟩ := mid_of hj1 hj2
      have hid : idX (X1 ++ (e, none) :: X2) = idX (X1 ++ (e, some w.heap.size) :: X2) := by simp [idX]
      have hmp : (X1 ++ (e, (none : Option Nat)) :: X2).map (·.1) = (X1 ++ (e, some w.heap.size) :: X2).map (·.1) := by simp
      have hu := unt_mid X1 X2 e w.heap.size
      have hap : ∀ x ∈ X1 ++ X2, Apt ops x.1.i e.i := fun x hx => by
        simp only [idX, List.map_append, List.map_cons, List.pairwise_append, List.pairwise_cons] at hpw
        rcases List.mem_append.1 hx with hx | hx
        · exact hpw.2.2 _ (List.mem_map.2 ⟨x, hx, rfl⟩) _ (by simp)
        · exact (hpw.2.1.1 _ (List.mem_map.2 ⟨x, hx, rfl⟩)).symm
      refine run_float (B := B) hSg hs (hX (e, none) (by simp)) hap (fun x hx => hX x (by rcases List.mem_append.1 hx with h | h <;> simp [h])) hS ?_
      rw [show F = cnt σ' + unt (X1 ++ (e, some w.heap.size) :: X2) + τ.length by omega]
      refine ih σ' _ Own L a (w.alloc e.O) (by omega) (by rw [← hid]; exact hB) (hSg _ _ hS (grow_alloc w e.O)) (by simp; omega) (fun k hk => by have := hO k hk; simp; omega) ?_ (by rw [← hid]; exact hpw) (hI.float hBw hO) ?_
      · intro x hx
        rcases List.mem_append.1 hx with h | h
        · exact hX x (by simp [h])
        · rcases List.mem_cons.1 h with rfl | h
          · exact hX (e, none) (by simp)
          · exact hX x (by simp [h])
      · rw [← hmp]
        exact hW.grown (grow_alloc w e.O)
    match σ, hN, hB, hW, float with
    | [], hN, hB, hW, _ =>
      simp only [GB, Bool.and_eq_true, List.isEmpty_iff] at hB
      obtain rfl : X = [] := List.map_eq_nil_iff.1 hB.1
      have := tail_any (Q := Q) (P := P) (S := S) τ L a w hB.2 hS (hW.2 w (Below.refl _ _) hS)
      simpa [cnt, unt, markX, actX] using this
    | .take i :: σ, hN, hB, hW, _ =>
      simp only [GB, Bool.and_eq_true] at hB
      obtain ⟨⟨h1, h2⟩, h3⟩ := hB
      obtain ⟨o, v, ho, hy, hw⟩ := hW
      have hT := List.all_eq_true.1 h1 _ (took_subs X)
      rw [← markX_eq, Bool.and_eq_true] at hT
      have hap : ∀ x ∈ X, Apt ops x.1.i i := fun x hx => aptB_spec (List.all_eq_true.1 h2 _ (List.mem_map.2 ⟨x, hx, rfl⟩))
      have hex := actX_exec hs ho X a fun x hx => ((hX x hx).off ho (hap x hx)).1
      have ih' := ih σ X Own (setL L i) (a.put o.dst v) w (by simp at hN; omega) h3 hS hBw hO (fun x hx => (hX x hx).put hs ho (hap x hx) v) hpw hI hw
      rw [markX_set, actX_put X a o.dst v (fun x hx => ((hX x hx).off ho (hap x hx)).2)] at ih'
      have := wpAnyH_take (md := .any) (Q := Q) (S := S) (fuel := cnt σ + unt X + τ.length) (listed := markX L X) (w := w) ho hs hT.1 hT.2 (fun c a w h => hQ c a _ _ w h) (hy.of_same hex.1 hex.2) hS ih'
      rw [show cnt (.take i :: σ) + unt X + τ.length = cnt σ + unt X + τ.length + 1 by simp [cnt]; omega]
      exact this
    | .float i :: σ, hN, hB, hW, _ =>
      simp only [GB, Bool.and_eq_true] at hB
      obtain ⟨h2, h3⟩ := hB
      obtain ⟨o, p, O, V, g1, g2, g3, g4, hw⟩ := hW
      have hap : ∀ x ∈ X, Apt ops x.1.i i := fun x hx => aptB_spec (List.all_eq_true.1 h2 _ (List.mem_map.2 ⟨x, hx, rfl⟩))
      have hu : unt (X ++ [(⟨i, p, O, V⟩, none)]) = unt X + 1 := by simp [unt, List.filter_append]
      have ih' := ih σ (X ++ [(⟨i, p, O, V⟩, none)]) Own L a w (by simp at hN; omega) (by simpa [idX] using h3) hS hBw hO (fun x hx => by
        rcases List.mem_append.1 hx with h | h
        · exact hX x h
        · obtain rfl : x = _ := by simpa using h
          exact ⟨o, g1, g2, g3, g4⟩) (by
        rw [idX, List.map_append, List.pairwise_append]
        refine ⟨hpw, by simp, fun y hy z hz => ?_⟩
        obtain ⟨x, hx, rfl⟩ := List.mem_map.1 hy
        obtain rfl : z = i := by simpa using hz
        exact hap x hx) (fun x hx b hb => by
        rcases List.mem_append.1 hx with h | h
        · exact hI x h b hb
        · obtain rfl : x = _ := by simpa using h
          cases hb) (by rw [List.map_append]; exact hw)
      rw [hu, markX_app, actX_app] at ih'
      rw [show cnt (.float i :: σ) + unt X + τ.length = cnt σ + (unt X + 1) + τ.length by simp [cnt]; omega]
      exact ih'
    | .act i :: σ, hN, hB, hW, float =>
      simp only [GB, actB, Bool.and_eq_true] at hB
      obtain ⟨⟨h1, h2⟩, h3⟩ := hB
      obtain ⟨o, ho, hwt, hw⟩ := hW
      have hT := List.all_eq_true.1 h1 _ (took_subs X)
      rw [← markX_eq] at hT
      simp only [okR, Bool.and_eq_true, Bool.not_eq_true', List.isEmpty_eq_false_iff, ne_eq] at hT
      have hap : ∀ x ∈ X, Apt ops x.1.i i := fun x hx => aptB_spec (List.all_eq_true.1 h2 _ (List.mem_map.2 ⟨x, hx, rfl⟩))
      have hex := actX_exec hs ho X a fun x hx => ((hX x hx).off ho (hap x hx)).1
      rw [show cnt (.act i :: σ) + unt X + τ.length = cnt σ + unt X + τ.length + 1 by simp [cnt]; omega]
      refine wpAnyH_all rfl hT.1 fun j hj => ?_
      have hj' := List.all_eq_true.1 hT.2 j hj
      simp only [Bool.or_eq_true, beq_iff_eq, Bool.and_eq_true, Bool.not_eq_true', List.contains_eq_mem, decide_eq_true_eq, decide_eq_false_iff_not] at hj'
      rcases hj' with rfl | ⟨hj1, hj2⟩
      · obtain ⟨v, w2, Own', hr, hS2, hK, hn⟩ := hw w (Below.refl _ _) hS hO
        unfold wpOp
        simp only [ho]
        rw [if_pos (by rw [hex.2]; exact hwt)]
        refine .inl ?_
        unfold Oper.wp
        rw [hex.1, hr]
        refine ⟨hS2, ?_⟩
        have ih' := ih σ X Own' (setL L j) (a.put o.dst v) w2 (by simp at hN; omega) h3 hS2 (Nat.le_trans hBw hK.size) (fun k hk => (hK.own k hk).2) (fun x hx => (hX x hx).put hs ho (hap x hx) v) hpw (hI.kept hK) hn
        rw [markX_set, actX_put X a o.dst v (fun x hx => ((hX x hx).off ho (hap x hx)).2)] at ih'
        exact ih'
      · exact float _ j rfl hj1 hj2 _ (by simp [cnt]; omega)
    | .call i :: σ, hN, hB, hW, float =>
      simp only [GB, actB, Bool.and_eq_true] at hB
      obtain ⟨⟨h1, h2⟩, h3⟩ := hB
      obtain ⟨o, ho, hwt, hw⟩ := hW
      have hT := List.all_eq_true.1 h1 _ (took_subs X)
      rw [← markX_eq] at hT
      simp only [okR, Bool.and_eq_true, Bool.not_eq_true', List.isEmpty_eq_false_iff, ne_eq] at hT
      have hap : ∀ x ∈ X, Apt ops x.1.i i := fun x hx => aptB_spec (List.all_eq_true.1 h2 _ (List.mem_map.2 ⟨x, hx, rfl⟩))
      have hex := actX_exec hs ho X a fun x hx => ((hX x hx).off ho (hap x hx)).1
      rw [show cnt (.call i :: σ) + unt X + τ.length = cnt σ + unt X + τ.length + 1 by simp [cnt]; omega]
      refine wpAnyH_all rfl hT.1 fun j hj => ?_
      have hj' := List.all_eq_true.1 hT.2 j hj
      simp only [Bool.or_eq_true, beq_iff_eq, Bool.and_eq_true, Bool.not_eq_true', List.contains_eq_mem, decide_eq_true_eq, decide_eq_false_iff_not] at hj'
      rcases hj' with rfl | ⟨hj1, hj2⟩
      · obtain ⟨f, args, hr, hc⟩ := hw w (Below.refl _ _) hS hO
        unfold wpOp
        simp only [ho]
        rw [if_pos (by rw [hex.2]; exact hwt)]
        refine .inl ?_
        unfold Oper.wp
        rw [hex.1, hr]
        refine hc.mono ?_
        rintro e w2 ⟨v, Own', rfl, hS2, hK, hn⟩
        refine ⟨hS2, ?_⟩
        have ih' := ih σ X Own' (setL L j) (a.put o.dst v) w2 (by simp at hN; omega) h3 hS2 (Nat.le_trans hBw hK.size) (fun k hk => (hK.own k hk).2) (fun x hx => (hX x hx).put hs ho (hap x hx) v) hpw (hI.kept hK) hn
        rw [markX_set, actX_put X a o.dst v (fun x hx => ((hX x hx).off ho (hap x hx)).2)] at ih'
        exact ih'
      · exact float _ j rfl hj1 hj2 _ (by simp [cnt]; omega)
    | .join :: σ, hN, hB, hW, float =>
      match X, hX, hpw, hI, hW, hB, hN, float with
      | [], _, _, _, hW, _, _, _ => exact hW.elim
      | (e, some b) :: X, hX, hpw, hI, hW, hB, hN, _ =>
        simp only [idX, List.map_cons, GB, Bool.and_eq_true] at hB
        obtain ⟨g1, g2, g3, g4⟩ := hI (e, some b) (by simp) b rfl
        have hn := hW w b (Below.refl _ _) g1 g2 g4 g3
        obtain ⟨o, k1, k2, k3, k4⟩ := hX (e, some b) (by simp)
        have hpw' := List.pairwise_cons.1 (show (e.i :: idX X).Pairwise (Apt ops) from hpw)
        have ih' := ih σ X Own (setL L e.i) (a.put (some e.p) (e.V b)) w (by simp [unt] at hN ⊢; omega) hB.2 hS hBw hO (fun x hx => by
          have := (hX x (by simp [hx])).put hs k1 (hpw'.1 _ (List.mem_map.2 ⟨x, hx, rfl⟩)).symm (e.V b)
          rwa [k2] at this) hpw'.2 (fun x hx => hI x (by simp [hx])) hn
        rw [show cnt (.join :: σ) + unt ((e, some b) :: X) + τ.length = cnt σ + unt X + τ.length by simp [cnt, unt]]
        exact ih'
      | (e, none) :: X, hX, hpw, hI, hW, hB, hN, float =>
        simp only [idX, List.map_cons, GB, Bool.and_eq_true] at hB
        have hT := List.all_eq_true.1 hB.1 _ (took_subs X)
        rw [← markX_eq] at hT
        simp only [okR, Bool.and_eq_true, Bool.not_eq_true', List.isEmpty_eq_false_iff, ne_eq] at hT
        have hpw' := List.pairwise_cons.1 (show (e.i :: idX X).Pairwise (Apt ops) from hpw)
        have hu : unt ((e, none) :: X) = unt X + 1 := by simp [unt]
        have hno : e.i ∉ tookX X := fun h => by
          obtain ⟨x, hx, he⟩ := List.mem_filterMap.1 h
          have hxi : x.1.i = e.i := by
            cases hxb : x.2 with
            | none => simp [hxb] at he
            | some b => simpa [hxb] using he
          exact (hpw'.1 _ (List.mem_map.2 ⟨x, hx, rfl⟩)).1 hxi.symm
        rw [show cnt (.join :: σ) + unt ((e, none) :: X) + τ.length = cnt σ + unt X + τ.length + 1 by rw [hu]; simp [cnt]; omega]
        refine wpAnyH_all rfl hT.1 fun j hj => ?_
        have hj' := List.all_eq_true.1 hT.2 j hj
        simp only [Bool.or_eq_true, beq_iff_eq, Bool.and_eq_true, Bool.not_eq_true', List.contains_eq_mem, decide_eq_true_eq, decide_eq_false_iff_not] at hj'
        have hcase : j ∈ idX ((e, (none : Option Nat)) :: X) ∧ j ∉ tookX ((e, (none : Option Nat)) :: X) := by
          rcases hj' with rfl | ⟨hj1, hj2⟩
          · exact ⟨by simp [idX], by simpa [tookX] using hno⟩
          · exact ⟨by simp only [idX, List.map_cons, List.mem_cons]; exact .inr hj1, by simpa [tookX] using hj2⟩
        exact float _ j rfl hcase.1 hcase.2 _ (by rw [hu]; simp [cnt]; omega)

/-- **THE REGION WITH SEVERAL FLOATING BLOCKS.** -/
theorem wp_region_acts (S : World → Prop) {id : Nat} {a : Act} {w : World} (hSg : ∀ w w', S w → Below w.heap.size w w' → S w') (hS0 : S { w with drawn := w.drawn + 1 }) (hm : P.follows .mixedOrders = true) (hQ : ∀ c a d v w, Q (.panic c) (a.put d v) w → Q (.panic c) a w)
    (σ : List Stp) (τ : List Nat)
    (hB : (Region.noSelect ops && GB ops τ σ [] (Array.replicate ops.size false) && (ops.size == cnt σ + τ.length)) = true)
    (h : GWalk P ops S w.heap.size (fun _ a' w' => S w' → Tail P ops S Q τ a' w') σ [] (fun _ => False) a { w with drawn := w.drawn + 1 }) :
    (Code.region id ops true).wp P Q a w := by
  simp only [Bool.and_eq_true] at hB
  obtain ⟨⟨hs, hf⟩, hz⟩ := hB
  have hz' : ops.size = cnt σ + τ.length := by simpa using hz
  refine wp_region_held (S := S) hm ?_
  have := gwalk_any (Q := Q) (P := P) (ops := ops) (B := w.heap.size) hSg hs hQ τ _ σ [] (fun _ => False) (Array.replicate ops.size false) a { w with drawn := w.drawn + 1 } (Nat.le_refl _) hf hS0 (Nat.le_refl _) (fun _ h => h.elim) (fun x hx => by simp at hx) (by simp [idX]) (fun x hx => by simp at hx) h
  rw [show cnt σ + unt [] + τ.length = ops.size by simp [unt]; omega] at this
  exact this

theorem GWalk.takes {B : Nat} {Fin : (Nat → Prop) → Act → World → Prop} {σ : List Stp} {E : List Ent} {Own : Nat → Prop} {a : Act} {w : World} {i : Nat} {o : Oper} (ho : ops[i]? = some o) (hw : Region.wanted o (yielded ops a.tmps) = true)
    (h : ∃ v, (∀ w1, S w1 → (execOp a.eval o).run P w1 = .ok (.value v) w1) ∧ GWalk P ops S B Fin σ E Own (a.put o.dst v) w) : GWalk P ops S B Fin (.take i :: σ) E Own a w :=
  let ⟨v, hy, hn⟩ := h; ⟨o, v, ho, .inl ⟨hw, hy⟩, hn⟩
theorem GWalk.floats {B : Nat} {Fin : (Nat → Prop) → Act → World → Prop} {σ : List Stp} {E : List Ent} {Own : Nat → Prop} {a : Act} {w : World} {i : Nat} {o : Oper} {p : Tmp} (O : Obj) (V : Nat → Value) (ho : ops[i]? = some o) (hp : o.dst = some p) (hg : o.guard = none)
    (hr : ∀ w1, (execOp a.eval o).run P w1 = .ok (.value (V w1.heap.size)) (w1.alloc O)) (h : GWalk P ops S B Fin σ (E ++ [⟨i, p, O, V⟩]) Own a w) : GWalk P ops S B Fin (.float i :: σ) E Own a w := ⟨o, p, O, V, ho, hp, hg, hr, h⟩
theorem GWalk.acts {B : Nat} {Fin : (Nat → Prop) → Act → World → Prop} {σ : List Stp} {E : List Ent} {Own : Nat → Prop} {a : Act} {w : World} {i : Nat} {o : Oper} (ho : ops[i]? = some o) (hw : Region.wanted o (yielded ops a.tmps) = true)
    (h : ∀ w1, Below w.heap.size w w1 → S w1 → (∀ k, Own k → k < w1.heap.size) → ∃ v w2 Own', (execOp a.eval o).run P w1 = .ok (.value v) w2 ∧ S w2 ∧ Kept Own Own' w1 w2 ∧ GWalk P ops S B Fin σ E Own' (a.put o.dst v) w2) : GWalk P ops S B Fin (.act i :: σ) E Own a w := ⟨o, ho, hw, h⟩
theorem GWalk.calls {B : Nat} {Fin : (Nat → Prop) → Act → World → Prop} {σ : List Stp} {E : List Ent} {Own : Nat → Prop} {a : Act} {w : World} {i : Nat} {o : Oper} (ho : ops[i]? = some o) (hw : Region.wanted o (yielded ops a.tmps) = true)
    (h : ∃ f args, (∀ w1, S w1 → (execOp a.eval o).run P w1 = .ok (.enter f args) w1) ∧ ∀ w1, Below w.heap.size w w1 → S w1 → (∀ k, Own k → k < w1.heap.size) → Calls P f args w1 fun e w2 => ∃ v, e = .returned v ∧ Below w1.heap.size w1 w2 ∧ S w2 ∧ GWalk P ops S B Fin σ E Own (a.put o.dst v) w2) : GWalk P ops S B Fin (.call i :: σ) E Own a w :=
  let ⟨f, args, hr, hn⟩ := h
  ⟨o, ho, hw, fun w1 hb hS hO => ⟨f, args, hr w1 hS, (hn w1 hb hS hO).mono fun _ _ ⟨v, he, hb2, hS2, hw2⟩ => ⟨v, Own, he, hS2, Kept.below hb2 hO, hw2⟩⟩⟩
theorem GWalk.joins {B : Nat} {Fin : (Nat → Prop) → Act → World → Prop} {σ : List Stp} {e : Ent} {E : List Ent} {Own : Nat → Prop} {a : Act} {w : World}
    (h : ∀ w1 b, Below w.heap.size w w1 → B ≤ b → b < w1.heap.size → ¬ Own b → w1.heap[b]? = some e.O → GWalk P ops S B Fin σ E Own (a.put (some e.p) (e.V b)) w1) : GWalk P ops S B Fin (.join :: σ) (e :: E) Own a w := h
theorem GWalk.fin {B : Nat} {Fin : (Nat → Prop) → Act → World → Prop} {Own : Nat → Prop} {a : Act} {w : World} (h : ∀ w1, Below w.heap.size w w1 → Fin Own a w1) : GWalk P ops S B Fin [] [] Own a w := ⟨rfl, h⟩
end
end Go.Proofs.Ytpdkgnfblnblbaa
