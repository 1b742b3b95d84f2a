/- Parts of a slice of segments, and a cell that is stored. No condition. -/
import Derived.Test.YtfijaafkagcmmaaF5
import Derived.Test.YtfijaafkagcmmaaR11
namespace Go.Proofs.Ytfijaafkagcmmaa
open Go.RowKit Go.Shelf
attribute [local irreducible] arrV wpQuiet

theorem size84 : ∃ i, Try.prog.info? 84 = some i ∧ i.size = 3 := by
  obtain ⟨i, z, h1, _, h2, _⟩ := el52.i
  exact ⟨i, h1, h2⟩
/-- The address of a part that begins at an element. -/
def lowA (ad : Option Addr) (q c : Nat) : Option Addr := if c = q then ad else ad.map (·.add (q * 3))
theorem exec_slice_hi {a : Act} {o : Oper} {W : World} (x y : Operand) (ho : o.op = .slice 52 x none (some y) none) {ad : Option Addr} {n c q : Nat} {k : Int} (hx : a.eval x = .slice ad n c) (hy : a.eval y = .int .i64 k) (hk : k = (q : Int)) (h : q ≤ c) :
    (execOp a.eval o).run Try.prog W = .ok (.value (.slice ad q c)) W := by
  subst hk
  obtain ⟨i, h1, h2⟩ := size84
  have e0 : ad.map (·.add 0) = ad := by cases ad <;> simp [Addr.add]
  have h3 : (q : Int) ≤ (c : Int) := by omega
  unfold execOp
  simp [ho, hx, hy, Instr.sliceAt, Instr.slice, run_underlying el52.u, Instr.sliceBounds, Instr.sliceBound, asIntOf, sizeOf, typeInfo, h1, h2, h3, h, Result.andThen, e0]
theorem exec_slice_lo {a : Act} {o : Oper} {W : World} (x y : Operand) (ho : o.op = .slice 52 x (some y) none none) {ad : Option Addr} {n c q : Nat} {k : Int} (hx : a.eval x = .slice ad n c) (hy : a.eval y = .int .i64 k) (hk : k = (q : Int)) (h : q ≤ n) :
    (execOp a.eval o).run Try.prog W = .ok (.value (.slice (lowA ad q c) (n - q) (c - q))) W := by
  subst hk
  obtain ⟨i, h1, h2⟩ := size84
  have h3 : (q : Int) ≤ (n : Int) := by omega
  unfold execOp lowA
  simp [ho, hx, hy, Instr.sliceAt, Instr.slice, run_underlying el52.u, Instr.sliceBounds, Instr.sliceBound, asIntOf, sizeOf, typeInfo, h1, h2, h3, h, Result.andThen]
theorem exec_store_one {a : Act} {o : Oper} {W : World} (ty : TypeId) (x y : Operand) (ho : o.op = .store ty x y) {b off : Nat} {ad : Option Addr} {n c : Nat} {u : Value} (hx : a.eval x = .pointer (some ⟨b, off, none⟩)) (hy : a.eval y = .slice ad n c)
    (hc : W.cell? ⟨b, off, none⟩ = some u) (hf : W.frozen? ⟨b, off, none⟩ = false) (hi : (Try.prog.info? ty).map (·.size) = some 1) :
    (execOp a.eval o).run Try.prog W = .ok .skip (W.setCell ⟨b, off, none⟩ (.slice ad n c)) := by
  have hs := run_storeCells_cells (P := Try.prog) b off [.slice ad n c] 0 W (fun j hj => by
    obtain rfl : j = 0 := by simp at hj; exact hj
    simpa using by rw [hc]; rfl) (fun j hj => by
    obtain rfl : j = 0 := by simp at hj; exact hj
    simpa using hf) (fun v hv => by
    simp at hv
    subst hv
    rfl)
  simp only [Nat.add_zero] at hs
  cases hq : Try.prog.info? ty with
  | none => simp [hq] at hi
  | some i =>
    have h1 : i.size = 1 := by simpa [hq] using hi
    unfold execOp
    simp [ho, hx, hy, Instr.storeAt, Instr.sureAddr, storeVar, sizeOf, typeInfo, hq, Value.cells, h1, hs, Result.andThen, World.setCells]
theorem flat_join (L M : List Sg) (s : Sg) : [] ++ flatS L ++ [.int .i64 s.b, .int .i64 s.h.lo, .int .i64 s.h.hi] ++ flatS M = flatS (L ++ [s] ++ M) := by
  simp [flatS]
theorem ins_eq {α : Type} (P D : List α) (r s : α) {i : Nat} (h : P.length = i) : (P ++ [r] ++ D).take i ++ [s] ++ (P ++ [r] ++ D).drop i = P ++ [s] ++ ([r] ++ D) := by
  subst h
  rw [List.append_assoc P [r] D, List.take_left, List.drop_left]
theorem neqr50 (a b : Int) (w : World) : (binOp .neq 50 (.agg #[.int .i64 a, .int .i64 b]) (.agg #[.int .i64 a, .int .i64 b])).run Try.prog w = .ok (.bool false) w := by
  have h : (Op.equal 50 (.agg #[.int .i64 a, .int .i64 b]) (.agg #[.int .i64 a, .int .i64 b])).run Try.prog w = .ok true w := by
    show (Op.equalIn (9999 + 1) 50 _ _).run Try.prog w = _
    rw [run_equalIn_struct w 9999 50 _ _ s50f st50, f50]
    have e : ∀ a b : Int, (Op.equalIn 9999 3 (.int .i64 a) (.int .i64 b)).run Try.prog w = .ok (a == b) w := fun a b => run_equalIn_int w 9998 3 .i64 .i64 a b Try.underlying3
    simp only [fl50, Op.eqFields, Sem.run_bind, Sem.run_ite, part0, part1, Result.andThen_ok, e, Sem.run_pure, show ("Lo" ≠ "_") = True from by simp, show ("Hi" ≠ "_") = True from by simp, if_true]
    simp
  simp [binOp, Sem.run_bind, h, Result.andThen_ok, Sem.run_pure]
theorem mine_empty (W : World) (o : Obj) (k : Nat) (h : (Value.slice (some ⟨W.heap.size, 0, none⟩) 0 0).ownBlock = some k) : Mine (fun _ => False) W (W.alloc o) k := by
  simp [Value.ownBlock] at h
  subst h
  exact .inr ⟨Nat.le_refl _, by simp⟩
theorem own_capd {w : World} {base e sz n : Nat} {v : Value} {xs : List Value} (h : w.ownsRow base e sz v n xs) : ∃ ad c, v = .slice ad n c ∧ n ≤ c := by
  rcases h.2 with ⟨hv, h0⟩ | ⟨g, cap, cur, hv, hb, hg, hn', hc, hs, ht⟩
  · exact ⟨none, 0, by rw [hv, h0], by omega⟩
  · exact ⟨_, cap, hv, hn'⟩
theorem part_hi {N : Nat} {W : World} {ad : Option Addr} {c : Nat} {ss : List Sg} (hP : SegsV N W (.slice ad ss.length c) ss) (m : Nat) (hm : m ≤ ss.length) :
    (ad = none → m = 0) ∧ (0 < m → ∃ b off, ad = some ⟨b, off, none⟩ ∧ ∀ j u, (flatS (ss.take m))[j]? = some u → W.cell? ⟨b, off + j, none⟩ = some u) := by
  have hP' := hP
  obtain ⟨a', c', e, hp⟩ := hP
  cases e
  refine ⟨fun h => ?_, fun h => ?_⟩
  · rcases Nat.eq_zero_or_pos m with h0 | h0
    · exact h0
    · obtain ⟨b, off, e, _⟩ := hp (by omega)
      rw [h] at e
      cases e
  · obtain ⟨b, off, rfl, _⟩ := hp (by omega)
    refine ⟨b, off, rfl, fun j u hj => ?_⟩
    have := segs_part (q := 0) (m := m) hP' (by omega) (by omega) j u (by simpa using hj)
    simpa using this
theorem part_lo {N : Nat} {W : World} {ad : Option Addr} {c : Nat} {ss : List Sg} (hP : SegsV N W (.slice ad ss.length c) ss) (q : Nat) (hq : q ≤ ss.length) (hc : ss.length ≤ c) :
    (lowA ad q c = none → ss.length - q = 0) ∧ (0 < ss.length - q → ∃ b off, lowA ad q c = some ⟨b, off, none⟩ ∧ ∀ j u, (flatS (ss.drop q))[j]? = some u → W.cell? ⟨b, off + j, none⟩ = some u) := by
  have hP' := hP
  obtain ⟨a', c', e, hp⟩ := hP
  cases e
  have key : 0 < ss.length - q → ∃ b off, lowA ad q c = some ⟨b, off, none⟩ ∧ ∀ j u, (flatS (ss.drop q))[j]? = some u → W.cell? ⟨b, off + j, none⟩ = some u := fun h => by
    obtain ⟨b, off, rfl, _⟩ := hp (by omega)
    refine ⟨b, off + q * 3, ?_, fun j u hj => ?_⟩
    · unfold lowA
      rw [if_neg (by omega)]
      simp [Addr.add]
    · exact segs_part (q := q) (m := ss.length - q) hP' (by omega) (by omega) j u (by rw [List.take_of_length_le (by simp)]; exact hj)
  refine ⟨fun h => ?_, key⟩
  rcases Nat.eq_zero_or_pos (ss.length - q) with h0 | h0
  · exact h0
  · obtain ⟨b, off, e, _⟩ := key h0
    rw [h] at e
    cases e
end Go.Proofs.Ytfijaafkagcmmaa
