/- Who is off as the keys of a map: the laws in memory. No condition. -/
import Derived.Test.YtpdkgnfblnblbaaP
import Derived.Laws.StructEq
import Derived.ChangeKeysEq
namespace Go.Proofs.Ytpdkgnfblnblbaa
open Go.RowKit Go.Shelf
attribute [local irreducible] arrV wpQuiet
abbrev K6 := Bool × Bool × Bool × Bool × Bool × Bool
def k6 (o : Nat → Bool) : K6 := (o 0, o 1, o 2, o 3, o 4, o 5)
def ofV (p : K6) : Value := .agg #[.bool p.1, .bool p.2.1, .bool p.2.2.1, .bool p.2.2.2.1, .bool p.2.2.2.2.1, .bool p.2.2.2.2.2]
def yV (n : Bool) : Value := .bool n
theorem ofV_k6 (o : Nat → Bool) : ofV (k6 o) = .agg (offA o) := rfl
theorem k6_ext {o o' : Nat → Bool} (h : k6 o = k6 o') : ∀ i, i < 6 → o i = o' i := by
  simp only [k6, Prod.mk.injEq] at h
  intro i hi
  have h6 : i = 0 ∨ i = 1 ∨ i = 2 ∨ i = 3 ∨ i = 4 ∨ i = 5 := by omega
  rcases h6 with rfl | rfl | rfl | rfl | rfl | rfl
  · exact h.1
  · exact h.2.1
  · exact h.2.2.1
  · exact h.2.2.2.1
  · exact h.2.2.2.2.1
  · exact h.2.2.2.2.2
abbrev MpE := List (K6 × Bool)
def encE (E : MpE) : List (Value × Value) := E.map fun p => (ofV p.1, yV p.2)
def kvE (es : List MapEntry) : List (Value × Value) := es.map fun e => (e.key, e.val)
def fndE (p : K6) : MpE → Nat → Option (Nat × Bool)
  | [], _ => none
  | e :: E, i => if p == e.1 then some (i, e.2) else fndE p E (i + 1)
def findE (p : K6) : MpE → Option Bool
  | [] => none
  | e :: E => if p == e.1 then some e.2 else findE p E
def putE (p : K6) (n : Bool) : MpE → MpE
  | [] => [(p, n)]
  | e :: E => if p == e.1 then (p, n) :: E else e :: putE p n E
theorem fnd_find (p : K6) : ∀ (E : MpE) (i : Nat), (fndE p E i).map (·.2) = findE p E
  | [], _ => rfl
  | e :: E, i => by
    unfold fndE findE
    split
    · rfl
    · exact fnd_find p E (i + 1)
theorem fnd_none (p : K6) (n : Bool) : ∀ (E : MpE) (i : Nat), fndE p E i = none → putE p n E = E ++ [(p, n)]
  | [], _, _ => rfl
  | e :: E, i, h => by
    unfold fndE at h
    unfold putE
    split at h
    · cases h
    · rw [if_neg (by assumption), fnd_none p n E (i + 1) h]
      rfl
theorem fnd_some (p : K6) (n : Bool) : ∀ (E : MpE) (i k : Nat) (v : Bool), fndE p E i = some (k, v) → ∃ j e, k = i + j ∧ j < E.length ∧ E[j]? = some e ∧ p = e.1 ∧ putE p n E = E.set j (p, n)
  | [], _, _, _, h => by cases h
  | e :: E, i, k, v, h => by
    unfold fndE at h
    unfold putE
    split at h
    · rename_i he
      cases h
      exact ⟨0, e, rfl, by simp, rfl, by simpa using he, by rw [if_pos he]; rfl⟩
    · obtain ⟨j, e', rfl, hj, h1, h2, h3⟩ := fnd_some p n E (i + 1) k v h
      exact ⟨j + 1, e', by omega, by simpa using hj, h1, h2, by rw [if_neg (by assumption), h3]; rfl⟩
theorem find_put (p : K6) (n : Bool) (q : K6) : ∀ E : MpE, findE q (putE p n E) = if q = p then some n else findE q E
  | [] => by simp [putE, findE]
  | e :: E => by
    unfold putE
    by_cases he : (p == e.1) = true
    · rw [if_pos he]
      have hp : p = e.1 := by simpa using he
      by_cases hq : q = p
      · rw [if_pos hq, hq]
        simp [findE]
      · rw [if_neg hq]
        have h1 : (q == p) = false := by simpa using hq
        have h2 : (q == e.1) = false := by rw [← hp]; exact h1
        simp [findE, h1, h2]
    · rw [if_neg he]
      unfold findE
      by_cases hq : (q == e.1) = true
      · rw [if_pos hq, if_pos hq]
        have hqe : q = e.1 := by simpa using hq
        have : q ≠ p := fun h => he (by rw [← h]; exact hq)
        rw [if_neg this]
      · rw [if_neg hq, if_neg hq]
        exact find_put p n q E
/-- The block cm is a map that holds E. -/
def MapE (w : World) (cm : Nat) (E : MpE) : Prop := ∃ es clock, w.heap[cm]? = some (.map es clock) ∧ kvE es.toList = encE E

theorem beq_k6 (p q : K6) : (p == q) = (p.1 == q.1 && (p.2.1 == q.2.1 && (p.2.2.1 == q.2.2.1 && (p.2.2.2.1 == q.2.2.2.1 && (p.2.2.2.2.1 == q.2.2.2.2.1 && (p.2.2.2.2.2 == q.2.2.2.2.2)))))) := rfl
theorem u81 : Try.prog.underlying 81 = some (.array 6 4) := by kernel_rfl
theorem u90 : Try.prog.underlying 90 = some (.map 81 4) := by kernel_rfl
theorem c4 : Try.prog.cellsOf 4 = 1 := by kernel_rfl
theorem pk4 : Try.prog.plainKey 4 = true := by kernel_rfl
theorem info4 : ∃ i, Try.prog.info? 4 = some i ∧ i.size = 1 := by
  have h : (Try.prog.info? 4).map (·.size) = some 1 := by kernel_rfl
  cases hi : Try.prog.info? 4 with
  | none => simp [hi] at h
  | some i => exact ⟨i, rfl, by simpa [hi] using h⟩
theorem part_o0 (p : K6) (w : World) : (part 4 #[Value.bool p.1, Value.bool p.2.1, Value.bool p.2.2.1, Value.bool p.2.2.2.1, Value.bool p.2.2.2.2.1, Value.bool p.2.2.2.2.2] 0).run Try.prog w = .ok (.bool p.1) w := run_part_plain w pk4 rfl
theorem part_o1 (p : K6) (w : World) : (part 4 #[Value.bool p.1, Value.bool p.2.1, Value.bool p.2.2.1, Value.bool p.2.2.2.1, Value.bool p.2.2.2.2.1, Value.bool p.2.2.2.2.2] 1).run Try.prog w = .ok (.bool p.2.1) w := run_part_plain w pk4 rfl
theorem part_o2 (p : K6) (w : World) : (part 4 #[Value.bool p.1, Value.bool p.2.1, Value.bool p.2.2.1, Value.bool p.2.2.2.1, Value.bool p.2.2.2.2.1, Value.bool p.2.2.2.2.2] 2).run Try.prog w = .ok (.bool p.2.2.1) w := run_part_plain w pk4 rfl
theorem part_o3 (p : K6) (w : World) : (part 4 #[Value.bool p.1, Value.bool p.2.1, Value.bool p.2.2.1, Value.bool p.2.2.2.1, Value.bool p.2.2.2.2.1, Value.bool p.2.2.2.2.2] 3).run Try.prog w = .ok (.bool p.2.2.2.1) w := run_part_plain w pk4 rfl
theorem part_o4 (p : K6) (w : World) : (part 4 #[Value.bool p.1, Value.bool p.2.1, Value.bool p.2.2.1, Value.bool p.2.2.2.1, Value.bool p.2.2.2.2.1, Value.bool p.2.2.2.2.2] 4).run Try.prog w = .ok (.bool p.2.2.2.2.1) w := run_part_plain w pk4 rfl
theorem part_o5 (p : K6) (w : World) : (part 4 #[Value.bool p.1, Value.bool p.2.1, Value.bool p.2.2.1, Value.bool p.2.2.2.1, Value.bool p.2.2.2.2.1, Value.bool p.2.2.2.2.2] 5).run Try.prog w = .ok (.bool p.2.2.2.2.2) w := run_part_plain w pk4 rfl

theorem run_equal_o (p q : K6) (w : World) : (Op.equal 81 (ofV p) (ofV q)).run Try.prog w = .ok (p == q) w := by
  obtain ⟨i, hi, hs⟩ := info4
  unfold ofV
  rw [beq_k6]
  show (Op.equalIn (9999 + 1) 81 _ _).run Try.prog w = _
  rw [run_equalIn_array w 9999 _ _ u81 hi, c4]
  have e : ∀ a b : Bool, (Op.equalIn 9999 4 (.bool a) (.bool b)).run Try.prog w = .ok (a == b) w := fun a b => run_equalIn_bool' w 9998 4 a b Try.underlying4
  have hr : List.range 6 = [0, 1, 2, 3, 4, 5] := rfl
  rw [hr]
  simp only [Op.eqItems, Sem.run_bind, Sem.run_ite, part_o0, part_o1, part_o2, part_o3, part_o4, part_o5, Result.andThen_ok, e, Sem.run_pure, Nat.zero_mul, Nat.mul_one, Nat.one_mul]
  cases h0 : (p.1 == q.1) <;> cases h1 : (p.2.1 == q.2.1) <;> cases h2 : (p.2.2.1 == q.2.2.1) <;> cases h3 : (p.2.2.2.1 == q.2.2.2.1) <;> cases h4 : (p.2.2.2.2.1 == q.2.2.2.2.1) <;> cases h5 : (p.2.2.2.2.2 == q.2.2.2.2.2) <;> simp
theorem run_check_o (em : Bool) (p : K6) (w : World) : (Instr.checkKey em 10000 81 (ofV p)).run Try.prog w = .ok () w := by
  obtain ⟨i, hi, hs⟩ := info4
  have h3 : ∀ d a, (Instr.checkKey em (d + 1) 4 (.bool a)).run Try.prog w = .ok () w := by
    intro d a
    simp [Instr.checkKey, run_underlying Try.underlying4]
  have hsz : (sizeOf 4).run Try.prog w = .ok 1 w := by simp [sizeOf, typeInfo, hi, hs]
  have h : ∀ d, (Instr.checkKey em (d + 1 + 1) 81 (ofV p)).run Try.prog w = .ok () w := by
    intro d
    unfold ofV
    rw [Instr.checkKey]
    simp only [Sem.run_bind, run_underlying u81, Result.andThen_ok]
    rw [Std.Legacy.Range.forIn_eq_forIn_range']
    simp only [Std.Legacy.Range.size, show (List.range' 0 ((6 - 0 + 1 - 1) / 1) 1) = [0, 1, 2, 3, 4, 5] from rfl, List.forIn_cons, List.forIn_nil, Sem.run_bind, hsz, part_o0, part_o1, part_o2, part_o3, part_o4, part_o5, h3, Result.andThen_ok, Sem.run_pure, Nat.zero_mul, Nat.mul_one, Nat.one_mul]
  exact h 9998
theorem find_len {es : List MapEntry} {E : MpE} (h : kvE es = encE E) (p : K6) (w : World) : ∀ i,
    (Instr.findAsking 81 (ofV p) es i).run Try.prog w = .ok ((fndE p E i).map fun x => (x.1, yV x.2)) w := by
  induction E generalizing es with
  | nil =>
    intro i
    obtain rfl : es = [] := by simpa [kvE, encE] using h
    rfl
  | cons e E ih =>
    intro i
    match es, h with
    | x :: es, h =>
      simp only [kvE, encE, List.map_cons, List.cons.injEq, Prod.mk.injEq] at h
      obtain ⟨⟨h1, h2⟩, h3⟩ := h
      have hr := ih h3 (i + 1)
      simp only [Instr.findAsking, Sem.run_bind, h1, run_equal_o, Result.andThen_ok, Sem.run_ite, fndE]
      cases hb : (p == e.1) with
      | true => simp [h2]
      | false => simpa using hr
theorem findNow_st (p : K6) : ∀ es : List MapEntry, (es = [] ∧ Instr.findNow (.array 6 4) (ofV p) es 0 = some none) ∨ (es ≠ [] ∧ Instr.findNow (.array 6 4) (ofV p) es 0 = none)
  | [] => .inl ⟨rfl, rfl⟩
  | e :: es => .inr ⟨by simp, by simp [Instr.findNow, Instr.sameNow, ofV]⟩
theorem run_find_st {es : List MapEntry} {E : MpE} (h : kvE es = encE E) (p : K6) (w : World) :
    (Instr.findKey 81 (ofV p) es).run Try.prog w = .ok ((fndE p E 0).map fun x => (x.1, yV x.2)) w := by
  have hr := find_len h p w 0
  unfold Instr.findKey
  simp only [Sem.run_bind, run_underlying u81, Result.andThen_ok]
  rcases findNow_st p es with ⟨rfl, h1⟩ | ⟨_, h1⟩
  · rw [h1]
    obtain rfl : E = [] := by simpa [kvE, encE] using h.symm
    rfl
  · rw [h1]
    exact hr
theorem zero_n (w : World) : (zeroValue 4).run Try.prog w = .ok (yV false) w := by kernel_rfl
theorem look_st {w : World} {cm : Nat} {E : MpE} (h : MapE w cm E) (p : K6) :
    (Instr.lookup 90 (.map (some cm)) (ofV p) true).run Try.prog w = .ok (.tuple #[yV ((findE p E).getD false), .bool (findE p E).isSome]) w := by
  obtain ⟨es, clock, hb, he⟩ := h
  have hr := run_find_st he p w
  have hz := zero_n w
  have hc := fun em => run_check_o em p w
  have hg : (getObj cm).run Try.prog w = .ok (.map es clock) w := MapKept.run_getObj_map hb
  rw [← fnd_find p E 0]
  unfold Instr.lookup
  simp only [Sem.run_bind, run_underlying u90, Result.andThen_ok, hg, hc, hr, Sem.run_pure]
  cases fndE p E 0 with
  | none => simp [hz]
  | some x => simp
theorem stays_st (p : K6) (w : World) : (Instr.keyThatStays (ofV p) (ofV p)).run Try.prog w = .ok (ofV p) w := by
  have : Instr.sameBits 10000 (ofV p) (ofV p) = true := by
    show (6 == 6 && _) = true
    simp [ofV, Instr.sameBits]
  unfold Instr.keyThatStays
  rw [this]
  rfl
theorem put_st {w : World} {cm : Nat} {E : MpE} (h : MapE w cm E) (p : K6) (n : Bool) :
    ∃ w', (Instr.mapUpdate 90 (.map (some cm)) (ofV p) (yV n)).run Try.prog w = .ok () w' ∧ MapE w' cm (putE p n E) ∧ ∃ o, w' = w.putObj cm o := by
  obtain ⟨es, clock, hb, he⟩ := h
  have hr := run_find_st he p w
  have hc := fun em => run_check_o em p w
  have hg : (getObj cm).run Try.prog w = .ok (.map es clock) w := MapKept.run_getObj_map hb
  have hlt := (Array.getElem?_eq_some_iff.1 hb).1
  cases hf : fndE p E 0 with
  | none =>
    rw [hf] at hr
    refine ⟨w.putObj cm (.map (es.push { key := ofV p, val := yV n, born := clock }) (clock + 1)), ?_, ⟨es.push { key := ofV p, val := yV n, born := clock }, clock + 1, by unfold World.putObj; simp [hlt], ?_⟩, _, rfl⟩
    · unfold Instr.mapUpdate
      simp only [Sem.run_bind, run_underlying u90, Result.andThen_ok, hg, hc, hr, Sem.run_pure, Option.map_none]
      exact MapKept.run_setObj_map _ hb
    · rw [fnd_none p n E 0 hf]
      unfold kvE encE at he ⊢
      simp [he]
  | some x =>
    obtain ⟨k, v⟩ := x
    obtain ⟨j, e, hk, hj, hge, hpe, hput⟩ := fnd_some p n E 0 k v hf
    obtain rfl : k = j := by omega
    rw [hf] at hr
    have hlen : es.size = E.length := by
      have := congrArg List.length he
      simpa [kvE, encE] using this
    have hje : k < es.size := by omega
    have hkey : es[k].key = ofV p := by
      have h1 : (kvE es.toList)[k]? = (encE E)[k]? := by rw [he]
      simp only [kvE, encE, List.getElem?_map, hge, Option.map_some] at h1
      rw [List.getElem?_eq_getElem (by simpa using hje)] at h1
      simp only [Option.map_some, Option.some.injEq, Prod.mk.injEq] at h1
      rw [hpe]
      simpa using h1.1
    refine ⟨w.putObj cm (.map (es.modify k fun e => { e with key := ofV p, val := yV n }) clock), ?_, ⟨es.modify k fun e => { e with key := ofV p, val := yV n }, clock, by unfold World.putObj; simp [hlt], ?_⟩, _, rfl⟩
    · unfold Instr.mapUpdate
      simp only [Sem.run_bind, run_underlying u90, Result.andThen_ok, hg, hc, hr, Sem.run_pure, Option.map_some, Array.getElem?_eq_getElem hje, Option.getD_some, hkey, stays_st]
      exact MapKept.run_setObj_map _ hb
    · rw [hput]
      unfold kvE encE at he ⊢
      rw [List.map_set, ← he]
      refine List.ext_getElem? fun i => ?_
      rw [List.getElem?_map, List.getElem?_set, List.getElem?_map, Array.getElem?_toList, Array.getElem?_modify]
      by_cases hik : k = i
      · subst hik
        rw [if_pos rfl, if_pos rfl]
        simp [hje]
      · rw [if_neg hik, if_neg hik]
        simp
theorem MapE.block {w w' : World} {cm : Nat} {E : MpE} (h : MapE w cm E) (hb : w'.heap[cm]? = w.heap[cm]?) : MapE w' cm E := by
  obtain ⟨es, clock, h1, h2⟩ := h
  exact ⟨es, clock, hb.trans h1, h2⟩
theorem MapE.lt {w : World} {cm : Nat} {E : MpE} (h : MapE w cm E) : cm < w.heap.size := by
  obtain ⟨es, clock, h1, h2⟩ := h
  exact (Array.getElem?_eq_some_iff.1 h1).1
end Go.Proofs.Ytpdkgnfblnblbaa
