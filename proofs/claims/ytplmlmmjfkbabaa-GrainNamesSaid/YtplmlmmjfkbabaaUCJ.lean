/- Steps as the keys of a map of numbers: the laws in memory. No condition. A queue of trails: a slice of one's own whose front is cut off, and that grows behind. No condition. -/
import Derived.Test.YtplmlmmjfkbabaaAJ
import Derived.Laws.StructEq
import Derived.ChangeKeysEq
import Derived.Laws.AppendOwn
namespace Go.Proofs.Ytplmlmmjfkbabaa
open Go.RowKit Go.Shelf
attribute [local irreducible] arrV wpQuiet mat

abbrev Stx := Int × Int
def stV (p : Stx) : Value := .agg #[.int .i64 p.1, .int .i64 p.2]
def nV (n : Int) : Value := .int .i64 n
abbrev MpE := List (Stx × Int)
def encE (E : MpE) : List (Value × Value) := E.map fun p => (stV p.1, nV p.2)
def kvE (es : List MapEntry) : List (Value × Value) := es.map fun e => (e.key, e.val)
def fndE (p : Stx) : MpE → Nat → Option (Nat × Int)
  | [], _ => none
  | e :: E, i => if p == e.1 then some (i, e.2) else fndE p E (i + 1)
def findE (p : Stx) : MpE → Option Int
  | [] => none
  | e :: E => if p == e.1 then some e.2 else findE p E
def putE (p : Stx) (n : Int) : MpE → MpE
  | [] => [(p, n)]
  | e :: E => if p == e.1 then (p, n) :: E else e :: putE p n E
theorem fnd_find (p : Stx) : ∀ (E : MpE) (i : Nat), (fndE p E i).map (·.2) = findE p E
  | [], _ => rfl
  | e :: E, i => by
    unfold fndE findE
    split
    · rfl
    · exact fnd_find p E (i + 1)
theorem fnd_none (p : Stx) (n : Int) : ∀ (E : MpE) (i : Nat), fndE p E i = none → putE p n E = E ++ [(p, n)]
  | [], _, _ => rfl
  | e :: E, i, h => by
    unfold fndE at h
    unfold putE
    split at h
    · cases h
    · rw [if_neg (by assumption), fnd_none p n E (i + 1) h]
      rfl
theorem fnd_some (p : Stx) (n : Int) : ∀ (E : MpE) (i k : Nat) (v : Int), fndE p E i = some (k, v) → ∃ j e, k = i + j ∧ j < E.length ∧ E[j]? = some e ∧ p = e.1 ∧ putE p n E = E.set j (p, n)
  | [], _, _, _, h => by cases h
  | e :: E, i, k, v, h => by
    unfold fndE at h
    unfold putE
    split at h
    · rename_i he
      cases h
      exact ⟨0, e, rfl, by simp, rfl, by simpa using he, by rw [if_pos he]; rfl⟩
    · obtain ⟨j, e', rfl, hj, h1, h2, h3⟩ := fnd_some p n E (i + 1) k v h
      exact ⟨j + 1, e', by omega, by simpa using hj, h1, h2, by rw [if_neg (by assumption), h3]; rfl⟩
theorem find_put (p : Stx) (n : Int) (q : Stx) : ∀ E : MpE, findE q (putE p n E) = if q = p then some n else findE q E
  | [] => by simp [putE, findE]
  | e :: E => by
    unfold putE
    by_cases he : (p == e.1) = true
    · rw [if_pos he]
      have hp : p = e.1 := by simpa using he
      by_cases hq : q = p
      · rw [if_pos hq, hq]
        simp [findE]
      · rw [if_neg hq]
        have h1 : (q == p) = false := by simpa using hq
        have h2 : (q == e.1) = false := by rw [← hp]; exact h1
        simp [findE, h1, h2]
    · rw [if_neg he]
      unfold findE
      by_cases hq : (q == e.1) = true
      · rw [if_pos hq, if_pos hq]
        have hqe : q = e.1 := by simpa using hq
        have : q ≠ p := fun h => he (by rw [← h]; exact hq)
        rw [if_neg this]
      · rw [if_neg hq, if_neg hq]
        exact find_put p n q E

/-- The block cm is a map that holds E. -/
def MapE (w : World) (cm : Nat) (E : MpE) : Prop := ∃ es clock, w.heap[cm]? = some (.map es clock) ∧ kvE es.toList = encE E
theorem beq_stp (p q : Stx) : (p == q) = (p.1 == q.1 && p.2 == q.2) := rfl
noncomputable def pk117 : String := (((Try.prog.fieldsOf 117)[0]?).map (fun f => f.pkgPath)).getD ""
noncomputable def fl117 : Array Field := #[{ name := "from", type := 3, offset := 0, embedded := false, tag := "", pkgPath := pk117, byteOffset := 0 }, { name := "to", type := 3, offset := 1, embedded := false, tag := "", pkgPath := pk117, byteOffset := 8 }]
theorem u117 : Try.prog.underlying 117 = some (.struct (Try.prog.fieldsOf 117)) := by kernel_rfl
theorem f117 : Try.prog.fieldsOf 117 = fl117 := by kernel_rfl
theorem st117 : Try.prog.stoodInHeld 117 = false := by kernel_rfl
theorem u123 : Try.prog.underlying 123 = some (.map 117 3) := by kernel_rfl

theorem part_s0 (p : Stx) (w : World) : (part 3 #[Value.int .i64 p.1, .int .i64 p.2] 0).run Try.prog w = .ok (.int .i64 p.1) w := run_part_plain w pk3 rfl
theorem part_s1 (p : Stx) (w : World) : (part 3 #[Value.int .i64 p.1, .int .i64 p.2] 1).run Try.prog w = .ok (.int .i64 p.2) w := run_part_plain w pk3 rfl

theorem run_equal_st (p q : Stx) (w : World) : (Op.equal 117 (stV p) (stV q)).run Try.prog w = .ok (p == q) w := by
  unfold stV
  rw [beq_stp]
  show (Op.equalIn (9999 + 1) 117 _ _).run Try.prog w = _
  rw [run_equalIn_struct w 9999 117 _ _ u117 st117, f117]
  have e : ∀ a b : Int, (Op.equalIn 9999 3 (.int .i64 a) (.int .i64 b)).run Try.prog w = .ok (a == b) w := fun a b => run_equalIn_int w 9998 3 .i64 .i64 a b Try.underlying3
  simp only [fl117, Op.eqFields, Sem.run_bind, Sem.run_ite, part_s0, part_s1, Result.andThen_ok, e, Sem.run_pure, show ("from" ≠ "_") = True from by simp, show ("to" ≠ "_") = True from by simp, if_true]
  cases h1 : (p.1 == q.1) <;> cases h2 : (p.2 == q.2) <;> simp
theorem run_check_st (em : Bool) (p : Stx) (w : World) : (Instr.checkKey em 10000 117 (stV p)).run Try.prog w = .ok () w := by
  have h3 : ∀ d a, (Instr.checkKey em (d + 1) 3 (.int .i64 a)).run Try.prog w = .ok () w := by
    intro d a
    simp [Instr.checkKey, run_underlying Try.underlying3]
  have h : ∀ d, (Instr.checkKey em (d + 1 + 1) 117 (stV p)).run Try.prog w = .ok () w := by
    intro d
    unfold stV
    rw [Instr.checkKey]
    simp only [Sem.run_bind, run_underlying u117, Result.andThen_ok, f117, fl117]
    rw [← Array.forIn_toList]
    simp only [List.forIn_cons, List.forIn_nil, Sem.run_bind, Sem.run_ite, part_s0, part_s1, h3, Result.andThen_ok, Sem.run_pure, show ("from" ≠ "_") = True from by simp, show ("to" ≠ "_") = True from by simp, if_true]
  exact h 9998
theorem find_len {es : List MapEntry} {E : MpE} (h : kvE es = encE E) (p : Stx) (w : World) : ∀ i,
    (Instr.findAsking 117 (stV p) es i).run Try.prog w = .ok ((fndE p E i).map fun x => (x.1, nV x.2)) w := by
  induction E generalizing es with
  | nil =>
    intro i
    obtain rfl : es = [] := by simpa [kvE, encE] using h
    rfl
  | cons e E ih =>
    intro i
    match es, h with
    | x :: es, h =>
      simp only [kvE, encE, List.map_cons, List.cons.injEq, Prod.mk.injEq] at h
      obtain ⟨⟨h1, h2⟩, h3⟩ := h
      have hr := ih h3 (i + 1)
      simp only [Instr.findAsking, Sem.run_bind, h1, run_equal_st, Result.andThen_ok, Sem.run_ite, fndE]
      cases hb : (p == e.1) with
      | true => simp [h2]
      | false => simpa using hr
theorem findNow_st (p : Stx) : ∀ es : List MapEntry, (es = [] ∧ Instr.findNow (.struct fl117) (stV p) es 0 = some none) ∨ (es ≠ [] ∧ Instr.findNow (.struct fl117) (stV p) es 0 = none)
  | [] => .inl ⟨rfl, rfl⟩
  | e :: es => .inr ⟨by simp, by simp [Instr.findNow, Instr.sameNow, stV]⟩
theorem run_find_st {es : List MapEntry} {E : MpE} (h : kvE es = encE E) (p : Stx) (w : World) :
    (Instr.findKey 117 (stV p) es).run Try.prog w = .ok ((fndE p E 0).map fun x => (x.1, nV x.2)) w := by
  have hr := find_len h p w 0
  unfold Instr.findKey
  simp only [Sem.run_bind, run_underlying u117, Result.andThen_ok, f117]
  rcases findNow_st p es with ⟨rfl, h1⟩ | ⟨_, h1⟩
  · rw [h1]
    obtain rfl : E = [] := by simpa [kvE, encE] using h.symm
    rfl
  · rw [h1]
    exact hr
theorem zero_n (w : World) : (zeroValue 3).run Try.prog w = .ok (nV 0) w := by kernel_rfl
theorem look_st {w : World} {cm : Nat} {E : MpE} (h : MapE w cm E) (p : Stx) :
    (Instr.lookup 123 (.map (some cm)) (stV p) true).run Try.prog w = .ok (.tuple #[nV ((findE p E).getD 0), .bool (findE p E).isSome]) w := by
  obtain ⟨es, clock, hb, he⟩ := h
  have hr := run_find_st he p w
  have hz := zero_n w
  have hc := fun em => run_check_st em p w
  have hg : (getObj cm).run Try.prog w = .ok (.map es clock) w := MapKept.run_getObj_map hb
  rw [← fnd_find p E 0]
  unfold Instr.lookup
  simp only [Sem.run_bind, run_underlying u123, Result.andThen_ok, hg, hc, hr, Sem.run_pure]
  cases fndE p E 0 with
  | none => simp [hz]
  | some x => simp
theorem stays_st (p : Stx) (w : World) : (Instr.keyThatStays (stV p) (stV p)).run Try.prog w = .ok (stV p) w := by
  have : Instr.sameBits 10000 (stV p) (stV p) = true := by
    show (2 == 2 && _) = true
    simp [stV, Instr.sameBits]
  unfold Instr.keyThatStays
  rw [this]
  rfl
theorem put_st {w : World} {cm : Nat} {E : MpE} (h : MapE w cm E) (p : Stx) (n : Int) :
    ∃ w', (Instr.mapUpdate 123 (.map (some cm)) (stV p) (nV n)).run Try.prog w = .ok () w' ∧ MapE w' cm (putE p n E) ∧ ∃ o, w' = w.putObj cm o := by
  obtain ⟨es, clock, hb, he⟩ := h
  have hr := run_find_st he p w
  have hc := fun em => run_check_st em p w
  have hg : (getObj cm).run Try.prog w = .ok (.map es clock) w := MapKept.run_getObj_map hb
  have hlt := (Array.getElem?_eq_some_iff.1 hb).1
  cases hf : fndE p E 0 with
  | none =>
    rw [hf] at hr
    refine ⟨w.putObj cm (.map (es.push { key := stV p, val := nV n, born := clock }) (clock + 1)), ?_, ⟨es.push { key := stV p, val := nV n, born := clock }, clock + 1, by unfold World.putObj; simp [hlt], ?_⟩, _, rfl⟩
    · unfold Instr.mapUpdate
      simp only [Sem.run_bind, run_underlying u123, Result.andThen_ok, hg, hc, hr, Sem.run_pure, Option.map_none]
      exact MapKept.run_setObj_map _ hb
    · rw [fnd_none p n E 0 hf]
      unfold kvE encE at he ⊢
      simp [he]
  | some x =>
    obtain ⟨k, v⟩ := x
    obtain ⟨j, e, hk, hj, hge, hpe, hput⟩ := fnd_some p n E 0 k v hf
    obtain rfl : k = j := by omega
    rw [hf] at hr
    have hlen : es.size = E.length := by
      have := congrArg List.length he
      simpa [kvE, encE] using this
    have hje : k < es.size := by omega
    have hkey : es[k].key = stV p := by
      have h1 : (kvE es.toList)[k]? = (encE E)[k]? := by rw [he]
      simp only [kvE, encE, List.getElem?_map, hge, Option.map_some] at h1
      rw [List.getElem?_eq_getElem (by simpa using hje)] at h1
      simp only [Option.map_some, Option.some.injEq, Prod.mk.injEq] at h1
      rw [hpe]
      simpa using h1.1
    refine ⟨w.putObj cm (.map (es.modify k fun e => { e with key := stV p, val := nV n }) clock), ?_, ⟨es.modify k fun e => { e with key := stV p, val := nV n }, clock, by unfold World.putObj; simp [hlt], ?_⟩, _, rfl⟩
    · unfold Instr.mapUpdate
      simp only [Sem.run_bind, run_underlying u123, Result.andThen_ok, hg, hc, hr, Sem.run_pure, Option.map_some, Array.getElem?_eq_getElem hje, Option.getD_some, hkey, stays_st]
      exact MapKept.run_setObj_map _ hb
    · rw [hput]
      unfold kvE encE at he ⊢
      rw [List.map_set, ← he]
      refine List.ext_getElem? fun i => ?_
      rw [List.getElem?_map, List.getElem?_set, List.getElem?_map, Array.getElem?_toList, Array.getElem?_modify]
      by_cases hik : k = i
      · subst hik
        rw [if_pos rfl, if_pos rfl]
        simp [hje]
      · rw [if_neg hik, if_neg hik]
        simp
theorem MapE.block {w w' : World} {cm : Nat} {E : MpE} (h : MapE w cm E) (hb : w'.heap[cm]? = w.heap[cm]?) : MapE w' cm E := by
  obtain ⟨es, clock, h1, h2⟩ := h
  exact ⟨es, clock, hb.trans h1, h2⟩
theorem MapE.lt {w : World} {cm : Nat} {E : MpE} (h : MapE w cm E) : cm < w.heap.size := by
  obtain ⟨es, clock, h1, h2⟩ := h
  exact (Array.getElem?_eq_some_iff.1 h1).1
end Go.Proofs.Ytplmlmmjfkbabaa
namespace Go.Proofs.Ytplmlmmjfkbabaa
open Go.RowKit Go.Shelf
attribute [local irreducible] arrV wpQuiet mat

abbrev Trl := Int × Value
theorem u127 : Try.prog.underlying 127 = some (.slice 126) := by kernel_rfl
/-- A queue of places: a slice of cells in a block of one's own, from some cell on. -/
def flatQ (l : List Trl) : List Value := l.flatMap fun p => [.int .i64 p.1, p.2]
theorem flatQ_len (l : List Trl) : (flatQ l).length = l.length * 2 := by
  induction l with
  | nil => rfl
  | cons p l ih => simp [flatQ] at ih ⊢; omega
def Qu (w : World) (base : Nat) (v : Value) (l : List Trl) : Prop :=
  ∃ g o cap cur, v = .slice (some ⟨g, o, none⟩) l.length cap ∧ base ≤ g ∧ w.heap[g]? = some (.cells cur 126 (0, 0)) ∧ l.length ≤ cap ∧ cap ≤ maxLen ∧ o + cap * 2 ≤ cur.size ∧ (cur.toList.drop o).take (l.length * 2) = flatQ l

theorem Qu.head {w : World} {base : Nat} {v : Value} {p : Trl} {l : List Trl} (h : Qu w base v (p :: l)) : ∃ g o o' cap, v = .slice (some ⟨g, o, none⟩) (l.length + 1) (cap + 1) ∧ l.length ≤ cap ∧ (if cap + 1 - 1 = 0 then o else o + 2) = o' ∧ base ≤ g ∧ g < w.heap.size ∧ w.cell? ⟨g, o, none⟩ = some (.int .i64 p.1) ∧ w.cell? ⟨g, o + 1, none⟩ = some p.2 ∧
    Qu w base (.slice (some ⟨g, o', none⟩) l.length cap) l := by
  obtain ⟨g, o, cap, cur, rfl, hb, hg, hl, hm, hs, ht⟩ := h
  simp only [List.length_cons] at hl ht
  obtain ⟨cap, rfl⟩ : ∃ c, cap = c + 1 := ⟨cap - 1, by omega⟩
  have hlt := (Array.getElem?_eq_some_iff.1 hg).1
  have hcell : ∀ j, w.cell? ⟨g, o + j, none⟩ = (cur.toList.drop o)[j]? := fun j => by
    rw [cell_of_row w g (o + j) _ _ _ hg]; simp [List.getElem?_drop]
  have hfl : flatQ (p :: l) = .int .i64 p.1 :: p.2 :: flatQ l := rfl
  rw [hfl] at ht
  have h0 : (cur.toList.drop o)[0]? = some (.int .i64 p.1) := by
    have := congrArg (·[0]?) ht
    simpa [List.getElem?_take, Nat.add_mul] using this
  have h1 : (cur.toList.drop o)[1]? = some p.2 := by
    have := congrArg (·[1]?) ht
    simpa [List.getElem?_take, Nat.add_mul] using this
  refine ⟨g, o, if cap = 0 then o else o + 2, cap, rfl, by omega, rfl, hb, hlt, by simpa using (hcell 0).trans h0, (hcell 1).trans h1, g, _, cap, cur, rfl, hb, hg, by omega, by omega, by split <;> omega, ?_⟩
  have h2 := congrArg (List.drop 2) ht
  rw [List.drop_take] at h2
  simp only [List.drop_drop, List.drop_succ_cons, List.drop_zero] at h2
  split
  · rename_i hc
    obtain rfl : l = [] := List.eq_nil_of_length_eq_zero (by omega)
    simp [flatQ]
  · rw [← h2]
    congr 1
    omega

theorem tr_info : ∃ i z, Try.prog.info? 126 = some i ∧ i.zero = some z ∧ i.size = 2 ∧ i.bytes = 32 ∧ z.cells.size = 2 := by
  have h1 : (Try.prog.info? 126).map (·.size) = some 2 := by kernel_rfl
  have h2 : (Try.prog.info? 126).map (·.bytes) = some 32 := by kernel_rfl
  have h3 : ((Try.prog.info? 126).bind (·.zero)).map (·.cells.size) = some 2 := by kernel_rfl
  cases h : Try.prog.info? 126 with
  | none => simp [h] at h1
  | some i =>
    cases hz : i.zero with
    | none => simp [h, hz] at h3
    | some z =>
      simp [h, hz] at h1 h2 h3
      exact ⟨i, z, rfl, hz, h1, h2, h3⟩

theorem run_slice_q {w : World} (g o n cap : Nat) (hn : 1 ≤ n) (hnm : n ≤ cap) : (Instr.slice 127 (.slice (some ⟨g, o, none⟩) n (cap)) (some (.int .i64 1)) none none).run Try.prog w =
    .ok (.slice (some ⟨g, if cap - 1 = 0 then o else o + 2, none⟩) (n - 1) (cap - 1)) w := by
  obtain ⟨i, z, hi, hz, hs, hby, hzs⟩ := tr_info
  have h1 : ∀ c, (Instr.sliceBound (.int .i64 1) n c).run Try.prog w = .ok 1 w := fun c => by
    have : (1 : Int) ≤ n := by omega
    simp [Instr.sliceBound, asIntOf, go_sem, this]
  simp [Instr.slice, Instr.sliceBounds, run_underlying u127, sizeOf, typeInfo, hi, hs, h1, Addr.add_lit, go_sem]
  have e : (cap - 1 = 0) ↔ cap = 1 := by omega
  simp only [e]
  split <;> rfl

/-- One place more, behind a queue of one's own. -/
theorem append_q (W : World) (base ty : Nat) (v : Value) (l : List Trl) (p : Trl) (a : Nat) (hq : Qu W base v l) (hb : base ≤ W.heap.size) (hl : l.length ≤ 1000) (h1c : p.2.oneCell' = true) (ha : W.cell? ⟨a, 0, none⟩ = some (.int .i64 p.1)) (ha1 : W.cell? ⟨a, 1, none⟩ = some p.2) :
    ∃ v' w', (Builtin.append_ #[127, 127] ty #[v, .slice (some ⟨a, 0, none⟩) 1 1]).run Try.prog W = .ok v' w' ∧ Qu w' base v' (l ++ [p]) ∧ W.grownBy w' v.ownBlock ∧ (v'.ownBlock = v.ownBlock ∨ v'.ownBlock = some W.heap.size) := by
  obtain ⟨i, z, hi, hz, hs, hby, hzs⟩ := tr_info
  obtain ⟨g, o, cap, cur, rfl, hbg, hg, hlc, hm, hsz, ht⟩ := hq
  have hnews : ∀ j u, [Value.int .i64 p.1, p.2][j]? = some u → W.cell? ((⟨a, 0, none⟩ : Addr).add j) = some u := by
    intro j u hj
    match j, hj with
    | 0, hj => simp at hj; subst hj; exact ha
    | 1, hj => simp at hj; subst hj; exact ha1
  have hfl : flatQ (l ++ [p]) = flatQ l ++ [.int .i64 p.1, p.2] := by simp [flatQ]
  have hmax : (1001 : Nat) ≤ maxLen := by simp [maxLen]
  by_cases hroom : l.length + 1 ≤ cap
  · have hf := run_firstCells_some (P := Try.prog) W i.size 1 ⟨a, 0, none⟩ 1 1 [Value.int .i64 p.1, p.2] (by simp [hs]) hnews
    have hst := run_storeCells_at (P := Try.prog) g (o + l.length * 2) 126 [Value.int .i64 p.1, p.2] 0 cur W hg (by simp; omega) (fun u hu => (List.mem_cons.1 hu).elim (fun e => by rw [e]; rfl) (fun hu => by rw [List.mem_singleton.1 hu]; exact h1c))
    simp only [Nat.add_zero] at hst
    generalize hcs : (List.take (o + l.length * 2) cur.toList ++ [Value.int .i64 p.1, p.2] ++ List.drop (o + l.length * 2 + [Value.int .i64 p.1, p.2].length) cur.toList).toArray = cs at hst
    refine ⟨.slice (some ⟨g, o, none⟩) (l.length + 1) cap, W.setRow g cs, ?_, ⟨g, o, cap, cs, by simp, hbg, setRow_heap W g cur _ 126 _ hg, by simpa using hroom, hm, ?_, ?_⟩, ⟨rfl, rfl, rfl, by simp [World.setRow], fun k _ hk => setRow_other W g k _ (fun e => hk (by simp [Value.ownBlock, e]))⟩, .inl rfl⟩
    · rw [hs] at hf
      simp [Builtin.append_, run_underlying u127, sizeOf, typeInfo, hi, Builtin.lenOf, hroom, hf, Addr.add_lit, hs]
      rw [hst]; rfl
    · rw [← hcs]; simp; omega
    · have hcl : cur.toList.length = cur.size := by simp
      have e2 : (l ++ [p]).length * 2 = l.length * 2 + 2 := by simp; omega
      rw [hfl, ← ht, ← hcs, e2]
      simp only [List.append_assoc]
      rw [List.drop_append_of_le_length (by simp; omega), List.drop_take, Nat.add_sub_cancel_left]
      rw [List.take_append, List.take_of_length_le (by rw [List.length_take]; omega)]
      have e3 : (List.take (l.length * 2) (List.drop o cur.toList)).length = l.length * 2 := by simp; omega
      rw [e3, Nat.add_sub_cancel_left]
      rfl
  · have holds : ∀ j u, (flatQ l)[j]? = some u → W.cell? ((⟨g, o, none⟩ : Addr).add j) = some u := by
      intro j u hj
      have : W.cell? ⟨g, o + j, none⟩ = some u := by
        rw [cell_of_row W g (o + j) _ _ _ hg, ← ht] at *
        rw [List.getElem?_take] at hj
        split at hj
        · rw [List.getElem?_drop] at hj; simpa using hj
        · cases hj
      rw [Addr.add_lit]; exact this
    have hgr := run_append_grow (P := Try.prog) W 127 ty 126 i z u127 hi hz ⟨g, o, none⟩ l.length cap (flatQ l) (by rw [flatQ_len, hs]) holds ⟨a, 0, none⟩ 1 1 _ (by simp [hs]) hnews (by omega) (by omega) (growslice_fits (by omega) (by rw [hby]; omega))
    refine ⟨_, _, hgr, ?_, ⟨rfl, rfl, rfl, by simp, fun k hk _ => Below.heap_alloc W.drew _ k hk⟩, .inr rfl⟩
    have hge := grownCap_ge W (l.length + 1) cap 126
    have hcm : grownCap W (l.length + 1) cap 126 ≤ maxLen := grownCap_le_maxLen W (l.length + 1) cap 126 (by omega)
    refine ⟨W.heap.size, 0, _, _, by simp, hb, heap_alloc_new W.drew _, by simpa using hge, hcm, ?_, ?_⟩
    · simp only [Array.size_append, List.size_toArray, size_zeroCells, hzs, flatQ_len]
      simp
      omega
    · rw [hfl]
      simp only [List.drop_zero, Array.toList_append, List.length_append, List.length_singleton]
      rw [List.take_append_of_le_length (by simp [flatQ_len]; omega)]
      rw [List.take_of_length_le (by simp [flatQ_len]; omega)]


theorem Qu.block {A B : World} {base : Nat} {v : Value} {l : List Trl} (h : Qu A base v l) (hb : ∀ k, v.ownBlock = some k → k < A.heap.size → B.heap[k]? = A.heap[k]?) : Qu B base v l := by
  obtain ⟨g, off, cap, cur, rfl, h2, h3, h4⟩ := h
  exact ⟨g, off, cap, cur, rfl, h2, (hb g rfl (Array.getElem?_eq_some_iff.1 h3).1).trans h3, h4⟩
theorem Qu.below {A B : World} {base : Nat} {v : Value} {l : List Trl} (h : Qu A base v l) (hb : Below A.heap.size A B) : Qu B base v l := h.block fun k _ hk => hb.block k hk
theorem u127e : Try.prog.underlying 127 = some (.slice (Try.prog.elem 127)) := by kernel_rfl
theorem exec_slice_q {a : Act} {o : Oper} {w : World} (x : Operand) (ho : o.op = Op.slice 127 x (some (.const (.int .i64 1))) none none) (g off n cap : Nat) (hx : a.eval x = .slice (some ⟨g, off, none⟩) n cap) (hn : 1 ≤ n) (hc : n ≤ cap) (off' : Nat) (ho' : (if cap - 1 = 0 then off else off + 2) = off') :
    (execOp a.eval o).run Try.prog w = .ok (.value (.slice (some ⟨g, off', none⟩) (n - 1) (cap - 1))) w := by
  have hrun := run_slice_q (w := w) g off n cap hn hc
  have hat := fun x lo => run_sliceAt_slice (P := Try.prog) w 127 x lo none none u127e
  have h1 : a.eval (.const (.int .i64 1)) = .int .i64 1 := rfl
  unfold execOp
  simp only [ho, Option.map_some, Option.map_none, hx, h1, Sem.run_bind, hat, hrun, Result.andThen_ok, ho']
  rfl
theorem wpList_slice_q {ops : Array Oper} {rest : List Oper} {o : Oper} {a : Act} {Q : Exit → Act → World → Prop} {w : World} (hgd : o.guard = none) (x : Operand) (ho : o.op = Op.slice 127 x (some (.const (.int .i64 1))) none none) (g off n cap : Nat) (hx : a.eval x = .slice (some ⟨g, off, none⟩) n cap) (hn : 1 ≤ n) (hc : n ≤ cap) (off' : Nat) (ho' : (if cap - 1 = 0 then off else off + 2) = off')
    (hK : wpList Try.prog ops Q rest (a.put o.dst (.slice (some ⟨g, off', none⟩) (n - 1) (cap - 1))) w) : wpList Try.prog ops Q (o :: rest) a w := by
  have hr := exec_slice_q (w := w) x ho g off n cap hx hn hc off' ho'
  refine wpList_plain hgd fun K hk => ?_
  unfold Oper.wp
  rw [hr]
  exact hk _ _ hK
theorem wpList_append_q {ops : Array Oper} {rest : List Oper} {o : Oper} {a : Act} {Q : Exit → Act → World → Prop} {w : World} (hgd : o.guard = none) (s x : Operand) (ho : o.op = .call { callee := .builtin .append, args := #[s, x], argTypes := #[127, 127] }) (base : Nat) (v : Value) (l : List Trl) (p : Trl) (ab : Nat)
    (hs : a.eval s = v) (hx : a.eval x = .slice (some ⟨ab, 0, none⟩) 1 1) (hq : Qu w base v l) (hb : base ≤ w.heap.size) (hl : l.length ≤ 1000) (h1c : p.2.oneCell' = true) (ha : w.cell? ⟨ab, 0, none⟩ = some (.int .i64 p.1)) (ha1 : w.cell? ⟨ab, 1, none⟩ = some p.2)
    (hK : ∀ v' w', Qu w' base v' (l ++ [p]) → w.grownBy w' v.ownBlock → (v'.ownBlock = v.ownBlock ∨ v'.ownBlock = some w.heap.size) → wpList Try.prog ops Q rest (a.put o.dst v') w') : wpList Try.prog ops Q (o :: rest) a w := by
  obtain ⟨v', w', hrun, r1, r2, r3⟩ := append_q w base o.type v l p ab hq hb hl h1c ha ha1
  have hr : (execOp a.eval o).run Try.prog w = .ok (.value v') w' := by simp [execOp, ho, resolve, invoke, builtin, hs, hx, hrun, Result.andThen]
  refine wpList_plain hgd fun K hk => ?_
  unfold Oper.wp
  rw [hr]
  exact hk _ _ (hK v' w' r1 r2 r3)
theorem exec_look {a : Act} {o : Oper} {w : World} (m x : Operand) (ho : o.op = Op.lookup 123 m x true) (cm : Nat) (E : MpE) (hm : a.eval m = .map (some cm)) (hM : MapE w cm E) (p : Stx) (hx : a.eval x = .agg #[.int .i64 p.1, .int .i64 p.2]) :
    (execOp a.eval o).run Try.prog w = .ok (.value (.tuple #[.int .i64 ((findE p E).getD 0), .bool (findE p E).isSome])) w := by
  have hrun := look_st hM p
  have hx' : a.eval x = stV p := hx
  simp [execOp, ho, hm, hx', hrun, Result.andThen, nV]
theorem wpList_look {ops : Array Oper} {rest : List Oper} {o : Oper} {a : Act} {Q : Exit → Act → World → Prop} {w : World} (hgd : o.guard = none) (m x : Operand) (ho : o.op = Op.lookup 123 m x true) (cm : Nat) (E : MpE) (hm : a.eval m = .map (some cm)) (hM : MapE w cm E) (p : Stx) (hx : a.eval x = .agg #[.int .i64 p.1, .int .i64 p.2])
    (r : Option Int) (hf : findE p E = r) (hK : wpList Try.prog ops Q rest (a.put o.dst (.tuple #[.int .i64 (r.getD 0), .bool r.isSome])) w) : wpList Try.prog ops Q (o :: rest) a w := by
  have hr := exec_look m x ho cm E hm hM p hx
  rw [hf] at hr
  refine wpList_plain hgd fun K hk => ?_
  unfold Oper.wp
  rw [hr]
  exact hk _ _ hK
theorem wpListIn_put {F : Fence} {n' : Nat} {ops : Array Oper} {rest : List Oper} {o : Oper} {a : Act} {Q : Exit → Act → World → Prop} {w : World} (hgd : o.guard = none) (m x v : Operand) (ho : o.op = Op.mapUpdate 123 m x v)
    (cm : Nat) (E : MpE) (hm : a.eval m = .map (some cm)) (hM : MapE w cm E) (p : Stx) (n : Int) (hx : a.eval x = .agg #[.int .i64 p.1, .int .i64 p.2]) (hv : a.eval v = .int .i64 n)
    (hK : ∀ o' w', w' = w.putObj cm o' → MapE w' cm (putE p n E) → wpListIn F n' Try.prog ops Q rest (a.put o.dst undef) w') : wpListIn F n' Try.prog ops Q (o :: rest) a w := by
  refine wpListIn_plain hgd fun K' hK' => ?_
  obtain ⟨w', hrun, h1, o', h2⟩ := put_st hM p n
  have hx' : a.eval x = stV p := hx
  have hv' : a.eval v = nV n := hv
  unfold Oper.wpIn
  refine ⟨by simp [Oper.about, ho], ?_⟩
  rw [Oper.semAt_plain F _ _ (by rw [ho]; intro c hc'; cases hc')]
  simp [execOp, ho, hm, hx', hv', hrun, Result.andThen]
  exact hK' _ _ (hK o' w' h2 h1)
end Go.Proofs.Ytplmlmmjfkbabaa
