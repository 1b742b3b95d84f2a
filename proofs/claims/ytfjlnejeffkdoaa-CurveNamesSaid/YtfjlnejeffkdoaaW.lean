/- Places, a map from places to places, a queue of places: their laws in memory. No condition. -/
import Derived.Test.YtfjlnejeffkdoaaG
import Derived.Laws.StructEq
import Derived.ChangeKeysEq
import Derived.Laws.AppendOwn
import Derived.RangeFuncRecord
namespace Go.Proofs.Ytfjlnejeffkdoaa
open Go.RowKit

abbrev Plc := Int × Int
def plV (p : Plc) : Value := .agg #[.int .i64 p.1, .int .i64 p.2]

/-- The block cm is a map that holds E. -/
def MapIs (w : World) (cm : Nat) (E : List (Plc × Plc)) : Prop :=
  ∃ es clock, w.heap[cm]? = some (.map es clock) ∧ es.toList.map (fun e => (e.key, e.val)) = E.map (fun p => (plV p.1, plV p.2))
def findP : List (Plc × Plc) → Plc → Option Plc
  | [], _ => none
  | e :: E, p => if p == e.1 then some e.2 else findP E p

theorem beq_plc (p q : Plc) : (p == q) = (p.1 == q.1 && p.2 == q.2) := rfl
noncomputable def pk151 : String := (((Try.prog.fieldsOf 151)[0]?).map (fun f => f.pkgPath)).getD ""
noncomputable def fl151 : Array Field := #[{ name := "at", type := 3, offset := 0, embedded := false, tag := "", pkgPath := pk151, byteOffset := 0 }, { name := "load", type := 3, offset := 1, embedded := false, tag := "", pkgPath := pk151, byteOffset := 8 }]
theorem u151 : Try.prog.underlying 151 = some (.struct (Try.prog.fieldsOf 151)) := by kernel_rfl
theorem f151 : Try.prog.fieldsOf 151 = fl151 := by kernel_rfl
theorem st151 : Try.prog.stoodInHeld 151 = false := by kernel_rfl
theorem u3 : Try.prog.underlying 3 = some (.int .i64) := Try.underlying3
theorem pk3 : Try.prog.plainKey 3 = true := by kernel_rfl
theorem u153 : Try.prog.underlying 153 = some (.map 151 151) := by kernel_rfl
theorem u152 : Try.prog.underlying 152 = some (.slice 151) := by kernel_rfl

theorem part0 (p : Plc) (w : World) : (part 3 #[Value.int .i64 p.1, .int .i64 p.2] 0).run Try.prog w = .ok (.int .i64 p.1) w := run_part_plain w pk3 rfl
theorem part1 (p : Plc) (w : World) : (part 3 #[Value.int .i64 p.1, .int .i64 p.2] 1).run Try.prog w = .ok (.int .i64 p.2) w := run_part_plain w pk3 rfl

theorem run_equal_pl (p q : Plc) (w : World) : (Op.equal 151 (plV p) (plV q)).run Try.prog w = .ok (p == q) w := by
  unfold plV
  rw [beq_plc]
  show (Op.equalIn (9999 + 1) 151 _ _).run Try.prog w = _
  rw [run_equalIn_struct w 9999 151 _ _ u151 st151, f151]
  have e : ∀ a b : Int, (Op.equalIn 9999 3 (.int .i64 a) (.int .i64 b)).run Try.prog w = .ok (a == b) w := fun a b => run_equalIn_int w 9998 3 .i64 .i64 a b u3
  simp only [fl151, Op.eqFields, Sem.run_bind, Sem.run_ite, part0, part1, Result.andThen_ok, e, Sem.run_pure, show ("at" ≠ "_") = True from by simp, show ("load" ≠ "_") = True from by simp, if_true]
  cases h1 : (p.1 == q.1) <;> cases h2 : (p.2 == q.2) <;> simp

theorem run_check_pl (em : Bool) (p : Plc) (w : World) : (Instr.checkKey em 10000 151 (plV p)).run Try.prog w = .ok () w := by
  have h3 : ∀ d a, (Instr.checkKey em (d + 1) 3 (.int .i64 a)).run Try.prog w = .ok () w := by
    intro d a
    simp [Instr.checkKey, run_underlying u3]
  have h : ∀ d, (Instr.checkKey em (d + 1 + 1) 151 (plV p)).run Try.prog w = .ok () w := by
    intro d
    unfold plV
    rw [Instr.checkKey]
    simp only [Sem.run_bind, run_underlying u151, Result.andThen_ok, f151, fl151]
    rw [← Array.forIn_toList]
    simp only [List.forIn_cons, List.forIn_nil, Sem.run_bind, Sem.run_ite, part0, part1, h3, Result.andThen_ok, Sem.run_pure, show ("at" ≠ "_") = True from by simp, show ("load" ≠ "_") = True from by simp, if_true]
  exact h 9998
theorem find_len {es : List MapEntry} {E : List (Plc × Plc)} (h : es.map (fun e => (e.key, e.val)) = E.map (fun p => (plV p.1, plV p.2))) (p : Plc) (w : World) : ∀ i, ∃ r,
    (Instr.findAsking 151 (plV p) es i).run Try.prog w = .ok r w ∧ r.map (·.2) = (findP E p).map plV := by
  induction E generalizing es with
  | nil =>
    intro i
    obtain rfl : es = [] := by simpa using h
    exact ⟨none, rfl, rfl⟩
  | cons e E ih =>
    intro i
    match es, h with
    | x :: es, h =>
      simp only [List.map_cons, List.cons.injEq, Prod.mk.injEq] at h
      obtain ⟨⟨h1, h2⟩, h3⟩ := h
      obtain ⟨r, hr, hm⟩ := ih h3 (i + 1)
      simp only [Instr.findAsking, Sem.run_bind, h1, run_equal_pl, Result.andThen_ok, Sem.run_ite, findP]
      cases hb : (p == e.1) with
      | true => exact ⟨some (i, x.val), rfl, by simp [h2]⟩
      | false => exact ⟨r, hr, by simpa using hm⟩
theorem findNow_pl (p : Plc) : ∀ es : List MapEntry, (es = [] ∧ Instr.findNow (.struct fl151) (plV p) es 0 = some none) ∨ (es ≠ [] ∧ Instr.findNow (.struct fl151) (plV p) es 0 = none)
  | [] => .inl ⟨rfl, rfl⟩
  | e :: es => .inr ⟨by simp, by simp [Instr.findNow, Instr.sameNow, plV]⟩
theorem run_find_pl {es : List MapEntry} {E : List (Plc × Plc)} (h : es.map (fun e => (e.key, e.val)) = E.map (fun p => (plV p.1, plV p.2))) (p : Plc) (w : World) : ∃ r,
    (Instr.findKey 151 (plV p) es).run Try.prog w = .ok r w ∧ r.map (·.2) = (findP E p).map plV := by
  obtain ⟨r, hr, hm⟩ := find_len h p w 0
  unfold Instr.findKey
  simp only [Sem.run_bind, run_underlying u151, Result.andThen_ok, f151]
  rcases findNow_pl p es with ⟨rfl, h1⟩ | ⟨_, h1⟩
  · rw [h1]
    obtain rfl : E = [] := by simpa using h.symm
    exact ⟨none, rfl, rfl⟩
  · rw [h1]
    exact ⟨r, hr, hm⟩
theorem zero_pl (w : World) : (zeroValue 151).run Try.prog w = .ok (plV (0, 0)) w := by kernel_rfl

theorem look_pl {w : World} {cm : Nat} {E : List (Plc × Plc)} (h : MapIs w cm E) (p : Plc) :
    (Instr.lookup 153 (.map (some cm)) (plV p) true).run Try.prog w = .ok (.tuple #[plV ((findP E p).getD (0, 0)), .bool (findP E p).isSome]) w ∧
    (Instr.lookup 153 (.map (some cm)) (plV p) false).run Try.prog w = .ok (plV ((findP E p).getD (0, 0))) w := by
  obtain ⟨es, clock, hb, he⟩ := h
  obtain ⟨r, hr, hm⟩ := run_find_pl he p w
  have hz := zero_pl w
  have hc := fun em => run_check_pl em p w
  have hg : (getObj cm).run Try.prog w = .ok (.map es clock) w := MapKept.run_getObj_map hb
  unfold Instr.lookup
  simp only [Sem.run_bind, run_underlying u153, Result.andThen_ok, hg, hc, hr, Sem.run_pure]
  cases r with
  | none =>
    cases hf : findP E p with
    | none => simp [hz]
    | some q => simp [hf] at hm
  | some x =>
    cases hf : findP E p with
    | none => simp [hf] at hm
    | some q =>
      simp [hf] at hm
      simp [← hm]

theorem put_pl {w : World} {cm : Nat} {E : List (Plc × Plc)} (h : MapIs w cm E) (p q : Plc) (hn : findP E p = none) :
    ∃ w', (Instr.mapUpdate 153 (.map (some cm)) (plV p) (plV q)).run Try.prog w = .ok () w' ∧ MapIs w' cm (E ++ [(p, q)]) ∧ ∃ o, w' = w.putObj cm o := by
  obtain ⟨es, clock, hb, he⟩ := h
  obtain ⟨r, hr, hm⟩ := run_find_pl he p w
  have hc := fun em => run_check_pl em p w
  have hg : (getObj cm).run Try.prog w = .ok (.map es clock) w := MapKept.run_getObj_map hb
  obtain rfl : r = none := by
    cases r with
    | none => rfl
    | some x => simp [hn] at hm
  refine ⟨w.putObj cm (.map (es.push { key := plV p, val := plV q, born := clock }) (clock + 1)), ?_, ⟨es.push { key := plV p, val := plV q, born := clock }, clock + 1, by unfold World.putObj; simp [(Array.getElem?_eq_some_iff.1 hb).1], ?_⟩, _, rfl⟩
  · unfold Instr.mapUpdate
    simp only [Sem.run_bind, run_underlying u153, Result.andThen_ok, hg, hc, hr, Sem.run_pure]
    exact MapKept.run_setObj_map _ hb
  · simp [he]

/-- A queue of places: a slice of cells in a block of one's own, from some cell on. -/
def flatP (l : List Plc) : List Value := l.flatMap fun p => [.int .i64 p.1, .int .i64 p.2]
theorem flatP_len (l : List Plc) : (flatP l).length = l.length * 2 := by
  induction l with
  | nil => rfl
  | cons p l ih => simp [flatP] at ih ⊢; omega
def Qu (w : World) (base : Nat) (v : Value) (l : List Plc) : Prop :=
  ∃ g o cap cur, v = .slice (some ⟨g, o, none⟩) l.length cap ∧ base ≤ g ∧ w.heap[g]? = some (.cells cur 151 (0, 0)) ∧ l.length ≤ cap ∧ cap ≤ maxLen ∧ o + cap * 2 ≤ cur.size ∧ (cur.toList.drop o).take (l.length * 2) = flatP l

theorem Qu.head {w : World} {base : Nat} {v : Value} {p : Plc} {l : List Plc} (h : Qu w base v (p :: l)) : ∃ g o o' cap, v = .slice (some ⟨g, o, none⟩) (l.length + 1) (cap + 1) ∧ l.length ≤ cap ∧ (if cap + 1 - 1 = 0 then o else o + 2) = o' ∧ base ≤ g ∧ g < w.heap.size ∧ w.cell? ⟨g, o, none⟩ = some (.int .i64 p.1) ∧ w.cell? ⟨g, o + 1, none⟩ = some (.int .i64 p.2) ∧
    Qu w base (.slice (some ⟨g, o', none⟩) l.length cap) l := by
  obtain ⟨g, o, cap, cur, rfl, hb, hg, hl, hm, hs, ht⟩ := h
  simp only [List.length_cons] at hl ht
  obtain ⟨cap, rfl⟩ : ∃ c, cap = c + 1 := ⟨cap - 1, by omega⟩
  have hlt := (Array.getElem?_eq_some_iff.1 hg).1
  have hcell : ∀ j, w.cell? ⟨g, o + j, none⟩ = (cur.toList.drop o)[j]? := fun j => by
    rw [cell_of_row w g (o + j) _ _ _ hg]; simp [List.getElem?_drop]
  have hfl : flatP (p :: l) = .int .i64 p.1 :: .int .i64 p.2 :: flatP l := rfl
  rw [hfl] at ht
  have h0 : (cur.toList.drop o)[0]? = some (.int .i64 p.1) := by
    have := congrArg (·[0]?) ht
    simpa [List.getElem?_take, Nat.add_mul] using this
  have h1 : (cur.toList.drop o)[1]? = some (.int .i64 p.2) := by
    have := congrArg (·[1]?) ht
    simpa [List.getElem?_take, Nat.add_mul] using this
  refine ⟨g, o, if cap = 0 then o else o + 2, cap, rfl, by omega, rfl, hb, hlt, by simpa using (hcell 0).trans h0, (hcell 1).trans h1, g, _, cap, cur, rfl, hb, hg, by omega, by omega, by split <;> omega, ?_⟩
  have h2 := congrArg (List.drop 2) ht
  rw [List.drop_take] at h2
  simp only [List.drop_drop, List.drop_succ_cons, List.drop_zero] at h2
  split
  · rename_i hc
    obtain rfl : l = [] := List.eq_nil_of_length_eq_zero (by omega)
    simp [flatP]
  · rw [← h2]
    congr 1
    omega

theorem pl_info : ∃ i z, Try.prog.info? 151 = some i ∧ i.zero = some z ∧ i.size = 2 ∧ i.bytes = 16 ∧ z.cells.size = 2 := by
  have h1 : (Try.prog.info? 151).map (·.size) = some 2 := by kernel_rfl
  have h2 : (Try.prog.info? 151).map (·.bytes) = some 16 := by kernel_rfl
  have h3 : ((Try.prog.info? 151).bind (·.zero)).map (·.cells.size) = some 2 := by kernel_rfl
  cases h : Try.prog.info? 151 with
  | none => simp [h] at h1
  | some i =>
    cases hz : i.zero with
    | none => simp [h, hz] at h3
    | some z =>
      simp [h, hz] at h1 h2 h3
      exact ⟨i, z, rfl, hz, h1, h2, h3⟩

theorem run_slice_pl {w : World} (g o n cap : Nat) (hn : 1 ≤ n) (hnm : n ≤ cap) : (Instr.slice 152 (.slice (some ⟨g, o, none⟩) n (cap)) (some (.int .i64 1)) none none).run Try.prog w =
    .ok (.slice (some ⟨g, if cap - 1 = 0 then o else o + 2, none⟩) (n - 1) (cap - 1)) w := by
  obtain ⟨i, z, hi, hz, hs, hby, hzs⟩ := pl_info
  have h1 : ∀ c, (Instr.sliceBound (.int .i64 1) n c).run Try.prog w = .ok 1 w := fun c => by
    have : (1 : Int) ≤ n := by omega
    simp [Instr.sliceBound, asIntOf, go_sem, this]
  simp [Instr.slice, Instr.sliceBounds, run_underlying u152, sizeOf, typeInfo, hi, hs, h1, Addr.add_lit, go_sem]
  have e : (cap - 1 = 0) ↔ cap = 1 := by omega
  simp only [e]
  split <;> rfl

/-- One place more, behind a queue of one's own. -/
theorem append_pl (W : World) (base ty : Nat) (v : Value) (l : List Plc) (p : Plc) (a : Nat) (hq : Qu W base v l) (hb : base ≤ W.heap.size) (hl : l.length ≤ 4000000000000) (ha : W.cell? ⟨a, 0, none⟩ = some (.int .i64 p.1)) (ha1 : W.cell? ⟨a, 1, none⟩ = some (.int .i64 p.2)) :
    ∃ v' w', (Builtin.append_ #[152, 152] ty #[v, .slice (some ⟨a, 0, none⟩) 1 1]).run Try.prog W = .ok v' w' ∧ Qu w' base v' (l ++ [p]) ∧ W.grownBy w' v.ownBlock ∧ (v'.ownBlock = v.ownBlock ∨ v'.ownBlock = some W.heap.size) := by
  obtain ⟨i, z, hi, hz, hs, hby, hzs⟩ := pl_info
  obtain ⟨g, o, cap, cur, rfl, hbg, hg, hlc, hm, hsz, ht⟩ := hq
  have hnews : ∀ j u, [Value.int .i64 p.1, .int .i64 p.2][j]? = some u → W.cell? ((⟨a, 0, none⟩ : Addr).add j) = some u := by
    intro j u hj
    match j, hj with
    | 0, hj => simp at hj; subst hj; exact ha
    | 1, hj => simp at hj; subst hj; exact ha1
  have hfl : flatP (l ++ [p]) = flatP l ++ [.int .i64 p.1, .int .i64 p.2] := by simp [flatP]
  have hmax : (4000000000001 : Nat) ≤ maxLen := by simp [maxLen]
  by_cases hroom : l.length + 1 ≤ cap
  · have hf := run_firstCells_some (P := Try.prog) W i.size 1 ⟨a, 0, none⟩ 1 1 [Value.int .i64 p.1, .int .i64 p.2] (by simp [hs]) hnews
    have hst := run_storeCells_at (P := Try.prog) g (o + l.length * 2) 151 [Value.int .i64 p.1, .int .i64 p.2] 0 cur W hg (by simp; omega) (by simp [Value.oneCell'])
    simp only [Nat.add_zero] at hst
    generalize hcs : (List.take (o + l.length * 2) cur.toList ++ [Value.int .i64 p.1, .int .i64 p.2] ++ List.drop (o + l.length * 2 + [Value.int .i64 p.1, .int .i64 p.2].length) cur.toList).toArray = cs at hst
    refine ⟨.slice (some ⟨g, o, none⟩) (l.length + 1) cap, W.setRow g cs, ?_, ⟨g, o, cap, cs, by simp, hbg, setRow_heap W g cur _ 151 _ hg, by simpa using hroom, hm, ?_, ?_⟩, ⟨rfl, rfl, rfl, by simp [World.setRow], fun k _ hk => setRow_other W g k _ (fun e => hk (by simp [Value.ownBlock, e]))⟩, .inl rfl⟩
    · rw [hs] at hf
      simp [Builtin.append_, run_underlying u152, sizeOf, typeInfo, hi, Builtin.lenOf, hroom, hf, Addr.add_lit, hs]
      rw [hst]; rfl
    · rw [← hcs]; simp; omega
    · have hcl : cur.toList.length = cur.size := by simp
      have e2 : (l ++ [p]).length * 2 = l.length * 2 + 2 := by simp; omega
      rw [hfl, ← ht, ← hcs, e2]
      simp only [List.append_assoc]
      rw [List.drop_append_of_le_length (by simp; omega), List.drop_take, Nat.add_sub_cancel_left]
      rw [List.take_append, List.take_of_length_le (by rw [List.length_take]; omega)]
      have e3 : (List.take (l.length * 2) (List.drop o cur.toList)).length = l.length * 2 := by simp; omega
      rw [e3, Nat.add_sub_cancel_left]
      rfl
  · have holds : ∀ j u, (flatP l)[j]? = some u → W.cell? ((⟨g, o, none⟩ : Addr).add j) = some u := by
      intro j u hj
      have : W.cell? ⟨g, o + j, none⟩ = some u := by
        rw [cell_of_row W g (o + j) _ _ _ hg, ← ht] at *
        rw [List.getElem?_take] at hj
        split at hj
        · rw [List.getElem?_drop] at hj; simpa using hj
        · cases hj
      rw [Addr.add_lit]; exact this
    have hgr := run_append_grow (P := Try.prog) W 152 ty 151 i z u152 hi hz ⟨g, o, none⟩ l.length cap (flatP l) (by rw [flatP_len, hs]) holds ⟨a, 0, none⟩ 1 1 _ (by simp [hs]) hnews (by omega) (by omega) (growslice_fits (by omega) (by rw [hby]; omega))
    refine ⟨_, _, hgr, ?_, ⟨rfl, rfl, rfl, by simp, fun k hk _ => Below.heap_alloc W.drew _ k hk⟩, .inr rfl⟩
    have hge := grownCap_ge W (l.length + 1) cap 151
    have hcm : grownCap W (l.length + 1) cap 151 ≤ maxLen := grownCap_le_maxLen W (l.length + 1) cap 151 (by omega)
    refine ⟨W.heap.size, 0, _, _, by simp, hb, heap_alloc_new W.drew _, by simpa using hge, hcm, ?_, ?_⟩
    · simp only [Array.size_append, List.size_toArray, size_zeroCells, hzs, flatP_len]
      simp
      omega
    · rw [hfl]
      simp only [List.drop_zero, Array.toList_append, List.length_append, List.length_singleton]
      rw [List.take_append_of_le_length (by simp [flatP_len]; omega)]
      rw [List.take_of_length_le (by simp [flatP_len]; omega)]

theorem Qu.put {A : World} {base : Nat} {v : Value} {l : List Plc} {cm : Nat} {E : List (Plc × Plc)} (h : Qu A base v l) (hm : MapIs A cm E) (o : Obj) : Qu (A.putObj cm o) base v l := by
  obtain ⟨g, off, cap, cur, h1, h2, h3, h4⟩ := h
  obtain ⟨es, clock, h5, -⟩ := hm
  refine ⟨g, off, cap, cur, h1, h2, ?_, h4⟩
  have : cm ≠ g := fun e => by rw [e, h3] at h5; cases h5
  unfold World.putObj
  simp [Array.getElem?_setIfInBounds, this, h3]
end Go.Proofs.Ytfjlnejeffkdoaa
