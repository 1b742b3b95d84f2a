/- Lists of rates as the keys of a map, sets of runs as its elements: the laws in memory. No condition. Sets of runs: with, isWithin, list: contracts. Condition: runs of the set. Sets of runs: the list of a set, and the runs that forbid rates: contracts. Condition: valid runs, rates in their limits. Which runs forbid which rates: the map that without makes: its contract. Condition: a valid room. Are rates allowed without some runs: the function that without returns: its contract. Condition: the map as without has made it. -/
import Derived.Test.YtfijaafkagcmmaaJ2J
import Derived.Laws.StructEq
import Derived.ChangeKeysEq
import Derived.Maps.RangeRun
namespace Go.Proofs.Ytfijaafkagcmmaa
open Go.RowKit Go.Shelf
attribute [local irreducible] arrV wpQuiet

def kV (x : List Int) : Value := .agg #[.int .i64 (ld x 0), .int .i64 (ld x 1), .int .i64 (ld x 2)]
def kEq (x y : List Int) : Bool := (ld x 0 == ld y 0) && ((ld x 1 == ld y 1) && (ld x 2 == ld y 2))
def bV (f : Nat → Bool) : Value := .agg #[.bool (f 0), .bool (f 1), .bool (f 2), .bool (f 3), .bool (f 4), .bool (f 5)]
theorem kV_arr {x : List Int} (h : x.length ≤ 3) : Value.agg (arrV (pad3 x)) = kV x := by
  rw [arr_three h, pad3_ld, pad3_ld, pad3_ld]
  rfl
theorem kEq_of {x y : List Int} (hx : x.length = y.length) (h3 : x.length ≤ 3) (h : kEq x y = true) : x = y := by
  simp only [kEq, Bool.and_eq_true, beq_iff_eq] at h
  obtain ⟨h0, h1, h2⟩ := h
  refine List.ext_getElem hx fun i h1' h2' => ?_
  have e : ∀ (l : List Int) (j : Nat) (hj : j < l.length), l[j] = ld l j := fun l j hj => by simp [ld, hj]
  rw [e _ _ h1', e _ _ h2']
  match i, h1' with
  | 0, _ => exact h0
  | 1, _ => exact h1
  | 2, _ => exact h2
  | n + 3, h => omega

theorem kEq_same {x y : List Int} (h : kV y = kV x) : kEq x y = true := by
  simp only [kV, Value.agg.injEq, Array.mk.injEq, List.cons.injEq, Value.int.injEq, true_and, and_true] at h
  simp [kEq, h.1, h.2.1, h.2.2]
theorem u138 : Try.prog.underlying 138 = some (.array 6 4) := by kernel_rfl
theorem u145 : Try.prog.underlying 145 = some (.map 105 138) := by kernel_rfl
theorem c3 : Try.prog.cellsOf 3 = 1 := by kernel_rfl
theorem part_k0 (x : List Int) (w : World) : (part 3 #[Value.int .i64 (ld x 0), .int .i64 (ld x 1), .int .i64 (ld x 2)] 0).run Try.prog w = .ok (.int .i64 (ld x 0)) w := run_part_plain w pk3 rfl
theorem part_k1 (x : List Int) (w : World) : (part 3 #[Value.int .i64 (ld x 0), .int .i64 (ld x 1), .int .i64 (ld x 2)] 1).run Try.prog w = .ok (.int .i64 (ld x 1)) w := run_part_plain w pk3 rfl
theorem part_k2 (x : List Int) (w : World) : (part 3 #[Value.int .i64 (ld x 0), .int .i64 (ld x 1), .int .i64 (ld x 2)] 2).run Try.prog w = .ok (.int .i64 (ld x 2)) w := run_part_plain w pk3 rfl
theorem info3 : ∃ i, Try.prog.info? 3 = some i ∧ i.size = 1 := by
  obtain ⟨i, z, hi, _, hs, _, _⟩ := el26.i
  exact ⟨i, hi, hs⟩

theorem run_equal_k (x y : List Int) (w : World) : (Op.equal 105 (kV x) (kV y)).run Try.prog w = .ok (kEq x y) w := by
  obtain ⟨i, hi, hs⟩ := info3
  unfold kV
  show (Op.equalIn (9999 + 1) 105 _ _).run Try.prog w = _
  rw [run_equalIn_array w 9999 _ _ u105 hi, c3]
  have e : ∀ a b : Int, (Op.equalIn 9999 3 (.int .i64 a) (.int .i64 b)).run Try.prog w = .ok (a == b) w := fun a b => run_equalIn_int w 9998 3 .i64 .i64 a b Try.underlying3
  have hr : List.range 3 = [0, 1, 2] := rfl
  rw [hr]
  simp only [Op.eqItems, Sem.run_bind, Sem.run_ite, part_k0, part_k1, part_k2, Result.andThen_ok, e, Sem.run_pure, Nat.zero_mul, Nat.mul_one]
  unfold kEq
  cases h1 : (ld x 0 == ld y 0) <;> cases h2 : (ld x 1 == ld y 1) <;> cases h3 : (ld x 2 == ld y 2) <;> simp

theorem run_check_k (em : Bool) (x : List Int) (w : World) : (Instr.checkKey em 10000 105 (kV x)).run Try.prog w = .ok () w := by
  obtain ⟨i, hi, hs⟩ := info3
  have h3 : ∀ d a, (Instr.checkKey em (d + 1) 3 (.int .i64 a)).run Try.prog w = .ok () w := by
    intro d a
    simp [Instr.checkKey, run_underlying Try.underlying3]
  have hsz : (sizeOf 3).run Try.prog w = .ok 1 w := by simp [sizeOf, typeInfo, hi, hs]
  have h : ∀ d, (Instr.checkKey em (d + 1 + 1) 105 (kV x)).run Try.prog w = .ok () w := by
    intro d
    unfold kV
    rw [Instr.checkKey]
    simp only [Sem.run_bind, run_underlying u105, Result.andThen_ok]
    rw [Std.Legacy.Range.forIn_eq_forIn_range']
    simp only [Std.Legacy.Range.size, show (List.range' 0 ((3 - 0 + 1 - 1) / 1) 1) = [0, 1, 2] from rfl, List.forIn_cons, List.forIn_nil, Sem.run_bind, hsz, part_k0, part_k1, part_k2, h3, Result.andThen_ok, Sem.run_pure, Nat.zero_mul, Nat.mul_one]
  exact h 9998

/-- The block cm is a map that holds E. -/
def MapIs (w : World) (cm : Nat) (E : List (List Int × (Nat → Bool))) : Prop :=
  ∃ es clock, w.heap[cm]? = some (.map es clock) ∧ es.toList.map (fun e => (e.key, e.val)) = E.map (fun p => (kV p.1, bV p.2)) ∧ MapKept.Stamped es clock
theorem find_len {es : List MapEntry} {E : List (List Int × (Nat → Bool))} (h : es.map (fun e => (e.key, e.val)) = E.map (fun p => (kV p.1, bV p.2))) (x : List Int) (hx : ∀ p, p ∈ E → kEq x p.1 = false) (w : World) : ∀ i,
    (Instr.findAsking 105 (kV x) es i).run Try.prog w = .ok none w := by
  induction E generalizing es with
  | nil =>
    intro i
    obtain rfl : es = [] := by simpa using h
    rfl
  | cons e E ih =>
    intro i
    match es, h with
    | y :: es, h =>
      simp only [List.map_cons, List.cons.injEq, Prod.mk.injEq] at h
      obtain ⟨⟨h1, h2⟩, h3⟩ := h
      have hr := ih h3 (fun p hp => hx p (by simp [hp])) (i + 1)
      simp only [Instr.findAsking, Sem.run_bind, h1, run_equal_k, Result.andThen_ok, Sem.run_ite, hx e (by simp)]
      simpa using hr
theorem findNow_k (x : List Int) : ∀ es : List MapEntry, (es = [] ∧ Instr.findNow (.array 3 3) (kV x) es 0 = some none) ∨ (es ≠ [] ∧ Instr.findNow (.array 3 3) (kV x) es 0 = none)
  | [] => .inl ⟨rfl, rfl⟩
  | e :: es => .inr ⟨by simp, by simp [Instr.findNow, Instr.sameNow]⟩
theorem run_find_k {es : List MapEntry} {E : List (List Int × (Nat → Bool))} (h : es.map (fun e => (e.key, e.val)) = E.map (fun p => (kV p.1, bV p.2))) (x : List Int) (hx : ∀ p, p ∈ E → kEq x p.1 = false) (w : World) :
    (Instr.findKey 105 (kV x) es).run Try.prog w = .ok none w := by
  have hr := find_len h x hx w 0
  unfold Instr.findKey
  simp only [Sem.run_bind, run_underlying u105, Result.andThen_ok]
  rcases findNow_k x es with ⟨rfl, h1⟩ | ⟨_, h1⟩
  · rw [h1]
    rfl
  · rw [h1]
    exact hr
theorem put_k {w : World} {cm : Nat} {E : List (List Int × (Nat → Bool))} (h : MapIs w cm E) (x : List Int) (f : Nat → Bool) (hx : ∀ p, p ∈ E → kEq x p.1 = false) :
    ∃ w', (Instr.mapUpdate 145 (.map (some cm)) (kV x) (bV f)).run Try.prog w = .ok () w' ∧ MapIs w' cm (E ++ [(x, f)]) ∧ ∃ o, w' = w.putObj cm o := by
  obtain ⟨es, clock, hb, he, hst⟩ := h
  have hr := run_find_k he x hx w
  have hc := fun em => run_check_k em x w
  have hg : (getObj cm).run Try.prog w = .ok (.map es clock) w := MapKept.run_getObj_map hb
  refine ⟨w.putObj cm (.map (es.push { key := kV x, val := bV f, born := clock }) (clock + 1)), ?_, ⟨es.push { key := kV x, val := bV f, born := clock }, clock + 1, by unfold World.putObj; simp [(Array.getElem?_eq_some_iff.1 hb).1], ?_, ?_⟩, _, rfl⟩
  · unfold Instr.mapUpdate
    simp only [Sem.run_bind, run_underlying u145, Result.andThen_ok, hg, hc, hr, Sem.run_pure]
    exact MapKept.run_setObj_map _ hb
  · simp [he]
  · refine MapKept.stamped_push hst fun y hy e => ?_
    have hm : (y.key, y.val) ∈ es.toList.map (fun e => (e.key, e.val)) := List.mem_map.2 ⟨y, hy, rfl⟩
    rw [he] at hm
    obtain ⟨p, hp, hpe⟩ := List.mem_map.1 hm
    simp only [Prod.mk.injEq] at hpe
    have h1 := hx p hp
    rw [kEq_same (hpe.1.trans e)] at h1
    cases h1
end Go.Proofs.Ytfijaafkagcmmaa
namespace Go.Proofs.Ytfijaafkagcmmaa
open Go.RowKit Go.Shelf
attribute [local irreducible] arrV wpQuiet

def withS (f : Nat → Bool) (i : Nat) : Nat → Bool := fun j => f j || j == i
def withinS (s o : Nat → Bool) : Bool := allN (fun i => !(s i && !o i)) 6
def listS (f : Nat → Bool) (n : Nat) : List Int := ((List.range n).filter f).map (fun i : Nat => (i : Int))
theorem listS_yes {f : Nat → Bool} {k : Nat} (h : f k = true) : listS f (k + 1) = listS f k ++ [(k : Int)] := by
  simp [listS, List.range_succ, List.filter_append, h]
theorem listS_no {f : Nat → Bool} {k : Nat} (h : f k = false) : listS f (k + 1) = listS f k := by
  simp [listS, List.range_succ, List.filter_append, h]
theorem listS_len (f : Nat → Bool) (k : Nat) : (listS f k).length ≤ k := by
  have := List.length_filter_le f (List.range k)
  simpa [listS] using this

set_option maxRecDepth 100000 in
set_option maxHeartbeats 1000000 in
theorem with_any (f : Nat → Bool) (i : Nat) (hi : i < 6) (w : World) :
    Calls Try.prog 94 #[bV f, .int .i64 i] w fun e w' => e = .returned (bV (withS f i)) ∧ Below w.heap.size w w' := by
  unfold bV withS
  generalize f 0 = b0
  generalize f 1 = b1
  generalize f 2 = b2
  generalize f 3 = b3
  generalize f 4 = b4
  generalize f 5 = b5
  have hcase : i = 0 ∨ i = 1 ∨ i = 2 ∨ i = 3 ∨ i = 4 ∨ i = 5 := by omega
  rcases hcase with rfl | rfl | rfl | rfl | rfl | rfl
  · clear hi
    go_enter Try.func94, Try.ntmps94
    go_wp2
    refine bodyPost_ret (v := .agg #[.bool (b0 || 0 == 0), .bool (b1 || 1 == 0), .bool (b2 || 2 == 0), .bool (b3 || 3 == 0), .bool (b4 || 4 == 0), .bool (b5 || 5 == 0)]) ?_ rfl ⟨rfl, below2 w _ _⟩
    simp [results, Try.results94, go_sem]
  · clear hi
    go_enter Try.func94, Try.ntmps94
    go_wp2
    refine bodyPost_ret (v := .agg #[.bool (b0 || 0 == 1), .bool (b1 || 1 == 1), .bool (b2 || 2 == 1), .bool (b3 || 3 == 1), .bool (b4 || 4 == 1), .bool (b5 || 5 == 1)]) ?_ rfl ⟨rfl, below2 w _ _⟩
    simp [results, Try.results94, go_sem]
  · clear hi
    go_enter Try.func94, Try.ntmps94
    go_wp2
    refine bodyPost_ret (v := .agg #[.bool (b0 || 0 == 2), .bool (b1 || 1 == 2), .bool (b2 || 2 == 2), .bool (b3 || 3 == 2), .bool (b4 || 4 == 2), .bool (b5 || 5 == 2)]) ?_ rfl ⟨rfl, below2 w _ _⟩
    simp [results, Try.results94, go_sem]
  · clear hi
    go_enter Try.func94, Try.ntmps94
    go_wp2
    refine bodyPost_ret (v := .agg #[.bool (b0 || 0 == 3), .bool (b1 || 1 == 3), .bool (b2 || 2 == 3), .bool (b3 || 3 == 3), .bool (b4 || 4 == 3), .bool (b5 || 5 == 3)]) ?_ rfl ⟨rfl, below2 w _ _⟩
    simp [results, Try.results94, go_sem]
  · clear hi
    go_enter Try.func94, Try.ntmps94
    go_wp2
    refine bodyPost_ret (v := .agg #[.bool (b0 || 0 == 4), .bool (b1 || 1 == 4), .bool (b2 || 2 == 4), .bool (b3 || 3 == 4), .bool (b4 || 4 == 4), .bool (b5 || 5 == 4)]) ?_ rfl ⟨rfl, below2 w _ _⟩
    simp [results, Try.results94, go_sem]
  · clear hi
    go_enter Try.func94, Try.ntmps94
    go_wp2
    refine bodyPost_ret (v := .agg #[.bool (b0 || 0 == 5), .bool (b1 || 1 == 5), .bool (b2 || 2 == 5), .bool (b3 || 3 == 5), .bool (b4 || 4 == 5), .bool (b5 || 5 == 5)]) ?_ rfl ⟨rfl, below2 w _ _⟩
    simp [results, Try.results94, go_sem]

theorem bits {w : World} {b : Nat} {f : Nat → Bool} (h : w.heap[b]? = some (.cells #[.bool (f 0), .bool (f 1), .bool (f 2), .bool (f 3), .bool (f 4), .bool (f 5)] 138 (0, 0))) : ∀ q, q < 6 → w.cell? ⟨b, q, none⟩ = some (.bool (f q)) := fun q hq => by
  rw [cell_of_row w b q _ _ _ h]
  match q, hq with
  | 0, _ => rfl
  | 1, _ => rfl
  | 2, _ => rfl
  | 3, _ => rfl
  | 4, _ => rfl
  | 5, _ => rfl
  | n + 6, h => omega

set_option maxRecDepth 100000 in
set_option maxHeartbeats 1000000 in
theorem isWithin_any (s o : Nat → Bool) (w : World) :
    Calls Try.prog 108 #[bV s, bV o] w fun e w' => e = .returned (.bool (withinS s o)) ∧ Below w.heap.size w w' := by
  have hbb := below2 w (.cells #[.bool (s 0), .bool (s 1), .bool (s 2), .bool (s 3), .bool (s 4), .bool (s 5)] 138) (.cells #[.bool (o 0), .bool (o 1), .bool (o 2), .bool (o 3), .bool (o 4), .bool (o 5)] 138)
  obtain ⟨y0, y1⟩ := box2 w (.cells #[.bool (s 0), .bool (s 1), .bool (s 2), .bool (s 3), .bool (s 4), .bool (s 5)] 138) (.cells #[.bool (o 0), .bool (o 1), .bool (o 2), .bool (o 3), .bool (o 4), .bool (o 5)] 138)
  have hA4 := @allN_yes (fun i => !(s i && !o i)) 6
  have hN4 := fun j => @allN_no (fun i => !(s i && !o i)) 6 j
  change _ → withinS s o = true at hA4
  change ∀ j, j < 6 → _ → withinS s o = false at hN4
  have HA4 := Lib.hid hA4
  have HN4 := Lib.hid hN4
  have HC0 := Lib.hid (bits y0)
  have HC1 := Lib.hid (bits y1)
  have HB := Lib.hid hbb
  unfold bV
  generalize withinS s o = z at *
  clear hbb y0 y1 hA4 hN4
  go_enter Try.func108, Try.ntmps108
  go_wp2
  generalize World.alloc (World.alloc w _) _ = W at *
  have HBW := HB
  go_loopw [6] (fun i wr => ∃ q : Nat, q ≤ 6 ∧ i = .int .i64 q ∧ wr = W ∧ Hid (∀ j, j < q → (!(s j && !o j)) = true)) (fun i _ => 6 - (intOf i).toNat)
  case atStart => exact ⟨0, Nat.zero_le _, rfl, rfl, Lib.hid (fun j hj => by omega)⟩
  case round =>
    obtain ⟨q, hq, rfl, rfl, hg⟩ := hrel
    by_cases hlt : q < 6
    · have hqn : (q : Int) < 6 := by omega
      have hw9 : IntKind.i64.wrap ((q : Int) + 1) = (q : Int) + 1 := IntWalk.i64_in _ (by omega)
      have d0 := HC0.out q hlt
      have d1 := HC1.out q hlt
      have l0 := block_lt_of_cell d0
      have l1 := block_lt_of_cell d1
      have HNQ := Lib.hid (HN4.out q hlt)
      have HGQ : Hid ((!(s q && !o q)) = true → ∀ j, j < q + 1 → (!(s j && !o j)) = true) := Lib.hid fun h j hj => by
        by_cases e : j = q
        · rw [e]; exact h
        · exact hg.out j (by omega)
      clear hg
      generalize s q = sq at *
      generalize o q = oq at *
      cases sq with
      | false =>
        have HZ := Lib.hid (HGQ.out rfl)
        clear HNQ HGQ
        go_wp2
        go_roundw
        case rel => exact ⟨q + 1, by omega, by simp, trivial, HZ⟩
        case measure => simp [intOf]; omega
      | true =>
        cases oq with
        | true =>
          have HZ := Lib.hid (HGQ.out rfl)
          clear HNQ HGQ
          go_wp2
          go_roundw
          case rel => exact ⟨q + 1, by omega, by simp, trivial, HZ⟩
          case measure => simp [intOf]; omega
        | false =>
          have HZ := Lib.hid (HNQ.out rfl)
          clear HNQ HGQ
          go_wp2
          go_ret
          exact ⟨by rw [HZ.out]; rfl, HB.out⟩
    · obtain rfl : q = 6 := by omega
      have HZ := Lib.hid (HA4.out hg.out)
      go_wp2
      go_ret
      exact ⟨by rw [HZ.out]; rfl, HB.out⟩
end Go.Proofs.Ytfijaafkagcmmaa
namespace Go.Proofs.Ytfijaafkagcmmaa
open Go.RowKit Go.Shelf
attribute [local irreducible] arrV wpQuiet

theorem own_ints0 {w : World} {base : Nat} {v : Value} {t : List Int} (h : w.ownsRow base 3 1 v t.length (t.map (Value.int .i64))) : IntsV w.heap.size w v t := by
  by_cases h0 : 0 < t.length
  · exact own_ints h h0
  · rcases h.2 with ⟨hv, hz⟩ | ⟨g, cap, cur, hv, hb, hg, hn', _, hs, ht⟩
    · exact ⟨none, 0, by rw [hv, hz], by omega, fun h => absurd h h0⟩
    · exact ⟨_, cap, hv, hn', fun h => absurd h h0⟩

set_option maxRecDepth 100000 in
set_option maxHeartbeats 1000000 in
theorem listS_any (f : Nat → Bool) (w : World) :
    Calls Try.prog 95 #[bV f] w fun e w' => (∃ v, e = .returned v ∧ IntsV w'.heap.size w' v (listS f 6)) ∧ Below w.heap.size w w' := by
  have HX := Lib.hid (heap_alloc_new w (.cells #[.bool (f 0), .bool (f 1), .bool (f 2), .bool (f 3), .bool (f 4), .bool (f 5)] 138))
  have HB := Lib.hid (box_below w (.cells #[.bool (f 0), .bool (f 1), .bool (f 2), .bool (f 3), .bool (f 4), .bool (f 5)] 138))
  unfold bV
  go_enter Try.func95, Try.ntmps95
  go_wp2
  generalize World.alloc w _ = W at *
  go_loopw [3, 5] (fun v i wr => ∃ q : Nat, q ≤ 6 ∧ i = .int .i64 q ∧ Hid (wr.heap[w.heap.size]? = some (.cells #[.bool (f 0), .bool (f 1), .bool (f 2), .bool (f 3), .bool (f 4), .bool (f 5)] 138 (0, 0))) ∧ Hid (Below w.heap.size w wr) ∧ Hid (wr.ownsRow (w.heap.size + 1) 3 1 v (listS f q).length ((listS f q).map (Value.int .i64)))) (fun _ i _ => 6 - (intOf i).toNat)
  case atStart => exact ⟨0, Nat.zero_le _, rfl, HX, HB, Lib.hid (World.ownsRow_nil _ _ _ _)⟩
  case round =>
    clear HX HB
    obtain ⟨q, hq, rfl, HX, HB, HO⟩ := hrel
    by_cases hlt : q < 6
    · have hqn : (q : Int) < 6 := by omega
      have hw9 : IntKind.i64.wrap ((q : Int) + 1) = (q : Int) + 1 := IntWalk.i64_in _ (by omega)
      have d0 := bits HX.out q hlt
      have l0 := block_lt_of_cell d0
      have HLY := Lib.hid fun h => @listS_yes f q h
      have HLN := Lib.hid fun h => @listS_no f q h
      have HLEN := Lib.hid (listS_len f q)
      have hl0 : w.heap.size < wr.heap.size := lt_of_block HX.out
      generalize f q = sq at *
      cases sq with
      | false =>
        have HE := Lib.hid (HLN.out rfl)
        clear HLY HLN
        go_wp2
        go_roundw
        case rel => exact ⟨q + 1, by omega, by simp, HX, HB, by rw [HE.out]; exact HO⟩
        case measure => simp [intOf]; omega
      | true =>
        have HE := Lib.hid (HLY.out rfl)
        clear HLY HLN
        go_wp2_with (first
          | (refine wpList_app el26 rfl (.tmp 11) (.tmp 13) rfl (w.heap.size + 1) _ _ _ #[.int .i64 q] rfl (by intro u hu; simp at hu; subst hu; rfl) rfl rfl HO.out (by omega) (by have := HLEN.out; omega) ?_
             intro g c w' hown hgr _)
          | fail)
        go_roundw
        case rel =>
          refine ⟨q + 1, by omega, by simp, Lib.hid ((hgr.below.block _ (by omega)).trans HX.out), Lib.hid (HB.out.trans (hgr.below.mono (by omega))), Lib.hid ?_⟩
          rw [HE.out, List.length_append, List.map_append]
          exact hown
        case measure => simp [intOf]; omega
    · obtain rfl : q = 6 := by omega
      go_wp2
      go_ret
      exact ⟨⟨_, rfl, own_ints0 HO.out⟩, HB.out⟩

def forbS (rs : List Rn) (x : List Int) : Nat → Bool := fun i => decide (i < rs.length) && !fitsB (rn rs i) x
def forbT (rs : List Rn) (x : List Int) (k : Nat) : Nat → Bool := fun i => decide (i < k) && !fitsB (rn rs i) x
theorem forbT_step (rs : List Rn) (x : List Int) (k i : Nat) : forbT rs x (k + 1) i = if i = k then !fitsB (rn rs k) x else forbT rs x k i := by
  unfold forbT
  by_cases h : i = k
  · subst h
    simp
  · rw [if_neg h]
    congr 1
    apply decide_eq_decide.2
    omega

def bA (f : Nat → Bool) : Array Value := #[.bool (f 0), .bool (f 1), .bool (f 2), .bool (f 3), .bool (f 4), .bool (f 5)]
theorem bA_step {f g : Nat → Bool} {k : Nat} {b : Bool} (h : ∀ i, g i = if i = k then b else f i) (hk : k < 6) : (bA f).setIfInBounds k (.bool b) = bA g := by
  unfold bA
  rw [h 0, h 1, h 2, h 3, h 4, h 5]
  match k, hk with
  | 0, _ => simp
  | 1, _ => simp
  | 2, _ => simp
  | 3, _ => simp
  | 4, _ => simp
  | 5, _ => simp
  | n + 6, h => omega

set_option maxRecDepth 100000 in
set_option maxHeartbeats 2000000 in
theorem forbidding_any (n : Nat) (nb : Nat) (rv : Value) (rs : List Rn) (x : List Int) (w : World) (hx : x.length ≤ 3) (hr : Rates x) (hnb : nb ≤ 3) (hK : ∀ r, r ∈ rs → RnOk nb r) (hl : rs.length ≤ 6) (hR : RunsV n w rv rs) (hn : n ≤ w.heap.size) :
    Calls Try.prog 106 #[rv, .agg (arrV (pad3 x))] w fun e w' => e = .returned (bV (forbS rs x)) ∧ Below w.heap.size w w' := by
  have HF := Lib.hid fun q (hq : q < rs.length) sv w' (h : Below w.heap.size w w') (hs : SegsV n w' sv (rn rs q).ss) => by
    have := fits_any n nb (pad3 x) sv (rn rs q) w' (pad3_len hx) (rates_pad hr) hnb (hK _ (rn_mem hq)) hs (Nat.le_trans hn h.size)
    rw [fits_pad] at this
    exact this
  obtain ⟨ra, rcap, rfl, hp⟩ := hR
  have HP := Lib.hid hp
  have HSTEP := Lib.hid (forbT_step rs x)
  have HEND : Hid (forbS rs x = forbT rs x rs.length) := Lib.hid rfl
  rw [HEND.out, kV_arr hx]
  rw [kV_arr hx] at HF
  unfold kV at HF ⊢
  generalize ld x 0 = x0 at *
  generalize ld x 1 = x1 at *
  generalize ld x 2 = x2 at *
  obtain ⟨y0, y1, y2⟩ := box3 w (.cells #[.int .i64 x0, .int .i64 x1, .int .i64 x2] 105) (.cells #[.bool false, .bool false, .bool false, .bool false, .bool false, .bool false] 138) (.cells #[.bool false, .bool false, .bool false, .bool false, .bool false, .bool false] 138)
  have hbb := below3 w (.cells #[.int .i64 x0, .int .i64 x1, .int .i64 x2] 105) (.cells #[.bool false, .bool false, .bool false, .bool false, .bool false, .bool false] 138) (.cells #[.bool false, .bool false, .bool false, .bool false, .bool false, .bool false] 138)
  have Y0 := Lib.hid y0
  have Y1 := Lib.hid y1
  have Y2 : Hid (_ = some (Obj.cells (bA (forbT rs x 0)) 138 (0, 0))) := Lib.hid (y2.trans (by simp [bA, forbT]))
  have HB := Lib.hid hbb
  clear hp y0 y1 y2 hbb hr hK
  go_enter Try.func106, Try.ntmps106
  go_wp2
  generalize World.alloc (World.alloc (World.alloc w _) _) _ = W at *
  go_loopw [10] (fun i wr => ∃ q : Nat, q ≤ rs.length ∧ i = .int .i64 q ∧ Hid (wr.heap[w.heap.size]? = some (.cells #[.int .i64 x0, .int .i64 x1, .int .i64 x2] 105 (0, 0))) ∧ Hid (wr.heap[w.heap.size + 1]? = some (.cells #[.bool false, .bool false, .bool false, .bool false, .bool false, .bool false] 138 (0, 0))) ∧ Hid (wr.heap[w.heap.size + 1 + 1]? = some (.cells (bA (forbT rs x q)) 138 (0, 0))) ∧ Hid (Below w.heap.size w wr)) (fun i _ => rs.length - (intOf i).toNat)
  case atStart => exact ⟨0, Nat.zero_le _, rfl, Y0, Y1, Y2, HB⟩
  case round =>
    clear Y0 Y1 Y2 HB
    obtain ⟨q, hq, rfl, Y0, Y1, Y2, HB⟩ := hrel
    by_cases hlt : q < rs.length
    · obtain ⟨b2, off2, rfl, hbn2, hc2⟩ := HP.out (by omega)
      obtain ⟨sv, s1, s2, s3, s4⟩ := hc2 q hlt
      have s4' := s4
      obtain ⟨sa, scap, rfl, -⟩ := s4'
      have hltb2 : b2 < w.heap.size := by omega
      have u1 := (HB.out.cell (p := ⟨b2, off2 + q * 3, none⟩) hltb2).trans s1
      have u2 := (HB.out.cell (p := ⟨b2, off2 + q * 3 + 1, none⟩) hltb2).trans s2
      have u3 := (HB.out.cell (p := ⟨b2, off2 + q * 3 + 2, none⟩) hltb2).trans s3
      have lsb : b2 < wr.heap.size := by have := HB.out.size; omega
      have hqn : (q : Int) < rs.length := by omega
      have hq6 : (q : Int) < 6 := by omega
      have hw9 : IntKind.i64.wrap ((q : Int) + 1) = (q : Int) + 1 := IntWalk.i64_in _ (by omega)
      have HS4 := Lib.hid fun w' (h : Below w.heap.size w w') => s4.same (.below hn h)
      have HFQ := Lib.hid (HF.out q hlt (.slice sa (rn rs q).ss.length scap))
      have c0 := cell_of_row wr w.heap.size 0 _ _ _ Y0.out
      have c1 := cell_of_row wr w.heap.size 1 _ _ _ Y0.out
      have c2 := cell_of_row wr w.heap.size 2 _ _ _ Y0.out
      simp only [List.getElem?_toArray, List.getElem?_cons_zero, List.getElem?_cons_succ] at c0 c1 c2
      have l0 := lt_of_block Y0.out
      have HSQ := Lib.hid fun (b : Bool) (hb : (!fitsB (rn rs q) x) = b) (hk : q < 6) => @bA_step (forbT rs x q) (forbT rs x (q + 1)) q b (fun i => by rw [HSTEP.out q i, hb]) hk
      generalize (rn rs q).seen.lo = slo at *
      generalize (rn rs q).seen.hi = shi at *
      generalize fitsB (rn rs q) x = z at *
      clear hc2 s1 s2 s3 s4
      go_wp2_with fail
      have hn2 := heap_alloc_new wr (.cells #[.slice sa (rn rs q).ss.length scap, .int .i64 slo, .int .i64 shi] 78)
      have hb2 := box_below wr (.cells #[.slice sa (rn rs q).ss.length scap, .int .i64 slo, .int .i64 shi] 78)
      replace Y0 := Lib.hid ((hb2.block _ (lt_of_block Y0.out)).trans Y0.out)
      replace Y1 := Lib.hid ((hb2.block _ (lt_of_block Y1.out)).trans Y1.out)
      replace Y2 := Lib.hid ((hb2.block _ (lt_of_block Y2.out)).trans Y2.out)
      replace HB := Lib.hid (below_to HB.out hb2)
      clear hn2 hb2 u1 u2 u3 c0 c1 c2 l0 lsb
      generalize World.alloc wr _ = w1 at *
      refine (HFQ.out w1 HB.out (HS4.out w1 HB.out)).mono ?_
      rintro e w2 ⟨rfl, hb⟩
      replace Y0 := Lib.hid ((hb.block _ (lt_of_block Y0.out)).trans Y0.out)
      replace Y1 := Lib.hid ((hb.block _ (lt_of_block Y1.out)).trans Y1.out)
      replace Y2 := Lib.hid ((hb.block _ (lt_of_block Y2.out)).trans Y2.out)
      replace HB := Lib.hid (below_to HB.out hb)
      clear hb
      have cq := bits Y2.out q (by omega)
      have fq := frozen_of_row w2 (w.heap.size + 1 + 1) q _ _ Y2.out
      have l2 := lt_of_block Y2.out
      have hz := heap_setCell_same w2 (w.heap.size + 1 + 1) q _ _ (.bool (!z)) Y2.out
      rw [HSQ.out (!z) rfl (by omega)] at hz
      have HZ := Lib.hid hz
      have HZ0 := Lib.hid ((heap_setCell_other w2 ⟨w.heap.size + 1 + 1, q, none⟩ w.heap.size (.bool (!z)) (by show w.heap.size ≠ w.heap.size + 1 + 1; omega)).trans Y0.out)
      have HZ1 := Lib.hid ((heap_setCell_other w2 ⟨w.heap.size + 1 + 1, q, none⟩ (w.heap.size + 1) (.bool (!z)) (by show w.heap.size + 1 ≠ w.heap.size + 1 + 1; omega)).trans Y1.out)
      have HZB := Lib.hid (HB.out.setCell (p := ⟨w.heap.size + 1 + 1, q, none⟩) (by show w.heap.size ≤ w.heap.size + 1 + 1; omega) (.bool (!z)))
      clear hz HFQ HS4 HF HSTEP HSQ
      go_wp2
      go_roundw
      case rel => exact ⟨q + 1, by omega, by simp, HZ0, HZ1, HZ, HZB⟩
      case measure => simp [intOf]; omega
    · obtain rfl : q = rs.length := by omega
      have HBT := Lib.hid (bits Y2.out)
      have b0 := HBT.out 0 (by decide)
      have b1 := HBT.out 1 (by decide)
      have b2 := HBT.out 2 (by decide)
      have b3 := HBT.out 3 (by decide)
      have b4 := HBT.out 4 (by decide)
      have b5 := HBT.out 5 (by decide)
      have l2 := lt_of_block Y2.out
      have l1 := lt_of_block Y1.out
      have e0 := cell_of_row wr (w.heap.size + 1) 0 _ _ _ Y1.out
      have e1 := cell_of_row wr (w.heap.size + 1) 1 _ _ _ Y1.out
      have e2 := cell_of_row wr (w.heap.size + 1) 2 _ _ _ Y1.out
      have e3 := cell_of_row wr (w.heap.size + 1) 3 _ _ _ Y1.out
      have e4 := cell_of_row wr (w.heap.size + 1) 4 _ _ _ Y1.out
      have e5 := cell_of_row wr (w.heap.size + 1) 5 _ _ _ Y1.out
      simp only [List.getElem?_toArray, List.getElem?_cons_zero, List.getElem?_cons_succ] at e0 e1 e2 e3 e4 e5
      have f0 := frozen_of_row wr (w.heap.size + 1) 0 _ _ Y1.out
      have f1 := frozen_of_row wr (w.heap.size + 1) 1 _ _ Y1.out
      have f2 := frozen_of_row wr (w.heap.size + 1) 2 _ _ Y1.out
      have f3 := frozen_of_row wr (w.heap.size + 1) 3 _ _ Y1.out
      have f4 := frozen_of_row wr (w.heap.size + 1) 4 _ _ Y1.out
      have f5 := frozen_of_row wr (w.heap.size + 1) 5 _ _ Y1.out
      clear HF HSTEP HEND Y0 Y1 Y2 HBT
      go_wp2
      refine bodyPost_ret (v := bV (forbT rs x rs.length)) ?_ rfl ⟨rfl, ?_⟩
      · unfold bV
        simp [results, Try.results106, go_sem, *]
      · exact (((((HB.out.setCell (p := ⟨w.heap.size + 1, 0, none⟩) (Nat.le_succ _) _).setCell (p := ⟨w.heap.size + 1, 1, none⟩) (Nat.le_succ _) _).setCell (p := ⟨w.heap.size + 1, 2, none⟩) (Nat.le_succ _) _).setCell (p := ⟨w.heap.size + 1, 3, none⟩) (Nat.le_succ _) _).setCell (p := ⟨w.heap.size + 1, 4, none⟩) (Nat.le_succ _) _).setCell (p := ⟨w.heap.size + 1, 5, none⟩) (Nat.le_succ _) _
end Go.Proofs.Ytfijaafkagcmmaa
namespace Go.Proofs.Ytfijaafkagcmmaa
open Go.RowKit Go.Shelf
attribute [local irreducible] arrV wpQuiet
attribute [local go_sem] Oper.semAt_some

theorem nodup_up (lo hi : Int) : (upFrom lo hi).Nodup := by
  unfold upFrom
  rw [List.Nodup, List.pairwise_map]
  exact (List.nodup_range).imp fun h e => h (by omega)
theorem nodup_lists : ∀ (ms : List Rg) (l : Int), (listsL ms l).Nodup
  | [], _ => by simp [listsL]
  | r :: rs, l => by
    unfold listsL
    rw [List.Nodup, List.pairwise_flatMap]
    refine ⟨fun a _ => ?_, ?_⟩
    · rw [List.pairwise_map]
      exact (nodup_lists rs a).imp fun h e => h (by simpa using e)
    · refine (nodup_up _ _).imp fun {a b} hab x hx y hy e => ?_
      obtain ⟨x', _, rfl⟩ := List.mem_map.1 hx
      obtain ⟨y', _, rfl⟩ := List.mem_map.1 hy
      exact hab (List.cons.inj e).1
def mapE (rs : List Rn) (L : List (List Int)) : List (List Int × (Nat → Bool)) := L.map fun x => (x, forbS rs x)
theorem fresh_key {ms : List Rg} {rs : List Rn} {pre : List (List Int)} {t : List Int} (h : pre ++ [t] <+: allL ms) (h3 : ms.length ≤ 3) : ∀ p, p ∈ mapE rs pre → kEq t p.1 = false := fun p hp => by
  obtain ⟨x, hx, rfl⟩ := List.mem_map.1 hp
  have hnd := (nodup_lists ms 0).sublist h.sublist
  have hne : t ≠ x := fun e => by
    rw [List.nodup_append] at hnd
    exact hnd.2.2 x hx t (by simp) e.symm
  have hmt : t ∈ allL ms := h.subset (by simp)
  have hmx : x ∈ allL ms := h.subset (by simp [hx])
  cases hk : kEq t x with
  | false => rfl
  | true => exact absurd (kEq_of (by rw [len_of hmt, len_of hmx]) (by rw [len_of hmt]; exact h3) hk) hne
theorem mapE_snoc (rs : List Rn) (L : List (List Int)) (x : List Int) : mapE rs (L ++ [x]) = mapE rs L ++ [(x, forbS rs x)] := by simp [mapE]
theorem MapIs.same {w w' : World} {cm : Nat} {E : List (List Int × (Nat → Bool))} (h : MapIs w cm E) (hb : w'.heap[cm]? = w.heap[cm]?) : MapIs w' cm E := by
  obtain ⟨es, clock, h1, h2, h3⟩ := h
  exact ⟨es, clock, hb.trans h1, h2, h3⟩
theorem exec_put_run {a : Act} {o : Oper} {w w' : World} (m x v : Operand) (ho : o.op = Op.mapUpdate 145 m x v) (M X V : Value) (hm : a.eval m = M) (hx : a.eval x = X) (hv : a.eval v = V)
    (hr : (Instr.mapUpdate 145 M X V).run Try.prog w = .ok () w') : (execOp a.eval o).run Try.prog w = .ok .skip w' := by
  simp [execOp, ho, hm, hx, hv, hr, Result.andThen]

set_option maxRecDepth 100000 in
set_option maxHeartbeats 4000000 in
theorem without_any (n : Nat) (mv rv : Value) (ms : List Rg) (rs : List Rn) (w : World) (hK : RoomOk ms rs) (hV : RoomV n w mv rv ms rs) :
    Calls Try.prog 92 #[.agg #[mv, rv]] w fun e w' => (∃ Bm cm, e = .returned (.func (.func 107) #[] #[.pointer (some ⟨Bm, 0, none⟩)]) ∧ w'.heap[Bm]? = some (.cells #[.map (some cm)] 145 (0, 0)) ∧ MapIs w' cm (mapE rs (allL ms)) ∧ w.heap.size ≤ Bm ∧ w.heap.size ≤ cm) ∧ Below w.heap.size w w' := by
  have hn := hV.lt
  have hlen := hK.mat.len
  have HAL := Lib.hid fun w' (h : Below w.heap.size w w') => all_any n mv ms w' hK.mat.toRgsOk (hV.below h).m (hV.below h).lt
  have HFO := Lib.hid fun t (ht : t ∈ allL ms) w' (hs : Same n w w') (hn' : n ≤ w'.heap.size) => forbidding_any n ms.length rv rs t w' (by rw [len_of ht]; exact hlen) (rates_of ht hK.mat.toRgsOk) hlen hK.rn hK.len (hV.r.same hs) hn'
  obtain ⟨am, capm, rfl, -⟩ := hV.m
  obtain ⟨ar, capr, rfl, -⟩ := hV.r
  have hmm := @run_makeMap Try.prog
  refine (callsIn_wide (n := 0)).1 ?_
  refine callsIn_of_wp_marks Try.func92 rfl trivial ?_ rfl
  simp only [Try.ntmps92, List.size_toArray, List.length_cons, List.length_nil, Nat.reduceAdd, Nat.reduceSub, Array.replicate_succ, Array.replicate_zero, List.push_toArray, List.append_toArray, List.nil_append, List.cons_append]
  gi_wp2_with fail
  refine ⟨trivial, rfl, ?_⟩
  obtain ⟨W3, hW3⟩ : ∃ W3, ((w.alloc (.cells #[.slice am ms.length capm, .slice ar rs.length capr] 100)).alloc (.map #[] 0)).alloc (.cells #[.map (some (w.heap.size + 1))] 145) = W3 := ⟨_, rfl⟩
  have hb3 : Below w.heap.size w W3 := by rw [← hW3]; exact below3 w _ _ _
  obtain ⟨y0, y1, y2⟩ := box3 w (.cells #[.slice am ms.length capm, .slice ar rs.length capr] 100) (.map #[] 0) (.cells #[.map (some (w.heap.size + 1))] 145)
  rw [hW3] at y0 y1 y2
  rw [hW3]
  refine (callsIn_wide.2 (HAL.out W3 hb3)).mono ?_
  rintro e w1 ⟨Bo, rfl, hb1, hm1, hm2, hseq⟩
  have hs1 := hb1.size
  have hs3 := lt_of_block y2
  have Z0 := Lib.hid ((hb1.block _ (lt_of_block y0)).trans y0)
  have Z1 := Lib.hid ((hb1.block _ (Array.getElem?_eq_some_iff.1 y1).1).trans y1)
  have Z2 := Lib.hid ((hb1.block _ (lt_of_block y2)).trans y2)
  have HB1 := Lib.hid (below_to hb3 hb1)
  have HSEQ := Lib.hid hseq
  have hsz : w.heap.size + 3 ≤ w1.heap.size := by omega
  have hs3' : w.heap.size + 3 ≤ W3.heap.size := by omega
  clear hb1 hseq y0 y1 y2 hW3 hs1
  gi_wp2
  refine wp_rangeD rfl (fun _ _ => rfl) HSEQ.out (Below.refl _ w1) (fun _ => rfl) (fun k => k = w.heap.size + 1) ?t0 ?hc
    (fun T pre A => T (w.heap.size + 1) ∧ MapIs A (w.heap.size + 1) (mapE rs pre))
    (fun c T pre A => False)
    ?ir (fun _ _ _ _ _ h => h.elim) ?h0
    (fun t a' A => ∃ Bx, w1.heap.size + 2 ≤ Bx ∧ A.heap[Bx]? = some (.cells (arrV (pad3 t)) 105 (0, 0)) ∧ a' = { tmps := #[.agg #[.slice am ms.length capm, .slice ar rs.length capr], .pointer (some ⟨w.heap.size, 0, none⟩), .nilFunc, .pointer (some ⟨w.heap.size + 1 + 1, 0, none⟩), .pointer (some ⟨Bx, 0, none⟩), .map (some (w.heap.size + 1)), .pointer (some ⟨w.heap.size, 0, none⟩), .agg #[.slice am ms.length capm], .func (.func 98) #[] #[.pointer (some ⟨Bo, 0, none⟩)], .agg (arrV (pad3 t)), undef, undef, undef, undef, undef, undef, undef], defers := [] })
    ?ax ?assign ?body ?done (fun _ _ _ _ _ h => h.elim)
  case t0 =>
    rintro k rfl
    exact ⟨by omega, fun h => by rcases h with h | h <;> omega⟩
  case hc =>
    intro k hk
    rcases hk with h | h <;> omega
  case ir =>
    rintro T s A B ⟨h1, h2⟩ hR
    exact ⟨h1, h2.same (hR.2 _ h1)⟩
  case h0 => exact ⟨rfl, #[], 0, Z1.out, rfl, MapKept.stamped_empty 0⟩
  case ax =>
    rintro t a' A o ⟨Bx, h1, h2, h3⟩
    exact ⟨Bx, h1, (World.putObj_heap_other (by omega)).trans h2, h3⟩
  case assign =>
    rintro l2 t A ht hA
    have hp3 := pad3_len (x := t) (by have := len_of ht; omega)
    have hlz : (arrV (pad3 t)).size = 3 := by rw [arrV_size, hp3]
    have HLZ := Lib.hid hlz
    have hs105 : Hid ((Try.prog.info? 105).map (·.size) = some (arrV (pad3 t)).size) := s105.trans (by rw [hlz])
    clear hlz hp3
    have hact : (#[9].zip (encX t)) = #[(9, Value.agg (arrV (pad3 t)))] := by simp [encX]
    rw [hact]
    simp only [List.foldl_toArray, Array.foldl_toList, List.foldl_cons, List.foldl_nil, List.setIfInBounds_toArray, List.set_cons_succ, List.set_cons_zero]
    gi_wp2_with (first
      | (refine wpListIn_store_gen rfl 105 (.tmp 4) (.tmp 9) rfl _ 0 (arrV (pad3 t)) rfl rfl (there_block (heap_alloc_new _ _) (by rw [HLZ.out]; exact Nat.le_refl _)) (by exact hs105.out) (arrV_one _) ?_
         intro w2 hw2
         have hbx2 : Below A.heap.size A w2 := by rw [hw2]; exact below_cells (Nat.le_refl _) _ 0 _ ((Below.refl _ A).alloc (Nat.le_refl _) _)
         have hSb : w2.heap[A.heap.size]? = some (.cells (arrV (pad3 t)) 105 (0, 0)) := by rw [hw2]; exact set_whole A.heap.size 105 _ _ _ (by rw [HLZ.out]; rfl) (heap_alloc_new A _)
         clear hw2)
      | fail)
    exact ⟨⟨A.heap.size, by omega, hSb, rfl⟩, hbx2⟩
  case body =>
    rintro l2 T pre t a' A ht hpre ⟨h1, hM⟩ hOf hb hs2 ⟨Bx, hBx, hx, rfl⟩
    have hdis : ∀ k, k < w.heap.size + 3 → k ≠ w.heap.size + 1 → ¬ withLoop (fun k => k = w.heap.size + 1) w1.heap.size k := fun k hk hne h => by
      rcases h with h | h | h <;> omega
    have k0 := (hb.block _ (by omega) (hdis w.heap.size (by omega) (by omega))).trans Z0.out
    have k2 := (hb.block _ (by omega) (hdis (w.heap.size + 1 + 1) (by omega) (by omega))).trans Z2.out
    have hSA : Same n w A := fun k hk => (hb.block k (by omega) (hdis k (by omega) (by omega))).trans (HB1.out.block k (by omega))
    have hp3 := pad3_len (x := t) (by have := len_of ht; omega)
    have hsxt : (Try.prog.info? 105).map (·.size) = some ((pad3 t).map iV).length := s105.trans (by rw [List.length_map, hp3])
    have hnA : n ≤ A.heap.size := by have := hb.size; omega
    have hkx : Bx ≠ w.heap.size + 1 := by omega
    have HFR := Lib.hid (fresh_key (rs := rs) hpre hlen)
    have HKV := Lib.hid (kV_arr (x := t) (by rw [len_of ht]; exact hlen))
    have hrx : (A.heap[Bx]? = some (.cells ((pad3 t).map iV).toArray 105 (0, 0))) := by rw [arr_list']; exact hx
    have HC : Hid (∀ w', But (fun k => k = w.heap.size + 1) A w' → w'.cell? ⟨w.heap.size + 1 + 1, 0, none⟩ = some (.map (some (w.heap.size + 1))) ∧ w'.cell? ⟨w.heap.size, 1, none⟩ = some (.slice ar rs.length capr) ∧ w'.rangeAt Bx 0 ((pad3 t).map iV) ∧ Same n w w' ∧ n ≤ w'.heap.size) := Lib.hid fun w' h => by
      have z0 := (h.block _ (lt_of_block k0) (by omega)).trans k0
      have z2 := (h.block _ (lt_of_block k2) (by omega)).trans k2
      have zx := (h.block _ (lt_of_block hrx) hkx).trans hrx
      exact ⟨cell_of_row w' _ 0 _ _ _ z2, cell_of_row w' _ 1 _ _ _ z0, range_block zx, fun k hk => (h.block k (by omega) (by omega)).trans (hSA k hk), Nat.le_trans hnA h.size⟩
    have HM := Lib.hid hM
    have HT := Lib.hid h1
    clear hM h1 hx hrx k0 k2 hSA hdis hb
    gi_wp2
    refine wpIn_region_chain_round (fun w' => But (fun k => k = w.heap.size + 1) A w') ?hlo (fun _ _ h hb => h.trans (But.of_below hb)) (But.of_below (below_drawn A)) (by kernel_rfl) ?hq
      [(false, 0), (false, 1), (false, 2), (false, 3), (false, 4), (true, 5)] [6] (by kernel_rfl) ?_
    case hlo =>
      rintro ⟨_, _, h⟩
      exact h
    case hq =>
      intro _ _ _ _ _ h
      exact h
    iterate 1
      (refine Walk.takes rfl rfl ?_; apply Exists.intro; refine ⟨fun w2 hS => ?_, ?_⟩; (obtain ⟨d0, d1, -⟩ := HC.out w2 hS; clear hS; go_simp; with_reducible rfl); simp only [List.getElem_toArray, List.getElem_cons_succ, List.getElem_cons_zero, Act.put, List.setIfInBounds_toArray, List.set_cons_zero, List.set_cons_succ])
    (refine Walk.take (v := .agg (arrV (pad3 t))) rfl rfl (fun w2 hS => exec_load_row 105 (.tmp 4) rfl Bx 0 rfl ((pad3 t).map iV) (.array 3 3) (HC.out w2 hS).2.2.1 u105 rfl hsxt (arrV (pad3 t)) (arr_list' _)) ?_; simp only [List.getElem_toArray, List.getElem_cons_succ, List.getElem_cons_zero, Act.put, List.setIfInBounds_toArray, List.set_cons_zero, List.set_cons_succ])
    iterate 2
      (refine Walk.takes rfl rfl ?_; apply Exists.intro; refine ⟨fun w2 hS => ?_, ?_⟩; (obtain ⟨d0, d1, -⟩ := HC.out w2 hS; clear hS; go_simp; with_reducible rfl); simp only [List.getElem_toArray, List.getElem_cons_succ, List.getElem_cons_zero, Act.put, List.setIfInBounds_toArray, List.set_cons_zero, List.set_cons_succ])
    (refine Walk.take (v := .agg (arrV (pad3 t))) rfl rfl (fun w2 hS => exec_load_row 105 (.tmp 4) rfl Bx 0 rfl ((pad3 t).map iV) (.array 3 3) (HC.out w2 hS).2.2.1 u105 rfl hsxt (arrV (pad3 t)) (arr_list' _)) ?_; simp only [List.getElem_toArray, List.getElem_cons_succ, List.getElem_cons_zero, Act.put, List.setIfInBounds_toArray, List.set_cons_zero, List.set_cons_succ])
    refine Walk.calls rfl rfl ?_; apply Exists.intro; apply Exists.intro; refine ⟨fun w2 hS => ?_, fun v1 hb1 => ?_⟩
    · clear hS
      go_simp
      exact ⟨rfl, rfl⟩
    have hbv : But (fun k => k = w.heap.size + 1) A v1 := (But.of_below (below_drawn A)).trans (But.of_below hb1)
    refine (HFO.out t ht v1 (HC.out v1 hbv).2.2.2.1 (HC.out v1 hbv).2.2.2.2).mono ?_
    rintro e v2 ⟨rfl, hb2⟩
    refine ⟨_, rfl, hb2, ?_⟩
    simp only [List.getElem_toArray, List.getElem_cons_succ, List.getElem_cons_zero, Act.put, List.setIfInBounds_toArray, List.set_cons_zero, List.set_cons_succ]
    refine Walk.fin fun v3 hb3 hS3 => ?_
    have hM3 : MapIs v3 (w.heap.size + 1) (mapE rs pre) := HM.out.same (((below_drawn A).trans (hb1.mono (below_drawn A).size) |>.trans (hb2.mono (Nat.le_trans (below_drawn A).size hb1.size)) |>.trans (hb3.mono (Nat.le_trans (below_drawn A).size (Nat.le_trans hb1.size hb2.size)))).block _ (by omega))
    obtain ⟨v4, hr4, hm4, ob, ho4⟩ := put_k hM3 t (forbS rs t) HFR.out
    rw [← HKV.out] at hr4
    have hb4 : But (fun k => k = w.heap.size + 1) A v4 := hS3.trans (by rw [ho4]; exact But.putObj _ _ rfl)
    refine Tail.skip rfl rfl (exec_put_run (.tmp 10) (.tmp 11) (.tmp 15) rfl _ _ _ rfl rfl rfl hr4) hb4 ?_
    simp only [List.getElem_toArray, List.getElem_cons_succ, List.getElem_cons_zero, Act.put, List.setIfInBounds_toArray, List.set_cons_zero, List.set_cons_succ]
    refine Tail.done ?_
    refine ⟨hb4.mono fun k hk => by rw [hk]; exact HT.out, .inl HT.out, ?_⟩
    rw [mapE_snoc]
    exact hm4
  case done =>
    rintro T xs A rfl ⟨h1, hM⟩ hOf hb n0 n1 hKd
    have hdis : ∀ k, k < w.heap.size + 3 → k ≠ w.heap.size + 1 → ¬ withLoop (fun k => k = w.heap.size + 1) w1.heap.size k := fun k hk hne h => by
      rcases h with h | h | h <;> omega
    have k2 := (hb.block _ (by omega) (hdis (w.heap.size + 1 + 1) (by omega) (by omega))).trans Z2.out
    have hBA : Below w.heap.size w A := ⟨hb.os.trans HB1.out.os, hb.tape.trans HB1.out.tape, hb.output.trans HB1.out.output, Nat.le_trans HB1.out.size hb.size, fun k hk => (hb.block k (by omega) (hdis k (by omega) (by omega))).trans (HB1.out.block k hk)⟩
    gi_wp2
    refine ⟨by simp, .inl ⟨_, _, rfl, run_takeDeferred hKd, ?_⟩⟩
    refine ⟨.func (.func 107) #[] #[.pointer (some ⟨w.heap.size + 1 + 1, 0, none⟩)], ?_, ⟨w.heap.size + 1 + 1, w.heap.size + 1, rfl, (World.putObj_heap_other (by omega)).trans k2, hM.same (World.putObj_heap_other (by omega)), by omega, by omega⟩, ⟨hBA.os, hBA.tape, hBA.output, by simpa using hBA.size, fun k hk => (World.putObj_heap_other (by omega)).trans (hBA.block k hk)⟩⟩
    simp [results, Try.results92, go_sem]
end Go.Proofs.Ytfijaafkagcmmaa
namespace Go.Proofs.Ytfijaafkagcmmaa
open Go.RowKit Go.Shelf Go.ChangeMaps
attribute [local irreducible] arrV wpQuiet

def seenAt (w : World) (r : Nat) : Array Nat := match w.heap[r]? with | some (.mapIter _ _ s _) => s | _ => #[]
theorem seenAt_of {w : World} {r b c d : Nat} {s : Array Nat} (h : w.heap[r]? = some (.mapIter (some b) c s d)) : seenAt w r = s := by
  unfold seenAt
  rw [h]
theorem set_below {w w1 : World} {r B : Nat} {o : Obj} (hB : B ≤ r) (hb : Below B w w1) : Below B w (setBlock w1 r o) :=
  ⟨hb.os, hb.tape, hb.output, by simpa [setBlock] using hb.size, fun k hk => by
    have h1 := hb.block k hk
    unfold setBlock
    simp only
    rw [Array.getElem?_setIfInBounds_ne (by omega)]
    exact h1⟩
theorem drew_below {w w1 : World} (h : w1 = w ∨ w1 = w.drew) : Below w.heap.size w w1 := by
  rcases h with rfl | rfl
  · exact Below.refl _ _
  · exact below_drawn w

theorem bV_within {f g o : Nat → Bool} (h : bV f = bV g) : withinS f o = withinS g o := by
  simp only [bV, Value.agg.injEq, Array.mk.injEq, List.cons.injEq, Value.bool.injEq, and_true] at h
  obtain ⟨h0, h1, h2, h3, h4, h5⟩ := h
  have e : ∀ i, i < 6 → f i = g i := fun i hi => by
    match i, hi with
    | 0, _ => exact h0
    | 1, _ => exact h1
    | 2, _ => exact h2
    | 3, _ => exact h3
    | 4, _ => exact h4
    | 5, _ => exact h5
    | n + 6, h => omega
  rw [Bool.eq_iff_iff]
  unfold withinS
  rw [allN_iff, allN_iff]
  exact ⟨fun h i hi => by rw [← e i hi]; exact h i hi, fun h i hi => by rw [e i hi]; exact h i hi⟩

set_option maxRecDepth 100000 in
set_option maxHeartbeats 2000000 in
theorem areAllowed_any (Bm cm : Nat) (E : List (List Int × (Nat → Bool))) (out : Nat → Bool) (w : World) (hB : w.heap[Bm]? = some (.cells #[.map (some cm)] 145 (0, 0))) (hM : MapIs w cm E) :
    Calls Try.prog 107 #[bV out, .pointer (some ⟨Bm, 0, none⟩)] w fun e w' => e = .returned (.bool (E.any fun p => withinS p.2 out)) ∧ Below w.heap.size w w' := by
  obtain ⟨es, clock, hb, he, hst⟩ := hM
  have HVAL : Hid (∀ x, x ∈ es.toList → ∃ p, p ∈ E ∧ x.key = kV p.1 ∧ x.val = bV p.2) := Lib.hid fun x hx => by
    have hm : (x.key, x.val) ∈ es.toList.map (fun e => (e.key, e.val)) := List.mem_map.2 ⟨x, hx, rfl⟩
    rw [he] at hm
    obtain ⟨p, hp, hpe⟩ := List.mem_map.1 hm
    simp only [Prod.mk.injEq] at hpe
    exact ⟨p, hp, hpe.1.symm, hpe.2.symm⟩
  have HBACK : Hid (∀ p, p ∈ E → ∃ x, x ∈ es.toList ∧ x.val = bV p.2) := Lib.hid fun p hp => by
    have hm : (kV p.1, bV p.2) ∈ E.map (fun p => (kV p.1, bV p.2)) := List.mem_map.2 ⟨p, hp, rfl⟩
    rw [← he] at hm
    obtain ⟨x, hx, hxe⟩ := List.mem_map.1 hm
    simp only [Prod.mk.injEq] at hxe
    exact ⟨x, hx, hxe.2⟩
  have hbx := box_below w (.cells #[.bool (out 0), .bool (out 1), .bool (out 2), .bool (out 3), .bool (out 4), .bool (out 5)] 138)
  have hx := heap_alloc_new w (.cells #[.bool (out 0), .bool (out 1), .bool (out 2), .bool (out 3), .bool (out 4), .bool (out 5)] 138)
  have hb1 := (hbx.block _ (Array.getElem?_eq_some_iff.1 hb).1).trans hb
  have hB1 := (hbx.block _ (lt_of_block hB)).trans hB
  have hrg := run_range_map (P := Try.prog) _ 145 105 138 cm es clock u145 hb1
  have c0 := cell_of_row _ Bm 0 _ _ _ hB1
  simp only [List.getElem?_toArray, List.getElem?_cons_zero] at c0
  have c0' := cell_of_row w Bm 0 _ _ _ hB
  simp only [List.getElem?_toArray, List.getElem?_cons_zero] at c0'
  have lB := lt_of_block hB
  have lcm := (Array.getElem?_eq_some_iff.1 hb).1
  have HWI := Lib.hid (isWithin_any · out)
  have HST := Lib.hid hst
  have hb2 := box_below (w.alloc (.cells #[.bool (out 0), .bool (out 1), .bool (out 2), .bool (out 3), .bool (out 4), .bool (out 5)] 138)) (.mapIter (some cm) clock #[] clock)
  have hi2 := heap_alloc_new (w.alloc (.cells #[.bool (out 0), .bool (out 1), .bool (out 2), .bool (out 3), .bool (out 4), .bool (out 5)] 138)) (.mapIter (some cm) clock #[] clock)
  have X2 := Lib.hid ((hb2.block _ (lt_of_block hx)).trans hx)
  have M2 := Lib.hid ((hb2.block _ (Array.getElem?_eq_some_iff.1 hb1).1).trans hb1)
  have I2 := Lib.hid hi2
  have B2 := Lib.hid (below_to hbx hb2)
  clear hb he hst hbx hx hb1 hB1 hb2 hi2 hB
  simp only [World.size_alloc] at I2 hrg
  unfold bV
  go_enter Try.func107, Try.ntmps107
  go_wp2
  generalize World.alloc (World.alloc w _) _ = W at *
  have HANY : Hid (∀ z, (∀ p, p ∈ E → withinS p.2 out = false) → z = false → Ending.returned (.bool z) = .returned (.bool (E.any fun p => withinS p.2 out))) := Lib.hid fun z h hz => by
    rw [hz, show (E.any fun p => withinS p.2 out) = false from List.any_eq_false.2 fun p hp => by rw [h p hp]; simp]
  have HYES : Hid (∀ p, p ∈ E → withinS p.2 out = true → Ending.returned (.bool true) = .returned (.bool (E.any fun p => withinS p.2 out))) := Lib.hid fun p hp h => by
    rw [show (E.any fun p => withinS p.2 out) = true from List.any_eq_true.2 ⟨p, hp, h⟩]
  go_loopw [] (fun wr => ∃ seen, Hid (wr.heap[w.heap.size + 1]? = some (.mapIter (some cm) clock seen clock)) ∧ Hid (wr.heap[cm]? = some (.map es clock)) ∧ Hid (wr.heap[w.heap.size]? = some (.cells #[.bool (out 0), .bool (out 1), .bool (out 2), .bool (out 3), .bool (out 4), .bool (out 5)] 138 (0, 0))) ∧ Hid (Below w.heap.size w wr) ∧
    Hid (∀ x, x ∈ es.toList → seen.contains x.born = true → ∀ p, x.val = bV p → withinS p out = false)) (fun wr => (leftOf es (seenAt wr (w.heap.size + 1))).size)
  case atStart => exact ⟨#[], I2, M2, X2, B2, Lib.hid (fun x _ h => by simp at h)⟩
  case round =>
    clear I2 M2 X2 B2
    obtain ⟨seen, HI, HM, HX, HB, HNO⟩ := hrel
    rcases run_next_at (P := Try.prog) wr 0 (w.heap.size + 1) cm clock clock seen es clock HI.out HM.out HST.out.1 (Nat.le_refl _) with ⟨h0, hrun⟩ | ⟨e, hel, w1, hw1, hrun⟩
    · have hnx : ∀ ty, (Instr.next (.pointer (some ⟨w.heap.size + 1, 0, none⟩)) false ty).run Try.prog wr = _ := fun _ => hrun
      have HALL : Hid (∀ p, p ∈ E → withinS p.2 out = false) := Lib.hid fun p hp => by
        obtain ⟨x, hx, hxe⟩ := HBACK.out p hp
        exact HNO.out x hx (all_seen es seen h0 x hx) p.2 hxe
      clear HNO HVAL HBACK
      go_wp2
      go_ret
      exact ⟨HANY.out _ HALL.out rfl, HB.out⟩
    · obtain ⟨hem, hes⟩ := mem_left hel
      obtain ⟨p, hp, hpk, hpv⟩ := HVAL.out e hem
      have HSH := Lib.hid (left_shrinks es seen e hel)
      have HSN := Lib.hid (seenAt_of HI.out)
      have HB1 : Hid (Below w.heap.size w w1) := Lib.hid (below_to HB.out (drew_below hw1))
      have hdb := drew_below hw1
      have i1 := (hdb.block _ (Array.getElem?_eq_some_iff.1 HI.out).1).trans HI.out
      have m1 := (hdb.block _ (Array.getElem?_eq_some_iff.1 HM.out).1).trans HM.out
      have x1 := (hdb.block _ (lt_of_block HX.out)).trans HX.out
      have hset := MapKept.heap_set (o' := Obj.mapIter (some cm) clock (seen.push e.born) clock) i1
      have hcm : cm ≠ w.heap.size + 1 := by omega
      obtain ⟨w2, hw2⟩ : ∃ w2, setBlock w1 (w.heap.size + 1) (.mapIter (some cm) clock (seen.push e.born) clock) = w2 := ⟨_, rfl⟩
      have i2 : w2.heap[w.heap.size + 1]? = some (.mapIter (some cm) clock (seen.push e.born) clock) := by rw [← hw2]; exact hset.1
      have m2 : w2.heap[cm]? = some (.map es clock) := by rw [← hw2]; exact (hset.2 cm hcm).trans m1
      have x2 : w2.heap[w.heap.size]? = some (.cells #[.bool (out 0), .bool (out 1), .bool (out 2), .bool (out 3), .bool (out 4), .bool (out 5)] 138 (0, 0)) := by rw [← hw2]; exact (hset.2 w.heap.size (by omega)).trans x1
      have HB2 : Hid (Below w.heap.size w w2) := Lib.hid (by rw [← hw2]; exact set_below (by omega) HB1.out)
      have hen := run_entry_at (P := Try.prog) w2 (w.heap.size + 1) cm clock seen es clock e i2 m2 hem HST.out.2.1
      rw [hw2] at hrun
      have HE : Hid (e.val = bV p.2) := Lib.hid hpv
      rw [hpk, hpv] at hrun hen
      have HPE := Lib.hid hp
      have HEM := Lib.hid hem
      have I2 := Lib.hid i2
      have M2 := Lib.hid m2
      have X2 := Lib.hid x2
      have cells := Lib.hid (bits x2)
      have k0 := cells.out 0 (by decide)
      have k1 := cells.out 1 (by decide)
      have k2 := cells.out 2 (by decide)
      have k3 := cells.out 3 (by decide)
      have k4 := cells.out 4 (by decide)
      have k5 := cells.out 5 (by decide)
      have lx := lt_of_block x2
      have HNO2 : Hid (withinS p.2 out = false → ∀ x, x ∈ es.toList → (seen.push e.born).contains x.born = true → ∀ q, x.val = bV q → withinS q out = false) := Lib.hid fun h x hx hc q hq => by
        rw [contains_push] at hc
        rcases Bool.or_eq_true _ _ ▸ hc with h1 | h1
        · exact HNO.out x hx h1 q hq
        · obtain rfl : x = e := born_inj HST.out.2.1 hx HEM.out (beq_iff_eq.1 h1)
          have hqq : bV q = bV p.2 := hq.symm.trans HE.out
          rw [bV_within hqq]
          exact h
      have HY := Lib.hid (HYES.out p HPE.out)
      have HWP := Lib.hid (HWI.out p.2)
      unfold bV at hrun hen HWP
      have hnx : ∀ ty, (Instr.next (.pointer (some ⟨w.heap.size + 1, 0, none⟩)) false ty).run Try.prog wr = _ := fun _ => hrun
      clear hrun hdb i1 m1 x1 hset hw2 i2 m2 x2 hp hpk hpv hem hes hel HI HM HX HB HB1 HNO HYES HVAL HBACK HANY hw1 HPE HE HEM cells
      go_wp2_with fail
      have hbz := box_below w2 (.cells #[.bool (p.2 0), .bool (p.2 1), .bool (p.2 2), .bool (p.2 3), .bool (p.2 4), .bool (p.2 5)] 138)
      refine (HWP.out _).mono ?_
      rintro e3 w3 ⟨rfl, hb3⟩
      have hb23 := grow_to hbz hb3
      have I3 := Lib.hid ((hb23.block _ (Array.getElem?_eq_some_iff.1 I2.out).1).trans I2.out)
      have M3 := Lib.hid ((hb23.block _ (Array.getElem?_eq_some_iff.1 M2.out).1).trans M2.out)
      have X3 := Lib.hid ((hb23.block _ (lt_of_block X2.out)).trans X2.out)
      have B3 := Lib.hid (below_to HB2.out hb23)
      clear hbz hb3 hb23 I2 M2 X2 HB2 hen hnx k0 k1 k2 k3 k4 k5 lx
      cases hz : withinS p.2 out with
      | false =>
        have HN3 := Lib.hid (HNO2.out hz)
        clear hz HNO2 HY
        go_wp2
        go_roundw
        case rel => exact ⟨seen.push e.born, I3, M3, X3, B3, HN3⟩
        case measure =>
          rw [seenAt_of I3.out, HSN.out]
          exact HSH.out
      | true =>
        have HYF := Lib.hid (HY.out hz)
        clear hz HNO2 HY
        go_wp2
        go_ret
        exact ⟨HYF.out, B3.out⟩
end Go.Proofs.Ytfijaafkagcmmaa
