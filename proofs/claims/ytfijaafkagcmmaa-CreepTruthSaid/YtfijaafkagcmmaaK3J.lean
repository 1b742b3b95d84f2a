/- Lists of rates as the keys of a map, sets of runs as its elements: the laws in memory. No condition. Sets of runs: with, isWithin, list: contracts. Condition: runs of the set. Sets of runs: the list of a set, and the runs that forbid rates: contracts. Condition: valid runs, rates in their limits. -/
import Derived.Test.YtfijaafkagcmmaaJ2J
import Derived.Laws.StructEq
import Derived.ChangeKeysEq
namespace Go.Proofs.Ytfijaafkagcmmaa
open Go.RowKit Go.Shelf
attribute [local irreducible] arrV wpQuiet

def kV (x : List Int) : Value := .agg #[.int .i64 (ld x 0), .int .i64 (ld x 1), .int .i64 (ld x 2)]
def kEq (x y : List Int) : Bool := (ld x 0 == ld y 0) && ((ld x 1 == ld y 1) && (ld x 2 == ld y 2))
def bV (f : Nat → Bool) : Value := .agg #[.bool (f 0), .bool (f 1), .bool (f 2), .bool (f 3), .bool (f 4), .bool (f 5)]
theorem kV_arr {x : List Int} (h : x.length ≤ 3) : Value.agg (arrV (pad3 x)) = kV x := by
  rw [arr_three h, pad3_ld, pad3_ld, pad3_ld]
  rfl
theorem kEq_of {x y : List Int} (hx : x.length = y.length) (h3 : x.length ≤ 3) (h : kEq x y = true) : x = y := by
  simp only [kEq, Bool.and_eq_true, beq_iff_eq] at h
  obtain ⟨h0, h1, h2⟩ := h
  refine List.ext_getElem hx fun i h1' h2' => ?_
  have e : ∀ (l : List Int) (j : Nat) (hj : j < l.length), l[j] = ld l j := fun l j hj => by simp [ld, hj]
  rw [e _ _ h1', e _ _ h2']
  match i, h1' with
  | 0, _ => exact h0
  | 1, _ => exact h1
  | 2, _ => exact h2
  | n + 3, h => omega

theorem kEq_same {x y : List Int} (h : kV y = kV x) : kEq x y = true := by
  simp only [kV, Value.agg.injEq, Array.mk.injEq, List.cons.injEq, Value.int.injEq, true_and, and_true] at h
  simp [kEq, h.1, h.2.1, h.2.2]
theorem u138 : Try.prog.underlying 138 = some (.array 6 4) := by kernel_rfl
theorem u145 : Try.prog.underlying 145 = some (.map 105 138) := by kernel_rfl
theorem c3 : Try.prog.cellsOf 3 = 1 := by kernel_rfl
theorem part_k0 (x : List Int) (w : World) : (part 3 #[Value.int .i64 (ld x 0), .int .i64 (ld x 1), .int .i64 (ld x 2)] 0).run Try.prog w = .ok (.int .i64 (ld x 0)) w := run_part_plain w pk3 rfl
theorem part_k1 (x : List Int) (w : World) : (part 3 #[Value.int .i64 (ld x 0), .int .i64 (ld x 1), .int .i64 (ld x 2)] 1).run Try.prog w = .ok (.int .i64 (ld x 1)) w := run_part_plain w pk3 rfl
theorem part_k2 (x : List Int) (w : World) : (part 3 #[Value.int .i64 (ld x 0), .int .i64 (ld x 1), .int .i64 (ld x 2)] 2).run Try.prog w = .ok (.int .i64 (ld x 2)) w := run_part_plain w pk3 rfl
theorem info3 : ∃ i, Try.prog.info? 3 = some i ∧ i.size = 1 := by
  obtain ⟨i, z, hi, _, hs, _, _⟩ := el26.i
  exact ⟨i, hi, hs⟩

theorem run_equal_k (x y : List Int) (w : World) : (Op.equal 105 (kV x) (kV y)).run Try.prog w = .ok (kEq x y) w := by
  obtain ⟨i, hi, hs⟩ := info3
  unfold kV
  show (Op.equalIn (9999 + 1) 105 _ _).run Try.prog w = _
  rw [run_equalIn_array w 9999 _ _ u105 hi, c3]
  have e : ∀ a b : Int, (Op.equalIn 9999 3 (.int .i64 a) (.int .i64 b)).run Try.prog w = .ok (a == b) w := fun a b => run_equalIn_int w 9998 3 .i64 .i64 a b Try.underlying3
  have hr : List.range 3 = [0, 1, 2] := rfl
  rw [hr]
  simp only [Op.eqItems, Sem.run_bind, Sem.run_ite, part_k0, part_k1, part_k2, Result.andThen_ok, e, Sem.run_pure, Nat.zero_mul, Nat.mul_one]
  unfold kEq
  cases h1 : (ld x 0 == ld y 0) <;> cases h2 : (ld x 1 == ld y 1) <;> cases h3 : (ld x 2 == ld y 2) <;> simp

theorem run_check_k (em : Bool) (x : List Int) (w : World) : (Instr.checkKey em 10000 105 (kV x)).run Try.prog w = .ok () w := by
  obtain ⟨i, hi, hs⟩ := info3
  have h3 : ∀ d a, (Instr.checkKey em (d + 1) 3 (.int .i64 a)).run Try.prog w = .ok () w := by
    intro d a
    simp [Instr.checkKey, run_underlying Try.underlying3]
  have hsz : (sizeOf 3).run Try.prog w = .ok 1 w := by simp [sizeOf, typeInfo, hi, hs]
  have h : ∀ d, (Instr.checkKey em (d + 1 + 1) 105 (kV x)).run Try.prog w = .ok () w := by
    intro d
    unfold kV
    rw [Instr.checkKey]
    simp only [Sem.run_bind, run_underlying u105, Result.andThen_ok]
    rw [Std.Legacy.Range.forIn_eq_forIn_range']
    simp only [Std.Legacy.Range.size, show (List.range' 0 ((3 - 0 + 1 - 1) / 1) 1) = [0, 1, 2] from rfl, List.forIn_cons, List.forIn_nil, Sem.run_bind, hsz, part_k0, part_k1, part_k2, h3, Result.andThen_ok, Sem.run_pure, Nat.zero_mul, Nat.mul_one]
  exact h 9998

/-- The block cm is a map that holds E. -/
def MapIs (w : World) (cm : Nat) (E : List (List Int × (Nat → Bool))) : Prop :=
  ∃ es clock, w.heap[cm]? = some (.map es clock) ∧ es.toList.map (fun e => (e.key, e.val)) = E.map (fun p => (kV p.1, bV p.2)) ∧ MapKept.Stamped es clock
theorem find_len {es : List MapEntry} {E : List (List Int × (Nat → Bool))} (h : es.map (fun e => (e.key, e.val)) = E.map (fun p => (kV p.1, bV p.2))) (x : List Int) (hx : ∀ p, p ∈ E → kEq x p.1 = false) (w : World) : ∀ i,
    (Instr.findAsking 105 (kV x) es i).run Try.prog w = .ok none w := by
  induction E generalizing es with
  | nil =>
    intro i
    obtain rfl : es = [] := by simpa using h
    rfl
  | cons e E ih =>
    intro i
    match es, h with
    | y :: es, h =>
      simp only [List.map_cons, List.cons.injEq, Prod.mk.injEq] at h
      obtain ⟨⟨h1, h2⟩, h3⟩ := h
      have hr := ih h3 (fun p hp => hx p (by simp [hp])) (i + 1)
      simp only [Instr.findAsking, Sem.run_bind, h1, run_equal_k, Result.andThen_ok, Sem.run_ite, hx e (by simp)]
      simpa using hr
theorem findNow_k (x : List Int) : ∀ es : List MapEntry, (es = [] ∧ Instr.findNow (.array 3 3) (kV x) es 0 = some none) ∨ (es ≠ [] ∧ Instr.findNow (.array 3 3) (kV x) es 0 = none)
  | [] => .inl ⟨rfl, rfl⟩
  | e :: es => .inr ⟨by simp, by simp [Instr.findNow, Instr.sameNow]⟩
theorem run_find_k {es : List MapEntry} {E : List (List Int × (Nat → Bool))} (h : es.map (fun e => (e.key, e.val)) = E.map (fun p => (kV p.1, bV p.2))) (x : List Int) (hx : ∀ p, p ∈ E → kEq x p.1 = false) (w : World) :
    (Instr.findKey 105 (kV x) es).run Try.prog w = .ok none w := by
  have hr := find_len h x hx w 0
  unfold Instr.findKey
  simp only [Sem.run_bind, run_underlying u105, Result.andThen_ok]
  rcases findNow_k x es with ⟨rfl, h1⟩ | ⟨_, h1⟩
  · rw [h1]
    rfl
  · rw [h1]
    exact hr
theorem put_k {w : World} {cm : Nat} {E : List (List Int × (Nat → Bool))} (h : MapIs w cm E) (x : List Int) (f : Nat → Bool) (hx : ∀ p, p ∈ E → kEq x p.1 = false) :
    ∃ w', (Instr.mapUpdate 145 (.map (some cm)) (kV x) (bV f)).run Try.prog w = .ok () w' ∧ MapIs w' cm (E ++ [(x, f)]) ∧ ∃ o, w' = w.putObj cm o := by
  obtain ⟨es, clock, hb, he, hst⟩ := h
  have hr := run_find_k he x hx w
  have hc := fun em => run_check_k em x w
  have hg : (getObj cm).run Try.prog w = .ok (.map es clock) w := MapKept.run_getObj_map hb
  refine ⟨w.putObj cm (.map (es.push { key := kV x, val := bV f, born := clock }) (clock + 1)), ?_, ⟨es.push { key := kV x, val := bV f, born := clock }, clock + 1, by unfold World.putObj; simp [(Array.getElem?_eq_some_iff.1 hb).1], ?_, ?_⟩, _, rfl⟩
  · unfold Instr.mapUpdate
    simp only [Sem.run_bind, run_underlying u145, Result.andThen_ok, hg, hc, hr, Sem.run_pure]
    exact MapKept.run_setObj_map _ hb
  · simp [he]
  · refine MapKept.stamped_push hst fun y hy e => ?_
    have hm : (y.key, y.val) ∈ es.toList.map (fun e => (e.key, e.val)) := List.mem_map.2 ⟨y, hy, rfl⟩
    rw [he] at hm
    obtain ⟨p, hp, hpe⟩ := List.mem_map.1 hm
    simp only [Prod.mk.injEq] at hpe
    have h1 := hx p hp
    rw [kEq_same (hpe.1.trans e)] at h1
    cases h1
end Go.Proofs.Ytfijaafkagcmmaa
namespace Go.Proofs.Ytfijaafkagcmmaa
open Go.RowKit Go.Shelf
attribute [local irreducible] arrV wpQuiet

def withS (f : Nat → Bool) (i : Nat) : Nat → Bool := fun j => f j || j == i
def withinS (s o : Nat → Bool) : Bool := allN (fun i => !(s i && !o i)) 6
def listS (f : Nat → Bool) (n : Nat) : List Int := ((List.range n).filter f).map (fun i : Nat => (i : Int))
theorem listS_yes {f : Nat → Bool} {k : Nat} (h : f k = true) : listS f (k + 1) = listS f k ++ [(k : Int)] := by
  simp [listS, List.range_succ, List.filter_append, h]
theorem listS_no {f : Nat → Bool} {k : Nat} (h : f k = false) : listS f (k + 1) = listS f k := by
  simp [listS, List.range_succ, List.filter_append, h]
theorem listS_len (f : Nat → Bool) (k : Nat) : (listS f k).length ≤ k := by
  have := List.length_filter_le f (List.range k)
  simpa [listS] using this

set_option maxRecDepth 100000 in
set_option maxHeartbeats 1000000 in
theorem with_any (f : Nat → Bool) (i : Nat) (hi : i < 6) (w : World) :
    Calls Try.prog 94 #[bV f, .int .i64 i] w fun e w' => e = .returned (bV (withS f i)) ∧ Below w.heap.size w w' := by
  unfold bV withS
  generalize f 0 = b0
  generalize f 1 = b1
  generalize f 2 = b2
  generalize f 3 = b3
  generalize f 4 = b4
  generalize f 5 = b5
  have hcase : i = 0 ∨ i = 1 ∨ i = 2 ∨ i = 3 ∨ i = 4 ∨ i = 5 := by omega
  rcases hcase with rfl | rfl | rfl | rfl | rfl | rfl
  · clear hi
    go_enter Try.func94, Try.ntmps94
    go_wp2
    refine bodyPost_ret (v := .agg #[.bool (b0 || 0 == 0), .bool (b1 || 1 == 0), .bool (b2 || 2 == 0), .bool (b3 || 3 == 0), .bool (b4 || 4 == 0), .bool (b5 || 5 == 0)]) ?_ rfl ⟨rfl, below2 w _ _⟩
    simp [results, Try.results94, go_sem]
  · clear hi
    go_enter Try.func94, Try.ntmps94
    go_wp2
    refine bodyPost_ret (v := .agg #[.bool (b0 || 0 == 1), .bool (b1 || 1 == 1), .bool (b2 || 2 == 1), .bool (b3 || 3 == 1), .bool (b4 || 4 == 1), .bool (b5 || 5 == 1)]) ?_ rfl ⟨rfl, below2 w _ _⟩
    simp [results, Try.results94, go_sem]
  · clear hi
    go_enter Try.func94, Try.ntmps94
    go_wp2
    refine bodyPost_ret (v := .agg #[.bool (b0 || 0 == 2), .bool (b1 || 1 == 2), .bool (b2 || 2 == 2), .bool (b3 || 3 == 2), .bool (b4 || 4 == 2), .bool (b5 || 5 == 2)]) ?_ rfl ⟨rfl, below2 w _ _⟩
    simp [results, Try.results94, go_sem]
  · clear hi
    go_enter Try.func94, Try.ntmps94
    go_wp2
    refine bodyPost_ret (v := .agg #[.bool (b0 || 0 == 3), .bool (b1 || 1 == 3), .bool (b2 || 2 == 3), .bool (b3 || 3 == 3), .bool (b4 || 4 == 3), .bool (b5 || 5 == 3)]) ?_ rfl ⟨rfl, below2 w _ _⟩
    simp [results, Try.results94, go_sem]
  · clear hi
    go_enter Try.func94, Try.ntmps94
    go_wp2
    refine bodyPost_ret (v := .agg #[.bool (b0 || 0 == 4), .bool (b1 || 1 == 4), .bool (b2 || 2 == 4), .bool (b3 || 3 == 4), .bool (b4 || 4 == 4), .bool (b5 || 5 == 4)]) ?_ rfl ⟨rfl, below2 w _ _⟩
    simp [results, Try.results94, go_sem]
  · clear hi
    go_enter Try.func94, Try.ntmps94
    go_wp2
    refine bodyPost_ret (v := .agg #[.bool (b0 || 0 == 5), .bool (b1 || 1 == 5), .bool (b2 || 2 == 5), .bool (b3 || 3 == 5), .bool (b4 || 4 == 5), .bool (b5 || 5 == 5)]) ?_ rfl ⟨rfl, below2 w _ _⟩
    simp [results, Try.results94, go_sem]

theorem bits {w : World} {b : Nat} {f : Nat → Bool} (h : w.heap[b]? = some (.cells #[.bool (f 0), .bool (f 1), .bool (f 2), .bool (f 3), .bool (f 4), .bool (f 5)] 138 (0, 0))) : ∀ q, q < 6 → w.cell? ⟨b, q, none⟩ = some (.bool (f q)) := fun q hq => by
  rw [cell_of_row w b q _ _ _ h]
  match q, hq with
  | 0, _ => rfl
  | 1, _ => rfl
  | 2, _ => rfl
  | 3, _ => rfl
  | 4, _ => rfl
  | 5, _ => rfl
  | n + 6, h => omega

set_option maxRecDepth 100000 in
set_option maxHeartbeats 1000000 in
theorem isWithin_any (s o : Nat → Bool) (w : World) :
    Calls Try.prog 108 #[bV s, bV o] w fun e w' => e = .returned (.bool (withinS s o)) ∧ Below w.heap.size w w' := by
  have hbb := below2 w (.cells #[.bool (s 0), .bool (s 1), .bool (s 2), .bool (s 3), .bool (s 4), .bool (s 5)] 138) (.cells #[.bool (o 0), .bool (o 1), .bool (o 2), .bool (o 3), .bool (o 4), .bool (o 5)] 138)
  obtain ⟨y0, y1⟩ := box2 w (.cells #[.bool (s 0), .bool (s 1), .bool (s 2), .bool (s 3), .bool (s 4), .bool (s 5)] 138) (.cells #[.bool (o 0), .bool (o 1), .bool (o 2), .bool (o 3), .bool (o 4), .bool (o 5)] 138)
  have hA4 := @allN_yes (fun i => !(s i && !o i)) 6
  have hN4 := fun j => @allN_no (fun i => !(s i && !o i)) 6 j
  change _ → withinS s o = true at hA4
  change ∀ j, j < 6 → _ → withinS s o = false at hN4
  have HA4 := Lib.hid hA4
  have HN4 := Lib.hid hN4
  have HC0 := Lib.hid (bits y0)
  have HC1 := Lib.hid (bits y1)
  have HB := Lib.hid hbb
  unfold bV
  generalize withinS s o = z at *
  clear hbb y0 y1 hA4 hN4
  go_enter Try.func108, Try.ntmps108
  go_wp2
  generalize World.alloc (World.alloc w _) _ = W at *
  have HBW := HB
  go_loopw [6] (fun i wr => ∃ q : Nat, q ≤ 6 ∧ i = .int .i64 q ∧ wr = W ∧ Hid (∀ j, j < q → (!(s j && !o j)) = true)) (fun i _ => 6 - (intOf i).toNat)
  case atStart => exact ⟨0, Nat.zero_le _, rfl, rfl, Lib.hid (fun j hj => by omega)⟩
  case round =>
    obtain ⟨q, hq, rfl, rfl, hg⟩ := hrel
    by_cases hlt : q < 6
    · have hqn : (q : Int) < 6 := by omega
      have hw9 : IntKind.i64.wrap ((q : Int) + 1) = (q : Int) + 1 := IntWalk.i64_in _ (by omega)
      have d0 := HC0.out q hlt
      have d1 := HC1.out q hlt
      have l0 := block_lt_of_cell d0
      have l1 := block_lt_of_cell d1
      have HNQ := Lib.hid (HN4.out q hlt)
      have HGQ : Hid ((!(s q && !o q)) = true → ∀ j, j < q + 1 → (!(s j && !o j)) = true) := Lib.hid fun h j hj => by
        by_cases e : j = q
        · rw [e]; exact h
        · exact hg.out j (by omega)
      clear hg
      generalize s q = sq at *
      generalize o q = oq at *
      cases sq with
      | false =>
        have HZ := Lib.hid (HGQ.out rfl)
        clear HNQ HGQ
        go_wp2
        go_roundw
        case rel => exact ⟨q + 1, by omega, by simp, trivial, HZ⟩
        case measure => simp [intOf]; omega
      | true =>
        cases oq with
        | true =>
          have HZ := Lib.hid (HGQ.out rfl)
          clear HNQ HGQ
          go_wp2
          go_roundw
          case rel => exact ⟨q + 1, by omega, by simp, trivial, HZ⟩
          case measure => simp [intOf]; omega
        | false =>
          have HZ := Lib.hid (HNQ.out rfl)
          clear HNQ HGQ
          go_wp2
          go_ret
          exact ⟨by rw [HZ.out]; rfl, HB.out⟩
    · obtain rfl : q = 6 := by omega
      have HZ := Lib.hid (HA4.out hg.out)
      go_wp2
      go_ret
      exact ⟨by rw [HZ.out]; rfl, HB.out⟩
end Go.Proofs.Ytfijaafkagcmmaa
namespace Go.Proofs.Ytfijaafkagcmmaa
open Go.RowKit Go.Shelf
attribute [local irreducible] arrV wpQuiet

theorem own_ints0 {w : World} {base : Nat} {v : Value} {t : List Int} (h : w.ownsRow base 3 1 v t.length (t.map (Value.int .i64))) : IntsV w.heap.size w v t := by
  by_cases h0 : 0 < t.length
  · exact own_ints h h0
  · rcases h.2 with ⟨hv, hz⟩ | ⟨g, cap, cur, hv, hb, hg, hn', _, hs, ht⟩
    · exact ⟨none, 0, by rw [hv, hz], by omega, fun h => absurd h h0⟩
    · exact ⟨_, cap, hv, hn', fun h => absurd h h0⟩

set_option maxRecDepth 100000 in
set_option maxHeartbeats 1000000 in
theorem listS_any (f : Nat → Bool) (w : World) :
    Calls Try.prog 95 #[bV f] w fun e w' => (∃ v, e = .returned v ∧ IntsV w'.heap.size w' v (listS f 6)) ∧ Below w.heap.size w w' := by
  have HX := Lib.hid (heap_alloc_new w (.cells #[.bool (f 0), .bool (f 1), .bool (f 2), .bool (f 3), .bool (f 4), .bool (f 5)] 138))
  have HB := Lib.hid (box_below w (.cells #[.bool (f 0), .bool (f 1), .bool (f 2), .bool (f 3), .bool (f 4), .bool (f 5)] 138))
  unfold bV
  go_enter Try.func95, Try.ntmps95
  go_wp2
  generalize World.alloc w _ = W at *
  go_loopw [3, 5] (fun v i wr => ∃ q : Nat, q ≤ 6 ∧ i = .int .i64 q ∧ Hid (wr.heap[w.heap.size]? = some (.cells #[.bool (f 0), .bool (f 1), .bool (f 2), .bool (f 3), .bool (f 4), .bool (f 5)] 138 (0, 0))) ∧ Hid (Below w.heap.size w wr) ∧ Hid (wr.ownsRow (w.heap.size + 1) 3 1 v (listS f q).length ((listS f q).map (Value.int .i64)))) (fun _ i _ => 6 - (intOf i).toNat)
  case atStart => exact ⟨0, Nat.zero_le _, rfl, HX, HB, Lib.hid (World.ownsRow_nil _ _ _ _)⟩
  case round =>
    clear HX HB
    obtain ⟨q, hq, rfl, HX, HB, HO⟩ := hrel
    by_cases hlt : q < 6
    · have hqn : (q : Int) < 6 := by omega
      have hw9 : IntKind.i64.wrap ((q : Int) + 1) = (q : Int) + 1 := IntWalk.i64_in _ (by omega)
      have d0 := bits HX.out q hlt
      have l0 := block_lt_of_cell d0
      have HLY := Lib.hid fun h => @listS_yes f q h
      have HLN := Lib.hid fun h => @listS_no f q h
      have HLEN := Lib.hid (listS_len f q)
      have hl0 : w.heap.size < wr.heap.size := lt_of_block HX.out
      generalize f q = sq at *
      cases sq with
      | false =>
        have HE := Lib.hid (HLN.out rfl)
        clear HLY HLN
        go_wp2
        go_roundw
        case rel => exact ⟨q + 1, by omega, by simp, HX, HB, by rw [HE.out]; exact HO⟩
        case measure => simp [intOf]; omega
      | true =>
        have HE := Lib.hid (HLY.out rfl)
        clear HLY HLN
        go_wp2_with (first
          | (refine wpList_app el26 rfl (.tmp 11) (.tmp 13) rfl (w.heap.size + 1) _ _ _ #[.int .i64 q] rfl (by intro u hu; simp at hu; subst hu; rfl) rfl rfl HO.out (by omega) (by have := HLEN.out; omega) ?_
             intro g c w' hown hgr _)
          | fail)
        go_roundw
        case rel =>
          refine ⟨q + 1, by omega, by simp, Lib.hid ((hgr.below.block _ (by omega)).trans HX.out), Lib.hid (HB.out.trans (hgr.below.mono (by omega))), Lib.hid ?_⟩
          rw [HE.out, List.length_append, List.map_append]
          exact hown
        case measure => simp [intOf]; omega
    · obtain rfl : q = 6 := by omega
      go_wp2
      go_ret
      exact ⟨⟨_, rfl, own_ints0 HO.out⟩, HB.out⟩

def forbS (rs : List Rn) (x : List Int) : Nat → Bool := fun i => decide (i < rs.length) && !fitsB (rn rs i) x
def forbT (rs : List Rn) (x : List Int) (k : Nat) : Nat → Bool := fun i => decide (i < k) && !fitsB (rn rs i) x
theorem forbT_step (rs : List Rn) (x : List Int) (k i : Nat) : forbT rs x (k + 1) i = if i = k then !fitsB (rn rs k) x else forbT rs x k i := by
  unfold forbT
  by_cases h : i = k
  · subst h
    simp
  · rw [if_neg h]
    congr 1
    apply decide_eq_decide.2
    omega

def bA (f : Nat → Bool) : Array Value := #[.bool (f 0), .bool (f 1), .bool (f 2), .bool (f 3), .bool (f 4), .bool (f 5)]
theorem bA_step {f g : Nat → Bool} {k : Nat} {b : Bool} (h : ∀ i, g i = if i = k then b else f i) (hk : k < 6) : (bA f).setIfInBounds k (.bool b) = bA g := by
  unfold bA
  rw [h 0, h 1, h 2, h 3, h 4, h 5]
  match k, hk with
  | 0, _ => simp
  | 1, _ => simp
  | 2, _ => simp
  | 3, _ => simp
  | 4, _ => simp
  | 5, _ => simp
  | n + 6, h => omega

set_option maxRecDepth 100000 in
set_option maxHeartbeats 2000000 in
theorem forbidding_any (n : Nat) (nb : Nat) (rv : Value) (rs : List Rn) (x : List Int) (w : World) (hx : x.length ≤ 3) (hr : Rates x) (hnb : nb ≤ 3) (hK : ∀ r, r ∈ rs → RnOk nb r) (hl : rs.length ≤ 6) (hR : RunsV n w rv rs) (hn : n ≤ w.heap.size) :
    Calls Try.prog 106 #[rv, .agg (arrV (pad3 x))] w fun e w' => e = .returned (bV (forbS rs x)) ∧ Below w.heap.size w w' := by
  have HF := Lib.hid fun q (hq : q < rs.length) sv w' (h : Below w.heap.size w w') (hs : SegsV n w' sv (rn rs q).ss) => by
    have := fits_any n nb (pad3 x) sv (rn rs q) w' (pad3_len hx) (rates_pad hr) hnb (hK _ (rn_mem hq)) hs (Nat.le_trans hn h.size)
    rw [fits_pad] at this
    exact this
  obtain ⟨ra, rcap, rfl, hp⟩ := hR
  have HP := Lib.hid hp
  have HSTEP := Lib.hid (forbT_step rs x)
  have HEND : Hid (forbS rs x = forbT rs x rs.length) := Lib.hid rfl
  rw [HEND.out, kV_arr hx]
  rw [kV_arr hx] at HF
  unfold kV at HF ⊢
  generalize ld x 0 = x0 at *
  generalize ld x 1 = x1 at *
  generalize ld x 2 = x2 at *
  obtain ⟨y0, y1, y2⟩ := box3 w (.cells #[.int .i64 x0, .int .i64 x1, .int .i64 x2] 105) (.cells #[.bool false, .bool false, .bool false, .bool false, .bool false, .bool false] 138) (.cells #[.bool false, .bool false, .bool false, .bool false, .bool false, .bool false] 138)
  have hbb := below3 w (.cells #[.int .i64 x0, .int .i64 x1, .int .i64 x2] 105) (.cells #[.bool false, .bool false, .bool false, .bool false, .bool false, .bool false] 138) (.cells #[.bool false, .bool false, .bool false, .bool false, .bool false, .bool false] 138)
  have Y0 := Lib.hid y0
  have Y1 := Lib.hid y1
  have Y2 : Hid (_ = some (Obj.cells (bA (forbT rs x 0)) 138 (0, 0))) := Lib.hid (y2.trans (by simp [bA, forbT]))
  have HB := Lib.hid hbb
  clear hp y0 y1 y2 hbb hr hK
  go_enter Try.func106, Try.ntmps106
  go_wp2
  generalize World.alloc (World.alloc (World.alloc w _) _) _ = W at *
  go_loopw [10] (fun i wr => ∃ q : Nat, q ≤ rs.length ∧ i = .int .i64 q ∧ Hid (wr.heap[w.heap.size]? = some (.cells #[.int .i64 x0, .int .i64 x1, .int .i64 x2] 105 (0, 0))) ∧ Hid (wr.heap[w.heap.size + 1]? = some (.cells #[.bool false, .bool false, .bool false, .bool false, .bool false, .bool false] 138 (0, 0))) ∧ Hid (wr.heap[w.heap.size + 1 + 1]? = some (.cells (bA (forbT rs x q)) 138 (0, 0))) ∧ Hid (Below w.heap.size w wr)) (fun i _ => rs.length - (intOf i).toNat)
  case atStart => exact ⟨0, Nat.zero_le _, rfl, Y0, Y1, Y2, HB⟩
  case round =>
    clear Y0 Y1 Y2 HB
    obtain ⟨q, hq, rfl, Y0, Y1, Y2, HB⟩ := hrel
    by_cases hlt : q < rs.length
    · obtain ⟨b2, off2, rfl, hbn2, hc2⟩ := HP.out (by omega)
      obtain ⟨sv, s1, s2, s3, s4⟩ := hc2 q hlt
      have s4' := s4
      obtain ⟨sa, scap, rfl, -⟩ := s4'
      have hltb2 : b2 < w.heap.size := by omega
      have u1 := (HB.out.cell (p := ⟨b2, off2 + q * 3, none⟩) hltb2).trans s1
      have u2 := (HB.out.cell (p := ⟨b2, off2 + q * 3 + 1, none⟩) hltb2).trans s2
      have u3 := (HB.out.cell (p := ⟨b2, off2 + q * 3 + 2, none⟩) hltb2).trans s3
      have lsb : b2 < wr.heap.size := by have := HB.out.size; omega
      have hqn : (q : Int) < rs.length := by omega
      have hq6 : (q : Int) < 6 := by omega
      have hw9 : IntKind.i64.wrap ((q : Int) + 1) = (q : Int) + 1 := IntWalk.i64_in _ (by omega)
      have HS4 := Lib.hid fun w' (h : Below w.heap.size w w') => s4.same (.below hn h)
      have HFQ := Lib.hid (HF.out q hlt (.slice sa (rn rs q).ss.length scap))
      have c0 := cell_of_row wr w.heap.size 0 _ _ _ Y0.out
      have c1 := cell_of_row wr w.heap.size 1 _ _ _ Y0.out
      have c2 := cell_of_row wr w.heap.size 2 _ _ _ Y0.out
      simp only [List.getElem?_toArray, List.getElem?_cons_zero, List.getElem?_cons_succ] at c0 c1 c2
      have l0 := lt_of_block Y0.out
      have HSQ := Lib.hid fun (b : Bool) (hb : (!fitsB (rn rs q) x) = b) (hk : q < 6) => @bA_step (forbT rs x q) (forbT rs x (q + 1)) q b (fun i => by rw [HSTEP.out q i, hb]) hk
      generalize (rn rs q).seen.lo = slo at *
      generalize (rn rs q).seen.hi = shi at *
      generalize fitsB (rn rs q) x = z at *
      clear hc2 s1 s2 s3 s4
      go_wp2_with fail
      have hn2 := heap_alloc_new wr (.cells #[.slice sa (rn rs q).ss.length scap, .int .i64 slo, .int .i64 shi] 78)
      have hb2 := box_below wr (.cells #[.slice sa (rn rs q).ss.length scap, .int .i64 slo, .int .i64 shi] 78)
      replace Y0 := Lib.hid ((hb2.block _ (lt_of_block Y0.out)).trans Y0.out)
      replace Y1 := Lib.hid ((hb2.block _ (lt_of_block Y1.out)).trans Y1.out)
      replace Y2 := Lib.hid ((hb2.block _ (lt_of_block Y2.out)).trans Y2.out)
      replace HB := Lib.hid (below_to HB.out hb2)
      clear hn2 hb2 u1 u2 u3 c0 c1 c2 l0 lsb
      generalize World.alloc wr _ = w1 at *
      refine (HFQ.out w1 HB.out (HS4.out w1 HB.out)).mono ?_
      rintro e w2 ⟨rfl, hb⟩
      replace Y0 := Lib.hid ((hb.block _ (lt_of_block Y0.out)).trans Y0.out)
      replace Y1 := Lib.hid ((hb.block _ (lt_of_block Y1.out)).trans Y1.out)
      replace Y2 := Lib.hid ((hb.block _ (lt_of_block Y2.out)).trans Y2.out)
      replace HB := Lib.hid (below_to HB.out hb)
      clear hb
      have cq := bits Y2.out q (by omega)
      have fq := frozen_of_row w2 (w.heap.size + 1 + 1) q _ _ Y2.out
      have l2 := lt_of_block Y2.out
      have hz := heap_setCell_same w2 (w.heap.size + 1 + 1) q _ _ (.bool (!z)) Y2.out
      rw [HSQ.out (!z) rfl (by omega)] at hz
      have HZ := Lib.hid hz
      have HZ0 := Lib.hid ((heap_setCell_other w2 ⟨w.heap.size + 1 + 1, q, none⟩ w.heap.size (.bool (!z)) (by show w.heap.size ≠ w.heap.size + 1 + 1; omega)).trans Y0.out)
      have HZ1 := Lib.hid ((heap_setCell_other w2 ⟨w.heap.size + 1 + 1, q, none⟩ (w.heap.size + 1) (.bool (!z)) (by show w.heap.size + 1 ≠ w.heap.size + 1 + 1; omega)).trans Y1.out)
      have HZB := Lib.hid (HB.out.setCell (p := ⟨w.heap.size + 1 + 1, q, none⟩) (by show w.heap.size ≤ w.heap.size + 1 + 1; omega) (.bool (!z)))
      clear hz HFQ HS4 HF HSTEP HSQ
      go_wp2
      go_roundw
      case rel => exact ⟨q + 1, by omega, by simp, HZ0, HZ1, HZ, HZB⟩
      case measure => simp [intOf]; omega
    · obtain rfl : q = rs.length := by omega
      have HBT := Lib.hid (bits Y2.out)
      have b0 := HBT.out 0 (by decide)
      have b1 := HBT.out 1 (by decide)
      have b2 := HBT.out 2 (by decide)
      have b3 := HBT.out 3 (by decide)
      have b4 := HBT.out 4 (by decide)
      have b5 := HBT.out 5 (by decide)
      have l2 := lt_of_block Y2.out
      have l1 := lt_of_block Y1.out
      have e0 := cell_of_row wr (w.heap.size + 1) 0 _ _ _ Y1.out
      have e1 := cell_of_row wr (w.heap.size + 1) 1 _ _ _ Y1.out
      have e2 := cell_of_row wr (w.heap.size + 1) 2 _ _ _ Y1.out
      have e3 := cell_of_row wr (w.heap.size + 1) 3 _ _ _ Y1.out
      have e4 := cell_of_row wr (w.heap.size + 1) 4 _ _ _ Y1.out
      have e5 := cell_of_row wr (w.heap.size + 1) 5 _ _ _ Y1.out
      simp only [List.getElem?_toArray, List.getElem?_cons_zero, List.getElem?_cons_succ] at e0 e1 e2 e3 e4 e5
      have f0 := frozen_of_row wr (w.heap.size + 1) 0 _ _ Y1.out
      have f1 := frozen_of_row wr (w.heap.size + 1) 1 _ _ Y1.out
      have f2 := frozen_of_row wr (w.heap.size + 1) 2 _ _ Y1.out
      have f3 := frozen_of_row wr (w.heap.size + 1) 3 _ _ Y1.out
      have f4 := frozen_of_row wr (w.heap.size + 1) 4 _ _ Y1.out
      have f5 := frozen_of_row wr (w.heap.size + 1) 5 _ _ Y1.out
      clear HF HSTEP HEND Y0 Y1 Y2 HBT
      go_wp2
      refine bodyPost_ret (v := bV (forbT rs x rs.length)) ?_ rfl ⟨rfl, ?_⟩
      · unfold bV
        simp [results, Try.results106, go_sem, *]
      · exact (((((HB.out.setCell (p := ⟨w.heap.size + 1, 0, none⟩) (Nat.le_succ _) _).setCell (p := ⟨w.heap.size + 1, 1, none⟩) (Nat.le_succ _) _).setCell (p := ⟨w.heap.size + 1, 2, none⟩) (Nat.le_succ _) _).setCell (p := ⟨w.heap.size + 1, 3, none⟩) (Nat.le_succ _) _).setCell (p := ⟨w.heap.size + 1, 4, none⟩) (Nat.le_succ _) _).setCell (p := ⟨w.heap.size + 1, 5, none⟩) (Nat.le_succ _) _
end Go.Proofs.Ytfijaafkagcmmaa
