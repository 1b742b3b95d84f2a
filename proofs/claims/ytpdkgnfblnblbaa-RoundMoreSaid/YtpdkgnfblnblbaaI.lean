/- Who is off, as an array and as a list: contracts. Condition: numbers below six. -/
import Derived.Test.YtpdkgnfblnblbaaH
namespace Go.Proofs.Ytpdkgnfblnblbaa
open Go.RowKit Go.Shelf
attribute [local irreducible] arrV wpQuiet
/-- One more is off. -/
def updO (o : Nat → Bool) (k : Nat) : Nat → Bool := fun i => decide (i = k) || o i
/-- Who is off, by a list. -/
def offF (l : List Int) : Nat → Bool := fun i => l.any fun x => decide (x = i)
theorem offA_ext {o o' : Nat → Bool} (h : ∀ i, i < 6 → o i = o' i) : offA o = offA o' := by
  unfold offA
  rw [h 0 (by decide), h 1 (by decide), h 2 (by decide), h 3 (by decide), h 4 (by decide), h 5 (by decide)]
theorem offF_take {l : List Int} {q : Nat} (hq : q < l.length) (h0 : 0 ≤ ld l q) : updO (offF (l.take q)) (ld l q).toNat = offF (l.take (q + 1)) := by
  funext i
  have e : ld l q = l[q] := by simp [ld, hq]
  rw [take_snoc hq, ← e]
  simp only [updO, offF, List.any_append, List.any_cons, List.any_nil, Bool.or_false]
  rw [Bool.or_comm]
  congr 1
  rw [decide_eq_decide]
  omega
theorem offF_has {l : List Int} {i : Nat} : offF l i = true ↔ (i : Int) ∈ l := by
  simp [offF]
theorem offF_nil : offF [] = fun _ => false := rfl

set_option maxRecDepth 100000 in
set_option maxHeartbeats 1000000 in
theorem with_any (o : Nat → Bool) (k : Nat) (hk : k < 6) (w : World) : Calls Try.prog 61 #[.agg (offA o), .int .i64 k] w fun e w' => e = .returned (.agg (offA (updO o k))) ∧ Below w.heap.size w w' := by
  have h6 : k = 0 ∨ k = 1 ∨ k = 2 ∨ k = 3 ∨ k = 4 ∨ k = 5 := by omega
  rcases h6 with rfl | rfl | rfl | rfl | rfl | rfl
  · have e0 : offA (updO o 0) = #[.bool true, .bool (o 1), .bool (o 2), .bool (o 3), .bool (o 4), .bool (o 5)] := by simp [offA, updO]
    rw [e0]
    unfold offA
    clear e0 hk
    generalize o 0 = o0 at *
    generalize o 1 = o1 at *
    generalize o 2 = o2 at *
    generalize o 3 = o3 at *
    generalize o 4 = o4 at *
    generalize o 5 = o5 at *
    go_enter Try.func61, Try.ntmps61
    go_wp2
    refine bodyPost_ret (v := .agg #[.bool true, .bool o1, .bool o2, .bool o3, .bool o4, .bool o5]) ?_ rfl ⟨rfl, below2 _ _ _⟩
    simp [results, Try.results61, go_sem]
  · have e0 : offA (updO o 1) = #[.bool (o 0), .bool true, .bool (o 2), .bool (o 3), .bool (o 4), .bool (o 5)] := by simp [offA, updO]
    rw [e0]
    unfold offA
    clear e0 hk
    generalize o 0 = o0 at *
    generalize o 1 = o1 at *
    generalize o 2 = o2 at *
    generalize o 3 = o3 at *
    generalize o 4 = o4 at *
    generalize o 5 = o5 at *
    go_enter Try.func61, Try.ntmps61
    go_wp2
    refine bodyPost_ret (v := .agg #[.bool o0, .bool true, .bool o2, .bool o3, .bool o4, .bool o5]) ?_ rfl ⟨rfl, below2 _ _ _⟩
    simp [results, Try.results61, go_sem]
  · have e0 : offA (updO o 2) = #[.bool (o 0), .bool (o 1), .bool true, .bool (o 3), .bool (o 4), .bool (o 5)] := by simp [offA, updO]
    rw [e0]
    unfold offA
    clear e0 hk
    generalize o 0 = o0 at *
    generalize o 1 = o1 at *
    generalize o 2 = o2 at *
    generalize o 3 = o3 at *
    generalize o 4 = o4 at *
    generalize o 5 = o5 at *
    go_enter Try.func61, Try.ntmps61
    go_wp2
    refine bodyPost_ret (v := .agg #[.bool o0, .bool o1, .bool true, .bool o3, .bool o4, .bool o5]) ?_ rfl ⟨rfl, below2 _ _ _⟩
    simp [results, Try.results61, go_sem]
  · have e0 : offA (updO o 3) = #[.bool (o 0), .bool (o 1), .bool (o 2), .bool true, .bool (o 4), .bool (o 5)] := by simp [offA, updO]
    rw [e0]
    unfold offA
    clear e0 hk
    generalize o 0 = o0 at *
    generalize o 1 = o1 at *
    generalize o 2 = o2 at *
    generalize o 3 = o3 at *
    generalize o 4 = o4 at *
    generalize o 5 = o5 at *
    go_enter Try.func61, Try.ntmps61
    go_wp2
    refine bodyPost_ret (v := .agg #[.bool o0, .bool o1, .bool o2, .bool true, .bool o4, .bool o5]) ?_ rfl ⟨rfl, below2 _ _ _⟩
    simp [results, Try.results61, go_sem]
  · have e0 : offA (updO o 4) = #[.bool (o 0), .bool (o 1), .bool (o 2), .bool (o 3), .bool true, .bool (o 5)] := by simp [offA, updO]
    rw [e0]
    unfold offA
    clear e0 hk
    generalize o 0 = o0 at *
    generalize o 1 = o1 at *
    generalize o 2 = o2 at *
    generalize o 3 = o3 at *
    generalize o 4 = o4 at *
    generalize o 5 = o5 at *
    go_enter Try.func61, Try.ntmps61
    go_wp2
    refine bodyPost_ret (v := .agg #[.bool o0, .bool o1, .bool o2, .bool o3, .bool true, .bool o5]) ?_ rfl ⟨rfl, below2 _ _ _⟩
    simp [results, Try.results61, go_sem]
  · have e0 : offA (updO o 5) = #[.bool (o 0), .bool (o 1), .bool (o 2), .bool (o 3), .bool (o 4), .bool true] := by simp [offA, updO]
    rw [e0]
    unfold offA
    clear e0 hk
    generalize o 0 = o0 at *
    generalize o 1 = o1 at *
    generalize o 2 = o2 at *
    generalize o 3 = o3 at *
    generalize o 4 = o4 at *
    generalize o 5 = o5 at *
    go_enter Try.func61, Try.ntmps61
    go_wp2
    refine bodyPost_ret (v := .agg #[.bool o0, .bool o1, .bool o2, .bool o3, .bool o4, .bool true]) ?_ rfl ⟨rfl, below2 _ _ _⟩
    simp [results, Try.results61, go_sem]
/-- Those who are off, as numbers. -/
def offT (o : Nat → Bool) (q : Nat) : List Int := ((List.range q).filter o).map fun k : Nat => (k : Int)
theorem offT_succ (o : Nat → Bool) (q : Nat) : offT o (q + 1) = if o q = true then offT o q ++ [(q : Int)] else offT o q := by
  unfold offT
  rw [List.range_succ, List.filter_append, List.map_append]
  cases h : o q <;> simp [h]
theorem offT_len (o : Nat → Bool) (q : Nat) : (offT o q).length ≤ q := by
  unfold offT
  rw [List.length_map]
  exact Nat.le_trans (List.length_filter_le _ _) (by simp)
theorem offA_get (o : Nat → Bool) (q : Nat) (h : q < 6) : (offA o)[q]? = some (.bool (o q)) := by
  have h6 : q = 0 ∨ q = 1 ∨ q = 2 ∨ q = 3 ∨ q = 4 ∨ q = 5 := by omega
  rcases h6 with rfl | rfl | rfl | rfl | rfl | rfl <;> rfl

set_option maxRecDepth 100000 in
set_option maxHeartbeats 1000000 in
theorem offList_any (o : Nat → Bool) (w : World) : Calls Try.prog 70 #[.agg (offA o)] w fun e w' => (∃ v, e = .returned v ∧ w'.ownsRow w.heap.size 3 1 v (offT o 6).length ((offT o 6).map iV)) ∧ Below w.heap.size w w' := by
  have HX := Lib.hid (heap_alloc_new w (.cells (offA o) 81))
  have HB := Lib.hid (box_below w (.cells (offA o) 81))
  have HG := Lib.hid (offA_get o)
  have HS := Lib.hid (offT_succ o)
  have HLN := Lib.hid (offT_len o)
  have HL : Hid (∀ q n (s : Value) (W : World), W.ownsRow (w.heap.size + 1) 3 1 s n ((offT o q).map iV) → n = (offT o q).length) := Lib.hid fun q n s W h => by have := h.1; simp at this; omega
  unfold offA at *
  go_enter Try.func70, Try.ntmps70
  go_wp2
  generalize World.alloc w _ = W at *
  go_loopw [3, 5] (fun s i wr => ∃ q n : Nat, q ≤ 6 ∧ n ≤ q ∧ i = .int .i64 q ∧ Hid (wr.ownsRow (w.heap.size + 1) 3 1 s n ((offT o q).map iV)) ∧ Hid (wr.heap[w.heap.size]? = some (.cells #[.bool (o 0), .bool (o 1), .bool (o 2), .bool (o 3), .bool (o 4), .bool (o 5)] 81 (0, 0))) ∧ Hid (Below w.heap.size w wr)) (fun _ i _ => 6 - (intOf i).toNat)
  case atStart => exact ⟨0, 0, by decide, by decide, rfl, Lib.hid (World.ownsRow_nil _ _ _ _), HX, HB⟩
  case round =>
    clear HX HB
    obtain ⟨q, n, hq, hnq, rfl, HO, HX, HB⟩ := hrel
    by_cases hlt : q < 6
    · have hqn : (q : Int) < 6 := by omega
      have hw9 : IntKind.i64.wrap ((q : Int) + 1) = (q : Int) + 1 := IntWalk.i64_in _ (by omega)
      have c0 := (cell_of_row wr w.heap.size q _ _ _ HX.out).trans (HG.out q hlt)
      have lc := lt_of_block HX.out
      have hs := HS.out q
      have HQ := Lib.hid hq
      clear hq
      generalize hoq : o q = z at *
      clear hoq
      cases z with
      | false =>
        rw [if_neg (by simp)] at hs
        have HSS := Lib.hid hs
        clear hs
        go_wp2
        go_roundw
        case rel => exact ⟨q + 1, n, by omega, by omega, by simp, Lib.hid (by rw [HSS.out]; exact HO.out), HX, HB⟩
        case measure => simp [intOf]; omega
      | true =>
        rw [if_pos rfl] at hs
        have HSS := Lib.hid hs
        clear hs
        go_wp2_with (first
          | (refine wpList_app el23 rfl (.tmp 11) (.tmp 13) rfl (w.heap.size + 1) n _ _ #[.int .i64 q] rfl (by intro u hu; simp at hu; rcases hu with rfl; rfl) rfl rfl HO.out lc (by omega) ?_
             intro g2 c2 w2 hown hgr2 _
             have HO2 := Lib.hid hown
             have HX2 := Lib.hid ((hgr2.below.block w.heap.size (by omega)).trans HX.out)
             have HB2 := Lib.hid (HB.out.trans (hgr2.below.mono (by omega)))
             clear hown hgr2)
          | fail)
        go_roundw
        case rel => exact ⟨q + 1, n + 1, by omega, by omega, by simp, Lib.hid (by rw [HSS.out]; simpa [iV] using HO2.out), HX2, HB2⟩
        case measure => simp [intOf]; omega
    · obtain rfl : q = 6 := by omega
      have HN := Lib.hid (HL.out 6 n _ _ HO.out)
      go_wp2
      go_ret
      exact ⟨⟨_, rfl, by rw [← HN.out]; exact ownsRow_mono (by omega) HO.out⟩, HB.out⟩

theorem tr_set {w : World} {b : Nat} {t : TypeId} {p : Rp} {R : Rd} {o o2 : Nat → Bool} (h : w.heap[b]? = some (.cells #[.slice p.la R.lots.length p.lc, .slice p.sa R.smp.length p.sc, .int .i64 R.sp, .slice p.ba R.labs.length p.bc, .bool (o 0), .bool (o 1), .bool (o 2), .bool (o 3), .bool (o 4), .bool (o 5)] t (0, 0))) :
    (w.setCells b 4 [.bool (o2 0), .bool (o2 1), .bool (o2 2), .bool (o2 3), .bool (o2 4), .bool (o2 5)]).heap[b]? = some (.cells #[.slice p.la R.lots.length p.lc, .slice p.sa R.smp.length p.sc, .int .i64 R.sp, .slice p.ba R.labs.length p.bc, .bool (o2 0), .bool (o2 1), .bool (o2 2), .bool (o2 3), .bool (o2 4), .bool (o2 5)] t (0, 0)) := by
  have := set_list b t [.bool (o2 0), .bool (o2 1), .bool (o2 2), .bool (o2 3), .bool (o2 4), .bool (o2 5)] [.slice p.la R.lots.length p.lc, .slice p.sa R.smp.length p.sc, .int .i64 R.sp, .slice p.ba R.labs.length p.bc] [.bool (o 0), .bool (o 1), .bool (o 2), .bool (o 3), .bool (o 4), .bool (o 5)] [] w rfl (by simpa using h)
  simpa using this
theorem tr_there {w : World} {b : Nat} {t : TypeId} {p : Rp} {R : Rd} {o : Nat → Bool} (h : w.heap[b]? = some (.cells #[.slice p.la R.lots.length p.lc, .slice p.sa R.smp.length p.sc, .int .i64 R.sp, .slice p.ba R.labs.length p.bc, .bool (o 0), .bool (o 1), .bool (o 2), .bool (o 3), .bool (o 4), .bool (o 5)] t (0, 0))) : w.there b 4 6 := fun j hj => by
  have h2 := there_block h (n := 10) (by simp) (4 + j) (by omega)
  rwa [Nat.zero_add] at h2

set_option maxRecDepth 100000 in
set_option maxHeartbeats 2000000 in
theorem without_any (n : Nat) (p : Rp) (R : Rd) (v : Value) (l : List Int) (w : World) (hl : l.length ≤ 1000) (hp : ∀ x ∈ l, 0 ≤ x ∧ x < 6) (hL : IntsV n w v l) (hn : n ≤ w.heap.size) :
    Calls Try.prog 45 #[rdV p R, v] w fun e w' => e = .returned (.agg #[.slice p.la R.lots.length p.lc, .slice p.sa R.smp.length p.sc, .int .i64 R.sp, .slice p.ba R.labs.length p.bc, .bool (offF l 0), .bool (offF l 1), .bool (offF l 2), .bool (offF l 3), .bool (offF l 4), .bool (offF l 5)]) ∧ Below w.heap.size w w' := by
  obtain ⟨la, lc, rfl, hpp⟩ := hL
  have HP := Lib.hid hpp
  have HX := Lib.hid (box3 w (.cells #[.slice p.la R.lots.length p.lc, .slice p.sa R.smp.length p.sc, .int .i64 R.sp, .slice p.ba R.labs.length p.bc] 34) (.cells #[.slice none 0 0, .slice none 0 0, .int .i64 0, .slice none 0 0, .bool false, .bool false, .bool false, .bool false, .bool false, .bool false] 83) (.cells #[.slice p.la R.lots.length p.lc, .slice p.sa R.smp.length p.sc, .int .i64 R.sp, .slice p.ba R.labs.length p.bc, .bool false, .bool false, .bool false, .bool false, .bool false, .bool false] 83))
  have HB := Lib.hid (below3 w (.cells #[.slice p.la R.lots.length p.lc, .slice p.sa R.smp.length p.sc, .int .i64 R.sp, .slice p.ba R.labs.length p.bc] 34) (.cells #[.slice none 0 0, .slice none 0 0, .int .i64 0, .slice none 0 0, .bool false, .bool false, .bool false, .bool false, .bool false, .bool false] 83) (.cells #[.slice p.la R.lots.length p.lc, .slice p.sa R.smp.length p.sc, .int .i64 R.sp, .slice p.ba R.labs.length p.bc, .bool false, .bool false, .bool false, .bool false, .bool false, .bool false] 83))
  have HOF := Lib.hid fun q (hq : q < l.length) => @offF_take l q hq (hp _ (ld_mem hq)).1
  have HBD := Lib.hid fun q (hq : q < l.length) => hp _ (ld_mem hq)
  have HT : Hid (offF (l.take l.length) = offF l) := Lib.hid (by rw [List.take_length])
  have HT0 : Hid (offF (l.take 0) = fun _ => false) := Lib.hid rfl
  have HW := Lib.hid with_any
  unfold offA at HW
  unfold rdV
  clear hpp hp
  go_enter Try.func45, Try.ntmps45
  go_wp2
  generalize World.alloc (World.alloc (World.alloc w _) _) _ = W at *
  go_loopw [12] (fun i wr => ∃ q : Nat, q ≤ l.length ∧ i = .int .i64 q ∧ Hid (wr.heap[w.heap.size + 1]? = some (.cells #[.slice none 0 0, .slice none 0 0, .int .i64 0, .slice none 0 0, .bool false, .bool false, .bool false, .bool false, .bool false, .bool false] 83 (0, 0))) ∧ Hid (wr.heap[w.heap.size + 1 + 1]? = some (.cells #[.slice p.la R.lots.length p.lc, .slice p.sa R.smp.length p.sc, .int .i64 R.sp, .slice p.ba R.labs.length p.bc, .bool (offF (l.take q) 0), .bool (offF (l.take q) 1), .bool (offF (l.take q) 2), .bool (offF (l.take q) 3), .bool (offF (l.take q) 4), .bool (offF (l.take q) 5)] 83 (0, 0))) ∧ Hid (Below w.heap.size w wr)) (fun i _ => l.length - (intOf i).toNat)
  case atStart => exact ⟨0, Nat.zero_le _, rfl, Lib.hid HX.out.2.1, Lib.hid (by rw [HT0.out]; exact HX.out.2.2), HB⟩
  case round =>
    clear HX HB HT0
    obtain ⟨q, hq, rfl, HX1, HX2, HB⟩ := hrel
    by_cases hlt : q < l.length
    · obtain ⟨b, off, rfl, hbn, hc⟩ := HP.out (by omega)
      have p1 := (HB.out.cell (p := ⟨b, off + q, none⟩) (show b < w.heap.size by omega)).trans (hc q hlt)
      have hqn : (q : Int) < l.length := by omega
      have hw9 : IntKind.i64.wrap ((q : Int) + 1) = (q : Int) + 1 := IntWalk.i64_in _ (by omega)
      have hof := HOF.out q hlt
      have hbd := HBD.out q hlt
      obtain ⟨k, hk⟩ : ∃ k : Nat, ld l q = k := ⟨(ld l q).toNat, by omega⟩
      have hk6 : k < 6 := by omega
      rw [hk, Int.toNat_natCast] at hof
      rw [hk] at p1
      have HOFQ := Lib.hid hof
      obtain ⟨O, hO⟩ : ∃ O, offF (l.take q) = O := ⟨_, rfl⟩
      rw [hO] at HX2 HOFQ
      have HWK := Lib.hid (HW.out O k hk6)
      clear hc hbd hk hof hO
      have lx := lt_of_block HX2.out
      have c0 := cell_of_row wr (w.heap.size + 1 + 1) 0 _ _ _ HX2.out
      have c1 := cell_of_row wr (w.heap.size + 1 + 1) 1 _ _ _ HX2.out
      have c2 := cell_of_row wr (w.heap.size + 1 + 1) 2 _ _ _ HX2.out
      have c3 := cell_of_row wr (w.heap.size + 1 + 1) 3 _ _ _ HX2.out
      have c4 := cell_of_row wr (w.heap.size + 1 + 1) 4 _ _ _ HX2.out
      have c5 := cell_of_row wr (w.heap.size + 1 + 1) 5 _ _ _ HX2.out
      have c6 := cell_of_row wr (w.heap.size + 1 + 1) 6 _ _ _ HX2.out
      have c7 := cell_of_row wr (w.heap.size + 1 + 1) 7 _ _ _ HX2.out
      have c8 := cell_of_row wr (w.heap.size + 1 + 1) 8 _ _ _ HX2.out
      have c9 := cell_of_row wr (w.heap.size + 1 + 1) 9 _ _ _ HX2.out
      simp only [List.getElem?_toArray, List.getElem?_cons_zero, List.getElem?_cons_succ] at c0 c1 c2 c3 c4 c5 c6 c7 c8 c9
      go_wp2_with fail
      refine (HWK.out _).mono ?_
      rintro e w1 ⟨rfl, hb⟩
      replace HX1 := Lib.hid ((hb.block _ (lt_of_block HX1.out)).trans HX1.out)
      replace HX2 := Lib.hid ((hb.block _ (lt_of_block HX2.out)).trans HX2.out)
      replace HB := Lib.hid (below_to HB.out hb)
      clear hb lx c0 c1 c2 c3 c4 c5 c6 c7 c8 c9 p1 HWK
      rw [HOFQ.out]
      go_wp2_with (first
        | (refine wpList_store_mid rfl 81 (.tmp 20) (.tmp 19) rfl (w.heap.size + 1 + 1) 4 #[.bool (offF (l.take (q + 1)) 0), .bool (offF (l.take (q + 1)) 1), .bool (offF (l.take (q + 1)) 2), .bool (offF (l.take (q + 1)) 3), .bool (offF (l.take (q + 1)) 4), .bool (offF (l.take (q + 1)) 5)] rfl rfl (tr_there HX2.out) (by kernel_rfl) (by simp [Value.oneCell']) ?_
           have hx2 := tr_set (o2 := offF (l.take (q + 1))) HX2.out
           have hp := put_cells (w.heap.size + 1 + 1) 4 [.bool (offF (l.take (q + 1)) 0), .bool (offF (l.take (q + 1)) 1), .bool (offF (l.take (q + 1)) 2), .bool (offF (l.take (q + 1)) 3), .bool (offF (l.take (q + 1)) 4), .bool (offF (l.take (q + 1)) 5)] w1
           have HX3 := Lib.hid hx2
           have HX4 := Lib.hid ((hp.other (w.heap.size + 1) (by omega)).trans HX1.out)
           have HB4 := Lib.hid (hp.below HB.out (by omega))
           clear hx2 hp
           generalize World.setCells w1 _ _ _ = w2 at *)
        | fail)
      go_roundw
      case rel => exact ⟨q + 1, by omega, by simp, HX4, HX3, HB4⟩
      case measure => simp [intOf]; omega
    · obtain rfl : q = l.length := by omega
      rw [HT.out] at HX2
      have lx := lt_of_block HX2.out
      have c0 := cell_of_row wr (w.heap.size + 1 + 1) 0 _ _ _ HX2.out
      have c1 := cell_of_row wr (w.heap.size + 1 + 1) 1 _ _ _ HX2.out
      have c2 := cell_of_row wr (w.heap.size + 1 + 1) 2 _ _ _ HX2.out
      have c3 := cell_of_row wr (w.heap.size + 1 + 1) 3 _ _ _ HX2.out
      have c4 := cell_of_row wr (w.heap.size + 1 + 1) 4 _ _ _ HX2.out
      have c5 := cell_of_row wr (w.heap.size + 1 + 1) 5 _ _ _ HX2.out
      have c6 := cell_of_row wr (w.heap.size + 1 + 1) 6 _ _ _ HX2.out
      have c7 := cell_of_row wr (w.heap.size + 1 + 1) 7 _ _ _ HX2.out
      have c8 := cell_of_row wr (w.heap.size + 1 + 1) 8 _ _ _ HX2.out
      have c9 := cell_of_row wr (w.heap.size + 1 + 1) 9 _ _ _ HX2.out
      simp only [List.getElem?_toArray, List.getElem?_cons_zero, List.getElem?_cons_succ] at c0 c1 c2 c3 c4 c5 c6 c7 c8 c9
      go_wp2_with (first
        | (refine wpList_store_mid rfl 83 (.tmp 4) (.tmp 22) rfl (w.heap.size + 1) 0 #[.slice p.la R.lots.length p.lc, .slice p.sa R.smp.length p.sc, .int .i64 R.sp, .slice p.ba R.labs.length p.bc, .bool (offF l 0), .bool (offF l 1), .bool (offF l 2), .bool (offF l 3), .bool (offF l 4), .bool (offF l 5)] rfl rfl (there_block HX1.out (n := 10) (by simp)) (by kernel_rfl) (by simp [Value.oneCell']) ?_
           have hx2 := set_whole (w.heap.size + 1) 83 wr #[.slice none 0 0, .slice none 0 0, .int .i64 0, .slice none 0 0, .bool false, .bool false, .bool false, .bool false, .bool false, .bool false] #[.slice p.la R.lots.length p.lc, .slice p.sa R.smp.length p.sc, .int .i64 R.sp, .slice p.ba R.labs.length p.bc, .bool (offF l 0), .bool (offF l 1), .bool (offF l 2), .bool (offF l 3), .bool (offF l 4), .bool (offF l 5)] rfl HX1.out
           have hp := put_cells (w.heap.size + 1) 0 (#[.slice p.la R.lots.length p.lc, .slice p.sa R.smp.length p.sc, .int .i64 R.sp, .slice p.ba R.labs.length p.bc, .bool (offF l 0), .bool (offF l 1), .bool (offF l 2), .bool (offF l 3), .bool (offF l 4), .bool (offF l 5)] : Array Value).toList wr
           have HX3 := Lib.hid hx2
           have HB4 := Lib.hid (hp.below HB.out (by omega))
           clear hx2 hp
           generalize World.setCells wr _ _ _ = w2 at *)
        | fail)
      clear lx c0 c1 c2 c3 c4 c5 c6 c7 c8 c9
      have c0 := cell_of_row w2 (w.heap.size + 1) 0 _ _ _ HX3.out
      have c1 := cell_of_row w2 (w.heap.size + 1) 1 _ _ _ HX3.out
      have c2 := cell_of_row w2 (w.heap.size + 1) 2 _ _ _ HX3.out
      have c3 := cell_of_row w2 (w.heap.size + 1) 3 _ _ _ HX3.out
      have c4 := cell_of_row w2 (w.heap.size + 1) 4 _ _ _ HX3.out
      have c5 := cell_of_row w2 (w.heap.size + 1) 5 _ _ _ HX3.out
      have c6 := cell_of_row w2 (w.heap.size + 1) 6 _ _ _ HX3.out
      have c7 := cell_of_row w2 (w.heap.size + 1) 7 _ _ _ HX3.out
      have c8 := cell_of_row w2 (w.heap.size + 1) 8 _ _ _ HX3.out
      have c9 := cell_of_row w2 (w.heap.size + 1) 9 _ _ _ HX3.out
      simp only [List.getElem?_toArray, List.getElem?_cons_zero, List.getElem?_cons_succ] at c0 c1 c2 c3 c4 c5 c6 c7 c8 c9
      refine bodyPost_ret (v := .agg #[.slice p.la R.lots.length p.lc, .slice p.sa R.smp.length p.sc, .int .i64 R.sp, .slice p.ba R.labs.length p.bc, .bool (offF l 0), .bool (offF l 1), .bool (offF l 2), .bool (offF l 3), .bool (offF l 4), .bool (offF l 5)]) ?_ rfl ⟨rfl, HB4.out⟩
      simp [results, Try.results45, go_sem, c0, c1, c2, c3, c4, c5, c6, c7, c8, c9]
end Go.Proofs.Ytpdkgnfblnblbaa
