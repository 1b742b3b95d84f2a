/- For CreepNames: its lists as plain facts, and the chapter's runs with their blocks. No condition. For CreepNames: its values in memory. No condition. The law CreepNames, walked. No condition. The statement CreepNames holds: the law returns true. No condition. -/
import Derived.Test.YtfijaafkagcmmaaN3J
import Derived.Test.YtfijaafkagcmmaaJ2J
import Derived.Test.YtfijaafkagcmmaaF6J
import Derived.Test.YtfijaafkagcmmaaN6J
import Derived.BigRegion
import Derived.BigQuiet
namespace Go.Proofs.Ytfijaafkagcmmaa
open Go.RowKit Go.Shelf
attribute [local irreducible] arrV wpQuiet

def coldR : Rn := ⟨[⟨0, ⟨10, 10⟩⟩], ⟨30, 40⟩⟩
def otherL : List Rn := madeL ++ [coldR]
def stillL : List Rg := [⟨0, 2⟩]
def zeroL : List Rg := [⟨0, 0⟩]
def nineL : List Sg := List.replicate 9 ⟨0, ⟨0, 0⟩⟩
def sevenL : List Rn := List.replicate 7 ⟨[], ⟨0, 0⟩⟩
def oddL : List Rn := [⟨[⟨0, ⟨100, 100⟩⟩, ⟨2, ⟨10, 10⟩⟩], ⟨220, 250⟩⟩, ⟨[⟨1, ⟨20, 30⟩⟩], ⟨90, 100⟩⟩]
theorem all_15 : allB madeL [1, 5] = false ∧ allB madeL [2, 3] = true ∧ [1, 5] ∈ allL hotL ∧ [2, 3] ∈ allL hotL := by decide +kernel
theorem room_other : RoomOk hotL otherL := ⟨room_L.mat, by decide, fun r hr => by
  rcases List.mem_append.1 hr with h | h
  · exact room_L.rn r h
  · rw [List.mem_singleton] at h
    subst h
    refine ⟨⟨by decide, fun s hs => ?_⟩, by decide, by decide, by decide⟩
    simp only [coldR, List.mem_cons, List.not_mem_nil, or_false] at hs
    subst hs
    exact ⟨by decide, by decide, by decide, by decide, by decide⟩⟩
theorem ok_other : okL hotL otherL = [] := by decide +kernel
theorem doubt_other : (doubtP (alS hotL otherL) otherL.length).map (fun s => listS s 6) = some [0] := by decide +kernel
theorem doubt_first : ∃ s, doubtP (alS hotL otherL) otherL.length = some s ∧ listS s 6 = [0] := by
  have h := doubt_other
  cases e : doubtP (alS hotL otherL) otherL.length with
  | none => rw [e] at h; cases h
  | some s =>
    rw [e] at h
    exact ⟨s, rfl, by simpa using h⟩
theorem still_mat : MatOk stillL := ⟨⟨by decide, by decide, fun r hr => by
  simp only [stillL, List.mem_cons, List.not_mem_nil, or_false] at hr
  subst hr; decide⟩, by decide +kernel⟩
theorem zero_mat : MatOk zeroL := ⟨⟨by decide, by decide, fun r hr => by
  simp only [zeroL, List.mem_cons, List.not_mem_nil, or_false] at hr
  subst hr; decide⟩, by decide +kernel⟩
theorem room_still : RoomOk stillL [] := ⟨still_mat, by decide, fun r hr => by simp at hr⟩
theorem room_zero : RoomOk zeroL [] := ⟨zero_mat, by decide, fun r hr => by simp at hr⟩
theorem ok_still : okL stillL [] = [[0], [1], [2]] ∧ okL zeroL [] = [[0]] := by decide +kernel
theorem life_still : (lifeL (okL stillL []) 0 5).lo = 3 ∧ (lifeL (okL stillL []) 0 5).hi = -1 ∧ (lifeL (okL stillL []) 0 0).lo = 0 ∧ (lifeL (okL stillL []) 0 0).hi = 0 ∧ (lifeL (okL zeroL []) 0 5).lo = -1 ∧ (lifeL (okL zeroL []) 0 5).hi = -1 := by
  rw [ok_still.1, ok_still.2]; decide +kernel
theorem errs_made : rateE hotL madeL [3, 2] = 2 ∧ planE hotL madeL nineL = 2 ∧ lifeE hotL madeL 2 5 = 2 ∧ lifeE hotL madeL 1 (-1) = 2 := by decide +kernel
theorem errs_other : allowE hotL otherL = 9 ∧ planE hotL otherL nineL = 9 ∧ faultE hotL sevenL = 3 ∧ faultE hotL oddL = 1 := by decide +kernel
theorem errs_mat : matE [] = 1 ∧ matE [⟨0, 21⟩] = 1 ∧ matE [⟨5, 9⟩, ⟨1, 4⟩] = 1 := by decide +kernel
theorem held_made : Held hotL madeL := ⟨by decide, by decide, fun q hq => by
  simp only [madeL, List.mem_cons, List.not_mem_nil, or_false] at hq
  rcases hq with rfl | rfl <;> decide⟩
theorem held_other : Held hotL otherL := ⟨by decide, by decide, fun q hq => by
  simp only [otherL, madeL, coldR, List.cons_append, List.nil_append, List.mem_cons, List.not_mem_nil, or_false] at hq
  rcases hq with rfl | rfl | rfl <;> decide⟩
theorem held_odd : Held hotL oddL := ⟨by decide, by decide, fun q hq => by
  simp only [oddL, List.mem_cons, List.not_mem_nil, or_false] at hq
  rcases hq with rfl | rfl <;> decide⟩
theorem held_seven : Held hotL sevenL := ⟨by decide, by decide, fun q hq => by
  rw [(List.mem_replicate.1 hq).2]; decide⟩

/-- The chapter's runs, as they were made. -/
def MadeV (w : World) (g3 g6 g8 : Nat) : Prop :=
  w.heap[g3]? = some (.cells #[.int .i64 0, .int .i64 100, .int .i64 100, .int .i64 1, .int .i64 10, .int .i64 10] 76 (0, 0)) ∧ w.heap[g6]? = some (.cells #[.int .i64 1, .int .i64 20, .int .i64 30] 76 (0, 0)) ∧
  w.heap[g8]? = some (.cells #[.slice (some ⟨g3, 0, none⟩) 2 2, .int .i64 220, .int .i64 250, .slice (some ⟨g6, 0, none⟩) 1 1, .int .i64 90, .int .i64 100] 78 (0, 0))
set_option maxRecDepth 100000 in
set_option maxHeartbeats 1000000 in
theorem made_own (w : World) :
    Calls Try.prog 44 #[] w fun e w' => (∃ g3 g6 g8, e = .returned (.slice (some ⟨g8, 0, none⟩) 2 2) ∧ w.heap.size ≤ g8 ∧ w.heap.size ≤ g3 ∧ MadeV w' g3 g6 g8) ∧ Below w.heap.size w w' := by
  have HB0 := Lib.hid (Below.refl w.heap.size w)
  go_enter Try.func44, Try.ntmps44
  go_wp2_with fail
  refine (between_any _ _ _).mono ?_
  rintro e w1 ⟨rfl, hb1⟩
  have HB1 := Lib.hid (below_to HB0.out hb1)
  clear hb1
  go_wp2_with fail
  refine (between_any _ _ _).mono ?_
  rintro e w2 ⟨rfl, hb2⟩
  have HB2 := Lib.hid (below_to HB1.out hb2)
  clear hb2
  go_wp2_with (first
    | (refine wpList_build rfl 55 76 2 _ rfl el55.u #[.int .i64 0, .int .i64 100, .int .i64 100, .int .i64 1, .int .i64 10, .int .i64 10] (by kernel_rfl) ?_
       have hn := heap_alloc_new w2 (.cells #[.int .i64 0, .int .i64 100, .int .i64 100, .int .i64 1, .int .i64 10, .int .i64 10] 76)
       have hbn := box_below w2 (.cells #[.int .i64 0, .int .i64 100, .int .i64 100, .int .i64 1, .int .i64 10, .int .i64 10] 76)
       have N1 := Lib.hid hn
       have hg3 : w.heap.size ≤ w2.heap.size := HB2.out.size
       have HB3 := Lib.hid (below_to HB2.out hbn)
       clear hn hbn
       generalize World.alloc w2 _ = w3 at *
       generalize w2.heap.size = g3 at *)
    | fail)
  refine (between_any _ _ _).mono ?_
  rintro e w4 ⟨rfl, hb4⟩
  have HB4 := Lib.hid (below_to HB3.out hb4)
  replace N1 := Lib.hid ((hb4.block _ (lt_of_block N1.out)).trans N1.out)
  clear hb4
  go_wp2_with fail
  refine (between_any _ _ _).mono ?_
  rintro e w5 ⟨rfl, hb5⟩
  have HB5 := Lib.hid (below_to HB4.out hb5)
  replace N1 := Lib.hid ((hb5.block _ (lt_of_block N1.out)).trans N1.out)
  clear hb5
  go_wp2_with (first
    | (refine wpList_build rfl 55 76 1 _ rfl el55.u #[.int .i64 1, .int .i64 20, .int .i64 30] (by kernel_rfl) ?_
       have hn := heap_alloc_new w5 (.cells #[.int .i64 1, .int .i64 20, .int .i64 30] 76)
       have hbn := box_below w5 (.cells #[.int .i64 1, .int .i64 20, .int .i64 30] 76)
       have N2 := Lib.hid hn
       have HB6 := Lib.hid (below_to HB5.out hbn)
       replace N1 := Lib.hid ((hbn.block _ (lt_of_block N1.out)).trans N1.out)
       clear hn hbn
       generalize World.alloc w5 _ = w6 at *
       generalize w5.heap.size = g6 at *)
    | fail)
  refine (between_any _ _ _).mono ?_
  rintro e w7 ⟨rfl, hb7⟩
  have HB7 := Lib.hid (below_to HB6.out hb7)
  replace N1 := Lib.hid ((hb7.block _ (lt_of_block N1.out)).trans N1.out)
  replace N2 := Lib.hid ((hb7.block _ (lt_of_block N2.out)).trans N2.out)
  clear hb7
  go_wp2_with (first
    | (refine wpList_build rfl 37 78 2 _ rfl el37.u #[.slice (some ⟨g3, 0, none⟩) 2 2, .int .i64 220, .int .i64 250, .slice (some ⟨g6, 0, none⟩) 1 1, .int .i64 90, .int .i64 100] (by kernel_rfl) ?_
       have hn := heap_alloc_new w7 (.cells #[.slice (some ⟨g3, 0, none⟩) 2 2, .int .i64 220, .int .i64 250, .slice (some ⟨g6, 0, none⟩) 1 1, .int .i64 90, .int .i64 100] 78)
       have hbn := box_below w7 (.cells #[.slice (some ⟨g3, 0, none⟩) 2 2, .int .i64 220, .int .i64 250, .slice (some ⟨g6, 0, none⟩) 1 1, .int .i64 90, .int .i64 100] 78)
       have N3 := Lib.hid hn
       have hg8 : w.heap.size ≤ w7.heap.size := HB7.out.size
       have HB8 := Lib.hid (below_to HB7.out hbn)
       replace N1 := Lib.hid ((hbn.block _ (lt_of_block N1.out)).trans N1.out)
       replace N2 := Lib.hid ((hbn.block _ (lt_of_block N2.out)).trans N2.out)
       clear hn hbn
       generalize World.alloc w7 _ = w8 at *
       generalize w7.heap.size = g8 at *)
    | fail)
  go_ret
  exact ⟨⟨g3, g6, g8, rfl, hg8, hg3, N1.out, N2.out, N3.out⟩, HB8.out⟩
end Go.Proofs.Ytfijaafkagcmmaa
namespace Go.Proofs.Ytfijaafkagcmmaa
open Go.RowKit Go.Shelf
attribute [local irreducible] arrV wpQuiet

theorem MadeV.below {w w' : World} {g3 g6 g8 : Nat} (h : MadeV w g3 g6 g8) (hb : Below w.heap.size w w') : MadeV w' g3 g6 g8 :=
  ⟨(hb.block _ (lt_of_block h.1)).trans h.1, (hb.block _ (lt_of_block h.2.1)).trans h.2.1, (hb.block _ (lt_of_block h.2.2)).trans h.2.2⟩
theorem ints2 {w : World} {g : Nat} {a b : Int} (h : w.heap[g]? = some (.cells #[.int .i64 a, .int .i64 b] 3 (0, 0))) : IntsV w.heap.size w (.slice (some ⟨g, 0, none⟩) 2 2) [a, b] :=
  ⟨_, 2, rfl, Nat.le_refl _, fun _ => ⟨g, 0, rfl, lt_of_block h, fun i hi => by
    have hi2 : i < 2 := hi
    match i, hi2 with
    | 0, _ => exact cell_of_row w g 0 _ _ _ h
    | 1, _ => exact cell_of_row w g 1 _ _ _ h⟩⟩
theorem ints1 {w : World} {g : Nat} {a : Int} (h : w.heap[g]? = some (.cells #[.int .i64 a] 3 (0, 0))) : IntsV w.heap.size w (.slice (some ⟨g, 0, none⟩) 1 1) [a] :=
  ⟨_, 1, rfl, Nat.le_refl _, fun _ => ⟨g, 0, rfl, lt_of_block h, fun i hi => by
    have hi2 : i < 1 := hi
    match i, hi2 with
    | 0, _ => exact cell_of_row w g 0 _ _ _ h⟩⟩
theorem rgs1 {w : World} {g : Nat} {a b : Int} (h : w.heap[g]? = some (.cells #[.int .i64 a, .int .i64 b] 50 (0, 0))) : RgsV w.heap.size w (.slice (some ⟨g, 0, none⟩) 1 1) [⟨a, b⟩] :=
  ⟨_, 1, rfl, fun _ => ⟨g, 0, rfl, lt_of_block h, fun i hi => by
    have hi2 : i < 1 := hi
    match i, hi2 with
    | 0, _ => exact ⟨cell_of_row w g 0 _ _ _ h, cell_of_row w g 1 _ _ _ h⟩⟩⟩
theorem rgs2 {w : World} {g : Nat} {a b c d : Int} (h : w.heap[g]? = some (.cells #[.int .i64 a, .int .i64 b, .int .i64 c, .int .i64 d] 50 (0, 0))) : RgsV w.heap.size w (.slice (some ⟨g, 0, none⟩) 2 2) [⟨a, b⟩, ⟨c, d⟩] :=
  ⟨_, 2, rfl, fun _ => ⟨g, 0, rfl, lt_of_block h, fun i hi => by
    have hi2 : i < 2 := hi
    match i, hi2 with
    | 0, _ => exact ⟨cell_of_row w g 0 _ _ _ h, cell_of_row w g 1 _ _ _ h⟩
    | 1, _ => exact ⟨cell_of_row w g 2 _ _ _ h, cell_of_row w g 3 _ _ _ h⟩⟩⟩
theorem rgs0 (n : Nat) (w : World) : RgsV n w (.slice none 0 0) [] := ⟨none, 0, rfl, fun h => absurd h (by decide)⟩
theorem runs0 (n : Nat) (w : World) : RunsV n w (.slice none 0 0) [] := ⟨none, 0, rfl, fun h => absurd h (by decide)⟩
def sixC (g3 g6 : Nat) : List Value := [.slice (some ⟨g3, 0, none⟩) 2 2, .int .i64 220, .int .i64 250, .slice (some ⟨g6, 0, none⟩) 1 1, .int .i64 90, .int .i64 100]
theorem MadeV.own {w : World} {base g3 g6 g8 : Nat} (h : MadeV w g3 g6 g8) (hb : base ≤ g8) : w.ownsRow base 78 3 (.slice (some ⟨g8, 0, none⟩) 2 2) 2 (sixC g3 g6) :=
  ⟨by simp [sixC], .inr ⟨g8, 2, _, rfl, hb, h.2.2, by decide, by decide, rfl, rfl⟩⟩
theorem other_runs {W w' : World} {base g3 g6 g8 bs g c : Nat} (h : MadeV W g3 g6 g8) (hs : W.heap[bs]? = some (.cells #[.int .i64 0, .int .i64 10, .int .i64 10] 76 (0, 0))) (hgr : Grew base W w' (.slice (some ⟨g8, 0, none⟩) 2 2))
    (ho : w'.ownsRow base 78 3 (.slice (some ⟨g, 0, none⟩) 3 c) 3 (sixC g3 g6 ++ [.slice (some ⟨bs, 0, none⟩) 1 1, .int .i64 30, .int .i64 40])) : RunsV w'.heap.size w' (.slice (some ⟨g, 0, none⟩) 3 c) otherL := by
  have hne : ∀ k cs, W.heap[k]? = some (.cells cs 76 (0, 0)) → (Value.slice (some ⟨g8, 0, none⟩) 2 2).ownBlock ≠ some k := fun k cs hk e => by
    have e' : g8 = k := by simpa [Value.ownBlock] using e
    rw [← e', h.2.2] at hk
    cases hk
  have m3 := (hgr.block g3 (lt_of_block h.1) (hne _ _ h.1)).trans h.1
  have m6 := (hgr.block g6 (lt_of_block h.2.1) (hne _ _ h.2.1)).trans h.2.1
  have ms := (hgr.block bs (lt_of_block hs) (hne _ _ hs)).trans hs
  have hg : g < w'.heap.size := by
    rcases ho.2 with ⟨hv, _⟩ | ⟨g', _, _, hv, _, hgg, _⟩
    · cases hv
    · cases hv
      exact lt_of_block hgg
  have hc := fun j (hj : j < 9) => ho.cellAt j hj
  refine ⟨_, c, rfl, fun _ => ⟨g, 0, rfl, hg, fun i hi => ?_⟩⟩
  have hi2 : i < 3 := hi
  match i, hi2 with
  | 0, _ =>
    refine ⟨_, hc 0 (by decide), hc 1 (by decide), hc 2 (by decide), _, 2, rfl, fun _ => ⟨g3, 0, rfl, lt_of_block m3, fun j hj => ?_⟩⟩
    have hj2 : j < 2 := hj
    match j, hj2 with
    | 0, _ => exact ⟨cell_of_row _ g3 0 _ _ _ m3, cell_of_row _ g3 1 _ _ _ m3, cell_of_row _ g3 2 _ _ _ m3⟩
    | 1, _ => exact ⟨cell_of_row _ g3 3 _ _ _ m3, cell_of_row _ g3 4 _ _ _ m3, cell_of_row _ g3 5 _ _ _ m3⟩
  | 1, _ =>
    refine ⟨_, hc 3 (by decide), hc 4 (by decide), hc 5 (by decide), _, 1, rfl, fun _ => ⟨g6, 0, rfl, lt_of_block m6, fun j hj => ?_⟩⟩
    have hj2 : j < 1 := hj
    match j, hj2 with
    | 0, _ => exact ⟨cell_of_row _ g6 0 _ _ _ m6, cell_of_row _ g6 1 _ _ _ m6, cell_of_row _ g6 2 _ _ _ m6⟩
  | 2, _ =>
    refine ⟨_, hc 6 (by decide), hc 7 (by decide), hc 8 (by decide), _, 1, rfl, fun _ => ⟨bs, 0, rfl, lt_of_block ms, fun j hj => ?_⟩⟩
    have hj2 : j < 1 := hj
    match j, hj2 with
    | 0, _ => exact ⟨cell_of_row _ bs 0 _ _ _ ms, cell_of_row _ bs 1 _ _ _ ms, cell_of_row _ bs 2 _ _ _ ms⟩
theorem nine_segs {w : World} {g : Nat} (h : w.heap[g]? = some (.cells #[.int .i64 0, .int .i64 0, .int .i64 0, .int .i64 0, .int .i64 0, .int .i64 0, .int .i64 0, .int .i64 0, .int .i64 0, .int .i64 0, .int .i64 0, .int .i64 0, .int .i64 0, .int .i64 0, .int .i64 0, .int .i64 0, .int .i64 0, .int .i64 0, .int .i64 0, .int .i64 0, .int .i64 0, .int .i64 0, .int .i64 0, .int .i64 0, .int .i64 0, .int .i64 0, .int .i64 0] 76 (0, 0))) : SegsV w.heap.size w (.slice (some ⟨g, 0, none⟩) 9 9) nineL :=
  ⟨_, 9, rfl, fun _ => ⟨g, 0, rfl, lt_of_block h, fun i hi => by
    have hi2 : i < 9 := hi
    match i, hi2 with
    | 0, _ => exact ⟨cell_of_row _ g 0 _ _ _ h, cell_of_row _ g 1 _ _ _ h, cell_of_row _ g 2 _ _ _ h⟩
    | 1, _ => exact ⟨cell_of_row _ g 3 _ _ _ h, cell_of_row _ g 4 _ _ _ h, cell_of_row _ g 5 _ _ _ h⟩
    | 2, _ => exact ⟨cell_of_row _ g 6 _ _ _ h, cell_of_row _ g 7 _ _ _ h, cell_of_row _ g 8 _ _ _ h⟩
    | 3, _ => exact ⟨cell_of_row _ g 9 _ _ _ h, cell_of_row _ g 10 _ _ _ h, cell_of_row _ g 11 _ _ _ h⟩
    | 4, _ => exact ⟨cell_of_row _ g 12 _ _ _ h, cell_of_row _ g 13 _ _ _ h, cell_of_row _ g 14 _ _ _ h⟩
    | 5, _ => exact ⟨cell_of_row _ g 15 _ _ _ h, cell_of_row _ g 16 _ _ _ h, cell_of_row _ g 17 _ _ _ h⟩
    | 6, _ => exact ⟨cell_of_row _ g 18 _ _ _ h, cell_of_row _ g 19 _ _ _ h, cell_of_row _ g 20 _ _ _ h⟩
    | 7, _ => exact ⟨cell_of_row _ g 21 _ _ _ h, cell_of_row _ g 22 _ _ _ h, cell_of_row _ g 23 _ _ _ h⟩
    | 8, _ => exact ⟨cell_of_row _ g 24 _ _ _ h, cell_of_row _ g 25 _ _ _ h, cell_of_row _ g 26 _ _ _ h⟩⟩⟩
theorem seven_runs {w : World} {g : Nat} (h : w.heap[g]? = some (.cells #[.slice none 0 0, .int .i64 0, .int .i64 0, .slice none 0 0, .int .i64 0, .int .i64 0, .slice none 0 0, .int .i64 0, .int .i64 0, .slice none 0 0, .int .i64 0, .int .i64 0, .slice none 0 0, .int .i64 0, .int .i64 0, .slice none 0 0, .int .i64 0, .int .i64 0, .slice none 0 0, .int .i64 0, .int .i64 0] 78 (0, 0))) : RunsV w.heap.size w (.slice (some ⟨g, 0, none⟩) 7 7) sevenL :=
  ⟨_, 7, rfl, fun _ => ⟨g, 0, rfl, lt_of_block h, fun i hi => by
    have hi2 : i < 7 := hi
    match i, hi2 with
    | 0, _ => exact ⟨_, cell_of_row _ g 0 _ _ _ h, cell_of_row _ g 1 _ _ _ h, cell_of_row _ g 2 _ _ _ h, none, 0, rfl, fun h0 => absurd h0 (by decide)⟩
    | 1, _ => exact ⟨_, cell_of_row _ g 3 _ _ _ h, cell_of_row _ g 4 _ _ _ h, cell_of_row _ g 5 _ _ _ h, none, 0, rfl, fun h0 => absurd h0 (by decide)⟩
    | 2, _ => exact ⟨_, cell_of_row _ g 6 _ _ _ h, cell_of_row _ g 7 _ _ _ h, cell_of_row _ g 8 _ _ _ h, none, 0, rfl, fun h0 => absurd h0 (by decide)⟩
    | 3, _ => exact ⟨_, cell_of_row _ g 9 _ _ _ h, cell_of_row _ g 10 _ _ _ h, cell_of_row _ g 11 _ _ _ h, none, 0, rfl, fun h0 => absurd h0 (by decide)⟩
    | 4, _ => exact ⟨_, cell_of_row _ g 12 _ _ _ h, cell_of_row _ g 13 _ _ _ h, cell_of_row _ g 14 _ _ _ h, none, 0, rfl, fun h0 => absurd h0 (by decide)⟩
    | 5, _ => exact ⟨_, cell_of_row _ g 15 _ _ _ h, cell_of_row _ g 16 _ _ _ h, cell_of_row _ g 17 _ _ _ h, none, 0, rfl, fun h0 => absurd h0 (by decide)⟩
    | 6, _ => exact ⟨_, cell_of_row _ g 18 _ _ _ h, cell_of_row _ g 19 _ _ _ h, cell_of_row _ g 20 _ _ _ h, none, 0, rfl, fun h0 => absurd h0 (by decide)⟩⟩⟩
theorem odd_runs {w : World} {g3 g6 g8 : Nat} (h : MadeV w g3 g6 g8) : RunsV (w.setCell ⟨g3, 3, none⟩ (.int .i64 2)).heap.size (w.setCell ⟨g3, 3, none⟩ (.int .i64 2)) (.slice (some ⟨g8, 0, none⟩) 2 2) oddL := by
  have n6 : g6 ≠ g3 := fun e => by have z := h.2.1; rw [e, h.1] at z; simp at z
  have n8 : g8 ≠ g3 := fun e => by have z := h.2.2; rw [e, h.1] at z; simp at z
  have m3 := heap_setCell_same w g3 3 _ 76 (.int .i64 2) h.1
  have m6 := (heap_setCell_other w ⟨g3, 3, none⟩ g6 (.int .i64 2) n6).trans h.2.1
  have m8 := (heap_setCell_other w ⟨g3, 3, none⟩ g8 (.int .i64 2) n8).trans h.2.2
  generalize w.setCell _ _ = w' at *
  refine ⟨_, 2, rfl, fun _ => ⟨g8, 0, rfl, lt_of_block m8, fun i hi => ?_⟩⟩
  have hi2 : i < 2 := hi
  match i, hi2 with
  | 0, _ =>
    refine ⟨_, cell_of_row _ g8 0 _ _ _ m8, cell_of_row _ g8 1 _ _ _ m8, cell_of_row _ g8 2 _ _ _ m8, some ⟨g3, 0, none⟩, 2, rfl, fun _ => ⟨g3, 0, rfl, lt_of_block m3, fun j hj => ?_⟩⟩
    have hj2 : j < 2 := hj
    match j, hj2 with
    | 0, _ => exact ⟨cell_of_row _ g3 0 _ _ _ m3, cell_of_row _ g3 1 _ _ _ m3, cell_of_row _ g3 2 _ _ _ m3⟩
    | 1, _ => exact ⟨cell_of_row _ g3 3 _ _ _ m3, cell_of_row _ g3 4 _ _ _ m3, cell_of_row _ g3 5 _ _ _ m3⟩
  | 1, _ =>
    refine ⟨_, cell_of_row _ g8 3 _ _ _ m8, cell_of_row _ g8 4 _ _ _ m8, cell_of_row _ g8 5 _ _ _ m8, some ⟨g6, 0, none⟩, 1, rfl, fun _ => ⟨g6, 0, rfl, lt_of_block m6, fun j hj => ?_⟩⟩
    have hj2 : j < 1 := hj
    match j, hj2 with
    | 0, _ => exact ⟨cell_of_row _ g6 0 _ _ _ m6, cell_of_row _ g6 1 _ _ _ m6, cell_of_row _ g6 2 _ _ _ m6⟩
end Go.Proofs.Ytfijaafkagcmmaa
namespace Go.Proofs.Ytfijaafkagcmmaa
open Go.RowKit Go.Shelf
attribute [local irreducible] arrV wpQuiet

set_option maxRecDepth 100000 in
set_option maxHeartbeats 8000000 in
theorem names_walk (w : World) : Calls Try.prog 8 #[] w fun e w' => e = .returned (.bool true) ∧ Below w.heap.size w w' := by
  have HBA := Lib.hid (Below.refl w.heap.size w)
  go_enter Try.func8, Try.ntmps8
  go_wp2_with fail
  refine (hot_any _).mono ?_
  rintro e u1 ⟨⟨m1, rfl, hm1⟩, hb⟩
  replace HBA := Lib.hid (below_to HBA.out hb)
  clear hb
  have Hm1 := Lib.hid hm1
  clear hm1
  go_wp2_with fail
  refine (made_any _).mono ?_
  rintro e u2 ⟨⟨r1, rfl, hr1⟩, hb⟩
  replace HBA := Lib.hid (below_to HBA.out hb)
  replace Hm1 := Lib.hid ((Hm1.out.same (.below (Nat.le_refl _) hb)).up hb.size)
  clear hb
  have Hr1 := Lib.hid hr1
  clear hr1
  go_wp2_with fail
  have hbx := box_below u2 (.cells #[.int .i64 1, .int .i64 5] 3)
  have hnx := heap_alloc_new u2 (.cells #[.int .i64 1, .int .i64 5] 3)
  replace HBA := Lib.hid (below_to HBA.out hbx)
  replace Hm1 := Lib.hid ((Hm1.out.same (.below (Nat.le_refl _) hbx)).up hbx.size)
  replace Hr1 := Lib.hid ((Hr1.out.same (.below (Nat.le_refl _) hbx)).up hbx.size)
  have X1 := Lib.hid hnx
  clear hbx hnx
  generalize World.alloc u2 (.cells #[.int .i64 1, .int .i64 5] 3) = u3 at *
  generalize u2.heap.size = b1 at *
  have hal := Allows_ok u3.heap.size _ _ _ hotL madeL [1, 5] u3 room_L all_15.2.2.1 ⟨Nat.le_refl _, Hm1.out, Hr1.out⟩ (ints2 X1.out)
  rw [all_15.1] at hal
  refine (hal).mono ?_
  rintro e u4 ⟨rfl, hb⟩
  replace HBA := Lib.hid (below_to HBA.out hb)
  replace Hm1 := Lib.hid ((Hm1.out.same (.below (Nat.le_refl _) hb)).up hb.size)
  replace Hr1 := Lib.hid ((Hr1.out.same (.below (Nat.le_refl _) hb)).up hb.size)
  replace X1 := Lib.hid ((hb.block _ (lt_of_block X1.out)).trans X1.out)
  clear hb
  clear hal
  clear Hm1
  clear Hr1
  clear X1
  go_wp2_with fail
  refine (hot_any _).mono ?_
  rintro e u5 ⟨⟨m2, rfl, hm2⟩, hb⟩
  replace HBA := Lib.hid (below_to HBA.out hb)
  clear hb
  have Hm2 := Lib.hid hm2
  clear hm2
  go_wp2_with fail
  refine (made_any _).mono ?_
  rintro e u6 ⟨⟨r2, rfl, hr2⟩, hb⟩
  replace HBA := Lib.hid (below_to HBA.out hb)
  replace Hm2 := Lib.hid ((Hm2.out.same (.below (Nat.le_refl _) hb)).up hb.size)
  clear hb
  have Hr2 := Lib.hid hr2
  clear hr2
  go_wp2_with fail
  have hbx := box_below u6 (.cells #[.int .i64 2, .int .i64 3] 3)
  have hnx := heap_alloc_new u6 (.cells #[.int .i64 2, .int .i64 3] 3)
  replace HBA := Lib.hid (below_to HBA.out hbx)
  replace Hm2 := Lib.hid ((Hm2.out.same (.below (Nat.le_refl _) hbx)).up hbx.size)
  replace Hr2 := Lib.hid ((Hr2.out.same (.below (Nat.le_refl _) hbx)).up hbx.size)
  have X2 := Lib.hid hnx
  clear hbx hnx
  generalize World.alloc u6 (.cells #[.int .i64 2, .int .i64 3] 3) = u7 at *
  generalize u6.heap.size = b2 at *
  have hal := Allows_ok u7.heap.size _ _ _ hotL madeL [2, 3] u7 room_L all_15.2.2.2 ⟨Nat.le_refl _, Hm2.out, Hr2.out⟩ (ints2 X2.out)
  rw [all_15.2.1] at hal
  refine (hal).mono ?_
  rintro e u8 ⟨rfl, hb⟩
  replace HBA := Lib.hid (below_to HBA.out hb)
  replace Hm2 := Lib.hid ((Hm2.out.same (.below (Nat.le_refl _) hb)).up hb.size)
  replace Hr2 := Lib.hid ((Hr2.out.same (.below (Nat.le_refl _) hb)).up hb.size)
  replace X2 := Lib.hid ((hb.block _ (lt_of_block X2.out)).trans X2.out)
  clear hb
  clear hal
  clear Hm2
  clear Hr2
  clear X2
  go_wp2_with fail
  have hwu := HBA.out.size
  refine (made_own _).mono ?_
  rintro e u9 ⟨⟨g3, g6, g8, rfl, hg8, -, hmd⟩, hb⟩
  replace HBA := Lib.hid (below_to HBA.out hb)
  clear hb
  have HMD := Lib.hid hmd
  have hg8w := Nat.le_trans hwu hg8
  clear hmd hwu hg8
  go_wp2_with fail
  refine (between_any 10 10 _).mono ?_
  rintro e u10 ⟨rfl, hb⟩
  replace HMD := Lib.hid (HMD.out.below hb)
  replace HBA := Lib.hid (below_to HBA.out hb)
  clear hb
  go_wp2_with fail
  have hbx := box_below u10 (.cells #[.int .i64 0, .int .i64 10, .int .i64 10] 76)
  have hnx := heap_alloc_new u10 (.cells #[.int .i64 0, .int .i64 10, .int .i64 10] 76)
  replace HMD := Lib.hid (HMD.out.below hbx)
  replace HBA := Lib.hid (below_to HBA.out hbx)
  have XS := Lib.hid hnx
  clear hbx hnx
  generalize World.alloc u10 (.cells #[.int .i64 0, .int .i64 10, .int .i64 10] 76) = u11 at *
  generalize u10.heap.size = bs at *
  refine (between_any 30 40 _).mono ?_
  rintro e u12 ⟨rfl, hb⟩
  replace HMD := Lib.hid (HMD.out.below hb)
  replace HBA := Lib.hid (below_to HBA.out hb)
  replace XS := Lib.hid ((hb.block _ (lt_of_block XS.out)).trans XS.out)
  clear hb
  have hsz := HBA.out.size
  have HOWN := Lib.hid (HMD.out.own (base := w.heap.size) hg8w)
  go_wp2_with (first
    | (refine wpList_app el37 rfl (.tmp 34) (.tmp 40) rfl w.heap.size 2 _ _ #[.slice (some ⟨bs, 0, none⟩) 1 1, .int .i64 30, .int .i64 40] rfl (by intro u hu; simp at hu; rcases hu with rfl | rfl | rfl <;> rfl) rfl rfl HOWN.out hsz (by decide) ?_
       intro g c v0 hown hgr _
       have hrn := Lib.hid (other_runs HMD.out XS.out hgr hown)
       have hbe := Lib.hid (HBA.out.trans hgr.below)
       clear hown hgr)
    | fail)
  have HOT := hrn
  clear HMD XS HOWN hsz hg8w HBA
  have HBA := hbe
  clear hrn hbe
  refine (hot_any _).mono ?_
  rintro e u13 ⟨⟨m4, rfl, hm4⟩, hb⟩
  replace HBA := Lib.hid (below_to HBA.out hb)
  replace HOT := Lib.hid ((HOT.out.same (.below (Nat.le_refl _) hb)).up hb.size)
  clear hb
  have Hm4 := Lib.hid hm4
  clear hm4
  go_wp2_with fail
  obtain ⟨s, hs, hs0⟩ := doubt_first
  have hdo := Doubtful_ok u13.heap.size _ _ hotL otherL s u13 room_other ⟨Nat.le_refl _, Hm4.out, HOT.out⟩ hs
  rw [hs0] at hdo
  refine (hdo).mono ?_
  rintro e u14 ⟨⟨v6, rfl, hv6⟩, hb⟩
  replace HBA := Lib.hid (below_to HBA.out hb)
  replace HOT := Lib.hid ((HOT.out.same (.below (Nat.le_refl _) hb)).up hb.size)
  replace Hm4 := Lib.hid ((Hm4.out.same (.below (Nat.le_refl _) hb)).up hb.size)
  clear hb
  have HD := Lib.hid hv6
  clear hv6 hdo hs hs0 s
  clear Hm4
  go_wp2_with fail
  refine (between_any 0 2 _).mono ?_
  rintro e u15 ⟨rfl, hb⟩
  replace HBA := Lib.hid (below_to HBA.out hb)
  replace HOT := Lib.hid ((HOT.out.same (.below (Nat.le_refl _) hb)).up hb.size)
  replace HD := Lib.hid ((HD.out.same (.below (Nat.le_refl _) hb)).up hb.size)
  clear hb
  go_wp2_with fail
  have h8 : (World.alloc u15 (.cells #[.int .i64 0, .int .i64 2] 50)).heap.size = u15.heap.size + 1 := by simp
  have hbx := box_below u15 (.cells #[.int .i64 0, .int .i64 2] 50)
  have hnx := heap_alloc_new u15 (.cells #[.int .i64 0, .int .i64 2] 50)
  replace HBA := Lib.hid (below_to HBA.out hbx)
  replace HOT := Lib.hid ((HOT.out.same (.below (Nat.le_refl _) hbx)).up hbx.size)
  replace HD := Lib.hid ((HD.out.same (.below (Nat.le_refl _) hbx)).up hbx.size)
  have X5 := Lib.hid hnx
  clear hbx hnx
  generalize World.alloc u15 (.cells #[.int .i64 0, .int .i64 2] 50) = u16 at *
  generalize u15.heap.size = b5 at *
  have hbx := box_below u16 (.cells #[.slice (some ⟨b5, 0, none⟩) 1 1] 33)
  have hnx := heap_alloc_new u16 (.cells #[.slice (some ⟨b5, 0, none⟩) 1 1] 33)
  replace HBA := Lib.hid (below_to HBA.out hbx)
  replace HOT := Lib.hid ((HOT.out.same (.below (Nat.le_refl _) hbx)).up hbx.size)
  replace HD := Lib.hid ((HD.out.same (.below (Nat.le_refl _) hbx)).up hbx.size)
  replace X5 := Lib.hid ((hbx.block _ (lt_of_block X5.out)).trans X5.out)
  have X8 := Lib.hid hnx
  clear hbx hnx
  generalize World.alloc u16 (.cells #[.slice (some ⟨b5, 0, none⟩) 1 1] 33) = u17 at *
  rw [h8] at X8
  clear h8
  have hli := Life_ok u17.heap.size _ (.slice none 0 0) stillL [] 0 5 u17 room_still ⟨Nat.le_refl _, rgs1 X5.out, runs0 _ _⟩ (by decide) (by decide) (by rw [ok_still.1]; simp)
  rw [life_still.1, life_still.2.1] at hli
  refine (hli).mono ?_
  rintro e u18 ⟨rfl, hb⟩
  replace HBA := Lib.hid (below_to HBA.out hb)
  replace HOT := Lib.hid ((HOT.out.same (.below (Nat.le_refl _) hb)).up hb.size)
  replace HD := Lib.hid ((HD.out.same (.below (Nat.le_refl _) hb)).up hb.size)
  replace X5 := Lib.hid ((hb.block _ (lt_of_block X5.out)).trans X5.out)
  replace X8 := Lib.hid ((hb.block _ (lt_of_block X8.out)).trans X8.out)
  clear hb
  clear hli
  go_wp2_with fail
  have hbx := box_below u18 (.cells #[.int .i64 3, .int .i64 (-1)] 50)
  have hnx := heap_alloc_new u18 (.cells #[.int .i64 3, .int .i64 (-1)] 50)
  replace HBA := Lib.hid (below_to HBA.out hbx)
  replace HOT := Lib.hid ((HOT.out.same (.below (Nat.le_refl _) hbx)).up hbx.size)
  replace HD := Lib.hid ((HD.out.same (.below (Nat.le_refl _) hbx)).up hbx.size)
  replace X5 := Lib.hid ((hbx.block _ (lt_of_block X5.out)).trans X5.out)
  replace X8 := Lib.hid ((hbx.block _ (lt_of_block X8.out)).trans X8.out)
  have X9 := Lib.hid hnx
  clear hbx hnx
  generalize World.alloc u18 (.cells #[.int .i64 3, .int .i64 (-1)] 50) = u19 at *
  generalize u18.heap.size = b9 at *
  refine (between_any 0 0 _).mono ?_
  rintro e u20 ⟨rfl, hb⟩
  replace HBA := Lib.hid (below_to HBA.out hb)
  replace HOT := Lib.hid ((HOT.out.same (.below (Nat.le_refl _) hb)).up hb.size)
  replace HD := Lib.hid ((HD.out.same (.below (Nat.le_refl _) hb)).up hb.size)
  replace X5 := Lib.hid ((hb.block _ (lt_of_block X5.out)).trans X5.out)
  replace X8 := Lib.hid ((hb.block _ (lt_of_block X8.out)).trans X8.out)
  replace X9 := Lib.hid ((hb.block _ (lt_of_block X9.out)).trans X9.out)
  clear hb
  go_wp2_with fail
  have hbx := box_below u20 (.cells #[.int .i64 0, .int .i64 0] 50)
  have hnx := heap_alloc_new u20 (.cells #[.int .i64 0, .int .i64 0] 50)
  replace HBA := Lib.hid (below_to HBA.out hbx)
  replace HOT := Lib.hid ((HOT.out.same (.below (Nat.le_refl _) hbx)).up hbx.size)
  replace HD := Lib.hid ((HD.out.same (.below (Nat.le_refl _) hbx)).up hbx.size)
  replace X5 := Lib.hid ((hbx.block _ (lt_of_block X5.out)).trans X5.out)
  replace X8 := Lib.hid ((hbx.block _ (lt_of_block X8.out)).trans X8.out)
  replace X9 := Lib.hid ((hbx.block _ (lt_of_block X9.out)).trans X9.out)
  have X7 := Lib.hid hnx
  clear hbx hnx
  generalize World.alloc u20 (.cells #[.int .i64 0, .int .i64 0] 50) = u21 at *
  generalize u20.heap.size = b7 at *
  have hli := Life_ok u21.heap.size _ (.slice none 0 0) zeroL [] 0 5 u21 room_zero ⟨Nat.le_refl _, rgs1 X7.out, runs0 _ _⟩ (by decide) (by decide) (by rw [ok_still.2]; simp)
  rw [life_still.2.2.2.2.1, life_still.2.2.2.2.2] at hli
  refine (hli).mono ?_
  rintro e u22 ⟨rfl, hb⟩
  replace HBA := Lib.hid (below_to HBA.out hb)
  replace HOT := Lib.hid ((HOT.out.same (.below (Nat.le_refl _) hb)).up hb.size)
  replace HD := Lib.hid ((HD.out.same (.below (Nat.le_refl _) hb)).up hb.size)
  replace X5 := Lib.hid ((hb.block _ (lt_of_block X5.out)).trans X5.out)
  replace X8 := Lib.hid ((hb.block _ (lt_of_block X8.out)).trans X8.out)
  replace X9 := Lib.hid ((hb.block _ (lt_of_block X9.out)).trans X9.out)
  replace X7 := Lib.hid ((hb.block _ (lt_of_block X7.out)).trans X7.out)
  clear hb
  clear hli
  have c0 := cell_of_row u22 (b5 + 1) 0 _ _ _ X8.out
  simp only [List.getElem?_toArray, List.getElem?_cons_zero, List.getElem?_cons_succ] at c0
  have lc := lt_of_block X8.out
  go_wp2_with fail
  clear c0 lc
  clear X7
  have hbx := box_below u22 (.cells #[.int .i64 (-1), .int .i64 (-1)] 50)
  have hnx := heap_alloc_new u22 (.cells #[.int .i64 (-1), .int .i64 (-1)] 50)
  replace HBA := Lib.hid (below_to HBA.out hbx)
  replace HOT := Lib.hid ((HOT.out.same (.below (Nat.le_refl _) hbx)).up hbx.size)
  replace HD := Lib.hid ((HD.out.same (.below (Nat.le_refl _) hbx)).up hbx.size)
  replace X5 := Lib.hid ((hbx.block _ (lt_of_block X5.out)).trans X5.out)
  replace X8 := Lib.hid ((hbx.block _ (lt_of_block X8.out)).trans X8.out)
  replace X9 := Lib.hid ((hbx.block _ (lt_of_block X9.out)).trans X9.out)
  have X11 := Lib.hid hnx
  clear hbx hnx
  generalize World.alloc u22 (.cells #[.int .i64 (-1), .int .i64 (-1)] 50) = u23 at *
  generalize u22.heap.size = b11 at *
  have hli := Life_ok u23.heap.size _ (.slice none 0 0) stillL [] 0 0 u23 room_still ⟨Nat.le_refl _, rgs1 X5.out, runs0 _ _⟩ (by decide) (by decide) (by rw [ok_still.1]; simp)
  rw [life_still.2.2.1, life_still.2.2.2.1] at hli
  refine (hli).mono ?_
  rintro e u24 ⟨rfl, hb⟩
  replace HBA := Lib.hid (below_to HBA.out hb)
  replace HOT := Lib.hid ((HOT.out.same (.below (Nat.le_refl _) hb)).up hb.size)
  replace HD := Lib.hid ((HD.out.same (.below (Nat.le_refl _) hb)).up hb.size)
  replace X5 := Lib.hid ((hb.block _ (lt_of_block X5.out)).trans X5.out)
  replace X8 := Lib.hid ((hb.block _ (lt_of_block X8.out)).trans X8.out)
  replace X9 := Lib.hid ((hb.block _ (lt_of_block X9.out)).trans X9.out)
  replace X11 := Lib.hid ((hb.block _ (lt_of_block X11.out)).trans X11.out)
  clear hb
  clear hli
  go_wp2_with fail
  clear X5
  clear X8
  have h13 : (World.alloc u24 (.cells #[.int .i64 0, .int .i64 0] 50)).heap.size = u24.heap.size + 1 := by simp
  have hbx := box_below u24 (.cells #[.int .i64 0, .int .i64 0] 50)
  have hnx := heap_alloc_new u24 (.cells #[.int .i64 0, .int .i64 0] 50)
  replace HBA := Lib.hid (below_to HBA.out hbx)
  replace HOT := Lib.hid ((HOT.out.same (.below (Nat.le_refl _) hbx)).up hbx.size)
  replace HD := Lib.hid ((HD.out.same (.below (Nat.le_refl _) hbx)).up hbx.size)
  replace X9 := Lib.hid ((hbx.block _ (lt_of_block X9.out)).trans X9.out)
  replace X11 := Lib.hid ((hbx.block _ (lt_of_block X11.out)).trans X11.out)
  have X13 := Lib.hid hnx
  clear hbx hnx
  generalize World.alloc u24 (.cells #[.int .i64 0, .int .i64 0] 50) = u25 at *
  generalize u24.heap.size = b13 at *
  have hbx := box_below u25 (.cells #[.int .i64 0] 3)
  have hnx := heap_alloc_new u25 (.cells #[.int .i64 0] 3)
  replace HBA := Lib.hid (below_to HBA.out hbx)
  replace HOT := Lib.hid ((HOT.out.same (.below (Nat.le_refl _) hbx)).up hbx.size)
  replace HD := Lib.hid ((HD.out.same (.below (Nat.le_refl _) hbx)).up hbx.size)
  replace X9 := Lib.hid ((hbx.block _ (lt_of_block X9.out)).trans X9.out)
  replace X11 := Lib.hid ((hbx.block _ (lt_of_block X11.out)).trans X11.out)
  replace X13 := Lib.hid ((hbx.block _ (lt_of_block X13.out)).trans X13.out)
  have X87 := Lib.hid hnx
  clear hbx hnx
  generalize World.alloc u25 (.cells #[.int .i64 0] 3) = u26 at *
  rw [h13] at X87
  clear h13
  have hin := ints_same u26.heap.size _ _ [0] u26 (by decide) HD.out (ints1 X87.out) (Nat.le_refl _)
  refine (hin).mono ?_
  rintro e u27 ⟨rfl, hb⟩
  replace HBA := Lib.hid (below_to HBA.out hb)
  replace HOT := Lib.hid ((HOT.out.same (.below (Nat.le_refl _) hb)).up hb.size)
  replace HD := Lib.hid ((HD.out.same (.below (Nat.le_refl _) hb)).up hb.size)
  replace X9 := Lib.hid ((hb.block _ (lt_of_block X9.out)).trans X9.out)
  replace X11 := Lib.hid ((hb.block _ (lt_of_block X11.out)).trans X11.out)
  replace X13 := Lib.hid ((hb.block _ (lt_of_block X13.out)).trans X13.out)
  replace X87 := Lib.hid ((hb.block _ (lt_of_block X87.out)).trans X87.out)
  clear hb
  clear hin
  clear X87
  clear HD
  have p0 := cell_of_row u27 b9 0 _ _ _ X9.out
  have p1 := cell_of_row u27 b9 1 _ _ _ X9.out
  simp only [List.getElem?_toArray, List.getElem?_cons_zero, List.getElem?_cons_succ] at p0 p1
  have lp := lt_of_block X9.out
  have q0 := cell_of_row u27 b11 0 _ _ _ X11.out
  have q1 := cell_of_row u27 b11 1 _ _ _ X11.out
  simp only [List.getElem?_toArray, List.getElem?_cons_zero, List.getElem?_cons_succ] at q0 q1
  have lq := lt_of_block X11.out
  have r0 := cell_of_row u27 b13 0 _ _ _ X13.out
  have r1 := cell_of_row u27 b13 1 _ _ _ X13.out
  simp only [List.getElem?_toArray, List.getElem?_cons_zero, List.getElem?_cons_succ] at r0 r1
  have lr := lt_of_block X13.out
  have n1 := fun w => neqr50 3 (-1) w
  have n2 := fun w => neqr50 (-1) (-1) w
  have n3 := fun w => neqr50 0 0 w
  go_wp2_with fail
  clear p0 p1 lp q0 q1 lq r0 r1 lr n1 n2 n3
  clear X9
  clear X11
  clear X13
  refine (hot_any _).mono ?_
  rintro e u28 ⟨⟨m11, rfl, hm11⟩, hb⟩
  replace HBA := Lib.hid (below_to HBA.out hb)
  replace HOT := Lib.hid ((HOT.out.same (.below (Nat.le_refl _) hb)).up hb.size)
  clear hb
  have Hm11 := Lib.hid hm11
  clear hm11
  go_wp2_with fail
  have hra := Rates_fail u28.heap.size _ _ hotL otherL u28 room_other ⟨Nat.le_refl _, Hm11.out, HOT.out⟩ ok_other
  refine (hra).mono ?_
  rintro e u29 ⟨rfl, hb⟩
  replace HBA := Lib.hid (below_to HBA.out hb)
  replace HOT := Lib.hid ((HOT.out.same (.below (Nat.le_refl _) hb)).up hb.size)
  replace Hm11 := Lib.hid ((Hm11.out.same (.below (Nat.le_refl _) hb)).up hb.size)
  clear hb
  clear hra
  clear Hm11
  go_wp2_with fail
  refine (hot_any _).mono ?_
  rintro e u30 ⟨⟨m12, rfl, hm12⟩, hb⟩
  replace HBA := Lib.hid (below_to HBA.out hb)
  replace HOT := Lib.hid ((HOT.out.same (.below (Nat.le_refl _) hb)).up hb.size)
  clear hb
  have Hm12 := Lib.hid hm12
  clear hm12
  go_wp2_with fail
  refine (made_any _).mono ?_
  rintro e u31 ⟨⟨r12, rfl, hr12⟩, hb⟩
  replace HBA := Lib.hid (below_to HBA.out hb)
  replace HOT := Lib.hid ((HOT.out.same (.below (Nat.le_refl _) hb)).up hb.size)
  replace Hm12 := Lib.hid ((Hm12.out.same (.below (Nat.le_refl _) hb)).up hb.size)
  clear hb
  have Hr12 := Lib.hid hr12
  clear hr12
  go_wp2_with fail
  have hbx := box_below u31 (.cells #[.int .i64 3, .int .i64 2] 3)
  have hnx := heap_alloc_new u31 (.cells #[.int .i64 3, .int .i64 2] 3)
  replace HBA := Lib.hid (below_to HBA.out hbx)
  replace HOT := Lib.hid ((HOT.out.same (.below (Nat.le_refl _) hbx)).up hbx.size)
  replace Hm12 := Lib.hid ((Hm12.out.same (.below (Nat.le_refl _) hbx)).up hbx.size)
  replace Hr12 := Lib.hid ((Hr12.out.same (.below (Nat.le_refl _) hbx)).up hbx.size)
  have X12 := Lib.hid hnx
  clear hbx hnx
  generalize World.alloc u31 (.cells #[.int .i64 3, .int .i64 2] 3) = u32 at *
  generalize u31.heap.size = b12 at *
  have hal := Allows_err u32.heap.size _ _ _ hotL madeL [3, 2] u32 held_made (by decide) ⟨Nat.le_refl _, Hm12.out, Hr12.out⟩ (ints2 X12.out) (by rw [errs_made.1]; decide)
  rw [errs_made.1] at hal
  refine (hal).mono ?_
  rintro e u33 ⟨rfl, hb⟩
  replace HBA := Lib.hid (below_to HBA.out hb)
  replace HOT := Lib.hid ((HOT.out.same (.below (Nat.le_refl _) hb)).up hb.size)
  replace Hm12 := Lib.hid ((Hm12.out.same (.below (Nat.le_refl _) hb)).up hb.size)
  replace Hr12 := Lib.hid ((Hr12.out.same (.below (Nat.le_refl _) hb)).up hb.size)
  replace X12 := Lib.hid ((hb.block _ (lt_of_block X12.out)).trans X12.out)
  clear hb
  clear hal
  clear Hm12
  clear Hr12
  clear X12
  go_wp2_with fail
  refine wp_region_noPanic ?_
  refine wp_region_acts (fun w' => Below u33.heap.size u33 w') (fun _ _ h hb => grow_to h hb) (below_drawn _) (by kernel_rfl) (fun _ _ _ _ _ h => h)
    [.float 2, .call 0, .call 1, .join, .call 3, .take 4, .take 5, .take 6] [7] (by kernel_rfl) ?_
  refine GWalk.floats (.cells #[.int .i64 0, .int .i64 0, .int .i64 0, .int .i64 0, .int .i64 0, .int .i64 0, .int .i64 0, .int .i64 0, .int .i64 0, .int .i64 0, .int .i64 0, .int .i64 0, .int .i64 0, .int .i64 0, .int .i64 0, .int .i64 0, .int .i64 0, .int .i64 0, .int .i64 0, .int .i64 0, .int .i64 0, .int .i64 0, .int .i64 0, .int .i64 0, .int .i64 0, .int .i64 0, .int .i64 0] 76) (fun b => .slice (some ⟨b, 0, none⟩) 9 9) rfl rfl rfl (fun w1 => ?_) ?_
  · kernel_rfl
  simp only [List.nil_append, List.cons_append]
  refine GWalk.calls rfl rfl ?_; apply Exists.intro; apply Exists.intro; refine ⟨fun w' hS => ?_, fun u34 hb hS hO => ?_⟩; (clear hS; go_simp; exact ⟨rfl, rfl⟩)
  replace HBA := Lib.hid (below_to HBA.out hS)
  replace HOT := Lib.hid ((HOT.out.same (.below (Nat.le_refl _) hS)).up hS.size)
  have hca := hot_any u34
  refine (hca).mono ?_
  rintro e u35 ⟨⟨m13, rfl, hm13⟩, hbb⟩
  refine ⟨_, rfl, hbb, grow_to hS hbb, ?_⟩
  simp only [List.getElem_toArray, List.getElem_cons_succ, List.getElem_cons_zero, Act.put, List.setIfInBounds_toArray, List.set_cons_zero, List.set_cons_succ]
  replace HBA := Lib.hid (below_to HBA.out hbb)
  replace HOT := Lib.hid ((HOT.out.same (.below (Nat.le_refl _) hbb)).up hbb.size)
  clear hca hb hbb hS hO
  have Hm13 := Lib.hid hm13
  clear hm13
  refine GWalk.calls rfl rfl ?_; apply Exists.intro; apply Exists.intro; refine ⟨fun w' hS => ?_, fun u36 hb hS hO => ?_⟩; (clear hS; go_simp; exact ⟨rfl, rfl⟩)
  replace HBA := Lib.hid (below_to HBA.out hb)
  replace HOT := Lib.hid ((HOT.out.same (.below (Nat.le_refl _) hb)).up hb.size)
  replace Hm13 := Lib.hid ((Hm13.out.same (.below (Nat.le_refl _) hb)).up hb.size)
  have hca := made_any u36
  refine (hca).mono ?_
  rintro e u37 ⟨⟨r13, rfl, hr13⟩, hbb⟩
  refine ⟨_, rfl, hbb, grow_to hS hbb, ?_⟩
  simp only [List.getElem_toArray, List.getElem_cons_succ, List.getElem_cons_zero, Act.put, List.setIfInBounds_toArray, List.set_cons_zero, List.set_cons_succ]
  replace HBA := Lib.hid (below_to HBA.out hbb)
  replace HOT := Lib.hid ((HOT.out.same (.below (Nat.le_refl _) hbb)).up hbb.size)
  replace Hm13 := Lib.hid ((Hm13.out.same (.below (Nat.le_refl _) hbb)).up hbb.size)
  clear hca hb hbb hS hO
  have Hr13 := Lib.hid hr13
  clear hr13
  refine GWalk.joins fun u38 b13s hb hb91 hb92 hb93 hb94 => ?_
  simp only [List.getElem_toArray, List.getElem_cons_succ, List.getElem_cons_zero, Act.put, List.setIfInBounds_toArray, List.set_cons_zero, List.set_cons_succ]
  replace HBA := Lib.hid (below_to HBA.out hb)
  replace HOT := Lib.hid ((HOT.out.same (.below (Nat.le_refl _) hb)).up hb.size)
  replace Hm13 := Lib.hid ((Hm13.out.same (.below (Nat.le_refl _) hb)).up hb.size)
  replace Hr13 := Lib.hid ((Hr13.out.same (.below (Nat.le_refl _) hb)).up hb.size)
  have X13s := Lib.hid hb94
  clear hb hb91 hb92 hb93 hb94
  refine GWalk.calls rfl rfl ?_; apply Exists.intro; apply Exists.intro; refine ⟨fun w' hS => ?_, fun u39 hb hS hO => ?_⟩; (clear hS; go_simp; exact ⟨rfl, rfl⟩)
  replace HBA := Lib.hid (below_to HBA.out hb)
  replace HOT := Lib.hid ((HOT.out.same (.below (Nat.le_refl _) hb)).up hb.size)
  replace Hm13 := Lib.hid ((Hm13.out.same (.below (Nat.le_refl _) hb)).up hb.size)
  replace Hr13 := Lib.hid ((Hr13.out.same (.below (Nat.le_refl _) hb)).up hb.size)
  replace X13s := Lib.hid ((hb.block _ (lt_of_block X13s.out)).trans X13s.out)
  have hca := Stretch_err u39.heap.size _ _ (.slice (some ⟨b13s, 0, none⟩) 9 9) hotL madeL nineL u39 held_made (by decide) ⟨Nat.le_refl _, Hm13.out, Hr13.out⟩ (nine_segs X13s.out) (by rw [errs_made.2.1]; decide)
  rw [errs_made.2.1] at hca
  refine (hca).mono ?_
  rintro e u40 ⟨rfl, hbb⟩
  refine ⟨_, rfl, hbb, grow_to hS hbb, ?_⟩
  simp only [List.getElem_toArray, List.getElem_cons_succ, List.getElem_cons_zero, Act.put, List.setIfInBounds_toArray, List.set_cons_zero, List.set_cons_succ]
  replace HBA := Lib.hid (below_to HBA.out hbb)
  replace HOT := Lib.hid ((HOT.out.same (.below (Nat.le_refl _) hbb)).up hbb.size)
  replace Hm13 := Lib.hid ((Hm13.out.same (.below (Nat.le_refl _) hbb)).up hbb.size)
  replace Hr13 := Lib.hid ((Hr13.out.same (.below (Nat.le_refl _) hbb)).up hbb.size)
  replace X13s := Lib.hid ((hbb.block _ (lt_of_block X13s.out)).trans X13s.out)
  clear hca hb hbb hS hO
  iterate 3
    (refine GWalk.takes rfl rfl ?_; apply Exists.intro; refine ⟨fun w' hS => ?_, ?_⟩; (clear hS; go_simp; with_reducible rfl); simp only [List.getElem_toArray, List.getElem_cons_succ, List.getElem_cons_zero, Act.put, List.setIfInBounds_toArray, List.set_cons_zero, List.set_cons_succ])
  refine GWalk.fin fun u41 hb hS => ?_
  replace HBA := Lib.hid (below_to HBA.out hb)
  replace HOT := Lib.hid ((HOT.out.same (.below (Nat.le_refl _) hb)).up hb.size)
  replace Hm13 := Lib.hid ((Hm13.out.same (.below (Nat.le_refl _) hb)).up hb.size)
  replace Hr13 := Lib.hid ((Hr13.out.same (.below (Nat.le_refl _) hb)).up hb.size)
  replace X13s := Lib.hid ((hb.block _ (lt_of_block X13s.out)).trans X13s.out)
  refine Tail.value rfl rfl (by go_simp; with_reducible rfl) ?_
  simp only [List.getElem_toArray, List.getElem_cons_succ, List.getElem_cons_zero, Act.put, List.setIfInBounds_toArray, List.set_cons_zero, List.set_cons_succ]
  refine Tail.done (NoPanic.normal ?_)
  clear hb hS
  clear Hm13
  clear Hr13
  clear X13s
  go_wp2_with fail
  refine (hot_any _).mono ?_
  rintro e u42 ⟨⟨m14, rfl, hm14⟩, hb⟩
  replace HBA := Lib.hid (below_to HBA.out hb)
  replace HOT := Lib.hid ((HOT.out.same (.below (Nat.le_refl _) hb)).up hb.size)
  clear hb
  have Hm14 := Lib.hid hm14
  clear hm14
  go_wp2_with fail
  refine (made_any _).mono ?_
  rintro e u43 ⟨⟨r14, rfl, hr14⟩, hb⟩
  replace HBA := Lib.hid (below_to HBA.out hb)
  replace HOT := Lib.hid ((HOT.out.same (.below (Nat.le_refl _) hb)).up hb.size)
  replace Hm14 := Lib.hid ((Hm14.out.same (.below (Nat.le_refl _) hb)).up hb.size)
  clear hb
  have Hr14 := Lib.hid hr14
  clear hr14
  go_wp2_with fail
  have hli := Life_err u43.heap.size _ _ hotL madeL 2 5 u43 held_made ⟨Nat.le_refl _, Hm14.out, Hr14.out⟩ (by rw [errs_made.2.2.1]; decide)
  rw [errs_made.2.2.1] at hli
  refine (hli).mono ?_
  rintro e u44 ⟨rfl, hb⟩
  replace HBA := Lib.hid (below_to HBA.out hb)
  replace HOT := Lib.hid ((HOT.out.same (.below (Nat.le_refl _) hb)).up hb.size)
  replace Hm14 := Lib.hid ((Hm14.out.same (.below (Nat.le_refl _) hb)).up hb.size)
  replace Hr14 := Lib.hid ((Hr14.out.same (.below (Nat.le_refl _) hb)).up hb.size)
  clear hb
  clear hli
  clear Hm14
  clear Hr14
  go_wp2_with fail
  refine (hot_any _).mono ?_
  rintro e u45 ⟨⟨m14, rfl, hm14⟩, hb⟩
  replace HBA := Lib.hid (below_to HBA.out hb)
  replace HOT := Lib.hid ((HOT.out.same (.below (Nat.le_refl _) hb)).up hb.size)
  clear hb
  have Hm14 := Lib.hid hm14
  clear hm14
  go_wp2_with fail
  refine (made_any _).mono ?_
  rintro e u46 ⟨⟨r14, rfl, hr14⟩, hb⟩
  replace HBA := Lib.hid (below_to HBA.out hb)
  replace HOT := Lib.hid ((HOT.out.same (.below (Nat.le_refl _) hb)).up hb.size)
  replace Hm14 := Lib.hid ((Hm14.out.same (.below (Nat.le_refl _) hb)).up hb.size)
  clear hb
  have Hr14 := Lib.hid hr14
  clear hr14
  go_wp2_with fail
  have hli := Life_err u46.heap.size _ _ hotL madeL 1 (-1) u46 held_made ⟨Nat.le_refl _, Hm14.out, Hr14.out⟩ (by rw [errs_made.2.2.2]; decide)
  rw [errs_made.2.2.2] at hli
  refine (hli).mono ?_
  rintro e u47 ⟨rfl, hb⟩
  replace HBA := Lib.hid (below_to HBA.out hb)
  replace HOT := Lib.hid ((HOT.out.same (.below (Nat.le_refl _) hb)).up hb.size)
  replace Hm14 := Lib.hid ((Hm14.out.same (.below (Nat.le_refl _) hb)).up hb.size)
  replace Hr14 := Lib.hid ((Hr14.out.same (.below (Nat.le_refl _) hb)).up hb.size)
  clear hb
  clear hli
  clear Hm14
  clear Hr14
  go_wp2_with fail
  refine wp_region_noPanic ?_
  refine wp_region_acts (fun w' => Below u47.heap.size u47 w') (fun _ _ h hb => grow_to h hb) (below_drawn _) (by kernel_rfl) (fun _ _ _ _ _ h => h)
    [.float 1, .call 0, .join, .call 2, .take 3, .take 4, .take 5] [6] (by kernel_rfl) ?_
  refine GWalk.floats (.cells #[.slice none 0 0, .int .i64 0, .int .i64 0, .slice none 0 0, .int .i64 0, .int .i64 0, .slice none 0 0, .int .i64 0, .int .i64 0, .slice none 0 0, .int .i64 0, .int .i64 0, .slice none 0 0, .int .i64 0, .int .i64 0, .slice none 0 0, .int .i64 0, .int .i64 0, .slice none 0 0, .int .i64 0, .int .i64 0] 78) (fun b => .slice (some ⟨b, 0, none⟩) 7 7) rfl rfl rfl (fun w1 => ?_) ?_
  · kernel_rfl
  simp only [List.nil_append, List.cons_append]
  refine GWalk.calls rfl rfl ?_; apply Exists.intro; apply Exists.intro; refine ⟨fun w' hS => ?_, fun u48 hb hS hO => ?_⟩; (clear hS; go_simp; exact ⟨rfl, rfl⟩)
  replace HBA := Lib.hid (below_to HBA.out hS)
  replace HOT := Lib.hid ((HOT.out.same (.below (Nat.le_refl _) hS)).up hS.size)
  have hca := hot_any u48
  refine (hca).mono ?_
  rintro e u49 ⟨⟨m16, rfl, hm16⟩, hbb⟩
  refine ⟨_, rfl, hbb, grow_to hS hbb, ?_⟩
  simp only [List.getElem_toArray, List.getElem_cons_succ, List.getElem_cons_zero, Act.put, List.setIfInBounds_toArray, List.set_cons_zero, List.set_cons_succ]
  replace HBA := Lib.hid (below_to HBA.out hbb)
  replace HOT := Lib.hid ((HOT.out.same (.below (Nat.le_refl _) hbb)).up hbb.size)
  clear hca hb hbb hS hO
  have Hm16 := Lib.hid hm16
  clear hm16
  refine GWalk.joins fun u50 b16s hb hb91 hb92 hb93 hb94 => ?_
  simp only [List.getElem_toArray, List.getElem_cons_succ, List.getElem_cons_zero, Act.put, List.setIfInBounds_toArray, List.set_cons_zero, List.set_cons_succ]
  replace HBA := Lib.hid (below_to HBA.out hb)
  replace HOT := Lib.hid ((HOT.out.same (.below (Nat.le_refl _) hb)).up hb.size)
  replace Hm16 := Lib.hid ((Hm16.out.same (.below (Nat.le_refl _) hb)).up hb.size)
  have X16s := Lib.hid hb94
  clear hb hb91 hb92 hb93 hb94
  refine GWalk.calls rfl rfl ?_; apply Exists.intro; apply Exists.intro; refine ⟨fun w' hS => ?_, fun u51 hb hS hO => ?_⟩; (clear hS; go_simp; exact ⟨rfl, rfl⟩)
  replace HBA := Lib.hid (below_to HBA.out hb)
  replace HOT := Lib.hid ((HOT.out.same (.below (Nat.le_refl _) hb)).up hb.size)
  replace Hm16 := Lib.hid ((Hm16.out.same (.below (Nat.le_refl _) hb)).up hb.size)
  replace X16s := Lib.hid ((hb.block _ (lt_of_block X16s.out)).trans X16s.out)
  have hca := Doubtful_err u51.heap.size _ (.slice (some ⟨b16s, 0, none⟩) 7 7) hotL sevenL u51 held_seven ⟨Nat.le_refl _, Hm16.out, seven_runs X16s.out⟩ (by rw [errs_other.2.2.1]; decide)
  rw [errs_other.2.2.1] at hca
  refine (hca).mono ?_
  rintro e u52 ⟨rfl, hbb⟩
  refine ⟨_, rfl, hbb, grow_to hS hbb, ?_⟩
  simp only [List.getElem_toArray, List.getElem_cons_succ, List.getElem_cons_zero, Act.put, List.setIfInBounds_toArray, List.set_cons_zero, List.set_cons_succ]
  replace HBA := Lib.hid (below_to HBA.out hbb)
  replace HOT := Lib.hid ((HOT.out.same (.below (Nat.le_refl _) hbb)).up hbb.size)
  replace Hm16 := Lib.hid ((Hm16.out.same (.below (Nat.le_refl _) hbb)).up hbb.size)
  replace X16s := Lib.hid ((hbb.block _ (lt_of_block X16s.out)).trans X16s.out)
  clear hca hb hbb hS hO
  iterate 3
    (refine GWalk.takes rfl rfl ?_; apply Exists.intro; refine ⟨fun w' hS => ?_, ?_⟩; (clear hS; go_simp; with_reducible rfl); simp only [List.getElem_toArray, List.getElem_cons_succ, List.getElem_cons_zero, Act.put, List.setIfInBounds_toArray, List.set_cons_zero, List.set_cons_succ])
  refine GWalk.fin fun u53 hb hS => ?_
  replace HBA := Lib.hid (below_to HBA.out hb)
  replace HOT := Lib.hid ((HOT.out.same (.below (Nat.le_refl _) hb)).up hb.size)
  replace Hm16 := Lib.hid ((Hm16.out.same (.below (Nat.le_refl _) hb)).up hb.size)
  replace X16s := Lib.hid ((hb.block _ (lt_of_block X16s.out)).trans X16s.out)
  refine Tail.value rfl rfl (by go_simp; with_reducible rfl) ?_
  simp only [List.getElem_toArray, List.getElem_cons_succ, List.getElem_cons_zero, Act.put, List.setIfInBounds_toArray, List.set_cons_zero, List.set_cons_succ]
  refine Tail.done (NoPanic.normal ?_)
  clear hb hS
  clear Hm16
  clear X16s
  go_wp2_with fail
  have HOL := Lib.hid HOT.out
  clear HOT
  have hwv := HBA.out.size
  refine (made_own _).mono ?_
  rintro e u54 ⟨⟨g3, g6, g8, rfl, -, hg3, hmd⟩, hb⟩
  have HOM := Lib.hid (HOL.out.same (.below (Nat.le_refl _) hb))
  have hvu := hb.size
  have hgw := Nat.le_trans hwv hg3
  replace HBA := Lib.hid (below_to HBA.out hb)
  have HMD := Lib.hid hmd
  clear HOL hb hmd hwv
  have k8 := cell_of_row u54 g8 0 _ _ _ HMD.out.2.2
  have k3 := cell_of_row u54 g3 3 _ _ _ HMD.out.1
  have fr := frozen_of_row u54 g3 3 _ _ HMD.out.1
  simp only [List.getElem?_toArray, List.getElem?_cons_zero, List.getElem?_cons_succ] at k8 k3
  have l8 := lt_of_block HMD.out.2.2
  have l3 := lt_of_block HMD.out.1
  have HG3 := Lib.hid hg3
  have HVU := Lib.hid hvu
  have HGW := Lib.hid hgw
  clear hg3 hvu hgw
  go_wp2_with fail
  clear k8 k3 fr l8 l3
  have HOD := Lib.hid (odd_runs HMD.out)
  have HOT := Lib.hid ((HOM.out.same (w' := u54.setCell ⟨g3, 3, none⟩ (.int .i64 2)) (fun k hk => heap_setCell_other u54 ⟨g3, 3, none⟩ k (.int .i64 2) (by have := HG3.out; show k ≠ g3; omega))).up (show _ ≤ (u54.setCell ⟨g3, 3, none⟩ (.int .i64 2)).heap.size by have := HVU.out; simpa using this))
  replace HBA := Lib.hid (HBA.out.setCell (p := ⟨g3, 3, none⟩) HGW.out (.int .i64 2))
  clear HOM HMD HG3 HVU HGW
  generalize World.setCell u54 _ _ = u55 at *
  refine (hot_any _).mono ?_
  rintro e u56 ⟨⟨m19, rfl, hm19⟩, hb⟩
  replace HBA := Lib.hid (below_to HBA.out hb)
  replace HOT := Lib.hid ((HOT.out.same (.below (Nat.le_refl _) hb)).up hb.size)
  replace HOD := Lib.hid ((HOD.out.same (.below (Nat.le_refl _) hb)).up hb.size)
  clear hb
  have Hm19 := Lib.hid hm19
  clear hm19
  go_wp2_with fail
  have hdo := Doubtful_err u56.heap.size _ _ hotL oddL u56 held_odd ⟨Nat.le_refl _, Hm19.out, HOD.out⟩ (by rw [errs_other.2.2.2]; decide)
  rw [errs_other.2.2.2] at hdo
  refine (hdo).mono ?_
  rintro e u57 ⟨rfl, hb⟩
  replace HBA := Lib.hid (below_to HBA.out hb)
  replace HOT := Lib.hid ((HOT.out.same (.below (Nat.le_refl _) hb)).up hb.size)
  replace HOD := Lib.hid ((HOD.out.same (.below (Nat.le_refl _) hb)).up hb.size)
  replace Hm19 := Lib.hid ((Hm19.out.same (.below (Nat.le_refl _) hb)).up hb.size)
  clear hb
  clear hdo
  clear Hm19
  clear HOD
  go_wp2_with fail
  refine wp_region_noPanic ?_
  refine wp_region_acts (fun w' => Below u57.heap.size u57 w') (fun _ _ h hb => grow_to h hb) (below_drawn _) (by kernel_rfl) (fun _ _ _ _ _ h => h)
    [.float 2, .take 1, .call 0, .join, .call 3, .take 4, .take 5, .take 6] [7, 8] (by kernel_rfl) ?_
  refine GWalk.floats (.cells #[.int .i64 0, .int .i64 0, .int .i64 0, .int .i64 0, .int .i64 0, .int .i64 0, .int .i64 0, .int .i64 0, .int .i64 0, .int .i64 0, .int .i64 0, .int .i64 0, .int .i64 0, .int .i64 0, .int .i64 0, .int .i64 0, .int .i64 0, .int .i64 0, .int .i64 0, .int .i64 0, .int .i64 0, .int .i64 0, .int .i64 0, .int .i64 0, .int .i64 0, .int .i64 0, .int .i64 0] 76) (fun b => .slice (some ⟨b, 0, none⟩) 9 9) rfl rfl rfl (fun w1 => ?_) ?_
  · kernel_rfl
  simp only [List.nil_append, List.cons_append]
  iterate 1
    (refine GWalk.takes rfl rfl ?_; apply Exists.intro; refine ⟨fun w' hS => ?_, ?_⟩; (clear hS; go_simp; with_reducible rfl); simp only [List.getElem_toArray, List.getElem_cons_succ, List.getElem_cons_zero, Act.put, List.setIfInBounds_toArray, List.set_cons_zero, List.set_cons_succ])
  refine GWalk.calls rfl rfl ?_; apply Exists.intro; apply Exists.intro; refine ⟨fun w' hS => ?_, fun u58 hb hS hO => ?_⟩; (clear hS; go_simp; exact ⟨rfl, rfl⟩)
  replace HBA := Lib.hid (below_to HBA.out hS)
  replace HOT := Lib.hid ((HOT.out.same (.below (Nat.le_refl _) hS)).up hS.size)
  have hca := hot_any u58
  refine (hca).mono ?_
  rintro e u59 ⟨⟨m20, rfl, hm20⟩, hbb⟩
  refine ⟨_, rfl, hbb, grow_to hS hbb, ?_⟩
  simp only [List.getElem_toArray, List.getElem_cons_succ, List.getElem_cons_zero, Act.put, List.setIfInBounds_toArray, List.set_cons_zero, List.set_cons_succ]
  replace HBA := Lib.hid (below_to HBA.out hbb)
  replace HOT := Lib.hid ((HOT.out.same (.below (Nat.le_refl _) hbb)).up hbb.size)
  clear hca hb hbb hS hO
  have Hm20 := Lib.hid hm20
  clear hm20
  refine GWalk.joins fun u60 b20s hb hb91 hb92 hb93 hb94 => ?_
  simp only [List.getElem_toArray, List.getElem_cons_succ, List.getElem_cons_zero, Act.put, List.setIfInBounds_toArray, List.set_cons_zero, List.set_cons_succ]
  replace HBA := Lib.hid (below_to HBA.out hb)
  replace HOT := Lib.hid ((HOT.out.same (.below (Nat.le_refl _) hb)).up hb.size)
  replace Hm20 := Lib.hid ((Hm20.out.same (.below (Nat.le_refl _) hb)).up hb.size)
  have X20s := Lib.hid hb94
  clear hb hb91 hb92 hb93 hb94
  refine GWalk.calls rfl rfl ?_; apply Exists.intro; apply Exists.intro; refine ⟨fun w' hS => ?_, fun u61 hb hS hO => ?_⟩; (clear hS; go_simp; exact ⟨rfl, rfl⟩)
  replace HBA := Lib.hid (below_to HBA.out hb)
  replace HOT := Lib.hid ((HOT.out.same (.below (Nat.le_refl _) hb)).up hb.size)
  replace Hm20 := Lib.hid ((Hm20.out.same (.below (Nat.le_refl _) hb)).up hb.size)
  replace X20s := Lib.hid ((hb.block _ (lt_of_block X20s.out)).trans X20s.out)
  have hca := Shows_err u61.heap.size true _ _ (.slice (some ⟨b20s, 0, none⟩) 9 9) hotL otherL nineL u61 held_other (by decide) ⟨Nat.le_refl _, Hm20.out, HOT.out⟩ (nine_segs X20s.out) (by rw [errs_other.2.1]; decide)
  rw [errs_other.2.1] at hca
  refine (hca).mono ?_
  rintro e u62 ⟨rfl, hbb⟩
  refine ⟨_, rfl, hbb, grow_to hS hbb, ?_⟩
  simp only [List.getElem_toArray, List.getElem_cons_succ, List.getElem_cons_zero, Act.put, List.setIfInBounds_toArray, List.set_cons_zero, List.set_cons_succ]
  replace HBA := Lib.hid (below_to HBA.out hbb)
  replace HOT := Lib.hid ((HOT.out.same (.below (Nat.le_refl _) hbb)).up hbb.size)
  replace Hm20 := Lib.hid ((Hm20.out.same (.below (Nat.le_refl _) hbb)).up hbb.size)
  replace X20s := Lib.hid ((hbb.block _ (lt_of_block X20s.out)).trans X20s.out)
  clear hca hb hbb hS hO
  iterate 3
    (refine GWalk.takes rfl rfl ?_; apply Exists.intro; refine ⟨fun w' hS => ?_, ?_⟩; (clear hS; go_simp; with_reducible rfl); simp only [List.getElem_toArray, List.getElem_cons_succ, List.getElem_cons_zero, Act.put, List.setIfInBounds_toArray, List.set_cons_zero, List.set_cons_succ])
  refine GWalk.fin fun u63 hb hS => ?_
  replace HBA := Lib.hid (below_to HBA.out hb)
  replace HOT := Lib.hid ((HOT.out.same (.below (Nat.le_refl _) hb)).up hb.size)
  replace Hm20 := Lib.hid ((Hm20.out.same (.below (Nat.le_refl _) hb)).up hb.size)
  replace X20s := Lib.hid ((hb.block _ (lt_of_block X20s.out)).trans X20s.out)
  refine Tail.value rfl rfl (by go_simp; with_reducible rfl) ?_
  simp only [List.getElem_toArray, List.getElem_cons_succ, List.getElem_cons_zero, Act.put, List.setIfInBounds_toArray, List.set_cons_zero, List.set_cons_succ]
  refine Tail.value rfl rfl (by go_simp; with_reducible rfl) ?_
  simp only [List.getElem_toArray, List.getElem_cons_succ, List.getElem_cons_zero, Act.put, List.setIfInBounds_toArray, List.set_cons_zero, List.set_cons_succ]
  refine Tail.done (NoPanic.normal ?_)
  clear hb hS
  clear Hm20
  clear X20s
  clear HOT
  go_wp2_with fail
  have hcm := CheckMaterial_any u63.heap.size (.slice none 0 0) [] u63 (by decide) (rgs0 _ _) (Nat.le_refl _)
  rw [errs_mat.1] at hcm
  refine (hcm).mono ?_
  rintro e u64 ⟨rfl, hb⟩
  replace HBA := Lib.hid (below_to HBA.out hb)
  clear hb
  clear hcm
  go_wp2_with fail
  refine (between_any 0 21 _).mono ?_
  rintro e u65 ⟨rfl, hb⟩
  replace HBA := Lib.hid (below_to HBA.out hb)
  clear hb
  go_wp2_with fail
  have hbx := box_below u65 (.cells #[.int .i64 0, .int .i64 21] 50)
  have hnx := heap_alloc_new u65 (.cells #[.int .i64 0, .int .i64 21] 50)
  replace HBA := Lib.hid (below_to HBA.out hbx)
  have X21 := Lib.hid hnx
  clear hbx hnx
  generalize World.alloc u65 (.cells #[.int .i64 0, .int .i64 21] 50) = u66 at *
  generalize u65.heap.size = b21 at *
  have hcm := CheckMaterial_any u66.heap.size (.slice (some ⟨b21, 0, none⟩) 1 1) [⟨0, 21⟩] u66 (by decide) (rgs1 X21.out) (Nat.le_refl _)
  rw [errs_mat.2.1] at hcm
  refine (hcm).mono ?_
  rintro e u67 ⟨rfl, hb⟩
  replace HBA := Lib.hid (below_to HBA.out hb)
  replace X21 := Lib.hid ((hb.block _ (lt_of_block X21.out)).trans X21.out)
  clear hb
  clear hcm
  go_wp2_with fail
  clear X21
  refine (between_any 5 9 _).mono ?_
  rintro e u68 ⟨rfl, hb⟩
  replace HBA := Lib.hid (below_to HBA.out hb)
  clear hb
  go_wp2_with fail
  refine (between_any 1 4 _).mono ?_
  rintro e u69 ⟨rfl, hb⟩
  replace HBA := Lib.hid (below_to HBA.out hb)
  clear hb
  go_wp2_with fail
  have hbx := box_below u69 (.cells #[.int .i64 5, .int .i64 9, .int .i64 1, .int .i64 4] 50)
  have hnx := heap_alloc_new u69 (.cells #[.int .i64 5, .int .i64 9, .int .i64 1, .int .i64 4] 50)
  replace HBA := Lib.hid (below_to HBA.out hbx)
  have X22 := Lib.hid hnx
  clear hbx hnx
  generalize World.alloc u69 (.cells #[.int .i64 5, .int .i64 9, .int .i64 1, .int .i64 4] 50) = u70 at *
  generalize u69.heap.size = b22 at *
  have hcm := CheckMaterial_any u70.heap.size (.slice (some ⟨b22, 0, none⟩) 2 2) [⟨5, 9⟩, ⟨1, 4⟩] u70 (by decide) (rgs2 X22.out) (Nat.le_refl _)
  rw [errs_mat.2.2] at hcm
  refine (hcm).mono ?_
  rintro e u71 ⟨rfl, hb⟩
  replace HBA := Lib.hid (below_to HBA.out hb)
  replace X22 := Lib.hid ((hb.block _ (lt_of_block X22.out)).trans X22.out)
  clear hb
  clear hcm
  go_wp2_with fail
  clear X22
  refine (awake_any _).mono ?_
  rintro e w9 ⟨rfl, hb⟩
  have HBF := Lib.hid (below_to HBA.out hb)
  clear hb
  go_wp2
  go_ret
  exact ⟨rfl, HBF.out⟩
end Go.Proofs.Ytfijaafkagcmmaa
namespace Go.Proofs.Ytfijaafkagcmmaa
open Go.ChangeShapes Go.WideShapes Go.ChangeAt Go.RowKit Go.Deep

theorem knob_own : ownKnob Try.prog.godebug = none := by kernel_rfl
set_option maxRecDepth 100000 in
theorem names_lifted (os : Os) (started : os.Started) (H : Type) (enc : TypeId × Value → H) :
    ReturnsInHanded {} Try.checked os 8 .any (Rows.creepNamesSpec.pre6 enc Try.prog Try.f8 Rows.creepNamesRow.domain false) (Rows.creepNamesSpec.post enc Try.prog Try.f8 false true false false) := by
  refine returnsInHanded_of_change (C := Try.checked) knob_own started (by kernel_rfl) Try.func8
    (ChangeSpec.witness6 (enc := enc) (C := Try.checked) false ⟨#[], #[], []⟩ 8 (by kernel_rfl) (by kernel_rfl) (by kernel_rfl) (by kernel_rfl)) ?_
  intro W base args ds gs before hval0 hW _ _
  have hW' := hW
  obtain ⟨p, q, hA0, hV, rfl, hfz, hnd⟩ := hW
  have hA : DataW.TrodAll enc Try.prog W 0 (fun _ => true) true Try.f8.params.toList args.toList ds p := hA0
  rw [Try.params8] at hA
  obtain ⟨hargs, rfl, rfl⟩ := trodAll_nil hA
  obtain ⟨args⟩ := args
  simp only at hargs
  subst hargs
  obtain ⟨rfl, rfl⟩ := trodVars_none hV
  clear hA0 hval0
  refine (names_walk W).mono fun e W' ⟨he, hb⟩ => ?_
  subst he
  have e1 : Rows.creepNamesSpec.fn H ([] ++ []) = { results := [.lit (.bool true)], args := [] } := rfl
  refine ⟨_, rfl, _, _, _, [], [], [], hW', ?_, ?_, ?_, hb.frame _, fun h => by cases h⟩
  · rw [e1]
    exact trodAll_mk1 (shut_bool Try.underlying4 true)
  · rw [e1]
    exact trodAll_mk0
  · rfl

theorem names_holds : Rows.CreepNamesSaid :=
  OpenClaim.holds_of_wide 8 Try.f8 rfl rfl rfl rfl rfl rfl rfl ⟨rfl, rfl, rfl, rfl, rfl⟩ rfl rfl rfl rfl rfl (by kernel_rfl) Try.func8 (by kernel_rfl)
    (of_decide_eq_true (by kernel_rfl)) (by unfold Func.isWrapper; rw [if_neg (of_decide_eq_false (by kernel_rfl))]; exact ⟨rfl, rfl⟩)
    (fun os started H enc _ => names_lifted os started H enc)
#print axioms names_holds
end Go.Proofs.Ytfijaafkagcmmaa
