/- Rates by words: contracts. Condition: a valid material. Rates of a material by words: contract. Condition: a valid material. Runs that are made with rates, by words: contract. Condition: a valid material with valid runs. -/
import Derived.Test.YtfijaafkagcmmaaN3
import Derived.StillTailTactics
namespace Go.Proofs.Ytfijaafkagcmmaa
open Go.RowKit Go.Shelf
attribute [local irreducible] arrV wpQuiet

/-- Words, in blocks below n. -/
def WordsV (n : Nat) (w : World) (v : Value) : Prop := ∃ (aw : Option Addr) (m capw : Nat) (wd : Nat → Int), v = .slice aw m capw ∧ m ≤ maxLen ∧ ∀ j, j < m → ∃ bw ow, aw = some ⟨bw, ow, none⟩ ∧ bw < n ∧ w.cell? ⟨bw, ow + j, none⟩ = some (.int .u16 (wd j)) ∧ 0 ≤ wd j ∧ wd j < 65536
theorem WordsV.same {n : Nat} {w w' : World} {v : Value} (h : WordsV n w v) (hs : Same n w w') : WordsV n w' v := by
  obtain ⟨aw, m, capw, wd, rfl, hm, hc⟩ := h
  refine ⟨aw, m, capw, wd, rfl, hm, fun j hj => ?_⟩
  obtain ⟨bw, ow, rfl, h1, h2, h3⟩ := hc j hj
  exact ⟨bw, ow, rfl, h1, hs.cell h1 h2, h3⟩

set_option maxRecDepth 100000 in
set_option maxHeartbeats 1000000 in
theorem word_any (n : Nat) (v : Value) (A : Nat) (w : World) (hA : A ≤ 1000) (hV : WordsV n w v) (hn : n ≤ w.heap.size) :
    Calls Try.prog 49 #[v, .int .i64 A] w fun e w' => (∃ x : Int, e = .returned (.int .i64 x) ∧ 0 ≤ x ∧ x ≤ 65535) ∧ Below w.heap.size w w' := by
  obtain ⟨aw, m, capw, wd, rfl, hm, hc⟩ := hV
  unfold maxLen at hm
  by_cases h0 : m = 0
  · subst h0
    clear hc
    go_enter Try.func49, Try.ntmps49
    go_wp2
    go_ret
    exact ⟨⟨0, rfl, by decide, by decide⟩, Below.refl _ _⟩
  · obtain ⟨bw, ow, rfl, h1, h2, h3, h4⟩ := hc (A % m) (Nat.mod_lt _ (by omega))
    have hlt : A % m < m := Nat.mod_lt _ (by omega)
    have e1 : ((A : Int)).tmod (m : Int) = ((A % m : Nat) : Int) := rfl
    have e2 : (A : Int) % (m : Int) = ((A % m : Nat) : Int) := by simp
    have h0i : ((m : Int) == 0) = false := by rw [beq_eq_false_iff_ne]; omega
    have h0n : (m : Int) ≠ 0 := by omega
    have hl2 : bw < w.heap.size := by omega
    have hwx : IntKind.i64.wrap (wd (A % m)) = wd (A % m) := IntWalk.i64_in _ (by omega)
    have hpos : Hid (0 ≤ wd (A % m) ∧ wd (A % m) ≤ 65535) := Lib.hid ⟨h3, by omega⟩
    have hltI : ((A % m : Nat) : Int) < m := by omega
    generalize hq : A % m = q at *
    have hwq : IntKind.i64.wrap (q : Int) = q := IntWalk.i64_in _ (by omega)
    clear hc hm h3 h4 hq
    generalize wd q = x at *
    go_enter Try.func49, Try.ntmps49
    go_wp2
    go_ret
    exact ⟨⟨x, rfl, hpos.out.1, hpos.out.2⟩, Below.refl _ _⟩
end Go.Proofs.Ytfijaafkagcmmaa
namespace Go.Proofs.Ytfijaafkagcmmaa
open Go.RowKit Go.Shelf
attribute [local irreducible] arrV wpQuiet

def mxL (ms : List Rg) : Nat → Int
  | 0 => (rg ms 0).lo
  | k + 1 => max (mxL ms k) (rg ms (k + 1)).lo
theorem mxL_lo (ms : List Rg) : ∀ k, (rg ms k).lo ≤ mxL ms k
  | 0 => Int.le_refl _
  | k + 1 => Int.le_max_right _ _
theorem mxL_up (ms : List Rg) (k : Nat) : mxL ms k ≤ mxL ms (k + 1) := Int.le_max_left _ _
theorem mxL_hi {ms : List Rg} (hm : MatOk ms) : ∀ k, k < ms.length → mxL ms k ≤ (rg ms k).hi := by
  obtain ⟨x, hx⟩ := List.exists_mem_of_ne_nil _ hm.some
  have hrt := (mem_listsL ms 0 x).1 hx
  have hh := hrt.has
  have hl := len_of hx
  have key : ∀ k, k < ms.length → mxL ms k ≤ ld x k := fun k => by
    induction k with
    | zero =>
      intro hk
      have := hh 0 hk
      simp only [hasB, Bool.and_eq_true, decide_eq_true_eq] at this
      exact this.1
    | succ k ih =>
      intro hk
      have h1 := ih (by omega)
      have h2 := hrt.rise k (by rw [hl]; omega)
      have h3 := hh (k + 1) hk
      simp only [hasB, Bool.and_eq_true, decide_eq_true_eq] at h3
      have h2' : ld x k ≤ ld x (k + 1) := h2
      show max (mxL ms k) (rg ms (k + 1)).lo ≤ ld x (k + 1)
      omega
  intro k hk
  have h1 := key k hk
  have h2 := hh k hk
  simp only [hasB, Bool.and_eq_true, decide_eq_true_eq] at h2
  omega
theorem rg_bounds {ms : List Rg} (hm : RgsOk ms) {k : Nat} (hk : k < ms.length) : 0 ≤ (rg ms k).lo ∧ (rg ms k).lo ≤ (rg ms k).hi ∧ (rg ms k).hi ≤ 1000 := by
  have h := hm.rg _ (List.getElem_mem hk)
  have e : rg ms k = ms[k] := by simp [rg, hk]
  rw [e]
  exact ⟨h.1, h.2.1, h.2.2.1⟩

/-- Rates that are being made: in block g. -/
structure Mk (ms : List Rg) (g : Nat) (b : Int) (f : Nat → Int) (w : World) : Prop where
  row : ∃ cur, w.heap[g]? = some (.cells cur 3 (0, 0)) ∧ ∀ j, j < ms.length → cur[j]? = some (.int .i64 (f j))
  lo : ∀ j, j < ms.length → mxL ms j ≤ f j ∧ f j ≤ 1000
  hi : ∀ j : Nat, j < ms.length → b < j → f j ≤ (rg ms j).hi
  up : ∀ j : Nat, j + 1 < ms.length → b < j → f j ≤ f (j + 1)
theorem Mk.cell {ms : List Rg} {g : Nat} {b : Int} {f : Nat → Int} {w : World} (h : Mk ms g b f w) {j : Nat} (hj : j < ms.length) : w.cell? ⟨g, j, none⟩ = some (.int .i64 (f j)) := by
  obtain ⟨cur, h1, h2⟩ := h.row
  rw [cell_of_row w g j _ _ _ h1]
  exact h2 j hj
theorem Mk.frozen {ms : List Rg} {g : Nat} {b : Int} {f : Nat → Int} {w : World} (h : Mk ms g b f w) (j : Nat) : w.frozen? ⟨g, j, none⟩ = false := by
  obtain ⟨cur, h1, h2⟩ := h.row
  exact frozen_of_row w g j _ _ h1
theorem Mk.lt {ms : List Rg} {g : Nat} {b : Int} {f : Nat → Int} {w : World} (h : Mk ms g b f w) : g < w.heap.size := by
  obtain ⟨cur, h1, h2⟩ := h.row
  exact lt_of_block h1
theorem Mk.same {ms : List Rg} {g : Nat} {b : Int} {f : Nat → Int} {w w' : World} (h : Mk ms g b f w) (hs : w'.heap[g]? = w.heap[g]?) : Mk ms g b f w' := by
  obtain ⟨cur, h1, h2⟩ := h.row
  exact ⟨⟨cur, hs.trans h1, h2⟩, h.lo, h.hi, h.up⟩
theorem put_row {n g q : Nat} {f : Nat → Int} {w : World} {cur : Array Value} (h1 : w.heap[g]? = some (.cells cur 3 (0, 0))) (h2 : ∀ j, j < n → cur[j]? = some (.int .i64 (f j))) (hq : q < n) (y : Int) :
    ∃ cur', (w.setCell ⟨g, q, none⟩ (.int .i64 y)).heap[g]? = some (.cells cur' 3 (0, 0)) ∧ ∀ j, j < n → cur'[j]? = some (.int .i64 (if j = q then y else f j)) := by
  refine ⟨_, heap_setCell_same w g q cur 3 (.int .i64 y) h1, fun j hj => ?_⟩
  have hs : q < cur.size := (Array.getElem?_eq_some_iff.1 (h2 q hq)).1
  rw [Array.getElem?_setIfInBounds]
  by_cases e : j = q
  · subst e
    rw [if_pos rfl, if_pos hs, if_pos rfl]
  · rw [if_neg (Ne.symm e), if_neg e]
    exact h2 j hj
/-- The cell at b is cut to its range, then to the next one. -/
theorem Mk.first {ms : List Rg} {g q : Nat} {f : Nat → Int} {w : World} (h : Mk ms g q f w) (hm : MatOk ms) (hq : q < ms.length) :
    (∃ cur, (w.setCell ⟨g, q, none⟩ (.int .i64 (min (f q) (rg ms q).hi))).heap[g]? = some (.cells cur 3 (0, 0)) ∧ ∀ j, j < ms.length → cur[j]? = some (.int .i64 (if j = q then min (f q) (rg ms q).hi else f j))) ∧ mxL ms q ≤ min (f q) (rg ms q).hi ∧ min (f q) (rg ms q).hi ≤ 1000 := by
  obtain ⟨cur, h1, h2⟩ := h.row
  have h3 := (h.lo q hq)
  have h4 := mxL_hi hm q hq
  exact ⟨put_row h1 h2 hq _, by omega, by omega⟩
theorem Mk.end1 {ms : List Rg} {g q : Nat} {f : Nat → Int} {w w' : World} {y : Int} (h : Mk ms g q f w) (hq : q + 1 = ms.length) (hy : mxL ms q ≤ y ∧ y ≤ 1000 ∧ y ≤ (rg ms q).hi) {cur : Array Value} (h1 : w'.heap[g]? = some (.cells cur 3 (0, 0))) (h2 : ∀ j, j < ms.length → cur[j]? = some (.int .i64 (if j = q then y else f j))) :
    Mk ms g ((q : Int) - 1) (fun j => if j = q then y else f j) w' := by
  refine ⟨⟨cur, h1, h2⟩, fun j hj => ?_, fun j hj hb => ?_, fun j hj hb => ?_⟩
  · by_cases e : j = q
    · simp only [e, if_true]; exact ⟨hy.1, hy.2.1⟩
    · simp only [e, if_false]; exact h.lo j hj
  · by_cases e : j = q
    · simp only [e, if_true]; exact hy.2.2
    · simp only [e, if_false]; exact h.hi j hj (by omega)
  · omega
theorem Mk.end2 {ms : List Rg} {g q : Nat} {f : Nat → Int} {w w' : World} {y : Int} (h : Mk ms g q f w) (hq : q + 1 < ms.length) (hy : mxL ms q ≤ y ∧ y ≤ 1000 ∧ y ≤ (rg ms q).hi ∧ y ≤ f (q + 1)) {cur : Array Value} (h1 : w'.heap[g]? = some (.cells cur 3 (0, 0))) (h2 : ∀ j, j < ms.length → cur[j]? = some (.int .i64 (if j = q then y else f j))) :
    Mk ms g ((q : Int) - 1) (fun j => if j = q then y else f j) w' := by
  refine ⟨⟨cur, h1, h2⟩, fun j hj => ?_, fun j hj hb => ?_, fun j hj hb => ?_⟩
  · by_cases e : j = q
    · simp only [e, if_true]; exact ⟨hy.1, hy.2.1⟩
    · simp only [e, if_false]; exact h.lo j hj
  · by_cases e : j = q
    · simp only [e, if_true]; exact hy.2.2.1
    · simp only [e, if_false]; exact h.hi j hj (by omega)
  · by_cases e : j = q
    · subst e
      simp only [if_true, show ¬ j + 1 = j by omega, if_false]; exact hy.2.2.2
    · simp only [e, show ¬ j + 1 = q by omega, if_false]; exact h.up j hj (by omega)
theorem Mk.done {ms : List Rg} {g cap : Nat} {f : Nat → Int} {w : World} (hm : MatOk ms) (h : Mk ms g (-1) f w) (hc : ms.length ≤ cap) : ∃ X, IntsV w.heap.size w (.slice (some ⟨g, 0, none⟩) ms.length cap) X ∧ X ∈ allL ms := by
  have hl : ((List.range ms.length).map f).length = ms.length := by simp
  have hg : ∀ j, j < ms.length → ld ((List.range ms.length).map f) j = f j := fun j hj => by simp [ld, hj]
  have hone := hm.one
  refine ⟨(List.range ms.length).map f, ⟨_, cap, by rw [hl], by rw [hl]; exact hc, fun _ => ⟨g, 0, rfl, h.lt, fun j hj => ?_⟩⟩, (mem_listsL ms 0 _).2 (isRt_of hl (fun j hj => ?_) (fun j hj => ?_) fun _ => ?_)⟩
  · rw [hl] at hj
    rw [Nat.zero_add, hg j hj]
    exact h.cell hj
  · rw [hg j hj]
    exact ⟨Int.le_trans (mxL_lo ms j) (h.lo j hj).1, h.hi j hj (by omega)⟩
  · rw [hl] at hj
    rw [hg j (by omega), hg (j + 1) hj]
    exact h.up j hj (by omega)
  · rw [hg 0 (by omega)]
    exact Int.le_trans (rg_bounds hm.toRgsOk (by omega)).1 (Int.le_trans (mxL_lo ms 0) (h.lo 0 (by omega)).1)

theorem Mk.start {ms : List Rg} {base : Nat} {v : Value} {x : List Int} {w : World} (h : w.ownsRow base 3 1 v ms.length (x.map (Value.int .i64))) (hl : x.length = ms.length) (h0 : 0 < ms.length) (hx : ∀ j, j < ms.length → mxL ms j ≤ ld x j ∧ ld x j ≤ 1000) :
    ∃ g cap, v = .slice (some ⟨g, 0, none⟩) ms.length cap ∧ base ≤ g ∧ ms.length ≤ cap ∧ Mk ms g ((ms.length : Int) - 1) (ld x) w := by
  rcases h.2 with ⟨_, hz⟩ | ⟨g, cap, cur, hv, hb, hg, hn, _, hs, ht⟩
  · omega
  · refine ⟨g, cap, hv, hb, hn, ⟨cur, hg, fun j hj => ?_⟩, hx, fun j hj hb => by omega, fun j hj hb => by omega⟩
    have h1 : (cur.toList.take (ms.length * 1))[j]? = (x.map (Value.int .i64))[j]? := by rw [ht]
    rw [List.getElem?_take_of_lt (by omega)] at h1
    rw [← Array.getElem?_toList, h1]
    have hj' : j < x.length := by omega
    simp [ld, hj']
theorem ld_app {x : List Int} {y : Int} {k : Nat} (hl : x.length = k) : (∀ j, j < k → ld (x ++ [y]) j = ld x j) ∧ ld (x ++ [y]) k = y := by
  subst hl
  refine ⟨fun j hj => ?_, ?_⟩
  · simp only [ld, List.getElem?_append_left hj]
  · simp [ld]

set_option maxRecDepth 100000 in
set_option maxHeartbeats 4000000 in
theorem Truly_any (n : Nat) (mv wv : Value) (ms : List Rg) (w : World) (hm : MatOk ms) (hV : RgsV n w mv ms) (hW : WordsV n w wv) (hn : n ≤ w.heap.size) :
    Calls Try.prog 47 #[.agg #[mv], wv] w fun e w' => (∃ v X, e = .returned v ∧ IntsV w'.heap.size w' v X ∧ X ∈ allL ms) ∧ Below w.heap.size w w' := by
  have hone := hm.one
  have hlen := hm.len
  have HMM := Lib.hid hm
  have HWD := Lib.hid fun A (hA : A ≤ 1000) w' (h : Below w.heap.size w w') => word_any n wv A w' hA (hW.same (.below hn h)) (Nat.le_trans hn h.size)
  obtain ⟨am, capm, rfl, hp⟩ := hV
  obtain ⟨aw, mw, capw, wd, rfl, -, -⟩ := hW
  have HP := Lib.hid hp
  have HX := Lib.hid (heap_alloc_new w (.cells #[.slice am ms.length capm] 24))
  have HB := Lib.hid (box_below w (.cells #[.slice am ms.length capm] 24))
  clear hp hm
  go_enter Try.func47, Try.ntmps47
  go_wp2
  generalize World.alloc w _ = W at *
  go_loopw [5, 6] (fun v i wr => ∃ k : Nat, k ≤ ms.length ∧ i = .int .i64 k ∧ Hid (∃ x : List Int, x.length = k ∧ wr.ownsRow (w.heap.size + 1) 3 1 v k (x.map (Value.int .i64)) ∧ ∀ j, j < k → mxL ms j ≤ ld x j ∧ ld x j ≤ 1000) ∧ Hid (wr.heap[w.heap.size]? = some (.cells #[.slice am ms.length capm] 24 (0, 0))) ∧ Hid (Below w.heap.size w wr)) (fun _ i _ => ms.length - (intOf i).toNat)
  case atStart => exact ⟨0, Nat.zero_le _, rfl, Lib.hid ⟨[], rfl, World.ownsRow_nil _ _ _ _, fun j hj => by omega⟩, HX, HB⟩
  case round =>
    clear HX HB
    obtain ⟨k, hk, rfl, HO, HX, HB⟩ := hrel
    have c0 := cell_of_row wr w.heap.size 0 _ _ _ HX.out
    simp only [List.getElem?_toArray, List.getElem?_cons_zero] at c0
    have l0 := lt_of_block HX.out
    by_cases hlt : k < ms.length
    · obtain ⟨b, off, rfl, hbn, hc⟩ := HP.out (by omega)
      have hltb : b < w.heap.size := by omega
      have p1 := (HB.out.cell (p := ⟨b, off + k * 2, none⟩) hltb).trans (hc k hlt).1
      have p2 := (HB.out.cell (p := ⟨b, off + k * 2 + 1, none⟩) hltb).trans (hc k hlt).2
      have lsb : b < wr.heap.size := by have := HB.out.size; omega
      have hkn : (k : Int) < ms.length := by omega
      have hwk : IntKind.i64.wrap ((k : Int) + 1) = (k : Int) + 1 := IntWalk.i64_in _ (by omega)
      have hbnd := rg_bounds HMM.out.toRgsOk hlt
      have HBND := Lib.hid hbnd
      have HMX : Hid (∀ y, (rg ms k).lo ≤ y → (∀ p, k = p + 1 → mxL ms p ≤ y) → mxL ms k ≤ y) := Lib.hid fun y h1 h2 => by
        cases k with
        | zero => exact h1
        | succ p =>
          have := h2 p rfl
          show max (mxL ms p) (rg ms (p + 1)).lo ≤ y
          omega
      generalize (rg ms k).lo = lo at *
      generalize (rg ms k).hi = hi at *
      have hw1 : IntKind.i64.wrap (hi - lo) = hi - lo := IntWalk.i64_in _ (by omega)
      have hw2 : IntKind.i64.wrap (hi - lo + 1) = hi - lo + 1 := IntWalk.i64_in _ (by omega)
      have hd0 : (hi - lo + 1 == 0) = false := by rw [beq_eq_false_iff_ne]; omega
      have hd1 : hi - lo + 1 ≠ 0 := by omega
      clear hc hbnd
      go_wp2_with fail
      have hnx := heap_alloc_new wr (.cells #[.int .i64 lo, .int .i64 hi] 60)
      have hbx := box_below wr (.cells #[.int .i64 lo, .int .i64 hi] 60)
      have hne6 : w.heap.size + 1 ≤ wr.heap.size := by omega
      obtain ⟨x, hxl, hown, hxs⟩ := HO.out
      have hown1 := hown.kept (w' := wr.alloc (.cells #[.int .i64 lo, .int .i64 hi] 60)) (row := none) ⟨rfl, rfl, rfl, hbx.size, fun j hj _ => hbx.block j hj⟩ (Classical.em _)
      have HX1 := Lib.hid ((hbx.block _ (lt_of_block HX.out)).trans HX.out)
      have HB1 := Lib.hid (below_to HB.out hbx)
      have HNX := Lib.hid hnx
      have HOW := Lib.hid hown1
      have HXS := Lib.hid hxs
      have HXL := Lib.hid hxl
      have hsz1 : w.heap.size + 1 ≤ (wr.alloc (.cells #[.int .i64 lo, .int .i64 hi] 60)).heap.size := by have := hbx.size; omega
      clear hown hown1 hnx hbx hxs HO HX HB c0 p1 p2 lsb l0
      generalize World.alloc wr _ = wa at *
      generalize wr.heap.size = bx at *
      have HC : Hid (∀ w', Below wa.heap.size wa w' → w'.cell? ⟨bx, 0, none⟩ = some (.int .i64 lo) ∧ w'.cell? ⟨bx, 1, none⟩ = some (.int .i64 hi)) := Lib.hid fun w' h => by
        have z := (h.block _ (lt_of_block HNX.out)).trans HNX.out
        exact ⟨cell_of_row w' bx 0 _ _ _ z, cell_of_row w' bx 1 _ _ _ z⟩
      refine wp_region_noPanic ?_
      refine wp_region_chain (fun w1 => Below wa.heap.size wa w1) (fun w1 w2 h hb => h.trans (hb.mono h.size)) (below_drawn _) (by kernel_rfl) (fun _ _ _ _ _ h => h)
        [(false, 0), (false, 1), (false, 2), (false, 3), (false, 5), (false, 6), (false, 7), (false, 8), (false, 9), (false, 10), (true, 4), (false, 11), (false, 12)] [13] (by kernel_rfl) ?_
      iterate 10
        (refine Walk.takes rfl rfl ?_; apply Exists.intro; refine ⟨fun w1 hS => ?_, ?_⟩; (obtain ⟨d0, d1⟩ := HC.out w1 hS; clear hS; go_simp; with_reducible rfl); simp only [List.getElem_toArray, List.getElem_cons_succ, List.getElem_cons_zero, Act.put, List.setIfInBounds_toArray, List.set_cons_zero, List.set_cons_succ])
      refine Walk.calls rfl rfl ?_; apply Exists.intro; apply Exists.intro; refine ⟨fun w2 hS => ?_, fun p1 hp1 => ?_⟩; (clear hS; go_simp; exact ⟨rfl, rfl⟩)
      have hq1 := grow_to (below_drawn wa) hp1
      refine (HWD.out k (by omega) p1 (below_to HB1.out hq1)).mono ?_
      rintro e p2 ⟨⟨y, rfl, hy0, hy1⟩, hb2⟩
      refine ⟨_, rfl, hb2, ?_⟩
      simp only [List.getElem_toArray, List.getElem_cons_succ, List.getElem_cons_zero, Act.put, List.setIfInBounds_toArray, List.set_cons_zero, List.set_cons_succ]
      obtain ⟨r, hr⟩ : ∃ r, y.tmod (hi - lo + 1) = r := ⟨_, rfl⟩
      have hrm : y % (hi - lo + 1) = r := by rw [← hr, Int.tmod_eq_emod_of_nonneg hy0]
      have hr0 : 0 ≤ r := by rw [← hrm]; exact Int.emod_nonneg _ hd1
      have hr1 : r ≤ hi - lo := by
        have := Int.emod_lt_of_pos y (show 0 < hi - lo + 1 by have := HBND.out; omega)
        omega
      have hwr : IntKind.i64.wrap (lo + r) = lo + r := IntWalk.i64_in _ (by have := HBND.out; omega)
      have hwr2 : IntKind.i64.wrap r = r := IntWalk.i64_in _ (by have := HBND.out; omega)
      have HR : Hid (lo ≤ lo + r ∧ lo + r ≤ 1000) := Lib.hid (by have := HBND.out; omega)
      clear hr0 hr1 hy1
      iterate 2
        (refine Walk.takes rfl rfl ?_; apply Exists.intro; refine ⟨fun w1 hS => ?_, ?_⟩; (clear hS; go_simp; with_reducible rfl); simp only [List.getElem_toArray, List.getElem_cons_succ, List.getElem_cons_zero, Act.put, List.setIfInBounds_toArray, List.set_cons_zero, List.set_cons_succ])
      refine Walk.fin fun p9 hb9 hS9 => ?_
      refine Tail.value rfl rfl (by go_simp; with_reducible rfl) (Tail.done (NoPanic.normal ?_))
      simp only [List.getElem_toArray, List.getElem_cons_succ, List.getElem_cons_zero, Act.put, List.setIfInBounds_toArray, List.set_cons_zero, List.set_cons_succ]
      have hown9 := HOW.out.kept (w' := p9) (row := none) ⟨hS9.os, hS9.tape, hS9.output, hS9.size, fun j hj _ => hS9.block j hj⟩ (Classical.em _)
      have HO9 := Lib.hid hown9
      have HX9 := Lib.hid ((hS9.block _ (lt_of_block HX1.out)).trans HX1.out)
      have HB9 := Lib.hid (below_to HB1.out hS9)
      have hsz9 : w.heap.size + 1 ≤ p9.heap.size := Nat.le_trans hsz1 hS9.size
      clear hown9 hS9 hb9 hq1 hp1 hb2 HOW HX1 HB1 HNX HC hr hrm hy0 hwr hwr2 hw1 hw2 hd0 hd1
      generalize lo + r = nn at *
      by_cases hk0 : (0 : Int) < k
      · obtain ⟨p, hp⟩ : ∃ p, k = p + 1 := ⟨k - 1, by omega⟩
        obtain ⟨g, cap, rfl, hgb, hgl⟩ := HO9.out.form (by omega)
        have hpx : p < x.length := by rw [HXL.out]; omega
        have cp : p9.cell? ⟨g, p, none⟩ = some (.int .i64 (ld x p)) := by
          rw [HO9.out.cellAt p (by omega)]
          simp [ld, hpx]
        have hwk1 : IntKind.i64.wrap ((k : Int) - 1) = (p : Int) := by rw [IntWalk.i64_in _ (by omega)]; omega
        have hpk : (p : Int) < k := by omega
        have HPX := HXS.out p (by omega)
        have HKP := Lib.hid hp
        have HPX := Lib.hid HPX
        clear hp hpx
        go_wp2_with (first
          | (refine wpList_app el26 rfl (.tmp 44) (.tmp 46) rfl (w.heap.size + 1) _ _ _ #[.int .i64 (max nn (ld x p))] rfl (by intro u hu; simp at hu; subst hu; rfl) rfl rfl HO9.out (by omega) (by omega) ?_
             intro g1 c w' hown hgr _)
          | fail)
        go_roundw
        case rel =>
          have HY : mxL ms k ≤ (max nn (ld x p)) ∧ (max nn (ld x p)) ≤ 1000 := by
            have h1 := HR.out
            have h2 := HPX.out
            exact ⟨HMX.out _ (by omega) (fun p' h' => by have := HKP.out; obtain rfl : p' = p := by omega
                                                         omega), by omega⟩
          obtain ⟨la, lb⟩ := ld_app (x := x) (y := (max nn (ld x p))) HXL.out
          refine ⟨k + 1, hlt, by simp, Lib.hid ⟨x ++ [(max nn (ld x p))], by simp [HXL.out], ?_, fun j hj => ?_⟩, Lib.hid ((hgr.below.block _ (by omega)).trans HX9.out), Lib.hid (HB9.out.trans (hgr.below.mono (by omega)))⟩
          · rw [List.map_append]
            exact hown
          · by_cases e : j = k
            · subst e
              rw [lb]
              exact HY
            · rw [la j (by omega)]
              exact HXS.out j (by omega)
        case measure => simp [intOf]; omega
      · go_wp2_with (first
          | (refine wpList_app el26 rfl (.tmp 44) (.tmp 46) rfl (w.heap.size + 1) _ _ _ #[.int .i64 (nn)] rfl (by intro u hu; simp at hu; subst hu; rfl) rfl rfl HO9.out (by omega) (by omega) ?_
             intro g1 c w' hown hgr _)
          | fail)
        go_roundw
        case rel =>
          have HY : mxL ms k ≤ nn ∧ nn ≤ 1000 := ⟨HMX.out _ HR.out.1 (fun p h => absurd h (by omega)), HR.out.2⟩
          obtain ⟨la, lb⟩ := ld_app (x := x) (y := nn) HXL.out
          refine ⟨k + 1, hlt, by simp, Lib.hid ⟨x ++ [nn], by simp [HXL.out], ?_, fun j hj => ?_⟩, Lib.hid ((hgr.below.block _ (by omega)).trans HX9.out), Lib.hid (HB9.out.trans (hgr.below.mono (by omega)))⟩
          · rw [List.map_append]
            exact hown
          · by_cases e : j = k
            · subst e
              rw [lb]
              exact HY
            · rw [la j (by omega)]
              exact HXS.out j (by omega)
        case measure => simp [intOf]; omega
    · obtain rfl : k = ms.length := by omega
      obtain ⟨x, hxl, hown, hxs⟩ := HO.out
      obtain ⟨g, cap, rfl, hgb, hcap, hmk⟩ := Mk.start hown hxl (by omega) hxs
      have HM := Lib.hid hmk
      have hwl : IntKind.i64.wrap ((ms.length : Int) - 1) = (ms.length : Int) - 1 := IntWalk.i64_in _ (by omega)
      clear HO hown hmk hxs hlt hk
      go_wp2
      go_loopw [9] (fun i wr => ∃ b : Int, -1 ≤ b ∧ b < ms.length ∧ i = .int .i64 b ∧ Hid (∃ f, Mk ms g b f wr) ∧ Hid (wr.heap[w.heap.size]? = some (.cells #[.slice am ms.length capm] 24 (0, 0))) ∧ Hid (Below w.heap.size w wr)) (fun i _ => (intOf i + 1).toNat)
      case atStart => exact ⟨(ms.length : Int) - 1, by omega, by omega, rfl, Lib.hid ⟨_, HM.out⟩, HX, HB⟩
      case round =>
        clear HX HB HM
        obtain ⟨b, hb0, hb1, rfl, HF, HX, HB⟩ := hrel
        by_cases hb : 0 ≤ b
        · obtain ⟨q, rfl⟩ : ∃ q : Nat, b = q := ⟨b.toNat, by omega⟩
          obtain ⟨f, hmk⟩ := HF.out
          have HM := Lib.hid hmk
          have hq : q < ms.length := by omega
          obtain ⟨bm, offm, rfl, hbn, hc⟩ := HP.out (by omega)
          have hltb : bm < w.heap.size := by omega
          have pm := (HB.out.cell (p := ⟨bm, offm + q * 2 + 1, none⟩) hltb).trans (hc q hq).2
          have c0 := cell_of_row wr w.heap.size 0 _ _ _ HX.out
          simp only [List.getElem?_toArray, List.getElem?_cons_zero] at c0
          have l0 := lt_of_block HX.out
          have lg := hmk.lt
          have cq := hmk.cell hq
          have lsb : bm < wr.heap.size := by have := HB.out.size; omega
          have hwm : IntKind.i64.wrap ((q : Int) - 1) = (q : Int) - 1 := IntWalk.i64_in _ (by omega)
          have hwp : IntKind.i64.wrap ((q : Int) + 1) = (q : Int) + 1 := IntWalk.i64_in _ (by omega)
          clear hc HF hmk
          go_wp2_with fail
          go_still_tail 14, (by kernel_rfl)
          change wpList _ _ _ _ _ wr.drew
          have hbd := below_drawn wr
          have HM' := Lib.hid (HM.out.same (hbd.block _ HM.out.lt))
          have HX' := Lib.hid ((hbd.block _ (lt_of_block HX.out)).trans HX.out)
          have HB' := Lib.hid (below_to HB.out hbd)
          change Hid (Mk _ _ _ _ wr.drew) at HM'
          change Hid (wr.drew.heap[_]? = _) at HX'
          change Hid (Below _ _ wr.drew) at HB'
          clear hbd HM HX HB c0 l0 lg cq lsb pm
          generalize wr.drew = A1 at *
          have fr := HM'.out.frozen q
          have cq := HM'.out.cell hq
          have lg := HM'.out.lt
          have hZ := HM'.out.first HMM.out hq
          have HBa := Lib.hid (HB'.out.setCell (p := ⟨g, q, none⟩) (by show w.heap.size ≤ g; omega) (.int .i64 (min (f q) (rg ms q).hi)))
          have HXa := Lib.hid ((heap_setCell_other A1 ⟨g, q, none⟩ w.heap.size (.int .i64 (min (f q) (rg ms q).hi)) (by show w.heap.size ≠ g; omega)).trans HX'.out)
          have HZ := Lib.hid hZ
          clear hZ
          by_cases hq1 : (q : Int) + 1 < ms.length
          · have hkt : ((q : Int) + 1).toNat = q + 1 := by omega
            have hqp : (0 : Int) ≤ (q : Int) + 1 := by omega
            go_wp2
            obtain ⟨⟨cur, z1, z2⟩, z3, z4⟩ := HZ.out
            have cq2 := cell_of_row _ g q _ _ _ z1
            have cq3 := cell_of_row _ g (q + 1) _ _ _ z1
            rw [z2 q hq, if_pos rfl] at cq2
            rw [z2 (q + 1) (by omega), if_neg (by omega)] at cq3
            have HZ1 := Lib.hid z1
            have HZ2 := Lib.hid z2
            have HUP : Hid (mxL ms q ≤ f (q + 1)) := Lib.hid (Int.le_trans (mxL_up ms q) (HM'.out.lo (q + 1) (by omega)).1)
            have HZ3 := Lib.hid z3
            have HZ4 := Lib.hid z4
            have lg2 := lt_of_block z1
            clear z1 z2 z3 z4 HZ fr cq lg HX' HB'
            generalize World.setCell A1 _ _ = A2 at *
            have HY1 : Hid (min (f q) (rg ms q).hi ≤ (rg ms q).hi) := Lib.hid (by omega)
            generalize min (f q) (rg ms q).hi = y1 at *
            have HM2 : Hid (∃ cur, A2.heap[g]? = some (.cells cur 3 (0, 0)) ∧ ∀ j, j < ms.length → cur[j]? = some (.int .i64 (if j = q then y1 else f j))) := Lib.hid ⟨cur, HZ1.out, HZ2.out⟩
            clear HZ1 HZ2
            go_still_tail 13, (by kernel_rfl)
            change wpList _ _ _ _ _ A2.drew
            have hbd := below_drawn A2
            have HM3 : Hid (∃ cur, A2.drew.heap[g]? = some (.cells cur 3 (0, 0)) ∧ ∀ j, j < ms.length → cur[j]? = some (.int .i64 (if j = q then y1 else f j))) := Lib.hid (by
              obtain ⟨cur, z1, z2⟩ := HM2.out
              exact ⟨cur, (hbd.block _ (lt_of_block z1)).trans z1, z2⟩)
            have HXb := Lib.hid ((hbd.block _ (lt_of_block HXa.out)).trans HXa.out)
            have HBb := Lib.hid (below_to HBa.out hbd)
            change Hid (A2.drew.heap[_]? = _) at HXb
            change Hid (Below _ _ A2.drew) at HBb
            clear hbd HM2 HXa HBa cq2 cq3 lg2
            generalize A2.drew = A3 at *
            obtain ⟨cur3, z1, z2⟩ := HM3.out
            have fr := frozen_of_row A3 g q _ _ z1
            have cq2 := cell_of_row A3 g q _ _ _ z1
            rw [z2 q hq, if_pos rfl] at cq2
            have lg := lt_of_block z1
            have HP3 := Lib.hid (put_row z1 z2 hq (min y1 (f (q + 1))))
            have HBc := Lib.hid (HBb.out.setCell (p := ⟨g, q, none⟩) (by show w.heap.size ≤ g; omega) (.int .i64 (min y1 (f (q + 1)))))
            have HXc := Lib.hid ((heap_setCell_other A3 ⟨g, q, none⟩ w.heap.size (.int .i64 (min y1 (f (q + 1)))) (by show w.heap.size ≠ g; omega)).trans HXb.out)
            clear z1 z2 HM3 HXb HBb
            go_wp2
            obtain ⟨cur4, z1, z2⟩ := HP3.out
            go_roundw
            case rel =>
              refine ⟨(q : Int) - 1, by omega, by omega, by simp, Lib.hid ⟨_, HM'.out.end2 (y := min y1 (f (q + 1))) (by omega) ?_ z1 fun j hj => ?_⟩, HXc, HBc⟩
              · have h1 := HZ3.out
                have h2 := HZ4.out
                have h3 := HUP.out
                have h4 := HY1.out
                omega
              · rw [z2 j hj]
                by_cases e : j = q <;> simp [e]
            case measure => simp [intOf] <;> omega
          · go_wp2
            obtain ⟨⟨cur, z1, z2⟩, z3, z4⟩ := HZ.out
            go_roundw
            case rel => exact ⟨(q : Int) - 1, by omega, by omega, by simp, Lib.hid ⟨_, HM'.out.end1 (by omega) ⟨z3, z4, by omega⟩ z1 z2⟩, HXa, HBa⟩
            case measure => simp [intOf] <;> omega
        · obtain rfl : b = -1 := by omega
          obtain ⟨f, hmk⟩ := HF.out
          have HD := Lib.hid (hmk.done HMM.out hcap)
          go_wp2
          go_ret
          obtain ⟨X, h1, h2⟩ := HD.out
          exact ⟨⟨_, rfl, X, h1, h2⟩, HB.out⟩
end Go.Proofs.Ytfijaafkagcmmaa
namespace Go.Proofs.Ytfijaafkagcmmaa
open Go.RowKit Go.Shelf
attribute [local irreducible] arrV wpQuiet

theorem lo_take {ss : List Sg} {X : List Int} {k : Nat} (h : k < ss.length) : loS (ss.take (k + 1)) X = loS (ss.take k) X + rt X (sg ss k).b * (sg ss k).h.lo ∧ hiS (ss.take (k + 1)) X = hiS (ss.take k) X + rt X (sg ss k).b * (sg ss k).h.hi := by
  have e : sg ss k = ss[k] := by simp [sg, h]
  rw [e, List.take_add_one, List.getElem?_eq_getElem h]
  exact ⟨loS_snoc _ _ _, hiS_snoc _ _ _⟩
theorem prod_bd {x lo h hi : Int} (hx : 0 ≤ x ∧ x ≤ 1000) (h0 : 0 ≤ lo) (h1 : lo ≤ h) (h2 : h ≤ hi) (h3 : hi ≤ 1000000) : x * lo ≤ x * h ∧ x * h ≤ x * hi ∧ 0 ≤ x * h ∧ x * h ≤ 1000000000 := by
  refine ⟨Int.mul_le_mul_of_nonneg_left h1 hx.1, Int.mul_le_mul_of_nonneg_left h2 hx.1, Int.mul_nonneg hx.1 (by omega), ?_⟩
  have := Int.mul_le_mul hx.2 (Int.le_trans h2 h3) (by omega : (0 : Int) ≤ h) (by decide : (0 : Int) ≤ 1000)
  omega
def MadeOk (ms : List Rg) (X : List Int) (r : Rn) : Prop := RnOk ms.length r ∧ fitsB r X = true
theorem made_of {ms : List Rg} {X : List Int} {r : Rn} {S a b : Int} (hr : RnOk ms.length r) (h1 : loS r.ss X ≤ S ∧ S ≤ hiS r.ss X ∧ 0 ≤ S ∧ S ≤ 8000000000) (ha : 0 ≤ a ∧ a ≤ 8) (hb : 0 ≤ b ∧ b ≤ 8) : MadeOk ms X ⟨r.ss, ⟨max 0 (S - a), min 10000000000 (S + b)⟩⟩ := by
  refine ⟨⟨hr.toPlanOk, ?_, ?_, ?_⟩, ?_⟩
  · show 0 ≤ max 0 (S - a); omega
  · show max 0 (S - a) ≤ min 10000000000 (S + b); omega
  · show min 10000000000 (S + b) ≤ 10000000000; omega
  · show (decide (loS r.ss X ≤ min 10000000000 (S + b)) && decide (max 0 (S - a) ≤ hiS r.ss X)) = true
    rw [Bool.and_eq_true, decide_eq_true_eq, decide_eq_true_eq]
    omega
theorem putS (w : World) (b : Nat) (x y z y' z' : Value) (t : TypeId) (h : w.heap[b]? = some (.cells #[x, y, z] t (0, 0))) : ((w.setCell ⟨b, 1, none⟩ y').setCell ⟨b, 2, none⟩ z').heap[b]? = some (.cells #[x, y', z'] t (0, 0)) := by
  have h2 := heap_setCell_same w b 1 _ t y' h
  have h3 := heap_setCell_same _ b 2 _ t z' h2
  simpa using h3

set_option maxRecDepth 100000 in
set_option maxHeartbeats 4000000 in
theorem Made_any (n m : Nat) (rv xv wv : Value) (ms : List Rg) (rs : List Rn) (X : List Int) (w : World) (hK : RoomOk ms rs) (hx : X ∈ allL ms) (hR : RunsV n w rv rs) (hX : IntsV m w xv X) (hW : WordsV n w wv) (hn : n ≤ w.heap.size) (hm : m ≤ w.heap.size) :
    Calls Try.prog 48 #[rv, xv, wv] w fun e w' => (∃ v rs2, e = .returned v ∧ RunsV w'.heap.size w' v rs2 ∧ RoomOk ms rs2 ∧ allB rs2 X = true) ∧ Below w.heap.size w w' := by
  have hone := hK.mat.one
  have hlen := hK.mat.len
  have hrl := hK.len
  have HK := Lib.hid hK
  have hxl := len_of hx
  have HRT := Lib.hid fun j : Nat => (rates_of hx hK.mat.toRgsOk) j
  have HWD := Lib.hid fun A (hA : A ≤ 1000) w' (h : Below w.heap.size w w') => word_any n wv A w' hA (hW.same (.below hn h)) (Nat.le_trans hn h.size)
  obtain ⟨ra, rcap, rfl, hp⟩ := hR
  obtain ⟨xa, xcap, rfl, -, hxp⟩ := hX
  rw [hxl] at hxp ⊢
  clear hxl
  obtain ⟨aw, mw, capw, wd, rfl, -, -⟩ := hW
  have HP := Lib.hid hp
  have HXP := Lib.hid hxp
  clear hp hxp hK hx
  go_enter Try.func48, Try.ntmps48
  go_wp2
  go_loopw [7, 8] (fun v i wr => ∃ q : Nat, q ≤ rs.length ∧ i = .int .i64 q ∧ Hid (Below w.heap.size w wr) ∧ Hid (∃ rs2 xs, rs2.length = q ∧ (∀ r, r ∈ rs2 → MadeOk ms X r) ∧ RunX n wr rs2 xs ∧ wr.ownsRow w.heap.size 90 3 v q xs)) (fun _ i _ => rs.length - (intOf i).toNat)
  case atStart => exact ⟨0, Nat.zero_le _, rfl, Lib.hid (Below.refl _ _), Lib.hid ⟨[], [], rfl, fun r hr => by simp at hr, ⟨rfl, fun i hi => by simp at hi⟩, World.ownsRow_nil _ _ _ _⟩⟩
  case round =>
    obtain ⟨q, hq, rfl, HB, HO⟩ := hrel
    by_cases hlt : q < rs.length
    · obtain ⟨b2, off2, rfl, hbn2, hc2⟩ := HP.out (by omega)
      obtain ⟨sv, s1, -, -, s4⟩ := hc2 q hlt
      have hrok := HK.out.rn _ (rn_mem hlt)
      generalize rn rs q = R at *
      have s4' := s4
      obtain ⟨sa, scap, rfl, hsp⟩ := s4'
      have HSP := Lib.hid hsp
      have HS4 := Lib.hid s4
      have HROK := Lib.hid hrok
      have hsl := hrok.len
      have hltb2 : b2 < w.heap.size := by omega
      have u1 := (HB.out.cell (p := ⟨b2, off2 + q * 3, none⟩) hltb2).trans s1
      have lsb : b2 < wr.heap.size := by have := HB.out.size; omega
      have hqn : (q : Int) < rs.length := by omega
      have hwq : IntKind.i64.wrap ((q : Int) + 1) = (q : Int) + 1 := IntWalk.i64_in _ (by omega)
      generalize wr = wa at *
      clear s1 s4 hsp hc2 hrok
      go_wp2
      have HX0 := Lib.hid (heap_alloc_new wa (.cells #[.slice sa R.ss.length scap, .int .i64 0, .int .i64 0] 90))
      have HB0 := Lib.hid (box_below wa (.cells #[.slice sa R.ss.length scap, .int .i64 0, .int .i64 0] 90))
      have hw7 : IntKind.i64.wrap (7 * (q : Int)) = 7 * (q : Int) := IntWalk.i64_in _ (by omega)
      clear u1 lsb
      generalize World.alloc wa _ = W1 at *
      go_loopw [10, 11] (fun s i wi => ∃ (k : Nat) (S : Int), k ≤ R.ss.length ∧ i = .int .i64 k ∧ s = .int .i64 S ∧ Hid (loS (R.ss.take k) X ≤ S ∧ S ≤ hiS (R.ss.take k) X ∧ 0 ≤ S ∧ S ≤ k * 1000000000) ∧ Hid (wi.heap[wa.heap.size]? = some (.cells #[.slice sa R.ss.length scap, .int .i64 0, .int .i64 0] 90 (0, 0))) ∧ Hid (Below wa.heap.size wa wi)) (fun _ i _ => R.ss.length - (intOf i).toNat)
      case atStart => exact ⟨0, 0, Nat.zero_le _, rfl, rfl, Lib.hid ⟨Int.le_refl _, Int.le_refl _, by decide, by decide⟩, HX0, HB0⟩
      case round =>
        clear HX0 HB0
        obtain ⟨k, S, hk, rfl, rfl, HS, HX1, HB1⟩ := hrel
        have c0 := cell_of_row wr wa.heap.size 0 _ _ _ HX1.out
        simp only [List.getElem?_toArray, List.getElem?_cons_zero] at c0
        have l0 := lt_of_block HX1.out
        have HBW := Lib.hid (below_to HB.out HB1.out)
        by_cases hkl : k < R.ss.length
        · obtain ⟨b3, off3, rfl, hb3, hc3⟩ := HSP.out (by omega)
          have hsg := HROK.out.sg _ (sg_mem hkl)
          obtain ⟨HT1, HT2⟩ := lo_take (X := X) hkl
          have HT1 := Lib.hid HT1
          have HT2 := Lib.hid HT2
          obtain ⟨bb, hbb⟩ : ∃ bb : Nat, (sg R.ss k).b = (bb : Int) := ⟨(sg R.ss k).b.toNat, by have := hsg.b0; omega⟩
          have hbl : (bb : Int) < ms.length := by have := hsg.bn; omega
          obtain ⟨xb, xoff, rfl, hxbn, hxc⟩ := HXP.out (by omega)
          have hlt3 : b3 < w.heap.size := by omega
          have hltx : xb < w.heap.size := by omega
          obtain ⟨e0, e1, e2⟩ := hc3 k hkl
          have ex := hxc bb (by omega)
          rw [hbb] at e0
          have hxr := HRT.out bb
          change 0 ≤ ld X bb ∧ ld X bb ≤ 1000 at hxr
          have hrt : rt X (sg R.ss k).b = ld X bb := by rw [hbb]; rfl
          rw [hrt] at HT1 HT2
          have hs1 := hsg.lo
          have hs2 := hsg.le
          have hs3 := hsg.hi
          generalize (sg R.ss k).h.lo = lo at *
          generalize (sg R.ss k).h.hi = hi at *
          generalize ld X bb = xx at *
          have d1 := (HBW.out.cell (p := ⟨b3, off3 + k * 3 + 1, none⟩) hlt3).trans e1
          have d2 := (HBW.out.cell (p := ⟨b3, off3 + k * 3 + 2, none⟩) hlt3).trans e2
          have lsb : b3 < wr.heap.size := by have := HBW.out.size; omega
          have hkn : (k : Int) < R.ss.length := by omega
          have hwk : IntKind.i64.wrap ((k : Int) + 1) = (k : Int) + 1 := IntWalk.i64_in _ (by omega)
          obtain ⟨A, hA⟩ : ∃ A : Nat, (A : Int) = 7 * (q : Int) + k := ⟨7 * q + k, by omega⟩
          have hA1 : A ≤ 1000 := by omega
          have hwA : IntKind.i64.wrap (7 * (q : Int) + k) = (A : Int) := by rw [IntWalk.i64_in _ (by omega)]; exact hA.symm
          have hw1 : IntKind.i64.wrap (hi - lo) = hi - lo := IntWalk.i64_in _ (by omega)
          have hw2 : IntKind.i64.wrap (hi - lo + 1) = hi - lo + 1 := IntWalk.i64_in _ (by omega)
          have hd0 : (hi - lo + 1 == 0) = false := by rw [beq_eq_false_iff_ne]; omega
          have hd1 : hi - lo + 1 ≠ 0 := by omega
          have HBND := Lib.hid (And.intro hs1 (And.intro hs2 hs3))
          have HXR := Lib.hid hxr
          have HSG := Lib.hid hsg
          clear hs1 hs2 hs3 hxr hrt hc3 hxc hsg hA e1 e2
          go_wp2_with fail
          have hnx := heap_alloc_new wr (.cells #[.int .i64 lo, .int .i64 hi] 60)
          have hbx := box_below wr (.cells #[.int .i64 lo, .int .i64 hi] 60)
          have HX2 := Lib.hid ((hbx.block _ (lt_of_block HX1.out)).trans HX1.out)
          have HB2 := Lib.hid (below_to HB1.out hbx)
          have HBW2 := Lib.hid (below_to HBW.out hbx)
          have HNX := Lib.hid hnx
          clear hnx hbx HX1 HB1 HBW c0 l0 d1 d2 lsb
          generalize World.alloc wr _ = wb at *
          generalize wr.heap.size = bx at *
          have HC : Hid (∀ w', Below wb.heap.size wb w' → w'.cell? ⟨wa.heap.size, 0, none⟩ = some (.slice (some ⟨b3, off3, none⟩) R.ss.length scap) ∧ w'.cell? ⟨bx, 0, none⟩ = some (.int .i64 lo) ∧ w'.cell? ⟨bx, 1, none⟩ = some (.int .i64 hi) ∧ w'.cell? ⟨b3, off3 + k * 3, none⟩ = some (.int .i64 bb) ∧ w'.cell? ⟨xb, xoff + bb, none⟩ = some (.int .i64 xx)) := Lib.hid fun w' h => by
            have z := (h.block _ (lt_of_block HNX.out)).trans HNX.out
            have y := (h.block _ (lt_of_block HX2.out)).trans HX2.out
            have hb := below_to HBW2.out h
            exact ⟨cell_of_row w' _ 0 _ _ _ y, cell_of_row w' bx 0 _ _ _ z, cell_of_row w' bx 1 _ _ _ z, (hb.cell (p := ⟨b3, off3 + k * 3, none⟩) hlt3).trans e0, (hb.cell (p := ⟨xb, xoff + bb, none⟩) hltx).trans ex⟩
          clear e0 ex
          refine wp_region_noPanic ?_
          refine wp_region_chain (fun w1 => Below wb.heap.size wb w1) (fun w1 w2 h hb => h.trans (hb.mono h.size)) (below_drawn _) (by kernel_rfl) (fun _ _ _ _ _ h => h)
            [(false, 0), (false, 1), (false, 2), (false, 3), (false, 4), (false, 5), (false, 6), (false, 7), (false, 8), (false, 9), (false, 10), (false, 11), (false, 12), (false, 13), (false, 14), (false, 15), (false, 16), (false, 18), (false, 19), (false, 20), (false, 21), (false, 22), (false, 23), (true, 17), (false, 24), (false, 25), (false, 26), (false, 27)] [28] (by kernel_rfl) ?_
          iterate 23
            (refine Walk.takes rfl rfl ?_; apply Exists.intro; refine ⟨fun w1 hS => ?_, ?_⟩; (obtain ⟨d0, d1, d2, d3, d4⟩ := HC.out w1 hS; clear hS; go_simp; with_reducible rfl); simp only [List.getElem_toArray, List.getElem_cons_succ, List.getElem_cons_zero, Act.put, List.setIfInBounds_toArray, List.set_cons_zero, List.set_cons_succ])
          refine Walk.calls rfl rfl ?_; apply Exists.intro; apply Exists.intro; refine ⟨fun w2 hS => ?_, fun p1 hp1 => ?_⟩; (clear hS; go_simp; exact ⟨rfl, rfl⟩)
          have hq1 := grow_to (below_drawn wb) hp1
          refine (HWD.out A hA1 p1 (below_to HBW2.out hq1)).mono ?_
          rintro e p2 ⟨⟨y, rfl, hy0, hy1⟩, hb2⟩
          refine ⟨_, rfl, hb2, ?_⟩
          simp only [List.getElem_toArray, List.getElem_cons_succ, List.getElem_cons_zero, Act.put, List.setIfInBounds_toArray, List.set_cons_zero, List.set_cons_succ]
          obtain ⟨r, hr⟩ : ∃ r, y.tmod (hi - lo + 1) = r := ⟨_, rfl⟩
          have hrm : y % (hi - lo + 1) = r := by rw [← hr, Int.tmod_eq_emod_of_nonneg hy0]
          have hr0 : 0 ≤ r := by rw [← hrm]; exact Int.emod_nonneg _ hd1
          have hr1 : r ≤ hi - lo := by
            have := Int.emod_lt_of_pos y (show 0 < hi - lo + 1 by have := HBND.out; omega)
            omega
          obtain ⟨hh, hhe⟩ : ∃ hh, hh = lo + r := ⟨_, rfl⟩
          have hB := HBND.out
          obtain ⟨P1, P2, P3, P4⟩ := prod_bd HXR.out hB.1 (show lo ≤ hh by omega) (show hh ≤ hi by omega) hB.2.2
          have hwr : IntKind.i64.wrap (lo + r) = hh := by rw [IntWalk.i64_in _ (by omega)]; exact hhe.symm
          have hwr2 : IntKind.i64.wrap r = r := IntWalk.i64_in _ (by omega)
          have hS := HS.out
          have hwm : IntKind.i64.wrap (xx * hh) = xx * hh := IntWalk.i64_in _ (by omega)
          have hws : IntKind.i64.wrap (S + xx * hh) = S + xx * hh := IntWalk.i64_in _ (by omega)
          have HS2 : Hid (loS (R.ss.take (k + 1)) X ≤ S + xx * hh ∧ S + xx * hh ≤ hiS (R.ss.take (k + 1)) X ∧ 0 ≤ S + xx * hh ∧ S + xx * hh ≤ ((k + 1 : Nat) : Int) * 1000000000) := Lib.hid (by
            rw [HT1.out, HT2.out]
            refine ⟨by omega, by omega, by omega, ?_⟩
            rw [Int.natCast_add]
            omega)
          clear hB P1 P2 P3 P4 hhe hS hr0 hr1 hrm hy0 hy1
          iterate 4
            (refine Walk.takes rfl rfl ?_; apply Exists.intro; refine ⟨fun w1 hS => ?_, ?_⟩; (clear hS; go_simp; with_reducible rfl); simp only [List.getElem_toArray, List.getElem_cons_succ, List.getElem_cons_zero, Act.put, List.setIfInBounds_toArray, List.set_cons_zero, List.set_cons_succ])
          refine Walk.fin fun p9 hb9 hS9 => ?_
          refine Tail.value rfl rfl (by go_simp; with_reducible rfl) (Tail.done (NoPanic.normal ?_))
          simp only [List.getElem_toArray, List.getElem_cons_succ, List.getElem_cons_zero, Act.put, List.setIfInBounds_toArray, List.set_cons_zero, List.set_cons_succ]
          have HX9 := Lib.hid ((hS9.block _ (lt_of_block HX2.out)).trans HX2.out)
          have HB9 := Lib.hid (below_to HB2.out hS9)
          clear hS9 hb9 hq1 hp1 hb2 HX2 HB2 HBW2 HNX HC hr hwr hwr2 hw1 hw2 hd0 hd1 hwm hws
          generalize S + xx * hh = S2 at *
          go_wp2
          go_roundw
          case rel => exact ⟨k + 1, S2, by omega, by simp, rfl, HS2, HX9, HB9⟩
          case measure => simp [intOf]; omega
        · obtain rfl : k = R.ss.length := by omega
          have hS := HS.out
          rw [List.take_length] at hS
          have HS2 := Lib.hid (And.intro hS.1 (And.intro hS.2.1 (And.intro hS.2.2.1 (show S ≤ 8000000000 by have := hS.2.2.2; omega))))
          clear hS HS
          go_wp2_with fail
          have hwo := HWD.out q (by omega) wr HBW.out
          refine hwo.mono ?_
          rintro e p1 ⟨⟨y, rfl, hy0, hy1⟩, hb2⟩
          have HX2 := Lib.hid ((hb2.block _ (lt_of_block HX1.out)).trans HX1.out)
          have HB2 := Lib.hid (below_to HB1.out hb2)
          have HBW2 := Lib.hid (below_to HBW.out hb2)
          obtain ⟨a, ha⟩ : ∃ a, y.tmod 9 = a := ⟨_, rfl⟩
          have hab : 0 ≤ a ∧ a ≤ 8 := by rw [← ha, Int.tmod_eq_emod_of_nonneg hy0]; omega
          have HA := Lib.hid hab
          have hwa : IntKind.i64.wrap a = a := IntWalk.i64_in _ (by omega)
          have hws : IntKind.i64.wrap (S - a) = S - a := IntWalk.i64_in _ (by have := HS2.out; omega)
          have hq1 : IntKind.i64.wrap ((q : Int) + 1) = ((q + 1 : Nat) : Int) := by rw [IntWalk.i64_in _ (by omega)]; omega
          clear hb2 hwo HX1 HB1 HBW c0 l0 hy0 hy1 hab hwq
          obtain ⟨A, hA⟩ : ∃ A : Nat, q + 1 = A := ⟨_, rfl⟩
          rw [hA] at hq1
          go_wp2_with fail
          refine (HWD.out A (by omega) p1 HBW2.out).mono ?_
          rintro e p2 ⟨⟨y2, rfl, hy0, hy1⟩, hb2⟩
          replace HX2 := Lib.hid ((hb2.block _ (lt_of_block HX2.out)).trans HX2.out)
          replace HB2 := Lib.hid (below_to HB2.out hb2)
          replace HBW2 := Lib.hid (below_to HBW2.out hb2)
          obtain ⟨b, hb⟩ : ∃ b, y2.tmod 9 = b := ⟨_, rfl⟩
          have hbb : 0 ≤ b ∧ b ≤ 8 := by rw [← hb, Int.tmod_eq_emod_of_nonneg hy0]; omega
          have HMA := Lib.hid (made_of (X := X) HROK.out HS2.out HA.out hbb)
          have hwb : IntKind.i64.wrap b = b := IntWalk.i64_in _ (by omega)
          have hws2 : IntKind.i64.wrap (S + b) = S + b := IntWalk.i64_in _ (by have := HS2.out; omega)
          clear hb2 hy0 hy1 hbb hwa hws ha
          have l0 := lt_of_block HX2.out
          have k1 := cell_of_row p2 wa.heap.size 1 _ _ _ HX2.out
          have k2 := cell_of_row p2 wa.heap.size 2 _ _ _ HX2.out
          have fr1 := frozen_of_row p2 wa.heap.size 1 _ _ HX2.out
          have fr2 := frozen_of_row p2 wa.heap.size 2 _ _ HX2.out
          have k0 := cell_of_row p2 wa.heap.size 0 _ _ _ HX2.out
          simp only [List.getElem?_toArray, List.getElem?_cons_zero, List.getElem?_cons_succ] at k0 k1 k2
          have hb5 : Below wa.heap.size wa ((p2.setCell ⟨wa.heap.size, 1, none⟩ (.int .i64 (max 0 (S - a)))).setCell ⟨wa.heap.size, 2, none⟩ (.int .i64 (min 10000000000 (S + b)))) := (HB2.out.setCell (p := ⟨wa.heap.size, 1, none⟩) (Nat.le_refl _) _).setCell (p := ⟨wa.heap.size, 2, none⟩) (Nat.le_refl _) _
          obtain ⟨rs2, xs, hl2, hmk, hxs, hown⟩ := HO.out
          have hown5 := hown.kept (w' := ((p2.setCell ⟨wa.heap.size, 1, none⟩ (.int .i64 (max 0 (S - a)))).setCell ⟨wa.heap.size, 2, none⟩ (.int .i64 (min 10000000000 (S + b))))) (row := none) ⟨hb5.os, hb5.tape, hb5.output, hb5.size, fun j hj _ => hb5.block j hj⟩ (Classical.em _)
          have HOW := Lib.hid hown5
          have HSZ : Hid (((p2.setCell ⟨wa.heap.size, 1, none⟩ (.int .i64 (max 0 (S - a)))).setCell ⟨wa.heap.size, 2, none⟩ (.int .i64 (min 10000000000 (S + b)))).heap.size = p2.heap.size) := Lib.hid (by simp)
          have HB5 := Lib.hid hb5
          have HXS := Lib.hid hxs
          have HMK := Lib.hid hmk
          have hsz : w.heap.size ≤ ((p2.setCell ⟨wa.heap.size, 1, none⟩ (.int .i64 (max 0 (S - a)))).setCell ⟨wa.heap.size, 2, none⟩ (.int .i64 (min 10000000000 (S + b)))).heap.size := Nat.le_trans HB.out.size hb5.size
          clear hown hown5 hb5 hxs hmk HO HB2 HBW2
          go_wp2_with (first
            | (refine wpList_app el25 rfl (.tmp 83) (.tmp 85) rfl w.heap.size _ _ _ #[.slice sa R.ss.length scap, .int .i64 (max 0 (S - a)), .int .i64 (min 10000000000 (S + b))] rfl (by intro u hu; simp at hu; rcases hu with rfl | rfl | rfl <;> rfl) rfl (by rw [HSZ.out]; rfl) HOW.out hsz (by omega) ?_
               intro g c w' hown hgr _)
            | fail)
          go_roundw
          case rel =>
            subst hA
            have hb6 : Below w.heap.size w w' := (below_to HB.out HB5.out).trans hgr.below
            have hss : SegsV n wa (.slice sa R.ss.length scap) R.ss := HS4.out.same (.below hn HB.out)
            have hsm : Same n wa w' := fun k hk => (hgr.below.block k (by omega)).trans (HB5.out.block k (by have := HB.out.size; omega))
            have hr2 := runx_snoc (r := ⟨R.ss, ⟨max 0 (S - a), min 10000000000 (S + b)⟩⟩) HXS.out hss
            refine ⟨q + 1, by omega, by simp, Lib.hid hb6, Lib.hid ⟨_, _, by rw [List.length_append, hl2]; rfl, fun r hr => ?_, hr2.same hsm, hown⟩⟩
            rcases List.mem_append.1 hr with h | h
            · exact HMK.out r h
            · rw [List.mem_singleton] at h
              rw [h]
              exact HMA.out
          case measure => simp [intOf]; omega
    · obtain rfl : q = rs.length := by omega
      obtain ⟨rs2, xs, hl2, hmk, hxs, hown⟩ := HO.out
      rw [← hl2] at hown
      have hRU := hxs.runs (Nat.le_trans hn HB.out.size) hown
      have hRO : RoomOk ms rs2 := ⟨HK.out.mat, by omega, fun r hr => (hmk r hr).1⟩
      have hAL : allB rs2 X = true := List.all_eq_true.2 fun r hr => (hmk r hr).2
      have HD := Lib.hid (And.intro hRU (And.intro hRO hAL))
      clear hRU hRO hAL hown hxs hmk HO
      go_wp2
      go_ret
      exact ⟨⟨_, rs2, rfl, HD.out⟩, HB.out⟩
end Go.Proofs.Ytfijaafkagcmmaa
