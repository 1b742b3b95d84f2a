/- The picked truth in the law: its contract. -/
import Derived.Test.YtfjlnejeffkdoaaHH
namespace Go.Proofs.Ytfjlnejeffkdoaa
open Go.RowKit Go.Shelf
attribute [local irreducible] arrV wpQuiet

/-- The word of a point: 1, if there is none. -/
def wordAt (m : Nat) (wd : Nat → Int) (i : Nat) : Int := if m = 0 then 1 else wd (i % m)
def pickAt (p : Pt) (x : Int) : Int := if x.tmod 3 = 0 then p.lo else if x.tmod 3 = 1 then p.hi else p.lo + (x.tdiv 3).tmod (p.hi - p.lo + 1)
def pickL (ps : List Pt) (m : Nat) (wd : Nat → Int) (k : Nat) : List Int := (List.range k).map fun i => pickAt (pt ps i) (wordAt m wd i)
theorem pickL_len (ps : List Pt) (m : Nat) (wd : Nat → Int) (k : Nat) : (pickL ps m wd k).length = k := by simp [pickL]
theorem pickL_succ (ps : List Pt) (m : Nat) (wd : Nat → Int) (k : Nat) : pickL ps m wd (k + 1) = pickL ps m wd k ++ [pickAt (pt ps k) (wordAt m wd k)] := by simp [pickL, List.range_succ]
theorem pickAt_in {p : Pt} {x : Int} (h : p.lo ≤ p.hi) (hx : 0 ≤ x) : p.lo ≤ pickAt p x ∧ pickAt p x ≤ p.hi := by
  unfold pickAt
  split
  · omega
  · split
    · omega
    · have h1 : 0 ≤ x.tdiv 3 := Int.tdiv_nonneg hx (by omega)
      have h2 := Int.tmod_nonneg (p.hi - p.lo + 1) h1
      have h3 := Int.tmod_lt_of_pos (x.tdiv 3) (show 0 < p.hi - p.lo + 1 by omega)
      omega
theorem pickL_fits {ps : List Pt} {m : Nat} {wd : Nat → Int} (h : ∀ i, i < ps.length → (pt ps i).lo ≤ (pt ps i).hi) (hw : ∀ j, j < m → 0 ≤ wd j) : fitsB ps (pickL ps m wd ps.length) 0 = true := by
  simp only [fitsB, decide_eq_true_eq]
  intro j hj _
  have hwj : 0 ≤ wordAt m wd j := by
    unfold wordAt
    split
    · omega
    · exact hw _ (Nat.mod_lt _ (by omega))
  have e : ld (pickL ps m wd ps.length) j = pickAt (pt ps j) (wordAt m wd j) := by simp [ld, pickL, hj]
  simp only [fitB, hasB, e, decide_eq_true_eq]
  exact pickAt_in (h j hj) hwj

theorem intsRow_own {w : World} {base : Nat} {v : Value} {t : List Int} (h : w.ownsRow base 3 1 v t.length (t.map (Value.int .i64))) (ht : 0 < t.length) : ∃ B c, v = .slice (some ⟨B, 0, none⟩) t.length c ∧ IntsIn w B 0 t ∧ base ≤ B ∧ ∃ cur, w.heap[B]? = some (.cells cur 3 (0, 0)) := by
  obtain ⟨B, c, h1, h2, h3, _⟩ := intsIn_own h ht
  subst h1
  refine ⟨B, c, rfl, h2, h3, ?_⟩
  obtain ⟨-, h5⟩ := h
  rcases h5 with ⟨-, h0⟩ | ⟨g, cap, cur, e, hb, hg, hn, hc, hs, ht'⟩
  · omega
  · cases e
    exact ⟨cur, hg⟩

set_option maxRecDepth 100000 in
set_option maxHeartbeats 4000000 in
theorem Picked_row (b off cap m capw : Nat) (aw : Option Addr) (ps : List Pt) (wd : Nat → Int) (w : World) (hn : ps.length ≤ 20) (h0 : 0 < ps.length) (hp : PtsIn w b off ps) (hlo : ∀ i, i < ps.length → 0 ≤ (pt ps i).lo ∧ (pt ps i).lo ≤ (pt ps i).hi ∧ (pt ps i).hi ≤ 100000)
    (hm : m ≤ maxLen) (hw : ∀ j, j < m → ∃ bw ow, aw = some ⟨bw, ow, none⟩ ∧ w.cell? ⟨bw, ow + j, none⟩ = some (.int .u16 (wd j)) ∧ 0 ≤ wd j ∧ wd j < 65536) :
    Calls Try.prog 42 #[.agg #[.slice (some ⟨b, off, none⟩) ps.length cap], .slice aw m capw] w fun e w' => ∃ B c, e = .returned (.slice (some ⟨B, 0, none⟩) ps.length c) ∧ IntsIn w' B 0 (pickL ps m wd ps.length) ∧ w.heap.size ≤ B ∧ Below w.heap.size w w' ∧ ∃ cur, w'.heap[B]? = some (.cells cur 3 (0, 0)) := by
  unfold maxLen at hm
  have hltb := block_lt_of_cell (hp 0 h0).1
  have X0 := Lib.hid (heap_alloc_new w (.cells #[.slice (some ⟨b, off, none⟩) ps.length cap] 24))
  have HB0 := Lib.hid (box_below w (.cells #[.slice (some ⟨b, off, none⟩) ps.length cap] 24))
  have HS0 : Hid (w.heap.size + 1 ≤ (w.alloc (.cells #[.slice (some ⟨b, off, none⟩) ps.length cap] 24)).heap.size) := Lib.hid (by simp)
  have HWD := Lib.hid hw
  clear hw
  go_enter Try.func42, Try.ntmps42
  go_wp2
  go_loopw [5, 6] (fun v i wr => ∃ (q : Nat), q ≤ ps.length ∧ i = .int .i64 q ∧ Hid (wr.heap[w.heap.size]? = some (.cells #[.slice (some ⟨b, off, none⟩) ps.length cap] 24 (0, 0))) ∧ Hid (wr.ownsRow (w.heap.size + 1) 3 1 v q ((pickL ps m wd q).map (Value.int .i64))) ∧ Hid (Below w.heap.size w wr) ∧ w.heap.size + 1 ≤ wr.heap.size) (fun _ i _ => ps.length - (intOf i).toNat)
  case atStart => exact ⟨0, Nat.zero_le _, rfl, X0, Lib.hid (World.ownsRow_nil _ _ _ _), HB0, HS0.out⟩
  case round =>
    obtain ⟨q, hq, rfl, hx0, hown, hb, hsz⟩ := hrel
    have c0 := cell_of_row wr w.heap.size 0 _ _ _ hx0.out
    simp at c0
    have l0 := lt_of_block hx0.out
    by_cases hlt : q < ps.length
    · have p2 := (hb.out.cell (p := ⟨b, off + q * 3 + 1, none⟩) hltb).trans (hp q hlt).2.1
      have p3 := (hb.out.cell (p := ⟨b, off + q * 3 + 2, none⟩) hltb).trans (hp q hlt).2.2
      have hqn : (q : Int) < ps.length := by omega
      have hw9 : IntKind.i64.wrap ((q : Int) + 1) = (q : Int) + 1 := IntWalk.i64_in _ (by omega)
      have hll := hlo q hlt
      have HSU := Lib.hid (pickL_succ ps m wd q)
      generalize hP : pt ps q = P at *
      have HP := Lib.hid hP
      clear hP
      have hne : (P.hi - P.lo + 1 == 0) = false := by rw [beq_eq_false_iff_ne]; omega
      have hne' : P.hi - P.lo + 1 ≠ 0 := by omega
      have hwa : IntKind.i64.wrap (P.hi - P.lo) = P.hi - P.lo := IntWalk.i64_in _ (by omega)
      have hwb : IntKind.i64.wrap (P.hi - P.lo + 1) = P.hi - P.lo + 1 := IntWalk.i64_in _ (by omega)
      have hwl : IntKind.i64.wrap P.lo = P.lo := IntWalk.i64_in _ (by omega)
      have hw0 : IntKind.i64.wrap 0 = 0 := IntWalk.i64_in _ (by omega)
      rcases Nat.eq_zero_or_pos m with hm0 | hm0
      · have HM0 := Lib.hid hm0
        have hm1 : decide ((0 : Int) < (m : Int)) = false := by simp; omega
        have hm2 : decide (0 < m) = false := by simp; omega
        clear hm0
        go_wp2_with fail
        have hbx := box_below wr (.cells #[.int .i64 P.lo, .int .i64 P.hi] 54)
        have hnx := heap_alloc_new wr (.cells #[.int .i64 P.lo, .int .i64 P.hi] 54)
        have hx2 := Lib.hid ((hbx.block _ l0).trans hx0.out)
        have hown2 := Lib.hid (hown.out.kept (row := none) ⟨hbx.os, hbx.tape, hbx.output, hbx.size, fun k hk _ => hbx.block k hk⟩ (by cases h : u5.ownBlock <;> simp))
        have hs2 := Nat.le_trans hsz hbx.size
        generalize World.alloc wr _ = W at *
        have t0 := cell_of_row W wr.heap.size 0 _ _ _ hnx
        have t1 := cell_of_row W wr.heap.size 1 _ _ _ hnx
        simp at t0 t1
        have u0 := cell_regrown t0
        have u1 := cell_regrown t1
        have hbW := Lib.hid (below_to hb.out hbx)
        have hnl := lt_of_block hnx
        have HNX := Lib.hid hnx
        clear c0 p2 p3 t0 t1 hx0 hb hown hbx hnx
        refine wp_region_quiet_below (by kernel_rfl) (by kernel_rfl) ?_
        repeat (quiet_step (fail))
        refine wpQuiet_nil ?_
        intro _ hw'
        obtain ⟨⟨dq, osq⟩, hw''⟩ := hw'
        have hbr0 := below_regrown W dq osq
        rw [← hw''] at hbr0
        clear hw''
        rename_i w5
        have hnx := Lib.hid ((hbr0.block _ (lt_of_block HNX.out)).trans HNX.out)
        have hxr := Lib.hid ((hbr0.block _ (lt_of_block hx2.out)).trans hx2.out)
        have hbr := Lib.hid (below_to hbW.out hbr0)
        have hs5 := Nat.le_trans hs2 hbr0.size
        have hown5 := Lib.hid (hown2.out.kept (row := none) ⟨hbr0.os, hbr0.tape, hbr0.output, hbr0.size, fun k hk _ => hbr0.block k hk⟩ (by cases h : u5.ownBlock <;> simp))
        have d0 := cell_of_row w5 wr.heap.size 0 _ _ _ hnx.out
        have d1 := cell_of_row w5 wr.heap.size 1 _ _ _ hnx.out
        simp at d0 d1
        have hl5 := lt_of_block hnx.out
        clear hnl HNX hx2 hown2 hbW hs2 u0 u1
        go_wp2_with (first
          | (refine wpList_append_one rfl (.tmp 56) (.tmp 58) rfl (w.heap.size + 1) q u5 _ (P.hi) rfl rfl (by exact hown5.out) hs5 (by omega) ?_
             intro v' w6 g1 g2
             have z0 := (g2.block w.heap.size (by omega)).trans hxr.out
             have zb := hbr.out.trans (g2.mono (by have := hbr.out.size; omega))
             have hs6 := Nat.le_trans hs5 g2.size
             have Z0 := Lib.hid z0
             have ZB := Lib.hid zb
             have G1 := Lib.hid g1
             clear z0 zb g1 g2 d0 d1)
          | fail)
        go_roundw
        case rel =>
          refine ⟨q + 1, by omega, by simp, Z0, Lib.hid ?_, ZB, hs6⟩
          rw [HSU.out, List.map_append]
          have := G1.out
          simpa [wordAt, HM0.out, pickAt] using this
        case measure => simp [intOf] <;> omega
      · have hqm : q % m < m := Nat.mod_lt _ hm0
        obtain ⟨bw, ow, hbw, hcw, hx0', hx1'⟩ := HWD.out (q % m) hqm
        subst hbw
        have hlw := block_lt_of_cell hcw
        have hcw' := (hb.out.cell (p := ⟨bw, ow + q % m, none⟩) hlw).trans hcw
        have HWA : Hid (wordAt m wd q = wd (q % m)) := Lib.hid (by unfold wordAt; rw [if_neg (by omega)])
        clear hcw
        have hlwr : bw < wr.heap.size := Nat.lt_of_lt_of_le hlw hb.out.size
        generalize wd (q % m) = x at *
        have hm1 : decide ((0 : Int) < (m : Int)) = true := by rw [decide_eq_true_eq]; omega
        have hm2 : decide (0 < m) = true := by simpa using hm0
        have hrm : (q : Int).tmod (m : Int) = ((q % m : Nat) : Int) := by rw [Int.tmod_eq_emod_of_nonneg (by omega)]; simp
        have hrz : ((m : Int) == 0) = false := by rw [beq_eq_false_iff_ne]; omega
        have hrz' : (m : Int) ≠ 0 := by omega
        have hrw : IntKind.i64.wrap ((q % m : Nat) : Int) = ((q % m : Nat) : Int) := IntWalk.i64_in _ (by have := Nat.mod_le q m; omega)
        have hxw : IntKind.i64.wrap x = x := IntWalk.i64_in _ (by omega)
        have hql : ((q % m : Nat) : Int) < (m : Int) := by omega
        have hd0 : 0 ≤ x.tdiv 3 := Int.tdiv_nonneg hx0' (by omega)
        have hd1 : x.tdiv 3 ≤ x := by have := Int.tdiv_le_self (a := x) 3 hx0'; omega
        have ht0 := Int.tmod_nonneg (P.hi - P.lo + 1) hd0
        have ht1 := Int.tmod_lt_of_pos (x.tdiv 3) (show 0 < P.hi - P.lo + 1 by omega)
        have hm3 : 0 ≤ x.tmod 3 := Int.tmod_nonneg 3 hx0'
        have hm4 : x.tmod 3 < 3 := Int.tmod_lt_of_pos x (by omega)
        have hwd : IntKind.i64.wrap (x.tdiv 3) = x.tdiv 3 := IntWalk.i64_in _ (by omega)
        have hwm : IntKind.i64.wrap (x.tmod 3) = x.tmod 3 := IntWalk.i64_in _ (by omega)
        have hwt : IntKind.i64.wrap ((x.tdiv 3).tmod (P.hi - P.lo + 1)) = (x.tdiv 3).tmod (P.hi - P.lo + 1) := IntWalk.i64_in _ (by omega)
        have hws : IntKind.i64.wrap (P.lo + (x.tdiv 3).tmod (P.hi - P.lo + 1)) = P.lo + (x.tdiv 3).tmod (P.hi - P.lo + 1) := IntWalk.i64_in _ (by omega)
        have epk : pickAt P x = if x.tmod 3 = 0 then P.lo else if x.tmod 3 = 1 then P.hi else P.lo + (x.tdiv 3).tmod (P.hi - P.lo + 1) := rfl
        go_wp2_with fail
        have hbx := box_below wr (.cells #[.int .i64 P.lo, .int .i64 P.hi] 54)
        have hnx := heap_alloc_new wr (.cells #[.int .i64 P.lo, .int .i64 P.hi] 54)
        have hx2 := Lib.hid ((hbx.block _ l0).trans hx0.out)
        have hown2 := Lib.hid (hown.out.kept (row := none) ⟨hbx.os, hbx.tape, hbx.output, hbx.size, fun k hk _ => hbx.block k hk⟩ (by cases h : u5.ownBlock <;> simp))
        have hs2 := Nat.le_trans hsz hbx.size
        generalize World.alloc wr _ = W at *
        have t0 := cell_of_row W wr.heap.size 0 _ _ _ hnx
        have t1 := cell_of_row W wr.heap.size 1 _ _ _ hnx
        simp at t0 t1
        have u0 := cell_regrown t0
        have u1 := cell_regrown t1
        have hbW := Lib.hid (below_to hb.out hbx)
        have hnl := lt_of_block hnx
        have HNX := Lib.hid hnx
        clear c0 p2 p3 t0 t1 hx0 hb hown hbx hnx
        refine wp_region_quiet_below (by kernel_rfl) (by kernel_rfl) ?_
        repeat (quiet_step (fail))
        refine wpQuiet_nil ?_
        intro _ hw'
        obtain ⟨⟨dq, osq⟩, hw''⟩ := hw'
        have hbr0 := below_regrown W dq osq
        rw [← hw''] at hbr0
        clear hw''
        rename_i w5
        have hnx := Lib.hid ((hbr0.block _ (lt_of_block HNX.out)).trans HNX.out)
        have hxr := Lib.hid ((hbr0.block _ (lt_of_block hx2.out)).trans hx2.out)
        have hbr := Lib.hid (below_to hbW.out hbr0)
        have hs5 := Nat.le_trans hs2 hbr0.size
        have hown5 := Lib.hid (hown2.out.kept (row := none) ⟨hbr0.os, hbr0.tape, hbr0.output, hbr0.size, fun k hk _ => hbr0.block k hk⟩ (by cases h : u5.ownBlock <;> simp))
        have EPK := Lib.hid epk
        clear epk
        generalize (x.tdiv 3).tmod (P.hi - P.lo + 1) = y at *
        rcases (show x.tmod 3 = 0 ∨ x.tmod 3 = 1 ∨ x.tmod 3 = 2 by omega) with hz | hz | hz
        · have HZ := Lib.hid hz
          have d0 := cell_of_row w5 wr.heap.size 0 _ _ _ hnx.out
          have d1 := cell_of_row w5 wr.heap.size 1 _ _ _ hnx.out
          simp at d0 d1
          have hl5 := lt_of_block hnx.out
          clear hnl HNX hx2 hown2 hbW hs2 u0 u1
          go_wp2_with (first
            | (refine wpList_append_one rfl (.tmp 56) (.tmp 58) rfl (w.heap.size + 1) q u5 _ (P.lo) rfl rfl (by exact hown5.out) hs5 (by omega) ?_
               intro v' w6 g1 g2
               have z0 := (g2.block w.heap.size (by omega)).trans hxr.out
               have zb := hbr.out.trans (g2.mono (by have := hbr.out.size; omega))
               have hs6 := Nat.le_trans hs5 g2.size
               have Z0 := Lib.hid z0
               have ZB := Lib.hid zb
               have G1 := Lib.hid g1
               clear z0 zb g1 g2 d0 d1)
            | fail)
          go_roundw
          case rel =>
            refine ⟨q + 1, by omega, by simp, Z0, Lib.hid ?_, ZB, hs6⟩
            rw [HSU.out, List.map_append]
            have := G1.out
            simpa [HWA.out, EPK.out, HZ.out] using this
          case measure => simp [intOf] <;> omega
        · have HZ := Lib.hid hz
          have d0 := cell_of_row w5 wr.heap.size 0 _ _ _ hnx.out
          have d1 := cell_of_row w5 wr.heap.size 1 _ _ _ hnx.out
          simp at d0 d1
          have hl5 := lt_of_block hnx.out
          clear hnl HNX hx2 hown2 hbW hs2 u0 u1
          go_wp2_with (first
            | (refine wpList_append_one rfl (.tmp 56) (.tmp 58) rfl (w.heap.size + 1) q u5 _ (P.hi) rfl rfl (by exact hown5.out) hs5 (by omega) ?_
               intro v' w6 g1 g2
               have z0 := (g2.block w.heap.size (by omega)).trans hxr.out
               have zb := hbr.out.trans (g2.mono (by have := hbr.out.size; omega))
               have hs6 := Nat.le_trans hs5 g2.size
               have Z0 := Lib.hid z0
               have ZB := Lib.hid zb
               have G1 := Lib.hid g1
               clear z0 zb g1 g2 d0 d1)
            | fail)
          go_roundw
          case rel =>
            refine ⟨q + 1, by omega, by simp, Z0, Lib.hid ?_, ZB, hs6⟩
            rw [HSU.out, List.map_append]
            have := G1.out
            simpa [HWA.out, EPK.out, HZ.out] using this
          case measure => simp [intOf] <;> omega
        · have HZ := Lib.hid hz
          have d0 := cell_of_row w5 wr.heap.size 0 _ _ _ hnx.out
          have d1 := cell_of_row w5 wr.heap.size 1 _ _ _ hnx.out
          simp at d0 d1
          have hl5 := lt_of_block hnx.out
          clear hnl HNX hx2 hown2 hbW hs2 u0 u1
          go_wp2_with (first
            | (refine wpList_append_one rfl (.tmp 56) (.tmp 58) rfl (w.heap.size + 1) q u5 _ (P.lo + y) rfl rfl (by exact hown5.out) hs5 (by omega) ?_
               intro v' w6 g1 g2
               have z0 := (g2.block w.heap.size (by omega)).trans hxr.out
               have zb := hbr.out.trans (g2.mono (by have := hbr.out.size; omega))
               have hs6 := Nat.le_trans hs5 g2.size
               have Z0 := Lib.hid z0
               have ZB := Lib.hid zb
               have G1 := Lib.hid g1
               clear z0 zb g1 g2 d0 d1)
            | fail)
          go_roundw
          case rel =>
            refine ⟨q + 1, by omega, by simp, Z0, Lib.hid ?_, ZB, hs6⟩
            rw [HSU.out, List.map_append]
            have := G1.out
            simpa [HWA.out, EPK.out, HZ.out] using this
          case measure => simp [intOf] <;> omega
    · obtain rfl : q = ps.length := by omega
      have e := pickL_len ps m wd ps.length
      have hown' : wr.ownsRow (w.heap.size + 1) 3 1 u5 (pickL ps m wd ps.length).length ((pickL ps m wd ps.length).map (Value.int .i64)) := by rw [e]; exact hown.out
      obtain ⟨B, c, rfl, q1, q2, cur, q4⟩ := intsRow_own hown' (by rw [e]; exact h0)
      rw [e]
      clear hown'
      go_wp2
      go_ret
      exact ⟨B, c, rfl, q1, by omega, hb.out, cur, q4⟩

theorem Picked_any (b off cap m capw : Nat) (aw : Option Addr) (ps : List Pt) (wd : Nat → Int) (w : World) (hn : ps.length ≤ 20) (h0 : 0 < ps.length) (hp : PtsIn w b off ps) (hlo : ∀ i, i < ps.length → 0 ≤ (pt ps i).lo ∧ (pt ps i).lo ≤ (pt ps i).hi ∧ (pt ps i).hi ≤ 100000)
    (hm : m ≤ maxLen) (hw : ∀ j, j < m → ∃ bw ow, aw = some ⟨bw, ow, none⟩ ∧ w.cell? ⟨bw, ow + j, none⟩ = some (.int .u16 (wd j)) ∧ 0 ≤ wd j ∧ wd j < 65536) :
    Calls Try.prog 42 #[.agg #[.slice (some ⟨b, off, none⟩) ps.length cap], .slice aw m capw] w fun e w' => ∃ B c, e = .returned (.slice (some ⟨B, 0, none⟩) ps.length c) ∧ IntsIn w' B 0 (pickL ps m wd ps.length) ∧ w.heap.size ≤ B ∧ Below w.heap.size w w' :=
  (Picked_row b off cap m capw aw ps wd w hn h0 hp hlo hm hw).mono fun _ _ ⟨B, c, h1, h2, h3, h4, _⟩ => ⟨B, c, h1, h2, h3, h4⟩
end Go.Proofs.Ytfjlnejeffkdoaa
