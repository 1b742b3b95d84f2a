/- All truths of a curve, in the order in which the reference lists them: plain lists. No condition. What a kind names, by the reference. No condition. How many truths there are, by the reference. Conditions: valid curves. Whether a curve has few truths, by the law. No condition but the contracts of what it calls. -/
import Derived.Test.YtfjlnejeffkdoaaAV
namespace Go.Proofs.Ytfjlnejeffkdoaa
open Go.RowKit

def rangeI (lo hi : Int) : List Int := (List.range (hi - lo + 1).toNat).map fun n : Nat => lo + (n : Int)
theorem rangeI_mem {lo hi x : Int} : x ∈ rangeI lo hi ↔ lo ≤ x ∧ x ≤ hi := by
  simp only [rangeI, List.mem_map, List.mem_range]
  constructor
  · rintro ⟨n, hn, rfl⟩
    omega
  · intro h
    exact ⟨(x - lo).toNat, by omega, by omega⟩
theorem rangeI_len (lo hi : Int) : (rangeI lo hi).length = (hi - lo + 1).toNat := by simp [rangeI]

/-- All truths that begin so, with so many loads more. -/
def allF (ps : List Pt) : Nat → List Int → List (List Int)
  | 0, b => [b]
  | k + 1, b => (rangeI (pt ps b.length).lo (pt ps b.length).hi).flatMap fun n => allF ps k (b ++ [n])

theorem allF_mem (ps : List Pt) : ∀ (k : Nat) (b t : List Int), t ∈ allF ps k b ↔ ∃ c : List Int, c.length = k ∧ t = b ++ c ∧ ∀ i, i < k → (pt ps (b.length + i)).lo ≤ ld c i ∧ ld c i ≤ (pt ps (b.length + i)).hi
  | 0, b, t => by
    simp only [allF, List.mem_singleton]
    constructor
    · rintro rfl
      exact ⟨[], rfl, by simp, fun i hi => absurd hi (by omega)⟩
    · rintro ⟨c, hc, rfl, -⟩
      rw [List.eq_nil_of_length_eq_zero hc, List.append_nil]
  | k + 1, b, t => by
    simp only [allF, List.mem_flatMap, rangeI_mem]
    constructor
    · rintro ⟨n, hn, ht⟩
      obtain ⟨c, hc, rfl, hr⟩ := (allF_mem ps k _ t).1 ht
      refine ⟨n :: c, by simp [hc], by simp, fun i hi => ?_⟩
      cases i with
      | zero => exact hn
      | succ i =>
        have := hr i (by omega)
        simp only [List.length_append, List.length_singleton] at this
        rw [show b.length + 1 + i = b.length + (i + 1) by omega] at this
        exact this
    · rintro ⟨c, hc, rfl, hr⟩
      cases c with
      | nil => simp at hc
      | cons n c =>
        refine ⟨n, hr 0 (by omega), (allF_mem ps k _ _).2 ⟨c, by simpa using hc, by simp, fun i hi => ?_⟩⟩
        have := hr (i + 1) (by omega)
        simp only [List.length_append, List.length_singleton]
        rw [show b.length + 1 + i = b.length + (i + 1) by omega]
        exact this

def allT (ps : List Pt) : List (List Int) := allF ps ps.length []
theorem allT_mem (ps : List Pt) (t : List Int) : t ∈ allT ps ↔ t.length = ps.length ∧ ∀ i, i < ps.length → (pt ps i).lo ≤ ld t i ∧ ld t i ≤ (pt ps i).hi := by
  unfold allT
  rw [allF_mem]
  constructor
  · rintro ⟨c, hc, rfl, hr⟩
    exact ⟨by simpa using hc, fun i hi => by simpa using hr i hi⟩
  · rintro ⟨h1, h2⟩
    exact ⟨t, h1, by simp, fun i hi => by simpa using h2 i hi⟩

theorem ld_padT (t : List Int) (h : t.length ≤ 20) (i : Nat) : ld (pad t) i = if i < t.length then ld t i else 0 := by
  unfold ld pad
  split
  · rename_i hi
    rw [List.getElem?_append_left hi]
  · rename_i hi
    rw [List.getElem?_append_right (by omega), List.getElem?_replicate]
    split <;> rfl

theorem allT_tr {ps : List Pt} (hlen : ps.length ≤ 20) {t : List Int} (h : t ∈ allT ps) : IsTr ps (pad t) := by
  obtain ⟨h1, h2⟩ := (allT_mem ps t).1 h
  refine ⟨by simp [pad]; omega, fun i hi => ?_, fun i hi => ?_⟩
  · rw [ld_padT t (by omega), if_pos (by omega)]
    exact h2 i hi
  · rw [ld_padT t (by omega), if_neg (by omega)]
theorem tr_allT {ps : List Pt} (hlen : ps.length ≤ 20) {t : List Int} (h : IsTr ps t) : t ∈ (allT ps).map pad := by
  refine List.mem_map.2 ⟨t.take ps.length, (allT_mem ps _).2 ⟨by simp [h.1]; omega, fun i hi => ?_⟩, pad_take h hlen⟩
  rw [ld_take t ps.length i hi]
  exact h.2.1 i hi

/-- The reference's span of all truths is the one of the brought truths. -/
theorem span_ref {ps : List Pt} {r : Rl} (F : Sane ps r) (hg : goodsB ps 0 = true) (kd : Int) (hk : kd = 0 ∨ kd = 1 ∨ kd = 2 ∨ kd = 3) : bnd (numsL ps r (fndOf kd) ((allT ps).map pad)) = spanP ps r kd :=
  span_eq F hg kd hk (fun t ht => by
    obtain ⟨u, hu, rfl⟩ := List.mem_map.1 ht
    exact allT_tr F.len hu) fun t ht => tr_allT F.len ht

/-- How many there are. -/
def manyP (ps : List Pt) : Nat → Nat → Nat
  | 0, _ => 1
  | k + 1, j => ((pt ps j).hi - (pt ps j).lo + 1).toNat * manyP ps k (j + 1)
theorem allF_len (ps : List Pt) : ∀ (k : Nat) (b : List Int), (allF ps k b).length = manyP ps k b.length
  | 0, _ => rfl
  | k + 1, b => by
    have h : ∀ l : List Int, (l.flatMap fun n => allF ps k (b ++ [n])).length = l.length * manyP ps k (b.length + 1) := fun l => by
      induction l with
      | nil => simp
      | cons x l ih =>
        rw [List.flatMap_cons, List.length_append, ih, allF_len ps k, List.length_append, List.length_singleton, List.length_cons, Nat.succ_mul]
        omega
    rw [allF, h, rangeI_len]
    rfl
theorem manyP_pos {ps : List Pt} {r : Rl} (F : Sane ps r) : ∀ (k j : Nat), j + k ≤ ps.length → 1 ≤ manyP ps k j
  | 0, _, _ => Nat.le_refl _
  | k + 1, j, h => by
    have h1 := manyP_pos F k (j + 1) (by omega)
    have h2 := F.lo j (by omega)
    exact Nat.mul_le_mul (show 1 ≤ ((pt ps j).hi - (pt ps j).lo + 1).toNat by omega) h1
/-- The reference's count, from the first point on. -/
def manyR (ps : List Pt) : Nat → Int
  | 0 => 1
  | k + 1 => min 10000 (manyR ps k * ((pt ps k).hi - (pt ps k).lo + 1))
theorem manyP_snoc (ps : List Pt) : ∀ (k j : Nat), manyP ps (k + 1) j = manyP ps k j * ((pt ps (j + k)).hi - (pt ps (j + k)).lo + 1).toNat
  | 0, j => by simp [manyP]
  | k + 1, j => by
    rw [manyP, manyP_snoc ps k (j + 1), ← Nat.mul_assoc, show j + 1 + k = j + (k + 1) by omega]
    rfl
theorem manyR_eq {ps : List Pt} {r : Rl} (F : Sane ps r) : ∀ k : Nat, k ≤ ps.length → 1 ≤ manyR ps k ∧ (manyR ps k = 10000 ∨ manyR ps k = (manyP ps k 0 : Int)) ∧ manyR ps k ≤ 10000
  | 0, _ => by simp [manyR, manyP]
  | k + 1, h => by
    obtain ⟨h1, h2, h3⟩ := manyR_eq F k (by omega)
    have h4 := F.lo k (by omega)
    have hm : manyR ps (k + 1) = min 10000 (manyR ps k * ((pt ps k).hi - (pt ps k).lo + 1)) := rfl
    have h5 : manyR ps k ≤ manyR ps k * ((pt ps k).hi - (pt ps k).lo + 1) := by
      have := Int.mul_le_mul_of_nonneg_left (show 1 ≤ (pt ps k).hi - (pt ps k).lo + 1 by omega) (show 0 ≤ manyR ps k by omega)
      omega
    refine ⟨by omega, ?_, by omega⟩
    rcases h2 with h2 | h2
    · left
      omega
    · have e : ((manyP ps (k + 1) 0 : Nat) : Int) = manyR ps k * ((pt ps k).hi - (pt ps k).lo + 1) := by
        rw [manyP_snoc, Nat.zero_add, Int.natCast_mul, ← h2, Int.toNat_of_nonneg (by omega)]
      omega
/-- Where the reference counts at most 800, there are so many. -/
theorem few_len {ps : List Pt} {r : Rl} (F : Sane ps r) (h : manyR ps ps.length ≤ 800) : (allT ps).length ≤ 800 := by
  obtain ⟨_, h2, _⟩ := manyR_eq F ps.length (Nat.le_refl _)
  have e : (allT ps).length = manyP ps ps.length 0 := allF_len ps ps.length []
  omega
end Go.Proofs.Ytfjlnejeffkdoaa

namespace Go.Proofs.Ytfjlnejeffkdoaa
open Go.RowKit Go.Shelf
attribute [local irreducible] arrV wpQuiet
attribute [local go_sem] Oper.semAt_some

set_option maxRecDepth 100000 in
set_option maxHeartbeats 1000000 in
theorem RefHas_any (kd : Int) (x : Rs) (w : World) (hk : kd = 0 ∨ kd = 1 ∨ kd = 2 ∨ kd = 3) : Calls Try.prog 36 #[.agg (rsV x), .int .u8 kd] w fun e w' => e = .returned (.bool (isOf kd x)) ∧ Below w.heap.size w w' := by
  obtain ⟨st, pk, ya, y, ma, pl, wk⟩ := x
  show Calls Try.prog 36 #[.agg #[.int .i64 st, .int .i64 pk, .int .i64 ya, .int .i64 y, .int .i64 ma, .int .i64 pl, .int .i64 wk], .int .u8 kd] w _
  have hB := box_below w (.cells #[.int .i64 st, .int .i64 pk, .int .i64 ya, .int .i64 y, .int .i64 ma, .int .i64 pl, .int .i64 wk] 47)
  rcases hk with rfl | rfl | rfl | rfl
  · go_enter Try.func36, Try.ntmps36
    go_wp2
    refine bodyPost_ret (v := .bool true) (by simp [results, Try.results36, go_sem]) rfl ⟨rfl, hB⟩
  · go_enter Try.func36, Try.ntmps36
    go_wp2
    · rename_i h
      refine bodyPost_ret (v := .bool false) (by simp [results, Try.results36, go_sem, h]) rfl ⟨by simp [isOf]; omega, hB⟩
    · rename_i h
      refine bodyPost_ret (v := .bool true) (by simp [results, Try.results36, go_sem]) rfl ⟨by simp [isOf, h], hB⟩
  · go_enter Try.func36, Try.ntmps36
    go_wp2
    refine bodyPost_ret (v := .bool (decide (0 ≤ ma))) (by simp [results, Try.results36, go_sem]) rfl ⟨rfl, hB⟩
  · go_enter Try.func36, Try.ntmps36
    go_wp2
    refine bodyPost_ret (v := .bool true) (by simp [results, Try.results36, go_sem]) rfl ⟨rfl, hB⟩

set_option maxRecDepth 100000 in
set_option maxHeartbeats 1000000 in
theorem RefNumber_any (kd : Int) (x : Rs) (w : World) (hk : kd = 0 ∨ kd = 1 ∨ kd = 2 ∨ kd = 3) : Calls Try.prog 37 #[.agg (rsV x), .int .u8 kd] w fun e w' => e = .returned (.int .i64 (numOf kd x)) ∧ Below w.heap.size w w' := by
  obtain ⟨st, pk, ya, y, ma, pl, wk⟩ := x
  show Calls Try.prog 37 #[.agg #[.int .i64 st, .int .i64 pk, .int .i64 ya, .int .i64 y, .int .i64 ma, .int .i64 pl, .int .i64 wk], .int .u8 kd] w _
  have hB := box_below w (.cells #[.int .i64 st, .int .i64 pk, .int .i64 ya, .int .i64 y, .int .i64 ma, .int .i64 pl, .int .i64 wk] 47)
  rcases hk with rfl | rfl | rfl | rfl
  · go_enter Try.func37, Try.ntmps37
    go_wp2
    refine bodyPost_ret (v := .int .i64 st) (by simp [results, Try.results37, go_sem]) rfl ⟨rfl, hB⟩
  · go_enter Try.func37, Try.ntmps37
    go_wp2
    refine bodyPost_ret (v := .int .i64 y) (by simp [results, Try.results37, go_sem]) rfl ⟨rfl, hB⟩
  · go_enter Try.func37, Try.ntmps37
    go_wp2
    refine bodyPost_ret (v := .int .i64 pl) (by simp [results, Try.results37, go_sem]) rfl ⟨rfl, hB⟩
  · go_enter Try.func37, Try.ntmps37
    go_wp2
    refine bodyPost_ret (v := .int .i64 wk) (by simp [results, Try.results37, go_sem]) rfl ⟨rfl, hB⟩
end Go.Proofs.Ytfjlnejeffkdoaa

namespace Go.Proofs.Ytfjlnejeffkdoaa
open Go.RowKit Go.Shelf
attribute [local irreducible] arrV wpQuiet
attribute [local go_sem] Oper.semAt_some

set_option maxRecDepth 100000 in
set_option maxHeartbeats 4000000 in
theorem RefMany_any (b off cap : Nat) (ps : List Pt) (r : Rl) (w : World) (F : Sane ps r) (hp : PtsIn w b off ps) :
    Calls Try.prog 54 #[.agg #[.slice (some ⟨b, off, none⟩) ps.length cap]] w fun e w' => e = .returned (.int .i64 (manyR ps ps.length)) ∧ Below w.heap.size w w' := by
  have h0 := F.pos
  have hn := F.len
  have hltb := block_lt_of_cell (hp 0 h0).1
  have hX := Lib.hid (heap_alloc_new w (.cells #[.slice (some ⟨b, off, none⟩) ps.length cap] 24))
  have hB := Lib.hid (box_below w (.cells #[.slice (some ⟨b, off, none⟩) ps.length cap] 24))
  go_enter Try.func54, Try.ntmps54
  go_wp2
  go_loopw [3, 4] (fun m i wr => ∃ q : Nat, q ≤ ps.length ∧ i = .int .i64 q ∧ m = .int .i64 (manyR ps q) ∧ Hid (wr.heap[w.heap.size]? = some (.cells #[.slice (some ⟨b, off, none⟩) ps.length cap] 24 (0, 0))) ∧ Hid (Below w.heap.size w wr)) (fun _ i _ => ps.length - (intOf i).toNat)
  case atStart => exact ⟨0, Nat.zero_le _, rfl, rfl, hX, hB⟩
  case round =>
    obtain ⟨q, hq, rfl, rfl, hx, hb⟩ := hrel
    have c0 := cell_of_row wr w.heap.size 0 _ _ _ hx.out
    simp at c0
    have hl := lt_of_block hx.out
    by_cases hlt : q < ps.length
    · have p2 := (hb.out.cell (p := ⟨b, off + q * 3 + 1, none⟩) hltb).trans (hp q hlt).2.1
      have p3 := (hb.out.cell (p := ⟨b, off + q * 3 + 2, none⟩) hltb).trans (hp q hlt).2.2
      have hqn : (q : Int) < ps.length := by omega
      have hw9 : IntKind.i64.wrap ((q : Int) + 1) = (q : Int) + 1 := IntWalk.i64_in _ (by omega)
      obtain ⟨m1, -, m3⟩ := manyR_eq F q (by omega)
      have hlo := F.lo q hlt
      have e1 : manyR ps (q + 1) = min 10000 (manyR ps q * ((pt ps q).hi - (pt ps q).lo + 1)) := rfl
      have E1 := Lib.hid e1
      clear e1
      generalize hm' : manyR ps (q + 1) = m' at *
      have HM := Lib.hid hm'
      clear hm'
      generalize manyR ps q = m at *
      generalize (pt ps q).lo = lo at *
      generalize (pt ps q).hi = hi' at *
      have hp1 : 0 ≤ m * (hi' - lo + 1) := Int.mul_nonneg (by omega) (by omega)
      have hp2 : m * (hi' - lo + 1) ≤ 10000 * 100001 := Int.le_trans (Int.mul_le_mul_of_nonneg_right m3 (by omega)) (Int.mul_le_mul_of_nonneg_left (by omega) (by omega))
      have hw1 : IntKind.i64.wrap (hi' - lo) = hi' - lo := IntWalk.i64_in _ (by omega)
      have hw2 : IntKind.i64.wrap (hi' - lo + 1) = hi' - lo + 1 := IntWalk.i64_in _ (by omega)
      have hw3 : IntKind.i64.wrap (m * (hi' - lo + 1)) = m * (hi' - lo + 1) := IntWalk.i64_in _ (by omega)
      go_wp2_with fail
      have q0 := c0
      have g0 := cell_regrown q0
      have g2 := cell_regrown p2
      have g3 := cell_regrown p3
      clear c0 p2 p3 q0
      refine wp_region_quiet_below (by kernel_rfl) (by kernel_rfl) ?_
      repeat (quiet_step (fail))
      refine wpQuiet_nil ?_
      intro _ hw'
      obtain ⟨⟨dq, osq⟩, hw''⟩ := hw'
      subst hw''
      have hxr := Lib.hid ((below_regrown wr dq osq).block _ (lt_of_block hx.out) |>.trans hx.out)
      have hbr := Lib.hid (below_to hb.out (below_regrown wr dq osq))
      go_wp2
      refine ⟨⟨q + 1, by omega, by simp, by rw [HM.out, E1.out], hxr, hbr⟩, ?_⟩
      simp only [intOf]
      omega
    · obtain rfl : q = ps.length := by omega
      go_wp2
      go_ret
      exact ⟨rfl, hb.out⟩
end Go.Proofs.Ytfjlnejeffkdoaa

namespace Go.Proofs.Ytfjlnejeffkdoaa
open Go.RowKit Go.Shelf
attribute [local irreducible] arrV wpQuiet
attribute [local go_sem] Oper.semAt_some

set_option maxRecDepth 100000 in
set_option maxHeartbeats 4000000 in
theorem Few_any (sa : Option Addr) (n cap : Nat) (E M : Int) (w : World) (hE : E = 0 ∨ E = 1 ∨ E = 3)
    (HT : ∀ w, Calls Try.prog 15 #[.agg #[.slice sa n cap]] w fun e w' => e = .returned (.bool (decide (n ≤ 25))) ∧ Below w.heap.size w w')
    (HF : ∀ W, Below w.heap.size w W → Calls Try.prog 23 #[.agg #[.slice sa n cap]] W fun e w' => e = .returned (.int .i64 E) ∧ Below W.heap.size W w')
    (HM : E = 0 → ∀ W, Below w.heap.size w W → Calls Try.prog 54 #[.agg #[.slice sa n cap]] W fun e w' => e = .returned (.int .i64 M) ∧ Below W.heap.size W w') :
    Calls Try.prog 27 #[.agg #[.slice sa n cap]] w fun e w' => e = .returned (.bool (decide (n ≤ 25) && (decide (E ≠ 0) || decide (M ≤ 800)))) ∧ Below w.heap.size w w' := by
  have hb2 := box_below w (.cells #[.slice sa n cap] 24)
  have hx1 := heap_alloc_new w (.cells #[.slice sa n cap] 24)
  have HFF := Lib.hid HF
  have HMM := Lib.hid HM
  clear HF HM
  go_enter Try.func27, Try.ntmps27
  go_wp2_with fail
  refine (HT _).mono ?_
  rintro e w1 ⟨rfl, hb1⟩
  replace hx1 := (hb1.block _ (lt_of_block hx1)).trans hx1
  have b0 := cell_of_row w1 w.heap.size 0 _ _ _ hx1
  simp at b0
  have hbw := below_to hb2 hb1
  clear hb1 hb2
  by_cases hn : n ≤ 25
  · have hd : decide (n ≤ 25) = true := by simpa using hn
    rw [hd]
    have HD := Lib.hid hd
    clear hd
    go_wp2_with fail
    refine (HFF.out _ hbw).mono ?_
    rintro e w2 ⟨rfl, hb3⟩
    have hx2 := (hb3.block _ (lt_of_block hx1)).trans hx1
    have b1 := cell_of_row w2 w.heap.size 0 _ _ _ hx2
    simp at b1
    have HBW := below_to hbw hb3
    clear hb3 hbw b0 hx1
    rcases hE with rfl | rfl | rfl
    · go_wp2_with fail
      refine (HMM.out trivial _ HBW).mono ?_
      rintro e w3 ⟨rfl, hb4⟩
      have HBX := below_to HBW hb4
      go_wp2
      go_ret
      exact ⟨ret_bool (by rw [HD.out]; simp), HBX⟩
    · go_wp2
      go_ret
      exact ⟨ret_bool (by rw [HD.out]; simp), HBW⟩
    · go_wp2
      go_ret
      exact ⟨ret_bool (by rw [HD.out]; simp), HBW⟩
  · have hd : decide (n ≤ 25) = false := by simpa using hn
    rw [hd]
    have HD := Lib.hid hd
    clear hd
    go_wp2
    go_ret
    exact ⟨ret_bool (by rw [HD.out]; rfl), hbw⟩
end Go.Proofs.Ytfjlnejeffkdoaa
