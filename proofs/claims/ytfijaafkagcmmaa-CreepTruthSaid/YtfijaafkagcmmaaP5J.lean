/- The span of lives as the reference finds it: plain facts. No condition. The life for a rate, and the span of lives, by the reference: contracts. Conditions: rates in their limits, at least one list. The law CreepTruth, walked. No condition. The statement CreepTruth holds: for every material, runs, plan, words and stretch the law returns true and leaves what it was given as it was. No condition. -/
import Derived.Test.YtfijaafkagcmmaaC1J
import Derived.Test.YtfijaafkagcmmaaP3J
import Derived.Test.YtfijaafkagcmmaaN3
import Derived.Test.YtfijaafkagcmmaaJ6J
import Derived.BigRegion
import Derived.BigQuiet
namespace Go.Proofs.Ytfijaafkagcmmaa
open Go.RowKit

/-- What the reference carries: the least, the greatest, and whether there is none. -/
structure LSt where
  lo : Int
  hi : Int
  nv : Bool
def lst (s : LSt) (n : Int) : LSt := if n < 0 then ⟨s.lo, s.hi, true⟩ else ⟨if s.lo < 0 ∨ n < s.lo then n else s.lo, max s.hi n, s.nv⟩
def lfold (ns : List Int) : LSt := ns.foldl lst ⟨-1, -1, false⟩
theorem lfold_snoc (ns : List Int) (n : Int) : lfold (ns ++ [n]) = lst (lfold ns) n := by simp [lfold]
structure LInv (ns : List Int) (s : LSt) : Prop where
  lo : (s.lo = -1 ∧ ∀ n, n ∈ ns → n < 0) ∨ (0 ≤ s.lo ∧ s.lo ∈ ns ∧ ∀ n, n ∈ ns → 0 ≤ n → s.lo ≤ n)
  hi : (s.hi = -1 ∧ ∀ n, n ∈ ns → n < 0) ∨ (0 ≤ s.hi ∧ s.hi ∈ ns ∧ ∀ n, n ∈ ns → n ≤ s.hi)
  nv : s.nv = true ↔ ∃ n, n ∈ ns ∧ n < 0
theorem LInv.snoc {ns : List Int} {s : LSt} (h : LInv ns s) (n : Int) : LInv (ns ++ [n]) (lst s n) := by
  unfold lst
  by_cases hn : n < 0
  · rw [if_pos hn]
    refine ⟨?_, ?_, ?_⟩
    · rcases h.lo with ⟨h1, h2⟩ | ⟨h1, h2, h3⟩
      · exact .inl ⟨h1, fun m hm => by rcases List.mem_append.1 hm with h | h; exact h2 m h; simp at h; omega⟩
      · exact .inr ⟨h1, List.mem_append_left _ h2, fun m hm h0 => by rcases List.mem_append.1 hm with h | h; exact h3 m h h0; simp at h; omega⟩
    · rcases h.hi with ⟨h1, h2⟩ | ⟨h1, h2, h3⟩
      · exact .inl ⟨h1, fun m hm => by rcases List.mem_append.1 hm with h | h; exact h2 m h; simp at h; omega⟩
      · exact .inr ⟨h1, List.mem_append_left _ h2, fun m hm => by rcases List.mem_append.1 hm with h | h; exact h3 m h; simp at h; simp only; omega⟩
    · simp only [true_iff]
      exact ⟨n, by simp, hn⟩
  · rw [if_neg hn]
    refine ⟨?_, ?_, ?_⟩
    · right
      rcases h.lo with ⟨h1, h2⟩ | ⟨h1, h2, h3⟩
      · simp only [h1]
        rw [if_pos (by omega)]
        exact ⟨by omega, by simp, fun m hm h0 => by rcases List.mem_append.1 hm with h | h; (have := h2 m h; omega); simp at h; omega⟩
      · by_cases hl : n < s.lo
        · dsimp only
          rw [if_pos (by omega)]
          exact ⟨by omega, by simp, fun m hm h0 => by rcases List.mem_append.1 hm with h | h; (have := h3 m h h0; omega); simp at h; omega⟩
        · dsimp only
          rw [if_neg (by omega)]
          exact ⟨h1, List.mem_append_left _ h2, fun m hm h0 => by rcases List.mem_append.1 hm with h | h; exact h3 m h h0; simp at h; omega⟩
    · right
      rcases h.hi with ⟨h1, h2⟩ | ⟨h1, h2, h3⟩
      · simp only [h1]
        refine ⟨by omega, ?_, fun m hm => by rcases List.mem_append.1 hm with h | h; (have := h2 m h; omega); simp at h; omega⟩
        rw [show max (-1) n = n by omega]; simp
      · refine ⟨by simp only; omega, ?_, fun m hm => by rcases List.mem_append.1 hm with h | h; (have := h3 m h; simp only; omega); simp at h; simp only; omega⟩
        simp only
        by_cases hl : s.hi ≤ n
        · rw [show max s.hi n = n by omega]; simp
        · rw [show max s.hi n = s.hi by omega]; exact List.mem_append_left _ h2
    · simp only [h.nv]
      constructor
      · rintro ⟨m, hm, h0⟩
        exact ⟨m, List.mem_append_left _ hm, h0⟩
      · rintro ⟨m, hm, h0⟩
        rcases List.mem_append.1 hm with h | h
        · exact ⟨m, h, h0⟩
        · simp at h; omega
theorem lfold_inv : ∀ (ns : List Int), LInv ns (lfold ns) := fun ns => by
  have key : ∀ (ms ls : List Int) (s : LSt), LInv ls s → LInv (ls ++ ms) (ms.foldl lst s) := by
    intro ms
    induction ms with
    | nil => intro ls s h; simpa using h
    | cons m ms ih =>
      intro ls s h
      have := ih (ls ++ [m]) (lst s m) (h.snoc m)
      simpa using this
  have := key ns [] ⟨-1, -1, false⟩ ⟨.inl ⟨rfl, fun n hn => by simp at hn⟩, .inl ⟨rfl, fun n hn => by simp at hn⟩, by simp⟩
  simpa [lfold] using this
/-- The life, as the reference has it, is the program's. -/
def lifeN (LL : List (List Int)) (b : Nat) (st : Int) : List Int := LL.map fun L => hoursP st (ld L b)
def lifeR (s : LSt) : Rg := ⟨s.lo, if s.nv = true then -1 else s.hi⟩
theorem hours_ge {st r : Int} (hs : 0 ≤ st) (hr : 0 ≤ r) : hoursP st r = -1 ∨ 0 ≤ hoursP st r := by
  rcases hours_facts hs hr with ⟨h, _⟩ | ⟨h, _⟩
  · exact .inl h
  · exact .inr h
theorem life_eq {LL : List (List Int)} (hne : LL ≠ []) (hR : ∀ x, x ∈ LL → Rates x) (b : Nat) {st : Int} (hs : 0 ≤ st) : lifeR (lfold (lifeN LL b st)) = lifeL LL b st := by
  have hI := lfold_inv (lifeN LL b st)
  generalize lfold (lifeN LL b st) = s at *
  obtain ⟨x, hx, e1⟩ := highR_mem hne (b : Int)
  obtain ⟨y, hy, e2⟩ := lowR_mem hne (b : Int)
  have el : ∀ L : List Int, rt L (b : Int) = ld L b := fun L => by rw [rt_ld]; simp
  rw [el] at e1 e2
  have hmx : hoursP st (highR LL b) ∈ lifeN LL b st := by rw [e1]; exact List.mem_map_of_mem (f := fun L => hoursP st (ld L b)) hx
  have hmy : hoursP st (lowR LL b) ∈ lifeN LL b st := by rw [e2]; exact List.mem_map_of_mem (f := fun L => hoursP st (ld L b)) hy
  have hall : ∀ n, n ∈ lifeN LL b st → ∃ r, n = hoursP st r ∧ 0 ≤ r ∧ lowR LL b ≤ r ∧ r ≤ highR LL b := fun n hn => by
    obtain ⟨L, hL, rfl⟩ := List.mem_map.1 hn
    have h1 := lowR_le hL (b : Int)
    have h2 := highR_le hL (b : Int)
    rw [el] at h1 h2
    have := (hR L hL (b : Int)).1
    rw [el] at this
    exact ⟨_, rfl, this, h1, h2⟩
  have hl0 := (lowR_nonneg hne hR (b : Int)).1
  have hlh := lowR_high hne (b : Int)
  have hh0 : 0 ≤ highR LL b := by omega
  unfold lifeR lifeL
  congr 1
  · rcases hI.lo with ⟨h1, h2⟩ | ⟨h1, h2, h3⟩
    · have := h2 _ hmx
      rcases hours_ge hs hh0 with h | h <;> omega
    · obtain ⟨r, e, r0, r1, r2⟩ := hall _ h2
      have hne1 : hoursP st r ≠ -1 := by omega
      have hm := hours_mono hs r0 r2 hne1
      have := h3 _ hmx hm.1
      omega
  · by_cases hv : s.nv = true
    · rw [if_pos hv]
      obtain ⟨n, hn, h0⟩ := hI.nv.1 hv
      obtain ⟨r, rfl, r0, r1, r2⟩ := hall n hn
      rcases hours_ge hs hl0 with h | h
      · exact h.symm
      · have hm := hours_mono hs hl0 r1 (by omega)
        omega
    · rw [if_neg hv]
      have hnn : ∀ n, n ∈ lifeN LL b st → 0 ≤ n := fun n hn => by
        apply Classical.byContradiction
        intro hc
        exact hv (hI.nv.2 ⟨n, hn, by omega⟩)
      rcases hI.hi with ⟨h1, h2⟩ | ⟨h1, h2, h3⟩
      · have := h2 _ hmy
        have := hnn _ hmy
        omega
      · have h4 := h3 _ hmy
        obtain ⟨r, e, r0, r1, r2⟩ := hall _ h2
        have hm := hours_mono hs hl0 r1 (by have := hnn _ hmy; omega)
        omega
theorem hours_ref {st r : Int} (hs : 0 < st) (hr : 0 < r) : (st + r - 1) / r = hoursP st r := by
  unfold hoursP
  rw [if_neg (by omega), if_neg (by omega), show st + r - 1 = st - 1 + 1 * r by omega, Int.add_mul_ediv_right _ _ (by omega)]
end Go.Proofs.Ytfijaafkagcmmaa
namespace Go.Proofs.Ytfijaafkagcmmaa
open Go.RowKit Go.Shelf
attribute [local irreducible] arrV wpQuiet

set_option maxRecDepth 100000 in
set_option maxHeartbeats 1000000 in
theorem Hours_any (r st : Int) (w : World) (hr : 0 ≤ r ∧ r ≤ 1000) (hs : 0 ≤ st ∧ st ≤ 10000000000) :
    Calls Try.prog 50 #[.int .i64 r, .int .i64 st] w fun e w' => e = .returned (.int .i64 (hoursP st r)) ∧ Below w.heap.size w w' := by
  by_cases h0 : st = 0
  · subst h0
    have e : Hid (hoursP 0 r = 0) := Lib.hid rfl
    rw [e.out]
    clear hr hs
    go_enter Try.func50, Try.ntmps50
    go_wp2
    go_ret
    exact ⟨rfl, Below.refl _ _⟩
  · have z1 : (st == 0) = false := by rw [beq_eq_false_iff_ne]; exact h0
    by_cases h1 : r = 0
    · subst h1
      have e : Hid (hoursP st 0 = -1) := Lib.hid (by unfold hoursP; rw [if_neg h0, if_pos rfl])
      rw [e.out]
      clear hr hs
      go_enter Try.func50, Try.ntmps50
      go_wp2
      go_ret
      exact ⟨rfl, Below.refl _ _⟩
    · have z2 : (r == 0) = false := by rw [beq_eq_false_iff_ne]; exact h1
      have e1 : IntKind.i64.wrap (st + r) = st + r := IntWalk.i64_in _ (by omega)
      have e2 : IntKind.i64.wrap (st + r - 1) = st + r - 1 := IntWalk.i64_in _ (by omega)
      have e3 : (st + r - 1).tdiv r = hoursP st r := by
        rw [Int.tdiv_eq_ediv_of_nonneg (by omega)]
        exact hours_ref (by omega) (by omega)
      have e4 : IntKind.i64.wrap (hoursP st r) = hoursP st r := IntWalk.i64_in _ (by
        rcases hours_ge hs.1 hr.1 with h | h
        · omega
        · have h9 : hoursP st r ≤ 10000000000 := by
            rcases hours_facts hs.1 hr.1 with ⟨a, _⟩ | ⟨a1, a2, a3⟩
            · omega
            · rcases Nat.eq_zero_or_pos (hoursP st r).toNat with z | z
              · omega
              · have := a3 (by omega)
                have h7 : 1 * (hoursP st r - 1) ≤ r * (hoursP st r - 1) := Int.mul_le_mul_of_nonneg_right (by omega) (by omega)
                omega
          omega)
      clear hr hs
      go_enter Try.func50, Try.ntmps50
      go_wp2
      go_ret
      exact ⟨rfl, Below.refl _ _⟩

theorem life_take {LL : List (List Int)} {b j : Nat} {st : Int} {L : List Int} (h : LL[j]? = some L) : lfold ((lifeN LL b st).take (j + 1)) = lst (lfold ((lifeN LL b st).take j)) (hoursP st (ld L b)) := by
  rw [List.take_add_one, ← lfold_snoc]
  congr 2
  simp [lifeN, h]

set_option maxRecDepth 100000 in
set_option maxHeartbeats 4000000 in
theorem Life38_any (m b : Nat) (sa : Option Addr) (cap : Nat) (LL : List (List Int)) (st : Int) (w : World) (HL : ListsV 0 w (.slice sa LL.length cap) LL) (hm : ∀ (k : Nat) (L : List Int), LL[k]? = some L → L.length = m) (hb : b < m) (hm3 : m ≤ 3) (hR : ∀ x, x ∈ LL → Rates x) (hne : LL ≠ []) (hN : LL.length ≤ 9261) (hs : 0 ≤ st ∧ st ≤ 10000000000) :
    Calls Try.prog 38 #[.slice sa LL.length cap, .int .i64 b, .int .i64 st] w fun e w' => e = .returned (.agg #[.int .i64 (lifeL LL b st).lo, .int .i64 (lifeL LL b st).hi]) ∧ Below w.heap.size w w' := by
  rw [← life_eq hne hR b hs.1]
  have hpos := List.length_pos_iff.2 hne
  obtain ⟨L0, hL0⟩ : ∃ L, LL[0]? = some L := ⟨_, List.getElem?_eq_getElem hpos⟩
  have hl0 := hm 0 L0 hL0
  obtain ⟨g0, h0, uc0, rfl, -, -⟩ := lists_cell HL hL0 (by omega)
  have HCL : Hid (∀ w', Below w.heap.size w w' → ∀ i, i < LL.length → ∃ L h uc, LL[i]? = some L ∧ w'.cell? ⟨g0, i, none⟩ = some (.slice (some ⟨h, 0, none⟩) m uc) ∧ w'.cell? ⟨h, b, none⟩ = some (.int .i64 (ld L b)) ∧ (0 ≤ ld L b ∧ ld L b ≤ 1000)) := Lib.hid fun w' hw i hi => by
    have hLi := List.getElem?_eq_getElem hi
    have hli := hm i _ hLi
    obtain ⟨g', h', uc', e, a1, a2⟩ := lists_cell (HL.below hw) hLi (by omega)
    cases e
    rw [hli] at a1 a2
    have h9 := hR _ (List.mem_of_getElem? hLi) (b : Int)
    rw [rt_ld] at h9
    exact ⟨_, h', uc', hLi, a1, a2 b hb, by simpa using h9⟩
  have HNS : Hid ((lifeN LL b st).take LL.length = lifeN LL b st) := Lib.hid (List.take_of_length_le (by simp [lifeN]))
  have HTK := Lib.hid fun (j : Nat) (L : List Int) (h : LL[j]? = some L) => life_take (b := b) (st := st) h
  generalize lifeN LL b st = NS at *
  obtain ⟨x6, x7⟩ := box2 w (.cells #[.int .i64 0, .int .i64 0] 60) (.cells #[.int .i64 (-1), .int .i64 (-1)] 60)
  have hbb := below2 w (.cells #[.int .i64 0, .int .i64 0] 60) (.cells #[.int .i64 (-1), .int .i64 (-1)] 60)
  have X6 := Lib.hid x6
  have X7 := Lib.hid x7
  have HBB := Lib.hid hbb
  have HSS := Lib.hid hs
  have hbi : (b : Int) < m := by omega
  have hz9 : LL.length ≤ 9261 := hN
  clear x6 x7 hbb HL hm hR hne hL0 hl0 hpos hs
  go_enter Try.func38, Try.ntmps38
  go_wp2
  generalize World.alloc (World.alloc w _) _ = W at *
  go_loopw [8, 9] (fun nv i wr => ∃ (j : Nat), j ≤ LL.length ∧ i = .int .i64 j ∧ nv = .bool (lfold (NS.take j)).nv ∧ Hid (wr.heap[w.heap.size + 1]? = some (.cells #[.int .i64 (lfold (NS.take j)).lo, .int .i64 (lfold (NS.take j)).hi] 60 (0, 0))) ∧ Hid (wr.heap[w.heap.size]? = some (.cells #[.int .i64 0, .int .i64 0] 60 (0, 0))) ∧ Hid (Below w.heap.size w wr)) (fun _ i _ => LL.length - (intOf i).toNat)
  case atStart => exact ⟨0, Nat.zero_le _, rfl, rfl, X7, X6, HBB⟩
  case round =>
    obtain ⟨j, hj, rfl, rfl, Y7, Y6, HBj⟩ := hrel
    clear X6 X7 HBB
    by_cases hjl : j < LL.length
    · have hjn : (j : Int) < LL.length := by omega
      have hwj : IntKind.i64.wrap ((j : Int) + 1) = (j : Int) + 1 := IntWalk.i64_in _ (by omega)
      obtain ⟨L, hh, uch, hL, d0, d1, hr0⟩ := HCL.out wr HBj.out j hjl
      have HST := Lib.hid (HTK.out j L hL)
      have hhc := Hours_any (ld L b) st wr hr0 HSS.out
      have HGE := Lib.hid (hours_ge HSS.out.1 hr0.1)
      have l0 := block_lt_of_cell d0
      have l1 := block_lt_of_cell d1
      clear hL hr0
      generalize hoursP st (ld L b) = n at *
      go_wp2_with fail
      refine hhc.mono ?_
      rintro e w1 ⟨rfl, hb1⟩
      replace Y7 := Lib.hid ((hb1.block _ (lt_of_block Y7.out)).trans Y7.out)
      replace Y6 := Lib.hid ((hb1.block _ (lt_of_block Y6.out)).trans Y6.out)
      replace HBj := Lib.hid (below_to HBj.out hb1)
      clear hhc hb1 d0 d1 l0 l1
      generalize lfold (NS.take j) = s at *
      by_cases hn : n < 0
      · have e1 : Hid (lst s n = ⟨s.lo, s.hi, true⟩) := Lib.hid (if_pos hn)
        have hn' : decide (n < 0) = true := decide_eq_true hn
        go_wp2
        go_roundw
        case rel =>
          refine ⟨j + 1, by omega, by simp, ?_, ?_, Y6, HBj⟩
          · rw [HST.out, e1.out]
          · rw [HST.out, e1.out]; exact Y7
        case measure => simp [intOf]; omega
      · have hn' : decide (n < 0) = false := decide_eq_false hn
        have f0 := frozen_of_row w1 (w.heap.size + 1) 0 _ _ Y7.out
        have f1 := frozen_of_row w1 (w.heap.size + 1) 1 _ _ Y7.out
        have k0 := cell_of_row w1 (w.heap.size + 1) 0 _ _ _ Y7.out
        have k1 := cell_of_row w1 (w.heap.size + 1) 1 _ _ _ Y7.out
        simp only [List.getElem?_toArray, List.getElem?_cons_zero, List.getElem?_cons_succ] at k0 k1
        have lx := lt_of_block Y7.out
        by_cases hc : s.lo < 0 ∨ n < s.lo
        · have e1 : Hid (lst s n = ⟨n, max s.hi n, s.nv⟩) := Lib.hid (by unfold lst; rw [if_neg hn, if_pos hc])
          have hz := put2 w1 (w.heap.size + 1) _ _ (.int .i64 n) (.int .i64 (max s.hi n)) _ Y7.out
          have hy := put2_other w1 (w.heap.size + 1) w.heap.size (.int .i64 n) (.int .i64 (max s.hi n)) (by omega)
          have hbz := put2_below (b := w.heap.size + 1) (.int .i64 n) (.int .i64 (max s.hi n)) HBj.out (by omega)
          have HZ := Lib.hid hz
          have HY := Lib.hid (hy.trans Y6.out)
          have HZB := Lib.hid hbz
          clear hz hy hbz
          by_cases hq : s.lo < 0
          · have hq' : decide (s.lo < 0) = true := decide_eq_true hq
            clear hc
            go_wp2
            go_roundw
            case rel =>
              refine ⟨j + 1, by omega, by simp, ?_, ?_, HY, HZB⟩
              · rw [HST.out, e1.out]
              · rw [HST.out, e1.out]; exact HZ
            case measure => simp [intOf]; omega
          · have hq' : decide (s.lo < 0) = false := decide_eq_false hq
            have hq2 : n < s.lo := by omega
            have hq3 : decide (n < s.lo) = true := decide_eq_true hq2
            clear hc
            go_wp2
            go_roundw
            case rel =>
              refine ⟨j + 1, by omega, by simp, ?_, ?_, HY, HZB⟩
              · rw [HST.out, e1.out]
              · rw [HST.out, e1.out]; exact HZ
            case measure => simp [intOf]; omega
        · have e1 : Hid (lst s n = ⟨s.lo, max s.hi n, s.nv⟩) := Lib.hid (by unfold lst; rw [if_neg hn, if_neg hc])
          have hz := heap_setCell_same w1 (w.heap.size + 1) 1 _ _ (.int .i64 (max s.hi n)) Y7.out
          have hy := heap_setCell_other w1 ⟨w.heap.size + 1, 1, none⟩ w.heap.size (.int .i64 (max s.hi n)) (by show w.heap.size ≠ w.heap.size + 1; omega)
          have hbz := HBj.out.setCell (p := ⟨w.heap.size + 1, 1, none⟩) (by show w.heap.size ≤ w.heap.size + 1; omega) (.int .i64 (max s.hi n))
          have HZ : Hid (_ = some (Obj.cells #[.int .i64 s.lo, .int .i64 (max s.hi n)] 60 (0, 0))) := Lib.hid hz
          have HY := Lib.hid (hy.trans Y6.out)
          have HZB := Lib.hid hbz
          have hq : ¬ s.lo < 0 := fun h => hc (.inl h)
          have hq2 : ¬ n < s.lo := fun h => hc (.inr h)
          have hq' : decide (s.lo < 0) = false := decide_eq_false hq
          have hq3 : decide (n < s.lo) = false := decide_eq_false hq2
          clear hz hy hbz hc
          go_wp2
          go_roundw
          case rel =>
            refine ⟨j + 1, by omega, by simp, ?_, ?_, HY, HZB⟩
            · rw [HST.out, e1.out]
            · rw [HST.out, e1.out]; exact HZ
          case measure => simp [intOf]; omega
    · obtain rfl : j = LL.length := by omega
      obtain ⟨s, HSs⟩ : ∃ s, Hid (lfold NS = s) := ⟨_, Lib.hid rfl⟩
      rw [HNS.out, HSs.out] at Y7 ⊢
      have fr0 := frozen_of_row wr (w.heap.size + 1) 1 _ _ Y7.out
      have k0 := cell_of_row wr (w.heap.size + 1) 0 _ _ _ Y7.out
      have k1 := cell_of_row wr (w.heap.size + 1) 1 _ _ _ Y7.out
      have d0 := cell_of_row wr w.heap.size 0 _ _ _ Y6.out
      have d1 := cell_of_row wr w.heap.size 1 _ _ _ Y6.out
      have f0 := frozen_of_row wr w.heap.size 0 _ _ Y6.out
      have f1 := frozen_of_row wr w.heap.size 1 _ _ Y6.out
      simp only [List.getElem?_toArray, List.getElem?_cons_zero, List.getElem?_cons_succ] at k0 k1 d0 d1
      have lx := lt_of_block Y7.out
      have ly := lt_of_block Y6.out
      clear HCL HTK HNS
      cases hv : s.nv with
      | false =>
        go_wp2
        refine bodyPost_ret (v := .agg #[.int .i64 (lifeR s).lo, .int .i64 (lifeR s).hi]) ?_ rfl ⟨by rw [HSs.out], put2_below _ _ HBj.out (by omega)⟩
        simp [results, Try.results38, go_sem, lifeR, *]
      | true =>
        have g0 := frozen_of_row (wr.setCell ⟨w.heap.size + 1, 1, none⟩ (.int .i64 (-1))) w.heap.size 0 _ _ ((heap_setCell_other wr ⟨w.heap.size + 1, 1, none⟩ w.heap.size (.int .i64 (-1)) (by show w.heap.size ≠ w.heap.size + 1; omega)).trans Y6.out)
        have g1 := frozen_of_row (wr.setCell ⟨w.heap.size + 1, 1, none⟩ (.int .i64 (-1))) w.heap.size 1 _ _ ((heap_setCell_other wr ⟨w.heap.size + 1, 1, none⟩ w.heap.size (.int .i64 (-1)) (by show w.heap.size ≠ w.heap.size + 1; omega)).trans Y6.out)
        have hB9 := HBj.out.setCell (p := ⟨w.heap.size + 1, 1, none⟩) (by show w.heap.size ≤ w.heap.size + 1; omega) (.int .i64 (-1))
        have HB9 := Lib.hid hB9
        clear hB9
        go_wp2
        refine bodyPost_ret (v := .agg #[.int .i64 (lifeR s).lo, .int .i64 (lifeR s).hi]) ?_ rfl ⟨by rw [HSs.out], put2_below _ _ HB9.out (by omega)⟩
        simp [results, Try.results38, go_sem, lifeR, *]
end Go.Proofs.Ytfijaafkagcmmaa
namespace Go.Proofs.Ytfijaafkagcmmaa
open Go.RowKit Go.Shelf
attribute [local irreducible] arrV wpQuiet

theorem hours_in {al : List (List Int)} {X : List Int} {b st : Int} (h : al ≠ []) (hR : ∀ x, x ∈ al → Rates x) (hx : X ∈ al) (hs : 0 ≤ st) :
    (hoursP st (rt X b) < 0 → (lifeL al b st).hi = -1) ∧ (0 ≤ hoursP st (rt X b) → (lifeL al b st).lo ≠ -1 ∧ (lifeL al b st).lo ≤ hoursP st (rt X b) ∧ ((lifeL al b st).hi ≠ -1 → hoursP st (rt X b) ≤ (lifeL al b st).hi)) := by
  have h1 := lowR_le hx b
  have h2 := highR_le hx b
  have h3 := lowR_nonneg h hR b
  have h4 := hR X hx b
  refine ⟨fun hn => ?_, fun hn => ?_⟩
  · refine Classical.byContradiction fun hc => ?_
    have := hours_mono hs h3.1 h1 hc
    omega
  · have h5 := hours_mono hs (show 0 ≤ rt X b by omega) h2 (by omega)
    refine ⟨?_, h5.2, fun hc => (hours_mono hs h3.1 h1 hc).2⟩
    show hoursP st (highR al b) ≠ -1
    omega

set_option maxRecDepth 100000 in
set_option maxHeartbeats 8000000 in
theorem truth_walk (mv rv pv wv : Value) (ms : List Rg) (rs : List Rn) (ss : List Sg) (st : Int) (w : World) (hst : 0 ≤ st ∧ st < 4294967296) (hV : RgsV w.heap.size w mv ms) (hR : RunsV w.heap.size w rv rs) (hP : SegsV w.heap.size w pv ss) (hW : WordsV w.heap.size w wv) :
    Calls Try.prog 9 #[.agg #[mv], rv, pv, wv, .int .u32 st] w fun e w' => e = .returned (.bool true) ∧ Below w.heap.size w w' := by
  have HR := Lib.hid fun w' (h : Below w.heap.size w w') => ready_any w.heap.size mv rv pv ms rs ss w' (hV.same (.below (Nat.le_refl _) h)) (hR.same (.below (Nat.le_refl _) h)) (hP.same (.below (Nat.le_refl _) h)) h.size
  have HMA0 := Lib.hid fun (hl : ms.length ≤ 1000) w' (h : Below w.heap.size w w') => Material_any w.heap.size mv ms w' hl (hV.same (.below (Nat.le_refl _) h)) h.size
  have HPA0 := Lib.hid fun (hl : ss.length ≤ 1000) w' (h : Below w.heap.size w w') => Plan_any w.heap.size pv ss w' hl (hP.same (.below (Nat.le_refl _) h)) h.size
  have HTR := Lib.hid fun hm w' (h : Below w.heap.size w w') => Truly_any w.heap.size mv wv ms w' hm (hV.same (.below (Nat.le_refl _) h)) (hW.same (.below (Nat.le_refl _) h)) h.size
  have HMD := Lib.hid fun w' (h : Below w.heap.size w w') xv X hK hx (hX : IntsV w'.heap.size w' xv X) => Made_any w.heap.size w'.heap.size rv xv wv ms rs X w' hK hx (hR.same (.below (Nat.le_refl _) h)) hX (hW.same (.below (Nat.le_refl _) h)) h.size (Nat.le_refl _)
  have HWD := Lib.hid fun A (hA : A ≤ 1000) w' (h : Below w.heap.size w w') => word_any w.heap.size wv A w' hA (hW.same (.below (Nat.le_refl _) h)) h.size
  obtain ⟨am, capm, rfl, -⟩ := hV
  obtain ⟨ap, capp, rfl, hpp⟩ := hP
  have HPP := Lib.hid hpp
  have HX := Lib.hid (heap_alloc_new w (.cells #[.slice am ms.length capm] 24))
  have HB := Lib.hid (box_below w (.cells #[.slice am ms.length capm] 24))
  have HA := Lib.hid awake_any
  have HST := Lib.hid hst
  have HWST : Hid (IntKind.i64.wrap st = st) := Lib.hid (IntWalk.i64_in _ (by omega))
  clear hR hW hpp hst
  go_enter Try.func9, Try.ntmps9
  go_wp2_with fail
  refine (HR.out _ HB.out).mono ?_
  rintro e u0 ⟨rfl, hb⟩
  have HXA := Lib.hid ((hb.block _ (lt_of_block HX.out)).trans HX.out)
  have HBA := Lib.hid (below_to HB.out hb)
  clear hb HX HB HR
  cases hz : readyB ms rs ss with
  | false =>
    go_wp2_with fail
    refine (HA.out u0).mono ?_
    rintro e u1 ⟨rfl, hb⟩
    have HBF := Lib.hid (below_to HBA.out hb)
    clear hb
    go_wp2
    go_ret
    exact ⟨rfl, HBF.out⟩
  | true =>
    have HK := Lib.hid (readyB_ok hz).1
    have HPO := Lib.hid (readyB_ok hz).2
    have hml := HK.out.mat.len
    have hmo := HK.out.mat.one
    have hsl := HPO.out.len
    have HMA := Lib.hid (HMA0.out (by omega))
    have HPA := Lib.hid (HPA0.out (by omega))
    clear hz HMA0 HPA0
    have c0 := cell_of_row u0 w.heap.size 0 _ _ _ HXA.out
    simp only [List.getElem?_toArray, List.getElem?_cons_zero] at c0
    have l0 := lt_of_block HXA.out
    go_wp2_with fail
    refine (HTR.out HK.out.mat u0 HBA.out).mono ?_
    rintro e u1 ⟨⟨v11, X, rfl, hi11, hmem⟩, hb⟩
    replace HXA := Lib.hid ((hb.block _ (lt_of_block HXA.out)).trans HXA.out)
    replace HBA := Lib.hid (below_to HBA.out hb)
    clear hb
    have HI11 := Lib.hid hi11
    have HMEM := Lib.hid hmem
    have HXL := Lib.hid (len_of hmem)
    clear c0 l0 hi11 hmem HTR
    go_wp2_with fail
    refine (HMD.out u1 HBA.out v11 X HK.out HMEM.out HI11.out).mono ?_
    rintro e u2 ⟨⟨v12, rs2, rfl, hr12, hk2, hall⟩, hb⟩
    replace HXA := Lib.hid ((hb.block _ (lt_of_block HXA.out)).trans HXA.out)
    replace HBA := Lib.hid (below_to HBA.out hb)
    replace HI11 := Lib.hid ((HI11.out.same (.below (Nat.le_refl _) hb)).up hb.size)
    clear hb
    have HR12 := Lib.hid hr12
    have HK2 := Lib.hid hk2
    have HAL := Lib.hid hall
    clear hr12 hk2 hall HMD
    have HOK : Hid (X ∈ okL ms rs2) := Lib.hid (mem_okL.2 ⟨HMEM.out, HAL.out⟩)
    have HNE : Hid (okL ms rs2 ≠ []) := Lib.hid (List.ne_nil_of_mem HOK.out)
    have c0 := cell_of_row u2 w.heap.size 0 _ _ _ HXA.out
    simp only [List.getElem?_toArray, List.getElem?_cons_zero] at c0
    have l0 := lt_of_block HXA.out
    go_wp2_with fail
    refine (HMA.out u2 HBA.out).mono ?_
    rintro e u3 ⟨⟨m6, rfl, hm6⟩, hb⟩
    replace HXA := Lib.hid ((hb.block _ (lt_of_block HXA.out)).trans HXA.out)
    replace HBA := Lib.hid (below_to HBA.out hb)
    replace HI11 := Lib.hid ((HI11.out.same (.below (Nat.le_refl _) hb)).up hb.size)
    replace HR12 := Lib.hid ((HR12.out.same (.below (Nat.le_refl _) hb)).up hb.size)
    clear hb
    have HM6 := Lib.hid hm6
    clear hm6 c0 l0
    go_wp2_with fail
    have hru := Runs_any u3.heap.size _ rs2 u3 (by have := HK2.out.len; omega) (fun r hr => by have := (HK2.out.rn r hr).len; omega) HR12.out (Nat.le_refl _)
    refine (hru).mono ?_
    rintro e u4 ⟨⟨r7, rfl, hr7⟩, hb⟩
    replace HXA := Lib.hid ((hb.block _ (lt_of_block HXA.out)).trans HXA.out)
    replace HBA := Lib.hid (below_to HBA.out hb)
    replace HI11 := Lib.hid ((HI11.out.same (.below (Nat.le_refl _) hb)).up hb.size)
    replace HR12 := Lib.hid ((HR12.out.same (.below (Nat.le_refl _) hb)).up hb.size)
    replace HM6 := Lib.hid ((HM6.out.same (.below (Nat.le_refl _) hb)).up hb.size)
    clear hb
    have HV7 : Hid (RoomV u4.heap.size u4 m6 r7 ms rs2) := Lib.hid ⟨Nat.le_refl _, HM6.out, hr7⟩
    clear hr7 hru HM6
    go_wp2_with fail
    refine (list_all u4.heap.size v11 X u4 (by have := HXL.out; omega) HI11.out).mono ?_
    rintro e u5 ⟨⟨v8, rfl, hv8⟩, hb⟩
    replace HXA := Lib.hid ((hb.block _ (lt_of_block HXA.out)).trans HXA.out)
    replace HBA := Lib.hid (below_to HBA.out hb)
    replace HI11 := Lib.hid ((HI11.out.same (.below (Nat.le_refl _) hb)).up hb.size)
    replace HR12 := Lib.hid ((HR12.out.same (.below (Nat.le_refl _) hb)).up hb.size)
    replace HV7 : Hid (RoomV _ _ _ _ _ _) := Lib.hid ⟨Nat.le_refl _, (HV7.out.below hb).m.up hb.size, (HV7.out.below hb).r.up hb.size⟩
    clear hb
    have HI8 := Lib.hid hv8
    clear hv8
    go_wp2_with fail
    have hal := Allows_ok u5.heap.size m6 r7 v8 ms rs2 X u5 HK2.out HMEM.out HV7.out HI8.out
    rw [HAL.out] at hal
    refine (hal).mono ?_
    rintro e u6 ⟨rfl, hb⟩
    replace HXA := Lib.hid ((hb.block _ (lt_of_block HXA.out)).trans HXA.out)
    replace HBA := Lib.hid (below_to HBA.out hb)
    replace HI11 := Lib.hid ((HI11.out.same (.below (Nat.le_refl _) hb)).up hb.size)
    replace HR12 := Lib.hid ((HR12.out.same (.below (Nat.le_refl _) hb)).up hb.size)
    replace HV7 : Hid (RoomV _ _ _ _ _ _) := Lib.hid ⟨Nat.le_refl _, (HV7.out.below hb).m.up hb.size, (HV7.out.below hb).r.up hb.size⟩
    replace HI8 := Lib.hid ((HI8.out.same (.below (Nat.le_refl _) hb)).up hb.size)
    clear hb
    clear hal
    clear HV7
    clear HI8
    have c0 := cell_of_row u6 w.heap.size 0 _ _ _ HXA.out
    simp only [List.getElem?_toArray, List.getElem?_cons_zero] at c0
    have l0 := lt_of_block HXA.out
    go_wp2_with fail
    refine (HMA.out u6 HBA.out).mono ?_
    rintro e u7 ⟨⟨m6, rfl, hm6⟩, hb⟩
    replace HXA := Lib.hid ((hb.block _ (lt_of_block HXA.out)).trans HXA.out)
    replace HBA := Lib.hid (below_to HBA.out hb)
    replace HI11 := Lib.hid ((HI11.out.same (.below (Nat.le_refl _) hb)).up hb.size)
    replace HR12 := Lib.hid ((HR12.out.same (.below (Nat.le_refl _) hb)).up hb.size)
    clear hb
    have HM6 := Lib.hid hm6
    clear hm6 c0 l0
    go_wp2_with fail
    have hru := Runs_any u7.heap.size _ rs2 u7 (by have := HK2.out.len; omega) (fun r hr => by have := (HK2.out.rn r hr).len; omega) HR12.out (Nat.le_refl _)
    refine (hru).mono ?_
    rintro e u8 ⟨⟨r7, rfl, hr7⟩, hb⟩
    replace HXA := Lib.hid ((hb.block _ (lt_of_block HXA.out)).trans HXA.out)
    replace HBA := Lib.hid (below_to HBA.out hb)
    replace HI11 := Lib.hid ((HI11.out.same (.below (Nat.le_refl _) hb)).up hb.size)
    replace HR12 := Lib.hid ((HR12.out.same (.below (Nat.le_refl _) hb)).up hb.size)
    replace HM6 := Lib.hid ((HM6.out.same (.below (Nat.le_refl _) hb)).up hb.size)
    clear hb
    have HV7 : Hid (RoomV u8.heap.size u8 m6 r7 ms rs2) := Lib.hid ⟨Nat.le_refl _, HM6.out, hr7⟩
    clear hr7 hru HM6
    go_wp2_with fail
    refine (Rates_ok u8.heap.size m6 r7 ms rs2 u8 HK2.out HV7.out HNE.out).mono ?_
    rintro e u9 ⟨⟨v15, rfl, hv15⟩, hb⟩
    replace HXA := Lib.hid ((hb.block _ (lt_of_block HXA.out)).trans HXA.out)
    replace HBA := Lib.hid (below_to HBA.out hb)
    replace HI11 := Lib.hid ((HI11.out.same (.below (Nat.le_refl _) hb)).up hb.size)
    replace HR12 := Lib.hid ((HR12.out.same (.below (Nat.le_refl _) hb)).up hb.size)
    replace HV7 : Hid (RoomV _ _ _ _ _ _) := Lib.hid ⟨Nat.le_refl _, (HV7.out.below hb).m.up hb.size, (HV7.out.below hb).r.up hb.size⟩
    clear hb
    have HRA := Lib.hid (own_rgs hv15)
    clear hv15
    clear HV7
    obtain ⟨nl, hnl⟩ : ∃ nl, (okL ms rs2).length = nl := ⟨_, rfl⟩
    have hnl1 : ¬ (nl : Int) < 1 := by have := List.length_pos_iff.2 HNE.out; omega
    rw [hnl]
    clear hnl
    have c0 := cell_of_row u9 w.heap.size 0 _ _ _ HXA.out
    simp only [List.getElem?_toArray, List.getElem?_cons_zero] at c0
    have l0 := lt_of_block HXA.out
    go_wp2_with fail
    refine (HMA.out u9 HBA.out).mono ?_
    rintro e u10 ⟨⟨m6, rfl, hm6⟩, hb⟩
    replace HXA := Lib.hid ((hb.block _ (lt_of_block HXA.out)).trans HXA.out)
    replace HBA := Lib.hid (below_to HBA.out hb)
    replace HI11 := Lib.hid ((HI11.out.same (.below (Nat.le_refl _) hb)).up hb.size)
    replace HR12 := Lib.hid ((HR12.out.same (.below (Nat.le_refl _) hb)).up hb.size)
    replace HRA := Lib.hid ((HRA.out.same (.below (Nat.le_refl _) hb)).up hb.size)
    clear hb
    have HM6 := Lib.hid hm6
    clear hm6 c0 l0
    go_wp2_with fail
    have hru := Runs_any u10.heap.size _ rs2 u10 (by have := HK2.out.len; omega) (fun r hr => by have := (HK2.out.rn r hr).len; omega) HR12.out (Nat.le_refl _)
    refine (hru).mono ?_
    rintro e u11 ⟨⟨r7, rfl, hr7⟩, hb⟩
    replace HXA := Lib.hid ((hb.block _ (lt_of_block HXA.out)).trans HXA.out)
    replace HBA := Lib.hid (below_to HBA.out hb)
    replace HI11 := Lib.hid ((HI11.out.same (.below (Nat.le_refl _) hb)).up hb.size)
    replace HR12 := Lib.hid ((HR12.out.same (.below (Nat.le_refl _) hb)).up hb.size)
    replace HRA := Lib.hid ((HRA.out.same (.below (Nat.le_refl _) hb)).up hb.size)
    replace HM6 := Lib.hid ((HM6.out.same (.below (Nat.le_refl _) hb)).up hb.size)
    clear hb
    have HV7 : Hid (RoomV u11.heap.size u11 m6 r7 ms rs2) := Lib.hid ⟨Nat.le_refl _, HM6.out, hr7⟩
    clear hr7 hru HM6
    go_wp2_with fail
    refine (HPA.out u11 HBA.out).mono ?_
    rintro e u12 ⟨⟨p8, rfl, hp8⟩, hb⟩
    replace HXA := Lib.hid ((hb.block _ (lt_of_block HXA.out)).trans HXA.out)
    replace HBA := Lib.hid (below_to HBA.out hb)
    replace HI11 := Lib.hid ((HI11.out.same (.below (Nat.le_refl _) hb)).up hb.size)
    replace HR12 := Lib.hid ((HR12.out.same (.below (Nat.le_refl _) hb)).up hb.size)
    replace HRA := Lib.hid ((HRA.out.same (.below (Nat.le_refl _) hb)).up hb.size)
    replace HV7 : Hid (RoomV _ _ _ _ _ _) := Lib.hid ⟨Nat.le_refl _, (HV7.out.below hb).m.up hb.size, (HV7.out.below hb).r.up hb.size⟩
    clear hb
    have HS8 := Lib.hid (own_segs (l := ss) hp8)
    clear hp8
    go_wp2_with fail
    obtain ⟨x0, E0L⟩ : ∃ x, Hid ((stretchL (okL ms rs2) ss).lo = x) := ⟨_, Lib.hid rfl⟩
    obtain ⟨y0, E0H⟩ : ∃ x, Hid ((stretchL (okL ms rs2) ss).hi = x) := ⟨_, Lib.hid rfl⟩
    have hst := Stretch_ok u12.heap.size m6 r7 p8 ms rs2 ss u12 HK2.out HV7.out HPO.out HS8.out HNE.out
    rw [E0L.out, E0H.out] at hst
    refine (hst).mono ?_
    rintro e u13 ⟨rfl, hb⟩
    replace HXA := Lib.hid ((hb.block _ (lt_of_block HXA.out)).trans HXA.out)
    replace HBA := Lib.hid (below_to HBA.out hb)
    replace HI11 := Lib.hid ((HI11.out.same (.below (Nat.le_refl _) hb)).up hb.size)
    replace HR12 := Lib.hid ((HR12.out.same (.below (Nat.le_refl _) hb)).up hb.size)
    replace HRA := Lib.hid ((HRA.out.same (.below (Nat.le_refl _) hb)).up hb.size)
    replace HV7 : Hid (RoomV _ _ _ _ _ _) := Lib.hid ⟨Nat.le_refl _, (HV7.out.below hb).m.up hb.size, (HV7.out.below hb).r.up hb.size⟩
    replace HS8 := Lib.hid ((HS8.out.same (.below (Nat.le_refl _) hb)).up hb.size)
    clear hb
    clear hst
    clear HV7
    clear HS8
    have c0 := cell_of_row u13 w.heap.size 0 _ _ _ HXA.out
    simp only [List.getElem?_toArray, List.getElem?_cons_zero] at c0
    have l0 := lt_of_block HXA.out
    go_wp2_with fail
    have hbx := box_below u13 (.cells #[.int .i64 x0, .int .i64 y0] 50)
    have hnx := heap_alloc_new u13 (.cells #[.int .i64 x0, .int .i64 y0] 50)
    replace HXA := Lib.hid ((hbx.block _ (lt_of_block HXA.out)).trans HXA.out)
    replace HBA := Lib.hid (below_to HBA.out hbx)
    replace HI11 := Lib.hid ((HI11.out.same (.below (Nat.le_refl _) hbx)).up hbx.size)
    replace HR12 := Lib.hid ((HR12.out.same (.below (Nat.le_refl _) hbx)).up hbx.size)
    replace HRA := Lib.hid ((HRA.out.same (.below (Nat.le_refl _) hbx)).up hbx.size)
    have BX := Lib.hid hnx
    clear hbx hnx
    generalize World.alloc u13 _ = u14 at *
    generalize u13.heap.size = bx at *
    clear c0 l0
    have c0 := cell_of_row u14 w.heap.size 0 _ _ _ HXA.out
    simp only [List.getElem?_toArray, List.getElem?_cons_zero] at c0
    have l0 := lt_of_block HXA.out
    go_wp2_with fail
    refine (HMA.out u14 HBA.out).mono ?_
    rintro e u15 ⟨⟨m6, rfl, hm6⟩, hb⟩
    replace HXA := Lib.hid ((hb.block _ (lt_of_block HXA.out)).trans HXA.out)
    replace HBA := Lib.hid (below_to HBA.out hb)
    replace HI11 := Lib.hid ((HI11.out.same (.below (Nat.le_refl _) hb)).up hb.size)
    replace HR12 := Lib.hid ((HR12.out.same (.below (Nat.le_refl _) hb)).up hb.size)
    replace HRA := Lib.hid ((HRA.out.same (.below (Nat.le_refl _) hb)).up hb.size)
    replace BX := Lib.hid ((hb.block _ (lt_of_block BX.out)).trans BX.out)
    clear hb
    have HM6 := Lib.hid hm6
    clear hm6 c0 l0
    go_wp2_with fail
    have hru := Runs_any u15.heap.size _ rs2 u15 (by have := HK2.out.len; omega) (fun r hr => by have := (HK2.out.rn r hr).len; omega) HR12.out (Nat.le_refl _)
    refine (hru).mono ?_
    rintro e u16 ⟨⟨r7, rfl, hr7⟩, hb⟩
    replace HXA := Lib.hid ((hb.block _ (lt_of_block HXA.out)).trans HXA.out)
    replace HBA := Lib.hid (below_to HBA.out hb)
    replace HI11 := Lib.hid ((HI11.out.same (.below (Nat.le_refl _) hb)).up hb.size)
    replace HR12 := Lib.hid ((HR12.out.same (.below (Nat.le_refl _) hb)).up hb.size)
    replace HRA := Lib.hid ((HRA.out.same (.below (Nat.le_refl _) hb)).up hb.size)
    replace BX := Lib.hid ((hb.block _ (lt_of_block BX.out)).trans BX.out)
    replace HM6 := Lib.hid ((HM6.out.same (.below (Nat.le_refl _) hb)).up hb.size)
    clear hb
    have HV7 : Hid (RoomV u16.heap.size u16 m6 r7 ms rs2) := Lib.hid ⟨Nat.le_refl _, HM6.out, hr7⟩
    clear hr7 hru HM6
    go_wp2_with fail
    obtain ⟨s, hs, hdo⟩ := doubt_of HK2.out
    have hd0 : (listS s 6).length = 0 := by rcases hdo.zero with h | h; exact absurd h.1 HNE.out; exact h.2
    have hdc := Doubtful_ok u16.heap.size m6 r7 ms rs2 s u16 HK2.out HV7.out hs
    rw [List.eq_nil_of_length_eq_zero hd0] at hdc
    clear hd0 hs hdo s
    refine (hdc).mono ?_
    rintro e u17 ⟨⟨v20, rfl, hv20⟩, hb⟩
    replace HXA := Lib.hid ((hb.block _ (lt_of_block HXA.out)).trans HXA.out)
    replace HBA := Lib.hid (below_to HBA.out hb)
    replace HI11 := Lib.hid ((HI11.out.same (.below (Nat.le_refl _) hb)).up hb.size)
    replace HR12 := Lib.hid ((HR12.out.same (.below (Nat.le_refl _) hb)).up hb.size)
    replace HRA := Lib.hid ((HRA.out.same (.below (Nat.le_refl _) hb)).up hb.size)
    replace BX := Lib.hid ((hb.block _ (lt_of_block BX.out)).trans BX.out)
    replace HV7 : Hid (RoomV _ _ _ _ _ _) := Lib.hid ⟨Nat.le_refl _, (HV7.out.below hb).m.up hb.size, (HV7.out.below hb).r.up hb.size⟩
    clear hb
    clear hdc
    clear HV7
    obtain ⟨da, dcap, rfl, -⟩ := hv20
    obtain ⟨xa, xcap, hv11, hx1, hx2⟩ := HI11.out
    rw [HXL.out] at hv11 hx2
    subst hv11
    clear hx1 hx2
    have hrl : (rangesL (okL ms rs2) ms.length).length = ms.length := rangesL_len _ _
    obtain ⟨ra, rcap, hv15, hx2⟩ := HRA.out
    rw [hrl] at hv15
    subst hv15
    clear hrl hx2
    go_wp2_with fail
    go_loopw [22, 23] (fun s i wr => ∃ (k : Nat) (S : Int), k ≤ ss.length ∧ i = .int .i64 k ∧ s = .int .i64 S ∧ Hid (loS (ss.take k) X ≤ S ∧ S ≤ hiS (ss.take k) X ∧ 0 ≤ S ∧ S ≤ k * 1000000000) ∧ Hid (Below u17.heap.size u17 wr)) (fun _ i _ => ss.length - (intOf i).toNat)
    case atStart => exact ⟨0, 0, Nat.zero_le _, rfl, rfl, Lib.hid ⟨Int.le_refl _, Int.le_refl _, by decide, by decide⟩, Lib.hid (Below.refl _ _)⟩
    case round =>
      obtain ⟨k, S, hk, rfl, rfl, HS, HU⟩ := hrel
      by_cases hkl : k < ss.length
      · obtain ⟨b3, off3, rfl, hb3, hc3⟩ := HPP.out (by omega)
        have hsg := HPO.out.sg _ (sg_mem hkl)
        obtain ⟨HT1, HT2⟩ := lo_take (X := X) hkl
        have HT1 := Lib.hid HT1
        have HT2 := Lib.hid HT2
        obtain ⟨bb, hbb⟩ : ∃ bb : Nat, (sg ss k).b = (bb : Int) := ⟨(sg ss k).b.toNat, by have := hsg.b0; omega⟩
        have hbl : (bb : Int) < ms.length := by have := hsg.bn; omega
        obtain ⟨xa', xcap', hxe, -, hxp⟩ := HI11.out
        rw [HXL.out] at hxe hxp
        obtain ⟨xb, xoff, hxa, hxbn, hxc⟩ := hxp (by omega)
        have hxe' : xa = xa' := by injection hxe
        rw [← hxe'] at hxa
        subst hxa
        clear hxe hxe' hxp
        have hlt3 : b3 < w.heap.size := hb3
        obtain ⟨e0, e1, e2⟩ := hc3 k hkl
        have ex := hxc bb (by omega)
        rw [hbb] at e0
        have hxr := rates_of HMEM.out HK.out.mat.toRgsOk bb
        change 0 ≤ ld X bb ∧ ld X bb ≤ 1000 at hxr
        have hrt : rt X (sg ss k).b = ld X bb := by rw [hbb]; rfl
        rw [hrt] at HT1 HT2
        have hs1 := hsg.lo
        have hs2 := hsg.le
        have hs3 := hsg.hi
        generalize (sg ss k).h.lo = lo at *
        generalize (sg ss k).h.hi = hi at *
        generalize ld X bb = xx at *
        have HBW := Lib.hid (below_to HBA.out HU.out)
        have d1 := (HBW.out.cell (p := ⟨b3, off3 + k * 3 + 1, none⟩) hlt3).trans e1
        have d2 := (HBW.out.cell (p := ⟨b3, off3 + k * 3 + 2, none⟩) hlt3).trans e2
        have lsb : b3 < wr.heap.size := by have := HBW.out.size; omega
        have hkn : (k : Int) < ss.length := by omega
        have hwk : IntKind.i64.wrap ((k : Int) + 1) = (k : Int) + 1 := IntWalk.i64_in _ (by omega)
        obtain ⟨A, hA⟩ : ∃ A : Nat, (A : Int) = (k : Int) + 3 := ⟨k + 3, by omega⟩
        have hA1 : A ≤ 1000 := by omega
        have hwA : IntKind.i64.wrap ((k : Int) + 3) = (A : Int) := by rw [IntWalk.i64_in _ (by omega)]; exact hA.symm
        have hw1 : IntKind.i64.wrap (hi - lo) = hi - lo := IntWalk.i64_in _ (by omega)
        have hw2 : IntKind.i64.wrap (hi - lo + 1) = hi - lo + 1 := IntWalk.i64_in _ (by omega)
        have hd0 : (hi - lo + 1 == 0) = false := by rw [beq_eq_false_iff_ne]; omega
        have hd1 : hi - lo + 1 ≠ 0 := by omega
        have HBND := Lib.hid (And.intro hs1 (And.intro hs2 hs3))
        have HXR := Lib.hid hxr
        clear hs1 hs2 hs3 hxr hrt hc3 hxc hsg hA e1 e2
        go_wp2_with fail
        have hnx := heap_alloc_new wr (.cells #[.int .i64 lo, .int .i64 hi] 60)
        have hbx := box_below wr (.cells #[.int .i64 lo, .int .i64 hi] 60)
        have HU2 := Lib.hid (below_to HU.out hbx)
        have HBW2 := Lib.hid (below_to HBW.out hbx)
        have HNX := Lib.hid hnx
        clear hnx hbx HU HBW d1 d2 lsb
        generalize World.alloc wr _ = wb at *
        generalize wr.heap.size = bx2 at *
        have HC : Hid (∀ w', Below wb.heap.size wb w' → w'.cell? ⟨bx2, 0, none⟩ = some (.int .i64 lo) ∧ w'.cell? ⟨bx2, 1, none⟩ = some (.int .i64 hi) ∧ w'.cell? ⟨b3, off3 + k * 3, none⟩ = some (.int .i64 bb) ∧ w'.cell? ⟨xb, xoff + bb, none⟩ = some (.int .i64 xx)) := Lib.hid fun w' h => by
          have z := (h.block _ (lt_of_block HNX.out)).trans HNX.out
          have hb := below_to HBW2.out h
          have hu := below_to HU2.out h
          exact ⟨cell_of_row w' bx2 0 _ _ _ z, cell_of_row w' bx2 1 _ _ _ z, (hb.cell (p := ⟨b3, off3 + k * 3, none⟩) hlt3).trans e0, (hu.cell (p := ⟨xb, xoff + bb, none⟩) hxbn).trans ex⟩
        clear e0 ex
        refine wp_region_noPanic ?_
        refine wp_region_chain (fun w1 => Below wb.heap.size wb w1) (fun w1 w2 h hb => h.trans (hb.mono h.size)) (below_drawn _) (by kernel_rfl) (fun _ _ _ _ _ h => h)
          [(false, 0), (false, 1), (false, 2), (false, 3), (false, 4), (false, 5), (false, 6), (false, 7), (false, 8), (false, 9), (false, 10), (false, 11), (false, 12), (false, 13), (false, 15), (false, 16), (false, 17), (false, 18), (false, 19), (false, 20), (true, 14), (false, 21), (false, 22), (false, 23), (false, 24)] [25] (by kernel_rfl) ?_
        iterate 20
          (refine Walk.takes rfl rfl ?_; apply Exists.intro; refine ⟨fun w1 hS => ?_, ?_⟩; (obtain ⟨d0, d1, d2, d3⟩ := HC.out w1 hS; clear hS; go_simp; with_reducible rfl); simp only [List.getElem_toArray, List.getElem_cons_succ, List.getElem_cons_zero, Act.put, List.setIfInBounds_toArray, List.set_cons_zero, List.set_cons_succ])
        refine Walk.calls rfl rfl ?_; apply Exists.intro; apply Exists.intro; refine ⟨fun w2 hS => ?_, fun p1 hp1 => ?_⟩; (clear hS; go_simp; exact ⟨rfl, rfl⟩)
        have hq1 := grow_to (below_drawn wb) hp1
        refine (HWD.out A hA1 p1 (below_to HBW2.out hq1)).mono ?_
        rintro e p2 ⟨⟨y, rfl, hy0, hy1⟩, hb2⟩
        refine ⟨_, rfl, hb2, ?_⟩
        simp only [List.getElem_toArray, List.getElem_cons_succ, List.getElem_cons_zero, Act.put, List.setIfInBounds_toArray, List.set_cons_zero, List.set_cons_succ]
        obtain ⟨r, hr⟩ : ∃ r, y.tmod (hi - lo + 1) = r := ⟨_, rfl⟩
        have hrm : y % (hi - lo + 1) = r := by rw [← hr, Int.tmod_eq_emod_of_nonneg hy0]
        have hr0 : 0 ≤ r := by rw [← hrm]; exact Int.emod_nonneg _ hd1
        have hr1 : r ≤ hi - lo := by
          have := Int.emod_lt_of_pos y (show 0 < hi - lo + 1 by have := HBND.out; omega)
          omega
        obtain ⟨hh, hhe⟩ : ∃ hh, hh = lo + r := ⟨_, rfl⟩
        have hB := HBND.out
        obtain ⟨P1, P2, P3, P4⟩ := prod_bd HXR.out hB.1 (show lo ≤ hh by omega) (show hh ≤ hi by omega) hB.2.2
        have hwr : IntKind.i64.wrap (lo + r) = hh := by rw [IntWalk.i64_in _ (by omega)]; exact hhe.symm
        have hwr2 : IntKind.i64.wrap r = r := IntWalk.i64_in _ (by omega)
        have hS := HS.out
        have hwm : IntKind.i64.wrap (xx * hh) = xx * hh := IntWalk.i64_in _ (by omega)
        have hws : IntKind.i64.wrap (S + xx * hh) = S + xx * hh := IntWalk.i64_in _ (by omega)
        have HS2 : Hid (loS (ss.take (k + 1)) X ≤ S + xx * hh ∧ S + xx * hh ≤ hiS (ss.take (k + 1)) X ∧ 0 ≤ S + xx * hh ∧ S + xx * hh ≤ ((k + 1 : Nat) : Int) * 1000000000) := Lib.hid (by
          rw [HT1.out, HT2.out]
          refine ⟨by omega, by omega, by omega, ?_⟩
          rw [Int.natCast_add]
          omega)
        clear hB P1 P2 P3 P4 hhe hS hr0 hr1 hrm hy0 hy1
        iterate 4
          (refine Walk.takes rfl rfl ?_; apply Exists.intro; refine ⟨fun w1 hS => ?_, ?_⟩; (clear hS; go_simp; with_reducible rfl); simp only [List.getElem_toArray, List.getElem_cons_succ, List.getElem_cons_zero, Act.put, List.setIfInBounds_toArray, List.set_cons_zero, List.set_cons_succ])
        refine Walk.fin fun p9 hb9 hS9 => ?_
        refine Tail.value rfl rfl (by go_simp; with_reducible rfl) (Tail.done (NoPanic.normal ?_))
        simp only [List.getElem_toArray, List.getElem_cons_succ, List.getElem_cons_zero, Act.put, List.setIfInBounds_toArray, List.set_cons_zero, List.set_cons_succ]
        have HU9 := Lib.hid (below_to HU2.out hS9)
        clear hS9 hb9 hq1 hp1 hb2 HU2 HBW2 HNX HC hr hwr hwr2 hw1 hw2 hd0 hd1 hwm hws
        generalize S + xx * hh = S2 at *
        go_wp2
        go_roundw
        case rel => exact ⟨k + 1, S2, by omega, by simp, rfl, HS2, HU9⟩
        case measure => simp [intOf]; omega
      · obtain rfl : k = ss.length := by omega
        have hU := HU.out
        replace HXA := Lib.hid ((hU.block _ (lt_of_block HXA.out)).trans HXA.out)
        replace HBA := Lib.hid (below_to HBA.out hU)
        replace HI11 := Lib.hid ((HI11.out.same (.below (Nat.le_refl _) hU)).up hU.size)
        replace HR12 := Lib.hid ((HR12.out.same (.below (Nat.le_refl _) hU)).up hU.size)
        replace HRA := Lib.hid ((HRA.out.same (.below (Nat.le_refl _) hU)).up hU.size)
        replace BX := Lib.hid ((hU.block _ (lt_of_block BX.out)).trans BX.out)
        clear hU HU
        have hS := HS.out
        rw [List.take_length] at hS
        have hlo := stretch_lo_le (plan := ss) HOK.out
        have hhi := stretch_hi_le (plan := ss) HOK.out
        rw [E0L.out] at hlo
        rw [E0H.out] at hhi
        have hf1 : decide (S < x0) = false := decide_eq_false (by omega)
        have hf2 : decide (y0 < S) = false := decide_eq_false (by omega)
        clear hS hlo hhi HS
        generalize wr = v0 at *
        have z0 := cell_of_row v0 bx 0 _ _ _ BX.out
        have z1 := cell_of_row v0 bx 1 _ _ _ BX.out
        simp only [List.getElem?_toArray, List.getElem?_cons_zero, List.getElem?_cons_succ] at z0 z1
        have lz := lt_of_block BX.out
        go_wp2_with fail
        clear z0 z1 lz hf1 hf2
        clear BX
        go_loopw [25] (fun i wr => ∃ b : Nat, b ≤ ms.length ∧ i = .int .i64 b ∧ Hid (Below v0.heap.size v0 wr)) (fun i _ => ms.length - (intOf i).toNat)
        case atStart => exact ⟨0, Nat.zero_le _, rfl, Lib.hid (Below.refl _ _)⟩
        case round =>
          obtain ⟨b, hb0, rfl, HU⟩ := hrel
          have hU := HU.out
          replace HXA := Lib.hid ((hU.block _ (lt_of_block HXA.out)).trans HXA.out)
          replace HBA := Lib.hid (below_to HBA.out hU)
          replace HI11 := Lib.hid ((HI11.out.same (.below (Nat.le_refl _) hU)).up hU.size)
          replace HR12 := Lib.hid ((HR12.out.same (.below (Nat.le_refl _) hU)).up hU.size)
          replace HRA := Lib.hid ((HRA.out.same (.below (Nat.le_refl _) hU)).up hU.size)
          clear hU
          by_cases hbl : b < ms.length
          · have hbn : (b : Int) < ms.length := by omega
            generalize wr = q0 at *
            have HUU := HU
            clear HUU
            have hwb : IntKind.i64.wrap ((b : Int) + 1) = (b : Int) + 1 := IntWalk.i64_in _ (by omega)
            have c0 := cell_of_row q0 w.heap.size 0 _ _ _ HXA.out
            simp only [List.getElem?_toArray, List.getElem?_cons_zero] at c0
            have l0 := lt_of_block HXA.out
            go_wp2_with fail
            refine (HMA.out q0 HBA.out).mono ?_
            rintro e q1 ⟨⟨m6, rfl, hm6⟩, hb⟩
            replace HXA := Lib.hid ((hb.block _ (lt_of_block HXA.out)).trans HXA.out)
            replace HBA := Lib.hid (below_to HBA.out hb)
            replace HI11 := Lib.hid ((HI11.out.same (.below (Nat.le_refl _) hb)).up hb.size)
            replace HR12 := Lib.hid ((HR12.out.same (.below (Nat.le_refl _) hb)).up hb.size)
            replace HRA := Lib.hid ((HRA.out.same (.below (Nat.le_refl _) hb)).up hb.size)
            replace HU := Lib.hid (below_to HU.out hb)
            clear hb
            have HM6 := Lib.hid hm6
            clear hm6 c0 l0
            go_wp2_with fail
            have hwst := HWST.out
            have hru := Runs_any q1.heap.size _ rs2 q1 (by have := HK2.out.len; omega) (fun r hr => by have := (HK2.out.rn r hr).len; omega) HR12.out (Nat.le_refl _)
            refine (hru).mono ?_
            rintro e q2 ⟨⟨r7, rfl, hr7⟩, hb⟩
            replace HXA := Lib.hid ((hb.block _ (lt_of_block HXA.out)).trans HXA.out)
            replace HBA := Lib.hid (below_to HBA.out hb)
            replace HI11 := Lib.hid ((HI11.out.same (.below (Nat.le_refl _) hb)).up hb.size)
            replace HR12 := Lib.hid ((HR12.out.same (.below (Nat.le_refl _) hb)).up hb.size)
            replace HRA := Lib.hid ((HRA.out.same (.below (Nat.le_refl _) hb)).up hb.size)
            replace HU := Lib.hid (below_to HU.out hb)
            replace HM6 := Lib.hid ((HM6.out.same (.below (Nat.le_refl _) hb)).up hb.size)
            clear hb
            have HV7 : Hid (RoomV q2.heap.size q2 m6 r7 ms rs2) := Lib.hid ⟨Nat.le_refl _, HM6.out, hr7⟩
            clear hr7 hru HM6
            go_wp2_with fail
            obtain ⟨ylo, EL⟩ : ∃ x, Hid ((lifeL (okL ms rs2) b st).lo = x) := ⟨_, Lib.hid rfl⟩
            obtain ⟨yhi, EH⟩ : ∃ x, Hid ((lifeL (okL ms rs2) b st).hi = x) := ⟨_, Lib.hid rfl⟩
            have hli := Life_ok q2.heap.size m6 r7 ms rs2 b st q2 HK2.out HV7.out (by omega) (by have := HST.out; omega) HNE.out
            rw [EL.out, EH.out] at hli
            refine (hli).mono ?_
            rintro e q3 ⟨rfl, hb⟩
            replace HXA := Lib.hid ((hb.block _ (lt_of_block HXA.out)).trans HXA.out)
            replace HBA := Lib.hid (below_to HBA.out hb)
            replace HI11 := Lib.hid ((HI11.out.same (.below (Nat.le_refl _) hb)).up hb.size)
            replace HR12 := Lib.hid ((HR12.out.same (.below (Nat.le_refl _) hb)).up hb.size)
            replace HRA := Lib.hid ((HRA.out.same (.below (Nat.le_refl _) hb)).up hb.size)
            replace HU := Lib.hid (below_to HU.out hb)
            replace HV7 : Hid (RoomV _ _ _ _ _ _) := Lib.hid ⟨Nat.le_refl _, (HV7.out.below hb).m.up hb.size, (HV7.out.below hb).r.up hb.size⟩
            clear hb
            clear hli
            clear HV7
            go_wp2_with fail
            have hbx := box_below q3 (.cells #[.int .i64 ylo, .int .i64 yhi] 50)
            have hnx := heap_alloc_new q3 (.cells #[.int .i64 ylo, .int .i64 yhi] 50)
            replace HXA := Lib.hid ((hbx.block _ (lt_of_block HXA.out)).trans HXA.out)
            replace HBA := Lib.hid (below_to HBA.out hbx)
            replace HI11 := Lib.hid ((HI11.out.same (.below (Nat.le_refl _) hbx)).up hbx.size)
            replace HR12 := Lib.hid ((HR12.out.same (.below (Nat.le_refl _) hbx)).up hbx.size)
            replace HRA := Lib.hid ((HRA.out.same (.below (Nat.le_refl _) hbx)).up hbx.size)
            replace HU := Lib.hid (below_to HU.out hbx)
            have BY := Lib.hid hnx
            clear hbx hnx
            generalize World.alloc q3 _ = q4 at *
            generalize q3.heap.size = by_ at *
            obtain ⟨xa', xcap', hxe, -, hxp⟩ := HI11.out
            rw [HXL.out] at hxe hxp
            obtain ⟨xb, xoff, hxa, hxbn, hxc⟩ := hxp (by omega)
            have hxe' : xa = xa' := by injection hxe
            rw [← hxe'] at hxa
            subst hxa
            clear hxe hxe' hxp
            obtain ⟨ra', rcap', hre, hrp⟩ := HRA.out
            rw [rangesL_len] at hre hrp
            obtain ⟨rb, roff, hra, hrbn, hrc⟩ := hrp (by omega)
            have hre' : ra = ra' := by injection hre
            rw [← hre'] at hra
            subst hra
            clear hre hre' hrp
            have px := hxc b hbl
            obtain ⟨pr0, pr1⟩ := hrc b hbl
            rw [rangesL_rg hbl] at pr0 pr1
            simp only at pr0 pr1
            have hlo := lowR_le HOK.out (b : Int)
            have hhi := highR_le HOK.out (b : Int)
            have hrt : rt X (b : Int) = ld X b := rfl
            rw [hrt] at hlo hhi
            have HHI := Lib.hid (hours_in (b := (b : Int)) HNE.out (fun x hx => ok_rates HK2.out.mat hx) HOK.out HST.out.1)
            rw [hrt, EL.out, EH.out] at HHI
            have hxr := rates_of HMEM.out HK.out.mat.toRgsOk b
            change 0 ≤ ld X b ∧ ld X b ≤ 1000 at hxr
            have HXR := Lib.hid hxr
            generalize ld X b = xx at *
            generalize lowR (okL ms rs2) (b : Int) = rlo at *
            generalize highR (okL ms rs2) (b : Int) = rhi at *
            have hf1 : decide (xx < rlo) = false := decide_eq_false (by omega)
            have hf2 : decide (rhi < xx) = false := decide_eq_false (by omega)
            clear hlo hhi hrt hxr hxc hrc
            clear hb0
            have g1 := cell_regrown px
            have g2 := cell_regrown pr0
            have g3 := cell_regrown pr1
            refine wp_region_quiet_below (by kernel_rfl) (by kernel_rfl) ?_
            repeat (quiet_step (fail))
            refine wpQuiet_nil ?_
            intro q5 hw'
            obtain ⟨⟨dq, osq⟩, hw''⟩ := hw'
            have hb := below_regrown q4 dq osq
            rw [← hw''] at hb
            have px5 := (hb.cell (p := ⟨xb, xoff + b, none⟩) hxbn).trans px
            clear hw'' g1 g2 g3 px pr0 pr1
            replace HXA := Lib.hid ((hb.block _ (lt_of_block HXA.out)).trans HXA.out)
            replace HBA := Lib.hid (below_to HBA.out hb)
            replace HI11 := Lib.hid ((HI11.out.same (.below (Nat.le_refl _) hb)).up hb.size)
            replace HR12 := Lib.hid ((HR12.out.same (.below (Nat.le_refl _) hb)).up hb.size)
            replace HRA := Lib.hid ((HRA.out.same (.below (Nat.le_refl _) hb)).up hb.size)
            replace HU := Lib.hid (below_to HU.out hb)
            replace BY := Lib.hid ((hb.block _ (lt_of_block BY.out)).trans BY.out)
            have lq5 : xb < q5.heap.size := Nat.lt_of_lt_of_le hxbn hb.size
            clear hb hf1 hf2
            obtain ⟨hh, EHH⟩ : ∃ x, Hid (hoursP st xx = x) := ⟨_, Lib.hid rfl⟩
            have hho := Hours_any xx st q5 HXR.out (by have := HST.out; omega)
            rw [EHH.out] at hho HHI
            have HHI := Lib.hid HHI.out
            go_wp2_with fail
            refine (hho).mono ?_
            rintro e q6 ⟨rfl, hb⟩
            replace HXA := Lib.hid ((hb.block _ (lt_of_block HXA.out)).trans HXA.out)
            replace HBA := Lib.hid (below_to HBA.out hb)
            replace HI11 := Lib.hid ((HI11.out.same (.below (Nat.le_refl _) hb)).up hb.size)
            replace HR12 := Lib.hid ((HR12.out.same (.below (Nat.le_refl _) hb)).up hb.size)
            replace HRA := Lib.hid ((HRA.out.same (.below (Nat.le_refl _) hb)).up hb.size)
            replace HU := Lib.hid (below_to HU.out hb)
            replace BY := Lib.hid ((hb.block _ (lt_of_block BY.out)).trans BY.out)
            clear hb
            clear hho px5 lq5
            have z0 := cell_of_row q6 by_ 0 _ _ _ BY.out
            have z1 := cell_of_row q6 by_ 1 _ _ _ BY.out
            simp only [List.getElem?_toArray, List.getElem?_cons_zero, List.getElem?_cons_succ] at z0 z1
            have lz := lt_of_block BY.out
            by_cases hn : hh < 0
            · obtain rfl : yhi = -1 := HHI.out.1 hn
              have hf1 : decide (hh < 0) = true := decide_eq_true hn
              have hf2 : decide (0 ≤ hh) = false := decide_eq_false (by omega)
              clear hn
              go_wp2_with fail
              go_roundw
              case rel => exact ⟨b + 1, by omega, by simp, HU⟩
              case measure => simp [intOf]; omega
            · obtain ⟨n1, n2, n3⟩ := HHI.out.2 (by omega)
              have hf1 : decide (hh < 0) = false := decide_eq_false hn
              have hf2 : decide (0 ≤ hh) = true := decide_eq_true (by omega)
              have hf3 : (ylo == -1) = false := by rw [beq_eq_false_iff_ne]; exact n1
              have hf4 : decide (hh < ylo) = false := decide_eq_false (by omega)
              by_cases hy : yhi = -1
              · subst hy
                clear hn n1 n2 n3
                go_wp2_with fail
                go_roundw
                case rel => exact ⟨b + 1, by omega, by simp, HU⟩
                case measure => simp [intOf]; omega
              · have hf5 : (yhi != -1) = true := by rw [bne_iff_ne]; exact hy
                have hf6 : decide (yhi < hh) = false := decide_eq_false (by have := n3 hy; omega)
                clear hn n1 n2 n3 hy
                go_wp2_with fail
                go_roundw
                case rel => exact ⟨b + 1, by omega, by simp, HU⟩
                case measure => simp [intOf]; omega
          · obtain rfl : b = ms.length := by omega
            go_wp2_with fail
            refine (HA.out wr).mono ?_
            rintro e w9 ⟨rfl, hb⟩
            have HBF := Lib.hid (below_to HBA.out hb)
            clear hb
            go_wp2
            go_ret
            exact ⟨rfl, HBF.out⟩
end Go.Proofs.Ytfijaafkagcmmaa
namespace Go.Proofs.Ytfijaafkagcmmaa
open Go.ChangeShapes Go.WideShapes Go.ChangeAt Go.RowKit Go.Deep

theorem knob_own : ownKnob Try.prog.godebug = none := by kernel_rfl
theorem cells88 : Try.prog.cellsOf 88 = 1 := by kernel_rfl
theorem laid_out : laidOutB Try.prog = true := by kernel_rfl

set_option maxRecDepth 100000
section
variable {H : Type} {enc : TypeId × Value → H} {w : World} {base fuel : Nat} {spare : Nat → Bool} {held : Bool}
theorem open_words {r : Reach} {b0 : Nat} {v : Value} {d : DataW H} {p : List MemPlace} (hv : Value.okWide Try.prog w r b0 79 v) (h : DataW.Trod enc Try.prog w base spare held 79 v d p) :
    WordsV w.heap.size w v := by
  obtain ⟨a0, len, cap, rfl⟩ := okWide_slice Try.underlying79 hv
  obtain ⟨fuel, hf⟩ := h
  rcases open_ints Try.underlying79 Try.underlying88 cells88 hf with ⟨hcs, _⟩ | ⟨a, len', cap', zs, hcs, hb, hl, hcm, hlen, _, hcell, hwz⟩
  · simp only [Value.cells, List.cons.injEq, Value.slice.injEq, and_true] at hcs
    obtain ⟨rfl, rfl, rfl⟩ := hcs
    exact ⟨none, 0, 0, fun _ => 0, rfl, Nat.zero_le _, fun j hj => absurd hj (by omega)⟩
  · simp only [Value.cells, List.cons.injEq, Value.slice.injEq, and_true] at hcs
    obtain ⟨rfl, rfl, rfl⟩ := hcs
    have hzl : len ≤ zs.length := by rw [hlen]; split <;> omega
    refine ⟨some a, len, cap, fun j => zs.getD j 0, rfl, Nat.le_trans hl hcm, fun j hj => ?_⟩
    obtain ⟨b, off, spot⟩ := a
    have hc0 := hcell 0 (by omega)
    have hspot : spot = none := by simpa [Addr.add] using World.cell?_spot hc0
    subst hspot
    have hcj := hcell j (by omega)
    simp only [Go.WideShapes.add_plain] at hcj hc0
    have hmem : zs.getD j 0 ∈ zs := by
      have hjz : j < zs.length := by omega
      simp [List.getD_eq_getElem?_getD, hjz]
    have := hwz _ hmem
    simp [Lit.wf, IntKind.min, IntKind.max, IntKind.signed, IntKind.bits] at this
    refine ⟨b, off, rfl, block_lt_of_cell hc0, hcj, ?_⟩
    simp
    omega
end

set_option maxRecDepth 100000 in
theorem truth_lifted (os : Os) (started : os.Started) (H : Type) (enc : TypeId × Value → H) :
    ReturnsInHanded {} Try.checked os 9 .any (Rows.creepTruthSpec.pre6 enc Try.prog Try.f9 Rows.creepTruthRow.domain false) (Rows.creepTruthSpec.post enc Try.prog Try.f9 false true false false) := by
  refine returnsInHanded_of_change (C := Try.checked) knob_own started (by kernel_rfl) Try.func9
    (ChangeSpec.witness6 (enc := enc) (C := Try.checked) false ⟨#[], #[.agg #[.slice none 0 0], .slice none 0 0, .slice none 0 0, .slice none 0 0, .int .u32 0], []⟩ 8 (by kernel_rfl) (by kernel_rfl) (by kernel_rfl) (by kernel_rfl)) ?_
  intro W base args ds gs before hval0 hW _ _
  have hval : ∀ (j : Nat) t v, Try.f9.params[j]? = some t → args[j]? = some v → Value.okWide Try.prog W .any base t v := hval0
  have hW' := hW
  obtain ⟨p, q, hA0, hV, rfl, hfz, hnd⟩ := hW
  have hA : DataW.TrodAll enc Try.prog W 0 (fun _ => true) true Try.f9.params.toList args.toList ds p := hA0
  rw [Try.params9] at hA hval
  obtain ⟨v0, vs0, d0, ds0, p0, q0, hargs, rfl, rfl, h0, r0⟩ := trodAll_cons hA
  obtain ⟨v1, vs1, d1, ds1, p1, q1, rfl, rfl, rfl, h1, r1⟩ := trodAll_cons r0
  obtain ⟨v2, vs2, d2, ds2, p2, q2, rfl, rfl, rfl, h2, r2⟩ := trodAll_cons r1
  obtain ⟨v3, vs3, d3, ds3, p3, q3, rfl, rfl, rfl, h3, r3⟩ := trodAll_cons r2
  obtain ⟨v4, vs4, d4, ds4, p4, q4, rfl, rfl, rfl, h4, r4⟩ := trodAll_cons r3
  obtain ⟨rfl, rfl, rfl⟩ := trodAll_nil r4
  obtain ⟨args⟩ := args
  simp only at hargs
  subst hargs
  obtain ⟨rfl, rfl⟩ := trodVars_none hV
  obtain ⟨mv, ms, rfl, hm⟩ := open_material (hval 0 24 v0 rfl rfl) h0
  obtain ⟨rs, hr⟩ := open_run_list (hval 1 25 v1 rfl rfl) h1
  obtain ⟨ss, hss⟩ := open_plan (hval 2 52 v2 rfl rfl) h2
  have hww := open_words (hval 3 79 v3 rfl rfl) h3
  obtain ⟨oa, rfl, rfl, rfl, wb⟩ := open_int Try.underlying80 (hval 4 80 v4 rfl rfl) h4
  have hoa : 0 ≤ oa ∧ oa < 4294967296 := by
    simp [Lit.wf, IntKind.min, IntKind.max, IntKind.signed, IntKind.bits] at wb
    omega
  clear hA0 hval0
  refine (truth_walk mv v1 v2 v3 ms rs ss oa W hoa hm hr hss hww).mono fun e W' ⟨he, hb⟩ => ?_
  subst he
  have hlt : ∀ x ∈ p0 ++ (p1 ++ (p2 ++ p3)), x.block < W.heap.size := fun x hx => by simpa using hW'.lt x (by simpa using hx)
  have e1 : Rows.creepTruthSpec.fn H ([d0, d1, d2, d3, .lit (.int .u32 oa)] ++ []) = { results := [.lit (.bool true)], args := [d0, d1, d2, d3, .lit (.int .u32 oa)] } := rfl
  refine ⟨_, rfl, _, _, _, [], p0 ++ (p1 ++ (p2 ++ (p3 ++ ([] ++ [])))), [], hW', ?_, ?_, ?_, hb.frame _, fun h => by cases h⟩
  · rw [e1]
    exact trodAll_mk1 (shut_bool Try.underlying4 true)
  · rw [e1]
    exact trodAll_cons_mk (Below.trod laid_out (by kernel_rfl) (of_decide_eq_true (by kernel_rfl)) h0 hb (fun x hx => hlt x (by simp [hx])))
      (trodAll_cons_mk (Below.trod laid_out (by kernel_rfl) (of_decide_eq_true (by kernel_rfl)) h1 hb (fun x hx => hlt x (by simp [hx])))
      (trodAll_cons_mk (Below.trod laid_out (by kernel_rfl) (of_decide_eq_true (by kernel_rfl)) h2 hb (fun x hx => hlt x (by simp [hx])))
      (trodAll_cons_mk (Below.trod laid_out (by kernel_rfl) (of_decide_eq_true (by kernel_rfl)) h3 hb (fun x hx => hlt x (by simp [hx])))
      (trodAll_cons_mk (shut_int Try.underlying80 wb) trodAll_mk0))))
  · rfl

theorem truth_holds : Rows.CreepTruthSaid :=
  OpenClaim.holds_of_wide 9 Try.f9 rfl rfl rfl rfl rfl rfl rfl ⟨rfl, rfl, rfl, rfl, rfl⟩ rfl rfl rfl rfl rfl (by kernel_rfl) Try.func9 (by kernel_rfl)
    (of_decide_eq_true (by kernel_rfl)) (by unfold Func.isWrapper; rw [if_neg (of_decide_eq_false (by kernel_rfl))]; exact ⟨rfl, rfl⟩)
    (fun os started H enc _ => truth_lifted os started H enc)
#print axioms truth_holds
end Go.Proofs.Ytfijaafkagcmmaa
