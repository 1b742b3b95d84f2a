/- The span of lives as the reference finds it: plain facts. No condition. The law CreepRates, walked. No condition. The life for a rate, and the span of lives, by the reference: contracts. Conditions: rates in their limits, at least one list. -/
import Derived.Test.YtfijaafkagcmmaaL5J
import Derived.BigRegion
import Derived.StillTailTactics
namespace Go.Proofs.Ytfijaafkagcmmaa
open Go.RowKit

/-- What the reference carries: the least, the greatest, and whether there is none. -/
structure LSt where
  lo : Int
  hi : Int
  nv : Bool
def lst (s : LSt) (n : Int) : LSt := if n < 0 then ⟨s.lo, s.hi, true⟩ else ⟨if s.lo < 0 ∨ n < s.lo then n else s.lo, max s.hi n, s.nv⟩
def lfold (ns : List Int) : LSt := ns.foldl lst ⟨-1, -1, false⟩
theorem lfold_snoc (ns : List Int) (n : Int) : lfold (ns ++ [n]) = lst (lfold ns) n := by simp [lfold]
structure LInv (ns : List Int) (s : LSt) : Prop where
  lo : (s.lo = -1 ∧ ∀ n, n ∈ ns → n < 0) ∨ (0 ≤ s.lo ∧ s.lo ∈ ns ∧ ∀ n, n ∈ ns → 0 ≤ n → s.lo ≤ n)
  hi : (s.hi = -1 ∧ ∀ n, n ∈ ns → n < 0) ∨ (0 ≤ s.hi ∧ s.hi ∈ ns ∧ ∀ n, n ∈ ns → n ≤ s.hi)
  nv : s.nv = true ↔ ∃ n, n ∈ ns ∧ n < 0
theorem LInv.snoc {ns : List Int} {s : LSt} (h : LInv ns s) (n : Int) : LInv (ns ++ [n]) (lst s n) := by
  unfold lst
  by_cases hn : n < 0
  · rw [if_pos hn]
    refine ⟨?_, ?_, ?_⟩
    · rcases h.lo with ⟨h1, h2⟩ | ⟨h1, h2, h3⟩
      · exact .inl ⟨h1, fun m hm => by rcases List.mem_append.1 hm with h | h; exact h2 m h; simp at h; omega⟩
      · exact .inr ⟨h1, List.mem_append_left _ h2, fun m hm h0 => by rcases List.mem_append.1 hm with h | h; exact h3 m h h0; simp at h; omega⟩
    · rcases h.hi with ⟨h1, h2⟩ | ⟨h1, h2, h3⟩
      · exact .inl ⟨h1, fun m hm => by rcases List.mem_append.1 hm with h | h; exact h2 m h; simp at h; omega⟩
      · exact .inr ⟨h1, List.mem_append_left _ h2, fun m hm => by rcases List.mem_append.1 hm with h | h; exact h3 m h; simp at h; simp only; omega⟩
    · simp only [true_iff]
      exact ⟨n, by simp, hn⟩
  · rw [if_neg hn]
    refine ⟨?_, ?_, ?_⟩
    · right
      rcases h.lo with ⟨h1, h2⟩ | ⟨h1, h2, h3⟩
      · simp only [h1]
        rw [if_pos (by omega)]
        exact ⟨by omega, by simp, fun m hm h0 => by rcases List.mem_append.1 hm with h | h; (have := h2 m h; omega); simp at h; omega⟩
      · by_cases hl : n < s.lo
        · dsimp only
          rw [if_pos (by omega)]
          exact ⟨by omega, by simp, fun m hm h0 => by rcases List.mem_append.1 hm with h | h; (have := h3 m h h0; omega); simp at h; omega⟩
        · dsimp only
          rw [if_neg (by omega)]
          exact ⟨h1, List.mem_append_left _ h2, fun m hm h0 => by rcases List.mem_append.1 hm with h | h; exact h3 m h h0; simp at h; omega⟩
    · right
      rcases h.hi with ⟨h1, h2⟩ | ⟨h1, h2, h3⟩
      · simp only [h1]
        refine ⟨by omega, ?_, fun m hm => by rcases List.mem_append.1 hm with h | h; (have := h2 m h; omega); simp at h; omega⟩
        rw [show max (-1) n = n by omega]; simp
      · refine ⟨by simp only; omega, ?_, fun m hm => by rcases List.mem_append.1 hm with h | h; (have := h3 m h; simp only; omega); simp at h; simp only; omega⟩
        simp only
        by_cases hl : s.hi ≤ n
        · rw [show max s.hi n = n by omega]; simp
        · rw [show max s.hi n = s.hi by omega]; exact List.mem_append_left _ h2
    · simp only [h.nv]
      constructor
      · rintro ⟨m, hm, h0⟩
        exact ⟨m, List.mem_append_left _ hm, h0⟩
      · rintro ⟨m, hm, h0⟩
        rcases List.mem_append.1 hm with h | h
        · exact ⟨m, h, h0⟩
        · simp at h; omega
theorem lfold_inv : ∀ (ns : List Int), LInv ns (lfold ns) := fun ns => by
  have key : ∀ (ms ls : List Int) (s : LSt), LInv ls s → LInv (ls ++ ms) (ms.foldl lst s) := by
    intro ms
    induction ms with
    | nil => intro ls s h; simpa using h
    | cons m ms ih =>
      intro ls s h
      have := ih (ls ++ [m]) (lst s m) (h.snoc m)
      simpa using this
  have := key ns [] ⟨-1, -1, false⟩ ⟨.inl ⟨rfl, fun n hn => by simp at hn⟩, .inl ⟨rfl, fun n hn => by simp at hn⟩, by simp⟩
  simpa [lfold] using this
/-- The life, as the reference has it, is the program's. -/
def lifeN (LL : List (List Int)) (b : Nat) (st : Int) : List Int := LL.map fun L => hoursP st (ld L b)
def lifeR (s : LSt) : Rg := ⟨s.lo, if s.nv = true then -1 else s.hi⟩
theorem hours_ge {st r : Int} (hs : 0 ≤ st) (hr : 0 ≤ r) : hoursP st r = -1 ∨ 0 ≤ hoursP st r := by
  rcases hours_facts hs hr with ⟨h, _⟩ | ⟨h, _⟩
  · exact .inl h
  · exact .inr h
theorem life_eq {LL : List (List Int)} (hne : LL ≠ []) (hR : ∀ x, x ∈ LL → Rates x) (b : Nat) {st : Int} (hs : 0 ≤ st) : lifeR (lfold (lifeN LL b st)) = lifeL LL b st := by
  have hI := lfold_inv (lifeN LL b st)
  generalize lfold (lifeN LL b st) = s at *
  obtain ⟨x, hx, e1⟩ := highR_mem hne (b : Int)
  obtain ⟨y, hy, e2⟩ := lowR_mem hne (b : Int)
  have el : ∀ L : List Int, rt L (b : Int) = ld L b := fun L => by rw [rt_ld]; simp
  rw [el] at e1 e2
  have hmx : hoursP st (highR LL b) ∈ lifeN LL b st := by rw [e1]; exact List.mem_map_of_mem (f := fun L => hoursP st (ld L b)) hx
  have hmy : hoursP st (lowR LL b) ∈ lifeN LL b st := by rw [e2]; exact List.mem_map_of_mem (f := fun L => hoursP st (ld L b)) hy
  have hall : ∀ n, n ∈ lifeN LL b st → ∃ r, n = hoursP st r ∧ 0 ≤ r ∧ lowR LL b ≤ r ∧ r ≤ highR LL b := fun n hn => by
    obtain ⟨L, hL, rfl⟩ := List.mem_map.1 hn
    have h1 := lowR_le hL (b : Int)
    have h2 := highR_le hL (b : Int)
    rw [el] at h1 h2
    have := (hR L hL (b : Int)).1
    rw [el] at this
    exact ⟨_, rfl, this, h1, h2⟩
  have hl0 := (lowR_nonneg hne hR (b : Int)).1
  have hlh := lowR_high hne (b : Int)
  have hh0 : 0 ≤ highR LL b := by omega
  unfold lifeR lifeL
  congr 1
  · rcases hI.lo with ⟨h1, h2⟩ | ⟨h1, h2, h3⟩
    · have := h2 _ hmx
      rcases hours_ge hs hh0 with h | h <;> omega
    · obtain ⟨r, e, r0, r1, r2⟩ := hall _ h2
      have hne1 : hoursP st r ≠ -1 := by omega
      have hm := hours_mono hs r0 r2 hne1
      have := h3 _ hmx hm.1
      omega
  · by_cases hv : s.nv = true
    · rw [if_pos hv]
      obtain ⟨n, hn, h0⟩ := hI.nv.1 hv
      obtain ⟨r, rfl, r0, r1, r2⟩ := hall n hn
      rcases hours_ge hs hl0 with h | h
      · exact h.symm
      · have hm := hours_mono hs hl0 r1 (by omega)
        omega
    · rw [if_neg hv]
      have hnn : ∀ n, n ∈ lifeN LL b st → 0 ≤ n := fun n hn => by
        apply Classical.byContradiction
        intro hc
        exact hv (hI.nv.2 ⟨n, hn, by omega⟩)
      rcases hI.hi with ⟨h1, h2⟩ | ⟨h1, h2, h3⟩
      · have := h2 _ hmy
        have := hnn _ hmy
        omega
      · have h4 := h3 _ hmy
        obtain ⟨r, e, r0, r1, r2⟩ := hall _ h2
        have hm := hours_mono hs hl0 r1 (by have := hnn _ hmy; omega)
        omega
theorem hours_ref {st r : Int} (hs : 0 < st) (hr : 0 < r) : (st + r - 1) / r = hoursP st r := by
  unfold hoursP
  rw [if_neg (by omega), if_neg (by omega), show st + r - 1 = st - 1 + 1 * r by omega, Int.add_mul_ediv_right _ _ (by omega)]
end Go.Proofs.Ytfijaafkagcmmaa
namespace Go.Proofs.Ytfijaafkagcmmaa
open Go.RowKit Go.Shelf
attribute [local irreducible] arrV wpQuiet

theorem lists_cell {base : Nat} {w : World} {sa : Option Addr} {n cap i : Nat} {LL : List (List Int)} {L : List Int} (h : ListsV base w (.slice sa n cap) LL) (hi : LL[i]? = some L) (h0 : 0 < L.length) :
    ∃ g h uc, sa = some ⟨g, 0, none⟩ ∧ w.cell? ⟨g, i, none⟩ = some (.slice (some ⟨h, 0, none⟩) L.length uc) ∧ ∀ j, j < L.length → w.cell? ⟨h, j, none⟩ = some (.int .i64 (ld L j)) := by
  obtain ⟨g, u, rfl, hc, hN⟩ := h.at_ hi
  obtain ⟨ua, uc, rfl, h1, h2⟩ := hN.form
  cases ua with
  | none => exact absurd (h1 rfl) (by omega)
  | some ad =>
    obtain ⟨g2, rfl, h3⟩ := h2 ad rfl
    exact ⟨g, g2, uc, rfl, hc, fun j hj => by have := h3 j hj; rwa [Nat.zero_add] at this⟩
def loT (LL : List (List Int)) (b i : Nat) : Int := ((LL.take i).map (ld · b)).foldl min (ld ((LL[0]?).getD []) b)
def hiT (LL : List (List Int)) (b i : Nat) : Int := ((LL.take i).map (ld · b)).foldl max (ld ((LL[0]?).getD []) b)
theorem loT_step {LL : List (List Int)} {b i : Nat} {L : List Int} (h : LL[i]? = some L) : loT LL b (i + 1) = min (loT LL b i) (ld L b) ∧ hiT LL b (i + 1) = max (hiT LL b i) (ld L b) := by
  unfold loT hiT
  rw [List.take_add_one, h]
  simp [List.foldl_append]
theorem loT_end {LL : List (List Int)} (h : LL ≠ []) (b : Nat) : loT LL b LL.length = lowR LL b ∧ hiT LL b LL.length = highR LL b := by
  cases LL with
  | nil => exact absurd rfl h
  | cons L LL =>
    unfold loT hiT lowR highR
    rw [List.take_of_length_le (Nat.le_refl _)]
    simp [leastL, greatL, rt_ld]
theorem allow_ok {ms : List Rg} {rs : List Rn} (h : allowE ms rs = 0) : RoomOk ms rs ∧ okL ms rs ≠ [] := by
  unfold allowE at h
  by_cases hf : faultE ms rs = 0
  · rw [if_pos hf] at h
    refine ⟨faultE_ok hf, fun e => ?_⟩
    rw [e] at h
    simp [failE, someB] at h
  · rw [if_neg hf] at h
    exact absurd h hf
theorem thin_held {nm np : Nat} {ms : List Rg} {rs : List Rn} (hm : ms.length = nm) (h : thinB nm rs np = true) : Held ms rs := by
  obtain ⟨h1, h2, _, h4⟩ := thin_all h
  exact ⟨by omega, by omega, fun r hr => by have := h4 r hr; omega⟩
theorem rg_ranges {al : List (List Int)} {n k : Nat} (h : k < n) : rg (rangesL al n) k = ⟨lowR al k, highR al k⟩ := by simp [rg, rangesL, h]

set_option maxRecDepth 100000 in
set_option maxHeartbeats 4000000 in
theorem rates_walk (mv rv : Value) (ms : List Rg) (rs : List Rn) (w : World) (hV : RgsV w.heap.size w mv ms) (hR : RunsV w.heap.size w rv rs) :
    Calls Try.prog 4 #[.agg #[mv], rv] w fun e w' => e = .returned (.bool true) ∧ Below w.heap.size w w' := by
  have HROOM : Hid (∀ w', Below w.heap.size w w' → RoomV w.heap.size w' mv rv ms rs) := Lib.hid fun w' h => ⟨h.size, hV.same (.below (Nat.le_refl _) h), hR.same (.below (Nat.le_refl _) h)⟩
  have HMA0 := Lib.hid fun (hl : ms.length ≤ 1000) w' (h : Below w.heap.size w w') => Material_any w.heap.size mv ms w' hl (hV.same (.below (Nat.le_refl _) h)) h.size
  have HRU0 := Lib.hid fun (hl : rs.length ≤ 1000) (hs : ∀ q, q ∈ rs → q.ss.length ≤ 1000) w' (h : Below w.heap.size w w') => Runs_any w.heap.size rv rs w' hl hs (hR.same (.below (Nat.le_refl _) h)) h.size
  obtain ⟨am, capm, rfl, -⟩ := hV
  have HTH := Lib.hid fun w' (h : Below w.heap.size w w') => Thin_any w.heap.size am ms.length capm rv none 0 0 rs w' (hR.same (.below (Nat.le_refl _) h)) h.size
  obtain ⟨ar, capr, rfl, -⟩ := hR
  have HX := Lib.hid (heap_alloc_new w (.cells #[.slice am ms.length capm] 24))
  have HB := Lib.hid (box_below w (.cells #[.slice am ms.length capm] 24))
  have HA := Lib.hid awake_any
  have HHE := Lib.hid fun h => @thin_held ms.length 0 ms rs rfl h
  generalize hz : thinB ms.length rs 0 = z at *
  clear hz
  go_enter Try.func4, Try.ntmps4
  go_wp2_with fail
  refine (HTH.out _ HB.out).mono ?_
  rintro e u0 ⟨rfl, hb⟩
  have HXA := Lib.hid ((hb.block _ (lt_of_block HX.out)).trans HX.out)
  have HBA := Lib.hid (below_to HB.out hb)
  clear hb HX HB HTH
  cases z with
  | false =>
    go_wp2_with fail
    refine (HA.out u0).mono ?_
    rintro e u1 ⟨rfl, hb⟩
    have HBF := Lib.hid (below_to HBA.out hb)
    clear hb
    go_wp2
    go_ret
    exact ⟨rfl, HBF.out⟩
  | true =>
    have HH := Lib.hid (HHE.out (by trivial))
    have HMA := Lib.hid (HMA0.out HH.out.m)
    have HRU := Lib.hid (HRU0.out HH.out.r HH.out.s)
    clear HHE HMA0 HRU0
    have c0 := cell_of_row u0 w.heap.size 0 _ _ _ HXA.out
    simp only [List.getElem?_toArray, List.getElem?_cons_zero] at c0
    have l0 := lt_of_block HXA.out
    by_cases hE : allowE ms rs ≠ 0
    · have HE := Lib.hid hE
      clear hE
      go_wp2_with fail
      refine (HMA.out u0 HBA.out).mono ?_
      rintro e u1 ⟨⟨m6, rfl, hm6⟩, hb⟩
      replace HXA := Lib.hid ((hb.block _ (lt_of_block HXA.out)).trans HXA.out)
      replace HBA := Lib.hid (below_to HBA.out hb)
      clear hb
      have HM6 := Lib.hid hm6
      clear hm6 c0 l0
      go_wp2_with fail
      refine (HRU.out u1 HBA.out).mono ?_
      rintro e u2 ⟨⟨r7, rfl, hr7⟩, hb⟩
      replace HXA := Lib.hid ((hb.block _ (lt_of_block HXA.out)).trans HXA.out)
      replace HBA := Lib.hid (below_to HBA.out hb)
      replace HM6 := Lib.hid ((HM6.out.same (.below (Nat.le_refl _) hb)).up hb.size)
      clear hb
      have HV7 : Hid (RoomV u2.heap.size u2 m6 r7 ms rs) := Lib.hid ⟨Nat.le_refl _, HM6.out, hr7⟩
      clear hr7 HM6
      go_wp2_with fail
      have hra := Rates_err u2.heap.size m6 r7 ms rs u2 HH.out HV7.out HE.out
      refine (hra).mono ?_
      rintro e u3 ⟨rfl, hb⟩
      replace HXA := Lib.hid ((hb.block _ (lt_of_block HXA.out)).trans HXA.out)
      replace HBA := Lib.hid (below_to HBA.out hb)
      clear hb
      clear hra HV7
      have c0 := cell_of_row u3 w.heap.size 0 _ _ _ HXA.out
      simp only [List.getElem?_toArray, List.getElem?_cons_zero] at c0
      have l0 := lt_of_block HXA.out
      go_wp2_with fail
      have has := asked_any w.heap.size _ _ ms rs u3 HH.out (HROOM.out u3 HBA.out)
      refine (has).mono ?_
      rintro e u4 ⟨rfl, hb⟩
      replace HXA := Lib.hid ((hb.block _ (lt_of_block HXA.out)).trans HXA.out)
      replace HBA := Lib.hid (below_to HBA.out hb)
      clear hb
      clear has c0 l0
      have he := HE.out
      generalize allowE ms rs = E at *
      have h1 : (E == 0) = false := by rw [beq_eq_false_iff_ne]; exact he
      have h2 : (E != 0) = true := by rw [bne_iff_ne]; exact he
      clear he HE
      go_wp2_with fail
      refine (HA.out u4).mono ?_
      rintro e u5 ⟨rfl, hb⟩
      have HBF := Lib.hid (below_to HBA.out hb)
      clear hb
      go_wp2
      go_ret
      exact ⟨rfl, HBF.out⟩
    · have hE0 : allowE ms rs = 0 := Classical.not_not.1 hE
      have HE := Lib.hid hE0
      have HK := Lib.hid (allow_ok hE0).1
      have HNE := Lib.hid (allow_ok hE0).2
      clear hE hE0
      go_wp2_with fail
      refine (HMA.out u0 HBA.out).mono ?_
      rintro e u1 ⟨⟨m6, rfl, hm6⟩, hb⟩
      replace HXA := Lib.hid ((hb.block _ (lt_of_block HXA.out)).trans HXA.out)
      replace HBA := Lib.hid (below_to HBA.out hb)
      clear hb
      have HM6 := Lib.hid hm6
      clear hm6 c0 l0
      go_wp2_with fail
      refine (HRU.out u1 HBA.out).mono ?_
      rintro e u2 ⟨⟨r7, rfl, hr7⟩, hb⟩
      replace HXA := Lib.hid ((hb.block _ (lt_of_block HXA.out)).trans HXA.out)
      replace HBA := Lib.hid (below_to HBA.out hb)
      replace HM6 := Lib.hid ((HM6.out.same (.below (Nat.le_refl _) hb)).up hb.size)
      clear hb
      have HV7 : Hid (RoomV u2.heap.size u2 m6 r7 ms rs) := Lib.hid ⟨Nat.le_refl _, HM6.out, hr7⟩
      clear hr7 HM6
      go_wp2_with fail
      have hra := Rates_ok u2.heap.size m6 r7 ms rs u2 HK.out HV7.out HNE.out
      refine (hra).mono ?_
      rintro e u3 ⟨⟨va, rfl, hown⟩, hb⟩
      replace HXA := Lib.hid ((hb.block _ (lt_of_block HXA.out)).trans HXA.out)
      replace HBA := Lib.hid (below_to HBA.out hb)
      clear hb
      have RA := Lib.hid (own_rgs hown)
      clear hown
      clear hra HV7
      have c0 := cell_of_row u3 w.heap.size 0 _ _ _ HXA.out
      simp only [List.getElem?_toArray, List.getElem?_cons_zero] at c0
      have l0 := lt_of_block HXA.out
      go_wp2_with fail
      have has := asked_any w.heap.size _ _ ms rs u3 HH.out (HROOM.out u3 HBA.out)
      rw [HE.out] at has
      refine (has).mono ?_
      rintro e u4 ⟨rfl, hb⟩
      replace HXA := Lib.hid ((hb.block _ (lt_of_block HXA.out)).trans HXA.out)
      replace HBA := Lib.hid (below_to HBA.out hb)
      replace RA := Lib.hid ((RA.out.same (.below (Nat.le_refl _) hb)).up hb.size)
      clear hb
      clear has c0 l0
      have c0 := cell_of_row u4 w.heap.size 0 _ _ _ HXA.out
      simp only [List.getElem?_toArray, List.getElem?_cons_zero] at c0
      have l0 := lt_of_block HXA.out
      go_wp2_with fail
      refine (Allowed_any w.heap.size _ _ ms rs u4 HK.out (HROOM.out u4 HBA.out)).mono ?_
      rintro e u5 ⟨v9, rfl, hl9, hb⟩
      replace HXA := Lib.hid ((hb.block _ (lt_of_block HXA.out)).trans HXA.out)
      replace HBA := Lib.hid (below_to HBA.out hb)
      replace RA := Lib.hid ((RA.out.same (.below (Nat.le_refl _) hb)).up hb.size)
      clear hb c0 l0
      have c0 := cell_of_row u5 w.heap.size 0 _ _ _ HXA.out
      simp only [List.getElem?_toArray, List.getElem?_cons_zero] at c0
      have l0 := lt_of_block HXA.out
      obtain ⟨sa, cap9, rfl, -, -⟩ := hl9.form
      have HL9 := Lib.hid (hl9.mono (Nat.zero_le _))
      clear hl9
      obtain ⟨aa, ca, ea, -⟩ := RA.out
      rw [rangesL_len] at ea
      subst ea
      have hlen := HK.out.mat.len
      have hone := HK.out.mat.one
      have HEL : Hid (∀ (k : Nat) (L : List Int), (okL ms rs)[k]? = some L → L.length = ms.length) := Lib.hid fun k L h => len_of (mem_okL.1 (List.mem_of_getElem? h)).1
      have HRL : Hid (∀ k, k < ms.length → rg (rangesL (okL ms rs) ms.length) k = ⟨loT (okL ms rs) k (okL ms rs).length, hiT (okL ms rs) k (okL ms rs).length⟩) := Lib.hid fun k hk => by rw [rg_ranges hk, (loT_end HNE.out k).1, (loT_end HNE.out k).2]
      have HPOS := Lib.hid (List.length_pos_iff.2 HNE.out)
      have HBIG : Hid ((okL ms rs).length ≤ 9261) := Lib.hid (by have h1 := rest_len HK.out.mat.toRgsOk []; rw [restL_nil] at h1; exact Nat.le_trans (List.length_filter_le _ _) h1)
      generalize hRL : rangesL (okL ms rs) ms.length = RL at *
      generalize okL ms rs = LL at *
      clear hRL HMA HRU HE HK HNE HROOM HH
      go_wp2
      have HRA : Hid (∀ w', Below u5.heap.size u5 w' → ∀ k, k < ms.length → ∃ b off, aa = some ⟨b, off, none⟩ ∧ b < u5.heap.size ∧ w'.cell? ⟨b, off + k * 2, none⟩ = some (.int .i64 (loT LL k LL.length)) ∧ w'.cell? ⟨b, off + k * 2 + 1, none⟩ = some (.int .i64 (hiT LL k LL.length))) := Lib.hid fun w' h k hk => by
        obtain ⟨a', c', e, hp⟩ := RA.out.same (.below (Nat.le_refl _) h)
        simp only [Value.slice.injEq] at e
        obtain ⟨rfl, h9, rfl⟩ := e
        obtain ⟨b, off, e, hb, hc⟩ := hp (by omega)
        have := hc k (by omega)
        rw [HRL.out k hk] at this
        exact ⟨b, off, e, hb, this⟩
      clear RA c0 l0
      go_loopw [10] (fun i wr => ∃ (k : Nat), k ≤ ms.length ∧ i = .int .i64 k ∧ Hid (Below u5.heap.size u5 wr)) (fun i _ => ms.length - (intOf i).toNat)
      case atStart => exact ⟨0, Nat.zero_le _, rfl, Lib.hid (Below.refl _ _)⟩
      case round =>
        obtain ⟨k, hk, rfl, HBK⟩ := hrel
        by_cases hkl : k < ms.length
        · have hkn : (k : Int) < ms.length := by omega
          have hwk : IntKind.i64.wrap ((k : Int) + 1) = (k : Int) + 1 := IntWalk.i64_in _ (by omega)
          obtain ⟨L0, hL0⟩ : ∃ L, LL[0]? = some L := ⟨_, List.getElem?_eq_getElem HPOS.out⟩
          have hll0 := HEL.out 0 L0 hL0
          obtain ⟨g0, h0, uc0, rfl, -, -⟩ := lists_cell HL9.out hL0 (by omega)
          have HCL : Hid (∀ w', Below u5.heap.size u5 w' → ∀ i, i < LL.length → ∃ L h uc, LL[i]? = some L ∧ w'.cell? ⟨g0, i, none⟩ = some (.slice (some ⟨h, 0, none⟩) ms.length uc) ∧ w'.cell? ⟨h, k, none⟩ = some (.int .i64 (ld L k))) := Lib.hid fun w' hw i hi => by
            have hLi := List.getElem?_eq_getElem hi
            have hli := HEL.out i _ hLi
            obtain ⟨g', h', uc', e, a1, a2⟩ := lists_cell (HL9.out.below hw) hLi (by omega)
            cases e
            rw [hli] at a1 a2
            exact ⟨_, h', uc', hLi, a1, a2 k hkl⟩
          have hT0 : ld L0 k = loT LL k 0 ∧ ld L0 k = hiT LL k 0 := by simp [loT, hiT, hL0]
          have HT0 := Lib.hid hT0
          have HL0 := Lib.hid hL0
          have HP0 := HPOS.out
          have hpi : (0 : Int) < LL.length := by omega
          have HBN := HBIG.out
          clear hT0 hL0 hll0
          go_wp2_with fail
          have HBK0 := HBK
          have HC0 : Hid (∀ w', Below wr.heap.size wr w' → ∃ h uc, w'.cell? ⟨g0, 0, none⟩ = some (.slice (some ⟨h, 0, none⟩) ms.length uc) ∧ w'.cell? ⟨h, k, none⟩ = some (.int .i64 (ld L0 k))) := Lib.hid fun w' hw => by
            obtain ⟨L, h, uc, e, a1, a2⟩ := HCL.out w' (grow_to HBK.out hw) 0 HPOS.out
            rw [HL0.out] at e
            cases e
            exact ⟨h, uc, a1, a2⟩
          obtain ⟨hh, uch, b0, b1⟩ := HC0.out wr (Below.refl _ _)
          have HC : Hid (∀ w', Below wr.heap.size wr w' → w'.cell? ⟨g0, 0, none⟩ = some (.slice (some ⟨hh, 0, none⟩) ms.length uch) ∧ w'.cell? ⟨hh, k, none⟩ = some (.int .i64 (ld L0 k)) ∧ g0 < w'.heap.size ∧ hh < w'.heap.size) := Lib.hid fun w' hw =>
            ⟨(hw.cell (p := ⟨g0, 0, none⟩) (block_lt_of_cell b0)).trans b0, (hw.cell (p := ⟨hh, k, none⟩) (block_lt_of_cell b1)).trans b1, Nat.lt_of_lt_of_le (block_lt_of_cell b0) hw.size, Nat.lt_of_lt_of_le (block_lt_of_cell b1) hw.size⟩
          clear b0 b1 HC0
          refine wp_region_noPanic ?_
          refine wp_region_acts (fun w' => Below wr.heap.size wr w') (fun _ _ h hb => grow_to h hb) (below_drawn _) (by kernel_rfl) (fun _ _ _ _ _ h => h)
            [.take 0, .take 1, .take 2, .take 3, .take 4, .take 5, .take 6, .take 7, .take 8, .take 9, .take 10, .take 11, .take 12, .float 13, .join] [14] (by kernel_rfl) ?_
          iterate 13
            (refine GWalk.takes rfl rfl ?_; apply Exists.intro; refine ⟨fun w' hS => ?_, ?_⟩; (obtain ⟨d0, d1, d2, d3⟩ := HC.out w' hS; clear hS; go_simp; with_reducible rfl); simp only [List.getElem_toArray, List.getElem_cons_succ, List.getElem_cons_zero, Act.put, List.setIfInBounds_toArray, List.set_cons_zero, List.set_cons_succ])
          refine GWalk.floats (.cells #[.int .i64 0, .int .i64 0] 50) (fun b => .pointer (some ⟨b, 0, none⟩)) rfl rfl rfl (fun w1 => ?_) ?_
          · kernel_rfl
          simp only [List.nil_append, List.cons_append]
          refine GWalk.joins fun y1 bx hv1 hr1 hr2 hr3 hr4 => ?_
          simp only [List.getElem_toArray, List.getElem_cons_succ, List.getElem_cons_zero, Act.put, List.setIfInBounds_toArray, List.set_cons_zero, List.set_cons_succ]
          refine GWalk.fin fun y2 hv2 hSv => ?_
          have hr9 := (hv2.block _ hr2).trans hr4
          have n1 := set_whole bx 50 y2 #[.int .i64 0, .int .i64 0] #[.int .i64 (ld L0 k), .int .i64 (ld L0 k)] rfl hr9
          have n2 : Below wr.heap.size wr (y2.setCells bx 0 [.int .i64 (ld L0 k), .int .i64 (ld L0 k)]) := below_cells (b := bx) hr1 _ 0 y2 hSv
          refine Tail.skip rfl rfl (exec_store_row 50 (.tmp 11) (.tmp 84) rfl bx 0 #[.int .i64 (ld L0 k), .int .i64 (ld L0 k)] rfl rfl (there_block hr9 (Nat.le_refl _)) (by kernel_rfl) (by simp [Value.oneCell'])) n2 (Tail.done (NoPanic.normal ?_))
          simp only [List.getElem_toArray, List.getElem_cons_succ, List.getElem_cons_zero, Act.put, List.setIfInBounds_toArray, List.set_cons_zero, List.set_cons_succ]
          have BX := Lib.hid n1
          change Hid ((World.setCells _ _ _ _).heap[_]? = _) at BX
          replace HBK := Lib.hid (grow_to HBK.out n2)
          have hbx5 : u5.heap.size ≤ bx := Nat.le_trans HBK0.out.size hr1
          clear hr9 n1 n2 hSv hv2 hv1 hr1 hr2 hr3 hr4 HC
          generalize World.setCells _ _ _ _ = y3 at *
          rw [HT0.out.1] at BX
          have BX2 : Hid (y3.heap[bx]? = some (.cells #[.int .i64 (loT LL k 0), .int .i64 (hiT LL k 0)] 50 (0, 0))) := Lib.hid (by rw [← HT0.out.2, HT0.out.1]; exact BX.out)
          clear BX y2 y1
          go_wp2_with fail
          go_loopw [12] (fun i wr => ∃ (j : Nat), j ≤ LL.length ∧ i = .int .i64 j ∧ Hid (wr.heap[bx]? = some (.cells #[.int .i64 (loT LL k j), .int .i64 (hiT LL k j)] 50 (0, 0))) ∧ Hid (Below u5.heap.size u5 wr)) (fun i _ => LL.length - (intOf i).toNat)
          case atStart => exact ⟨0, Nat.zero_le _, rfl, BX2, HBK⟩
          case round =>
            clear BX2 HBK HBK0
            obtain ⟨j, hj, rfl, BX, HBJ⟩ := hrel
            by_cases hjl : j < LL.length
            · have hjn : (j : Int) < LL.length := by omega
              have hwj : IntKind.i64.wrap ((j : Int) + 1) = (j : Int) + 1 := IntWalk.i64_in _ (by omega)
              obtain ⟨L, hh, uch, hL, d0, d1⟩ := HCL.out wr HBJ.out j hjl
              have hst := loT_step (b := k) hL
              have HST := Lib.hid hst
              clear hst hL
              have l0 := block_lt_of_cell d0
              have l1 := block_lt_of_cell d1
              have k0 := cell_of_row wr bx 0 _ _ _ BX.out
              have k1 := cell_of_row wr bx 1 _ _ _ BX.out
              simp only [List.getElem?_toArray, List.getElem?_cons_zero, List.getElem?_cons_succ] at k0 k1
              have lx := lt_of_block BX.out
              go_wp2_with fail
              go_still_tail 21, (by kernel_rfl)
              change wpList _ _ _ _ _ wr.drew
              have hbd := below_drawn wr
              replace BX := Lib.hid ((hbd.block _ (lt_of_block BX.out)).trans BX.out)
              replace HBJ := Lib.hid (grow_to HBJ.out hbd)
              change Hid (wr.drew.heap[_]? = _) at BX
              change Hid (Below _ _ wr.drew) at HBJ
              clear hbd d0 d1 l0 l1 k0 k1 lx
              generalize wr.drew = y4 at *
              have fr0 := frozen_of_row y4 bx 0 _ _ BX.out
              have fr1 := frozen_of_row y4 bx 1 _ _ BX.out
              have k0 := cell_of_row y4 bx 0 _ _ _ BX.out
              have k1 := cell_of_row y4 bx 1 _ _ _ BX.out
              simp only [List.getElem?_toArray, List.getElem?_cons_zero, List.getElem?_cons_succ] at k0 k1
              have lx := lt_of_block BX.out
              go_wp2
              have hz0 := put2 y4 bx _ _ (.int .i64 (min (loT LL k j) (ld L k))) (.int .i64 (max (hiT LL k j) (ld L k))) _ BX.out
              have hz1 := put2_below (b := bx) (.int .i64 (min (loT LL k j) (ld L k))) (.int .i64 (max (hiT LL k j) (ld L k))) HBJ.out hbx5
              have HZ0 := Lib.hid hz0
              have HZ1 := Lib.hid hz1
              rw [← HST.out.1, ← HST.out.2] at HZ0 HZ1
              go_roundw
              case rel => exact ⟨j + 1, by omega, by simp, by rw [HST.out.1, HST.out.2]; exact Lib.hid hz0, Lib.hid hz1⟩
              case measure => simp [intOf]; omega
            · obtain rfl : j = LL.length := by omega
              obtain ⟨ba, oa, rfl, la, a0, a1⟩ := HRA.out wr HBJ.out k hkl
              have ta : ba < wr.heap.size := by have := HBJ.out.size; omega
              have k0 := cell_of_row wr bx 0 _ _ _ BX.out
              have k1 := cell_of_row wr bx 1 _ _ _ BX.out
              simp only [List.getElem?_toArray, List.getElem?_cons_zero, List.getElem?_cons_succ] at k0 k1
              have lx := lt_of_block BX.out
              generalize loT LL k LL.length = x0 at *
              generalize hiT LL k LL.length = x1 at *
              go_wp2_with fail
              have ga0 := cell_regrown a0
              have ga1 := cell_regrown a1
              have gk0 := cell_regrown k0
              have gk1 := cell_regrown k1
              have hq := fun w => neqr50 x0 x1 w
              clear a0 a1 k0 k1
              refine wp_region_quiet_below (by kernel_rfl) (by kernel_rfl) ?_
              repeat (quiet_step (fail))
              refine wpQuiet_nil ?_
              intro _ hw'
              obtain ⟨⟨dq, osq⟩, hw''⟩ := hw'
              subst hw''
              have hbr := Lib.hid (grow_to HBJ.out (below_regrown wr dq osq))
              clear ga0 ga1 gk0 gk1 hq BX HBJ lx ta
              go_wp2
              go_roundw
              case rel => exact ⟨k + 1, by omega, by simp, hbr⟩
              case measure => simp [intOf]; omega
        · obtain rfl : k = ms.length := by omega
          replace HBA := Lib.hid (below_to HBA.out HBK.out)
          go_wp2_with fail
          refine (HA.out wr).mono ?_
          rintro e wf ⟨rfl, hb⟩
          have HBF := Lib.hid (below_to HBA.out hb)
          clear hb
          go_wp2
          go_ret
          exact ⟨rfl, HBF.out⟩
end Go.Proofs.Ytfijaafkagcmmaa
namespace Go.Proofs.Ytfijaafkagcmmaa
open Go.RowKit Go.Shelf
attribute [local irreducible] arrV wpQuiet

set_option maxRecDepth 100000 in
set_option maxHeartbeats 1000000 in
theorem Hours_any (r st : Int) (w : World) (hr : 0 ≤ r ∧ r ≤ 1000) (hs : 0 ≤ st ∧ st ≤ 10000000000) :
    Calls Try.prog 50 #[.int .i64 r, .int .i64 st] w fun e w' => e = .returned (.int .i64 (hoursP st r)) ∧ Below w.heap.size w w' := by
  by_cases h0 : st = 0
  · subst h0
    have e : Hid (hoursP 0 r = 0) := Lib.hid rfl
    rw [e.out]
    clear hr hs
    go_enter Try.func50, Try.ntmps50
    go_wp2
    go_ret
    exact ⟨rfl, Below.refl _ _⟩
  · have z1 : (st == 0) = false := by rw [beq_eq_false_iff_ne]; exact h0
    by_cases h1 : r = 0
    · subst h1
      have e : Hid (hoursP st 0 = -1) := Lib.hid (by unfold hoursP; rw [if_neg h0, if_pos rfl])
      rw [e.out]
      clear hr hs
      go_enter Try.func50, Try.ntmps50
      go_wp2
      go_ret
      exact ⟨rfl, Below.refl _ _⟩
    · have z2 : (r == 0) = false := by rw [beq_eq_false_iff_ne]; exact h1
      have e1 : IntKind.i64.wrap (st + r) = st + r := IntWalk.i64_in _ (by omega)
      have e2 : IntKind.i64.wrap (st + r - 1) = st + r - 1 := IntWalk.i64_in _ (by omega)
      have e3 : (st + r - 1).tdiv r = hoursP st r := by
        rw [Int.tdiv_eq_ediv_of_nonneg (by omega)]
        exact hours_ref (by omega) (by omega)
      have e4 : IntKind.i64.wrap (hoursP st r) = hoursP st r := IntWalk.i64_in _ (by
        rcases hours_ge hs.1 hr.1 with h | h
        · omega
        · have h9 : hoursP st r ≤ 10000000000 := by
            rcases hours_facts hs.1 hr.1 with ⟨a, _⟩ | ⟨a1, a2, a3⟩
            · omega
            · rcases Nat.eq_zero_or_pos (hoursP st r).toNat with z | z
              · omega
              · have := a3 (by omega)
                have h7 : 1 * (hoursP st r - 1) ≤ r * (hoursP st r - 1) := Int.mul_le_mul_of_nonneg_right (by omega) (by omega)
                omega
          omega)
      clear hr hs
      go_enter Try.func50, Try.ntmps50
      go_wp2
      go_ret
      exact ⟨rfl, Below.refl _ _⟩

theorem life_take {LL : List (List Int)} {b j : Nat} {st : Int} {L : List Int} (h : LL[j]? = some L) : lfold ((lifeN LL b st).take (j + 1)) = lst (lfold ((lifeN LL b st).take j)) (hoursP st (ld L b)) := by
  rw [List.take_add_one, ← lfold_snoc]
  congr 2
  simp [lifeN, h]

set_option maxRecDepth 100000 in
set_option maxHeartbeats 4000000 in
theorem Life38_any (m b : Nat) (sa : Option Addr) (cap : Nat) (LL : List (List Int)) (st : Int) (w : World) (HL : ListsV 0 w (.slice sa LL.length cap) LL) (hm : ∀ (k : Nat) (L : List Int), LL[k]? = some L → L.length = m) (hb : b < m) (hm3 : m ≤ 3) (hR : ∀ x, x ∈ LL → Rates x) (hne : LL ≠ []) (hN : LL.length ≤ 9261) (hs : 0 ≤ st ∧ st ≤ 10000000000) :
    Calls Try.prog 38 #[.slice sa LL.length cap, .int .i64 b, .int .i64 st] w fun e w' => e = .returned (.agg #[.int .i64 (lifeL LL b st).lo, .int .i64 (lifeL LL b st).hi]) ∧ Below w.heap.size w w' := by
  rw [← life_eq hne hR b hs.1]
  have hpos := List.length_pos_iff.2 hne
  obtain ⟨L0, hL0⟩ : ∃ L, LL[0]? = some L := ⟨_, List.getElem?_eq_getElem hpos⟩
  have hl0 := hm 0 L0 hL0
  obtain ⟨g0, h0, uc0, rfl, -, -⟩ := lists_cell HL hL0 (by omega)
  have HCL : Hid (∀ w', Below w.heap.size w w' → ∀ i, i < LL.length → ∃ L h uc, LL[i]? = some L ∧ w'.cell? ⟨g0, i, none⟩ = some (.slice (some ⟨h, 0, none⟩) m uc) ∧ w'.cell? ⟨h, b, none⟩ = some (.int .i64 (ld L b)) ∧ (0 ≤ ld L b ∧ ld L b ≤ 1000)) := Lib.hid fun w' hw i hi => by
    have hLi := List.getElem?_eq_getElem hi
    have hli := hm i _ hLi
    obtain ⟨g', h', uc', e, a1, a2⟩ := lists_cell (HL.below hw) hLi (by omega)
    cases e
    rw [hli] at a1 a2
    have h9 := hR _ (List.mem_of_getElem? hLi) (b : Int)
    rw [rt_ld] at h9
    exact ⟨_, h', uc', hLi, a1, a2 b hb, by simpa using h9⟩
  have HNS : Hid ((lifeN LL b st).take LL.length = lifeN LL b st) := Lib.hid (List.take_of_length_le (by simp [lifeN]))
  have HTK := Lib.hid fun (j : Nat) (L : List Int) (h : LL[j]? = some L) => life_take (b := b) (st := st) h
  generalize lifeN LL b st = NS at *
  obtain ⟨x6, x7⟩ := box2 w (.cells #[.int .i64 0, .int .i64 0] 60) (.cells #[.int .i64 (-1), .int .i64 (-1)] 60)
  have hbb := below2 w (.cells #[.int .i64 0, .int .i64 0] 60) (.cells #[.int .i64 (-1), .int .i64 (-1)] 60)
  have X6 := Lib.hid x6
  have X7 := Lib.hid x7
  have HBB := Lib.hid hbb
  have HSS := Lib.hid hs
  have hbi : (b : Int) < m := by omega
  have hz9 : LL.length ≤ 9261 := hN
  clear x6 x7 hbb HL hm hR hne hL0 hl0 hpos hs
  go_enter Try.func38, Try.ntmps38
  go_wp2
  generalize World.alloc (World.alloc w _) _ = W at *
  go_loopw [8, 9] (fun nv i wr => ∃ (j : Nat), j ≤ LL.length ∧ i = .int .i64 j ∧ nv = .bool (lfold (NS.take j)).nv ∧ Hid (wr.heap[w.heap.size + 1]? = some (.cells #[.int .i64 (lfold (NS.take j)).lo, .int .i64 (lfold (NS.take j)).hi] 60 (0, 0))) ∧ Hid (wr.heap[w.heap.size]? = some (.cells #[.int .i64 0, .int .i64 0] 60 (0, 0))) ∧ Hid (Below w.heap.size w wr)) (fun _ i _ => LL.length - (intOf i).toNat)
  case atStart => exact ⟨0, Nat.zero_le _, rfl, rfl, X7, X6, HBB⟩
  case round =>
    obtain ⟨j, hj, rfl, rfl, Y7, Y6, HBj⟩ := hrel
    clear X6 X7 HBB
    by_cases hjl : j < LL.length
    · have hjn : (j : Int) < LL.length := by omega
      have hwj : IntKind.i64.wrap ((j : Int) + 1) = (j : Int) + 1 := IntWalk.i64_in _ (by omega)
      obtain ⟨L, hh, uch, hL, d0, d1, hr0⟩ := HCL.out wr HBj.out j hjl
      have HST := Lib.hid (HTK.out j L hL)
      have hhc := Hours_any (ld L b) st wr hr0 HSS.out
      have HGE := Lib.hid (hours_ge HSS.out.1 hr0.1)
      have l0 := block_lt_of_cell d0
      have l1 := block_lt_of_cell d1
      clear hL hr0
      generalize hoursP st (ld L b) = n at *
      go_wp2_with fail
      refine hhc.mono ?_
      rintro e w1 ⟨rfl, hb1⟩
      replace Y7 := Lib.hid ((hb1.block _ (lt_of_block Y7.out)).trans Y7.out)
      replace Y6 := Lib.hid ((hb1.block _ (lt_of_block Y6.out)).trans Y6.out)
      replace HBj := Lib.hid (below_to HBj.out hb1)
      clear hhc hb1 d0 d1 l0 l1
      generalize lfold (NS.take j) = s at *
      by_cases hn : n < 0
      · have e1 : Hid (lst s n = ⟨s.lo, s.hi, true⟩) := Lib.hid (if_pos hn)
        have hn' : decide (n < 0) = true := decide_eq_true hn
        go_wp2
        go_roundw
        case rel =>
          refine ⟨j + 1, by omega, by simp, ?_, ?_, Y6, HBj⟩
          · rw [HST.out, e1.out]
          · rw [HST.out, e1.out]; exact Y7
        case measure => simp [intOf]; omega
      · have hn' : decide (n < 0) = false := decide_eq_false hn
        have f0 := frozen_of_row w1 (w.heap.size + 1) 0 _ _ Y7.out
        have f1 := frozen_of_row w1 (w.heap.size + 1) 1 _ _ Y7.out
        have k0 := cell_of_row w1 (w.heap.size + 1) 0 _ _ _ Y7.out
        have k1 := cell_of_row w1 (w.heap.size + 1) 1 _ _ _ Y7.out
        simp only [List.getElem?_toArray, List.getElem?_cons_zero, List.getElem?_cons_succ] at k0 k1
        have lx := lt_of_block Y7.out
        by_cases hc : s.lo < 0 ∨ n < s.lo
        · have e1 : Hid (lst s n = ⟨n, max s.hi n, s.nv⟩) := Lib.hid (by unfold lst; rw [if_neg hn, if_pos hc])
          have hz := put2 w1 (w.heap.size + 1) _ _ (.int .i64 n) (.int .i64 (max s.hi n)) _ Y7.out
          have hy := put2_other w1 (w.heap.size + 1) w.heap.size (.int .i64 n) (.int .i64 (max s.hi n)) (by omega)
          have hbz := put2_below (b := w.heap.size + 1) (.int .i64 n) (.int .i64 (max s.hi n)) HBj.out (by omega)
          have HZ := Lib.hid hz
          have HY := Lib.hid (hy.trans Y6.out)
          have HZB := Lib.hid hbz
          clear hz hy hbz
          by_cases hq : s.lo < 0
          · have hq' : decide (s.lo < 0) = true := decide_eq_true hq
            clear hc
            go_wp2
            go_roundw
            case rel =>
              refine ⟨j + 1, by omega, by simp, ?_, ?_, HY, HZB⟩
              · rw [HST.out, e1.out]
              · rw [HST.out, e1.out]; exact HZ
            case measure => simp [intOf]; omega
          · have hq' : decide (s.lo < 0) = false := decide_eq_false hq
            have hq2 : n < s.lo := by omega
            have hq3 : decide (n < s.lo) = true := decide_eq_true hq2
            clear hc
            go_wp2
            go_roundw
            case rel =>
              refine ⟨j + 1, by omega, by simp, ?_, ?_, HY, HZB⟩
              · rw [HST.out, e1.out]
              · rw [HST.out, e1.out]; exact HZ
            case measure => simp [intOf]; omega
        · have e1 : Hid (lst s n = ⟨s.lo, max s.hi n, s.nv⟩) := Lib.hid (by unfold lst; rw [if_neg hn, if_neg hc])
          have hz := heap_setCell_same w1 (w.heap.size + 1) 1 _ _ (.int .i64 (max s.hi n)) Y7.out
          have hy := heap_setCell_other w1 ⟨w.heap.size + 1, 1, none⟩ w.heap.size (.int .i64 (max s.hi n)) (by show w.heap.size ≠ w.heap.size + 1; omega)
          have hbz := HBj.out.setCell (p := ⟨w.heap.size + 1, 1, none⟩) (by show w.heap.size ≤ w.heap.size + 1; omega) (.int .i64 (max s.hi n))
          have HZ : Hid (_ = some (Obj.cells #[.int .i64 s.lo, .int .i64 (max s.hi n)] 60 (0, 0))) := Lib.hid hz
          have HY := Lib.hid (hy.trans Y6.out)
          have HZB := Lib.hid hbz
          have hq : ¬ s.lo < 0 := fun h => hc (.inl h)
          have hq2 : ¬ n < s.lo := fun h => hc (.inr h)
          have hq' : decide (s.lo < 0) = false := decide_eq_false hq
          have hq3 : decide (n < s.lo) = false := decide_eq_false hq2
          clear hz hy hbz hc
          go_wp2
          go_roundw
          case rel =>
            refine ⟨j + 1, by omega, by simp, ?_, ?_, HY, HZB⟩
            · rw [HST.out, e1.out]
            · rw [HST.out, e1.out]; exact HZ
          case measure => simp [intOf]; omega
    · obtain rfl : j = LL.length := by omega
      obtain ⟨s, HSs⟩ : ∃ s, Hid (lfold NS = s) := ⟨_, Lib.hid rfl⟩
      rw [HNS.out, HSs.out] at Y7 ⊢
      have fr0 := frozen_of_row wr (w.heap.size + 1) 1 _ _ Y7.out
      have k0 := cell_of_row wr (w.heap.size + 1) 0 _ _ _ Y7.out
      have k1 := cell_of_row wr (w.heap.size + 1) 1 _ _ _ Y7.out
      have d0 := cell_of_row wr w.heap.size 0 _ _ _ Y6.out
      have d1 := cell_of_row wr w.heap.size 1 _ _ _ Y6.out
      have f0 := frozen_of_row wr w.heap.size 0 _ _ Y6.out
      have f1 := frozen_of_row wr w.heap.size 1 _ _ Y6.out
      simp only [List.getElem?_toArray, List.getElem?_cons_zero, List.getElem?_cons_succ] at k0 k1 d0 d1
      have lx := lt_of_block Y7.out
      have ly := lt_of_block Y6.out
      clear HCL HTK HNS
      cases hv : s.nv with
      | false =>
        go_wp2
        refine bodyPost_ret (v := .agg #[.int .i64 (lifeR s).lo, .int .i64 (lifeR s).hi]) ?_ rfl ⟨by rw [HSs.out], put2_below _ _ HBj.out (by omega)⟩
        simp [results, Try.results38, go_sem, lifeR, *]
      | true =>
        have g0 := frozen_of_row (wr.setCell ⟨w.heap.size + 1, 1, none⟩ (.int .i64 (-1))) w.heap.size 0 _ _ ((heap_setCell_other wr ⟨w.heap.size + 1, 1, none⟩ w.heap.size (.int .i64 (-1)) (by show w.heap.size ≠ w.heap.size + 1; omega)).trans Y6.out)
        have g1 := frozen_of_row (wr.setCell ⟨w.heap.size + 1, 1, none⟩ (.int .i64 (-1))) w.heap.size 1 _ _ ((heap_setCell_other wr ⟨w.heap.size + 1, 1, none⟩ w.heap.size (.int .i64 (-1)) (by show w.heap.size ≠ w.heap.size + 1; omega)).trans Y6.out)
        have hB9 := HBj.out.setCell (p := ⟨w.heap.size + 1, 1, none⟩) (by show w.heap.size ≤ w.heap.size + 1; omega) (.int .i64 (-1))
        have HB9 := Lib.hid hB9
        clear hB9
        go_wp2
        refine bodyPost_ret (v := .agg #[.int .i64 (lifeR s).lo, .int .i64 (lifeR s).hi]) ?_ rfl ⟨by rw [HSs.out], put2_below _ _ HB9.out (by omega)⟩
        simp [results, Try.results38, go_sem, lifeR, *]
end Go.Proofs.Ytfijaafkagcmmaa
