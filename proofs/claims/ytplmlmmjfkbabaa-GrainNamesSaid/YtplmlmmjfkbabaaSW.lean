/- What a chain tells of a picture, by the program: the recursion. No condition. -/
import Derived.Test.YtplmlmmjfkbabaaSV
namespace Go.Proofs.Ytplmlmmjfkbabaa
open Go.RowKit Go.Shelf
attribute [local irreducible] arrV wpQuiet mat shl

def tellR (cs : List Cm) : List Int → Int → Option Rg
  | [], p => if p = -1 then some ⟨0, 0⟩ else some ⟨0, 100⟩
  | x :: l, p => if p = -1 then none else match lastO cs x p with
    | none => none
    | some b => (tellR cs l b.f).map fun r => ⟨max (r.lo + b.lo) 0, min (r.hi + b.hi) 100⟩
def TellIs (o : Option Rg) (z lo hi : Int) : Prop := (∀ r, o = some r → lo = r.lo ∧ hi = r.hi) ∧ -z ≤ lo ∧ lo ≤ z ∧ -z ≤ hi ∧ hi ≤ z
def TellV (o : Option Rg) (z : Int) (e : Ending) : Prop := ∃ lo hi, e = .returned (.tuple #[.agg #[.int .i64 lo, .int .i64 hi], .bool o.isSome]) ∧ TellIs o z lo hi
theorem tell_no {z : Int} (h : 0 ≤ z) : TellIs none z 0 0 := ⟨fun r hr => (by cases hr), by omega, by omega, by omega, by omega⟩
theorem last_in {n : Int} {cs : List Cm} (hA : AlbOk n cs) {x p : Int} {b : Bd} (h : lastO cs x p = some b) : (-100 ≤ b.lo ∧ b.lo ≤ 100) ∧ (-100 ≤ b.hi ∧ b.hi ≤ 100) := by
  unfold lastO at h
  split at h
  · rename_i hx
    have hk : x.toNat < cs.length := by omega
    have hc := hA.cm _ (cm_mem hk)
    have h1 := hc.lo
    have h2 := hc.le
    have h3 := hc.hi
    unfold leadO at h
    split at h
    · cases h
      show (-100 ≤ (cm cs x.toNat).lo ∧ (cm cs x.toNat).lo ≤ 100) ∧ (-100 ≤ (cm cs x.toNat).hi ∧ (cm cs x.toNat).hi ≤ 100)
      omega
    · split at h
      · cases h
        show (-100 ≤ -(cm cs x.toNat).hi ∧ -(cm cs x.toNat).hi ≤ 100) ∧ (-100 ≤ -(cm cs x.toNat).lo ∧ -(cm cs x.toNat).lo ≤ 100)
        omega
      · cases h
  · cases h
theorem exec_part50 {a : Act} {o : Oper} {W : World} (x y : Operand) (ho : o.op = .slice 50 x none (some y) none) {ad : Option Addr} {n c q : Nat} (hx : a.eval x = .slice ad n c) (hy : a.eval y = .int .i64 q) (h : q ≤ c) :
    (execOp a.eval o).run Try.prog W = .ok (.value (.slice ad q c)) W := by
  obtain ⟨i, z, h1, _, h2, _⟩ := el50.i
  have e0 : ad.map (·.add 0) = ad := by cases ad <;> simp [Addr.add]
  have h3 : (q : Int) ≤ (c : Int) := by omega
  unfold execOp
  simp [ho, hx, hy, Instr.sliceAt, Instr.slice, run_underlying el50.u, Instr.sliceBounds, Instr.sliceBound, asIntOf, sizeOf, typeInfo, h1, h2, h3, h, Result.andThen, e0]
theorem wpList_store2 {ops : Array Oper} {rest : List Oper} {o : Oper} {a : Act} {Q : Exit → Act → World → Prop} {w : World} (hgd : o.guard = none) (x y : Operand) (ho : o.op = .store 41 x y) (g : Nat) (hx : a.eval x = .pointer (some ⟨g, 0, none⟩))
    (u1 u2 : Value) (x1 x2 : Int) (hy : a.eval y = .agg #[.int .i64 x1, .int .i64 x2]) (hg : w.heap[g]? = some (.cells #[u1, u2] 41 (0, 0)))
    (h : ∀ w2, Put g w w2 → w2.heap[g]? = some (.cells #[.int .i64 x1, .int .i64 x2] 41 (0, 0)) → wpList Try.prog ops Q rest (a.put o.dst undef) w2) : wpList Try.prog ops Q (o :: rest) a w :=
  wpList_store_mid hgd 41 x y ho g 0 #[.int .i64 x1, .int .i64 x2] hx hy (there_block hg (by simp)) (by kernel_rfl) (by simp [Value.oneCell']) (h _ (put_cells _ _ _ _) (set_pair hg))
theorem Tail.put2 {ops : Array Oper} {S : World → Prop} {Q : Exit → Act → World → Prop} {τ : List Nat} {i : Nat} {o : Oper} {a : Act} {w : World} (hoi : ops[i]? = some o) (hw : Region.wanted o (yielded ops a.tmps) = true) (x y : Operand) (ho : o.op = .store 41 x y) (g : Nat) (hx : a.eval x = .pointer (some ⟨g, 0, none⟩))
    (u1 u2 : Value) (x1 x2 : Int) (hy : a.eval y = .agg #[.int .i64 x1, .int .i64 x2]) (hg : w.heap[g]? = some (.cells #[u1, u2] 41 (0, 0)))
    (h : ∀ w2, Put g w w2 → w2.heap[g]? = some (.cells #[.int .i64 x1, .int .i64 x2] 41 (0, 0)) → S w2 ∧ Tail Try.prog ops S Q τ (a.put o.dst undef) w2) : Tail Try.prog ops S Q (i :: τ) a w :=
  have h2 := h _ (put_cells g 0 [.int .i64 x1, .int .i64 x2] w) (set_pair hg)
  Tail.skip hoi hw (exec_store_row 41 x y ho g 0 #[.int .i64 x1, .int .i64 x2] hx hy (there_block hg (by simp)) (by kernel_rfl) (by simp [Value.oneCell'])) h2.1 h2.2
theorem tell_end {w2 : World} {D : Nat} {tmps : Array Value} {lo hi : Int} {b : Bool} (h6 : tmps[6]? = some (.pointer (some ⟨D, 0, none⟩))) (h7 : tmps[7]? = some (.bool b))
    (hr : w2.heap[D]? = some (.cells #[.int .i64 lo, .int .i64 hi] 41 (0, 0))) : (results Try.f61 tmps).run Try.prog w2 = .ok (.tuple #[.agg #[.int .i64 lo, .int .i64 hi], .bool b]) w2 := by
  have e0 := cell_of_row _ D 0 _ _ _ hr
  have e1 := cell_of_row _ D 1 _ _ _ hr
  simp only [List.getElem?_toArray, List.getElem?_cons_zero, List.getElem?_cons_succ] at e0 e1
  simp [results, Try.results61, go_sem, *]
theorem ints_part {m : Nat} {w : World} {a : Option Addr} {xs : List Int} {K cap : Nat} (hK : xs.length = K + 1) (h : IntsV m w (.slice a xs.length cap) xs) : IntsV m w (.slice a K cap) (xs.take K) := by
  obtain ⟨a', cap', e, hp⟩ := h
  cases e
  refine ⟨a, cap, by rw [List.length_take, hK, Nat.min_eq_left (by omega)], fun h0 => ?_⟩
  obtain ⟨b, off, rfl, hb, hc⟩ := hp (by omega)
  refine ⟨b, off, rfl, hb, fun i hi => ?_⟩
  rw [List.length_take] at hi
  rw [hc i (by omega)]
  simp only [ld, List.getElem?_take]
  rw [if_pos (by omega)]
theorem rev_snoc {xs : List Int} {K : Nat} (h : xs.length = K + 1) : xs.reverse = ld xs (xs.length - 1) :: (xs.take K).reverse := by
  have h1 : xs = xs.take K ++ [ld xs K] := by
    apply List.ext_getElem?
    intro i
    rw [List.getElem?_append, List.length_take, List.getElem?_take]
    rcases Nat.lt_or_ge i K with hi | hi
    · rw [if_pos (by omega), if_pos hi]
    · rcases Nat.eq_or_lt_of_le hi with rfl | hi
      · rw [if_neg (by omega), show K - min K xs.length = 0 by omega]
        simp [ld, List.getElem?_eq_getElem (show K < xs.length by omega)]
      · rw [if_neg (by omega), List.getElem?_eq_none (by omega), List.getElem?_eq_none (by simp; omega)]
  have h2 := congrArg List.reverse h1
  rw [List.reverse_append] at h2
  rw [show xs.length - 1 = K by omega]
  exact h2
set_option maxRecDepth 100000 in
set_option maxHeartbeats 4000000 in
theorem tells_any (m : Nat) (n : Int) (v : Value) (cs : List Cm) (hA : AlbOk n cs) : ∀ (K : Nat) (xs : List Int) (a : Option Addr) (cap : Nat) (p : Int) (w : World), xs.length = K → K ≤ 1000 → K ≤ cap → CmsV m w v cs → IntsV m w (.slice a xs.length cap) xs → m ≤ w.heap.size →
    Calls Try.prog 61 #[.agg #[.int .i64 n, v], .int .i64 p, .slice a K cap] w fun e w' => TellV (tellR cs xs.reverse p) (100 * (K + 1)) e ∧ Below w.heap.size w w' := by
  intro K
  induction K with
  | zero =>
    intro xs a cap p w hK hK1 hcap hV hX hm
    obtain rfl : xs = [] := List.length_eq_zero_iff.1 hK
    have h1 := box2 w (.cells #[.int .i64 n, v] 31) (.cells #[.int .i64 0, .int .i64 0] 41)
    have HX2 := Lib.hid h1.2
    have HB := Lib.hid (below2 w (.cells #[.int .i64 n, v] 31) (.cells #[.int .i64 0, .int .i64 0] 41))
    clear h1 hX hV
    go_enter Try.func61, Try.ntmps61
    obtain ⟨W2, hW2⟩ : ∃ W2, (w.alloc (.cells #[.int .i64 n, v] 31)).alloc (.cells #[.int .i64 0, .int .i64 0] 41) = W2 := ⟨_, rfl⟩
    rw [hW2] at HX2 HB
    by_cases hp : p = -1
    · subst hp
      go_wp2_with (first
        | (refine wpList_store2 rfl (.tmp 6) (.tmp 15) rfl (w.heap.size + 1) rfl _ _ 0 0 rfl HX2.out ?_
           intro w2 hp2 hg2
           have HP2 := Lib.hid hp2
           have HG2 := Lib.hid hg2
           clear hp2 hg2)
        | fail)
      refine ⟨rfl, _, tell_end rfl rfl HG2.out, ⟨0, 0, rfl, fun r hr => ?_, by omega, by omega, by omega, by omega⟩, HP2.out.below HB.out (by omega)⟩
      cases hr
      exact ⟨rfl, rfl⟩
    · have e0 : (p == -1) = false := by simp [hp]
      go_wp2_with fail
      refine (everyGrade_any W2).mono ?_
      rintro e W3 ⟨rfl, hb3⟩
      have HX3 := Lib.hid ((hb3.block _ (lt_of_block HX2.out)).trans HX2.out)
      have HB3 := Lib.hid (below_to HB.out hb3)
      clear hb3 HX2 HB
      go_wp2_with (first
        | (refine wpList_store2 rfl (.tmp 6) (.tmp 23) rfl (w.heap.size + 1) rfl _ _ 0 100 rfl HX3.out ?_
           intro w2 hp2 hg2
           have HP2 := Lib.hid hp2
           have HG2 := Lib.hid hg2
           clear hp2 hg2)
        | fail)
      have hT : tellR cs ([] : List Int).reverse p = some ⟨0, 100⟩ := by show tellR cs [] p = _; unfold tellR; rw [if_neg hp]
      rw [hT]
      refine ⟨rfl, _, tell_end rfl rfl HG2.out, ⟨0, 100, rfl, fun r hr => ?_, by omega, by omega, by omega, by omega⟩, HP2.out.below HB3.out (by omega)⟩
      cases hr
      exact ⟨rfl, rfl⟩
  | succ K ih =>
    intro xs a cap p w hK hK1 hcap hV hX hm
    have HIH := Lib.hid ih
    clear ih
    have HRV := Lib.hid (rev_snoc hK)
    have hlt : (xs.take K).length = K := by rw [List.length_take]; omega
    have HLT := Lib.hid hlt
    have HPT : Hid (IntsV m w (.slice a (xs.take K).length cap) (xs.take K)) := Lib.hid (by rw [hlt]; exact ints_part hK hX)
    clear hlt
    have HVV := Lib.hid hV
    have HXV := Lib.hid hX
    obtain ⟨x, hx⟩ : ∃ x, x = ld xs (xs.length - 1) := ⟨_, rfl⟩
    have HLA := Lib.hid fun (w' : World) (hs : Same m w w') (hm' : m ≤ w'.heap.size) => last_any m n v (.slice a xs.length cap) cs xs p w' hA (by omega) (by omega) (hV.same hs) (hX.same hs) hm'
    rw [← hx] at HLA HRV
    have HOK := Lib.hid hA
    have HK := Lib.hid hK
    have h1 := box2 w (.cells #[.int .i64 n, v] 31) (.cells #[.int .i64 0, .int .i64 0] 41)
    have HX1 := Lib.hid h1.1
    have HX2 := Lib.hid h1.2
    have HB := Lib.hid (below2 w (.cells #[.int .i64 n, v] 31) (.cells #[.int .i64 0, .int .i64 0] 41))
    have hz : (((K + 1 : Nat) : Int) == 0) = false := by simp; omega
    rw [hK] at HLA
    clear h1 hX hV hx hA
    obtain ⟨c', ccap, hvv, -⟩ := HVV.out
    subst hvv
    clear hK
    go_enter Try.func61, Try.ntmps61
    obtain ⟨W2, hW2⟩ : ∃ W2, (w.alloc (.cells #[.int .i64 n, .slice c' cs.length ccap] 31)).alloc (.cells #[.int .i64 0, .int .i64 0] 41) = W2 := ⟨_, rfl⟩
    rw [hW2] at HX1 HX2 HB
    by_cases hp : p = -1
    · subst hp
      go_wp2_with (first
        | (refine wpList_store2 rfl (.tmp 6) (.tmp 15) rfl (w.heap.size + 1) rfl _ _ 0 0 rfl HX2.out ?_
           intro w2 hp2 hg2
           have HP2 := Lib.hid hp2
           have HG2 := Lib.hid hg2
           clear hp2 hg2)
        | fail)
      have hT : tellR cs xs.reverse (-1) = none := by rw [HRV.out]; unfold tellR; rw [if_pos rfl]
      rw [hT]
      exact ⟨rfl, _, tell_end rfl rfl HG2.out, ⟨0, 0, rfl, tell_no (by omega)⟩, HP2.out.below HB.out (by omega)⟩
    · have e0 : (p == -1) = false := by simp [hp]
      have c0 := cell_of_row W2 w.heap.size 0 _ _ _ HX1.out
      have c1 := cell_of_row W2 w.heap.size 1 _ _ _ HX1.out
      simp only [List.getElem?_toArray, List.getElem?_cons_zero, List.getElem?_cons_succ] at c0 c1
      have l1 := lt_of_block HX1.out
      have hms : m ≤ W2.heap.size := Nat.le_trans hm HB.out.size
      have HSM := Lib.hid (Same.below hm HB.out)
      go_wp2_with fail
      refine (HLA.out W2 HSM.out hms).mono ?_
      rintro e W3 ⟨rfl, hb3⟩
      obtain ⟨o, ho⟩ : ∃ o, o = lastO cs x p := ⟨_, rfl⟩
      have HO := Lib.hid ho
      rw [← ho]
      have HB3 := Lib.hid (below_to HB.out hb3)
      have HY1 := Lib.hid ((hb3.block _ (lt_of_block HX1.out)).trans HX1.out)
      have HY2 := Lib.hid ((hb3.block _ (lt_of_block HX2.out)).trans HX2.out)
      clear hb3 ho c0 c1 l1 hms HSM HB HX1 HX2
      have hbx := box_below W3 (.cells #[.int .i64 0, .int .i64 0, .int .i64 0, .int .i64 0] 119)
      have HZ1 := Lib.hid ((hbx.block _ (lt_of_block HY1.out)).trans HY1.out)
      have HZ2 := Lib.hid ((hbx.block _ (lt_of_block HY2.out)).trans HY2.out)
      have HZ3 := Lib.hid (heap_alloc_new W3 (.cells #[.int .i64 0, .int .i64 0, .int .i64 0, .int .i64 0] 119))
      have HZB := Lib.hid (below_to HB3.out hbx)
      have lw3 : w.heap.size + 1 < W3.heap.size := lt_of_block HY2.out
      clear hbx
      obtain ⟨y1, y2, y3, y4, hy⟩ := lead_agg o
      have HY := Lib.hid hy
      unfold leadV
      rw [hy]
      clear hy
      cases o with
      | none =>
        go_wp2_with (first
          | (refine wpList_store4 rfl (.tmp 8) (.tmp 29) rfl W3.heap.size rfl _ _ _ _ y1 y2 y3 y4 rfl HZ3.out ?_
             intro w4 hp4 hg4
             have HS4 := Lib.hid ((hp4.other (w.heap.size + 1) (by omega)).trans HZ2.out)
             have HB4 := Lib.hid (hp4.below HZB.out (by omega))
             clear hp4 hg4)
          | (refine wpList_store2 rfl (.tmp 6) (.tmp 33) rfl (w.heap.size + 1) rfl _ _ 0 0 rfl HS4.out ?_
             intro w2 hp2 hg2
             have HP2 := Lib.hid hp2
             have HG2 := Lib.hid hg2
             clear hp2 hg2)
          | fail)
        have hT : tellR cs xs.reverse p = none := by rw [HRV.out]; unfold tellR; rw [if_neg hp, ← HO.out]
        rw [hT]
        exact ⟨rfl, _, tell_end rfl rfl HG2.out, ⟨0, 0, rfl, tell_no (by omega)⟩, HP2.out.below HB4.out (by omega)⟩
      | some b =>
        have HBI := Lib.hid (last_in HOK.out HO.out.symm)
        have HT : Hid (tellR cs xs.reverse p = (tellR cs (xs.take K).reverse b.f).map fun r => ⟨max (r.lo + b.lo) 0, min (r.hi + b.hi) 100⟩) := Lib.hid (by rw [HRV.out]; show tellR cs (x :: _) p = _; conv => lhs; unfold tellR; rw [if_neg hp, ← HO.out])
        obtain ⟨rfl, rfl, rfl, rfl⟩ : y1 = b.f ∧ y2 = b.t ∧ y3 = b.lo ∧ y4 = b.hi := by
          have h := HY.out
          simp only [bdC] at h
          injection h with h
          injection h with a1 h
          injection h with a2 h
          injection h with a3 h
          injection h with a4 h
          injection a1 with _ a1
          injection a2 with _ a2
          injection a3 with _ a3
          injection a4 with _ a4
          exact ⟨a1.symm, a2.symm, a3.symm, a4.symm⟩
        go_wp2_with (first
          | (refine wpList_store4 rfl (.tmp 8) (.tmp 29) rfl W3.heap.size rfl _ _ _ _ b.f b.t b.lo b.hi rfl HZ3.out ?_
             intro w4 hp4 hg4
             have HS1 := Lib.hid ((hp4.other w.heap.size (by omega)).trans HZ1.out)
             have HS2 := Lib.hid ((hp4.other (w.heap.size + 1) (by omega)).trans HZ2.out)
             have HS3 := Lib.hid hg4
             have HB4 := Lib.hid (hp4.below HZB.out (by omega))
             clear hp4 hg4)
          | fail)
        have hwk : IntKind.i64.wrap (((K + 1 : Nat) : Int) - 1) = (K : Int) := by rw [show ((K + 1 : Nat) : Int) - 1 = K by omega]; exact IntWalk.i64_in _ (by omega)
        have hwk2 : IntKind.i64.wrap ((K : Int) + 1 - 1) = (K : Int) := by rw [show (K : Int) + 1 - 1 = K by omega]; exact IntWalk.i64_in _ (by omega)
        have hwk3 : IntKind.i64.wrap (K : Int) = (K : Int) := IntWalk.i64_in _ (by omega)
        have HC : Hid (∀ w', Below w4.heap.size w4 w' → w'.cell? ⟨w.heap.size, 0, none⟩ = some (.int .i64 n) ∧ w'.cell? ⟨w.heap.size, 1, none⟩ = some (.slice c' cs.length ccap) ∧ w'.cell? ⟨W3.heap.size, 0, none⟩ = some (.int .i64 b.f) ∧ w.heap.size < w'.heap.size ∧ W3.heap.size < w'.heap.size) := Lib.hid fun w' hS => by
          have h1 := (hS.block _ (lt_of_block HS1.out)).trans HS1.out
          have h2 := (hS.block _ (lt_of_block HS3.out)).trans HS3.out
          exact ⟨cell_of_row w' _ 0 _ _ _ h1, cell_of_row w' _ 1 _ _ _ h1, cell_of_row w' _ 0 _ _ _ h2, lt_of_block h1, lt_of_block h2⟩
        clear HZ1 HZ2 HZ3 HY1 HY2 HLA HRV
        refine wp_region_noPanic ?_
        refine wp_region_acts (fun w' => Below w4.heap.size w4 w') (fun _ _ h hb => grow_to h hb) (below_drawn _) (by kernel_rfl) (fun _ _ _ _ _ h => h)
          [.float 13, .take 0, .take 1, .take 2, .take 3, .take 4, .take 5, .take 6, .take 7, .take 8, .call 9, .take 10, .take 11, .take 12, .join] [14, 15] (by decide +kernel) ?_
        refine GWalk.floats (.cells #[.int .i64 0, .int .i64 0] 41 (0, 0)) (fun b => .pointer (some ⟨b, 0, none⟩)) rfl rfl rfl (fun w1 => by kernel_rfl) ?_
        simp only [List.nil_append, List.cons_append]
        iterate 8
          (refine GWalk.takes rfl rfl ?_; apply Exists.intro; refine ⟨fun w' hS => ?_, ?_⟩; (obtain ⟨z1, z2, z3, z4, z5⟩ := HC.out w' hS; clear hS; go_simp; with_reducible rfl); simp only [List.getElem_toArray, List.getElem_cons_succ, List.getElem_cons_zero, Act.put, List.setIfInBounds_toArray, List.set_cons_zero, List.set_cons_succ])
        refine GWalk.takes rfl rfl ⟨_, fun w' hS => exec_part50 (.tmp 39) (.tmp 42) rfl rfl (by first | rfl | (simp only [Act.eval]; first | exact congrArg (Value.int IntKind.i64) hwk | exact congrArg (Value.int IntKind.i64) hwk3)) (show K ≤ cap by omega), ?_⟩
        simp only [List.getElem_toArray, List.getElem_cons_succ, List.getElem_cons_zero, Act.put, List.setIfInBounds_toArray, List.set_cons_zero, List.set_cons_succ]
        refine GWalk.calls rfl rfl ?_; apply Exists.intro; apply Exists.intro; refine ⟨fun w' hS => ?_, fun v1 hb hS hO => ?_⟩; (clear hS; go_simp; exact ⟨rfl, rfl⟩)
        have hAll := below_to HB4.out hS
        refine (HIH.out (xs.take K) a cap b.f v1 HLT.out (by omega) (by omega) (HVV.out.same (.below hm hAll)) (HPT.out.same (.below hm hAll)) (Nat.le_trans hm hAll.size)).mono ?_
        rintro e v2 ⟨⟨lo, hi, rfl, hIs⟩, hb2⟩
        have HIS := Lib.hid hIs
        obtain ⟨o2, ho2⟩ : ∃ o2, o2 = tellR cs (xs.take K).reverse b.f := ⟨_, rfl⟩
        rw [← ho2] at HIS ⊢
        have HO2 := Lib.hid ho2
        refine ⟨_, rfl, hb2, grow_to hS hb2, ?_⟩
        simp only [List.getElem_toArray, List.getElem_cons_succ, List.getElem_cons_zero, Act.put, List.setIfInBounds_toArray, List.set_cons_zero, List.set_cons_succ]
        clear hb hS hO hb2 hAll hIs ho2
        iterate 3
          (refine GWalk.takes rfl rfl ?_; apply Exists.intro; refine ⟨fun w' hS => ?_, ?_⟩; (clear hS; go_simp; with_reducible rfl); simp only [List.getElem_toArray, List.getElem_cons_succ, List.getElem_cons_zero, Act.put, List.setIfInBounds_toArray, List.set_cons_zero, List.set_cons_succ])
        refine GWalk.joins fun v3 b10 hb hj1 hj2 hj3 hj4 => ?_
        simp only [List.getElem_toArray, List.getElem_cons_succ, List.getElem_cons_zero, Act.put, List.setIfInBounds_toArray, List.set_cons_zero, List.set_cons_succ]
        refine GWalk.fin fun v4 hb4 hS4 => ?_
        have hx4 := (hb4.block _ (lt_of_block hj4)).trans hj4
        refine Tail.put2 rfl rfl (.tmp 10) (.tmp 45) rfl b10 rfl _ _ lo hi rfl hx4 fun v5 hp5 hx5 => ⟨hp5.below hS4 (by omega), ?_⟩
        have hS5 := hp5.below hS4 hj1
        simp only [List.getElem_toArray, List.getElem_cons_succ, List.getElem_cons_zero, Act.put, List.setIfInBounds_toArray, List.set_cons_zero, List.set_cons_succ]
        refine Tail.value rfl rfl (by go_simp; with_reducible rfl) (Tail.done (NoPanic.normal ?_))
        simp only [List.getElem_toArray, List.getElem_cons_succ, List.getElem_cons_zero, Act.put, List.setIfInBounds_toArray, List.set_cons_zero, List.set_cons_succ]
        have HB5 := Lib.hid (below_to HB4.out hS5)
        have HX5 := Lib.hid hx5
        have HY2 := Lib.hid ((hS5.block _ (lt_of_block HS2.out)).trans HS2.out)
        have HY3 := Lib.hid ((hS5.block _ (lt_of_block HS3.out)).trans HS3.out)
        have hne : w.heap.size + 1 < b10 := by have := lt_of_block HS2.out; omega
        clear hb hj1 hj2 hj3 hj4 hb4 hS4 hx4 hp5 hx5 hS5 HC HS1 HS2 HS3 HB4 HPT HVV HXV HIH
        have c0 := cell_of_row v5 b10 0 _ _ _ HX5.out
        have c1 := cell_of_row v5 b10 1 _ _ _ HX5.out
        have d2 := cell_of_row v5 W3.heap.size 2 _ _ _ HY3.out
        have d3 := cell_of_row v5 W3.heap.size 3 _ _ _ HY3.out
        simp only [List.getElem?_toArray, List.getElem?_cons_zero, List.getElem?_cons_succ] at c0 c1 d2 d3
        have l0 := lt_of_block HX5.out
        have l3 := lt_of_block HY3.out
        obtain ⟨hI1, hI2, hI3, hI4, hI5⟩ := HIS.out
        obtain ⟨⟨hB1, hB2⟩, hB3, hB4⟩ := HBI.out
        have w1 : IntKind.i64.wrap (lo + b.lo) = lo + b.lo := IntWalk.i64_in _ (by omega)
        have w2 : IntKind.i64.wrap (hi + b.hi) = hi + b.hi := IntWalk.i64_in _ (by omega)
        have HTI : Hid (TellIs ((tellR cs (xs.take K).reverse b.f).map fun r => ⟨max (r.lo + b.lo) 0, min (r.hi + b.hi) 100⟩) (100 * ((K + 1 : Nat) + 1)) (max (lo + b.lo) 0) (min (hi + b.hi) 100)) := Lib.hid ⟨fun r hr => by
          obtain ⟨r0, h0, rfl⟩ := Option.map_eq_some_iff.1 hr
          obtain ⟨e1, e2⟩ := hI1 r0 (by rw [HO2.out]; exact h0)
          rw [e1, e2]
          exact ⟨rfl, rfl⟩, by omega, by omega, by omega, by omega⟩
        clear hI1 hI2 hI3 hI4 hI5 hB1 hB2 hB3 hB4 HIS HBI
        go_wp2_with fail
        refine (plus_any lo hi b.lo b.hi v5 w1 w2).mono ?_
        rintro e W6 ⟨rfl, hb6⟩
        replace HY2 := Lib.hid ((hb6.block _ (lt_of_block HY2.out)).trans HY2.out)
        replace HB5 := Lib.hid (below_to HB5.out hb6)
        clear hb6 c0 c1 d2 d3 l0 l3 HX5 HY3
        go_wp2_with fail
        refine (everyGrade_any W6).mono ?_
        rintro e W7 ⟨rfl, hb6⟩
        replace HY2 := Lib.hid ((hb6.block _ (lt_of_block HY2.out)).trans HY2.out)
        replace HB5 := Lib.hid (below_to HB5.out hb6)
        clear hb6
        go_wp2_with fail
        refine (cut_any _ _ _ _ W7).mono ?_
        rintro e W8 ⟨rfl, hb6⟩
        replace HY2 := Lib.hid ((hb6.block _ (lt_of_block HY2.out)).trans HY2.out)
        replace HB5 := Lib.hid (below_to HB5.out hb6)
        clear hb6
        go_wp2_with (first
          | (refine wpList_store2 rfl (.tmp 6) (.tmp 52) rfl (w.heap.size + 1) rfl _ _ (max (lo + b.lo) 0) (min (hi + b.hi) 100) rfl HY2.out ?_
             intro w2 hp2 hg2
             have HP2 := Lib.hid hp2
             have HG2 := Lib.hid hg2
             clear hp2 hg2)
          | fail)
        rw [HT.out]
        refine ⟨rfl, _, tell_end rfl (by simp; rfl) HG2.out, ⟨_, _, by simp [HO2.out], HTI.out⟩, HP2.out.below HB5.out (by omega)⟩
end Go.Proofs.Ytplmlmmjfkbabaa
