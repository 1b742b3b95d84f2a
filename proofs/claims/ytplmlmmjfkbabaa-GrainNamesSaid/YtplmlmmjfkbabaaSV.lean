/- What a chain tells of a picture, by the program. No condition. -/
import Derived.Test.YtplmlmmjfkbabaaSU
import Derived.Test.YtplmlmmjfkbabaaSE
import Derived.Test.YtplmlmmjfkbabaaRMJ
namespace Go.Proofs.Ytplmlmmjfkbabaa
open Go.RowKit Go.Shelf
attribute [local irreducible] arrV wpQuiet mat shl

def lastO (cs : List Cm) (x p : Int) : Option Bd := if 0 ≤ x ∧ x < cs.length then leadO (cm cs x.toNat) p else none
theorem set_four {w : World} {b : Nat} {u v x y u' v' x' y' : Value} {t : TypeId} (h : w.heap[b]? = some (.cells #[u, v, x, y] t (0, 0))) : (w.setCells b 0 [u', v', x', y']).heap[b]? = some (.cells #[u', v', x', y'] t (0, 0)) := by
  have := set_list b t [u', v', x', y'] [] [u, v, x, y] [] w rfl (by simpa using h)
  simpa using this
theorem lead_agg (o : Option Bd) : ∃ x1 x2 x3 x4 : Int, bdC o = #[.int .i64 x1, .int .i64 x2, .int .i64 x3, .int .i64 x4] := by
  cases o with
  | none => exact ⟨0, 0, 0, 0, rfl⟩
  | some b => exact ⟨b.f, b.t, b.lo, b.hi, rfl⟩
theorem wpList_store4 {ops : Array Oper} {rest : List Oper} {o : Oper} {a : Act} {Q : Exit → Act → World → Prop} {w : World} (hgd : o.guard = none) (x y : Operand) (ho : o.op = .store 119 x y) (g : Nat) (hx : a.eval x = .pointer (some ⟨g, 0, none⟩))
    (u1 u2 u3 u4 : Value) (x1 x2 x3 x4 : Int) (hy : a.eval y = .agg #[.int .i64 x1, .int .i64 x2, .int .i64 x3, .int .i64 x4]) (hg : w.heap[g]? = some (.cells #[u1, u2, u3, u4] 119 (0, 0)))
    (h : ∀ w2, Put g w w2 → w2.heap[g]? = some (.cells #[.int .i64 x1, .int .i64 x2, .int .i64 x3, .int .i64 x4] 119 (0, 0)) → wpList Try.prog ops Q rest (a.put o.dst undef) w2) : wpList Try.prog ops Q (o :: rest) a w :=
  wpList_store_mid hgd 119 x y ho g 0 #[.int .i64 x1, .int .i64 x2, .int .i64 x3, .int .i64 x4] hx hy (there_block hg (by simp)) (by kernel_rfl) (by simp [Value.oneCell']) (h _ (put_cells _ _ _ _) (set_four hg))
theorem last_end {w W2 w2 : World} {D : Nat} {tmps : Array Value} {o : Option Bd} (h6 : tmps[6]? = some (.pointer (some ⟨D, 0, none⟩))) (h7 : tmps[7]? = some (.bool o.isSome))
    (hr : w2.heap[D]? = some (.cells (bdC o) 119 (0, 0))) : (results Try.f79 tmps).run Try.prog w2 = .ok (leadV o) w2 := by
  have hr0 : ∃ x1 x2 x3 x4 : Int, bdC o = #[.int .i64 x1, .int .i64 x2, .int .i64 x3, .int .i64 x4] := lead_agg o
  unfold leadV
  obtain ⟨x1, x2, x3, x4, hx⟩ := hr0
  rw [hx] at hr ⊢
  have e0 := cell_of_row _ D 0 _ _ _ hr
  have e1 := cell_of_row _ D 1 _ _ _ hr
  have e2 := cell_of_row _ D 2 _ _ _ hr
  have e3 := cell_of_row _ D 3 _ _ _ hr
  simp only [List.getElem?_toArray, List.getElem?_cons_zero, List.getElem?_cons_succ] at e0 e1 e2 e3
  simp [results, Try.results79, go_sem, *]
set_option maxRecDepth 100000 in
set_option maxHeartbeats 4000000 in
theorem last_any (m : Nat) (n : Int) (v cv : Value) (cs : List Cm) (xs : List Int) (p : Int) (w : World) (hA : AlbOk n cs) (hx : 0 < xs.length) (hxl : xs.length ≤ 1000) (hV : CmsV m w v cs) (hX : IntsV m w cv xs) (hm : m ≤ w.heap.size) :
    Calls Try.prog 79 #[.agg #[.int .i64 n, v], .int .i64 p, cv] w fun e w' => e = .returned (leadV (lastO cs (ld xs (xs.length - 1)) p)) ∧ Below w.heap.size w w' := by
  obtain ⟨a, cap, rfl, hp⟩ := hV
  obtain ⟨xb, xo, xc, rfl, hxb, hxc⟩ := ints_get hX (show xs.length - 1 < xs.length by omega)
  obtain ⟨K, hK⟩ : ∃ K, xs.length = K + 1 := ⟨xs.length - 1, by omega⟩
  have hK1 : xs.length - 1 = K := by omega
  rw [hK1] at hxc ⊢
  obtain ⟨X, hXX⟩ : ∃ X, X = ld xs K := ⟨_, rfl⟩
  rw [← hXX] at hxc ⊢
  have HP := Lib.hid hp
  have HOK := Lib.hid hA
  have h1 := box2 w (.cells #[.int .i64 n, .slice a cs.length cap] 31) (.cells #[.int .i64 0, .int .i64 0, .int .i64 0, .int .i64 0] 119)
  have HX1 := Lib.hid h1.1
  have HX2 := Lib.hid h1.2
  have HB := Lib.hid (below2 w (.cells #[.int .i64 n, .slice a cs.length cap] 31) (.cells #[.int .i64 0, .int .i64 0, .int .i64 0, .int .i64 0] 119))
  have p1 := (HB.out.cell (p := ⟨xb, xo + K, none⟩) (show xb < w.heap.size by omega)).trans hxc
  have lw := HB.out.size
  have lx : xb < ((w.alloc (.cells #[.int .i64 n, .slice a cs.length cap] 31)).alloc (.cells #[.int .i64 0, .int .i64 0, .int .i64 0, .int .i64 0] 119)).heap.size := by omega
  have hwk : IntKind.i64.wrap ((K : Int) + 1 - 1) = K := by rw [show (K : Int) + 1 - 1 = K by omega]; exact IntWalk.i64_in _ (by omega)
  have hwk2 : IntKind.i64.wrap ((xs.length : Int) - 1) = K := by rw [show (xs.length : Int) - 1 = K by omega]; exact IntWalk.i64_in _ (by omega)
  have hKi : (K : Int) < xs.length := by omega
  have hl12 := hA.len
  clear hp h1 hxc hXX hX hK1 hA hxl hx
  have HK := Lib.hid hK
  clear hK
  go_enter Try.func79, Try.ntmps79
  obtain ⟨W2, hW2⟩ : ∃ W2, (w.alloc (.cells #[.int .i64 n, .slice a cs.length cap] 31)).alloc (.cells #[.int .i64 0, .int .i64 0, .int .i64 0, .int .i64 0] 119) = W2 := ⟨_, rfl⟩
  rw [hW2] at p1 lx HX1 HX2 HB lw
  have c1 := cell_of_row W2 w.heap.size 1 _ _ _ HX1.out
  simp only [List.getElem?_toArray, List.getElem?_cons_zero, List.getElem?_cons_succ] at c1
  have l1 := lt_of_block HX1.out
  by_cases h0 : X < 0
  · have e0 : decide (X < 0) = true := decide_eq_true h0
    have HLO : Hid (lastO cs X p = none) := Lib.hid (by unfold lastO; rw [if_neg (by omega)])
    go_wp2_with (first
      | (refine wpList_store4 rfl (.tmp 6) (.tmp 24) rfl (w.heap.size + 1) rfl _ _ _ _ 0 0 0 0 rfl HX2.out ?_
         intro w2 hp2 hg2
         have HP2 := Lib.hid hp2
         have HG2 := Lib.hid hg2
         clear hp2 hg2)
      | fail)
    rw [HLO.out]
    refine ⟨rfl, _, last_end (o := none) (W2 := W2) (w := w) rfl rfl HG2.out, rfl, HP2.out.below HB.out (by omega)⟩
  · by_cases h1 : (cs.length : Int) ≤ X
    · have e0 : decide (X < 0) = false := decide_eq_false h0
      have e1 : decide ((cs.length : Int) ≤ X) = true := decide_eq_true h1
      have HLO : Hid (lastO cs X p = none) := Lib.hid (by unfold lastO; rw [if_neg (by omega)])
      go_wp2_with (first
        | (refine wpList_store4 rfl (.tmp 6) (.tmp 24) rfl (w.heap.size + 1) rfl _ _ _ _ 0 0 0 0 rfl HX2.out ?_
           intro w2 hp2 hg2
           have HP2 := Lib.hid hp2
           have HG2 := Lib.hid hg2
           clear hp2 hg2)
        | fail)
      rw [HLO.out]
      refine ⟨rfl, _, last_end (o := none) (W2 := W2) (w := w) rfl rfl HG2.out, rfl, HP2.out.below HB.out (by omega)⟩
    · have e0 : decide (X < 0) = false := decide_eq_false h0
      have e1 : decide ((cs.length : Int) ≤ X) = false := decide_eq_false h1
      obtain ⟨k, rfl⟩ : ∃ k : Nat, X = k := ⟨X.toNat, by omega⟩
      have hk : k < cs.length := by omega
      have HLO : Hid (lastO cs (k : Int) p = leadO (cm cs k) p) := Lib.hid (by unfold lastO; rw [if_pos (by omega)]; rfl)
      have hck := HOK.out.cm _ (cm_mem hk)
      have HC : Hid (-100 ≤ (cm cs k).lo ∧ (cm cs k).lo ≤ 100 ∧ -100 ≤ (cm cs k).hi ∧ (cm cs k).hi ≤ 100) := Lib.hid ⟨hck.lo, by have := hck.le; have := hck.hi; omega, by have := hck.le; have := hck.lo; omega, hck.hi⟩
      clear hck
      obtain ⟨b, off, rfl, hb, hcell⟩ := HP.out (by omega)
      obtain ⟨g1, g2, g3, g4⟩ := hcell k hk
      have lb : b < w.heap.size := by omega
      have lb2 : b < W2.heap.size := by omega
      have z1 := (HB.out.cell (p := ⟨b, off + k * 4, none⟩) lb).trans g1
      have z2 := (HB.out.cell (p := ⟨b, off + k * 4 + 1, none⟩) lb).trans g2
      have z3 := (HB.out.cell (p := ⟨b, off + k * 4 + 2, none⟩) lb).trans g3
      have z4 := (HB.out.cell (p := ⟨b, off + k * 4 + 3, none⟩) lb).trans g4
      have hki : (k : Int) < cs.length := by omega
      have hk0 : ¬ (k : Int) < 0 := by omega
      clear hcell g1 g2 g3 g4 h0 h1 HP
      go_wp2_with fail
      refine (leading_any (cm cs k) p W2 HC.out).mono ?_
      rintro e W3 ⟨rfl, hb3⟩
      obtain ⟨o, ho⟩ : ∃ o, o = leadO (cm cs k) p := ⟨_, rfl⟩
      obtain ⟨y1, y2, y3, y4, hy⟩ := lead_agg o
      rw [← ho]
      have HL2 := Lib.hid (HLO.out.trans ho.symm)
      unfold leadV
      have HY := Lib.hid hy
      rw [hy]
      have HX3 := Lib.hid ((hb3.block _ (lt_of_block HX2.out)).trans HX2.out)
      have HB3 := Lib.hid (below_to HB.out hb3)
      obtain ⟨s, hs⟩ : ∃ s, s = o.isSome := ⟨_, rfl⟩
      rw [← hs]
      have HS := Lib.hid hs
      clear hb3 hs hy p1 z1 z2 z3 z4 HX1 HX2 HB HLO HC ho
      go_wp2_with (first
        | (refine wpList_store4 rfl (.tmp 6) (.tmp 32) rfl (w.heap.size + 1) rfl _ _ _ _ y1 y2 y3 y4 rfl HX3.out ?_
           intro w2 hp2 hg2
           have HP2 := Lib.hid hp2
           have HG2 := Lib.hid hg2
           clear hp2 hg2)
        | fail)
      rw [HL2.out]
      refine ⟨rfl, _, last_end (o := o) (W2 := W2) (w := w) rfl (by rw [← HS.out]; rfl) (by rw [HY.out]; exact HG2.out), by simp only [leadV, HY.out, HS.out], HP2.out.below HB3.out (by omega)⟩
end Go.Proofs.Ytplmlmmjfkbabaa
