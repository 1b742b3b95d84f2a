/- CurveUnits where the curve and the rule are valid. -/
import Derived.Test.YtfjlnejeffkdoaaTT
import Derived.Test.YtfjlnejeffkdoaaVV
import Derived.Test.YtfjlnejeffkdoaaWW
namespace Go.Proofs.Ytfjlnejeffkdoaa
open Go.RowKit Go.Shelf
attribute [local irreducible] arrV wpQuiet

set_option maxRecDepth 100000 in
set_option maxHeartbeats 4000000 in
theorem units_yes (b off cap m capw : Nat) (aw : Option Addr) (ps : List Pt) (r : Rl) (wd : Nat → Int) (ta na : Int) (w : World) (hn : ps.length ≤ 20) (h0 : 0 < ps.length) (hg : goodsB ps 0 = true) (hr : ruleB r = true) (hp : PtsIn w b off ps)
    (hta : 0 ≤ ta ∧ ta < 256) (hna : 0 ≤ na ∧ na < 256)
    (hm : m ≤ maxLen) (hw : ∀ j, j < m → ∃ bw ow, aw = some ⟨bw, ow, none⟩ ∧ w.cell? ⟨bw, ow + j, none⟩ = some (.int .u16 (wd j)) ∧ 0 ≤ wd j ∧ wd j < 65536)
    (HR : ∀ W, Below w.heap.size w W → Calls Try.prog 41 #[.agg #[.slice (some ⟨b, off, none⟩) ps.length cap], .agg #[.int .i64 r.d, .int .i64 r.k, .int .i64 r.o]] W fun e w' => e = .returned (.bool true) ∧ Below W.heap.size W w') :
    Calls Try.prog 12 #[.agg #[.slice (some ⟨b, off, none⟩) ps.length cap], .agg #[.int .i64 r.d, .int .i64 r.k, .int .i64 r.o], .slice aw m capw, .int .u8 ta, .int .u8 na] w fun e w' => e = .returned (.bool true) ∧ Below w.heap.size w w' := by
  have hltb := block_lt_of_cell (hp 0 h0).1
  have hlo : ∀ i, i < ps.length → 0 ≤ (pt ps i).s ∧ (pt ps i).s ≤ 1000 ∧ 0 ≤ (pt ps i).lo ∧ (pt ps i).lo ≤ (pt ps i).hi ∧ (pt ps i).hi ≤ 100000 := fun i hi => ⟨(goodB_spec hg hi).2.1.1, (goodB_spec hg hi).2.1.2, (goodB_spec hg hi).2.2⟩
  have hfit := pickL_fits (m := m) (wd := wd) (fun i hi => (hlo i hi).2.2.2.1) (fun j hj => by obtain ⟨_, _, _, _, h, _⟩ := hw j hj; exact h)
  have hlen := pickL_len ps m wd ps.length
  have HPK := Lib.hid fun W (hb : Below w.heap.size w W) => Picked_row b off cap m capw aw ps wd W hn h0 (hp.below hb hltb) (fun i hi => (hlo i hi).2.2) hm (fun j hj => by
    obtain ⟨bw, ow, h1, h2, h3⟩ := hw j hj
    exact ⟨bw, ow, h1, (hb.cell (p := ⟨bw, ow + j, none⟩) (block_lt_of_cell h2)).trans h2, h3⟩)
  generalize ht : pickL ps m wd ps.length = t at *
  clear ht hw hm
  have G : Good ps r t := ⟨hn, h0, hg, hr, hlen, hfit⟩
  have HCV := Lib.hid fun W (hb : Below w.heap.size w W) => Curve_any b off cap ps W hn h0 (hp.below hb hltb)
  have HRD1 := Lib.hid fun (B2 c2 B3 c3 : Nat) W h1 h2 => Read_ok B2 0 c2 B3 0 c3 ps r t W G h1 h2
  have HFIT := Lib.hid hfit
  have HBD := Lib.hid (read_bd G)
  have HLD : Hid (∀ i, i < ps.length → 0 ≤ ld t i ∧ ld t i ≤ 100000) := Lib.hid fun i hi => by
    have := G.fine.ld i
    rw [pad_ld t i (by rw [hlen]; exact hi)] at this
    exact this
  have HT := Lib.hid hlen
  have HH0 := Lib.hid h0
  clear hfit hlen G
  generalize hxR : readR ps r (pad t) = x at *
  have HXR := Lib.hid hxR
  clear hxR
  have hb2 := below2 w (.cells #[.slice (some ⟨b, off, none⟩) ps.length cap] 24) (.cells #[.int .i64 r.d, .int .i64 r.k, .int .i64 r.o] 26)
  obtain ⟨hx1, hx2⟩ := box2 w (.cells #[.slice (some ⟨b, off, none⟩) ps.length cap] 24) (.cells #[.int .i64 r.d, .int .i64 r.k, .int .i64 r.o] 26)
  have HRR := Lib.hid HR
  have HA := Lib.hid awake_any
  have hwa : IntKind.i64.wrap ta = ta := IntWalk.i64_in _ (by omega)
  have hwb : IntKind.i64.wrap na = na := IntWalk.i64_in _ (by omega)
  have HTA := Lib.hid hta
  have HNA := Lib.hid hna
  have hrb : (1 ≤ r.d ∧ r.d ≤ 100000) ∧ (1 ≤ r.k ∧ r.k ≤ 1000) ∧ 0 ≤ r.o ∧ r.o ≤ 1000 := by simpa [ruleB, hasB] using hr
  clear HR hta hna
  go_enter Try.func12, Try.ntmps12
  go_wp2_with fail
  refine (HRR.out _ hb2).mono ?_
  rintro e w1 ⟨rfl, hb1⟩
  replace hx1 := (hb1.block _ (by simp; omega)).trans hx1
  replace hx2 := (hb1.block _ (lt_of_block hx2)).trans hx2
  have hbw := below_to hb2 hb1
  clear hb1 hb2
  go_wp2_with fail
  have htm : ta.tmod 4 = ta % 4 := Int.tmod_eq_emod_of_nonneg HTA.out.1
  have hcw : wrap64 (1 + ta.tmod 4) = 1 + ta.tmod 4 := IntWalk.wrap64_in _ (by omega)
  obtain ⟨c, hc, hcb⟩ : ∃ c, wrap64 (1 + ta.tmod 4) = c ∧ 1 ≤ c ∧ c ≤ 4 := ⟨_, rfl, by omega⟩
  rw [hc]
  obtain ⟨m1, m2⟩ := box2 w1 (.cells #[.slice none 0 0] 24) (.cells #[.slice none 0 0] 24)
  have hb2 := below2 w1 (.cells #[.slice none 0 0] 24) (.cells #[.slice none 0 0] 24)
  have hHX : w.heap.size + 2 ≤ w1.heap.size := by have := lt_of_block hx2; omega
  have hs2 : w1.heap.size + 2 ≤ ((w1.alloc (.cells #[.slice none 0 0] 24)).alloc (.cells #[.slice none 0 0] 24)).heap.size := by simp
  replace hx1 := (hb2.block _ (lt_of_block hx1)).trans hx1
  replace hx2 := (hb2.block _ (lt_of_block hx2)).trans hx2
  replace hbw := below_to hbw hb2
  generalize World.alloc (World.alloc w1 _) _ = W2 at *
  clear hb2 htm hcw hc
  generalize w1.heap.size = X at *
  clear w1
  have K0 := Lib.hid hx1
  have K1 := Lib.hid hx2
  have M1 := Lib.hid m1
  have M2 := Lib.hid m2
  have HBW := Lib.hid hbw
  have HHX := Lib.hid hHX
  have HS2 := Lib.hid hs2
  clear hx1 hx2 m1 m2 hbw hHX hs2
  go_loopw [15] (fun i wr => ∃ (q : Nat) (vx vy : Value), q ≤ ps.length ∧ i = .int .i64 q ∧ Hid (wr.heap[w.heap.size]? = some (.cells #[.slice (some ⟨b, off, none⟩) ps.length cap] 24 (0, 0))) ∧ Hid (wr.heap[w.heap.size + 1]? = some (.cells #[.int .i64 r.d, .int .i64 r.k, .int .i64 r.o] 26 (0, 0))) ∧
      Hid (wr.heap[X]? = some (.cells #[vx] 24 (0, 0))) ∧ Hid (wr.heap[X + 1]? = some (.cells #[vy] 24 (0, 0))) ∧ Hid (wr.ownsRow (X + 2) 84 3 vx q (flatT ((scaleP c ps).take q))) ∧ Hid (wr.ownsRow (X + 2) 84 3 vy q (flatT ((shiftP na ps).take q))) ∧
      Hid (∀ g, vx.ownBlock = some g → vy.ownBlock ≠ some g) ∧ Hid (Below w.heap.size w wr) ∧ Hid (X + 2 ≤ wr.heap.size)) (fun i _ => ps.length - (intOf i).toNat)
  case atStart => exact ⟨0, .slice none 0 0, .slice none 0 0, Nat.zero_le _, rfl, K0, K1, M1, M2, Lib.hid (World.ownsRow_nil _ _ _ _), Lib.hid (World.ownsRow_nil _ _ _ _), Lib.hid (fun g h => by simp [Value.ownBlock] at h), HBW, HS2⟩
  case round =>
    obtain ⟨q, vx, vy, hq, rfl, hx0, hx1, hmx, hmy, hox, hoy, hdis, hb, hsz⟩ := hrel
    clear K0 K1 M1 M2 HBW HS2
    have c0 := cell_of_row wr w.heap.size 0 _ _ _ hx0.out
    have cx := cell_of_row wr X 0 _ _ _ hmx.out
    have cy := cell_of_row wr (X + 1) 0 _ _ _ hmy.out
    simp at c0 cx cy
    have l0 := lt_of_block hx0.out
    have lx := lt_of_block hmx.out
    have ly := lt_of_block hmy.out
    by_cases hlt : q < ps.length
    · have p1 := (hb.out.cell (p := ⟨b, off + q * 3, none⟩) hltb).trans (hp q hlt).1
      have p2 := (hb.out.cell (p := ⟨b, off + q * 3 + 1, none⟩) hltb).trans (hp q hlt).2.1
      have p3 := (hb.out.cell (p := ⟨b, off + q * 3 + 2, none⟩) hltb).trans (hp q hlt).2.2
      have hqn : (q : Int) < ps.length := by omega
      have hw9 : IntKind.i64.wrap ((q : Int) + 1) = (q : Int) + 1 := IntWalk.i64_in _ (by omega)
      obtain ⟨u1, u2, u3, u4, u5⟩ := hlo q hlt
      have hm1 : 0 ≤ c * (pt ps q).lo ∧ c * (pt ps q).lo ≤ 4 * 100000 := ⟨Int.mul_nonneg (by omega) u3, Int.mul_le_mul hcb.2 (by omega) u3 (by omega)⟩
      have hm2 : 0 ≤ c * (pt ps q).hi ∧ c * (pt ps q).hi ≤ 4 * 100000 := ⟨Int.mul_nonneg (by omega) (by omega), Int.mul_le_mul hcb.2 u5 (by omega) (by omega)⟩
      have hwl : IntKind.i64.wrap (c * (pt ps q).lo) = c * (pt ps q).lo := IntWalk.i64_in _ (by omega)
      have hwh : IntKind.i64.wrap (c * (pt ps q).hi) = c * (pt ps q).hi := IntWalk.i64_in _ (by omega)
      have hws : IntKind.i64.wrap ((pt ps q).s + na) = (pt ps q).s + na := IntWalk.i64_in _ (by have := HNA.out; omega)
      have HFX : Hid (flatT ((scaleP c ps).take (q + 1)) = flatT ((scaleP c ps).take q) ++ [.int .i64 (pt ps q).s, .int .i64 (c * (pt ps q).lo), .int .i64 (c * (pt ps q).hi)]) := Lib.hid (by
        rw [flatT_take _ q (by rw [scale_len]; exact hlt), scale_pt hlt])
      have HFY : Hid (flatT ((shiftP na ps).take (q + 1)) = flatT ((shiftP na ps).take q) ++ [.int .i64 ((pt ps q).s + na), .int .i64 (pt ps q).lo, .int .i64 (pt ps q).hi]) := Lib.hid (by
        rw [flatT_take _ q (by rw [shift_len]; exact hlt), shift_pt hlt])
      have HLX : Hid (∀ g, vx.ownBlock = some g → g < wr.heap.size) := Lib.hid fun g hg => by
        rcases hox.out.2 with ⟨hv, _⟩ | ⟨g', _, cur, hv, _, hgg, _⟩
        · rw [hv] at hg; simp [Value.ownBlock] at hg
        · rw [hv] at hg
          simp [Value.ownBlock] at hg
          subst hg
          exact lt_of_block hgg
      have HLY : Hid (∀ g, vy.ownBlock = some g → g < wr.heap.size) := Lib.hid fun g hg => by
        rcases hoy.out.2 with ⟨hv, _⟩ | ⟨g', _, cur, hv, _, hgg, _⟩
        · rw [hv] at hg; simp [Value.ownBlock] at hg
        · rw [hv] at hg
          simp [Value.ownBlock] at hg
          subst hg
          exact lt_of_block hgg
      generalize pt ps q = P at *
      clear u1 u2 u3 u4 u5 hm1 hm2
      go_wp2_with (first
        | (refine wpList_append_pt84 rfl (.tmp 51) (.tmp 66) rfl (X + 2) q vx (flatT ((scaleP c ps).take q)) ⟨P.s, c * P.lo, c * P.hi⟩ (wr.heap.size + 1) rfl rfl
            (hox.out.kept (row := none) ⟨rfl, rfl, rfl, (below2 wr _ _).size, fun k hk _ => (below2 wr _ _).block k hk⟩ (by cases h : vx.ownBlock <;> simp)) (Nat.le_trans hsz.out (below2 wr _ _).size) (box2 wr _ _).2 (by omega) ?_
           intro gx kx w5 hx5 hsz5 hkeep hbel hat
           have hD := below2 wr (.cells #[.int .i64 P.s, .int .i64 P.lo, .int .i64 P.hi] 84 (0, 0)) (.cells #[.int .i64 P.s, .int .i64 (c * P.lo), .int .i64 (c * P.hi)] 84 (0, 0))
           have hHX := HHX.out
           have y0 := (hbel.block w.heap.size (by omega)).trans ((hD.block _ l0).trans hx0.out)
           have y1 := (hbel.block (w.heap.size + 1) (by omega)).trans ((hD.block _ (lt_of_block hx1.out)).trans hx1.out)
           have yx := (hbel.block X (by omega)).trans ((hD.block _ lx).trans hmx.out)
           have yy := (hbel.block (X + 1) (by omega)).trans ((hD.block _ ly).trans hmy.out)
           have yb := (hkeep wr.heap.size (by simp; omega) (fun h => by have := HLX.out _ h; omega)).trans (box2 wr _ _).1
           have hoy5 := (hoy.out.kept (row := none) ⟨hD.os, hD.tape, hD.output, hD.size, fun k hk _ => hD.block k hk⟩ (by cases h : vy.ownBlock <;> simp)).kept (w' := w5) (row := vx.ownBlock) ⟨hbel.os, hbel.tape, hbel.output, hsz5, fun k hk hne => hkeep k hk (fun e => hne e.symm)⟩ (by
             cases h : vx.ownBlock with
             | none => cases vy.ownBlock <;> simp
             | some g => exact .inr (hdis.out g h))
           have hgx : vy.ownBlock ≠ some gx := by
             rcases hat with h | h
             · exact hdis.out gx h
             · intro h'
               have := HLY.out gx h'
               simp at h
               omega
           have hgxb : X + 2 ≤ gx := by
             rcases hx5.2 with ⟨h, _⟩ | ⟨g', _, _, h, h', _⟩
             · cases h
             · cases h; exact h'
           have hb5 := (grow_to hb.out hD).trans (hbel.mono (by omega))
           have hs5 : wr.heap.size + 2 ≤ w5.heap.size := by simpa using hsz5
           clear c0 cx cy l0 lx ly p1 p2 p3 hkeep hbel hat hD hsz5
           have cx5 := cell_of_row w5 X 0 _ _ _ yx
           have fx5 := frozen_of_row w5 X 0 _ _ yx
           have cy5 := cell_of_row w5 (X + 1) 0 _ _ _ yy
           have cb0 := cell_of_row w5 wr.heap.size 0 _ _ _ yb
           have cb1 := cell_of_row w5 wr.heap.size 1 _ _ _ yb
           have cb2 := cell_of_row w5 wr.heap.size 2 _ _ _ yb
           simp at cx5 cy5 cb0 cb1 cb2
           have hnb : ¬ (wr.heap.size = X) := by have := hsz.out; omega
           have lx5 := lt_of_block yx
           have ly5 := lt_of_block yy
           have Y0 := Lib.hid y0
           have Y1 := Lib.hid y1
           have YX := Lib.hid yx
           have YY := Lib.hid yy
           have HX5 := Lib.hid hx5
           have HOY5 := Lib.hid hoy5
           have HGX := Lib.hid hgx
           have HGXB := Lib.hid hgxb
           have HB5 := Lib.hid hb5
           have HS5 := Lib.hid hs5
           clear y0 y1 yx yy yb hx5 hoy5 hgx hgxb hb5 hs5 hHX)
        | (refine wpList_append_pt84 rfl (.tmp 70) (.tmp 78) rfl (X + 2) q vy (flatT ((shiftP na ps).take q)) ⟨P.s + na, P.lo, P.hi⟩ w5.heap.size rfl rfl ?sideO ?sideB ?sideA (by omega) ?sideM
           case sideO =>
             obtain ⟨o1, o2⟩ := HOY5.out
             have hA : World.ownsRow (w5.setCell ⟨X, 0, none⟩ (.slice (some ⟨gx, 0, none⟩) (q + 1) kx)) (X + 2) 84 3 vy q (flatT ((shiftP na ps).take q)) :=
               ⟨o1, o2.elim .inl fun ⟨g, cp, cur, e1, e2, e3, e4⟩ => .inr ⟨g, cp, cur, e1, e2, (heap_setCell_other w5 ⟨X, 0, none⟩ g _ (by show g ≠ X; omega)).trans e3, e4⟩⟩
             exact hA.kept (row := none) ⟨rfl, rfl, rfl, (box_below _ _).size, fun k hk _ => (box_below _ _).block k hk⟩ (by cases h : vy.ownBlock <;> simp)
           case sideB =>
             have := HS5.out
             have := hsz.out
             simp [World.setCell]
             omega
           case sideA =>
             have := heap_alloc_new (w5.setCell ⟨X, 0, none⟩ (.slice (some ⟨gx, 0, none⟩) (q + 1) kx)) (.cells #[.int .i64 (P.s + na), .int .i64 P.lo, .int .i64 P.hi] 84 (0, 0))
             simpa [World.setCell] using this
           intro gy ky w7 hy7 hsz7 hkeep7 hbel7 hat7
           go_loud (
             have hHX := HHX.out
             have hS5 := HS5.out
             have hSZ := hsz.out
             have hzz : ((w5.setCell ⟨X, 0, none⟩ (.slice (some ⟨gx, 0, none⟩) (q + 1) kx)).alloc (.cells #[.int .i64 (P.s + na), .int .i64 P.lo, .int .i64 P.hi] 84 (0, 0))).heap.size = w5.heap.size + 1 := by simp [World.setCell]
             have low : ∀ k, k < w5.heap.size → k ≠ X → ((w5.setCell ⟨X, 0, none⟩ (.slice (some ⟨gx, 0, none⟩) (q + 1) kx)).alloc (.cells #[.int .i64 (P.s + na), .int .i64 P.lo, .int .i64 P.hi] 84 (0, 0))).heap[k]? = w5.heap[k]? := fun k h1 h2 =>
               (heap_alloc_low _ _ _ (by simpa [World.setCell] using h1)).trans (heap_setCell_other w5 ⟨X, 0, none⟩ k _ h2)
             have z0 := (hbel7.block w.heap.size (by omega)).trans ((low _ (lt_of_block Y0.out) (by omega)).trans Y0.out)
             have z1 := (hbel7.block (w.heap.size + 1) (by omega)).trans ((low _ (lt_of_block Y1.out) (by omega)).trans Y1.out)
             have zy := (hbel7.block (X + 1) (by omega)).trans ((low _ ly5 (by omega)).trans YY.out)
             have zx := (hbel7.block X (by omega)).trans ((heap_alloc_low _ _ _ (by simpa [World.setCell] using lx5)).trans (heap_setCell_same w5 X 0 _ 24 (.slice (some ⟨gx, 0, none⟩) (q + 1) kx) YX.out))
             simp at zx
             have hgl : gx < w5.heap.size := by
               rcases HX5.out.2 with ⟨h, _⟩ | ⟨g', _, _, h, _, h', _⟩
               · cases h
               · cases h; exact lt_of_block h'
             have hx7 : World.ownsRow w7 (X + 2) 84 3 (.slice (some ⟨gx, 0, none⟩) (q + 1) kx) (q + 1) (flatT ((scaleP c ps).take (q + 1))) := by
               rw [HFX.out]
               obtain ⟨o1, o2⟩ := HX5.out
               refine ⟨o1, o2.elim .inl fun ⟨g, cp, cur, e1, e2, e3, e4⟩ => .inr ⟨g, cp, cur, e1, e2, ?_, e4⟩⟩
               cases e1
               exact (hkeep7 gx (by omega) HGX.out).trans ((low gx hgl (by have := HGXB.out; omega)).trans e3)
             have hgy : gx ≠ gy := by
               rcases hat7 with h | h
               · intro e; exact HGX.out (by rw [h, e])
               · omega
             have hgyb : X + 2 ≤ gy := by
               rcases hy7.2 with ⟨h, _⟩ | ⟨g', _, _, h, h', _⟩
               · cases h
               · cases h; exact h'
             have hb7 : Below w.heap.size w w7 := ((HB5.out.setCell (p := ⟨X, 0, none⟩) (by show w.heap.size ≤ X; omega) (.slice (some ⟨gx, 0, none⟩) (q + 1) kx)).trans ((box_below _ _).mono (by have := HB5.out.size; simpa [World.setCell] using this))).trans (hbel7.mono (by omega)))
           clear hkeep7 hbel7 hat7
           have hs7 : X + 2 ≤ w7.heap.size := by have := hsz.out; have := HS5.out; have := lt_of_block zy; have := hsz7; rw [hzz] at this; omega
           clear hzz low hHX hS5 hSZ hsz7 cx5 fx5 cy5 cb0 cb1 cb2 hnb lx5 ly5 hgl
           have fy7 := frozen_of_row w7 (X + 1) 0 _ _ zy
           have cy7 := cell_of_row w7 (X + 1) 0 _ _ _ zy
           simp at cy7
           have ly7 := lt_of_block zy
           have Z0 := Lib.hid z0
           have Z1 := Lib.hid z1
           have ZX := Lib.hid zx
           have ZY := Lib.hid zy
           have HX7 := Lib.hid hx7
           have HY7 := Lib.hid hy7
           have HG := Lib.hid hgy
           have HGB := Lib.hid hgyb
           have HB7 := Lib.hid hb7
           have HS7 := Lib.hid hs7
           clear z0 z1 zx zy hx7 hy7 hgy hgyb hb7 hs7)
        | fail)
      go_roundw
      case rel =>
        have hHX := HHX.out
        refine ⟨q + 1, (.slice (some ⟨gx, 0, none⟩) (q + 1) kx), (.slice (some ⟨gy, 0, none⟩) (q + 1) ky), by omega, by simp, Lib.hid ?_, Lib.hid ?_, Lib.hid ?_, Lib.hid ?_, Lib.hid ?_, Lib.hid ?_, Lib.hid ?_, Lib.hid ?_, Lib.hid ?_⟩
        · exact (heap_setCell_other w7 ⟨X + 1, 0, none⟩ w.heap.size _ (by show w.heap.size ≠ X + 1; omega)).trans Z0.out
        · exact (heap_setCell_other w7 ⟨X + 1, 0, none⟩ (w.heap.size + 1) _ (by show w.heap.size + 1 ≠ X + 1; omega)).trans Z1.out
        · exact (heap_setCell_other w7 ⟨X + 1, 0, none⟩ X _ (by show X ≠ X + 1; omega)).trans ZX.out
        · exact heap_setCell_same w7 (X + 1) 0 _ 24 (.slice (some ⟨gy, 0, none⟩) (q + 1) ky) ZY.out
        · obtain ⟨o1, o2⟩ := HX7.out
          refine ⟨o1, o2.elim .inl fun ⟨g, cp, cur, e1, e2, e3, e4⟩ => .inr ⟨g, cp, cur, e1, e2, ?_, e4⟩⟩
          exact (heap_setCell_other w7 ⟨X + 1, 0, none⟩ g _ (by show g ≠ X + 1; omega)).trans e3
        · rw [HFY.out]
          obtain ⟨o1, o2⟩ := HY7.out
          refine ⟨o1, o2.elim .inl fun ⟨g, cp, cur, e1, e2, e3, e4⟩ => .inr ⟨g, cp, cur, e1, e2, ?_, e4⟩⟩
          exact (heap_setCell_other w7 ⟨X + 1, 0, none⟩ g _ (by show g ≠ X + 1; omega)).trans e3
        · intro g hg hg'
          simp [Value.ownBlock] at hg hg'
          exact HG.out (by omega)
        · exact HB7.out.setCell (p := ⟨X + 1, 0, none⟩) (by show w.heap.size ≤ X + 1; omega) _
        · simpa [World.setCell] using HS7.out
      case measure => simp [intOf] <;> omega
    · obtain rfl : q = ps.length := by omega
      have hox' := hox.out
      have hoy' := hoy.out
      rw [show (scaleP c ps).take ps.length = scaleP c ps from by rw [← scale_len c ps, List.take_length]] at hox'
      rw [show (shiftP na ps).take ps.length = shiftP na ps from by rw [← shift_len na ps, List.take_length]] at hoy'
      rw [← scale_len c ps] at hox'
      rw [← shift_len na ps] at hoy'
      obtain ⟨BX, kx, rfl, hpx, hBX⟩ := pts_own84 hox' (by rw [scale_len]; exact h0)
      obtain ⟨BY, ky, rfl, hpy, hBY⟩ := pts_own84 hoy' (by rw [shift_len]; exact h0)
      have HPX := Lib.hid hpx
      have HPY := Lib.hid hpy
      have hmx1 := hmx.out
      have hmy1 := hmy.out
      rw [scale_len] at hmx1
      rw [shift_len] at hmy1
      have d1 := cell_of_row wr (w.heap.size + 1) 0 _ _ _ hx1.out
      have d2 := cell_of_row wr (w.heap.size + 1) 1 _ _ _ hx1.out
      have d3 := cell_of_row wr (w.heap.size + 1) 2 _ _ _ hx1.out
      have MX := Lib.hid hmx1
      have MY := Lib.hid hmy1
      clear hpx hpy hox' hoy' hox hoy hdis hmx hmy hmx1 hmy1 cx cy d1 d2 d3
      go_wp2_with fail
      refine wp_region_noPanic ?_
      refine wp_region_two (fun w' => Below wr.heap.size wr w') (fun w1 w2 h hb => grow_to h hb) (below_drawn _) (by kernel_rfl) (fun _ _ _ _ _ h => h)
        20 21 _ _ rfl rfl 17 18 rfl rfl (by decide) rfl rfl (.cells #[.int .i64 0, .int .i64 0, .int .i64 0] 26) (.cells #[.int .i64 0, .int .i64 0, .int .i64 0] 26) (fun a w => by kernel_rfl) (fun a w => by kernel_rfl)
        [(false, 0), (false, 1), (false, 2), (false, 3), (false, 4), (false, 5), (false, 6), (false, 7), (false, 8), (false, 9), (false, 10), (false, 11), (false, 12), (false, 13), (false, 14), (false, 15), (false, 16), (false, 17), (false, 18), (false, 19)] [22, 23] (by kernel_rfl) ?_
      have hmd : IntKind.i64.wrap (c * r.d) = c * r.d := IntWalk.i64_in _ (by
        have := Int.mul_nonneg (show 0 ≤ c by omega) (show 0 ≤ r.d by omega)
        have := Int.mul_le_mul hcb.2 hrb.1.2 (by omega) (by omega)
        omega)
      have hmk : IntKind.i64.wrap (c * r.k) = c * r.k := IntWalk.i64_in _ (by
        have := Int.mul_nonneg (show 0 ≤ c by omega) (show 0 ≤ r.k by omega)
        have := Int.mul_le_mul hcb.2 hrb.2.1.2 (by omega) (by omega)
        omega)
      have hmo : IntKind.i64.wrap (r.o + na) = r.o + na := IntWalk.i64_in _ (by have := HNA.out; omega)
      have HRB := Lib.hid hrb
      clear hrb
      iterate 20
        (refine Walk.takes rfl rfl ?_; apply Exists.intro; refine ⟨fun w' hS => ?_, ?_⟩; (have e1 := (hS.block _ (lt_of_block hx1.out)).trans hx1.out; have u0 := cell_of_row w' (w.heap.size + 1) 0 _ _ _ e1; have u1 := cell_of_row w' (w.heap.size + 1) 1 _ _ _ e1; have u2 := cell_of_row w' (w.heap.size + 1) 2 _ _ _ e1; clear e1 hS; simp at u0 u1 u2; go_simp; with_reducible rfl); simp only [List.getElem_toArray, List.getElem_cons_succ, List.getElem_cons_zero, Act.put, List.setIfInBounds_toArray, List.set_cons_zero, List.set_cons_succ])
      refine Walk.fin ?_
      intro w9 hb9 w10 b1 b2 hS10 hbw10 hle1 hle2 hne12 hz1 hz2
      simp only [List.getElem_toArray, List.getElem_cons_succ, List.getElem_cons_zero, Act.put, List.setIfInBounds_toArray, List.set_cons_zero, List.set_cons_succ]
      have s26 : (Try.prog.info? 26).map (·.size) = some 3 := by kernel_rfl
      have n1 := set_whole b1 26 w10 #[.int .i64 0, .int .i64 0, .int .i64 0] #[.int .i64 (c * r.d), .int .i64 (c * r.k), .int .i64 r.o] rfl hz1
      have n2 := (heap_cells b1 [.int .i64 (c * r.d), .int .i64 (c * r.k), .int .i64 r.o] 0 w10 b2 (fun h => hne12 h.symm)).trans hz2
      have n3 : Below wr.heap.size wr (w10.setCells b1 0 [.int .i64 (c * r.d), .int .i64 (c * r.k), .int .i64 r.o]) := below_cells (b := b1) (Nat.le_trans hb9.size hle1) [.int .i64 (c * r.d), .int .i64 (c * r.k), .int .i64 r.o] 0 w10 hS10
      refine Tail.skip rfl rfl (exec_store_row 26 (.tmp 17) (.tmp 91) rfl b1 0 #[.int .i64 (c * r.d), .int .i64 (c * r.k), .int .i64 r.o] rfl rfl (there_block hz1 (Nat.le_refl _)) s26 (by simp [Value.oneCell'])) n3 ?_
      simp only [List.getElem_toArray, List.getElem_cons_succ, List.getElem_cons_zero, Act.put, List.setIfInBounds_toArray, List.set_cons_zero, List.set_cons_succ]
      generalize w10.setCells b1 0 _ = w11 at *
      have m1 := set_whole b2 26 w11 #[.int .i64 0, .int .i64 0, .int .i64 0] #[.int .i64 r.d, .int .i64 r.k, .int .i64 (r.o + na)] rfl n2
      have m2 := (heap_cells b2 [.int .i64 r.d, .int .i64 r.k, .int .i64 (r.o + na)] 0 w11 b1 hne12).trans n1
      have m3 : Below wr.heap.size wr (w11.setCells b2 0 [.int .i64 r.d, .int .i64 r.k, .int .i64 (r.o + na)]) := below_cells (b := b2) (Nat.le_trans hb9.size hle2) [.int .i64 r.d, .int .i64 r.k, .int .i64 (r.o + na)] 0 w11 n3
      refine Tail.skip rfl rfl (exec_store_row 26 (.tmp 18) (.tmp 100) rfl b2 0 #[.int .i64 r.d, .int .i64 r.k, .int .i64 (r.o + na)] rfl rfl (there_block n2 (Nat.le_refl _)) s26 (by simp [Value.oneCell'])) m3 (Tail.done (NoPanic.normal ?_))
      simp only [List.getElem_toArray, List.getElem_cons_succ, List.getElem_cons_zero, Act.put, List.setIfInBounds_toArray, List.set_cons_zero, List.set_cons_succ]
      generalize w11.setCells b2 0 _ = w12 at *
      have hbW : Below w.heap.size w w12 := hb.out.trans (m3.mono hb.out.size)
      have k0 := (m3.block _ (lt_of_block hx0.out)).trans hx0.out
      have k1 := (m3.block _ (lt_of_block hx1.out)).trans hx1.out
      have kx' := (m3.block _ (lt_of_block MX.out)).trans MX.out
      have ky' := (m3.block _ (lt_of_block MY.out)).trans MY.out
      have BXl := block_lt_of_cell (HPX.out 0 (by rw [scale_len]; exact h0)).1
      have BYl := block_lt_of_cell (HPY.out 0 (by rw [shift_len]; exact h0)).1
      have px := HPX.out.below m3 BXl
      have py := HPY.out.below m3 BYl
      have KK0 := Lib.hid k0
      have KK1 := Lib.hid k1
      have KKX := Lib.hid kx'
      have KKY := Lib.hid ky'
      have KPX := Lib.hid px
      have KPY := Lib.hid py
      have KB2 := Lib.hid m1
      have KB1 := Lib.hid m2
      have KBW := Lib.hid hbW
      have c00 := cell_of_row w12 w.heap.size 0 _ _ _ k0
      simp at c00
      clear n1 n2 n3 m1 m2 m3 hz1 hz2 hS10 hbw10 hb9 hle1 hle2 k0 k1 kx' ky' px py hbW BXl BYl MX MY HPX HPY hx0 hx1 hb c0 l0 lx ly s26
      clear w10 w11
      go_wp2_with fail
      refine (HPK.out _ KBW.out).mono ?_
      rintro e w13 ⟨B1, c1, rfl, hi1, hB1, hb13, cur1, hcur1⟩
      have HNE : Hid (X < B1 ∧ X + 1 < B1 ∧ b1 < B1 ∧ b2 < B1 ∧ BX < B1 ∧ BY < B1 ∧ w.heap.size + 1 < B1) := Lib.hid (by
        have := lt_of_block KKX.out
        have := lt_of_block KKY.out
        have := lt_of_block KB1.out
        have := lt_of_block KB2.out
        have := block_lt_of_cell (KPX.out 0 (by rw [scale_len]; exact HH0.out)).1
        have := block_lt_of_cell (KPY.out 0 (by rw [shift_len]; exact HH0.out)).1
        have := lt_of_block KK1.out
        simp only at *
        omega)
      have HCUR := Lib.hid hcur1
      replace KB1 := Lib.hid ((hb13.block _ (lt_of_block KB1.out)).trans KB1.out)
      replace KK0 := Lib.hid ((hb13.block _ (lt_of_block KK0.out)).trans KK0.out)
      replace KK1 := Lib.hid ((hb13.block _ (lt_of_block KK1.out)).trans KK1.out)
      replace KKX := Lib.hid ((hb13.block _ (lt_of_block KKX.out)).trans KKX.out)
      replace KKY := Lib.hid ((hb13.block _ (lt_of_block KKY.out)).trans KKY.out)
      replace KB2 := Lib.hid ((hb13.block _ (lt_of_block KB2.out)).trans KB2.out)
      replace KPX := Lib.hid (KPX.out.below hb13 (block_lt_of_cell (KPX.out 0 (by rw [scale_len]; exact HH0.out)).1))
      replace KPY := Lib.hid (KPY.out.below hb13 (block_lt_of_cell (KPY.out 0 (by rw [shift_len]; exact HH0.out)).1))
      replace KBW := Lib.hid (below_to KBW.out hb13)
      have HI1 := Lib.hid hi1
      have HB1l := Lib.hid (block_lt_of_cell (hi1 0 (by rw [HT.out]; exact HH0.out)))
      have HC : Hid (∀ w', Below w13.heap.size w13 w' → w'.cell? ⟨w.heap.size, 0, none⟩ = some (.slice (some ⟨b, off, none⟩) ps.length cap) ∧ w'.cell? ⟨w.heap.size + 1, 0, none⟩ = some (.int .i64 r.d) ∧ w'.cell? ⟨w.heap.size + 1, 1, none⟩ = some (.int .i64 r.k) ∧ w'.cell? ⟨w.heap.size + 1, 2, none⟩ = some (.int .i64 r.o)) := Lib.hid fun w' h => by
        have y1 := (h.block _ (lt_of_block KK0.out)).trans KK0.out
        have y2 := (h.block _ (lt_of_block KK1.out)).trans KK1.out
        exact ⟨cell_of_row w' w.heap.size 0 _ _ _ y1, cell_of_row w' (w.heap.size + 1) 0 _ _ _ y2, cell_of_row w' (w.heap.size + 1) 1 _ _ _ y2, cell_of_row w' (w.heap.size + 1) 2 _ _ _ y2⟩
      clear hi1 hB1 hb13 hcur1 c00
      clear w12
      go_wp2
      refine wp_region_noPanic ?_
      refine wp_region_float (by kernel_rfl) (fun _ _ _ _ _ h => h) 10 _ rfl 20 rfl rfl (.cells zero37 37) (fun a w => by kernel_rfl)
        [(false, 0), (false, 2), (false, 4), (true, 1), (true, 3), (true, 5), (true, 6), (false, 7), (false, 8), (false, 9)] [11, 12] (by kernel_rfl) ?_
      iterate 3
        (refine Walk.takes rfl rfl ?_; apply Exists.intro; refine ⟨fun w' hS => ?_, ?_⟩; (obtain ⟨d0, d1, d2, d3⟩ := HC.out w' hS; go_simp; with_reducible rfl); simp only [List.getElem_toArray, List.getElem_cons_succ, List.getElem_cons_zero, Act.put, List.setIfInBounds_toArray, List.set_cons_zero, List.set_cons_succ])
      refine Walk.calls rfl rfl ?_; apply Exists.intro; apply Exists.intro; refine ⟨fun w' hS => ?_, fun w' hba => ?_⟩; (clear hS; go_simp; exact ⟨rfl, rfl⟩)
      refine (HCV.out w' (below_to KBW.out (grow_to (below_drawn _) hba))).mono ?_
      rintro e u1 ⟨B2, c2, rfl, hp2, hB2, hbb⟩
      refine ⟨_, rfl, hbb, ?_⟩
      simp only [List.getElem_toArray, List.getElem_cons_succ, List.getElem_cons_zero, Act.put, List.setIfInBounds_toArray, List.set_cons_zero, List.set_cons_succ]
      have hl2 := block_lt_of_cell (hp2 0 HH0.out).1
      have hu1 := grow_to (grow_to (below_drawn _) hba) hbb
      clear hba hbb hB2
      refine Walk.calls rfl rfl ?_; apply Exists.intro; apply Exists.intro; refine ⟨fun w' hS => ?_, fun w' hba => ?_⟩; (clear hS; go_simp; exact ⟨rfl, rfl⟩)
      refine (Rule_any r.d r.k r.o w').mono ?_
      rintro e u2 ⟨rfl, hbb⟩
      refine ⟨_, rfl, hbb, ?_⟩
      simp only [List.getElem_toArray, List.getElem_cons_succ, List.getElem_cons_zero, Act.put, List.setIfInBounds_toArray, List.set_cons_zero, List.set_cons_succ]
      replace hp2 := (hp2.below hba hl2).below hbb (Nat.lt_of_lt_of_le hl2 hba.size)
      replace hl2 := block_lt_of_cell (hp2 0 HH0.out).1
      have hu2 := grow_to (grow_to hu1 hba) hbb
      clear hba hbb hu1
      refine Walk.calls rfl rfl ?_; apply Exists.intro; apply Exists.intro; refine ⟨fun w' hS => ?_, fun w' hba => ?_⟩; (clear hS; go_simp; exact ⟨rfl, rfl⟩)
      have hu3 := grow_to hu2 hba
      have hlist := list_any B1 0 c1 t w' (by rw [HT.out]; exact HH0.out) (by rw [HT.out]; omega) (HI1.out.below hu3 HB1l.out)
      rw [HT.out] at hlist
      refine hlist.mono ?_
      rintro e u3 ⟨B3, c3, rfl, hi3, hB3, hbb⟩
      refine ⟨_, rfl, hbb, ?_⟩
      simp only [List.getElem_toArray, List.getElem_cons_succ, List.getElem_cons_zero, Act.put, List.setIfInBounds_toArray, List.set_cons_zero, List.set_cons_succ]
      replace hp2 := (hp2.below hba hl2).below hbb (Nat.lt_of_lt_of_le hl2 hba.size)
      replace hl2 := block_lt_of_cell (hp2 0 HH0.out).1
      have hl3 := block_lt_of_cell (hi3 0 (by rw [HT.out]; exact HH0.out))
      clear hba hbb hu2 hu3 hB3 hlist
      refine Walk.calls rfl rfl ?_; apply Exists.intro; apply Exists.intro; refine ⟨fun w' hS => ?_, fun w' hba => ?_⟩; (clear hS; go_simp; exact ⟨rfl, rfl⟩)
      refine (HRD1.out B2 c2 B3 c3 w' (hp2.below hba hl2) (hi3.below hba hl3)).mono ?_
      rintro e u4 ⟨rfl, hbb⟩
      refine ⟨_, rfl, hbb, ?_⟩
      simp only [List.getElem_toArray, List.getElem_cons_succ, List.getElem_cons_zero, Act.put, List.setIfInBounds_toArray, List.set_cons_zero, List.set_cons_succ]
      clear hba hbb hp2 hi3 hl2 hl3 u1 u2 u3
      iterate 3
        (refine Walk.takes rfl rfl ?_; apply Exists.intro; refine ⟨fun w' hS => ?_, ?_⟩; (clear hS; go_simp; with_reducible rfl); simp only [List.getElem_toArray, List.getElem_cons_succ, List.getElem_cons_zero, Act.put, List.setIfInBounds_toArray, List.set_cons_zero, List.set_cons_succ])
      refine Walk.fin ?_
      intro v7 hb7 b8 hbb8 hz8 hw7
      simp only [List.getElem_toArray, List.getElem_cons_succ, List.getElem_cons_zero, Act.put, List.setIfInBounds_toArray, List.set_cons_zero, List.set_cons_succ]
      have hs37 : (Try.prog.info? 37).map (·.size) = some (rsV x).size := s37
      have n1 := set_whole b8 37 v7 zero37 (rsV x) rfl hz8
      have n3 := below_cells (b := b8) hbb8 (rsV x).toList 0 v7 hw7
      refine Tail.skip rfl rfl (exec_store_row 37 (.tmp 20) (.tmp 112) rfl b8 0 (rsV x) rfl rfl (there_block hz8 (Nat.le_refl _)) hs37 (by simp [rsV, iV, Value.oneCell'])) n3 ?_
      simp only [List.getElem_toArray, List.getElem_cons_succ, List.getElem_cons_zero, Act.put, List.setIfInBounds_toArray, List.set_cons_zero, List.set_cons_succ]
      generalize v7.setCells b8 0 (rsV x).toList = w14 at *
      (refine Tail.value rfl rfl (by go_simp; with_reducible rfl) ?_; simp only [List.getElem_toArray, List.getElem_cons_succ, List.getElem_cons_zero, Act.put, List.setIfInBounds_toArray, List.set_cons_zero, List.set_cons_succ])
      refine Tail.done (NoPanic.normal ?_)
      clear hz8 hw7 hb7 hs37 HC
      clear v7
      have H8 : Hid (B1 < b8) := Lib.hid (by have := HB1l.out; omega)
      replace KKX := Lib.hid ((n3.block _ (lt_of_block KKX.out)).trans KKX.out)
      replace KKY := Lib.hid ((n3.block _ (lt_of_block KKY.out)).trans KKY.out)
      replace KB1 := Lib.hid ((n3.block _ (lt_of_block KB1.out)).trans KB1.out)
      replace KB2 := Lib.hid ((n3.block _ (lt_of_block KB2.out)).trans KB2.out)
      replace HCUR := Lib.hid ((n3.block _ (lt_of_block HCUR.out)).trans HCUR.out)
      replace KPX := Lib.hid (KPX.out.below n3 (block_lt_of_cell (KPX.out 0 (by rw [scale_len]; exact HH0.out)).1))
      replace KPY := Lib.hid (KPY.out.below n3 (block_lt_of_cell (KPY.out 0 (by rw [shift_len]; exact HH0.out)).1))
      replace KBW := Lib.hid (below_to KBW.out n3)
      replace HI1 := Lib.hid (HI1.out.below n3 HB1l.out)
      replace HB1l := Lib.hid (Nat.lt_of_lt_of_le HB1l.out n3.size)
      have N1 := Lib.hid n1
      have HLX := Lib.hid (block_lt_of_cell (KPX.out 0 (by rw [scale_len]; exact HH0.out)).1)
      have HLY := Lib.hid (block_lt_of_cell (KPY.out 0 (by rw [shift_len]; exact HH0.out)).1)
      have HN : Hid (ps.length ≤ 20) := Lib.hid hn
      have HCB : Hid (1 ≤ c ∧ c ≤ 4) := Lib.hid hcb
      have HC2 : Hid (∀ w', Below w14.heap.size w14 w' → (w'.cell? ⟨X, 0, none⟩ = some (.slice (some ⟨BX, 0, none⟩) ps.length kx) ∧ w'.cell? ⟨b1, 0, none⟩ = some (.int .i64 (c * r.d)) ∧ w'.cell? ⟨b1, 1, none⟩ = some (.int .i64 (c * r.k)) ∧ w'.cell? ⟨b1, 2, none⟩ = some (.int .i64 r.o)) ∧ (w'.cell? ⟨X + 1, 0, none⟩ = some (.slice (some ⟨BY, 0, none⟩) ps.length ky) ∧ w'.cell? ⟨b2, 0, none⟩ = some (.int .i64 r.d) ∧ w'.cell? ⟨b2, 1, none⟩ = some (.int .i64 r.k) ∧ w'.cell? ⟨b2, 2, none⟩ = some (.int .i64 (r.o + na)))) := Lib.hid fun w' h => by
        have y1 := (h.block _ (lt_of_block KKX.out)).trans KKX.out
        have y2 := (h.block _ (lt_of_block KB1.out)).trans KB1.out
        have y3 := (h.block _ (lt_of_block KKY.out)).trans KKY.out
        have y4 := (h.block _ (lt_of_block KB2.out)).trans KB2.out
        exact ⟨⟨cell_of_row w' X 0 _ _ _ y1, cell_of_row w' b1 0 _ _ _ y2, cell_of_row w' b1 1 _ _ _ y2, cell_of_row w' b1 2 _ _ _ y2⟩, cell_of_row w' (X + 1) 0 _ _ _ y3, cell_of_row w' b2 0 _ _ _ y4, cell_of_row w' b2 1 _ _ _ y4, cell_of_row w' b2 2 _ _ _ y4⟩
      have HRY := Lib.hid fun W (h : PtsIn W BY 0 (shiftP na ps)) => ready_pts BY 0 ky (shiftP na ps) r.d r.k (r.o + na) W (by rw [shift_len]; exact hn) (by rw [shift_len]; exact HH0.out) h
      have HRX := Lib.hid fun W (h : PtsIn W BX 0 (scaleP c ps)) => ready_pts BX 0 kx (scaleP c ps) (c * r.d) (c * r.k) r.o W (by rw [scale_len]; exact hn) (by rw [scale_len]; exact HH0.out) h
      rw [shift_len] at HRY
      rw [scale_len] at HRX
      have HCY := Lib.hid fun W (h : PtsIn W BY 0 (shiftP na ps)) => Curve_any BY 0 ky (shiftP na ps) W (by rw [shift_len]; exact hn) (by rw [shift_len]; exact HH0.out) h
      have HCX := Lib.hid fun W (h : PtsIn W BX 0 (scaleP c ps)) => Curve_any BX 0 kx (scaleP c ps) W (by rw [scale_len]; exact hn) (by rw [scale_len]; exact HH0.out) h
      rw [shift_len] at HCY
      rw [scale_len] at HCX
      have HDY := Lib.hid fun (hq : (goodsB (shiftP na ps) 0 && ruleB ⟨r.d, r.k, r.o + na⟩) = true) (B2 c2 B3 c3 : Nat) W h1 h2 => Read_ok B2 0 c2 B3 0 c3 (shiftP na ps) ⟨r.d, r.k, r.o + na⟩ t W ⟨by rw [shift_len]; exact hn, by rw [shift_len]; exact HH0.out, (Bool.and_eq_true_iff.1 hq).1, (Bool.and_eq_true_iff.1 hq).2, by rw [shift_len]; exact HT.out, shift_fits HFIT.out⟩ h1 h2
      have HDX := Lib.hid fun (hq : (goodsB (scaleP c ps) 0 && ruleB ⟨c * r.d, c * r.k, r.o⟩) = true) (B2 c2 B3 c3 : Nat) W h1 h2 => Read_ok B2 0 c2 B3 0 c3 (scaleP c ps) ⟨c * r.d, c * r.k, r.o⟩ (scaleT c t) W ⟨by rw [scale_len]; exact hn, by rw [scale_len]; exact HH0.out, (Bool.and_eq_true_iff.1 hq).1, (Bool.and_eq_true_iff.1 hq).2, by rw [scale_len]; simp [scaleT, HT.out], scale_fits (by have := HCB.out; omega) HFIT.out⟩ h1 h2
      rw [shift_len, shift_read HH0.out, HXR.out] at HDY
      rw [scale_len] at HDX
      have HSC := scale_read (c := c) (ps := ps) (r := r) (t := pad t) (by omega) HH0.out
      rw [HXR.out, ← scale_pad] at HSC
      generalize readR (scaleP c ps) ⟨c * r.d, c * r.k, r.o⟩ (pad (scaleT c t)) = z at *
      have HNEQ := Lib.hid (ne37 x)
      clear n1 n3 hbb8 KK0 KK1 HCV HPK HRD1 HRR HXR hcb
      generalize (goodsB (shiftP na ps) 0 && ruleB ⟨r.d, r.k, r.o + na⟩) = qy at *
      generalize (goodsB (scaleP c ps) 0 && ruleB ⟨c * r.d, c * r.k, r.o⟩) = qx at *
      obtain ⟨-, f0, f1, f2, f3⟩ := HC2.out w14 (Below.refl _ _)
      go_wp2_with fail
      refine (HRY.out w14 KPY.out).mono ?_
      rintro e wz ⟨rfl, hbz⟩
      have HBZ := Lib.hid hbz
      clear hbz f0 f1 f2 f3
      cases qy
      case' true =>
        go_wp2
        refine wp_region_noPanic ?_
        refine wp_region_float (by kernel_rfl) (fun _ _ _ _ _ h => h) 10 _ rfl 22 rfl rfl (.cells zero37 37) (fun a w => by kernel_rfl)
          [(false, 0), (false, 2), (false, 4), (true, 1), (true, 3), (true, 5), (true, 6), (false, 7), (false, 8), (false, 9)] [11, 12] (by kernel_rfl) ?_
        iterate 3
          (refine Walk.takes rfl rfl ?_; apply Exists.intro; refine ⟨fun w' hS => ?_, ?_⟩; (obtain ⟨-, d0, d1, d2, d3⟩ := HC2.out w' (grow_to HBZ.out hS); go_simp; with_reducible rfl); simp only [List.getElem_toArray, List.getElem_cons_succ, List.getElem_cons_zero, Act.put, List.setIfInBounds_toArray, List.set_cons_zero, List.set_cons_succ])
        refine Walk.calls rfl rfl ?_; apply Exists.intro; apply Exists.intro; refine ⟨fun w' hS => ?_, fun w' hba => ?_⟩; (clear hS; go_simp; exact ⟨rfl, rfl⟩)
        have hu0 := grow_to HBZ.out (grow_to (below_drawn _) hba)
        refine (HCY.out w' (KPY.out.below hu0 HLY.out)).mono ?_
        rintro e u1 ⟨B2, c2, rfl, hp2, hB2, hbb⟩
        refine ⟨_, rfl, hbb, ?_⟩
        simp only [List.getElem_toArray, List.getElem_cons_succ, List.getElem_cons_zero, Act.put, List.setIfInBounds_toArray, List.set_cons_zero, List.set_cons_succ]
        have hl2 := block_lt_of_cell (hp2 0 (by rw [shift_len]; exact HH0.out)).1
        have hu1 := grow_to hu0 hbb
        clear hba hbb hB2 hu0
        refine Walk.calls rfl rfl ?_; apply Exists.intro; apply Exists.intro; refine ⟨fun w' hS => ?_, fun w' hba => ?_⟩; (clear hS; go_simp; exact ⟨rfl, rfl⟩)
        refine (Rule_any r.d r.k (r.o + na) w').mono ?_
        rintro e u2 ⟨rfl, hbb⟩
        refine ⟨_, rfl, hbb, ?_⟩
        simp only [List.getElem_toArray, List.getElem_cons_succ, List.getElem_cons_zero, Act.put, List.setIfInBounds_toArray, List.set_cons_zero, List.set_cons_succ]
        replace hp2 := (hp2.below hba hl2).below hbb (Nat.lt_of_lt_of_le hl2 hba.size)
        replace hl2 := block_lt_of_cell (hp2 0 (by rw [shift_len]; exact HH0.out)).1
        have hu2 := grow_to (grow_to hu1 hba) hbb
        clear hba hbb hu1
        refine Walk.calls rfl rfl ?_; apply Exists.intro; apply Exists.intro; refine ⟨fun w' hS => ?_, fun w' hba => ?_⟩; (clear hS; go_simp; exact ⟨rfl, rfl⟩)
        have hu3 := grow_to hu2 hba
        have hlist := list_any B1 0 c1 t w' (by rw [HT.out]; exact HH0.out) (by rw [HT.out]; omega) (HI1.out.below hu3 HB1l.out)
        rw [HT.out] at hlist
        refine hlist.mono ?_
        rintro e u3 ⟨B3, c3, rfl, hi3, hB3, hbb⟩
        refine ⟨_, rfl, hbb, ?_⟩
        simp only [List.getElem_toArray, List.getElem_cons_succ, List.getElem_cons_zero, Act.put, List.setIfInBounds_toArray, List.set_cons_zero, List.set_cons_succ]
        replace hp2 := (hp2.below hba hl2).below hbb (Nat.lt_of_lt_of_le hl2 hba.size)
        replace hl2 := block_lt_of_cell (hp2 0 (by rw [shift_len]; exact HH0.out)).1
        have hl3 := block_lt_of_cell (hi3 0 (by rw [HT.out]; exact HH0.out))
        clear hba hbb hu2 hu3 hB3 hlist
        refine Walk.calls rfl rfl ?_; apply Exists.intro; apply Exists.intro; refine ⟨fun w' hS => ?_, fun w' hba => ?_⟩; (clear hS; go_simp; exact ⟨rfl, rfl⟩)
        refine (HDY.out (by first | exact trivial | rfl) B2 c2 B3 c3 w' (hp2.below hba hl2) (hi3.below hba hl3)).mono ?_
        rintro e u4 ⟨rfl, hbb⟩
        refine ⟨_, rfl, hbb, ?_⟩
        simp only [List.getElem_toArray, List.getElem_cons_succ, List.getElem_cons_zero, Act.put, List.setIfInBounds_toArray, List.set_cons_zero, List.set_cons_succ]
        clear hba hbb hp2 hi3 hl2 hl3 u1 u2 u3
        iterate 3
          (refine Walk.takes rfl rfl ?_; apply Exists.intro; refine ⟨fun w' hS => ?_, ?_⟩; (clear hS; go_simp; with_reducible rfl); simp only [List.getElem_toArray, List.getElem_cons_succ, List.getElem_cons_zero, Act.put, List.setIfInBounds_toArray, List.set_cons_zero, List.set_cons_succ])
        refine Walk.fin ?_
        intro v7 hb7 b9 hbb9 hz8 hw7
        simp only [List.getElem_toArray, List.getElem_cons_succ, List.getElem_cons_zero, Act.put, List.setIfInBounds_toArray, List.set_cons_zero, List.set_cons_succ]
        have hs37 : (Try.prog.info? 37).map (·.size) = some (rsV x).size := s37
        have n1 := set_whole b9 37 v7 zero37 (rsV x) rfl hz8
        have n3 := below_cells (b := b9) hbb9 (rsV x).toList 0 v7 hw7
        refine Tail.skip rfl rfl (exec_store_row 37 (.tmp 22) (.tmp 127) rfl b9 0 (rsV x) rfl rfl (there_block hz8 (Nat.le_refl _)) hs37 (by simp [rsV, iV, Value.oneCell'])) n3 ?_
        simp only [List.getElem_toArray, List.getElem_cons_succ, List.getElem_cons_zero, Act.put, List.setIfInBounds_toArray, List.set_cons_zero, List.set_cons_succ]
        generalize v7.setCells b9 0 (rsV x).toList = w16 at *
        (refine Tail.value rfl rfl (by go_simp; with_reducible rfl) ?_; simp only [List.getElem_toArray, List.getElem_cons_succ, List.getElem_cons_zero, Act.put, List.setIfInBounds_toArray, List.set_cons_zero, List.set_cons_succ])
        refine Tail.done (NoPanic.normal ?_)
        replace HBZ := Lib.hid (grow_to HBZ.out n3)
        have N2 := Lib.hid n1
        clear hz8 hw7 hb7 hs37 n1 n3 hbb9
        clear v7 wz
        obtain ⟨wz, hwz⟩ : ∃ q, q = w16 := ⟨_, rfl⟩
        subst hwz
        have y1 := (HBZ.out.block _ (lt_of_block N1.out)).trans N1.out
        have y2 := N2.out
        have g0 : wz.cell? ⟨b8, 0, none⟩ = some (.int .i64 x.st) := cell_of_row wz b8 0 _ _ _ y1
        have g1 : wz.cell? ⟨b8, 1, none⟩ = some (.int .i64 x.pk) := cell_of_row wz b8 1 _ _ _ y1
        have g2 : wz.cell? ⟨b8, 2, none⟩ = some (.int .i64 x.ya) := cell_of_row wz b8 2 _ _ _ y1
        have g3 : wz.cell? ⟨b8, 3, none⟩ = some (.int .i64 x.y) := cell_of_row wz b8 3 _ _ _ y1
        have g4 : wz.cell? ⟨b8, 4, none⟩ = some (.int .i64 x.ma) := cell_of_row wz b8 4 _ _ _ y1
        have g5 : wz.cell? ⟨b8, 5, none⟩ = some (.int .i64 x.pl) := cell_of_row wz b8 5 _ _ _ y1
        have g6 : wz.cell? ⟨b8, 6, none⟩ = some (.int .i64 x.wk) := cell_of_row wz b8 6 _ _ _ y1
        have k0 : wz.cell? ⟨b9, 0, none⟩ = some (.int .i64 x.st) := cell_of_row wz b9 0 _ _ _ y2
        have k1 : wz.cell? ⟨b9, 1, none⟩ = some (.int .i64 x.pk) := cell_of_row wz b9 1 _ _ _ y2
        have k2 : wz.cell? ⟨b9, 2, none⟩ = some (.int .i64 x.ya) := cell_of_row wz b9 2 _ _ _ y2
        have k3 : wz.cell? ⟨b9, 3, none⟩ = some (.int .i64 x.y) := cell_of_row wz b9 3 _ _ _ y2
        have k4 : wz.cell? ⟨b9, 4, none⟩ = some (.int .i64 x.ma) := cell_of_row wz b9 4 _ _ _ y2
        have k5 : wz.cell? ⟨b9, 5, none⟩ = some (.int .i64 x.pl) := cell_of_row wz b9 5 _ _ _ y2
        have k6 : wz.cell? ⟨b9, 6, none⟩ = some (.int .i64 x.wk) := cell_of_row wz b9 6 _ _ _ y2
        have hne := HNEQ.out wz
        clear y1 y2
        obtain ⟨⟨a0, a1, a2, a3⟩, -⟩ := HC2.out wz HBZ.out
        go_wp2_with fail
        clear g0 g1 g2 g3 g4 g5 g6 k0 k1 k2 k3 k4 k5 k6 hne N2
      case' false =>
        obtain ⟨⟨a0, a1, a2, a3⟩, -⟩ := HC2.out wz HBZ.out
        go_wp2_with fail
      all_goals
        refine (HRX.out wz (KPX.out.below HBZ.out HLX.out)).mono ?_
        rintro e w18 ⟨rfl, hb18⟩
        have HB18 := Lib.hid (grow_to HBZ.out hb18)
        clear hb18 a0 a1 a2 a3 HBZ HCY HDY HRY
        clear wz
        cases qx
        · go_wp2_with fail
          refine (HA.out _).mono ?_
          rintro e w19 ⟨rfl, hb19⟩
          have hbf := below_to KBW.out (grow_to HB18.out hb19)
          clear hb19
          go_wp2
          go_ret
          exact ⟨rfl, hbf⟩
        · have HL0 := HLD
          have KWB : Hid (Below w.heap.size w w18) := Lib.hid (below_to KBW.out HB18.out)
          clear KBW HRX
          go_wp2
          go_loopw [24] (fun i wr => ∃ q : Nat, q ≤ ps.length ∧ i = .int .i64 q ∧ Hid (IntsIn wr B1 0 (mixT c t q)) ∧ Hid (∃ cur, wr.heap[B1]? = some (.cells cur 3 (0, 0))) ∧ Hid (∀ k, k < w18.heap.size → k ≠ B1 → wr.heap[k]? = w18.heap[k]?) ∧ Hid (Below w.heap.size w wr) ∧ Hid (w18.heap.size ≤ wr.heap.size)) (fun i _ => ps.length - (intOf i).toNat)
          case atStart => exact ⟨0, Nat.zero_le _, rfl, Lib.hid (by rw [mix_zero]; exact HI1.out.below HB18.out HB1l.out), Lib.hid ⟨cur1, (HB18.out.block _ HB1l.out).trans HCUR.out⟩, Lib.hid (fun _ _ _ => rfl), KWB, Lib.hid (Nat.le_refl _)⟩
          case round =>
            obtain ⟨q, hq, rfl, hi, hcur, hkeep, hb, hsz⟩ := hrel
            by_cases hlt : q < ps.length
            · obtain ⟨cur, hc⟩ := hcur.out
              have ci := hi.out q (by rw [mix_len, HT.out]; exact hlt)
              rw [mix_ld (by rw [HT.out]; omega), if_neg (by omega), Nat.zero_add] at ci
              have fq := frozen_of_row wr B1 q cur 3 hc
              have hqn : (q : Int) < ps.length := by omega
              have hw9 : IntKind.i64.wrap ((q : Int) + 1) = (q : Int) + 1 := IntWalk.i64_in _ (by have := HN.out; omega)
              have hld := HLD.out q hlt
              have hwm : IntKind.i64.wrap (ld t q * c) = ld t q * c := IntWalk.i64_in _ (by
                have := HCB.out
                rcases (show c = 1 ∨ c = 2 ∨ c = 3 ∨ c = 4 by omega) with h | h | h | h <;> rw [h] <;> omega)
              have HMIX := Lib.hid (IntsIn.mix hc hi.out (by rw [HT.out]; exact hlt))
              clear hld hc
              go_wp2_with fail
              go_roundw
              case rel =>
                obtain ⟨i1, i2⟩ := HMIX.out
                refine ⟨q + 1, by omega, by simp, Lib.hid i1, Lib.hid i2, Lib.hid ?_, Lib.hid ?_, Lib.hid ?_⟩
                · intro k h1 h2
                  exact (heap_setCell_other wr ⟨B1, q, none⟩ k _ h2).trans (hkeep.out k h1 h2)
                · exact hb.out.setCell (p := ⟨B1, q, none⟩) (by show w.heap.size ≤ B1; have := HNE.out; omega) _
                · simpa [World.setCell] using hsz.out
              case measure => simp [intOf] <;> omega
            · obtain rfl : q = ps.length := by omega
              have hi2 := hi.out
              rw [← HT.out, mix_all] at hi2
              have HIX := Lib.hid hi2
              have hl18 := HB18.out.size
              have z1 := lt_of_block KKX.out
              have z2 := lt_of_block KB1.out
              have z3 := lt_of_block N1.out
              have z4 := HLX.out
              have HNE' := HNE.out
              have H8' := H8.out
              have KX2 := (hkeep.out X (by omega) (by omega)).trans ((HB18.out.block _ z1).trans KKX.out)
              have K12 := (hkeep.out b1 (by omega) (by omega)).trans ((HB18.out.block _ z2).trans KB1.out)
              have K82 := Lib.hid ((hkeep.out b8 (by omega) (by omega)).trans ((HB18.out.block _ z3).trans N1.out))
              have PX2 := Lib.hid ((KPX.out.below HB18.out z4).block (hkeep.out BX (by omega) (by omega)))
              have HC3 : Hid (∀ w', Below wr.heap.size wr w' → (w'.cell? ⟨X, 0, none⟩ = some (.slice (some ⟨BX, 0, none⟩) ps.length kx) ∧ w'.cell? ⟨b1, 0, none⟩ = some (.int .i64 (c * r.d)) ∧ w'.cell? ⟨b1, 1, none⟩ = some (.int .i64 (c * r.k)) ∧ w'.cell? ⟨b1, 2, none⟩ = some (.int .i64 r.o))) := Lib.hid fun w' h => by
                have y1 := (h.block _ (lt_of_block KX2)).trans KX2
                have y2 := (h.block _ (lt_of_block K12)).trans K12
                exact ⟨cell_of_row w' X 0 _ _ _ y1, cell_of_row w' b1 0 _ _ _ y2, cell_of_row w' b1 1 _ _ _ y2, cell_of_row w' b1 2 _ _ _ y2⟩
              have HLB := Lib.hid (block_lt_of_cell (hi2 0 (by simp [scaleT, HT.out]; exact HH0.out)))
              have HLP := Lib.hid (block_lt_of_cell (PX2.out 0 (by rw [scale_len]; exact HH0.out)).1)
              clear hi2 hl18 z1 z2 z3 z4 HNE' H8' KX2 K12 hi hcur hkeep hsz KKX KKY KB1 KB2 KPX KPY HI1 HCUR HC2 N1 KWB
              go_wp2
              refine wp_region_noPanic ?_
              refine wp_region_float (by kernel_rfl) (fun _ _ _ _ _ h => h) 9 _ rfl 25 rfl rfl (.cells zero37 37) (fun a w => by kernel_rfl)
                [(false, 0), (false, 2), (false, 4), (true, 1), (true, 3), (true, 5), (false, 6), (false, 7), (false, 8)] [10, 11] (by kernel_rfl) ?_
              iterate 3
                (refine Walk.takes rfl rfl ?_; apply Exists.intro; refine ⟨fun w' hS => ?_, ?_⟩; (obtain ⟨d0, d1, d2, d3⟩ := HC3.out w' hS; go_simp; with_reducible rfl); simp only [List.getElem_toArray, List.getElem_cons_succ, List.getElem_cons_zero, Act.put, List.setIfInBounds_toArray, List.set_cons_zero, List.set_cons_succ])
              refine Walk.calls rfl rfl ?_; apply Exists.intro; apply Exists.intro; refine ⟨fun w' hS => ?_, fun w' hba => ?_⟩; (clear hS; go_simp; exact ⟨rfl, rfl⟩)
              have hu0 := grow_to (below_drawn _) hba
              refine (HCX.out w' (PX2.out.below hu0 HLP.out)).mono ?_
              rintro e u1 ⟨B2, c2, rfl, hp2, hB2, hbb⟩
              refine ⟨_, rfl, hbb, ?_⟩
              simp only [List.getElem_toArray, List.getElem_cons_succ, List.getElem_cons_zero, Act.put, List.setIfInBounds_toArray, List.set_cons_zero, List.set_cons_succ]
              have hl2 := block_lt_of_cell (hp2 0 (by rw [scale_len]; exact HH0.out)).1
              have hu1 := grow_to hu0 hbb
              clear hba hbb hB2 hu0
              refine Walk.calls rfl rfl ?_; apply Exists.intro; apply Exists.intro; refine ⟨fun w' hS => ?_, fun w' hba => ?_⟩; (clear hS; go_simp; exact ⟨rfl, rfl⟩)
              refine (Rule_any (c * r.d) (c * r.k) r.o w').mono ?_
              rintro e u2 ⟨rfl, hbb⟩
              refine ⟨_, rfl, hbb, ?_⟩
              simp only [List.getElem_toArray, List.getElem_cons_succ, List.getElem_cons_zero, Act.put, List.setIfInBounds_toArray, List.set_cons_zero, List.set_cons_succ]
              replace hp2 := (hp2.below hba hl2).below hbb (Nat.lt_of_lt_of_le hl2 hba.size)
              replace hl2 := block_lt_of_cell (hp2 0 (by rw [scale_len]; exact HH0.out)).1
              have hu2 := grow_to (grow_to hu1 hba) hbb
              clear hba hbb hu1
              refine Walk.calls rfl rfl ?_; apply Exists.intro; apply Exists.intro; refine ⟨fun w' hS => ?_, fun w' hba => ?_⟩; (clear hS; go_simp; exact ⟨rfl, rfl⟩)
              have hu3 := grow_to hu2 hba
              refine (HDX.out (by first | exact trivial | rfl) B2 c2 B1 c1 w' (hp2.below hba hl2) (HIX.out.below hu3 HLB.out)).mono ?_
              rintro e u4 ⟨rfl, hbb⟩
              refine ⟨_, rfl, hbb, ?_⟩
              simp only [List.getElem_toArray, List.getElem_cons_succ, List.getElem_cons_zero, Act.put, List.setIfInBounds_toArray, List.set_cons_zero, List.set_cons_succ]
              clear hba hbb hp2 hl2 hu2 hu3 u1 u2
              iterate 3
                (refine Walk.takes rfl rfl ?_; apply Exists.intro; refine ⟨fun w' hS => ?_, ?_⟩; (clear hS; go_simp; with_reducible rfl); simp only [List.getElem_toArray, List.getElem_cons_succ, List.getElem_cons_zero, Act.put, List.setIfInBounds_toArray, List.set_cons_zero, List.set_cons_succ])
              refine Walk.fin ?_
              intro v7 hb7 b9 hbb9 hz8 hw7
              simp only [List.getElem_toArray, List.getElem_cons_succ, List.getElem_cons_zero, Act.put, List.setIfInBounds_toArray, List.set_cons_zero, List.set_cons_succ]
              have hs37 : (Try.prog.info? 37).map (·.size) = some (rsV z).size := s37
              have n1 := set_whole b9 37 v7 zero37 (rsV z) rfl hz8
              have n3 := below_cells (b := b9) hbb9 (rsV z).toList 0 v7 hw7
              refine Tail.skip rfl rfl (exec_store_row 37 (.tmp 25) (.tmp 161) rfl b9 0 (rsV z) rfl rfl (there_block hz8 (Nat.le_refl _)) hs37 (by simp [rsV, iV, Value.oneCell'])) n3 ?_
              simp only [List.getElem_toArray, List.getElem_cons_succ, List.getElem_cons_zero, Act.put, List.setIfInBounds_toArray, List.set_cons_zero, List.set_cons_succ]
              generalize v7.setCells b9 0 (rsV z).toList = w20 at *
              (refine Tail.value rfl rfl (by go_simp; with_reducible rfl) ?_; simp only [List.getElem_toArray, List.getElem_cons_succ, List.getElem_cons_zero, Act.put, List.setIfInBounds_toArray, List.set_cons_zero, List.set_cons_succ])
              refine Tail.done (NoPanic.normal ?_)
              clear hz8 hw7 hb7 hs37
              clear v7
              have y1 := (n3.block _ (lt_of_block K82.out)).trans K82.out
              have HB20 := Lib.hid (below_to hb.out n3)
              clear n3 hbb9 HC3 HDX HCX hb
              have hbd := HBD.out
              obtain ⟨e1, e2, e3, e4, e5, e6⟩ := HSC
              have hcb := HCB.out
              obtain ⟨st, pk, ya, yv, ma, pl, wk⟩ := x
              obtain ⟨st2, pk2, ya2, yv2, ma2, pl2, wk2⟩ := z
              simp only at e1 e2 e3 e4 e5 e6 hbd
              subst e1 e2 e3 e4 e5 e6
              have hv1 : IntKind.i64.wrap (c * st) = c * st := IntWalk.i64_in _ (by
                rcases (show c = 1 ∨ c = 2 ∨ c = 3 ∨ c = 4 by omega) with h | h | h | h <;> rw [h] <;> omega)
              have hv2 : IntKind.i64.wrap (c * yv) = c * yv := IntWalk.i64_in _ (by
                rcases (show c = 1 ∨ c = 2 ∨ c = 3 ∨ c = 4 by omega) with h | h | h | h <;> rw [h] <;> omega)
              have hv3 : IntKind.i64.wrap (c * wk) = c * wk := IntWalk.i64_in _ (by
                rcases (show c = 1 ∨ c = 2 ∨ c = 3 ∨ c = 4 by omega) with h | h | h | h <;> rw [h] <;> omega)
              clear hbd hcb HBD HNEQ K82
              have a0 := cell_of_row w20 b8 0 _ _ _ y1
              have a1 := cell_of_row w20 b8 1 _ _ _ y1
              have a2 := cell_of_row w20 b8 2 _ _ _ y1
              have a3 := cell_of_row w20 b8 3 _ _ _ y1
              have a4 := cell_of_row w20 b8 4 _ _ _ y1
              have a6 := cell_of_row w20 b8 6 _ _ _ y1
              have f0 := cell_of_row w20 b9 0 _ _ _ n1
              have f1 := cell_of_row w20 b9 1 _ _ _ n1
              have f2 := cell_of_row w20 b9 2 _ _ _ n1
              have f3 := cell_of_row w20 b9 3 _ _ _ n1
              have f4 := cell_of_row w20 b9 4 _ _ _ n1
              have f6 := cell_of_row w20 b9 6 _ _ _ n1
              simp [rsV, iV] at a0 a1 a2 a3 a4 a6 f0 f1 f2 f3 f4 f6
              clear y1 n1
              go_wp2_with fail
              refine (HA.out _).mono ?_
              rintro e w21 ⟨rfl, hb21⟩
              have hbf := below_to HB20.out hb21
              clear hb21 a0 a1 a2 a3 a4 a6 f0 f1 f2 f3 f4 f6
              go_wp2
              go_ret
              exact ⟨rfl, hbf⟩
end Go.Proofs.Ytfjlnejeffkdoaa
