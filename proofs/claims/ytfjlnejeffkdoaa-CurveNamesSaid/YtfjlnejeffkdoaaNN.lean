/- A curve, a rule and a list of words, opened to cells. No condition. The statement CurveOrder holds: for every curve, rule and list of words the law returns true and leaves what it was given as it was. No condition. -/
import Derived.Test.YtfjlnejeffkdoaaG
import Derived.ProofKit
import Derived.OpenShut
import Derived.Deep.Slices
import Derived.Deep.Fields
import Derived.Lib.SmallJoins
import Derived.Test.YtfjlnejeffkdoaaRows
import Derived.Test.YtfjlnejeffkdoaaKK
namespace Go.Proofs.Ytfjlnejeffkdoaa
open Go.ChangeShapes Go.WideShapes Go.ChangeAt Go.RowKit Go.Deep

theorem len1 {α : Type} : ∀ {l : List α}, l.length = 1 → ∃ a, l = [a] := fun {l} h => by
  match l, h with
  | [a], _ => exact ⟨a, rfl⟩
theorem len2 {α : Type} : ∀ {l : List α}, l.length = 2 → ∃ a b, l = [a, b] := fun {l} h => by
  match l, h with
  | [a, b], _ => exact ⟨a, b, rfl⟩
theorem len3 {α : Type} : ∀ {l : List α}, l.length = 3 → ∃ a b c, l = [a, b, c] := fun {l} h => by
  match l, h with
  | [a, b, c], _ => exact ⟨a, b, c, rfl⟩

set_option maxRecDepth 100000
section
variable {H : Type} {enc : TypeId × Value → H} {w : World} {base fuel : Nat} {spare : Nat → Bool} {held : Bool}

theorem cells84 : Try.prog.cellsOf 84 = 3 := by kernel_rfl
theorem cells54 : Try.prog.cellsOf 54 = 2 := by kernel_rfl
theorem cells3 : Try.prog.cellsOf 3 = 1 := by kernel_rfl
theorem cells24 : Try.prog.cellsOf 24 = 1 := by kernel_rfl
theorem cells22 : Try.prog.cellsOf 22 = 1 := by kernel_rfl
theorem cells26 : Try.prog.cellsOf 26 = 3 := by kernel_rfl
theorem cells89 : Try.prog.cellsOf 89 = 1 := by kernel_rfl

theorem load_cells {cs : List Value} {x : DataW H × List MemPlace} (h : DataW.trod enc Try.prog w base spare held fuel 54 cs = some x) : ∃ lo hi, cs = [.int .i64 lo, .int .i64 hi] := by
  obtain ⟨xs, n, _, _, hl, hxl, hf⟩ := DataW.trod_struct Try.underlying54 h
  rw [cells54] at hl
  · obtain ⟨c0, c1, rfl⟩ := len2 hl
    obtain ⟨y0, y1, rfl⟩ := len2 hxl
    have f0 : DataW.trod enc Try.prog w base spare held n 3 (([c0, c1].drop 0).take (Try.prog.cellsOf 3)) = [y0, y1][0]? := hf 0 _ rfl
    have f1 : DataW.trod enc Try.prog w base spare held n 3 (([c0, c1].drop 1).take (Try.prog.cellsOf 3)) = [y0, y1][1]? := hf 1 _ rfl
    rw [cells3] at f0 f1
    obtain ⟨a, e0, _⟩ := DataW.trod_int Try.underlying3 (show DataW.trod enc Try.prog w base spare held n 3 [c0] = some y0 from f0)
    obtain ⟨b, e1, _⟩ := DataW.trod_int Try.underlying3 (show DataW.trod enc Try.prog w base spare held n 3 [c1] = some y1 from f1)
    simp only [List.cons.injEq, and_true] at e0 e1
    subst e0 e1
    exact ⟨a, b, rfl⟩

theorem point_cells {cs : List Value} {x : DataW H × List MemPlace} (h : DataW.trod enc Try.prog w base spare held fuel 84 cs = some x) : ∃ s lo hi, cs = [.int .i64 s, .int .i64 lo, .int .i64 hi] := by
  obtain ⟨xs, n, _, _, hl, hxl, hf⟩ := DataW.trod_struct Try.underlying84 h
  rw [cells84] at hl
  · obtain ⟨c0, c1, c2, rfl⟩ := len3 hl
    obtain ⟨y0, y1, rfl⟩ := len2 hxl
    have f0 : DataW.trod enc Try.prog w base spare held n 3 (([c0, c1, c2].drop 0).take (Try.prog.cellsOf 3)) = [y0, y1][0]? := hf 0 _ rfl
    have f1 : DataW.trod enc Try.prog w base spare held n 54 (([c0, c1, c2].drop 1).take (Try.prog.cellsOf 54)) = [y0, y1][1]? := hf 1 _ rfl
    rw [cells3] at f0
    rw [cells54] at f1
    obtain ⟨a, e0, _⟩ := DataW.trod_int Try.underlying3 (show DataW.trod enc Try.prog w base spare held n 3 [c0] = some y0 from f0)
    obtain ⟨b, c, e1⟩ := load_cells (show DataW.trod enc Try.prog w base spare held n 54 [c1, c2] = some y1 from f1)
    simp only [List.cons.injEq, and_true] at e0 e1
    obtain ⟨e1, e2⟩ := e1
    subst e0 e1 e2
    exact ⟨a, b, c, rfl⟩

theorem open_pts {cs : List Value} {x : DataW H × List MemPlace} (h : DataW.trod enc Try.prog w base spare held fuel 22 cs = some x) :
    cs = [.slice none 0 0] ∨ ∃ (a : Addr) (len cap : Nat), cs = [.slice (some a) len cap] ∧ len ≤ maxLen ∧ (0 < len → ∃ b off ps, a = ⟨b, off, none⟩ ∧ ps.length = len ∧ PtsIn w b off ps) := by
  rcases open_slice Try.underlying22 h with ⟨hcs, _⟩ | ⟨a, len, cap, m, n, D, Pl, hcs, hb, hl, hm, hmm, hx, hi⟩
  · exact Or.inl hcs
  refine Or.inr ⟨a, len, cap, hcs, Nat.le_trans hl hm, fun h0 => ?_⟩
  have hlm : len ≤ m := by rw [hmm]; split <;> omega
  have hel : ∀ i, i < len → ∃ p : Pt, w.cell? (a.add (i * 3)) = some (.int .i64 p.s) ∧ w.cell? (a.add (i * 3 + 1)) = some (.int .i64 p.lo) ∧ w.cell? (a.add (i * 3 + 2)) = some (.int .i64 p.hi) := by
    intro i him
    obtain ⟨cs', hc, ht⟩ := hi i (by omega)
    rw [cells84] at hc
    obtain ⟨s, lo, hi', rfl⟩ := point_cells ht
    obtain ⟨_, _, hat⟩ := World.cells?_some hc
    have a0 := hat 0 (by decide)
    have a1 := hat 1 (by decide)
    have a2 := hat 2 (by decide)
    rw [add_add] at a0 a1 a2
    exact ⟨⟨s, lo, hi'⟩, a0, a1, a2⟩
  obtain ⟨b, off, spot⟩ := a
  have hspot : spot = none := by
    obtain ⟨p, h1, _⟩ := hel 0 h0
    simpa [Addr.add] using World.cell?_spot h1
  subst hspot
  have hex : ∃ F : Nat → Pt, ∀ i, i < len → w.cell? (Addr.add ⟨b, off, none⟩ (i * 3)) = some (.int .i64 (F i).s) ∧ w.cell? (Addr.add ⟨b, off, none⟩ (i * 3 + 1)) = some (.int .i64 (F i).lo) ∧ w.cell? (Addr.add ⟨b, off, none⟩ (i * 3 + 2)) = some (.int .i64 (F i).hi) :=
    ⟨fun i => if hh : i < len then (hel i hh).choose else ⟨0, 0, 0⟩, fun i hh => by simp only [dif_pos hh]; exact (hel i hh).choose_spec⟩
  obtain ⟨F, hF⟩ := hex
  refine ⟨b, off, (List.range len).map F, rfl, by simp, fun i hi' => ?_⟩
  have hil : i < len := by simpa using hi'
  have ep : pt ((List.range len).map F) i = F i := by simp [pt, hil]
  rw [ep]
  have := hF i hil
  simpa [Go.WideShapes.add_plain, Nat.add_assoc] using this

theorem open_curve {r : Reach} {b0 : Nat} {v : Value} {d : DataW H} {p : List MemPlace} (hv : Value.okWide Try.prog w r b0 24 v) (h : DataW.Trod enc Try.prog w base spare held 24 v d p) :
    ∃ (sa : Option Addr) (len cap : Nat), v = .agg #[.slice sa len cap] ∧ len ≤ maxLen ∧ (0 < len → ∃ b off ps, sa = some ⟨b, off, none⟩ ∧ ps.length = len ∧ PtsIn w b off ps) := by
  obtain ⟨cs, rfl, hsz⟩ := okWide_struct Try.underlying24 hv
  rw [cells24] at hsz
  obtain ⟨l⟩ := cs
  · obtain ⟨c0, rfl⟩ := len1 (show l.length = 1 from hsz)
    obtain ⟨fuel, hf⟩ := h
    obtain ⟨xs, n, _, _, _, hxl, hg⟩ := DataW.trod_struct Try.underlying24 hf
    · obtain ⟨y0, rfl⟩ := len1 (show xs.length = 1 from hxl)
      have f0 : DataW.trod enc Try.prog w base spare held n 22 (([c0].drop 0).take (Try.prog.cellsOf 22)) = [y0][0]? := hg 0 _ rfl
      rw [cells22] at f0
      rcases open_pts (show DataW.trod enc Try.prog w base spare held n 22 [c0] = some y0 from f0) with e | ⟨a, len, cap, e, hl, hp⟩
      · simp only [List.cons.injEq, and_true] at e
        subst e
        exact ⟨none, 0, 0, rfl, Nat.zero_le _, fun h => absurd h (by decide)⟩
      · simp only [List.cons.injEq, and_true] at e
        subst e
        refine ⟨some a, len, cap, rfl, hl, fun h0 => ?_⟩
        obtain ⟨b, off, ps, rfl, h1, h2⟩ := hp h0
        exact ⟨b, off, ps, rfl, h1, h2⟩

theorem open_rule {r : Reach} {b0 : Nat} {v : Value} {d : DataW H} {p : List MemPlace} (hv : Value.okWide Try.prog w r b0 26 v) (h : DataW.Trod enc Try.prog w base spare held 26 v d p) :
    ∃ a b c : Int, v = .agg #[.int .i64 a, .int .i64 b, .int .i64 c] := by
  obtain ⟨cs, rfl, hsz⟩ := okWide_struct Try.underlying26 hv
  rw [cells26] at hsz
  obtain ⟨l⟩ := cs
  · obtain ⟨c0, c1, c2, rfl⟩ := len3 (show l.length = 3 from hsz)
    obtain ⟨fuel, hf⟩ := h
    obtain ⟨xs, n, _, _, _, hxl, hg⟩ := DataW.trod_struct Try.underlying26 hf
    · obtain ⟨y0, y1, y2, rfl⟩ := len3 (show xs.length = 3 from hxl)
      have f0 : DataW.trod enc Try.prog w base spare held n 3 (([c0, c1, c2].drop 0).take (Try.prog.cellsOf 3)) = [y0, y1, y2][0]? := hg 0 _ rfl
      have f1 : DataW.trod enc Try.prog w base spare held n 3 (([c0, c1, c2].drop 1).take (Try.prog.cellsOf 3)) = [y0, y1, y2][1]? := hg 1 _ rfl
      have f2 : DataW.trod enc Try.prog w base spare held n 3 (([c0, c1, c2].drop 2).take (Try.prog.cellsOf 3)) = [y0, y1, y2][2]? := hg 2 _ rfl
      rw [cells3] at f0 f1 f2
      obtain ⟨a, e0, _⟩ := DataW.trod_int Try.underlying3 (show DataW.trod enc Try.prog w base spare held n 3 [c0] = some y0 from f0)
      obtain ⟨b, e1, _⟩ := DataW.trod_int Try.underlying3 (show DataW.trod enc Try.prog w base spare held n 3 [c1] = some y1 from f1)
      obtain ⟨c, e2, _⟩ := DataW.trod_int Try.underlying3 (show DataW.trod enc Try.prog w base spare held n 3 [c2] = some y2 from f2)
      simp only [List.cons.injEq, and_true] at e0 e1 e2
      subst e0 e1 e2
      exact ⟨a, b, c, rfl⟩

theorem open_words {r : Reach} {b0 : Nat} {v : Value} {d : DataW H} {p : List MemPlace} (hv : Value.okWide Try.prog w r b0 76 v) (h : DataW.Trod enc Try.prog w base spare held 76 v d p) :
    ∃ (aw : Option Addr) (m capw : Nat) (wd : Nat → Int), v = .slice aw m capw ∧ m ≤ maxLen ∧ ∀ j, j < m → ∃ bw ow, aw = some ⟨bw, ow, none⟩ ∧ w.cell? ⟨bw, ow + j, none⟩ = some (.int .u16 (wd j)) ∧ 0 ≤ wd j ∧ wd j < 65536 := by
  obtain ⟨a0, len, cap, rfl⟩ := okWide_slice Try.underlying76 hv
  obtain ⟨fuel, hf⟩ := h
  rcases open_ints Try.underlying76 Try.underlying89 cells89 hf with ⟨hcs, _⟩ | ⟨a, len', cap', zs, hcs, _, hl, hm, hz, _, hcell, hwz⟩
  · simp only [Value.cells, List.cons.injEq, Value.slice.injEq, and_true] at hcs
    obtain ⟨rfl, rfl, rfl⟩ := hcs
    exact ⟨none, 0, 0, fun _ => 0, rfl, Nat.zero_le _, fun j hj => absurd hj (by omega)⟩
  · simp only [Value.cells, List.cons.injEq, Value.slice.injEq, and_true] at hcs
    obtain ⟨rfl, rfl, rfl⟩ := hcs
    have hlz : len ≤ zs.length := by rw [hz]; split <;> omega
    refine ⟨some a, len, cap, fun j => zs.getD j 0, rfl, Nat.le_trans hl hm, fun j hj => ?_⟩
    obtain ⟨b, off, rfl, hc⟩ := ints_at hcell (by omega)
    refine ⟨b, off, rfl, hc j (by omega), ?_⟩
    have hmem : zs.getD j 0 ∈ zs := by
      have hjz : j < zs.length := by omega
      simp [List.getD_eq_getElem?_getD, hjz]
    have := hwz _ hmem
    simp [Lit.wf, IntKind.min, IntKind.max, IntKind.signed, IntKind.bits] at this
    simp
    omega
end
end Go.Proofs.Ytfjlnejeffkdoaa

namespace Go.Proofs.Ytfjlnejeffkdoaa
open Go.ChangeShapes Go.WideShapes Go.ChangeAt Go.RowKit

theorem Try.own : ownKnob Try.prog.godebug = none := by kernel_rfl
theorem Try.laidOut : laidOutB Try.prog = true := by kernel_rfl

theorem ready_of {sa : Option Addr} {n cap : Nat} {E d k o : Int} {w : World} {x : Bool} (hE : E = 0 ∨ E = 1 ∨ E = 3)
    (hF : ∀ W, Below w.heap.size w W → Calls Try.prog 23 #[.agg #[.slice sa n cap]] W fun e w' => e = .returned (.int .i64 E) ∧ Below W.heap.size W w')
    (hx : (decide (n ≤ 25) && decide ((if E = 0 then ruleE ⟨d, k, o⟩ else E) = 0)) = x) :
    ∀ W, Below w.heap.size w W → Calls Try.prog 41 #[.agg #[.slice sa n cap], .agg #[.int .i64 d, .int .i64 k, .int .i64 o]] W fun e w' => e = .returned (.bool x) ∧ Below W.heap.size W w' := by
  intro W hb
  subst hx
  exact ready_any sa n cap E d k o W hE (IsRule_any d k o) (Thin_any sa n cap) (fun W' hb' => hF W' (below_to hb hb'))

/-- The law returns true: a curve, a rule and words, as they lie in memory. -/
theorem order_any (sa : Option Addr) (n cap : Nat) (d k o : Int) (aw : Option Addr) (m capw : Nat) (wd : Nat → Int) (w : World) (hn : n ≤ maxLen)
    (hp : 0 < n → ∃ b off ps, sa = some ⟨b, off, none⟩ ∧ ps.length = n ∧ PtsIn w b off ps) (hm : m ≤ maxLen)
    (hw : ∀ j, j < m → ∃ bw ow, aw = some ⟨bw, ow, none⟩ ∧ w.cell? ⟨bw, ow + j, none⟩ = some (.int .u16 (wd j)) ∧ 0 ≤ wd j ∧ wd j < 65536) :
    Calls Try.prog 14 #[.agg #[.slice sa n cap], .agg #[.int .i64 d, .int .i64 k, .int .i64 o], .slice aw m capw] w fun e w' => e = .returned (.bool true) ∧ Below w.heap.size w w' := by
  by_cases h20 : 20 < n
  · refine order_no _ (.bool true) _ _ _ _ w (ready_of (E := 3) (by omega) (fun W _ => Fault_long sa n cap W h20 hn) ?_)
    simp
  by_cases h0 : n = 0
  · subst h0
    refine order_no _ (.bool true) _ _ _ _ w (ready_of (E := 1) (by omega) (fun W _ => Fault_empty sa cap W) ?_)
    simp
  obtain ⟨b, off, ps, rfl, rfl, hP⟩ := hp (by omega)
  have hl : 0 < ps.length := by omega
  have hl20 : ps.length ≤ 20 := by omega
  have hltb := block_lt_of_cell (hP 0 hl).1
  have hE : ptsE ps = 0 ∨ ptsE ps = 1 ∨ ptsE ps = 3 := by
    unfold ptsE; split <;> simp
  have hF : ∀ W, Below w.heap.size w W → Calls Try.prog 23 #[.agg #[.slice (some ⟨b, off, none⟩) ps.length cap]] W fun e w' => e = .returned (.int .i64 (ptsE ps)) ∧ Below W.heap.size W w' :=
    fun W hb => Fault_pts b off cap ps W hl20 hl (hP.below hb hltb)
  have h25 : ps.length ≤ 25 := by omega
  cases hg : goodsB ps 0 with
  | false =>
    refine order_no _ (.bool true) _ _ _ _ w (ready_of hE hF ?_)
    simp [ptsE_no hg]
  | true =>
    cases hr : ruleB ⟨d, k, o⟩ with
    | false =>
      refine order_no _ (.bool true) _ _ _ _ w (ready_of hE hF ?_)
      simp [ptsE_yes hg, ruleE_no hr]
    | true =>
      refine order_yes b off cap m capw aw ps ⟨d, k, o⟩ wd w hl20 hl hg hr hP hm hw (ready_of hE hF ?_)
      simp [ptsE_yes hg, ruleE_yes hr, h25]

set_option maxRecDepth 100000 in
theorem order_lifted (os : Os) (started : os.Started) (H : Type) (enc : TypeId × Value → H) :
    ReturnsInHanded {} Try.checked os 14 .any (Rows.curveOrderSpec.pre6 enc Try.prog Try.f14 Rows.curveOrderRow.domain false) (Rows.curveOrderSpec.post enc Try.prog Try.f14 false true false false) := by
  refine returnsInHanded_of_change (C := Try.checked) Try.own started (by kernel_rfl) Try.func14
    (ChangeSpec.witness6 (enc := enc) (C := Try.checked) false ⟨#[], #[.agg #[.slice none 0 0], .agg #[.int .i64 0, .int .i64 0, .int .i64 0], .slice none 0 0], []⟩ 8 (by kernel_rfl) (by kernel_rfl) (by kernel_rfl) (by kernel_rfl)) ?_
  intro W base args ds gs before hval0 hW _ _
  have hval : ∀ (j : Nat) t v, Try.f14.params[j]? = some t → args[j]? = some v → Value.okWide Try.prog W .any base t v := hval0
  have hW' := hW
  obtain ⟨p, q, hA0, hV, rfl, hfz, hnd⟩ := hW
  have hA : DataW.TrodAll enc Try.prog W 0 (fun _ => true) true Try.f14.params.toList args.toList ds p := hA0
  rw [Try.params14] at hA hval
  obtain ⟨v0, v1, v2, d0, d1, d2, p0, p1, p2, rfl, rfl, rfl, h0, h1, h2⟩ := trodAll_three hA
  obtain ⟨rfl, rfl⟩ := trodVars_none hV
  obtain ⟨sa, n, cap, rfl, hn, hp⟩ := open_curve (hval 0 24 v0 rfl rfl) h0
  obtain ⟨d, k, o, rfl⟩ := open_rule (hval 1 26 v1 rfl rfl) h1
  obtain ⟨aw, m, capw, wd, rfl, hm, hw⟩ := open_words (hval 2 76 v2 rfl rfl) h2
  clear hA0 hval0
  refine (order_any sa n cap d k o aw m capw wd W hn hp hm hw).mono fun e W' ⟨he, hb⟩ => ?_
  subst he
  have hlt : ∀ x ∈ p0 ++ (p1 ++ p2), x.block < W.heap.size := fun x hx => by simpa using hW'.lt x (by simpa using hx)
  have e1 : Rows.curveOrderSpec.fn H ([d0, d1, d2] ++ []) = { results := [.lit (.bool true)], args := [d0, d1, d2] } := rfl
  refine ⟨_, rfl, _, _, _, [], p0 ++ (p1 ++ p2), [], hW', ?_, ?_, ?_, hb.frame _, fun h => by cases h⟩
  · rw [e1]
    exact trodAll_mk1 (shut_bool Try.underlying4 true)
  · rw [e1]
    exact trodAll_mk3 (Below.trod Try.laidOut (by kernel_rfl) (of_decide_eq_true (by kernel_rfl)) h0 hb (fun x hx => hlt x (by simp [hx])))
      (Below.trod Try.laidOut (by kernel_rfl) (of_decide_eq_true (by kernel_rfl)) h1 hb (fun x hx => hlt x (by simp [hx])))
      (Below.trod Try.laidOut (by kernel_rfl) (of_decide_eq_true (by kernel_rfl)) h2 hb (fun x hx => hlt x (by simp [hx])))
  · rfl

theorem order_holds : Rows.CurveOrderSaid :=
  OpenClaim.holds_of_wide 14 Try.f14 rfl rfl rfl rfl rfl rfl rfl ⟨rfl, rfl, rfl, rfl, rfl⟩ rfl rfl rfl rfl rfl (by kernel_rfl) Try.func14 (by kernel_rfl)
    (of_decide_eq_true (by kernel_rfl)) (by unfold Func.isWrapper; rw [if_neg (of_decide_eq_false (by kernel_rfl))]; exact ⟨rfl, rfl⟩)
    (fun os started H enc _ => order_lifted os started H enc)
#print axioms order_holds
end Go.Proofs.Ytfjlnejeffkdoaa
