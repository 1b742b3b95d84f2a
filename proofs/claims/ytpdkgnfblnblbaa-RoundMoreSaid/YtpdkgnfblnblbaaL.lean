/- The iterator over readings is made; a copy of ranges: contracts. Condition: the round is valid. -/
import Derived.Test.YtpdkgnfblnblbaaJ
namespace Go.Proofs.Ytpdkgnfblnblbaa
open Go.RowKit Go.Shelf
attribute [local irreducible] arrV wpQuiet
theorem wpList_append_by {ops : Array Oper} {rest : List Oper} {o : Oper} {a : Act} {Q : Exit → Act → World → Prop} {W W' : World} {v y z : Value} (hgd : o.guard = none) (s x : Operand) (t u ty : TypeId)
    (ho : o.op = .call { callee := .builtin .append, args := #[s, x], argTypes := #[t, u] }) (hs : a.eval s = y) (hx : a.eval x = z) (hty : o.type = ty) (hr : (Builtin.append_ #[t, u] ty #[y, z]).run Try.prog W = .ok v W')
    (h : wpList Try.prog ops Q rest (a.put o.dst v) W') : wpList Try.prog ops Q (o :: rest) a W := by
  refine wpList_plain hgd fun K hK => ?_
  unfold Oper.wp
  rw [exec_append s x ho hs hx (by rw [hty]; exact hr)]
  exact hK _ _ h
set_option maxHeartbeats 400000 in
theorem readings_any (n : Nat) (p : Rp) (R : Rd) (off : Nat → Bool) (s : Nat) (w : World) (hR : RdOk R) (hs : s < R.smp.length) (hV : LabsV n w (labsV p R) R.labs) (hn : n ≤ w.heap.size) :
    Calls Try.prog 74 #[.agg #[.slice p.la R.lots.length p.lc, .slice p.sa R.smp.length p.sc, .int .i64 R.sp, .slice p.ba R.labs.length p.bc, .bool (off 0), .bool (off 1), .bool (off 2), .bool (off 3), .bool (off 4), .bool (off 5)], .int .i64 s] w fun e w' => ∃ Bt Bs, e = .returned (.func (.func 89) #[] #[.pointer (some ⟨Bt, 0, none⟩), .pointer (some ⟨Bs, 0, none⟩)]) ∧ Below w.heap.size w w' ∧ w.heap.size ≤ Bt ∧ Bt < w'.heap.size ∧ w.heap.size ≤ Bs ∧ Bs < w'.heap.size ∧
      SeqD Try.prog 89 #[.pointer (some ⟨Bt, 0, none⟩), .pointer (some ⟨Bs, 0, none⟩)] encR (fun _ => True) (fun k => k < n ∨ k = Bt ∨ k = Bs) (fun xs => xs = readsR R off s) (fun pre => pre <+: readsR R off s) w' := by
  have hb := below2 w (.cells #[.slice p.la R.lots.length p.lc, .slice p.sa R.smp.length p.sc, .int .i64 R.sp, .slice p.ba R.labs.length p.bc, .bool (off 0), .bool (off 1), .bool (off 2), .bool (off 3), .bool (off 4), .bool (off 5)] 83) (.cells #[.int .i64 s] 3)
  have hx := box2 w (.cells #[.slice p.la R.lots.length p.lc, .slice p.sa R.smp.length p.sc, .int .i64 R.sp, .slice p.ba R.labs.length p.bc, .bool (off 0), .bool (off 1), .bool (off 2), .bool (off 3), .bool (off 4), .bool (off 5)] 83) (.cells #[.int .i64 s] 3)
  have hseq := Lib.hid (readings_seq n w.heap.size (w.heap.size + 1) p R off s _ hR hs (hV.same (.below hn hb)) (Nat.le_trans hn hb.size) hx.1 hx.2)
  clear hx hR hV
  go_enter Try.func74, Try.ntmps74
  go_wp2
  go_ret
  exact ⟨w.heap.size, w.heap.size + 1, rfl, hb, Nat.le_refl _, by simp; omega, by omega, by simp, hseq.out⟩

theorem nil_no31 (ad : Addr) (n c : Nat) (w : World) : (binOp .eql 31 (.slice (some ad) n c) (.slice none 0 0)).run Try.prog w = .ok (.bool false) w := by kernel_rfl
set_option maxRecDepth 100000 in
set_option maxHeartbeats 1000000 in
theorem clone_any (n : Nat) (v : Value) (xs : List Rg) (w : World) (hl : xs.length ≤ 100) (h0 : 0 < xs.length) (h : RgsV n w v xs) :
    Calls Try.prog 82 #[v] w fun e w' => (∃ r, e = .returned r ∧ w'.ownsRow w.heap.size 46 2 r xs.length (flatR xs)) ∧ Below w.heap.size w w' := by
  obtain ⟨a, cap, rfl, hp⟩ := h
  obtain ⟨hn0, hc⟩ := rgs_cells (n := n) (w := w) (ad := a) (cap := cap) (l := xs) ⟨a, cap, rfl, hp⟩
  obtain ⟨b, off, rfl, hcc⟩ := hc h0
  have hb1 := box_below w (.cells #[] 46)
  have ho1 := act_empty 46 2 w.heap.size w (Nat.le_refl _)
  have hca : 0 < xs.length → ∃ b' off', (some ⟨b, off, none⟩ : Option Addr) = some ⟨b', off', none⟩ ∧ ∀ j u, (flatR xs)[j]? = some u → (w.alloc (.cells #[] 46)).cell? ⟨b', off' + j, none⟩ = some u := fun hp =>
    ⟨b, off, rfl, fun j u hj => by
      have hx := hcc j u hj
      exact (hb1.cell (p := ⟨b, off + j, none⟩) (block_lt_of_cell hx)).trans hx⟩
  obtain ⟨ov, W3, hr3, ho3, hb3, -, -, -⟩ := act_app2 el31 w.heap.size 0 (.slice (some ⟨w.heap.size, 0, none⟩) 0 0) [] (some ⟨b, off, none⟩) xs.length cap (flatR xs) (w.alloc (.cells #[] 46)) (fun k => k < (w.alloc (.cells #[] 46)).heap.size) 31 (by simp [maxLen]; omega) (by omega) ho1 (by simp) (by rw [flatR_length]) (fun h => by cases h) hca flatR_one (fun k hk => by simp [Value.ownBlock] at hk; subst hk; simp) (fun k h => h)
  rw [Nat.zero_add, List.nil_append] at ho3
  have HR := Lib.hid hr3
  have HO := Lib.hid ho3
  have HB := Lib.hid (hb1.trans hb3)
  clear hcc hc hca hr3 ho3 hb3 ho1 hb1 hp hn0
  have q1 := nil_no31 ⟨b, off, none⟩ xs.length cap
  go_enter Try.func82, Try.ntmps82
  go_wp2_with (first
    | (refine wpList_append_by (v := ov) (W' := W3) (y := .slice (some ⟨w.heap.size, 0, none⟩) 0 0) (z := .slice (some ⟨b, off, none⟩) xs.length cap) rfl (.tmp 5) (.tmp 6) 31 31 31 rfl rfl rfl rfl HR.out ?_)
    | fail)
  go_ret
  exact ⟨⟨_, rfl, HO.out⟩, HB.out⟩

theorem wpListIn_app {F : Fence} {n' : Nat} {t e : TypeId} {sz bytes : Nat} (hE : ElemOk t e sz bytes) {ops : Array Oper} {rest : List Oper} {o : Oper} {a : Act} {Q : Exit → Act → World → Prop} {W : World} (hgd : o.guard = none) (s x : Operand)
    (ho : o.op = .call { callee := .builtin .append, args := #[s, x], argTypes := #[t, t] }) (base n : Nat) (v : Value) (xs : List Value) (cells : Array Value) (hc : cells.size = sz) (h1 : ∀ u ∈ cells.toList, u.oneCell' = true)
    (hs : a.eval s = v) (hx : a.eval x = .slice (some ⟨W.heap.size, 0, none⟩) 1 1) (hown : W.ownsRow base e sz v n xs) (hb : base ≤ W.heap.size) (hn : n ≤ 1000)
    (h : ∀ g c w', w'.ownsRow base e sz (.slice (some ⟨g, 0, none⟩) (n + 1) c) (n + 1) (xs ++ cells.toList) → Grew base W w' v → (v.ownBlock = some g ∨ W.heap.size ≤ g) → wpListIn F n' Try.prog ops Q rest (a.put o.dst (.slice (some ⟨g, 0, none⟩) (n + 1) c)) w') : wpListIn F n' Try.prog ops Q (o :: rest) a (W.alloc (.cells cells e (0, 0))) := by
  obtain ⟨g, c, w', hr, h2, h3, h4⟩ := exec_app hE s x ho base n v xs cells hc h1 hs hx hown hb hn
  refine wpListIn_plain hgd fun K hK => ?_
  unfold Oper.wpIn
  refine ⟨by intro f hf; simp [Oper.about, ho, resolve, Target.leads] at hf, ?_⟩
  rw [Oper.semAt_plain F _ _ (by rw [ho]; intro c hc'; cases hc'), hr]
  exact hK _ _ (h g c w' h2 h3 h4)
end Go.Proofs.Ytpdkgnfblnblbaa
