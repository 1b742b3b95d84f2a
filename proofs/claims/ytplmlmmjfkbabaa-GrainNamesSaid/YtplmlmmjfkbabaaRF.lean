/- The ranges cut by all comparisons as long as something changes, by the reference. No condition. -/
import Derived.Test.YtplmlmmjfkbabaaRGJ
import Derived.Test.YtplmlmmjfkbabaaAJ
import Derived.BigRegion
import Derived.BigQuiet
namespace Go.Proofs.Ytplmlmmjfkbabaa
open Go.RowKit Go.Shelf
attribute [local irreducible] arrV wpQuiet mat shl

theorem wpList_append_by {ops : Array Oper} {rest : List Oper} {o : Oper} {a : Act} {Q : Exit → Act → World → Prop} {W W' : World} {v y z : Value} (hgd : o.guard = none) (s x : Operand) (t u ty : TypeId)
    (ho : o.op = .call { callee := .builtin .append, args := #[s, x], argTypes := #[t, u] }) (hs : a.eval s = y) (hx : a.eval x = z) (hty : o.type = ty) (hr : (Builtin.append_ #[t, u] ty #[y, z]).run Try.prog W = .ok v W')
    (h : wpList Try.prog ops Q rest (a.put o.dst v) W') : wpList Try.prog ops Q (o :: rest) a W := by
  refine wpList_plain hgd fun K hK => ?_
  unfold Oper.wp
  rw [exec_append s x ho hs hx (by rw [hty]; exact hr)]
  exact hK _ _ h
theorem own_getR {w : World} {base e sz n : Nat} {v : Value} {xs : List Value} (h : w.ownsRow base e sz v n xs) (hn : 0 < n) :
    ∃ g cap, v = .slice (some ⟨g, 0, none⟩) n cap ∧ base ≤ g ∧ g < w.heap.size ∧ ∀ j, j < n * sz → w.cell? ⟨g, j, none⟩ = xs[j]? := by
  rcases h.2 with ⟨hv, h0⟩ | ⟨g, cap, cur, hv, hb, hg, hn', _, hs, ht⟩
  · omega
  · refine ⟨g, cap, hv, hb, lt_of_block hg, fun j hj => ?_⟩
    have h1 : (cur.toList.take (n * sz))[j]? = xs[j]? := by rw [ht]
    rw [List.getElem?_take_of_lt hj] at h1
    rw [cell_of_row w g j _ _ _ hg, ← Array.getElem?_toList, h1]
noncomputable def fl43 : Array Field := #[{ name := "Lo", type := 3, offset := 0, embedded := false, tag := "", pkgPath := "", byteOffset := 0 }, { name := "Hi", type := 3, offset := 1, embedded := false, tag := "", pkgPath := "", byteOffset := 8 }]
theorem f43 : Try.prog.fieldsOf 43 = fl43 := by kernel_rfl
theorem s43f : Try.prog.underlying 43 = some (.struct (Try.prog.fieldsOf 43)) := by kernel_rfl
theorem st43 : Try.prog.stoodInHeld 43 = false := by kernel_rfl
theorem equal43 (a b c d : Int) (w : World) : (Op.equal 43 (.agg #[.int .i64 a, .int .i64 b]) (.agg #[.int .i64 c, .int .i64 d])).run Try.prog w = .ok (decide (a = c) && decide (b = d)) w := by
  show (Op.equalIn (9999 + 1) 43 _ _).run Try.prog w = _
  rw [run_equalIn_struct w 9999 43 _ _ s43f st43, f43]
  have e : ∀ a b : Int, (Op.equalIn 9999 3 (.int .i64 a) (.int .i64 b)).run Try.prog w = .ok (a == b) w := fun a b => run_equalIn_int w 9998 3 .i64 .i64 a b Try.underlying3
  simp only [fl43, Op.eqFields, Sem.run_bind, Sem.run_ite, part0, part1, Result.andThen_ok, e, Sem.run_pure, show ("Lo" ≠ "_") = True from by simp, show ("Hi" ≠ "_") = True from by simp, if_true]
  cases h1 : (a == c) <;> cases h2 : (b == d) <;> simp at h1 h2 <;> simp [h1, h2]
theorem neq43 (a b c d : Int) (A : Bool) (hA : (decide (a = c) && decide (b = d)) = A) (w : World) : (binOp .neq 43 (.agg #[.int .i64 a, .int .i64 b]) (.agg #[.int .i64 c, .int .i64 d])).run Try.prog w = .ok (.bool (!A)) w := by
  rw [← hA]
  simp [binOp, equal43 a b c d w, Result.andThen_ok]
theorem rg_dec (x y : Int) (r : Rg) : decide ((⟨x, y⟩ : Rg) = r) = (decide (x = r.lo) && decide (y = r.hi)) := by
  cases r
  simp [Rg.mk.injEq]
theorem cut_pos (xs : List Rg) (lN rN : Nat) (lo hi : Int) : cutR xs ⟨lN, rN, lo, hi⟩ = (xs.set rN ⟨max (rg xs rN).lo ((rg xs lN).lo - hi), min (rg xs rN).hi ((rg xs lN).hi - lo)⟩).set lN ⟨max (rg xs lN).lo ((rg xs rN).lo + lo), min (rg xs lN).hi ((rg xs rN).hi + hi)⟩ := by
  simp [cutR, newL, newR, sideR, capR]
theorem same_pos (xs : List Rg) (lN rN : Nat) (lo hi : Int) : sameR xs ⟨lN, rN, lo, hi⟩ = ((decide (max (rg xs lN).lo ((rg xs rN).lo + lo) = (rg xs lN).lo) && decide (min (rg xs lN).hi ((rg xs rN).hi + hi) = (rg xs lN).hi)) && (decide (max (rg xs rN).lo ((rg xs lN).lo - hi) = (rg xs rN).lo) && decide (min (rg xs rN).hi ((rg xs lN).hi - lo) = (rg xs rN).hi))) := by
  rw [← rg_dec, ← rg_dec]
  simp [sameR, newL, newR, sideR, capR]
theorem flag1 {b A B : Bool} (h : b = true) : (b || !(A && B)) = true := by rw [h]; rfl
theorem flag2 {b A B : Bool} (h : ¬ b = true) (h2 : A = true) : (b || !(A && B)) = !B := by
  cases b
  · rw [h2]; rfl
  · exact absurd rfl h
theorem flag3 {b A B : Bool} (h : ¬ b = true) (h2 : ¬ A = true) : (b || !(A && B)) = true := by
  cases b
  · cases A
    · rfl
    · exact absurd rfl h2
  · exact absurd rfl h
theorem mem_cmR {l : List Cm} {c : Cm} (h : c ∈ l) : ∃ i, i < l.length ∧ cm l i = c := by
  obtain ⟨i, hi, e⟩ := List.mem_iff_getElem.1 h
  exact ⟨i, hi, by simp [cm, hi, e]⟩
theorem cut_neg (xs : List Rg) (lN : Nat) (r lo hi : Int) (hr : ¬ 0 ≤ r) : cutR xs ⟨lN, r, lo, hi⟩ = xs.set lN ⟨max (rg xs lN).lo lo, min (rg xs lN).hi hi⟩ := by
  simp [cutR, newL, sideR, capR, hr]
theorem same_neg (xs : List Rg) (lN : Nat) (r lo hi : Int) (hr : ¬ 0 ≤ r) : sameR xs ⟨lN, r, lo, hi⟩ = (decide (max (rg xs lN).lo lo = (rg xs lN).lo) && decide (min (rg xs lN).hi hi = (rg xs lN).hi)) := by
  rw [← rg_dec]
  simp [sameR, newL, newR, sideR, capR, hr]
theorem row_other {w w' : World} {base e sz n g cap b : Nat} {xs : List Value} (h : w.ownsRow base e sz (.slice (some ⟨g, 0, none⟩) n cap) n xs) (hg : g ≠ b) (ho : ∀ k, k ≠ b → w'.heap[k]? = w.heap[k]?) : w'.ownsRow base e sz (.slice (some ⟨g, 0, none⟩) n cap) n xs := by
  refine ⟨h.1, ?_⟩
  rcases h.2 with ⟨hv, _⟩ | ⟨g', c', cur, hv, hb, hgg, hr⟩
  · cases hv
  cases hv
  exact .inr ⟨g, cap, cur, rfl, hb, (ho g hg).trans hgg, hr⟩
/-- A list of ranges of the reference in blocks below n. -/
def RefV (n : Nat) (w : World) (v : Value) (l : List Rg) : Prop := ∃ a cap, v = .slice a l.length cap ∧ (0 < l.length → ∃ b off, a = some ⟨b, off, none⟩ ∧ b < n ∧ ∀ j u, (flatR l)[j]? = some u → w.cell? ⟨b, off + j, none⟩ = some u)
theorem flatR_one {l : List Rg} : ∀ u ∈ flatR l, u.oneCell' = true := by
  intro u hu
  simp only [flatR, List.mem_flatMap] at hu
  obtain ⟨c, -, hc⟩ := hu
  simp at hc
  rcases hc with rfl | rfl <;> rfl
/-- The answer: where the ranges come to rest. -/
def Rest (cs : List Cm) (n : Nat) (R : List Rg) (B : Nat) (e : Ending) (w' : World) : Prop :=
  (∃ r xs, e = .returned (.tuple #[r, .bool true]) ∧ Nar cs n R xs ∧ (∀ c, c ∈ cs → sameR xs c = true) ∧ (∀ p, p < n → (rg xs p).lo ≤ (rg xs p).hi) ∧ w'.ownsRow B 43 2 r n (flatR xs)) ∨
  (e = .returned (.tuple #[.slice none 0 0, .bool false]) ∧ ∃ xs p, Nar cs n R xs ∧ p < n ∧ (rg xs p).hi < (rg xs p).lo)
set_option maxRecDepth 100000 in
set_option maxHeartbeats 8000000 in
theorem narrow_any (n : Nat) (v rv : Value) (cs : List Cm) (R : List Rg) (w : World) (hA : AlbW n cs) (hR : R.length = n) (hRB : ∀ p, p < n → 0 ≤ (rg R p).lo ∧ (rg R p).hi ≤ 100) (hV : CmsV w.heap.size w v cs) (hW : RefV w.heap.size w rv R) :
    Calls Try.prog 50 #[.agg #[.int .i64 n, v], rv] w fun e w' => Rest cs n R w.heap.size e w' ∧ Below w.heap.size w w' := by
  obtain ⟨a, cap, rfl, hp⟩ := hV
  obtain ⟨ra, rcap, rfl, hrp⟩ := hW
  rw [hR] at hrp ⊢
  have h8 := hA.n8
  have HX0 := Lib.hid (heap_alloc_new w (.cells #[.int .i64 n, .slice a cs.length cap] 24))
  have HB0 := Lib.hid (box_below w (.cells #[.int .i64 n, .slice a cs.length cap] 24))
  have HP := Lib.hid hp
  have HOK := Lib.hid hA
  have HRB := Lib.hid hRB
  clear hp hA hRB
  have hb1 := box_below (w.alloc (.cells #[.int .i64 n, .slice a cs.length cap] 24)) (.cells #[] 43)
  have ho1 := act_empty 43 2 (w.heap.size + 1) (w.alloc (.cells #[.int .i64 n, .slice a cs.length cap] 24)) (by simp)
  have hz1 : w.heap.size + 1 ≤ ((w.alloc (.cells #[.int .i64 n, .slice a cs.length cap] 24)).alloc (.cells #[] 43)).heap.size := by simp
  have hca : 0 < n → ∃ b off, ra = some ⟨b, off, none⟩ ∧ ∀ j u, (flatR R)[j]? = some u → ((w.alloc (.cells #[.int .i64 n, .slice a cs.length cap] 24)).alloc (.cells #[] 43)).cell? ⟨b, off + j, none⟩ = some u := fun h => by
    obtain ⟨b, off, e, hb, hc⟩ := hrp h
    exact ⟨b, off, e, fun j u hj => ((below_to HB0.out hb1).cell (p := ⟨b, off + j, none⟩) hb).trans (hc j u hj)⟩
  have hn0 : ra = none → n = 0 := fun h => by
    rcases Nat.eq_zero_or_pos n with h0 | h0
    · exact h0
    · obtain ⟨b, off, e, -⟩ := hrp h0
      rw [h] at e
      cases e
  obtain ⟨ov, W3, hr3, ho3, hb3, -, -, -⟩ := act_app2 el37 (w.heap.size + 1) 0 (.slice (some ⟨(w.alloc (.cells #[.int .i64 n, .slice a cs.length cap] 24)).heap.size, 0, none⟩) 0 0) [] ra n rcap (flatR R) ((w.alloc (.cells #[.int .i64 n, .slice a cs.length cap] 24)).alloc (.cells #[] 43)) (fun k => k < ((w.alloc (.cells #[.int .i64 n, .slice a cs.length cap] 24)).alloc (.cells #[] 43)).heap.size) 37 (by simp [maxLen]; omega) (by omega) ho1 hz1 (by rw [flatR_length, hR]) hn0 hca flatR_one (fun k hk => by simp [Value.ownBlock] at hk; subst hk; simp) (fun k h => h)
  have HRUN := Lib.hid hr3
  have HO := Lib.hid ho3
  have HBB := Lib.hid ((hb1.mono (by simp)).trans hb3)
  have HX := Lib.hid ((HBB.out.block _ (by simp)).trans HX0.out)
  have HBA := Lib.hid (HB0.out.trans (HBB.out.mono (by omega)))
  clear hr3 ho3 hb3 hca hn0 hz1 ho1 hb1 hrp
  go_enter Try.func50, Try.ntmps50
  go_wp2_with (first
    | (refine wpList_append_by (v := ov) (W' := W3) (y := .slice (some ⟨(w.alloc (.cells #[.int .i64 n, .slice a cs.length cap] 24)).heap.size, 0, none⟩) 0 0) (z := .slice ra n rcap) rfl (.tmp 15) (.tmp 16) 37 37 37 rfl (by simp; rfl) rfl rfl HRUN.out ?_)
    | fail)
  rw [Nat.zero_add, List.nil_append] at HO
  clear HX0 HB0 HBB HRUN
  obtain ⟨B, hB⟩ : ∃ B, B = w.heap.size + 1 := ⟨_, rfl⟩
  rw [← hB] at HO
  have HBE := Lib.hid hB
  clear hB
  obtain ⟨oa, oc, rfl⟩ := own_shape HO.out
  have HN := Lib.hid hR
  clear hR
  have hB3 : Hid (B ≤ W3.heap.size) := Lib.hid (by rw [HBE.out]; exact lt_of_block HX.out)
  go_loopw [7] (fun c wr => ∃ (b : Bool) (rs : List Rg), c = .bool b ∧ Hid (Nar cs n R rs) ∧ Hid (b = false → (∀ c, c ∈ cs → sameR rs c = true) ∧ ∀ p, p < n → (rg rs p).lo ≤ (rg rs p).hi) ∧ Hid (wr.heap[w.heap.size]? = some (.cells #[.int .i64 n, .slice a cs.length cap] 24 (0, 0))) ∧ Hid (wr.ownsRow B 43 2 (.slice oa n oc) n (flatR rs)) ∧ Hid (Below w.heap.size w wr)) (fun c wr => widOf wr B (.slice oa n oc) n + flagN c)
  case atStart => exact ⟨true, R, rfl, Lib.hid (Nar.start HN.out), Lib.hid (fun h => Bool.noConfusion h), HX, HO, HBA⟩
  case round =>
    clear HX HO HBA
    obtain ⟨b, rs, rfl, HNR, HFX, HX, HO, HBA⟩ := hrel
    cases b with
    | false =>
      have HF1 := Lib.hid (HFX.out rfl)
      clear HFX
      go_wp2
      go_ret2
      exact ⟨.inl ⟨_, rs, rfl, HNR.out, HF1.out.1, HF1.out.2, ownsRow_mono (b := B) (by have := HBE.out; omega) HO.out⟩, HBA.out⟩
    | true =>
      clear HFX
      rename World => W4
      go_wp2
      have HWO := Lib.hid (widOf_eq HO.out)
      go_loopw [8] (fun i wr => ∃ q : Nat, q ≤ n ∧ i = .int .i64 q ∧ Hid (∀ p, p < q → (rg rs p).lo ≤ (rg rs p).hi) ∧ Hid (Below W4.heap.size W4 wr)) (fun i _ => n - (intOf i).toNat)
      case atStart => exact ⟨0, Nat.zero_le _, rfl, Lib.hid (fun p hp => absurd hp (Nat.not_lt_zero p)), Lib.hid (Below.refl _ _)⟩
      case round =>
        obtain ⟨q, hq, rfl, HQ, HU⟩ := hrel
        by_cases hlt : q < n
        · obtain ⟨g, c', hge, hgb, hgl, hcell⟩ := own_getR HO.out (by omega)
          cases hge
          obtain ⟨k1, k2⟩ := flatR_get rs q (by rw [HNR.out.len]; exact hlt)
          have p1 := (HU.out.cell (p := ⟨g, q * 2, none⟩) hgl).trans ((hcell (q * 2) (by omega)).trans k1)
          have p2 := (HU.out.cell (p := ⟨g, q * 2 + 1, none⟩) hgl).trans ((hcell (q * 2 + 1) (by omega)).trans k2)
          have hqn : (q : Int) < n := by omega
          have hwq : IntKind.i64.wrap ((q : Int) + 1) = (q : Int) + 1 := IntWalk.i64_in _ (by omega)
          have HQ1 := Lib.hid fun (h : (rg rs q).lo ≤ (rg rs q).hi) p (hp : p < q + 1) => show (rg rs p).lo ≤ (rg rs p).hi from (Nat.lt_or_ge p q).elim (HQ.out p) fun h2 => by rw [show p = q by omega]; exact h
          obtain ⟨X, hX⟩ : ∃ X, X = (rg rs q).lo := ⟨_, rfl⟩
          obtain ⟨Y, hY⟩ : ∃ Y, Y = (rg rs q).hi := ⟨_, rfl⟩
          have HBAD := Lib.hid fun (h : Y < X) => show (rg rs q).hi < (rg rs q).lo by rw [← hX, ← hY]; exact h
          rw [← hX] at p1 HQ1
          rw [← hY] at p2 HQ1
          clear hX hY hcell k1 k2 hgb hgl
          by_cases hbad : Y < X
          · have e1 : decide (Y < X) = true := decide_eq_true hbad
            have HB2 := Lib.hid (HBAD.out hbad)
            clear hbad HBAD
            go_wp2_with fail
            have g1 := cell_regrown p1
            have g2 := cell_regrown p2
            refine wp_region_quiet_below (by kernel_rfl) (by kernel_rfl) ?_
            repeat (quiet_step (fail))
            refine wpQuiet_nil ?_
            intro v9 hw'
            obtain ⟨⟨dq, osq⟩, hw''⟩ := hw'
            have hb := below_regrown wr dq osq
            rw [← hw''] at hb
            have HBF := Lib.hid (below_to HBA.out (below_to HU.out hb))
            clear hw'' g1 g2 p1 p2 hb e1
            go_wp2
            go_ret2
            exact ⟨.inr ⟨rfl, rs, q, HNR.out, hlt, HB2.out⟩, HBF.out⟩
          · have e1 : decide (Y < X) = false := decide_eq_false hbad
            have HQ2 := Lib.hid (HQ1.out (by omega))
            clear hbad HBAD HQ1
            go_wp2_with fail
            have g1 := cell_regrown p1
            have g2 := cell_regrown p2
            refine wp_region_quiet_below (by kernel_rfl) (by kernel_rfl) ?_
            repeat (quiet_step (fail))
            refine wpQuiet_nil ?_
            intro v9 hw'
            obtain ⟨⟨dq, osq⟩, hw''⟩ := hw'
            have hb := below_regrown wr dq osq
            rw [← hw''] at hb
            have HU9 := Lib.hid (below_to HU.out hb)
            clear hw'' g1 g2 p1 p2 hb e1
            go_wp2
            go_roundw
            case rel => exact ⟨q + 1, by omega, by simp, HQ2, HU9⟩
            case measure => simp [intOf] <;> omega
        · obtain rfl : n = q := by omega
          replace HX := Lib.hid ((HU.out.block _ (lt_of_block HX.out)).trans HX.out)
          replace HO := Lib.hid (own_same HO.out (fun g _ hg => HU.out.block g hg))
          replace HBA := Lib.hid (below_to HBA.out HU.out)
          have HZ := Lib.hid (SmallR.start HNR.out HRB.out HQ.out)
          clear HU hlt hq
          rename World => W5
          go_wp2_with fail
          go_loopw [7, 9] (fun c i wr => ∃ (b : Bool) (xs : List Rg) (q : Nat), q ≤ cs.length ∧ c = .bool b ∧ i = .int .i64 q ∧ Hid (PassR cs n R rs xs q b) ∧ Hid (SmallR n q xs) ∧ Hid (wr.heap[w.heap.size]? = some (.cells #[.int .i64 n, .slice a cs.length cap] 24 (0, 0))) ∧ Hid (wr.ownsRow B 43 2 (.slice oa n oc) n (flatR xs)) ∧ Hid (Below w.heap.size w wr)) (fun _ i _ => cs.length - (intOf i).toNat)
          case atStart => exact ⟨false, rs, 0, Nat.zero_le _, rfl, rfl, Lib.hid (PassR.start HNR.out), HZ, HX, HO, HBA⟩
          case round =>
            clear HX HO HBA HZ
            obtain ⟨b, xs, q, hq, rfl, rfl, HPS, HSM, HX, HO, HBA⟩ := hrel
            have d0 := cell_of_row wr w.heap.size 1 _ _ _ HX.out
            simp only [List.getElem?_toArray, List.getElem?_cons_zero, List.getElem?_cons_succ] at d0
            have l0 := lt_of_block HX.out
            by_cases hlt : q < cs.length
            · obtain ⟨ab, aoff, rfl, hbn, hcc⟩ := HP.out (by omega)
              obtain ⟨h1, h2, h3, h4⟩ := hcc q hlt
              have p1 := (HBA.out.cell (p := ⟨ab, aoff + q * 4, none⟩) hbn).trans h1
              have p2 := (HBA.out.cell (p := ⟨ab, aoff + q * 4 + 1, none⟩) hbn).trans h2
              have p3 := (HBA.out.cell (p := ⟨ab, aoff + q * 4 + 2, none⟩) hbn).trans h3
              have p4 := (HBA.out.cell (p := ⟨ab, aoff + q * 4 + 3, none⟩) hbn).trans h4
              have hlen := HOK.out.len
              have hqn : (q : Int) < cs.length := by omega
              have hw9 : IntKind.i64.wrap ((q : Int) + 1) = (q : Int) + 1 := IntWalk.i64_in _ (by omega)
              have hco := HOK.out.cm _ (cm_mem hlt)
              have hin := InR.of hco
              have HST := Lib.hid (HPS.out.step HQ.out hin (cm_mem hlt))
              have HSS := Lib.hid (HSM.out.step HPS.out.nar.len hin ⟨hco.lo, hco.le, hco.hi⟩)
              have HIN := Lib.hid hin
              have HLH : Hid (-100 ≤ (cm cs q).lo ∧ (cm cs q).lo ≤ (cm cs q).hi ∧ (cm cs q).hi ≤ 100) := Lib.hid ⟨hco.lo, hco.le, hco.hi⟩
              generalize cm cs q = c at *
              clear hcc h1 h2 h3 h4 hco hin
              obtain ⟨l, r, lo, hi⟩ := c
              simp only at p1 p2 p3 p4
              have hl0 : 0 ≤ l := HIN.out.l0
              have hln : l.toNat < n := HIN.out.ln
              obtain ⟨lN, rfl⟩ : ∃ lN : Nat, l = (lN : Int) := ⟨l.toNat, by omega⟩
              rw [Int.toNat_natCast] at hln
              obtain ⟨g, c', hge, hgb, hgl, hcell⟩ := own_getR HO.out (by omega)
              cases hge
              obtain ⟨k1, k2⟩ := flatR_get xs lN (by rw [HPS.out.nar.len]; exact hln)
              have q1 := (hcell (lN * 2) (by omega)).trans k1
              have q2 := (hcell (lN * 2 + 1) (by omega)).trans k2
              have hlI : (lN : Int) < n := by omega
              have hbL := HSM.out lN hln
              have hS := HSM.out.side HIN.out
              have hk := HOK.out.cm
              clear k1 k2 hcell
              by_cases hr : 0 ≤ r
              · obtain ⟨rN, rfl⟩ : ∃ rN : Nat, r = (rN : Int) := ⟨r.toNat, by omega⟩
                have hrn := HIN.out.rn hr
                simp only [Int.toNat_natCast] at hrn
                obtain ⟨g', c', hge, hgb, -, hcell⟩ := own_getR HO.out (by omega)
                cases hge
                obtain ⟨k1, k2⟩ := flatR_get xs rN (by rw [HPS.out.nar.len]; exact hrn)
                have q3 := (hcell (rN * 2) (by omega)).trans k1
                have q4 := (hcell (rN * 2 + 1) (by omega)).trans k2
                have hrI : (rN : Int) < n := by omega
                have hbR := HSM.out rN hrn
                clear k1 k2 hcell hS hk
                have hg1 : g < wr.heap.size + 1 := by omega
                have hg2 : g < wr.heap.size + 1 + 1 := by omega
                have hLH := HLH.out
                simp only at hLH
                have w1 : IntKind.i64.wrap ((rg xs rN).lo + lo) = (rg xs rN).lo + lo := IntWalk.i64_in _ (by omega)
                have w2 : IntKind.i64.wrap ((rg xs rN).hi + hi) = (rg xs rN).hi + hi := IntWalk.i64_in _ (by omega)
                have w3 : IntKind.i64.wrap ((rg xs lN).lo - hi) = (rg xs lN).lo - hi := IntWalk.i64_in _ (by omega)
                have w4 : IntKind.i64.wrap ((rg xs lN).hi - lo) = (rg xs lN).hi - lo := IntWalk.i64_in _ (by omega)
                have HR0 := Lib.hid hg1
                go_wp2_with fail
                have hbx := below3 wr (.cells #[.int .i64 lN, .int .i64 rN, .int .i64 lo, .int .i64 hi] 73) (.cells #[.int .i64 (rg xs lN).lo, .int .i64 (rg xs lN).hi] 43) (.cells #[.int .i64 (rg xs rN).lo, .int .i64 (rg xs rN).hi] 43)
                obtain ⟨hy1, hy2, hy3⟩ := box3 wr (.cells #[.int .i64 lN, .int .i64 rN, .int .i64 lo, .int .i64 hi] 73) (.cells #[.int .i64 (rg xs lN).lo, .int .i64 (rg xs lN).hi] 43) (.cells #[.int .i64 (rg xs rN).lo, .int .i64 (rg xs rN).hi] 43)
                have HGW := Lib.hid hgl
                clear q1 q2 q3 q4 p1 p2 p3 p4 d0 l0 hg1 hg2 hgl HR0
                replace HX := Lib.hid ((hbx.block _ (lt_of_block HX.out)).trans HX.out)
                replace HO := Lib.hid (own_same HO.out (fun g _ hg => hbx.block g hg))
                replace HBA := Lib.hid (below_to HBA.out hbx)
                have HC := Lib.hid hy1
                have HL := Lib.hid hy2
                have HT := Lib.hid hy3
                have HW := Lib.hid (lt_of_block HX.out)
                have HBB : Hid (B ≤ wr.heap.size) := Lib.hid (by have := HGW.out; omega)
                have HWW : Hid (w.heap.size < wr.heap.size) := Lib.hid (by have := HGW.out; have := HBE.out; omega)
                clear hbx hy1 hy2 hy3
                generalize World.alloc (World.alloc (World.alloc wr _) _) _ = W6 at *
                generalize wr.heap.size = bc at *
                refine (rcut_any _ _ _ _ W6).mono ?_
                rintro e W7 ⟨rfl, hb⟩
                replace HX := Lib.hid ((hb.block _ (lt_of_block HX.out)).trans HX.out)
                replace HC := Lib.hid ((hb.block _ (lt_of_block HC.out)).trans HC.out)
                replace HL := Lib.hid ((hb.block _ (lt_of_block HL.out)).trans HL.out)
                replace HT := Lib.hid ((hb.block _ (lt_of_block HT.out)).trans HT.out)
                replace HO := Lib.hid (own_same HO.out (fun g _ hg => hb.block g hg))
                replace HBA := Lib.hid (below_to HBA.out hb)
                clear hb
                have c0 := cell_of_row W7 bc 0 _ _ _ HC.out
                have c1 := cell_of_row W7 bc 1 _ _ _ HC.out
                have c2 := cell_of_row W7 bc 2 _ _ _ HC.out
                have c3 := cell_of_row W7 bc 3 _ _ _ HC.out
                have d0 := cell_of_row W7 (bc + 1) 0 _ _ _ HL.out
                have d1 := cell_of_row W7 (bc + 1) 1 _ _ _ HL.out
                have e0 := cell_of_row W7 (bc + 1 + 1) 0 _ _ _ HT.out
                have e1 := cell_of_row W7 (bc + 1 + 1) 1 _ _ _ HT.out
                simp only [List.getElem?_toArray, List.getElem?_cons_zero, List.getElem?_cons_succ] at c0 c1 c2 c3 d0 d1 e0 e1
                have l1 := lt_of_block HC.out
                have l2 := lt_of_block HL.out
                have l3 := lt_of_block HT.out
                have l4 : bc < W7.heap.size + 1 := by omega
                have l5 : bc + 1 < W7.heap.size + 1 := by omega
                have l6 : bc + 1 + 1 < W7.heap.size + 1 := by omega
                go_wp2_with fail
                have hbx := below2 W7 (.cells #[.int .i64 (max (rg xs lN).lo ((rg xs rN).lo + lo)), .int .i64 (min (rg xs lN).hi ((rg xs rN).hi + hi))] 43) (.cells #[.int .i64 (rg xs rN).lo, .int .i64 (rg xs rN).hi] 43)
                obtain ⟨hy1, hy2⟩ := box2 W7 (.cells #[.int .i64 (max (rg xs lN).lo ((rg xs rN).lo + lo)), .int .i64 (min (rg xs lN).hi ((rg xs rN).hi + hi))] 43) (.cells #[.int .i64 (rg xs rN).lo, .int .i64 (rg xs rN).hi] 43)
                have HD := Lib.hid (show bc + 1 + 1 < W7.heap.size from l3)
                clear c0 c1 c2 c3 d0 d1 e0 e1 l1 l2 l3 l4 l5 l6
                replace HX := Lib.hid ((hbx.block _ (lt_of_block HX.out)).trans HX.out)
                replace HC := Lib.hid ((hbx.block _ (lt_of_block HC.out)).trans HC.out)
                replace HL := Lib.hid ((hbx.block _ (lt_of_block HL.out)).trans HL.out)
                replace HT := Lib.hid ((hbx.block _ (lt_of_block HT.out)).trans HT.out)
                replace HO := Lib.hid (own_same HO.out (fun g _ hg => hbx.block g hg))
                replace HBA := Lib.hid (below_to HBA.out hbx)
                have HA := Lib.hid hy1
                have HY := Lib.hid hy2
                clear hbx hy1 hy2
                generalize World.alloc (World.alloc W7 _) _ = W8 at *
                generalize W7.heap.size = bd at *
                refine (rcut_any _ _ _ _ W8).mono ?_
                rintro e W9 ⟨rfl, hb⟩
                replace HX := Lib.hid ((hb.block _ (lt_of_block HX.out)).trans HX.out)
                replace HC := Lib.hid ((hb.block _ (lt_of_block HC.out)).trans HC.out)
                replace HL := Lib.hid ((hb.block _ (lt_of_block HL.out)).trans HL.out)
                replace HT := Lib.hid ((hb.block _ (lt_of_block HT.out)).trans HT.out)
                replace HA := Lib.hid ((hb.block _ (lt_of_block HA.out)).trans HA.out)
                replace HY := Lib.hid ((hb.block _ (lt_of_block HY.out)).trans HY.out)
                replace HO := Lib.hid (own_same HO.out (fun g _ hg => hb.block g hg))
                replace HBA := Lib.hid (below_to HBA.out hb)
                clear hb
                have HGB : Hid (g < bc ∧ B ≤ bc ∧ w.heap.size < bc ∧ bc + 1 + 1 < bd ∧ B ≤ g ∧ w.heap.size < B) := Lib.hid ⟨HGW.out, HBB.out, HWW.out, HD.out, hgb, by have := HBE.out; omega⟩
                obtain ⟨FA, hFA⟩ : ∃ A, (decide (max (rg xs lN).lo ((rg xs rN).lo + lo) = (rg xs lN).lo) && decide (min (rg xs lN).hi ((rg xs rN).hi + hi) = (rg xs lN).hi)) = A := ⟨_, rfl⟩
                obtain ⟨FB, hFB⟩ : ∃ A, (decide (max (rg xs rN).lo ((rg xs lN).lo - hi) = (rg xs rN).lo) && decide (min (rg xs rN).hi ((rg xs lN).hi - lo) = (rg xs rN).hi)) = A := ⟨_, rfl⟩
                have HSP : Hid (sameR xs ⟨lN, rN, lo, hi⟩ = (FA && FB)) := Lib.hid (by rw [same_pos, hFA, hFB])
                have HCP := Lib.hid (cut_pos xs lN rN lo hi)
                have qA := fun w => neq43 _ _ _ _ FA hFA w
                have qB := fun w => neq43 _ _ _ _ FB hFB w
                clear hFA hFB
                go_wp2_with (first
                  | (refine wpList_store_mid rfl 43 (.tmp 14) (.tmp 91) rfl (bd + 1) 0 #[.int .i64 (max (rg xs rN).lo ((rg xs lN).lo - hi)), .int .i64 (min (rg xs rN).hi ((rg xs lN).hi - lo))] rfl rfl (there_block HY.out (Nat.le_refl _)) (by kernel_rfl) (by simp [Value.oneCell']) ?_
                     have hot := (put_cells (bd + 1) 0 [.int .i64 (max (rg xs rN).lo ((rg xs lN).lo - hi)), .int .i64 (min (rg xs rN).hi ((rg xs lN).hi - lo))] W9).other
                     have y0 := set_whole (bd + 1) 43 W9 #[.int .i64 (rg xs rN).lo, .int .i64 (rg xs rN).hi] #[.int .i64 (max (rg xs rN).lo ((rg xs lN).lo - hi)), .int .i64 (min (rg xs rN).hi ((rg xs lN).hi - lo))] rfl HY.out
                     have hbe := (put_cells (bd + 1) 0 [.int .i64 (max (rg xs rN).lo ((rg xs lN).lo - hi)), .int .i64 (min (rg xs rN).hi ((rg xs lN).hi - lo))] W9).below HBA.out (by have := HGB.out; omega)
                     have y1 := (hot w.heap.size (by have := HGB.out; omega)).trans HX.out
                     have y2 := (hot bc (by have := HGB.out; omega)).trans HC.out
                     have y3 := (hot (bc + 1) (by have := HGB.out; omega)).trans HL.out
                     have y4 := (hot (bc + 1 + 1) (by have := HGB.out; omega)).trans HT.out
                     have y5 := (hot bd (by have := HGB.out; omega)).trans HA.out
                     have y6 := row_other HO.out (show g ≠ bd + 1 by have := HGB.out; omega) hot
                     have HY2 := Lib.hid y0
                     have HB2 := Lib.hid hbe
                     have HX2 := Lib.hid y1
                     have HC2 := Lib.hid y2
                     have HL2 := Lib.hid y3
                     have HT2 := Lib.hid y4
                     have HA2 := Lib.hid y5
                     have HO2 := Lib.hid y6
                     clear hot y0 hbe y1 y2 y3 y4 y5 y6 HX HC HL HT HA HY HO HBA
                     simp only [Array.toList] at HX2 HC2 HL2 HT2 HA2 HY2 HO2 HB2 ⊢
                     generalize World.setCells W9 _ _ _ = V1 at *
                     have c1 := cell_of_row V1 bc 1 _ _ _ HC2.out
                     have e0 := cell_of_row V1 (bd + 1) 0 _ _ _ HY2.out
                     have e1 := cell_of_row V1 (bd + 1) 1 _ _ _ HY2.out
                     simp only [List.getElem?_toArray, List.getElem?_cons_zero, List.getElem?_cons_succ] at c1 e0 e1
                     have l1 := lt_of_block HC2.out
                     have l2 := lt_of_block HY2.out)
                  | (refine wpList_store_mid rfl 43 (.tmp 96) (.tmp 95) rfl g (rN * 2) #[.int .i64 (max (rg xs rN).lo ((rg xs lN).lo - hi)), .int .i64 (min (rg xs rN).hi ((rg xs lN).hi - lo))] rfl rfl (there_ownR HO2.out hrn) (by kernel_rfl) (by simp [Value.oneCell']) ?_
                     have hot := (put_cells g (rN * 2) [.int .i64 (max (rg xs rN).lo ((rg xs lN).lo - hi)), .int .i64 (min (rg xs rN).hi ((rg xs lN).hi - lo))] V1).other
                     have y0 := own_setR ⟨max (rg xs rN).lo ((rg xs lN).lo - hi), min (rg xs rN).hi ((rg xs lN).hi - lo)⟩ (by simp [HPS.out.nar.len]) HO2.out hrn
                     have hbe := (put_cells g (rN * 2) [.int .i64 (max (rg xs rN).lo ((rg xs lN).lo - hi)), .int .i64 (min (rg xs rN).hi ((rg xs lN).hi - lo))] V1).below HB2.out (by have := HGB.out; omega)
                     have y1 := (hot w.heap.size (by have := HGB.out; omega)).trans HX2.out
                     have y2 := (hot bc (by have := HGB.out; omega)).trans HC2.out
                     have y3 := (hot (bc + 1) (by have := HGB.out; omega)).trans HL2.out
                     have y4 := (hot (bc + 1 + 1) (by have := HGB.out; omega)).trans HT2.out
                     have y5 := (hot bd (by have := HGB.out; omega)).trans HA2.out
                     have y6 := (hot (bd + 1) (by have := HGB.out; omega)).trans HY2.out
                     have HO3 := Lib.hid y0
                     have HB3 := Lib.hid hbe
                     have HX3 := Lib.hid y1
                     have HC3 := Lib.hid y2
                     have HL3 := Lib.hid y3
                     have HT3 := Lib.hid y4
                     have HA3 := Lib.hid y5
                     have HY3 := Lib.hid y6
                     clear hot y0 hbe y1 y2 y3 y4 y5 y6 HX2 HC2 HL2 HT2 HA2 HY2 HO2 HB2 c1 e0 e1 l1 l2
                     simp only [Array.toList] at HX3 HC3 HL3 HT3 HA3 HY3 HO3 HB3 ⊢
                     generalize World.setCells V1 _ _ _ = V2 at *
                     have c0 := cell_of_row V2 bc 0 _ _ _ HC3.out
                     have e0 := cell_of_row V2 bd 0 _ _ _ HA3.out
                     have e1 := cell_of_row V2 bd 1 _ _ _ HA3.out
                     simp only [List.getElem?_toArray, List.getElem?_cons_zero, List.getElem?_cons_succ] at c0 e0 e1
                     have l1 := lt_of_block HC3.out
                     have l2 := lt_of_block HA3.out)
                  | (refine wpList_store_mid rfl 43 (.tmp 101) (.tmp 100) rfl g (lN * 2) #[.int .i64 (max (rg xs lN).lo ((rg xs rN).lo + lo)), .int .i64 (min (rg xs lN).hi ((rg xs rN).hi + hi))] rfl rfl (there_ownR HO3.out hln) (by kernel_rfl) (by simp [Value.oneCell']) ?_
                     have hot := (put_cells g (lN * 2) [.int .i64 (max (rg xs lN).lo ((rg xs rN).lo + lo)), .int .i64 (min (rg xs lN).hi ((rg xs rN).hi + hi))] V2).other
                     have y0 := own_setR ⟨max (rg xs lN).lo ((rg xs rN).lo + lo), min (rg xs lN).hi ((rg xs rN).hi + hi)⟩ (by simp [HPS.out.nar.len]) HO3.out hln
                     have hbe := (put_cells g (lN * 2) [.int .i64 (max (rg xs lN).lo ((rg xs rN).lo + lo)), .int .i64 (min (rg xs lN).hi ((rg xs rN).hi + hi))] V2).below HB3.out (by have := HGB.out; omega)
                     have y1 := (hot w.heap.size (by have := HGB.out; omega)).trans HX3.out
                     have y2 := (hot bc (by have := HGB.out; omega)).trans HC3.out
                     have y3 := (hot (bc + 1) (by have := HGB.out; omega)).trans HL3.out
                     have y4 := (hot (bc + 1 + 1) (by have := HGB.out; omega)).trans HT3.out
                     have y5 := (hot bd (by have := HGB.out; omega)).trans HA3.out
                     have y6 := (hot (bd + 1) (by have := HGB.out; omega)).trans HY3.out
                     have HO4 := Lib.hid y0
                     have HB4 := Lib.hid hbe
                     have HX4 := Lib.hid y1
                     have HC4 := Lib.hid y2
                     have HL4 := Lib.hid y3
                     have HT4 := Lib.hid y4
                     have HA4 := Lib.hid y5
                     have HY4 := Lib.hid y6
                     clear hot y0 hbe y1 y2 y3 y4 y5 y6 HX3 HC3 HL3 HT3 HA3 HY3 HO3 HB3 c0 e0 e1 l1 l2
                     simp only [Array.toList] at HX4 HC4 HL4 HT4 HA4 HY4 HO4 HB4 ⊢
                     generalize World.setCells V2 _ _ _ = V3 at *
                     have e0 := cell_of_row V3 bd 0 _ _ _ HA4.out
                     have e1 := cell_of_row V3 bd 1 _ _ _ HA4.out
                     have f0 := cell_of_row V3 (bd + 1) 0 _ _ _ HY4.out
                     have f1 := cell_of_row V3 (bd + 1) 1 _ _ _ HY4.out
                     have d0 := cell_of_row V3 (bc + 1) 0 _ _ _ HL4.out
                     have d1 := cell_of_row V3 (bc + 1) 1 _ _ _ HL4.out
                     have t0 := cell_of_row V3 (bc + 1 + 1) 0 _ _ _ HT4.out
                     have t1 := cell_of_row V3 (bc + 1 + 1) 1 _ _ _ HT4.out
                     simp only [List.getElem?_toArray, List.getElem?_cons_zero, List.getElem?_cons_succ] at e0 e1 f0 f1 d0 d1 t0 t1
                     have l1 := lt_of_block HA4.out
                     have l2 := lt_of_block HY4.out
                     have l3 := lt_of_block HL4.out
                     have l4 := lt_of_block HT4.out
                     skip)
                  | (fail))
                · rename_i hb
                  have hst := HST.out
                  rw [HSP.out, flag1 hb] at hst
                  have HSQ := Lib.hid hst
                  clear hst e0 e1 f0 f1 d0 d1 t0 t1 l1 l2 l3 l4
                  go_roundw
                  case rel => exact ⟨_, cutR xs ⟨lN, rN, lo, hi⟩, q + 1, by omega, rfl, by simp, HSQ, HSS, HX4, Lib.hid (by rw [HCP.out]; exact HO4.out), HB4⟩
                  case measure => simp [intOf] <;> omega
                · rename_i hb hf
                  have hst := HST.out
                  rw [HSP.out, flag2 hb hf] at hst
                  have HSQ := Lib.hid hst
                  clear hst e0 e1 f0 f1 d0 d1 t0 t1 l1 l2 l3 l4
                  go_roundw
                  case rel => exact ⟨_, cutR xs ⟨lN, rN, lo, hi⟩, q + 1, by omega, rfl, by simp, HSQ, HSS, HX4, Lib.hid (by rw [HCP.out]; exact HO4.out), HB4⟩
                  case measure => simp [intOf] <;> omega
                · rename_i hb hf
                  have hst := HST.out
                  rw [HSP.out, flag3 hb hf] at hst
                  have HSQ := Lib.hid hst
                  clear hst e0 e1 f0 f1 d0 d1 t0 t1 l1 l2 l3 l4
                  go_roundw
                  case rel => exact ⟨_, cutR xs ⟨lN, rN, lo, hi⟩, q + 1, by omega, rfl, by simp, HSQ, HSS, HX4, Lib.hid (by rw [HCP.out]; exact HO4.out), HB4⟩
                  case measure => simp [intOf] <;> omega
              · have HRN := Lib.hid hr
                have hLH := HLH.out
                simp only at hLH
                have ew : decide (0 ≤ r) = false := decide_eq_false hr
                have w1 : IntKind.i64.wrap lo = lo := IntWalk.i64_in _ (by omega)
                have w2 : IntKind.i64.wrap hi = hi := IntWalk.i64_in _ (by omega)
                clear hS hk
                go_wp2_with fail
                have hbx := below3 wr (.cells #[.int .i64 lN, .int .i64 r, .int .i64 lo, .int .i64 hi] 73) (.cells #[.int .i64 (rg xs lN).lo, .int .i64 (rg xs lN).hi] 43) (.cells #[.int .i64 0, .int .i64 0] 43)
                obtain ⟨hy1, hy2, hy3⟩ := box3 wr (.cells #[.int .i64 lN, .int .i64 r, .int .i64 lo, .int .i64 hi] 73) (.cells #[.int .i64 (rg xs lN).lo, .int .i64 (rg xs lN).hi] 43) (.cells #[.int .i64 0, .int .i64 0] 43)
                have HGW := Lib.hid hgl
                clear q1 q2 p1 p2 p3 p4 d0 l0 hgl
                replace HX := Lib.hid ((hbx.block _ (lt_of_block HX.out)).trans HX.out)
                replace HO := Lib.hid (own_same HO.out (fun g _ hg => hbx.block g hg))
                replace HBA := Lib.hid (below_to HBA.out hbx)
                have HC := Lib.hid hy1
                have HL := Lib.hid hy2
                have HT := Lib.hid hy3
                have HW := Lib.hid (lt_of_block HX.out)
                have HBB : Hid (B ≤ wr.heap.size) := Lib.hid (by have := HGW.out; omega)
                have HWW : Hid (w.heap.size < wr.heap.size) := Lib.hid (by have := HGW.out; have := HBE.out; omega)
                clear hbx hy1 hy2 hy3
                generalize World.alloc (World.alloc (World.alloc wr _) _) _ = W6 at *
                generalize wr.heap.size = bc at *
                refine (rcut_any _ _ _ _ W6).mono ?_
                rintro e W7 ⟨rfl, hb⟩
                replace HX := Lib.hid ((hb.block _ (lt_of_block HX.out)).trans HX.out)
                replace HC := Lib.hid ((hb.block _ (lt_of_block HC.out)).trans HC.out)
                replace HL := Lib.hid ((hb.block _ (lt_of_block HL.out)).trans HL.out)
                replace HT := Lib.hid ((hb.block _ (lt_of_block HT.out)).trans HT.out)
                replace HO := Lib.hid (own_same HO.out (fun g _ hg => hb.block g hg))
                replace HBA := Lib.hid (below_to HBA.out hb)
                clear hb
                have c0 := cell_of_row W7 bc 0 _ _ _ HC.out
                have c1 := cell_of_row W7 bc 1 _ _ _ HC.out
                have c2 := cell_of_row W7 bc 2 _ _ _ HC.out
                have c3 := cell_of_row W7 bc 3 _ _ _ HC.out
                have d0 := cell_of_row W7 (bc + 1) 0 _ _ _ HL.out
                have d1 := cell_of_row W7 (bc + 1) 1 _ _ _ HL.out
                have e0 := cell_of_row W7 (bc + 1 + 1) 0 _ _ _ HT.out
                have e1 := cell_of_row W7 (bc + 1 + 1) 1 _ _ _ HT.out
                simp only [List.getElem?_toArray, List.getElem?_cons_zero, List.getElem?_cons_succ] at c0 c1 c2 c3 d0 d1 e0 e1
                have l1 := lt_of_block HC.out
                have l2 := lt_of_block HL.out
                have l3 := lt_of_block HT.out
                have l4 : bc < W7.heap.size + 1 := by omega
                have l5 : bc + 1 < W7.heap.size + 1 := by omega
                have l6 : bc + 1 + 1 < W7.heap.size + 1 := by omega
                have hbx := below2 W7 (.cells #[.int .i64 (max (rg xs lN).lo lo), .int .i64 (min (rg xs lN).hi hi)] 43) (.cells #[.int .i64 0, .int .i64 0] 43)
                obtain ⟨hy1, hy2⟩ := box2 W7 (.cells #[.int .i64 (max (rg xs lN).lo lo), .int .i64 (min (rg xs lN).hi hi)] 43) (.cells #[.int .i64 0, .int .i64 0] 43)
                have HD := Lib.hid (show bc + 1 + 1 < W7.heap.size from l3)
                replace HX := Lib.hid ((hbx.block _ (lt_of_block HX.out)).trans HX.out)
                replace HC := Lib.hid ((hbx.block _ (lt_of_block HC.out)).trans HC.out)
                replace HL := Lib.hid ((hbx.block _ (lt_of_block HL.out)).trans HL.out)
                replace HT := Lib.hid ((hbx.block _ (lt_of_block HT.out)).trans HT.out)
                replace HO := Lib.hid (own_same HO.out (fun g _ hg => hbx.block g hg))
                replace HBA := Lib.hid (below_to HBA.out hbx)
                have HA := Lib.hid hy1
                have HY := Lib.hid hy2
                clear hbx hy1 hy2
                have HGB : Hid (g < bc ∧ B ≤ bc ∧ w.heap.size < bc ∧ bc + 1 + 1 < W7.heap.size ∧ B ≤ g ∧ w.heap.size < B) := Lib.hid ⟨HGW.out, HBB.out, HWW.out, HD.out, hgb, by have := HBE.out; omega⟩
                obtain ⟨FA, hFA⟩ : ∃ A, (decide (max (rg xs lN).lo lo = (rg xs lN).lo) && decide (min (rg xs lN).hi hi = (rg xs lN).hi)) = A := ⟨_, rfl⟩
                have HSP : Hid (sameR xs ⟨lN, r, lo, hi⟩ = (FA && true)) := Lib.hid (by rw [same_neg _ _ _ _ _ (Int.not_le.2 HRN.out), hFA, Bool.and_true])
                have HCP := Lib.hid (cut_neg xs lN r lo hi (Int.not_le.2 HRN.out))
                have qA := fun w => neq43 _ _ _ _ FA hFA w
                have qB := fun w => neq43 0 0 0 0 true rfl w
                simp only [Bool.not_true] at qB
                clear hFA hr
                have HX3 := HX
                have HC3 := HC
                have HL3 := HL
                have HT3 := HT
                have HA3 := HA
                have HY3 := HY
                have HO3 := HO
                have HB3 := HBA
                clear HX HC HL HT HA HY HO HBA
                go_wp2_with (first
                  | (refine wpList_store_mid rfl 43 (.tmp 101) (.tmp 100) rfl g (lN * 2) #[.int .i64 (max (rg xs lN).lo lo), .int .i64 (min (rg xs lN).hi hi)] rfl rfl (there_ownR HO3.out hln) (by kernel_rfl) (by simp [Value.oneCell']) ?_
                     have hot := (put_cells g (lN * 2) [.int .i64 (max (rg xs lN).lo lo), .int .i64 (min (rg xs lN).hi hi)] (World.alloc (World.alloc W7 (.cells #[.int .i64 (max (rg xs lN).lo lo), .int .i64 (min (rg xs lN).hi hi)] 43)) (.cells #[.int .i64 0, .int .i64 0] 43))).other
                     have y0 := own_setR ⟨max (rg xs lN).lo lo, min (rg xs lN).hi hi⟩ (by simp [HPS.out.nar.len]) HO3.out hln
                     have hbe := (put_cells g (lN * 2) [.int .i64 (max (rg xs lN).lo lo), .int .i64 (min (rg xs lN).hi hi)] (World.alloc (World.alloc W7 (.cells #[.int .i64 (max (rg xs lN).lo lo), .int .i64 (min (rg xs lN).hi hi)] 43)) (.cells #[.int .i64 0, .int .i64 0] 43))).below HB3.out (by have := HGB.out; omega)
                     have y1 := (hot w.heap.size (by have := HGB.out; omega)).trans HX3.out
                     have y2 := (hot bc (by have := HGB.out; omega)).trans HC3.out
                     have y3 := (hot (bc + 1) (by have := HGB.out; omega)).trans HL3.out
                     have y4 := (hot (bc + 1 + 1) (by have := HGB.out; omega)).trans HT3.out
                     have y5 := (hot W7.heap.size (by have := HGB.out; omega)).trans HA3.out
                     have y6 := (hot (W7.heap.size + 1) (by have := HGB.out; omega)).trans HY3.out
                     have HO4 := Lib.hid y0
                     have HB4 := Lib.hid hbe
                     have HX4 := Lib.hid y1
                     have HC4 := Lib.hid y2
                     have HL4 := Lib.hid y3
                     have HT4 := Lib.hid y4
                     have HA4 := Lib.hid y5
                     have HY4 := Lib.hid y6
                     clear hot y0 hbe y1 y2 y3 y4 y5 y6 HX3 HC3 HL3 HT3 HA3 HY3 HO3 HB3 c0 c1 c2 c3 d0 d1 e0 e1 l1 l2 l3 l4 l5 l6
                     simp only [Array.toList] at HX4 HC4 HL4 HT4 HA4 HY4 HO4 HB4 ⊢
                     generalize World.setCells _ _ _ _ = V3 at *
                     generalize W7.heap.size = bd at *
                     have e0 := cell_of_row V3 bd 0 _ _ _ HA4.out
                     have e1 := cell_of_row V3 bd 1 _ _ _ HA4.out
                     have f0 := cell_of_row V3 (bd + 1) 0 _ _ _ HY4.out
                     have f1 := cell_of_row V3 (bd + 1) 1 _ _ _ HY4.out
                     have d0 := cell_of_row V3 (bc + 1) 0 _ _ _ HL4.out
                     have d1 := cell_of_row V3 (bc + 1) 1 _ _ _ HL4.out
                     have t0 := cell_of_row V3 (bc + 1 + 1) 0 _ _ _ HT4.out
                     have t1 := cell_of_row V3 (bc + 1 + 1) 1 _ _ _ HT4.out
                     simp only [List.getElem?_toArray, List.getElem?_cons_zero, List.getElem?_cons_succ] at e0 e1 f0 f1 d0 d1 t0 t1
                     have l1 := lt_of_block HA4.out
                     have l2 := lt_of_block HY4.out
                     have l3 := lt_of_block HL4.out
                     have l4 := lt_of_block HT4.out
                     skip)
                  | (fail))
                · rename_i hb
                  have hst := HST.out
                  rw [HSP.out, flag1 hb] at hst
                  have HSQ := Lib.hid hst
                  clear hst e0 e1 f0 f1 d0 d1 t0 t1 l1 l2 l3 l4
                  go_roundw
                  case rel => exact ⟨_, cutR xs ⟨lN, r, lo, hi⟩, q + 1, by omega, rfl, by simp, HSQ, HSS, HX4, Lib.hid (by rw [HCP.out]; exact HO4.out), HB4⟩
                  case measure => simp [intOf] <;> omega
                · rename_i hb hf
                  have hst := HST.out
                  rw [HSP.out, flag2 hb hf] at hst
                  have HSQ := Lib.hid hst
                  clear hst e0 e1 f0 f1 d0 d1 t0 t1 l1 l2 l3 l4
                  go_roundw
                  case rel => exact ⟨_, cutR xs ⟨lN, r, lo, hi⟩, q + 1, by omega, rfl, by simp, HSQ, HSS, HX4, Lib.hid (by rw [HCP.out]; exact HO4.out), HB4⟩
                  case measure => simp [intOf] <;> omega
                · rename_i hb hf
                  have hst := HST.out
                  rw [HSP.out, flag3 hb hf] at hst
                  have HSQ := Lib.hid hst
                  clear hst e0 e1 f0 f1 d0 d1 t0 t1 l1 l2 l3 l4
                  go_roundw
                  case rel => exact ⟨_, cutR xs ⟨lN, r, lo, hi⟩, q + 1, by omega, rfl, by simp, HSQ, HSS, HX4, Lib.hid (by rw [HCP.out]; exact HO4.out), HB4⟩
                  case measure => simp [intOf] <;> omega
            · obtain rfl : q = cs.length := by omega
              go_wp2_with fail
              go_roundw
              case rel => exact ⟨b, xs, rfl, Lib.hid HPS.out.nar, Lib.hid (fun hb => by
                obtain ⟨rfl, h2⟩ := HPS.out.no hb
                exact ⟨fun c hc => by
                  obtain ⟨i, hi, rfl⟩ := mem_cmR hc
                  exact h2 i hi, HQ.out⟩), HX, HO, HBA⟩
              case measure =>
                have h := wid_pass HPS.out.le HPS.out.yes
                rw [← HWO.out, ← widOf_eq HO.out] at h
                exact h
end Go.Proofs.Ytplmlmmjfkbabaa
