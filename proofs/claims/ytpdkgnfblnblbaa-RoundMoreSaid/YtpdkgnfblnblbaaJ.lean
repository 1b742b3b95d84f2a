/- The iterator over the readings of a sample: its contract. Condition: the round is valid. -/
import Derived.Test.YtpdkgnfblnblbaaI
import Derived.Test.YtpdkgnfblnblbaaBA
import Derived.TacticsInMore
import Derived.LoopNIn
import Derived.LoopIn
namespace Go.Proofs.Ytpdkgnfblnblbaa
open Go.RowKit Go.Shelf
attribute [local irreducible] arrV wpQuiet
attribute [local go_sem] Oper.semAt_some
theorem box_same {w : World} {T T0 : Nat → Prop} {n : Nat} (hO : Of T0 n T w) (o : Obj) : Of T0 n T (w.alloc o) := hO.grow (box_below w o).size
def encR (r : Rg) : Array Value := #[rgV r]
def readsU (R : Rd) (off : Nat → Bool) (s q : Nat) : List Rg := (List.range q).filterMap (rd1 R off s)
theorem readsU_skip {R : Rd} {off : Nat → Bool} {s q : Nat} (h : rd1 R off s q = none) : readsU R off s (q + 1) = readsU R off s q := by
  unfold readsU
  rw [List.range_succ, List.filterMap_append]
  simp [h]
theorem readsU_one {R : Rd} {off : Nat → Bool} {s q : Nat} {r : Rg} (h : rd1 R off s q = some r) : readsU R off s (q + 1) = readsU R off s q ++ [r] := by
  unfold readsU
  rw [List.range_succ, List.filterMap_append]
  simp [h]
theorem readsU_pre {R : Rd} {off : Nat → Bool} {s : Nat} : ∀ {q m : Nat}, q ≤ m → readsU R off s q <+: readsU R off s m := by
  intro q m h
  obtain ⟨d, rfl⟩ : ∃ d, m = q + d := ⟨m - q, by omega⟩
  clear h
  induction d with
  | zero => exact List.prefix_refl _
  | succ d ih =>
    refine ih.trans ?_
    rw [← Nat.add_assoc]
    cases h : rd1 R off s (q + d) with
    | none => rw [readsU_skip h]; exact List.prefix_refl _
    | some r => rw [readsU_one h]; exact List.prefix_append _ _

set_option maxRecDepth 100000 in
set_option maxHeartbeats 4000000 in
theorem readings_seq (n Bt Bs : Nat) (p : Rp) (R : Rd) (off : Nat → Bool) (s : Nat) (w : World) (hR : RdOk R) (hs : s < R.smp.length) (hV : LabsV n w (labsV p R) R.labs) (hn : n ≤ w.heap.size)
    (hbt : w.heap[Bt]? = some (.cells #[.slice p.la R.lots.length p.lc, .slice p.sa R.smp.length p.sc, .int .i64 R.sp, .slice p.ba R.labs.length p.bc, .bool (off 0), .bool (off 1), .bool (off 2), .bool (off 3), .bool (off 4), .bool (off 5)] 83 (0, 0))) (hbs : w.heap[Bs]? = some (.cells #[.int .i64 s] 3 (0, 0))) :
    SeqD Try.prog 89 #[.pointer (some ⟨Bt, 0, none⟩), .pointer (some ⟨Bs, 0, none⟩)] encR (fun _ => True) (fun k => k < n ∨ k = Bt ∨ k = Bs) (fun xs => xs = readsR R off s) (fun pre => pre <+: readsR R off s) w := by
  obtain ⟨pla, plc, psa, psc, a, cap⟩ := p
  intro l T0 J Jx W hW hT0 hJ hJx hY h0
  have hall : readsR R off s = readsU R off s R.labs.length := rfl
  have hlt1 := lt_of_block hbt
  have hlt2 := lt_of_block hbs
  have HBT := Lib.hid ((hW.block Bt hlt1).trans hbt)
  have HBS := Lib.hid ((hW.block Bs hlt2).trans hbs)
  have HVW := Lib.hid (hV.same (.below hn hW))
  have HNW := Lib.hid (Nat.le_trans hn hW.size)
  have HY := Lib.hid hY
  have HT0 := Lib.hid hT0
  have HOK := Lib.hid hR
  have HS := Lib.hid hs
  have HALL := Lib.hid hall
  have hOf0 : Of T0 W.heap.size T0 W := ⟨fun k hk => (HT0.out k hk).1, fun k hk => .inl hk, fun k hk => hk⟩
  have HJ0 := Lib.hid h0
  have HO0 := Lib.hid hOf0
  have HB0 : Hid (But T0 W W) := Lib.hid (But.refl _ _)
  clear hY hT0 hbt hbs hlt1 hlt2 hW hV hn hR hs h0 hOf0 hall
  simp only at HBT
  obtain ⟨a', cap', hlv, hpp⟩ := HVW.out
  unfold labsV at hlv
  simp only [Value.slice.injEq, true_and] at hlv
  obtain ⟨hla, hlc⟩ := hlv
  subst hla hlc
  have HPP := Lib.hid hpp
  clear hpp
  have k3 := cell_of_row W Bt 3 _ _ _ HBT.out
  simp only [List.getElem?_toArray, List.getElem?_cons_zero, List.getElem?_cons_succ] at k3
  have lbt := lt_of_block HBT.out
  refine callsIn_of_wp Try.func89 rfl trivial ?_ rfl
  simp only [Try.ntmps89, List.size_toArray, List.length_cons, List.length_nil, Nat.reduceAdd, Nat.reduceSub, Array.replicate_succ, Array.replicate_zero, List.push_toArray, List.append_toArray, List.nil_append, List.cons_append]
  gi_wp2
  clear k3 lbt
  gi_loopw [11] (fun v wr => ∃ (q : Nat) (T : Nat → Prop), q ≤ R.labs.length ∧ v = .int .i64 q ∧ Hid (J T (readsU R off s q) wr) ∧ Hid (Of T0 W.heap.size T wr) ∧ Hid (But T0 W wr)) (fun v _ => R.labs.length - (intOf v).toNat)
  case atStart => exact ⟨0, T0, Nat.zero_le _, rfl, HJ0, HO0, HB0⟩
  case round =>
    clear HJ0 HO0 HB0
    obtain ⟨q, T, hq, rfl, HJ, HO, HB⟩ := hrel
    by_cases hlt : q < R.labs.length
    · have hqn : (q : Int) < R.labs.length := by omega
      have hq6 : q < 6 := by have := HOK.out.k6; omega
      have hw9 : IntKind.i64.wrap ((q : Int) + 1) = (q : Int) + 1 := IntWalk.i64_in _ (by omega)
      obtain ⟨b, o, rfl, hbn, hcc⟩ := HPP.out (by omega)
      obtain ⟨h1, r, h2, h3⟩ := hcc q hlt
      have hlow : ∀ k, k < n ∨ k = Bt ∨ k = Bs → k < W.heap.size → wr.heap[k]? = W.heap[k]? := fun k hk hl => HB.out.block k hl fun ht => (HT0.out k ht).2 hk
      have hsame : Same n W wr := fun k hk => hlow k (.inl hk) (by have := HNW.out; omega)
      have p1 := hsame.cell hbn h1
      have p2 := hsame.cell hbn h2
      have h4 := h3.same hsame
      have hbt := (hlow Bt (.inr (.inl rfl)) (lt_of_block HBT.out)).trans HBT.out
      have hbs := (hlow Bs (.inr (.inr rfl)) (lt_of_block HBS.out)).trans HBS.out
      have hlen := HOK.out.len _ (lb_mem hlt)
      have htol := HOK.out.tol _ (lb_mem hlt)
      have hrd := HOK.out.rs _ (lb_mem hlt) _ (ld_mem (i := s) (by rw [hlen]; exact HS.out))
      obtain ⟨ra, rc, rfl, hrp⟩ := h4
      obtain ⟨rb, ro, rfl, hrb, hrc⟩ := hrp (by rw [hlen]; have := HS.out; omega)
      have p3 := hrc s (by rw [hlen]; exact HS.out)
      rw [hlen] at p2
      have hsn : (s : Int) < R.smp.length := by have := HS.out; omega
      have hoff : wr.cell? ⟨Bt, 4 + q, none⟩ = some (.bool (off q)) := by
        rw [cell_of_row wr Bt (4 + q) _ _ _ hbt]
        have h6 : q = 0 ∨ q = 1 ∨ q = 2 ∨ q = 3 ∨ q = 4 ∨ q = 5 := by omega
        rcases h6 with rfl | rfl | rfl | rfl | rfl | rfl <;> rfl
      have ks := cell_of_row wr Bs 0 _ _ _ hbs
      simp only [List.getElem?_toArray, List.getElem?_cons_zero, List.getElem?_cons_succ] at ks
      have lbt := lt_of_block hbt
      have lbs := lt_of_block hbs
      have lrb : rb < wr.heap.size := Nat.lt_of_lt_of_le hrb (Nat.le_trans HNW.out HB.out.size)
      have HRD := Lib.hid hrd
      have HTOL := Lib.hid htol
      have HSK := Lib.hid fun h => @readsU_skip R off s q h
      have HON := Lib.hid fun r h => @readsU_one R off s q r h
      have HRD1 : Hid (rd1 R off s q = if off q = true ∨ ld (lb R.labs q).rs s = -1 then none else some (wid ⟨ld (lb R.labs q).rs s, ld (lb R.labs q).rs s⟩ (lb R.labs q).tol)) := Lib.hid rfl
      clear hcc h1 h2 h3 hlow hsame hbt hbs hlen htol hrd hrp hrc hbn hrb
      generalize hz : off q = z at *
      generalize ld (lb R.labs q).rs s = rd at *
      generalize (lb R.labs q).tol = tol at *
      clear hz
      cases z with
      | true =>
        have HX := Lib.hid (HSK.out (by rw [HRD1.out]; simp))
        clear HSK HON
        have hbx := box_below wr (.cells #[.int .i64 tol, .slice (some ⟨rb, ro, none⟩) R.smp.length rc] 60)
        have HJ2 := Lib.hid (hJ _ _ _ _ HJ.out (HO.out.free hbx))
        have HO2 := Lib.hid (HO.out.grow hbx.size)
        have HB2 : Hid (But T0 W _) := Lib.hid (HB.out.trans (But.of_below hbx))
        clear hbx HJ HO HB
        gi_wp2_with fail
        go_roundw
        case rel => exact ⟨q + 1, T, by omega, by simp, Lib.hid (by rw [HX.out]; exact HJ2.out), HO2, HB2⟩
        case measure => simp [intOf]; omega
      | false =>
        by_cases hr1 : rd = -1
        · have hre : (rd == -1) = true := by simp [hr1]
          have HX := Lib.hid (HSK.out (by rw [HRD1.out]; simp [hr1]))
          clear HSK HON hr1
          have hbx := box_below wr (.cells #[.int .i64 tol, .slice (some ⟨rb, ro, none⟩) R.smp.length rc] 60)
          have HJ2 := Lib.hid (hJ _ _ _ _ HJ.out (HO.out.free hbx))
          have HO2 := Lib.hid (HO.out.grow hbx.size)
          have HB2 : Hid (But T0 W _) := Lib.hid (HB.out.trans (But.of_below hbx))
          clear hbx HJ HO HB
          gi_wp2_with fail
          go_roundw
          case rel => exact ⟨q + 1, T, by omega, by simp, Lib.hid (by rw [HX.out]; exact HJ2.out), HO2, HB2⟩
          case measure => simp [intOf]; omega
        · have hre : (rd == -1) = false := by simp [hr1]
          have HX := Lib.hid (HON.out (wid ⟨rd, rd⟩ tol) (by rw [HRD1.out]; simp [hr1]))
          have HPR : Hid (readsU R off s q ++ [wid ⟨rd, rd⟩ tol] <+: readsR R off s) := Lib.hid (by rw [← HX.out, HALL.out]; exact readsU_pre hlt)
          clear HSK HON hr1 HRD1
          have hbx := box_below wr (.cells #[.int .i64 tol, .slice (some ⟨rb, ro, none⟩) R.smp.length rc] 60)
          have hnx := heap_alloc_new wr (.cells #[.int .i64 tol, .slice (some ⟨rb, ro, none⟩) R.smp.length rc] 60)
          have hrd := HRD.out
          have htol := HTOL.out
          have HW1 : Hid (IntKind.i64.wrap (rd - tol) = rd - tol) := Lib.hid (IntWalk.i64_in _ (by omega))
          have HW2 : Hid (IntKind.i64.wrap (rd + tol) = rd + tol) := Lib.hid (IntWalk.i64_in _ (by omega))
          have HWI := Lib.hid fun w => wider_any rd rd tol w HW1.out HW2.out
          clear hrd htol
          gi_wp2_with fail
          generalize World.alloc wr _ = v1 at *
          refine ⟨trivial, rfl, ?_⟩
          refine (callsIn_wide.2 (HWI.out _)).mono ?_
          rintro e v2 ⟨rfl, hb2⟩
          have hb := below_to hbx hb2
          have hj2 := hJ _ _ _ _ HJ.out (HO.out.free hb)
          have ho2 := HO.out.grow hb.size
          have hbt2 : But T0 W v2 := HB.out.trans (But.of_below hb)
          obtain ⟨fn, tmps, assign, body, hy, hRd⟩ := HY.out T (readsU R off s q) (wid ⟨rd, rd⟩ tol) v2 trivial HPR.out hj2 ho2 hbt2
          unfold encR rgV wid at hy
          have HRDD := Lib.hid hRd
          have HO2 := Lib.hid ho2
          have HBT2 := Lib.hid hbt2
          clear hRd hj2 ho2 hbt2 hbx hb2 hb HJ HO HB p1 p2 p3 hnx
          simp only at hy
          gi_wp2_with fail
          refine ⟨rfl, ?_⟩
          refine RoundIn.mono (F := Fence.wide) HRDD.out ?_
          clear hy HRDD
          rintro e v3 ⟨hb3, (⟨rfl, hj3⟩ | ⟨rfl, hj3⟩)⟩
          · have HJ3 := Lib.hid hj3
            have HO3 := Lib.hid (HO2.out.more (by have := HBT2.out.size; omega) hb3.size)
            have HBT3 := Lib.hid (HO2.out.but (Nat.le_refl _) HBT2.out hb3)
            clear hj3 hb3
            gi_wp2
            go_roundw
            case rel => exact ⟨q + 1, _, by omega, by simp, Lib.hid (by rw [HX.out]; exact HJ3.out), HO3, HBT3⟩
            case measure => simp [intOf]; omega
          · have HJ3 := Lib.hid hj3
            have HO3 := Lib.hid (HO2.out.more (by have := HBT2.out.size; omega) hb3.size)
            have HBT3 := Lib.hid (HO2.out.but (Nat.le_refl _) HBT2.out hb3)
            clear hj3 hb3
            gi_wp2
            exact bodyPost_ret (results_none rfl _ _ _) rfl ⟨⟨_, rfl⟩, HBT3.out, _, HO3.out, .inr ⟨_, HPR.out, HJ3.out⟩⟩
    · obtain rfl : q = R.labs.length := by omega
      have HJ2 : Hid (J T (readsR R off s) wr) := Lib.hid (by rw [HALL.out]; exact HJ.out)
      gi_wp2
      go_end0
      exact ⟨⟨_, rfl⟩, HB.out, T, HO.out, .inl ⟨_, rfl, HJ2.out⟩⟩
end Go.Proofs.Ytpdkgnfblnblbaa
