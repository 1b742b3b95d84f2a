/- The least list of the fewest: contract. Condition: the round is valid. -/
import Derived.Test.YtpdkgnfblnblbaaFD
namespace Go.Proofs.Ytpdkgnfblnblbaa
open Go.RowKit Go.Shelf
attribute [local irreducible] arrV wpQuiet
theorem box4 (w : World) (A B C D : Obj) : ((((w.alloc A).alloc B).alloc C).alloc D).heap[w.heap.size]? = some A ∧ ((((w.alloc A).alloc B).alloc C).alloc D).heap[w.heap.size + 1]? = some B ∧ ((((w.alloc A).alloc B).alloc C).alloc D).heap[w.heap.size + 1 + 1]? = some C ∧ ((((w.alloc A).alloc B).alloc C).alloc D).heap[w.heap.size + 1 + 1 + 1]? = some D ∧
    Below w.heap.size w ((((w.alloc A).alloc B).alloc C).alloc D) ∧ ((((w.alloc A).alloc B).alloc C).alloc D).heap.size = w.heap.size + 4 := by
  obtain ⟨h0, h1, h2⟩ := box3 w A B C
  have h3 := heap_alloc_new (((w.alloc A).alloc B).alloc C) D
  simp only [World.size_alloc] at h3
  exact ⟨by rw [heap_alloc_low _ _ _ (by simp <;> omega)]; exact h0, by rw [heap_alloc_low _ _ _ (by simp <;> omega)]; exact h1, by rw [heap_alloc_low _ _ _ (by simp <;> omega)]; exact h2, h3, (below3 w A B C).alloc (by simp; omega) D, by simp⟩
/-- The least list of the fewest. -/
def fewL (R : Rd) (sp : Int) : Nat → Nat → Option (List Int)
  | 0, _ => none
  | c + 1, m => match findP R sp m (fun _ => false) 0 with
    | some l => some l
    | none => fewL R sp c (m + 1)
def fewP (R : Rd) (sp : Int) : Option (List Int) := fewL R sp (R.labs.length + 1 - 0) 0
theorem fewL_some {R : Rd} {sp : Int} {n m : Nat} {l : List Int} (h : m < n) (hf : findP R sp m (fun _ => false) 0 = some l) : fewL R sp (n - m) m = some l := by
  rw [show n - m = (n - (m + 1)) + 1 by omega, fewL, hf]
theorem fewL_none {R : Rd} {sp : Int} {n m : Nat} (h : m < n) (hf : findP R sp m (fun _ => false) 0 = none) : fewL R sp (n - m) m = fewL R sp (n - (m + 1)) (m + 1) := by
  rw [show n - m = (n - (m + 1)) + 1 by omega, fewL, hf]
theorem fewL_end {R : Rd} {sp : Int} {n : Nat} : fewL R sp (n - n) n = none := by
  rw [Nat.sub_self]
  rfl
theorem built81 : True := trivial

set_option maxRecDepth 100000 in
set_option maxHeartbeats 1500000 in
theorem fewest_any (n bm : Nat) (p : Rp) (R : Rd) (sp : Int) (w : World) (hR : RdOk R) (hV : RdV n w p R) (hn : n ≤ bm) (hM : CMap w bm R) :
    Calls Try.prog 50 #[.agg #[.slice p.la R.lots.length p.lc, .slice p.sa R.smp.length p.sc, .int .i64 R.sp, .slice p.ba R.labs.length p.bc, .map (some bm)], .int .i64 sp] w fun e w' => FndP w (fewP R sp) e w' ∧ But (fun k => k = bm) w w' ∧ CMap w' bm R := by
  have hk6 := hR.k6
  have HF := Lib.hid fun m (h : m ≤ 6) W (hW : FindW w.heap.size n bm p R sp W) => find_any w.heap.size n bm p R sp hR m (fun _ => false) 0 W h (Nat.zero_le _) hW
  obtain ⟨k0, k1, k2, k3, kb, kz⟩ := box4 w (.cells #[.slice p.la R.lots.length p.lc, .slice p.sa R.smp.length p.sc, .int .i64 R.sp, .slice p.ba R.labs.length p.bc, .map (some bm)] 92) (.cells #[.int .i64 sp] 3) (.cells #[.func (.func 68) #[.agg #[.slice p.la R.lots.length p.lc, .slice p.sa R.smp.length p.sc, .int .i64 R.sp, .slice p.ba R.labs.length p.bc, .map (some bm)]] #[]] 110) (.cells #[.func (.func 69) #[] #[pz (w.heap.size + 1 + 1), pz w.heap.size, pz (w.heap.size + 1), pz (w.heap.size + 1 + 1 + 1)]] 111)
  have hml := hM.lt
  have HW : Hid (FindW w.heap.size n bm p R sp ((((w.alloc (.cells #[.slice p.la R.lots.length p.lc, .slice p.sa R.smp.length p.sc, .int .i64 R.sp, .slice p.ba R.labs.length p.bc, .map (some bm)] 92)).alloc (.cells #[.int .i64 sp] 3)).alloc (.cells #[.func (.func 68) #[.agg #[.slice p.la R.lots.length p.lc, .slice p.sa R.smp.length p.sc, .int .i64 R.sp, .slice p.ba R.labs.length p.bc, .map (some bm)]] #[]] 110)).alloc (.cells #[.func (.func 69) #[] #[pz (w.heap.size + 1 + 1), pz w.heap.size, pz (w.heap.size + 1), pz (w.heap.size + 1 + 1 + 1)]] 111))) := Lib.hid ⟨k0, k1, k2, k3, hM.block (kb.block _ hml), hV.same (.below (by omega) kb), hn, hml⟩
  have HBT : Hid (But (fun k => k = bm) w ((((w.alloc (.cells #[.slice p.la R.lots.length p.lc, .slice p.sa R.smp.length p.sc, .int .i64 R.sp, .slice p.ba R.labs.length p.bc, .map (some bm)] 92)).alloc (.cells #[.int .i64 sp] 3)).alloc (.cells #[.func (.func 68) #[.agg #[.slice p.la R.lots.length p.lc, .slice p.sa R.smp.length p.sc, .int .i64 R.sp, .slice p.ba R.labs.length p.bc, .map (some bm)]] #[]] 110)).alloc (.cells #[.func (.func 69) #[] #[pz (w.heap.size + 1 + 1), pz w.heap.size, pz (w.heap.size + 1), pz (w.heap.size + 1 + 1 + 1)]] 111))) := Lib.hid (But.of_below kb)
  have HS := Lib.hid fun m l h h2 => @fewL_some R sp (R.labs.length + 1) m l h h2
  have HN := Lib.hid fun m h h2 => @fewL_none R sp (R.labs.length + 1) m h h2
  have HE := Lib.hid (@fewL_end R sp (R.labs.length + 1))
  have HP : Hid (fewP R sp = fewL R sp (R.labs.length + 1 - 0) 0) := Lib.hid rfl
  have hwl : IntKind.i64.wrap ((R.labs.length : Int) + 1) = (R.labs.length : Int) + 1 := IntWalk.i64_in _ (by omega)
  clear k0 k1 k2 k3 kb kz hR hV hM hn
  unfold pz at HW HBT
  go_enter Try.func50, Try.ntmps50
  go_wp2_with fail
  generalize World.alloc (World.alloc (World.alloc (World.alloc w _) _) _) _ = W at *
  go_loopw [19] (fun x wr => ∃ m : Nat, m ≤ R.labs.length + 1 ∧ x = .int .i64 m ∧ Hid (fewL R sp (R.labs.length + 1 - 0) 0 = fewL R sp (R.labs.length + 1 - m) m) ∧ Hid (FindW w.heap.size n bm p R sp wr) ∧ Hid (But (fun k => k = bm) w wr)) (fun x _ => R.labs.length + 1 - (intOf x).toNat)
  case atStart => exact ⟨0, Nat.zero_le _, rfl, Lib.hid rfl, HW, HBT⟩
  case round =>
    clear HW HBT
    obtain ⟨m, hm, rfl, HL, HW, HBT⟩ := hrel
    have k3 := cell_of_row wr (w.heap.size + 3) 0 _ _ _ HW.out.hf
    simp only [List.getElem?_toArray, List.getElem?_cons_zero, List.getElem?_cons_succ] at k3
    have l3 := lt_of_block HW.out.hf
    have k3' : wr.cell? ⟨w.heap.size + 1 + 1 + 1, 0, none⟩ = _ := k3
    have l3' : w.heap.size + 1 + 1 + 1 < wr.heap.size := l3
    clear k3 l3
    by_cases hlt : m < R.labs.length + 1
    · have hmn : (m : Int) < (R.labs.length : Int) + 1 := by omega
      have hwm : IntKind.i64.wrap ((m : Int) + 1) = (m : Int) + 1 := IntWalk.i64_in _ (by omega)
      have hf := HF.out m (by omega) wr HW.out
      rw [show ((0 : Nat) : Int) = 0 from rfl] at hf
      go_wp2_with fail
      (with_reducible refine hf.mono ?_)
      rintro e w3 ⟨⟨va, k, vc, rfl, hl⟩, hbt3, hW3⟩
      have HBT3 := Lib.hid (HBT.out.trans hbt3)
      have HW3 := Lib.hid hW3
      obtain ⟨g, hg⟩ : ∃ g, findP R sp m (fun _ => false) 0 = g := ⟨_, rfl⟩
      have HGJ := Lib.hid hg
      rw [hg] at hl ⊢
      have HLL : Hid (∀ l, g = some l → k = l.length ∧ w3.ownsRow w.heap.size 3 1 (.slice va k vc) k (l.map iV)) := Lib.hid fun l h => ⟨(hl l h).1, ownsRow_mono HBT.out.size (hl l h).2⟩
      clear hf hl hbt3 hW3 hg HW HBT k3' l3'
      cases g with
      | none =>
        have HNX := Lib.hid (HL.out.trans (HN.out m hlt HGJ.out))
        simp only [Option.isSome_none]
        go_wp2
        go_roundw
        case rel => exact ⟨m + 1, by omega, by simp, HNX, HW3, HBT3⟩
        case measure => simp [intOf]; omega
      | some l =>
        have HNX := Lib.hid ((HP.out.trans HL.out).trans (HS.out m l hlt HGJ.out))
        simp only [Option.isSome_some]
        go_wp2
        go_ret2
        refine ⟨⟨va, k, vc, (by rw [HNX.out]; rfl), fun l2 hl2 => ?_⟩, HBT3.out, HW3.out.hm⟩
        rw [HNX.out] at hl2
        exact HLL.out l2 hl2
    · obtain rfl : m = R.labs.length + 1 := by omega
      have HNX := Lib.hid ((HP.out.trans HL.out).trans HE.out)
      go_wp2
      go_ret2
      exact ⟨⟨none, 0, 0, (by rw [HNX.out]; rfl), fun l hl => by rw [HNX.out] at hl; cases hl⟩, HBT.out, HW.out.hm⟩

set_option maxRecDepth 100000 in
set_option maxHeartbeats 1000000 in
theorem open_any (p : Rp) (R : Rd) (w : World) :
    Calls Try.prog 49 #[rdV p R] w fun e w' => ∃ bm, e = .returned (.agg #[.slice p.la R.lots.length p.lc, .slice p.sa R.smp.length p.sc, .int .i64 R.sp, .slice p.ba R.labs.length p.bc, .map (some bm)]) ∧ w.heap.size ≤ bm ∧ CMap w' bm R ∧ Below w.heap.size w w' := by
  have hmm := @run_makeMap Try.prog
  unfold rdV
  go_enter Try.func49, Try.ntmps49
  go_wp2
  have hx := box3 w (.cells #[.slice p.la R.lots.length p.lc, .slice p.sa R.smp.length p.sc, .int .i64 R.sp, .slice p.ba R.labs.length p.bc] 34) (.cells #[.slice p.la R.lots.length p.lc, .slice p.sa R.smp.length p.sc, .int .i64 R.sp, .slice p.ba R.labs.length p.bc, .map (some (w.heap.size + 1 + 1))] 92) (.map #[] 0)
  have hb := below3 w (.cells #[.slice p.la R.lots.length p.lc, .slice p.sa R.smp.length p.sc, .int .i64 R.sp, .slice p.ba R.labs.length p.bc] 34) (.cells #[.slice p.la R.lots.length p.lc, .slice p.sa R.smp.length p.sc, .int .i64 R.sp, .slice p.ba R.labs.length p.bc, .map (some (w.heap.size + 1 + 1))] 92) (.map #[] 0)
  refine bodyPost_ret (v := .agg #[.slice p.la R.lots.length p.lc, .slice p.sa R.smp.length p.sc, .int .i64 R.sp, .slice p.ba R.labs.length p.bc, .map (some (w.heap.size + 1 + 1))]) ?_ rfl ⟨w.heap.size + 1 + 1, rfl, by omega, ⟨[], ⟨#[], 0, hx.2.2, rfl⟩, fun o b h => by cases h⟩, hb⟩
  simp [results, Try.results49, go_sem]

set_option maxRecDepth 100000 in
set_option maxHeartbeats 2000000 in
theorem Least_any (n : Nat) (p : Rp) (R : Rd) (w : World) (hV : RdV n w p R) (hn : n ≤ w.heap.size) :
    Calls Try.prog 29 #[rdV p R] w fun e w' => (∃ a k c, e = .returned (.tuple #[.slice a k c, .int .i64 (errR R)]) ∧ (errR R = 0 → ∀ l, fewP R (-1) = some l → k = l.length ∧ w'.ownsRow w.heap.size 3 1 (.slice a k c) k (l.map iV)) ∧ (errR R ≠ 0 → k = 0)) ∧ Below w.heap.size w w' := by
  have HC := Lib.hid fun w' (h : Below w.heap.size w w') => check_any n p R w' (hV.same (.below hn h)) (Nat.le_trans hn h.size)
  have HOP := Lib.hid (open_any p R)
  have HFW := Lib.hid fun (hR : RdOk R) bm w' (h : Below w.heap.size w w') (hb : w.heap.size ≤ bm) (hM : CMap w' bm R) => fewest_any n bm p R (-1) w' hR (hV.same (.below hn h)) (Nat.le_trans hn hb) hM
  have HERR := Lib.hid (@err_ok R)
  have HX := Lib.hid (heap_alloc_new w (.cells #[.slice p.la R.lots.length p.lc, .slice p.sa R.smp.length p.sc, .int .i64 R.sp, .slice p.ba R.labs.length p.bc] 34))
  have HB := Lib.hid (box_below w (.cells #[.slice p.la R.lots.length p.lc, .slice p.sa R.smp.length p.sc, .int .i64 R.sp, .slice p.ba R.labs.length p.bc] 34))
  clear hV hn
  unfold rdV at *
  generalize errR R = F at *
  go_enter Try.func29, Try.ntmps29
  go_wp2_with fail
  generalize World.alloc w _ = W at *
  refine (HC.out _ HB.out).mono ?_
  rintro e W1 ⟨rfl, hb⟩
  replace HX := Lib.hid ((hb.block _ (lt_of_block HX.out)).trans HX.out)
  replace HB := Lib.hid (below_to HB.out hb)
  clear hb HC
  have a0 := cell_of_row W1 w.heap.size 0 _ _ _ HX.out
  have a1 := cell_of_row W1 w.heap.size 1 _ _ _ HX.out
  have a2 := cell_of_row W1 w.heap.size 2 _ _ _ HX.out
  have a3 := cell_of_row W1 w.heap.size 3 _ _ _ HX.out
  simp only [List.getElem?_toArray, List.getElem?_cons_zero, List.getElem?_cons_succ] at a0 a1 a2 a3
  have la1 := lt_of_block HX.out
  by_cases hf : F = 0
  · subst hf
    replace HFW := Lib.hid (HFW.out (HERR.out (by trivial)))
    go_wp2_with fail
    refine (HOP.out W1).mono ?_
    rintro e W2 ⟨bm, rfl, hbm, hcm, hb⟩
    have hwb : w.heap.size ≤ bm := Nat.le_trans HB.out.size hbm
    have hs1 := HB.out.size
    replace HB := Lib.hid (below_to HB.out hb)
    have HCM := Lib.hid hcm
    have HW1 : Hid (W1.heap.size ≤ bm) := Lib.hid hbm
    clear hb a0 a1 a2 a3 la1 hcm hbm
    go_wp2_with fail
    refine (HFW.out bm W2 HB.out hwb HCM.out).mono ?_
    rintro e W3 ⟨⟨a, k, c, rfl, hl⟩, hbt, hcm⟩
    have hs2 := HB.out.size
    have HBF : Hid (Below w.heap.size w W3) := Lib.hid ⟨hbt.os.trans HB.out.os, hbt.tape.trans HB.out.tape, hbt.output.trans HB.out.output, Nat.le_trans hs2 hbt.size, fun q hq => (hbt.block q (by omega) (by omega)).trans (HB.out.block q hq)⟩
    have HL : Hid (∀ l, fewP R (-1) = some l → k = l.length ∧ W3.ownsRow w.heap.size 3 1 (.slice a k c) k (l.map iV)) := Lib.hid fun l h => ⟨(hl l h).1, ownsRow_mono hs2 (hl l h).2⟩
    clear hl hbt hcm HCM
    go_wp2
    go_ret2
    exact ⟨⟨a, k, c, rfl, HL.out⟩, HBF.out⟩
  · have hf1 : (F != 0) = true := by simp [hf]
    have hf2 : (F == 0) = false := by simp [hf]
    have HF := Lib.hid hf
    clear hf
    go_wp2
    go_ret2
    exact ⟨⟨none, 0, 0, rfl, fun h => absurd h HF.out, fun _ => rfl⟩, HB.out⟩
end Go.Proofs.Ytpdkgnfblnblbaa
