/- The law RoundMore, walked. Condition: two bytes. -/
import Derived.Test.YtpdkgnfblnblbaaLG
import Derived.Test.YtpdkgnfblnblbaaLE
namespace Go.Proofs.Ytpdkgnfblnblbaa
open Go.RowKit Go.Shelf
attribute [local irreducible] arrV wpQuiet
theorem bit_nat (a k : Nat) (hk : k < 8) : bitB (a : Int) k = a.testBit k := by
  unfold bitB
  rw [Nat.testBit_eq_decide_div_mod_eq, show min k 8 = k by omega, Bool.eq_iff_iff, decide_eq_true_eq, decide_eq_true_eq]
  constructor
  · intro h
    have : ((a / 2 ^ k % 2 : Nat) : Int) = 1 := by push_cast; exact h
    omega
  · intro h
    have : ((a / 2 ^ k % 2 : Nat) : Int) = 1 := by rw [h]; rfl
    push_cast at this
    exact this
theorem or_nat (a b : Nat) (ha : a < 256) (hb : b < 256) : bits .or .u8 (a : Int) b = ((a ||| b : Nat) : Int) := by
  have h : a ||| b < 256 := Nat.or_lt_two_pow (n := 8) ha hb
  have e0 : bits .or .u8 (a : Int) b = IntKind.u8.wrap ((BitVec.ofInt 8 (a : Int) ||| BitVec.ofInt 8 (b : Int)).toNat : Int) := rfl
  have e1 : BitVec.ofInt 8 (a : Int) = BitVec.ofNat 8 a := by simp
  have e2 : BitVec.ofInt 8 (b : Int) = BitVec.ofNat 8 b := by simp
  rw [e0, e1, e2]
  have e3 : (BitVec.ofNat 8 a ||| BitVec.ofNat 8 b).toNat = a ||| b := by
    rw [BitVec.toNat_or, BitVec.toNat_ofNat, BitVec.toNat_ofNat, Nat.mod_eq_of_lt (by omega), Nat.mod_eq_of_lt (by omega)]
  rw [e3]
  simp [IntKind.wrap, IntKind.signed, IntKind.bits]
  omega
theorem or_bits {x y : Int} (hx : 0 ≤ x ∧ x < 256) (hy : 0 ≤ y ∧ y < 256) : ∃ z, bits .or .u8 x y = z ∧ (0 ≤ z ∧ z < 256) ∧ ∀ k, k < 8 → bitB x k = true → bitB z k = true := by
  obtain ⟨a, rfl⟩ : ∃ a : Nat, x = a := ⟨x.toNat, by omega⟩
  obtain ⟨b, rfl⟩ : ∃ b : Nat, y = b := ⟨y.toNat, by omega⟩
  have h : a ||| b < 256 := Nat.or_lt_two_pow (n := 8) (by omega) (by omega)
  refine ⟨_, or_nat a b (by omega) (by omega), by omega, fun k hk h1 => ?_⟩
  rw [bit_nat _ _ hk] at h1 ⊢
  rw [Nat.testBit_or, h1, Bool.true_or]
theorem bit_255 {k : Nat} (hk : k < 8) : bitB 255 k = true := by
  have : ∀ k, k < 8 → bitB 255 k = true := by decide
  exact this k hk
/-- What the law sees of a round and two lists: who explains it with fewer does so with more, with no narrower spans. -/
theorem more_facts {R : Rd} (he : errR R = 0) (hR : RdOk R) {x z : Int} (h : ∀ k, k < 8 → bitB x k = true → bitB z k = true) :
    (exA R (chosenL x R.labs.length) = true → exA R (chosenL z R.labs.length) = true) ∧ exA R (chosenL 255 R.labs.length) = true ∧
    (exA R (chosenL x R.labs.length) = true → spE R (chosenL x R.labs.length) = 0 ∧ spE R (chosenL z R.labs.length) = 0 ∧ ∀ s, s < R.smp.length →
      (rg (spansL R (offF (chosenL z R.labs.length))) s).lo ≤ (rg (spansL R (offF (chosenL x R.labs.length))) s).lo ∧ (rg (spansL R (offF (chosenL x R.labs.length))) s).hi ≤ (rg (spansL R (offF (chosenL z R.labs.length))) s).hi ∧ (rg (spansL R (offF (chosenL x R.labs.length))) s).lo ≤ (rg (spansL R (offF (chosenL x R.labs.length))) s).hi) := by
  have h6 := hR.k6
  have hm : ∀ k, k < R.labs.length → offF (chosenL x R.labs.length) k = true → offF (chosenL z R.labs.length) k = true := fun k hk h1 => by
    rw [chosen_off hk] at h1 ⊢
    exact h k (by omega) h1
  have x0 := chosen_ok he x
  have z0 := chosen_ok he z
  have hxz : explB R (offF (chosenL x R.labs.length)) = true → explB R (offF (chosenL z R.labs.length)) = true := fun h1 => expl_more hR hm h1
  rw [exA_ok x0, exA_ok z0, exA_ok (chosen_ok he 255)]
  refine ⟨hxz, expl_all hR fun k hk => by rw [chosen_off hk]; exact bit_255 (by omega), fun h1 => ⟨spE_yes x0 h1, spE_yes z0 (hxz h1), fun s hs => ?_⟩⟩
  have e : ∀ o, rg (spansL R o) s = spanR R o s := fun o => by simp [rg, spansL, hs]
  rw [e, e]
  have := span_more hR hm h1 hs
  exact ⟨this.1, this.2, span_ok hR h1 hs⟩

set_option maxRecDepth 100000 in
set_option maxHeartbeats 8000000 in
theorem more_walk (p : Rp) (R : Rd) (x y : Int) (w : World) (bx : 0 ≤ x ∧ x < 256) (by' : 0 ≤ y ∧ y < 256) (hV : RdV w.heap.size w p R) :
    Calls Try.prog 10 #[rdV p R, .int .u8 x, .int .u8 y] w fun e w' => e = .returned (.bool true) ∧ Below w.heap.size w w' := by
  have HRE := Lib.hid fun w' (h : Below w.heap.size w w') => ready_any w.heap.size p R w' (hV.same (.below (Nat.le_refl _) h)) h.size
  have HVV := Lib.hid hV
  have HWK := Lib.hid wakes_any
  have HRO := Lib.hid (@readyB_ok R)
  have HCH := Lib.hid fun w' x hx hR => chosen_any 0 p R x w' hx hR
  have HRD := Lib.hid fun w' (hR : RdOk R) (h : Below w.heap.size w w') => Round_any w.heap.size p R w' hR (hV.same (.below (Nat.le_refl _) h)) h.size
  have HBX := Lib.hid bx
  have HBY := Lib.hid by'
  obtain ⟨pla, plc, psa, psc, pba, pbc⟩ := p
  have HX := Lib.hid (heap_alloc_new w (.cells #[.slice pla R.lots.length plc, .slice psa R.smp.length psc, .int .i64 R.sp, .slice pba R.labs.length pbc] 26))
  have HB := Lib.hid (box_below w (.cells #[.slice pla R.lots.length plc, .slice psa R.smp.length psc, .int .i64 R.sp, .slice pba R.labs.length pbc] 26))
  clear hV bx by'
  unfold rdV at *
  generalize readyB R = zr at *
  go_enter Try.func10, Try.ntmps10
  go_wp2_with fail
  generalize World.alloc w _ = W at *
  refine (HRE.out W HB.out).mono ?_
  rintro e w1 ⟨rfl, hb⟩
  replace HX := Lib.hid ((hb.block _ (lt_of_block HX.out)).trans HX.out)
  replace HB := Lib.hid (below_to HB.out hb)
  clear hb HRE
  cases zr with
  | false =>
    go_wp2_with fail
    refine (HWK.out _).mono ?_
    rintro e w2 ⟨rfl, hb⟩
    have HB2 := Lib.hid (below_to HB.out hb)
    clear hb
    go_wp2
    go_ret
    exact ⟨rfl, HB2.out⟩
  | true =>
    obtain ⟨he, hR⟩ := HRO.out rfl
    have HE := Lib.hid he
    have HR := Lib.hid hR
    have h6 := hR.k6
    clear he hR HRO
    go_wp2_with fail
    have HC : Hid (∀ w', Below w1.heap.size w1 w' → w'.cell? ⟨w.heap.size, 0, none⟩ = some (.slice pla R.lots.length plc) ∧ w'.cell? ⟨w.heap.size, 1, none⟩ = some (.slice psa R.smp.length psc) ∧ w'.cell? ⟨w.heap.size, 2, none⟩ = some (.int .i64 R.sp) ∧ w'.cell? ⟨w.heap.size, 3, none⟩ = some (.slice pba R.labs.length pbc) ∧ w.heap.size < w'.heap.size) := Lib.hid fun w' hS => by
      have hx := (hS.block _ (lt_of_block HX.out)).trans HX.out
      exact ⟨cell_of_row w' _ 0 _ _ _ hx, cell_of_row w' _ 1 _ _ _ hx, cell_of_row w' _ 2 _ _ _ hx, cell_of_row w' _ 3 _ _ _ hx, lt_of_block hx⟩
    refine wp_region_noPanic ?_
    refine wp_region_walkT (fun w' => Below w1.heap.size w1 w') 8 [(0, 0), (0, 1), (0, 3), (0, 4), (0, 5), (0, 6), (1, 2), (1, 7)] (below_drawn _) (by decide +kernel) (fun _ _ _ _ _ h => h) (by decide +kernel) ?_
    iterate 6
      (refine WalkT.takes rfl rfl ?_; apply Exists.intro; refine ⟨fun w' hS => ?_, ?_⟩; (obtain ⟨z1, z2, z3, z4, z5⟩ := HC.out w' hS; clear hS; go_simp; with_reducible rfl); simp only [List.getElem_toArray, List.getElem_cons_succ, List.getElem_cons_zero, Act.put, List.setIfInBounds_toArray, List.set_cons_zero, List.set_cons_succ])
    obtain ⟨z, hz, hzb, hzx⟩ := or_bits HBX.out HBY.out
    rw [hz]
    have HFA := Lib.hid (more_facts HE.out HR.out hzx)
    have HZB := Lib.hid hzb
    clear hz hzx hzb
    obtain ⟨wd, hwd⟩ : ∃ wd, wd = { w1 with drawn := w1.drawn + 1 } := ⟨_, rfl⟩
    rw [← hwd]
    have hbd : Below w1.heap.size w1 wd := by rw [hwd]; exact below_drawn w1
    clear hwd
    refine WalkT.calls rfl rfl ?_; apply Exists.intro; apply Exists.intro; refine ⟨(by go_simp; exact ⟨rfl, rfl⟩), ?_⟩
    refine (HCH.out wd x HBX.out (by omega)).mono ?_
    rintro e w2 ⟨⟨fv, rfl, ho⟩, hb⟩
    have hb2 : Below w1.heap.size w1 w2 := grow_to hbd hb
    have hf2 := own_ints ho
    refine ⟨_, rfl, hb2, ?_⟩
    simp only [List.getElem_toArray, List.getElem_cons_succ, List.getElem_cons_zero, Act.put, List.setIfInBounds_toArray, List.set_cons_zero, List.set_cons_succ]
    refine WalkT.calls rfl rfl ?_; apply Exists.intro; apply Exists.intro; refine ⟨(by go_simp; exact ⟨rfl, rfl⟩), ?_⟩
    refine (HCH.out w2 z HZB.out (by omega)).mono ?_
    rintro e w3 ⟨⟨mv, rfl, ho3⟩, hb3⟩
    have hb3' : Below w1.heap.size w1 w3 := grow_to hb2 hb3
    refine ⟨_, rfl, hb3', ?_⟩
    simp only [List.getElem_toArray, List.getElem_cons_succ, List.getElem_cons_zero, Act.put, List.setIfInBounds_toArray, List.set_cons_zero, List.set_cons_succ]
    refine WalkT.fin ?_
    simp only [List.drop_succ_cons, List.drop_zero]
    have HF := Lib.hid ((hf2.same (.below (Nat.le_refl _) hb3)).up hb3.size)
    have HM := Lib.hid (own_ints ho3)
    replace HX := Lib.hid ((hb3'.block _ (lt_of_block HX.out)).trans HX.out)
    replace HB := Lib.hid (below_to HB.out hb3')
    have hfl := chosen_le x R.labs.length
    have hml := chosen_le z R.labs.length
    clear hb hb2 hb3 hb3' ho ho3 hf2 hbd HC
    refine wpList_is rfl fv (by go_simp) ?_
    simp only [List.getElem_toArray, List.getElem_cons_succ, List.getElem_cons_zero, Act.put, List.setIfInBounds_toArray, List.set_cons_zero, List.set_cons_succ]
    refine wpList_is rfl mv (by go_simp) ?_
    simp only [List.getElem_toArray, List.getElem_cons_succ, List.getElem_cons_zero, Act.put, List.setIfInBounds_toArray, List.set_cons_zero, List.set_cons_succ]
    simp only [wpList]
    refine NoPanic.normal ?_
    have O1 := Lib.hid (chosen_ok HE.out x)
    have O2 := Lib.hid (chosen_ok HE.out z)
    have O3 := Lib.hid (chosen_ok HE.out 255)
    have hal := chosen_le 255 R.labs.length
    have HLI := Lib.hid list_any
    have HEX := Lib.hid fun m q v l w' (hl : l.length ≤ 1000) (hV : RdV m w' q R) (hL : IntsV m w' v l) (hm : m ≤ w'.heap.size) => Explains_any m q R v l w' hl hV hL hm
    have HSP := Lib.hid fun m q v l w' (hl : l.length ≤ 1000) (hV : RdV m w' q R) (hL : IntsV m w' v l) (hm : m ≤ w'.heap.size) => Spans_any m q R v l w' hl hV hL hm
    have a0 := cell_of_row w3 w.heap.size 0 _ _ _ HX.out
    have a1 := cell_of_row w3 w.heap.size 1 _ _ _ HX.out
    have a2 := cell_of_row w3 w.heap.size 2 _ _ _ HX.out
    have a3 := cell_of_row w3 w.heap.size 3 _ _ _ HX.out
    simp only [List.getElem?_toArray, List.getElem?_cons_zero, List.getElem?_cons_succ] at a0 a1 a2 a3
    have la := lt_of_block HX.out
    go_wp2_with fail
    refine (HRD.out w3 HR.out HB.out).mono ?_
    rintro e w4 ⟨⟨q3, rfl, hv, -⟩, hb⟩
    have HQ := Lib.hid hv
    replace HX := Lib.hid ((hb.block _ (lt_of_block HX.out)).trans HX.out)
    replace HB := Lib.hid (below_to HB.out hb)
    replace HF := Lib.hid ((HF.out.same (.below (Nat.le_refl _) hb)).up hb.size)
    replace HM := Lib.hid ((HM.out.same (.below (Nat.le_refl _) hb)).up hb.size)
    clear hb hv a0 a1 a2 a3 la
    go_wp2_with fail
    refine (HLI.out _ fv (chosenL x R.labs.length) w4 (by omega) HF.out (Nat.le_refl _)).mono ?_
    rintro e w5 ⟨⟨lv3, rfl, ho⟩, hb⟩
    have HLV := Lib.hid (own_ints ho)
    replace HX := Lib.hid ((hb.block _ (lt_of_block HX.out)).trans HX.out)
    replace HB := Lib.hid (below_to HB.out hb)
    replace HF := Lib.hid ((HF.out.same (.below (Nat.le_refl _) hb)).up hb.size)
    replace HM := Lib.hid ((HM.out.same (.below (Nat.le_refl _) hb)).up hb.size)
    replace HQ := Lib.hid ((HQ.out.same (.below (Nat.le_refl _) hb)).up hb.size)
    clear hb ho
    go_wp2_with fail
    refine ((HEX.out _ q3 _ (chosenL x R.labs.length) w5 (by omega) HQ.out HLV.out (Nat.le_refl _))).mono ?_
    rintro e w6 ⟨rfl, hb⟩
    replace HX := Lib.hid ((hb.block _ (lt_of_block HX.out)).trans HX.out)
    replace HB := Lib.hid (below_to HB.out hb)
    replace HF := Lib.hid ((HF.out.same (.below (Nat.le_refl _) hb)).up hb.size)
    replace HM := Lib.hid ((HM.out.same (.below (Nat.le_refl _) hb)).up hb.size)
    clear hb HQ HLV
    have a0 := cell_of_row w6 w.heap.size 0 _ _ _ HX.out
    have a1 := cell_of_row w6 w.heap.size 1 _ _ _ HX.out
    have a2 := cell_of_row w6 w.heap.size 2 _ _ _ HX.out
    have a3 := cell_of_row w6 w.heap.size 3 _ _ _ HX.out
    simp only [List.getElem?_toArray, List.getElem?_cons_zero, List.getElem?_cons_succ] at a0 a1 a2 a3
    have la := lt_of_block HX.out
    go_wp2_with fail
    refine (HRD.out w6 HR.out HB.out).mono ?_
    rintro e w7 ⟨⟨q6, rfl, hv, -⟩, hb⟩
    have HQ := Lib.hid hv
    replace HX := Lib.hid ((hb.block _ (lt_of_block HX.out)).trans HX.out)
    replace HB := Lib.hid (below_to HB.out hb)
    replace HF := Lib.hid ((HF.out.same (.below (Nat.le_refl _) hb)).up hb.size)
    replace HM := Lib.hid ((HM.out.same (.below (Nat.le_refl _) hb)).up hb.size)
    clear hb hv a0 a1 a2 a3 la
    go_wp2_with fail
    refine (HLI.out _ mv (chosenL z R.labs.length) w7 (by omega) HM.out (Nat.le_refl _)).mono ?_
    rintro e w8 ⟨⟨lv6, rfl, ho⟩, hb⟩
    have HLV := Lib.hid (own_ints ho)
    replace HX := Lib.hid ((hb.block _ (lt_of_block HX.out)).trans HX.out)
    replace HB := Lib.hid (below_to HB.out hb)
    replace HF := Lib.hid ((HF.out.same (.below (Nat.le_refl _) hb)).up hb.size)
    replace HM := Lib.hid ((HM.out.same (.below (Nat.le_refl _) hb)).up hb.size)
    replace HQ := Lib.hid ((HQ.out.same (.below (Nat.le_refl _) hb)).up hb.size)
    clear hb ho
    go_wp2_with fail
    refine ((HEX.out _ q6 _ (chosenL z R.labs.length) w8 (by omega) HQ.out HLV.out (Nat.le_refl _))).mono ?_
    rintro e w9 ⟨rfl, hb⟩
    replace HX := Lib.hid ((hb.block _ (lt_of_block HX.out)).trans HX.out)
    replace HB := Lib.hid (below_to HB.out hb)
    replace HF := Lib.hid ((HF.out.same (.below (Nat.le_refl _) hb)).up hb.size)
    replace HM := Lib.hid ((HM.out.same (.below (Nat.le_refl _) hb)).up hb.size)
    clear hb HQ HLV
    rw [O1.out, O2.out]
    obtain ⟨z1, hz1⟩ : ∃ z1, exA R (chosenL x R.labs.length) = z1 := ⟨_, rfl⟩
    obtain ⟨z2, hz2⟩ : ∃ z2, exA R (chosenL z R.labs.length) = z2 := ⟨_, rfl⟩
    rw [hz1, hz2] at HFA ⊢
    clear hz1 hz2
    go_wp2_with fail
    have HC : Hid (∀ w', Below w9.heap.size w9 w' → w'.cell? ⟨w.heap.size, 0, none⟩ = some (.slice pla R.lots.length plc) ∧ w'.cell? ⟨w.heap.size, 1, none⟩ = some (.slice psa R.smp.length psc) ∧ w'.cell? ⟨w.heap.size, 2, none⟩ = some (.int .i64 R.sp) ∧ w'.cell? ⟨w.heap.size, 3, none⟩ = some (.slice pba R.labs.length pbc) ∧ w.heap.size < w'.heap.size) := Lib.hid fun w' hS => by
      have hx := (hS.block _ (lt_of_block HX.out)).trans HX.out
      exact ⟨cell_of_row w' _ 0 _ _ _ hx, cell_of_row w' _ 1 _ _ _ hx, cell_of_row w' _ 2 _ _ _ hx, cell_of_row w' _ 3 _ _ _ hx, lt_of_block hx⟩
    refine wp_region_noPanic ?_
    refine wp_region_walkT (fun w' => Below w9.heap.size w9 w') 9 [(0, 0), (0, 2), (1, 1), (1, 3), (1, 4), (0, 5), (0, 6), (0, 7), (0, 8)] (below_drawn _) (by decide +kernel) (fun _ _ _ _ _ h => h) (by decide +kernel) ?_
    iterate 2
      (refine WalkT.takes rfl rfl ?_; apply Exists.intro; refine ⟨fun w' hS => ?_, ?_⟩; (obtain ⟨z1, z2, z3, z4, z5⟩ := HC.out w' hS; clear hS; go_simp; with_reducible rfl); simp only [List.getElem_toArray, List.getElem_cons_succ, List.getElem_cons_zero, Act.put, List.setIfInBounds_toArray, List.set_cons_zero, List.set_cons_succ])
    obtain ⟨wd, hwd⟩ : ∃ wd, wd = { w9 with drawn := w9.drawn + 1 } := ⟨_, rfl⟩
    rw [← hwd]
    have hbd : Below w9.heap.size w9 wd := by rw [hwd]; exact below_drawn w9
    clear hwd
    refine WalkT.calls rfl rfl ?_; apply Exists.intro; apply Exists.intro; refine ⟨(by go_simp; exact ⟨rfl, rfl⟩), ?_⟩
    refine (HRD.out wd HR.out (below_to HB.out hbd)).mono ?_
    rintro e w10 ⟨⟨q10, rfl, hv, -⟩, hb⟩
    have hb10 := grow_to hbd hb
    refine ⟨_, rfl, hb10, ?_⟩
    simp only [List.getElem_toArray, List.getElem_cons_succ, List.getElem_cons_zero, Act.put, List.setIfInBounds_toArray, List.set_cons_zero, List.set_cons_succ]
    refine WalkT.calls rfl rfl ?_; apply Exists.intro; apply Exists.intro; refine ⟨(by go_simp; exact ⟨rfl, rfl⟩), ?_⟩
    refine (HCH.out w10 255 (by decide) (by omega)).mono ?_
    rintro e w11 ⟨⟨av, rfl, ho⟩, hb2⟩
    have hb11 := grow_to hb10 hb2
    refine ⟨_, rfl, hb11, ?_⟩
    simp only [List.getElem_toArray, List.getElem_cons_succ, List.getElem_cons_zero, Act.put, List.setIfInBounds_toArray, List.set_cons_zero, List.set_cons_succ]
    refine WalkT.calls rfl rfl ?_; apply Exists.intro; apply Exists.intro; refine ⟨(by go_simp; exact ⟨rfl, rfl⟩), ?_⟩
    refine (HEX.out _ q10 _ (chosenL 255 R.labs.length) w11 (by omega) ((hv.same (.below (Nat.le_refl _) hb2)).up hb2.size) (own_ints ho) (Nat.le_refl _)).mono ?_
    rintro e w12 ⟨rfl, hb3⟩
    rw [O3.out, HFA.out.2.1]
    have hb12 := grow_to hb11 hb3
    refine ⟨_, rfl, hb12, ?_⟩
    simp only [List.getElem_toArray, List.getElem_cons_succ, List.getElem_cons_zero, Act.put, List.setIfInBounds_toArray, List.set_cons_zero, List.set_cons_succ]
    iterate 4
      (refine WalkT.takes rfl rfl ?_; apply Exists.intro; refine ⟨fun w' hS => ?_, ?_⟩; (clear hS; go_simp; with_reducible rfl); simp only [List.getElem_toArray, List.getElem_cons_succ, List.getElem_cons_zero, Act.put, List.setIfInBounds_toArray, List.set_cons_zero, List.set_cons_succ])
    refine WalkT.fin ?_
    simp only [List.drop_succ_cons, List.drop_zero]
    refine wpList_is rfl (.int .i64 0) (by go_simp) ?_
    simp only [List.getElem_toArray, List.getElem_cons_succ, List.getElem_cons_zero, Act.put, List.setIfInBounds_toArray, List.set_cons_zero, List.set_cons_succ]
    simp only [wpList]
    refine NoPanic.normal ?_
    replace HX := Lib.hid ((hb12.block _ (lt_of_block HX.out)).trans HX.out)
    replace HB := Lib.hid (below_to HB.out hb12)
    replace HF := Lib.hid ((HF.out.same (.below (Nat.le_refl _) hb12)).up hb12.size)
    replace HM := Lib.hid ((HM.out.same (.below (Nat.le_refl _) hb12)).up hb12.size)
    clear hb hb2 hb3 hb10 hb11 hb12 hbd hv ho HC O1 O2 O3 HEX HCH
    cases z1 with
    | false =>
      go_wp2_with fail
      refine (HWK.out _).mono ?_
      rintro e w13 ⟨rfl, hb⟩
      have HB2 := Lib.hid (below_to HB.out hb)
      clear hb
      go_wp2
      go_ret
      exact ⟨rfl, HB2.out⟩
    | true =>
      obtain rfl : z2 = true := HFA.out.1 rfl
      have HFB := Lib.hid (HFA.out.2.2 rfl)
      clear HFA
      have a0 := cell_of_row w12 w.heap.size 0 _ _ _ HX.out
      have a1 := cell_of_row w12 w.heap.size 1 _ _ _ HX.out
      have a2 := cell_of_row w12 w.heap.size 2 _ _ _ HX.out
      have a3 := cell_of_row w12 w.heap.size 3 _ _ _ HX.out
      simp only [List.getElem?_toArray, List.getElem?_cons_zero, List.getElem?_cons_succ] at a0 a1 a2 a3
      have la := lt_of_block HX.out
      go_wp2_with fail
      refine (HRD.out w12 HR.out HB.out).mono ?_
      rintro e w13 ⟨⟨q12, rfl, hv, -⟩, hb⟩
      have HQ := Lib.hid hv
      replace HX := Lib.hid ((hb.block _ (lt_of_block HX.out)).trans HX.out)
      replace HB := Lib.hid (below_to HB.out hb)
      replace HF := Lib.hid ((HF.out.same (.below (Nat.le_refl _) hb)).up hb.size)
      replace HM := Lib.hid ((HM.out.same (.below (Nat.le_refl _) hb)).up hb.size)
      clear hb hv a0 a1 a2 a3 la
      go_wp2_with fail
      refine (HLI.out _ fv (chosenL x R.labs.length) w13 (by omega) HF.out (Nat.le_refl _)).mono ?_
      rintro e w14 ⟨⟨lv12, rfl, ho⟩, hb⟩
      have HLV := Lib.hid (own_ints ho)
      replace HX := Lib.hid ((hb.block _ (lt_of_block HX.out)).trans HX.out)
      replace HB := Lib.hid (below_to HB.out hb)
      replace HF := Lib.hid ((HF.out.same (.below (Nat.le_refl _) hb)).up hb.size)
      replace HM := Lib.hid ((HM.out.same (.below (Nat.le_refl _) hb)).up hb.size)
      replace HQ := Lib.hid ((HQ.out.same (.below (Nat.le_refl _) hb)).up hb.size)
      clear hb ho
      go_wp2_with fail
      refine ((HSP.out _ q12 _ (chosenL x R.labs.length) w14 (by omega) HQ.out HLV.out (Nat.le_refl _))).mono ?_
      rintro e w15 ⟨⟨sa, sc, sk, rfl, hyes, -⟩, hb⟩
      obtain ⟨hk, ho⟩ := hyes HFB.out.1
      subst hk
      rw [HFB.out.1]
      have HSV := Lib.hid (own_rgs (l := spansL R (offF (chosenL x R.labs.length))) (by rw [show (spansL R (offF (chosenL x R.labs.length))).length = R.smp.length by simp [spansL]]; exact ownsRow_mono (Nat.zero_le _) ho))
      clear hyes ho
      replace HX := Lib.hid ((hb.block _ (lt_of_block HX.out)).trans HX.out)
      replace HB := Lib.hid (below_to HB.out hb)
      replace HF := Lib.hid ((HF.out.same (.below (Nat.le_refl _) hb)).up hb.size)
      replace HM := Lib.hid ((HM.out.same (.below (Nat.le_refl _) hb)).up hb.size)
      clear hb HQ HLV
      have a0 := cell_of_row w15 w.heap.size 0 _ _ _ HX.out
      have a1 := cell_of_row w15 w.heap.size 1 _ _ _ HX.out
      have a2 := cell_of_row w15 w.heap.size 2 _ _ _ HX.out
      have a3 := cell_of_row w15 w.heap.size 3 _ _ _ HX.out
      simp only [List.getElem?_toArray, List.getElem?_cons_zero, List.getElem?_cons_succ] at a0 a1 a2 a3
      have la := lt_of_block HX.out
      go_wp2_with fail
      refine (HRD.out w15 HR.out HB.out).mono ?_
      rintro e w16 ⟨⟨q15, rfl, hv, -⟩, hb⟩
      have HQ := Lib.hid hv
      replace HX := Lib.hid ((hb.block _ (lt_of_block HX.out)).trans HX.out)
      replace HB := Lib.hid (below_to HB.out hb)
      replace HM := Lib.hid ((HM.out.same (.below (Nat.le_refl _) hb)).up hb.size)
      replace HSV := Lib.hid ((HSV.out.same (.below (Nat.le_refl _) hb)).up hb.size)
      clear hb hv a0 a1 a2 a3 la
      go_wp2_with fail
      refine (HLI.out _ mv (chosenL z R.labs.length) w16 (by omega) HM.out (Nat.le_refl _)).mono ?_
      rintro e w17 ⟨⟨lv15, rfl, ho⟩, hb⟩
      have HLV := Lib.hid (own_ints ho)
      replace HX := Lib.hid ((hb.block _ (lt_of_block HX.out)).trans HX.out)
      replace HB := Lib.hid (below_to HB.out hb)
      replace HM := Lib.hid ((HM.out.same (.below (Nat.le_refl _) hb)).up hb.size)
      replace HSV := Lib.hid ((HSV.out.same (.below (Nat.le_refl _) hb)).up hb.size)
      replace HQ := Lib.hid ((HQ.out.same (.below (Nat.le_refl _) hb)).up hb.size)
      clear hb ho
      go_wp2_with fail
      refine ((HSP.out _ q15 _ (chosenL z R.labs.length) w17 (by omega) HQ.out HLV.out (Nat.le_refl _))).mono ?_
      rintro e w18 ⟨⟨ta, tc, tk, rfl, hyes, -⟩, hb⟩
      obtain ⟨hk, ho⟩ := hyes HFB.out.2.1
      subst hk
      rw [HFB.out.2.1]
      have HTV := Lib.hid (own_rgs (l := spansL R (offF (chosenL z R.labs.length))) (by rw [show (spansL R (offF (chosenL z R.labs.length))).length = R.smp.length by simp [spansL]]; exact ownsRow_mono (Nat.zero_le _) ho))
      clear hyes ho
      replace HX := Lib.hid ((hb.block _ (lt_of_block HX.out)).trans HX.out)
      replace HB := Lib.hid (below_to HB.out hb)
      replace HM := Lib.hid ((HM.out.same (.below (Nat.le_refl _) hb)).up hb.size)
      replace HSV := Lib.hid ((HSV.out.same (.below (Nat.le_refl _) hb)).up hb.size)
      clear hb HQ HLV
      have a0 := cell_of_row w18 w.heap.size 0 _ _ _ HX.out
      have a1 := cell_of_row w18 w.heap.size 1 _ _ _ HX.out
      have a2 := cell_of_row w18 w.heap.size 2 _ _ _ HX.out
      have a3 := cell_of_row w18 w.heap.size 3 _ _ _ HX.out
      simp only [List.getElem?_toArray, List.getElem?_cons_zero, List.getElem?_cons_succ] at a0 a1 a2 a3
      have la := lt_of_block HX.out
      go_wp2
      go_loopw [19] (fun i wr => ∃ q : Nat, q ≤ R.smp.length ∧ i = .int .i64 q ∧ Hid (Below w18.heap.size w18 wr)) (fun i _ => R.smp.length - (intOf i).toNat)
      case atStart => exact ⟨0, Nat.zero_le _, rfl, Lib.hid (Below.refl _ _)⟩
      case round =>
        clear a0 a1 a2 a3 la
        obtain ⟨q, hq, rfl, HBL⟩ := hrel
        by_cases hlt : q < R.smp.length
        · have hqn : (q : Int) < R.smp.length := by omega
          have h8 := HR.out.s8
          have hwk : IntKind.i64.wrap ((q : Int) + 1) = (q : Int) + 1 := IntWalk.i64_in _ (by omega)
          obtain ⟨f1, f2, f3⟩ := HFB.out.2.2 q hlt
          have hle1 : (spansL R (offF (chosenL x R.labs.length))).length = R.smp.length := by simp [spansL]
          have hle2 : (spansL R (offF (chosenL z R.labs.length))).length = R.smp.length := by simp [spansL]
          have g1 := HSV.out
          have g2 := HTV.out
          obtain ⟨_, _, e1, g1⟩ := g1
          rw [hle1] at e1 g1
          cases e1
          obtain ⟨_, _, e2, g2⟩ := g2
          rw [hle2] at e2 g2
          cases e2
          obtain ⟨sb, so, rfl, hsb, g1⟩ := g1 (by omega)
          obtain ⟨tb, to, rfl, htb, g2⟩ := g2 (by omega)
          obtain ⟨g1a, g1b⟩ := g1 q hlt
          obtain ⟨g2a, g2b⟩ := g2 q hlt
          have p1 := (HBL.out.cell (p := ⟨sb, so + q * 2, none⟩) hsb).trans g1a
          have p2 := (HBL.out.cell (p := ⟨sb, so + q * 2 + 1, none⟩) hsb).trans g1b
          have p3 := (HBL.out.cell (p := ⟨tb, to + q * 2, none⟩) htb).trans g2a
          have p4 := (HBL.out.cell (p := ⟨tb, to + q * 2 + 1, none⟩) htb).trans g2b
          generalize (rg (spansL R (offF (chosenL x R.labs.length))) q).lo = slo at *
          generalize (rg (spansL R (offF (chosenL x R.labs.length))) q).hi = shi at *
          generalize (rg (spansL R (offF (chosenL z R.labs.length))) q).lo = tlo at *
          generalize (rg (spansL R (offF (chosenL z R.labs.length))) q).hi = thi at *
          have d1 : decide (slo < tlo) = false := decide_eq_false (by omega)
          have d2 : decide (thi < shi) = false := decide_eq_false (by omega)
          have d3 : decide (shi < slo) = false := decide_eq_false (by omega)
          have c1 := cell_regrown p1
          have c2 := cell_regrown p2
          have c3 := cell_regrown p3
          have c4 := cell_regrown p4
          clear p1 p2 p3 p4 g1 g2 g1a g1b g2a g2b f1 f2 f3 hle1 hle2 h8 hsb htb
          go_wp2_with fail
          refine wp_region_quiet_below (by kernel_rfl) (by kernel_rfl) ?_
          repeat (quiet_step (first | fail))
          refine wpQuiet_nil ?_
          intro _ hw'
          obtain ⟨⟨dq, osq⟩, hw''⟩ := hw'
          subst hw''
          have hbr := Lib.hid (below_to HBL.out (below_regrown wr dq osq))
          clear c1 c2 c3 c4 HBL
          go_wp2
          go_roundw
          case rel => exact ⟨q + 1, by omega, by simp, hbr⟩
          case measure => simp [intOf]; omega
        · obtain rfl : q = R.smp.length := by omega
          go_wp2_with fail
          refine (HWK.out _).mono ?_
          rintro e w19 ⟨rfl, hb⟩
          have HB2 := Lib.hid (below_to (below_to HB.out HBL.out) hb)
          clear hb
          go_wp2
          go_ret
          exact ⟨rfl, HB2.out⟩
end Go.Proofs.Ytpdkgnfblnblbaa
