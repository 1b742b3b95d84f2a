/- The shifts of a laboratory, by spans: contract. Condition: the round is valid, there is such a laboratory. -/
import Derived.Test.YtpdkgnfblnblbaaAL
import Derived.Test.YtpdkgnfblnblbaaM
namespace Go.Proofs.Ytpdkgnfblnblbaa
open Go.RowKit Go.Shelf
attribute [local irreducible] arrV wpQuiet
attribute [local go_sem] Oper.semAt_some
def nob : Nat → Bool := fun _ => false
/-- The shifts of a laboratory by itself, by the spans of so many samples. -/
def shF (R : Rd) (k : Nat) (sps : List Rg) (q : Nat) : Rg := (List.range q).foldl (fun cur s => (readsR (aloneR R k) nob s).foldl (fun c r => ands c (lessR r (rg sps s))) cur) ⟨-2000, 2000⟩
theorem shF_succ (R : Rd) (k : Nat) (sps : List Rg) (q : Nat) : shF R k sps (q + 1) = (readsR (aloneR R k) nob q).foldl (fun c r => ands c (lessR r (rg sps q))) (shF R k sps q) := by simp [shF, List.range_succ]
def shB (R : Rd) (k : Nat) (sps : List Rg) : Bool := explB (aloneR R k) nob && okG (shF R k sps R.smp.length)
theorem reads_bd {R : Rd} (hR : RdOk R) {off : Nat → Bool} {s : Nat} (hs : s < R.smp.length) {x : Rg} (hx : x ∈ readsR R off s) : -100 ≤ x.lo ∧ x.lo ≤ 1100 ∧ -100 ≤ x.hi ∧ x.hi ≤ 1100 := by
  unfold readsR at hx
  rw [List.mem_filterMap] at hx
  obtain ⟨k, hk, he⟩ := hx
  have hkl : k < R.labs.length := by simpa using hk
  unfold rd1 at he
  split at he
  · cases he
  · cases he
    have h1 := hR.tol _ (lb_mem hkl)
    have h2 := hR.rs _ (lb_mem hkl) _ (ld_mem (i := s) (by rw [hR.len _ (lb_mem hkl)]; exact hs))
    simp only [wid]
    omega

set_option maxRecDepth 100000 in
set_option maxHeartbeats 4000000 in
theorem shifts_any (n : Nat) (p : Rp) (R : Rd) (k : Nat) (v : Value) (sps : List Rg) (w : World) (hR : RdOk R) (hk : k < R.labs.length) (hcap : R.labs.length ≤ p.bc) (hV : RdV n w p R) (hS : RgsV n w v sps) (hlen : sps.length = R.smp.length) (hbd : ∀ r ∈ sps, -100 ≤ r.lo ∧ r.lo ≤ 1100 ∧ -100 ≤ r.hi ∧ r.hi ≤ 1100) (hn : n ≤ w.heap.size) :
    Calls Try.prog 54 #[rdV p R, .int .i64 k, v] w fun e w' => e = .returned (.tuple #[.agg #[.int .i64 (shF R k sps R.smp.length).lo, .int .i64 (shF R k sps R.smp.length).hi], .bool (shB R k sps)]) ∧ Below w.heap.size w w' := by
  have HAL := Lib.hid fun w' (h : Below w.heap.size w w') => alone_any n p R k w' hR hk hcap (hV.same (.below hn h)) (Nat.le_trans hn h.size)
  obtain ⟨pla, plc, psa, psc, pba, pbc⟩ := p
  obtain ⟨va, vc, rfl, hsp⟩ := hS
  rw [hlen] at hsp
  have HSP := Lib.hid hsp
  have HES := Lib.hid everyShift_any
  have HAOK := Lib.hid (alone_ok hR hk)
  have HX := Lib.hid (box2 w (.cells #[.slice pla R.lots.length plc, .slice psa R.smp.length psc, .int .i64 R.sp, .slice pba R.labs.length pbc] 34) (.cells #[.int .i64 0, .int .i64 0] 46))
  have HB := Lib.hid (below2 w (.cells #[.slice pla R.lots.length plc, .slice psa R.smp.length psc, .int .i64 R.sp, .slice pba R.labs.length pbc] 34) (.cells #[.int .i64 0, .int .i64 0] 46))
  have HBD := Lib.hid fun s (hs : s < R.smp.length) => hbd _ (rg_mem (by rw [hlen]; exact hs))
  have HS8 := Lib.hid hR.s8
  have HLL : Hid ((aloneR R k).lots.length = R.lots.length) := Lib.hid (by simp [aloneR])
  have HN := Lib.hid hn
  rw [hlen]
  clear hV hR hbd hsp hn hcap hlen
  unfold rdV at *
  refine (callsIn_wide (n := 0)).1 ?_
  refine callsIn_of_wp_marks Try.func54 rfl trivial ?_ rfl
  simp only [Try.ntmps54, List.size_toArray, List.length_cons, List.length_nil, Nat.reduceAdd, Nat.reduceSub, Array.replicate_succ, Array.replicate_zero, List.push_toArray, List.append_toArray, List.nil_append, List.cons_append]
  gi_wp2_with fail
  generalize World.alloc (World.alloc w _) _ = W at *
  refine ⟨trivial, rfl, ?_⟩
  refine (callsIn_wide.2 (HAL.out W HB.out)).mono ?_
  rintro e W1 ⟨⟨⟨qla, qlc, qsa, qsc, qba, qbc⟩, rfl, hrv⟩, hb⟩
  have hw1 := lt_of_block HX.out.2
  have HX1 := Lib.hid ((hb.block _ (lt_of_block HX.out.2)).trans HX.out.2)
  replace HB := Lib.hid (below_to HB.out hb)
  have HRV := Lib.hid hrv
  have hs1 := hb.size
  clear hb hrv HAL HX
  simp only
  gi_wp2_with fail
  have hxa := heap_alloc_new W1 (.cells #[.slice qla R.lots.length qlc, .slice qsa R.smp.length qsc, .int .i64 R.sp, .slice qba 1 qbc, .bool false, .bool false, .bool false, .bool false, .bool false, .bool false] 83)
  have hba := box_below W1 (.cells #[.slice qla R.lots.length qlc, .slice qsa R.smp.length qsc, .int .i64 R.sp, .slice qba 1 qbc, .bool false, .bool false, .bool false, .bool false, .bool false, .bool false] 83)
  have hsza : (W1.alloc (.cells #[.slice qla R.lots.length qlc, .slice qsa R.smp.length qsc, .int .i64 R.sp, .slice qba 1 qbc, .bool false, .bool false, .bool false, .bool false, .bool false, .bool false] 83)).heap.size = W1.heap.size + 1 := by simp
  generalize World.alloc W1 _ = W2 at *
  refine ⟨trivial, rfl, ?_⟩
  refine (callsIn_wide.2 (HES.out W2)).mono ?_
  rintro e W3 ⟨rfl, hb⟩
  have H8 := Lib.hid ((hb.block _ (lt_of_block hxa)).trans hxa)
  have hb13 := below_to hba hb
  replace HX1 := Lib.hid ((hb13.block _ (lt_of_block HX1.out)).trans HX1.out)
  replace HRV := Lib.hid (HRV.out.same (.below (Nat.le_refl _) hb13))
  replace HB := Lib.hid (below_to HB.out hb13)
  obtain ⟨m0, hm0⟩ : ∃ m0, m0 = W1.heap.size := ⟨_, rfl⟩
  rw [← hm0] at H8 HRV ⊢
  have hm3 : m0 + 1 ≤ W3.heap.size := by have := hb.size; omega
  have hwm : w.heap.size + 1 < m0 := by omega
  clear hxa hba hsza hb hb13 hm0 hw1 hs1 HES
  gi_wp2_with fail
  have hx9 := heap_alloc_new W3 (.cells #[.int .i64 (-2000), .int .i64 2000] 46)
  have hb9 := box_below W3 (.cells #[.int .i64 (-2000), .int .i64 2000] 46)
  have hz9 : (W3.alloc (.cells #[.int .i64 (-2000), .int .i64 2000] 46)).heap.size = W3.heap.size + 1 := by simp
  generalize World.alloc W3 _ = W4 at *
  obtain ⟨b9, hbb⟩ : ∃ b9, b9 = W3.heap.size := ⟨_, rfl⟩
  rw [← hbb] at hx9 ⊢
  have H9 : Hid (W4.heap[b9]? = some (.cells #[.int .i64 (shF R k sps 0).lo, .int .i64 (shF R k sps 0).hi] 46 (0, 0))) := Lib.hid hx9
  replace H8 := Lib.hid ((hb9.block _ (lt_of_block H8.out)).trans H8.out)
  replace HX1 := Lib.hid ((hb9.block _ (lt_of_block HX1.out)).trans HX1.out)
  replace HRV := Lib.hid (HRV.out.same (.below (show m0 ≤ W3.heap.size by omega) hb9))
  replace HB := Lib.hid (below_to HB.out hb9)
  obtain ⟨b8, hb8⟩ : ∃ b8, b8 = m0 := ⟨_, rfl⟩
  rw [← hb8] at H8 ⊢
  obtain ⟨n0, hn0⟩ : ∃ n0, n0 = b9 + 1 := ⟨_, rfl⟩
  have h89 : b8 < b9 := by omega
  have hn4 : n0 ≤ W4.heap.size := by omega
  have hm08 : m0 ≤ b8 := by omega
  have HNN : Hid (n0 ≤ W4.heap.size) := Lib.hid hn4
  have hn09 : b9 < n0 := by omega
  clear hx9 hb9 hz9 hbb hb8 hn0 hm3
  refine wpIn_loop (fun a' wr => ∃ (u10 u11 u12 u13 u14 u15 u16 u17 u18 u22 u23 u24 u25 u26 u27 u28 u29 u30 u31 u32 u33 u34 u35 : Value) (q : Nat) (ds : List Deferred), q ≤ R.smp.length ∧ Hid (wr.heap[b8]? = some (.cells #[.slice qla R.lots.length qlc, .slice qsa R.smp.length qsc, .int .i64 R.sp, .slice qba 1 qbc, .bool false, .bool false, .bool false, .bool false, .bool false, .bool false] 83 (0, 0))) ∧ Hid (wr.heap[b9]? = some (.cells #[.int .i64 (shF R k sps q).lo, .int .i64 (shF R k sps q).hi] 46 (0, 0))) ∧ Hid (wr.heap[w.heap.size + 1]? = some (.cells #[.int .i64 0, .int .i64 0] 46 (0, 0))) ∧ Hid (RdV m0 wr ⟨qla, qlc, qsa, qsc, qba, qbc⟩ (aloneR R k)) ∧ Hid (Below w.heap.size w wr) ∧ Hid (MarksOk n0 wr.heap.size ds wr) ∧ Hid (n0 ≤ wr.heap.size) ∧ a' = { tmps := #[.agg #[.slice pla R.lots.length plc, .slice psa R.smp.length psc, .int .i64 R.sp, .slice pba R.labs.length pbc], .int .i64 k, .slice va R.smp.length vc, .pointer (some ⟨w.heap.size, 0, none⟩), undef, undef, .pointer (some ⟨w.heap.size + 1, 0, none⟩), .bool false, .pointer (some ⟨b8, 0, none⟩), .pointer (some ⟨b9, 0, none⟩), u10, u11, u12, u13, u14, u15, u16, u17, u18, .slice va R.smp.length vc, .int .i64 R.smp.length, .int .i64 q, u22, u23, u24, u25, u26, u27, u28, u29, u30, u31, u32, u33, u34, u35, undef, undef, undef, undef, undef, undef, undef, undef, undef, undef, undef], defers := ds }) (fun a' _ => R.smp.length - (intOf (a'.tmps.getD 21 undef)).toNat) ?start ?round
  case start => exact ⟨_, _, _, _, _, _, _, _, _, _, _, _, _, _, _, _, _, _, _, _, _, _, _, 0, [], Nat.zero_le _, H8, H9, HX1, HRV, HB, Lib.hid trivial, HNN, rfl⟩
  case round =>
    clear H8 H9 HX1 HRV HB HNN hn4
    rintro _ wr ⟨u10, u11, u12, u13, u14, u15, u16, u17, u18, u22, u23, u24, u25, u26, u27, u28, u29, u30, u31, u32, u33, u34, u35, q, ds, hq, H8, H9, HX1, HRV, HB, HMK, HNN, rfl⟩
    have l8 := lt_of_block H8.out
    have c0 := cell_of_row wr b8 0 _ _ _ H8.out
    have c1 := cell_of_row wr b8 1 _ _ _ H8.out
    have c2 := cell_of_row wr b8 2 _ _ _ H8.out
    have c3 := cell_of_row wr b8 3 _ _ _ H8.out
    have c4 := cell_of_row wr b8 4 _ _ _ H8.out
    have c5 := cell_of_row wr b8 5 _ _ _ H8.out
    have c6 := cell_of_row wr b8 6 _ _ _ H8.out
    have c7 := cell_of_row wr b8 7 _ _ _ H8.out
    have c8 := cell_of_row wr b8 8 _ _ _ H8.out
    have c9 := cell_of_row wr b8 9 _ _ _ H8.out
    simp only [List.getElem?_toArray, List.getElem?_cons_zero, List.getElem?_cons_succ] at c0 c1 c2 c3 c4 c5 c6 c7 c8 c9
    by_cases hlt : q < R.smp.length
    · have hqn : (q : Int) < R.smp.length := by omega
      have hwk : IntKind.i64.wrap ((q : Int) + 1) = (q : Int) + 1 := IntWalk.i64_in _ (by have := HS8.out; omega)
      obtain ⟨vb, vo, rfl, hvbn, hvc⟩ := HSP.out (by omega)
      have hnw := HN.out
      have hvb : vb < w.heap.size := by omega
      have p1 := (HB.out.cell (p := ⟨vb, vo + q * 2, none⟩) hvb).trans (hvc q hlt).1
      have p2 := (HB.out.cell (p := ⟨vb, vo + q * 2 + 1, none⟩) hvb).trans (hvc q hlt).2
      have lvb : vb < wr.heap.size := Nat.lt_of_lt_of_le hvb HB.out.size
      have HSB := Lib.hid (HBD.out q hlt)
      have HSTEP := Lib.hid (shF_succ R k sps q)
      have HRD := Lib.hid fun w' (h : RdV m0 w' ⟨qla, qlc, qsa, qsc, qba, qbc⟩ (aloneR R k)) (hm : m0 ≤ w'.heap.size) => readings_any m0 ⟨qla, qlc, qsa, qsc, qba, qbc⟩ (aloneR R k) nob q w' HAOK.out hlt h.labs hm
      have HRB := Lib.hid fun x (hx : x ∈ readsR (aloneR R k) nob q) => reads_bd HAOK.out (show q < (aloneR R k).smp.length from hlt) hx
      clear hvc hvbn
      obtain ⟨sx, hsx⟩ : ∃ sx, sx = rg sps q := ⟨_, rfl⟩
      rw [← hsx] at p1 p2 HSB HSTEP
      clear hsx
      gi_wp2_with fail
      have hx11 := heap_alloc_new wr (.cells #[.int .i64 sx.lo, .int .i64 sx.hi] 46)
      have hb11 := box_below wr (.cells #[.int .i64 sx.lo, .int .i64 sx.hi] 46)
      have hz11 : (wr.alloc (.cells #[.int .i64 sx.lo, .int .i64 sx.hi] 46)).heap.size = wr.heap.size + 1 := by simp
      have hm0r : m0 ≤ wr.heap.size := by omega
      generalize World.alloc wr _ = v5 at *
      refine ⟨trivial, rfl, ?_⟩
      have hrd := HRD.out v5 (HRV.out.same (.below hm0r hb11)) (by omega)
      rw [HLL.out] at hrd
      replace hrd : Calls Try.prog 74 #[.agg #[.slice qla R.lots.length qlc, .slice qsa R.smp.length qsc, .int .i64 R.sp, .slice qba 1 qbc, .bool false, .bool false, .bool false, .bool false, .bool false, .bool false], .int .i64 q] v5 _ := hrd
      refine (callsIn_wide.2 hrd).mono ?_
      rintro e w1 ⟨Bt, Bs, rfl, hb, hm1, hm2, hm3, hm4, hseq⟩
      have hbs := hb.size
      have hb15 := below_to hb11 hb
      have H11 := Lib.hid ((hb.block _ (lt_of_block hx11)).trans hx11)
      replace H8 := Lib.hid ((hb15.block _ (lt_of_block H8.out)).trans H8.out)
      replace H9 := Lib.hid ((hb15.block _ (lt_of_block H9.out)).trans H9.out)
      replace HX1 := Lib.hid ((hb15.block _ (lt_of_block HX1.out)).trans HX1.out)
      replace HRV := Lib.hid (HRV.out.same (.below hm0r hb15))
      replace HB := Lib.hid (below_to HB.out hb15)
      replace HMK := Lib.hid ((HMK.out.same fun k _ hk2 => hb15.block k hk2).up hb15.size)
      have hnr := HNN.out
      replace HNN := Lib.hid (Nat.le_trans HNN.out hb15.size)
      have HSEQ := Lib.hid hseq
      obtain ⟨b11, h11⟩ : ∃ b, b = wr.heap.size := ⟨_, rfl⟩
      rw [← h11] at H11 ⊢
      have hb11l : b11 < v5.heap.size := by omega
      have hb11n : n0 ≤ b11 := by omega
      clear hx11 hb11 hb15 hb hseq hrd h11 p1 p2 c0 c1 c2 c3 c4 c5 c6 c7 c8 c9 l8 lvb
      gi_wp2
      refine wp_rangeD rfl (fun _ _ => rfl) HSEQ.out (Below.refl _ w1) (fun _ => rfl) (fun k => k = b9) ?t0 ?hc
        (fun T pre A => T b9 ∧ A.heap[b9]? = some (.cells #[.int .i64 (pre.foldl (fun c r => ands c (lessR r sx)) (shF R k sps q)).lo, .int .i64 (pre.foldl (fun c r => ands c (lessR r sx)) (shF R k sps q)).hi] 46 (0, 0)))
        (fun _ _ _ _ => False)
        ?ir (fun _ _ _ _ _ h _ => h.elim) ⟨rfl, H9.out⟩
        (fun x a' A => ∃ Bx, w1.heap.size + 2 ≤ Bx ∧ A.heap[Bx]? = some (.cells #[.int .i64 x.lo, .int .i64 x.hi] 46 (0, 0)) ∧ a' = { tmps := #[.agg #[.slice pla R.lots.length plc, .slice psa R.smp.length psc, .int .i64 R.sp, .slice pba R.labs.length pbc], .int .i64 k, .slice (some ⟨vb, vo, none⟩) R.smp.length vc, .pointer (some ⟨w.heap.size, 0, none⟩), undef, undef, .pointer (some ⟨w.heap.size + 1, 0, none⟩), .bool false, .pointer (some ⟨b8, 0, none⟩), .pointer (some ⟨b9, 0, none⟩), .int .i64 q, .pointer (some ⟨b11, 0, none⟩), .pointer (some ⟨Bx, 0, none⟩), u13, u14, u15, u16, u17, u18, .slice (some ⟨vb, vo, none⟩) R.smp.length vc, .int .i64 R.smp.length, .int .i64 q, .bool true, .int .i64 q, .pointer (some ⟨vb, vo + q * 2, none⟩), .agg #[.int .i64 sx.lo, .int .i64 sx.hi], .agg #[.slice qla R.lots.length qlc, .slice qsa R.smp.length qsc, .int .i64 R.sp, .slice qba 1 qbc, .bool false, .bool false, .bool false, .bool false, .bool false, .bool false], .int .i64 q, .func (.func 89) #[] #[.pointer (some ⟨Bt, 0, none⟩), .pointer (some ⟨Bs, 0, none⟩)], rgV x, u30, u31, u32, u33, u34, u35, undef, undef, undef, undef, undef, undef, undef, undef, undef, undef, undef], defers := [] })
        ?ax ?assign ?body ?done (fun _ _ _ _ _ h _ _ _ _ _ => h.elim)
      case t0 =>
        rintro k rfl
        exact ⟨by omega, by rintro (h | h | h) <;> omega⟩
      case hc => exact fun k hk => by rcases hk with h | h | h <;> omega
      case ir => exact fun T s A B ⟨h1, h2⟩ hR => ⟨h1, (hR.2 _ h1).trans h2⟩
      case ax =>
        rintro x a' A o ⟨Bx, h1, h2, h3⟩
        exact ⟨Bx, h1, (World.putObj_heap_other (by omega)).trans h2, h3⟩
      case assign =>
        rintro l2 x A hb hA
        have hact : (#[29].zip (encR x)) = #[(29, rgV x)] := by simp [encR]
        rw [hact]
        simp only [List.foldl_toArray, Array.foldl_toList, List.foldl_cons, List.foldl_nil, List.setIfInBounds_toArray, List.set_cons_succ, List.set_cons_zero]
        unfold rgV
        gi_wp2
        exact ⟨⟨A.heap.size, by omega, heap_alloc_new _ _, rfl⟩, box_below _ _⟩
      case body =>
        rintro l2 T pre x a' A hb1 hSp ⟨hT, hx⟩ hOf hb hs2 ⟨Bx, hBx, hbx, rfl⟩
        have hxm : x ∈ readsR (aloneR R k) nob q := by
          obtain ⟨t, ht⟩ := hSp
          rw [← ht]
          simp
        have hxb := HRB.out x hxm
        have hsb := HSB.out
        have h11A := (hb.block b11 (by omega) (fun h => by rcases h with h | h | h <;> omega)).trans H11.out
        have HFS : Hid ((pre ++ [x]).foldl (fun c r => ands c (lessR r sx)) (shF R k sps q) = ands (pre.foldl (fun c r => ands c (lessR r sx)) (shF R k sps q)) (lessR x sx)) := Lib.hid (by simp)
        generalize pre.foldl (fun c r => ands c (lessR r sx)) (shF R k sps q) = f0 at *
        obtain ⟨f1, hf1⟩ : ∃ f1, (pre ++ [x]).foldl (fun c r => ands c (lessR r sx)) (shF R k sps q) = f1 := ⟨_, rfl⟩
        rw [hf1] at HFS
        have HF1 := Lib.hid hf1
        have HLE := Lib.hid fun w => less_any x.lo x.hi sx.lo sx.hi w (IntWalk.i64_in _ (by omega)) (IntWalk.i64_in _ (by omega))
        have hcm := common_any f0 (lessR x sx)
        rw [← HFS.out] at hcm
        rw [show (lessR x sx) = ⟨x.lo - sx.hi, x.hi - sx.lo⟩ from rfl] at hcm
        simp only at hcm
        have HCM := Lib.hid hcm
        have HC : Hid (∀ w', Below A.heap.size A w' → w'.cell? ⟨b9, 0, none⟩ = some (.int .i64 f0.lo) ∧ w'.cell? ⟨b9, 1, none⟩ = some (.int .i64 f0.hi) ∧ w'.cell? ⟨Bx, 0, none⟩ = some (.int .i64 x.lo) ∧ w'.cell? ⟨Bx, 1, none⟩ = some (.int .i64 x.hi) ∧ w'.cell? ⟨b11, 0, none⟩ = some (.int .i64 sx.lo) ∧ w'.cell? ⟨b11, 1, none⟩ = some (.int .i64 sx.hi) ∧ b9 < w'.heap.size ∧ Bx < w'.heap.size ∧ b11 < w'.heap.size) := Lib.hid fun w' hS => by
          have y9 := (hS.block _ (lt_of_block hx)).trans hx
          have yx := (hS.block _ (lt_of_block hbx)).trans hbx
          have y11 := (hS.block _ (lt_of_block h11A)).trans h11A
          exact ⟨cell_of_row w' _ 0 _ _ _ y9, cell_of_row w' _ 1 _ _ _ y9, cell_of_row w' _ 0 _ _ _ yx, cell_of_row w' _ 1 _ _ _ yx, cell_of_row w' _ 0 _ _ _ y11, cell_of_row w' _ 1 _ _ _ y11, lt_of_block y9, lt_of_block yx, lt_of_block y11⟩
        have HXX := Lib.hid hx
        clear hxm hxb hsb h11A hf1 hcm hx hbx
        unfold rgV
        gi_wp2_with fail
        refine wpIn_region_walkT (fun w' => Below A.heap.size A w') 5 [(0, 0), (0, 1), (0, 2), (1, 3), (1, 4)] (fun ⟨_, _, h⟩ => False.elim h) (below_drawn _) (by decide +kernel) (fun _ _ _ _ _ h => False.elim h) (by decide +kernel) ?_
        iterate 3
          (refine WalkT.takes rfl rfl ?_; apply Exists.intro; refine ⟨fun w' hS => ?_, ?_⟩; (obtain ⟨z0, z1, z2, z3, z4, z5, z6, z7, z8⟩ := HC.out w' hS; clear hS; go_simp; with_reducible rfl); simp only [List.getElem_toArray, List.getElem_cons_succ, List.getElem_cons_zero, Act.put, List.setIfInBounds_toArray, List.set_cons_zero, List.set_cons_succ])
        refine WalkT.calls rfl rfl ?_; apply Exists.intro; apply Exists.intro; refine ⟨(by go_simp; exact ⟨rfl, rfl⟩), ?_⟩
        refine (HLE.out _).mono ?_
        rintro e A2 ⟨rfl, hb2⟩
        have hS2 : Below A.heap.size A A2 := grow_to (below_drawn A) hb2
        refine ⟨_, rfl, hS2, ?_⟩
        simp only [List.getElem_toArray, List.getElem_cons_succ, List.getElem_cons_zero, Act.put, List.setIfInBounds_toArray, List.set_cons_zero, List.set_cons_succ]
        refine WalkT.calls rfl rfl ?_; apply Exists.intro; apply Exists.intro; refine ⟨(by go_simp; exact ⟨rfl, rfl⟩), ?_⟩
        refine (HCM.out _).mono ?_
        rintro e A3 ⟨rfl, hb3⟩
        have hS3 := grow_to hS2 hb3
        refine ⟨_, rfl, hS3, ?_⟩
        simp only [List.getElem_toArray, List.getElem_cons_succ, List.getElem_cons_zero, Act.put, List.setIfInBounds_toArray, List.set_cons_zero, List.set_cons_succ]
        refine WalkT.fin ?_
        simp only [List.drop_succ_cons, List.drop_zero]
        refine wpList_store46 rfl (.tmp 9) (.tmp 34) rfl b9 rfl _ _ f1.lo f1.hi rfl ((hS3.block _ (lt_of_block HXX.out)).trans HXX.out) ?_
        intro A4 hp4 hx4
        have HX4 := Lib.hid hx4
        have HBT4 : Hid (But T A A4) := Lib.hid (hp4.but (But.of_below hS3) (.inl hT))
        clear hb2 hb3 hS2 hS3 hp4 hx4 HC
        simp only [wpList]
        gi_wp2_with fail
        exact ⟨HBT4.out, .inl hT, by rw [HF1.out]; exact HX4.out⟩
      case done =>
        rintro T ys A rfl ⟨hT, hx⟩ hOf hb mm0 mm1 hKd
        rw [← HSTEP.out] at hx
        have hfar : ∀ k, k < w1.heap.size → k ≠ b9 → A.heap[k]? = w1.heap[k]? := fun k hk hne => hb.block k hk (fun h => by rcases h with h | h | h <;> omega)
        have H8A := Lib.hid ((hfar b8 (lt_of_block H8.out) (by omega)).trans H8.out)
        have H9A := Lib.hid hx
        have HX1A := Lib.hid ((hfar _ (lt_of_block HX1.out) (by omega)).trans HX1.out)
        have HRVA := Lib.hid (HRV.out.same fun k hk => hfar k (by omega) (by omega))
        have HBA : Hid (Below w.heap.size w A) := Lib.hid ⟨hb.os.trans HB.out.os, hb.tape.trans HB.out.tape, hb.output.trans HB.out.output, Nat.le_trans HB.out.size hb.size, fun k hk => (hfar k (by have := HB.out.size; omega) (by omega)).trans (HB.out.block k hk)⟩
        have hw1A : w1.heap.size < A.heap.size := lt_of_block hKd
        have HMK2 : Hid (MarksOk n0 A.heap.size ({ target := .collected w1.heap.size, args := #[] } :: ds) A) := Lib.hid ⟨w1.heap.size, rfl, HNN.out, hw1A, hKd, HMK.out.same fun k hk hk2 => hfar k hk2 (by omega)⟩
        have HNNA : Hid (n0 ≤ A.heap.size) := Lib.hid (by have := HNN.out; omega)
        clear hx hOf hb mm0 mm1 hKd hfar H8 H9 HX1 HRV HB HMK HNN H11
        gi_wp2_with fail
        exact ⟨⟨_, _, _, _, _, _, _, _, _, _, _, _, _, _, _, _, _, _, _, _, _, _, _, q + 1, _, by omega, H8A, H9A, HX1A, HRVA, HBA, HMK2, HNNA, rfl⟩, by simp [intOf]; omega⟩
    · obtain rfl : q = R.smp.length := by omega
      have hsp := spans_any m0 ⟨qla, qlc, qsa, qsc, qba, qbc⟩ (aloneR R k) nob wr HAOK.out HRV.out (by omega)
      rw [HLL.out] at hsp
      replace hsp : Calls Try.prog 46 #[.agg #[.slice qla R.lots.length qlc, .slice qsa R.smp.length qsc, .int .i64 R.sp, .slice qba 1 qbc, .bool false, .bool false, .bool false, .bool false, .bool false, .bool false]] wr _ := hsp
      gi_wp2_with fail
      refine ⟨trivial, rfl, ?_⟩
      refine (callsIn_wide.2 hsp).mono ?_
      rintro e wa ⟨⟨sa, sc, sk, rfl, -, -⟩, hb⟩
      replace H9 := Lib.hid ((hb.block _ (lt_of_block H9.out)).trans H9.out)
      replace HX1 := Lib.hid ((hb.block _ (lt_of_block HX1.out)).trans HX1.out)
      replace HMK := Lib.hid ((HMK.out.same fun k _ hk2 => hb.block k hk2).up hb.size)
      replace HB := Lib.hid (below_to HB.out hb)
      have HSB2 : Hid (shB R k sps = (explB (aloneR R k) nob && okG (shF R k sps R.smp.length))) := Lib.hid rfl
      clear hb hsp H8 HRV c0 c1 c2 c3 c4 c5 c6 c7 c8 c9 l8
      obtain ⟨sh, hsh⟩ : ∃ sh, sh = shF R k sps R.smp.length := ⟨_, rfl⟩
      rw [← hsh] at H9 HSB2
      have HSH := Lib.hid hsh
      clear hsh
      obtain ⟨z, hz⟩ : ∃ z, explB (aloneR R k) nob = z := ⟨_, rfl⟩
      rw [hz] at HSB2 ⊢
      clear hz
      have HC : Hid (∀ w', But (fun k => k = w.heap.size + 1) wa w' → w'.cell? ⟨b9, 0, none⟩ = some (.int .i64 sh.lo) ∧ w'.cell? ⟨b9, 1, none⟩ = some (.int .i64 sh.hi) ∧ b9 < w'.heap.size) := Lib.hid fun w' hS => by
        have y9 := (hS.block _ (lt_of_block H9.out) (by omega)).trans H9.out
        exact ⟨cell_of_row w' _ 0 _ _ _ y9, cell_of_row w' _ 1 _ _ _ y9, lt_of_block y9⟩
      gi_wp2_with fail
      cases z with
      | true =>
        refine wpIn_wide.2 (wp_region_noPanic ?_)
        refine wp_region_walkT (fun w' => But (fun k => k = w.heap.size + 1) wa w') 7 [(0, 0), (0, 1), (0, 2), (0, 3), (1, 4), (0, 5), (2, 6)] (But.of_below (below_drawn _)) (by decide +kernel) (fun _ _ _ _ _ h => h) (by decide +kernel) ?_
        iterate 4
          (refine WalkT.takes rfl rfl ?_; apply Exists.intro; refine ⟨fun w' hS => ?_, ?_⟩; (obtain ⟨z0, z1, z2⟩ := HC.out w' hS; clear hS; go_simp; with_reducible rfl); simp only [List.getElem_toArray, List.getElem_cons_succ, List.getElem_cons_zero, Act.put, List.setIfInBounds_toArray, List.set_cons_zero, List.set_cons_succ])
        refine WalkT.calls rfl rfl ?_; apply Exists.intro; apply Exists.intro; refine ⟨(by go_simp; exact ⟨rfl, rfl⟩), ?_⟩
        refine (hasSome_any sh.lo sh.hi _).mono ?_
        rintro e A2 ⟨rfl, hb2⟩
        have hb2' := grow_to (below_drawn wa) hb2
        have hS2 : But (fun k => k = w.heap.size + 1) wa A2 := But.of_below hb2'
        refine ⟨_, rfl, hS2, ?_⟩
        simp only [List.getElem_toArray, List.getElem_cons_succ, List.getElem_cons_zero, Act.put, List.setIfInBounds_toArray, List.set_cons_zero, List.set_cons_succ]
        (refine WalkT.takes rfl rfl ?_; apply Exists.intro; refine ⟨fun w' hS => ?_, ?_⟩; (clear hS; go_simp; with_reducible rfl); simp only [List.getElem_toArray, List.getElem_cons_succ, List.getElem_cons_zero, Act.put, List.setIfInBounds_toArray, List.set_cons_zero, List.set_cons_succ])
        have hx2 := (hb2'.block _ (lt_of_block HX1.out)).trans HX1.out
        have hp3 := put_cells (w.heap.size + 1) 0 [.int .i64 sh.lo, .int .i64 sh.hi] A2
        have hx3 := set_pair46 (u' := .int .i64 sh.lo) (v' := .int .i64 sh.hi) hx2
        refine WalkT.stores rfl rfl (exec_store_row 46 (.tmp 6) (.tmp 41) rfl (w.heap.size + 1) 0 #[.int .i64 sh.lo, .int .i64 sh.hi] rfl rfl (there_block hx2 (by simp)) (by kernel_rfl) (by simp [Value.oneCell'])) (hp3.but hS2 (.inl rfl)) ?_
        simp only [List.getElem_toArray, List.getElem_cons_succ, List.getElem_cons_zero, Act.put, List.setIfInBounds_toArray, List.set_cons_zero, List.set_cons_succ]
        refine WalkT.fin ?_
        simp only [List.drop_succ_cons, List.drop_zero]
        have hsz3 := hp3.size
        refine wpList_is rfl (.bool (okG sh)) (by go_simp) ?_
        simp only [List.getElem_toArray, List.getElem_cons_succ, List.getElem_cons_zero, Act.put, List.setIfInBounds_toArray, List.set_cons_zero, List.set_cons_succ]
        simp only [wpList]
        refine NoPanic.normal ?_
        have HSH2 := HSH
        have HMK3 : Hid (MarksOk n0 wa.heap.size ds (A2.setCells (w.heap.size + 1) 0 [.int .i64 sh.lo, .int .i64 sh.hi])) := Lib.hid ((HMK.out.same fun k hk hk2 => hb2'.block k hk2).tag fun k d hk => (hp3.but (But.refl (fun k => k = w.heap.size + 1) A2) (.inl rfl)).block k (lt_of_block hk) (fun e => by rw [e, hx2] at hk; cases hk))
        have HZ3 := Lib.hid hx3
        have HBA3 : Hid (Below w.heap.size w (A2.setCells (w.heap.size + 1) 0 [.int .i64 sh.lo, .int .i64 sh.hi])) := Lib.hid (((But.of_below HB.out).trans (hp3.but hS2 (.inl rfl))).below fun k hk ht => by omega)
        clear hx2 hx3 hb2' hS2 HC
        generalize A2.setCells (w.heap.size + 1) 0 [.int .i64 sh.lo, .int .i64 sh.hi] = A3 at *
        gi_wp2_with fail
        unfold bodyPostM
        dsimp only
        refine marks_end HMK3.out fun w' e1 e2 e4 e5 e6 e7 => ?_
        have hrow := (e7 (w.heap.size + 1) fun d hd => by rw [HZ3.out] at hd; cases hd).trans HZ3.out
        have r0 := cell_of_row w' _ 0 _ _ _ hrow
        have r1 := cell_of_row w' _ 1 _ _ _ hrow
        have HRW : Hid (Below w.heap.size w w') := Lib.hid ⟨e1.trans HBA3.out.os, e2.trans HBA3.out.tape, e4.trans HBA3.out.output, Nat.le_trans HBA3.out.size e5, fun k hk => (e6 k (by omega)).trans (HBA3.out.block k hk)⟩
        refine ⟨.tuple #[.agg #[.int .i64 sh.lo, .int .i64 sh.hi], .bool (okG sh)], by simp [results, Try.results54, go_sem, r0, r1], ?_, HRW.out⟩
        rw [HSB2.out, ← HSH.out]
        simp
      | false =>
        refine wpIn_wide.2 (wp_region_noPanic ?_)
        refine wp_region_walkT (fun w' => But (fun k => k = w.heap.size + 1) wa w') 7 [(0, 0), (0, 1), (0, 2), (0, 3), (0, 4), (0, 5), (2, 6)] (But.of_below (below_drawn _)) (by decide +kernel) (fun _ _ _ _ _ h => h) (by decide +kernel) ?_
        iterate 3
          (refine WalkT.takes rfl rfl ?_; apply Exists.intro; refine ⟨fun w' hS => ?_, ?_⟩; (obtain ⟨z0, z1, z2⟩ := HC.out w' hS; clear hS; go_simp; with_reducible rfl); simp only [List.getElem_toArray, List.getElem_cons_succ, List.getElem_cons_zero, Act.put, List.setIfInBounds_toArray, List.set_cons_zero, List.set_cons_succ])
        refine WalkT.nots rfl rfl ?_
        simp only [List.getElem_toArray, List.getElem_cons_succ, List.getElem_cons_zero, Act.put, List.setIfInBounds_toArray, List.set_cons_zero, List.set_cons_succ]
        refine WalkT.nots rfl rfl ?_
        simp only [List.getElem_toArray, List.getElem_cons_succ, List.getElem_cons_zero, Act.put, List.setIfInBounds_toArray, List.set_cons_zero, List.set_cons_succ]
        obtain ⟨A2, hA2⟩ : ∃ A2, A2 = { wa with drawn := wa.drawn + 1 } := ⟨_, rfl⟩
        have hb2' : Below wa.heap.size wa A2 := by rw [hA2]; exact below_drawn wa
        have hS2 : But (fun k => k = w.heap.size + 1) wa A2 := But.of_below hb2'
        rw [← hA2]
        (refine WalkT.takes rfl rfl ?_; apply Exists.intro; refine ⟨fun w' hS => ?_, ?_⟩; (clear hS; go_simp; with_reducible rfl); simp only [List.getElem_toArray, List.getElem_cons_succ, List.getElem_cons_zero, Act.put, List.setIfInBounds_toArray, List.set_cons_zero, List.set_cons_succ])
        have hx2 := (hb2'.block _ (lt_of_block HX1.out)).trans HX1.out
        have hp3 := put_cells (w.heap.size + 1) 0 [.int .i64 sh.lo, .int .i64 sh.hi] A2
        have hx3 := set_pair46 (u' := .int .i64 sh.lo) (v' := .int .i64 sh.hi) hx2
        refine WalkT.stores rfl rfl (exec_store_row 46 (.tmp 6) (.tmp 41) rfl (w.heap.size + 1) 0 #[.int .i64 sh.lo, .int .i64 sh.hi] rfl rfl (there_block hx2 (by simp)) (by kernel_rfl) (by simp [Value.oneCell'])) (hp3.but hS2 (.inl rfl)) ?_
        simp only [List.getElem_toArray, List.getElem_cons_succ, List.getElem_cons_zero, Act.put, List.setIfInBounds_toArray, List.set_cons_zero, List.set_cons_succ]
        refine WalkT.fin ?_
        simp only [List.drop_succ_cons, List.drop_zero]
        have hsz3 := hp3.size
        refine wpList_is rfl (.bool false) (by go_simp) ?_
        simp only [List.getElem_toArray, List.getElem_cons_succ, List.getElem_cons_zero, Act.put, List.setIfInBounds_toArray, List.set_cons_zero, List.set_cons_succ]
        simp only [wpList]
        refine NoPanic.normal ?_
        have HSH2 := HSH
        have HMK3 : Hid (MarksOk n0 wa.heap.size ds (A2.setCells (w.heap.size + 1) 0 [.int .i64 sh.lo, .int .i64 sh.hi])) := Lib.hid ((HMK.out.same fun k hk hk2 => hb2'.block k hk2).tag fun k d hk => (hp3.but (But.refl (fun k => k = w.heap.size + 1) A2) (.inl rfl)).block k (lt_of_block hk) (fun e => by rw [e, hx2] at hk; cases hk))
        have HZ3 := Lib.hid hx3
        have HBA3 : Hid (Below w.heap.size w (A2.setCells (w.heap.size + 1) 0 [.int .i64 sh.lo, .int .i64 sh.hi])) := Lib.hid (((But.of_below HB.out).trans (hp3.but hS2 (.inl rfl))).below fun k hk ht => by omega)
        clear hx2 hx3 hb2' hS2 HC
        generalize A2.setCells (w.heap.size + 1) 0 [.int .i64 sh.lo, .int .i64 sh.hi] = A3 at *
        gi_wp2_with fail
        unfold bodyPostM
        dsimp only
        refine marks_end HMK3.out fun w' e1 e2 e4 e5 e6 e7 => ?_
        have hrow := (e7 (w.heap.size + 1) fun d hd => by rw [HZ3.out] at hd; cases hd).trans HZ3.out
        have r0 := cell_of_row w' _ 0 _ _ _ hrow
        have r1 := cell_of_row w' _ 1 _ _ _ hrow
        have HRW : Hid (Below w.heap.size w w') := Lib.hid ⟨e1.trans HBA3.out.os, e2.trans HBA3.out.tape, e4.trans HBA3.out.output, Nat.le_trans HBA3.out.size e5, fun k hk => (e6 k (by omega)).trans (HBA3.out.block k hk)⟩
        refine ⟨.tuple #[.agg #[.int .i64 sh.lo, .int .i64 sh.hi], .bool false], by simp [results, Try.results54, go_sem, r0, r1], ?_, HRW.out⟩
        rw [HSB2.out, ← HSH.out]
        simp
end Go.Proofs.Ytpdkgnfblnblbaa
