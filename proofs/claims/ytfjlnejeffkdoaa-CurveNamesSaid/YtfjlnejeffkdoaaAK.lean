/- The truths of strength and of work; what a kind names, by the law; a proof of what is read that holds. Conditions: valid curves. -/
import Derived.Test.YtfjlnejeffkdoaaEE
namespace Go.Proofs.Ytfjlnejeffkdoaa
open Go.RowKit Go.Shelf
attribute [local irreducible] arrV wpQuiet
attribute [local go_sem] Oper.semAt_some

theorem highT_tr {ps : List Pt} {r : Rl} (F : Sane ps r) : IsTr ps (highT ps) :=
  ⟨upT_len _ _, fun i hi => by
    have := F.lo i hi
    unfold highT
    rw [upT_ld _ _ _ (by have := F.len; omega), if_pos hi]; omega, fun i hi => by
    unfold highT
    by_cases h : i < 20
    · rw [upT_ld _ _ _ h, if_neg (by omega)]
    · simp only [ld, List.getElem?_eq_none (show (upT (fun i => (pt ps i).hi) ps.length).length ≤ i by rw [upT_len]; omega)]; rfl⟩
theorem raiseT_tr {ps : List Pt} {r : Rl} (F : Sane ps r) (i : Nat) (hi : i < ps.length) : IsTr ps (raiseT ps i) := by
  obtain ⟨l1, l2, l3⟩ := lowT_tr F
  have hld : ∀ j, ld (raiseT ps i) j = if j = i then (pt ps i).hi else ld (lowT ps) j := fun j => by
    unfold raiseT ld
    rw [List.getElem?_set]
    by_cases h : i = j
    · subst h
      have := F.len
      rw [if_pos rfl, if_pos (by rw [l1]; omega), if_pos rfl]
      rfl
    · rw [if_neg h, if_neg (fun e => h e.symm)]
  refine ⟨raiseT_len ps i, fun j hj => ?_, fun j hj => ?_⟩
  · rw [hld]
    split
    · rename_i h
      subst h
      have := F.lo j hj
      omega
    · exact l2 j hj
  · rw [hld, if_neg (by omega)]
    exact l3 j hj

theorem truths_ends {ps : List Pt} {r : Rl} (F : Sane ps r) (b off cap : Nat) : TruthsOf ps r b off cap 83 [lowT ps, highT ps] :=
  ⟨fun args w => enters_of Try.func83 (by kernel_rfl) rfl args w, fun w hp => by
    refine (ends_fn _ _ _ _ w).mono ?_
    rintro e w' ⟨rfl, rfl⟩
    have b0 := heap_alloc_new w (.cells #[.slice (some ⟨b, off, none⟩) ps.length cap, .int .i64 r.d, .int .i64 r.k, .int .i64 r.o] 94)
    have hb := box_below w (.cells #[.slice (some ⟨b, off, none⟩) ps.length cap, .int .i64 r.d, .int .i64 r.k, .int .i64 r.o] 94)
    refine ⟨98, _, rfl, hb, fun args w => enters_of Try.func98 (by kernel_rfl) rfl args w, _, ?_, ends_seq w.heap.size b off cap ps r _ F.len F.pos ⟨b0, hp.below hb (block_lt_of_cell (hp 0 F.pos).1)⟩ (lowT_tr F) (highT_tr F)⟩
    rintro k (h | h)
    · exact .inl ⟨by omega, by simp; omega⟩
    · exact .inr h⟩
theorem truths_raised {ps : List Pt} {r : Rl} (F : Sane ps r) (b off cap : Nat) : TruthsOf ps r b off cap 77 (raised ps ps.length) :=
  ⟨fun args w => enters_of Try.func77 (by kernel_rfl) rfl args w, fun w hp => by
    refine (raised_fn _ _ _ _ w).mono ?_
    rintro e w' ⟨rfl, rfl⟩
    have b0 := heap_alloc_new w (.cells #[.slice (some ⟨b, off, none⟩) ps.length cap, .int .i64 r.d, .int .i64 r.k, .int .i64 r.o] 94)
    have hb := box_below w (.cells #[.slice (some ⟨b, off, none⟩) ps.length cap, .int .i64 r.d, .int .i64 r.k, .int .i64 r.o] 94)
    refine ⟨91, _, rfl, hb, fun args w => enters_of Try.func91 (by kernel_rfl) rfl args w, _, ?_, raised_seq w.heap.size b off cap ps r _ F.len F.pos ⟨b0, hp.below hb (block_lt_of_cell (hp 0 F.pos).1)⟩ (lowT_tr F) (raiseT_tr F)⟩
    rintro k (h | h)
    · exact .inl ⟨by omega, by simp; omega⟩
    · exact .inr h⟩

/-- What a kind names, and whether it is there. -/
def numOf (kd : Int) (x : Rs) : Int := if kd = 0 then x.st else if kd = 1 then x.y else if kd = 2 then x.pl else x.wk
def isOf (kd : Int) (x : Rs) : Bool := if kd = 1 then decide (0 ≤ x.ya) else if kd = 2 then decide (0 ≤ x.ma) else true

set_option maxRecDepth 100000 in
set_option maxHeartbeats 1000000 in
theorem number_any (kd : Int) (x : Rs) (w : World) (hk : kd = 0 ∨ kd = 1 ∨ kd = 2 ∨ kd = 3) : Calls Try.prog 44 #[.agg (rsV x), .int .u8 kd] w fun e w' => e = .returned (.tuple #[.int .i64 (numOf kd x), .bool (isOf kd x)]) ∧ Below w.heap.size w w' := by
  obtain ⟨st, pk, ya, y, ma, pl, wk⟩ := x
  show Calls Try.prog 44 #[.agg #[.int .i64 st, .int .i64 pk, .int .i64 ya, .int .i64 y, .int .i64 ma, .int .i64 pl, .int .i64 wk], .int .u8 kd] w _
  have hB := box_below w (.cells #[.int .i64 st, .int .i64 pk, .int .i64 ya, .int .i64 y, .int .i64 ma, .int .i64 pl, .int .i64 wk] 37)
  have hX := heap_alloc_new w (.cells #[.int .i64 st, .int .i64 pk, .int .i64 ya, .int .i64 y, .int .i64 ma, .int .i64 pl, .int .i64 wk] 37)
  rcases hk with rfl | rfl | rfl | rfl
  · go_enter Try.func44, Try.ntmps44
    go_wp2
    refine bodyPost_ret (v := .tuple #[.int .i64 st, .bool true]) (by simp [results, Try.results44, go_sem]) rfl ⟨rfl, hB⟩
  · go_enter Try.func44, Try.ntmps44
    go_wp2
    generalize World.alloc w _ = W at *
    have c2 := cell_of_row W w.heap.size 2 _ _ _ hX
    have c3 := cell_of_row W w.heap.size 3 _ _ _ hX
    simp at c2 c3
    clear hX
    go_quiet (fail)
    go_wp2
    refine bodyPost_ret (v := .tuple #[.int .i64 y, .bool (decide (0 ≤ ya))]) (by simp [results, Try.results44, go_sem]) rfl ⟨rfl, hB.trans ⟨rfl, rfl, rfl, Nat.le_refl _, fun _ _ => rfl⟩⟩
  · go_enter Try.func44, Try.ntmps44
    go_wp2
    generalize World.alloc w _ = W at *
    have c2 := cell_of_row W w.heap.size 4 _ _ _ hX
    have c3 := cell_of_row W w.heap.size 5 _ _ _ hX
    simp at c2 c3
    clear hX
    go_quiet (fail)
    go_wp2
    refine bodyPost_ret (v := .tuple #[.int .i64 pl, .bool (decide (0 ≤ ma))]) (by simp [results, Try.results44, go_sem]) rfl ⟨rfl, hB.trans ⟨rfl, rfl, rfl, Nat.le_refl _, fun _ _ => rfl⟩⟩
  · go_enter Try.func44, Try.ntmps44
    go_wp2
    refine bodyPost_ret (v := .tuple #[.int .i64 wk, .bool true]) (by simp [results, Try.results44, go_sem]) rfl ⟨rfl, hB⟩

/-- The functions of a kind. -/
structure KindOf (kd : Int) (ft fg : Nat) (fnd : Rs → Int × Int) : Prop where
  q : ∀ w, Calls Try.prog 57 #[.int .u8 kd] w fun e w' => e = .returned (.tuple #[.agg #[.func (.func ft) #[] #[], .func (.func fg) #[] #[]], .bool true]) ∧ Below w.heap.size w w'
  f : FoundBy fg fnd
  n : ∀ x, (fnd x).2 = numOf kd x
theorem kind0 : KindOf 0 77 78 (fun x => (x.pk, x.st)) := ⟨qty0, found_strength, fun _ => rfl⟩
theorem kind1 : KindOf 1 79 80 (fun x => (x.ya, x.y)) := ⟨qty1, found_yield, fun _ => rfl⟩
theorem kind2 : KindOf 2 81 82 (fun x => (x.ma, x.pl)) := ⟨qty2, found_proof, fun _ => rfl⟩
theorem kind3 : KindOf 3 83 84 (fun x => (0, x.wk)) := ⟨qty3, found_work, fun _ => rfl⟩

set_option maxRecDepth 100000 in
set_option maxHeartbeats 1000000 in
theorem ProveRead_yes (tl : Value) (kd nn : Int) (ft fg : Nat) (fnd : Rs → Int × Int) (x : Rs) (d k o : Int) (sa : Option Addr) (n cap : Nat) (w : World) (hK : KindOf kd ft fg fnd) (h1 : (fnd x).1 ≠ -1) (h2 : (fnd x).2 = nn)
    (HR : ∀ W, Below w.heap.size w W → Calls Try.prog 19 #[.agg #[.slice sa n cap], .agg #[.int .i64 d, .int .i64 k, .int .i64 o], tl] W fun e w' => e = .returned (.tuple #[.agg (rsV x), .int .i64 0]) ∧ Below W.heap.size W w') :
    Calls Try.prog 35 #[.agg #[.slice sa n cap], .agg #[.int .i64 d, .int .i64 k, .int .i64 o], tl, .int .u8 kd, .int .i64 nn] w fun e w' => e = .returned (.bool true) ∧ Below w.heap.size w w' := by
  have hb2 := below2 w (.cells #[.slice sa n cap] 34) (.cells #[.int .i64 d, .int .i64 k, .int .i64 o] 40)
  have HRR := Lib.hid HR
  have HQ := Lib.hid hK.q
  have HF := Lib.hid hK.f.2
  have hcf := hK.f.1
  have hd1 : ((fnd x).1 != -1) = true := by rw [bne_iff_ne]; exact h1
  have hd2 : ((fnd x).2 == nn) = true := by rw [beq_iff_eq]; exact h2
  clear HR hK
  generalize hfx : fnd x = fx at *
  have HFX := Lib.hid hfx
  clear hfx
  obtain ⟨f1, f2⟩ := fx
  simp only at h1 h2 hd1 hd2
  go_enter Try.func35, Try.ntmps35
  go_wp2_with fail
  refine (HRR.out _ hb2).mono ?_
  rintro e w1 ⟨rfl, hb1⟩
  have HB1 := Lib.hid (below_to hb2 hb1)
  clear hb1 hb2
  rw [show rsV x = #[.int .i64 x.st, .int .i64 x.pk, .int .i64 x.ya, .int .i64 x.y, .int .i64 x.ma, .int .i64 x.pl, .int .i64 x.wk] from rfl]
  go_wp2_with fail
  have X1 := heap_alloc_new w1 (.cells #[.int .i64 x.st, .int .i64 x.pk, .int .i64 x.ya, .int .i64 x.y, .int .i64 x.ma, .int .i64 x.pl, .int .i64 x.wk] 37)
  have hb2 := box_below w1 (.cells #[.int .i64 x.st, .int .i64 x.pk, .int .i64 x.ya, .int .i64 x.y, .int .i64 x.ma, .int .i64 x.pl, .int .i64 x.wk] 37)
  generalize World.alloc w1 _ = W2 at *
  refine (HQ.out W2).mono ?_
  rintro e w3 ⟨rfl, hb3⟩
  have HB3 := Lib.hid (grow_to (below_to HB1.out hb2) hb3)
  have X3 := (hb3.block _ (lt_of_block X1)).trans X1
  have hf := cell_of_row w3 w1.heap.size 0 _ _ _ X3
  have m1 := cell_of_row w3 w1.heap.size 1 _ _ _ X3
  have m2 := cell_of_row w3 w1.heap.size 2 _ _ _ X3
  have m3 := cell_of_row w3 w1.heap.size 3 _ _ _ X3
  have m4 := cell_of_row w3 w1.heap.size 4 _ _ _ X3
  have m5 := cell_of_row w3 w1.heap.size 5 _ _ _ X3
  have m6 := cell_of_row w3 w1.heap.size 6 _ _ _ X3
  simp at hf m1 m2 m3 m4 m5 m6
  have hl3 := lt_of_block X3
  clear hb2 hb3 X1 X3
  go_wp2_with fail
  refine (HF.out x _).mono ?_
  rintro e w4 ⟨rfl, hb4⟩
  rw [HFX.out]
  have HB4 := Lib.hid (grow_to (grow_to HB3.out (grow_alloc w3 _)) hb4)
  clear hb4 hf m1 m2 m3 m4 m5 m6 hl3 hcf
  go_wp2
  go_ret
  exact ⟨rfl, HB4.out⟩
end Go.Proofs.Ytfjlnejeffkdoaa
