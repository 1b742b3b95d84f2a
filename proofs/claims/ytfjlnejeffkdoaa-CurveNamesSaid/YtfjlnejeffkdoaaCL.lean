/- ProveRead, whatever is read: its contract. Conditions: what is called answers so. -/
import Derived.Test.YtfjlnejeffkdoaaAK
namespace Go.Proofs.Ytfjlnejeffkdoaa
open Go.RowKit Go.Shelf
attribute [local irreducible] arrV

set_option maxRecDepth 100000 in
set_option maxHeartbeats 1000000 in
theorem ProveRead_ok (tl : Value) (kd nn : Int) (ft fg : Nat) (fnd : Rs → Int × Int) (x : Rs) (d k o : Int) (sa : Option Addr) (n cap : Nat) (b1 b2 : Bool) (w : World) (hK : KindOf kd ft fg fnd) (h1 : ((fnd x).1 != -1) = b1) (h2 : ((fnd x).2 == nn) = b2)
    (HR : ∀ W, Below w.heap.size w W → Calls Try.prog 19 #[.agg #[.slice sa n cap], .agg #[.int .i64 d, .int .i64 k, .int .i64 o], tl] W fun e w' => e = .returned (.tuple #[.agg (rsV x), .int .i64 0]) ∧ Below W.heap.size W w') :
    Calls Try.prog 35 #[.agg #[.slice sa n cap], .agg #[.int .i64 d, .int .i64 k, .int .i64 o], tl, .int .u8 kd, .int .i64 nn] w fun e w' => e = .returned (.bool (b1 && b2)) ∧ Below w.heap.size w w' := by
  have hb2 := below2 w (.cells #[.slice sa n cap] 34) (.cells #[.int .i64 d, .int .i64 k, .int .i64 o] 40)
  have HRR := Lib.hid HR
  have HQ := Lib.hid hK.q
  have HF := Lib.hid hK.f.2
  have hcf := hK.f.1
  have H1 := Lib.hid h1
  have H2 := Lib.hid h2
  clear HR hK h1 h2
  generalize hfx : fnd x = fx at *
  have HFX := Lib.hid hfx
  clear hfx
  obtain ⟨f1, f2⟩ := fx
  go_enter Try.func35, Try.ntmps35
  go_wp2_with fail
  refine (HRR.out _ hb2).mono ?_
  rintro e w1 ⟨rfl, hb1⟩
  have HB1 := Lib.hid (below_to hb2 hb1)
  clear hb1 hb2
  rw [show rsV x = #[.int .i64 x.st, .int .i64 x.pk, .int .i64 x.ya, .int .i64 x.y, .int .i64 x.ma, .int .i64 x.pl, .int .i64 x.wk] from rfl]
  go_wp2_with fail
  have X1 := heap_alloc_new w1 (.cells #[.int .i64 x.st, .int .i64 x.pk, .int .i64 x.ya, .int .i64 x.y, .int .i64 x.ma, .int .i64 x.pl, .int .i64 x.wk] 37)
  have hb2 := box_below w1 (.cells #[.int .i64 x.st, .int .i64 x.pk, .int .i64 x.ya, .int .i64 x.y, .int .i64 x.ma, .int .i64 x.pl, .int .i64 x.wk] 37)
  generalize World.alloc w1 _ = W2 at *
  refine (HQ.out W2).mono ?_
  rintro e w3 ⟨rfl, hb3⟩
  have HB3 := Lib.hid (grow_to (below_to HB1.out hb2) hb3)
  have X3 := (hb3.block _ (lt_of_block X1)).trans X1
  have hf := cell_of_row w3 w1.heap.size 0 _ _ _ X3
  have m1 := cell_of_row w3 w1.heap.size 1 _ _ _ X3
  have m2 := cell_of_row w3 w1.heap.size 2 _ _ _ X3
  have m3 := cell_of_row w3 w1.heap.size 3 _ _ _ X3
  have m4 := cell_of_row w3 w1.heap.size 4 _ _ _ X3
  have m5 := cell_of_row w3 w1.heap.size 5 _ _ _ X3
  have m6 := cell_of_row w3 w1.heap.size 6 _ _ _ X3
  simp at hf m1 m2 m3 m4 m5 m6
  have hl3 := lt_of_block X3
  clear hb2 hb3 X1 X3
  go_wp2_with fail
  refine (HF.out x _).mono ?_
  rintro e w4 ⟨rfl, hb4⟩
  rw [HFX.out]
  have HB4 := Lib.hid (grow_to (grow_to HB3.out (grow_alloc w3 _)) hb4)
  clear hb4 hf m1 m2 m3 m4 m5 m6 hl3 hcf
  have hd1 : (f1 != -1) = b1 := H1.out
  have hd2 : (f2 == nn) = b2 := H2.out
  cases b1
  · go_wp2
    go_ret
    exact ⟨rfl, HB4.out⟩
  · cases b2
    · go_wp2
      go_ret
      exact ⟨rfl, HB4.out⟩
    · go_wp2
      go_ret
      exact ⟨rfl, HB4.out⟩

set_option maxRecDepth 100000 in
set_option maxHeartbeats 1000000 in
theorem ProveRead_err (tl : Value) (kd nn E : Int) (qv : Value) (known : Bool) (d k o : Int) (sa : Option Addr) (n cap : Nat) (w : World) (hE : E ≠ 0 ∨ known = false) (hqv : ∃ f g, qv = .agg #[f, g] ∧ ((f = .nilFunc ∧ g = .nilFunc) ∨ ∃ ft fg, f = .func (.func ft) #[] #[] ∧ g = .func (.func fg) #[] #[]))
    (HQ : ∀ w, Calls Try.prog 57 #[.int .u8 kd] w fun e w' => e = .returned (.tuple #[qv, .bool known]) ∧ Below w.heap.size w w')
    (x : Rs) (HR : ∀ W, Below w.heap.size w W → Calls Try.prog 19 #[.agg #[.slice sa n cap], .agg #[.int .i64 d, .int .i64 k, .int .i64 o], tl] W fun e w' => e = .returned (.tuple #[.agg (rsV x), .int .i64 E]) ∧ Below W.heap.size W w') :
    Calls Try.prog 35 #[.agg #[.slice sa n cap], .agg #[.int .i64 d, .int .i64 k, .int .i64 o], tl, .int .u8 kd, .int .i64 nn] w fun e w' => e = .returned (.bool false) ∧ Below w.heap.size w w' := by
  have hb2 := below2 w (.cells #[.slice sa n cap] 34) (.cells #[.int .i64 d, .int .i64 k, .int .i64 o] 40)
  have HRR := Lib.hid HR
  have HQQ := Lib.hid HQ
  have HEE := Lib.hid hE
  clear HR HQ hE
  obtain ⟨f, g, rfl, hfg⟩ := hqv
  have HFG := Lib.hid hfg
  clear hfg
  go_enter Try.func35, Try.ntmps35
  go_wp2_with fail
  refine (HRR.out _ hb2).mono ?_
  rintro e w1 ⟨rfl, hb1⟩
  have HB1 := Lib.hid (below_to hb2 hb1)
  clear hb1 hb2
  rw [show rsV x = #[.int .i64 x.st, .int .i64 x.pk, .int .i64 x.ya, .int .i64 x.y, .int .i64 x.ma, .int .i64 x.pl, .int .i64 x.wk] from rfl]
  go_wp2_with fail
  have hb2 := box_below w1 (.cells #[.int .i64 x.st, .int .i64 x.pk, .int .i64 x.ya, .int .i64 x.y, .int .i64 x.ma, .int .i64 x.pl, .int .i64 x.wk] 37)
  generalize World.alloc w1 _ = W2 at *
  refine (HQQ.out W2).mono ?_
  rintro e w3 ⟨rfl, hb3⟩
  have HB3 := Lib.hid (grow_to (below_to HB1.out hb2) hb3)
  clear hb2 hb3
  rcases HFG.out with ⟨rfl, rfl⟩ | ⟨ft, fg, rfl, rfl⟩
  · have hal := Lib.hid (grow_to HB3.out (grow_alloc w3 (.cells #[.nilFunc, .nilFunc] 105)))
    rcases HEE.out with hE | hE
    · have hne : (E == 0) = false := by rw [beq_eq_false_iff_ne]; exact hE
      have hne' : (E != 0) = true := by rw [bne_iff_ne]; exact hE
      go_wp2
      go_ret
      exact ⟨rfl, hal.out⟩
    · subst hE
      by_cases h : E = 0
      · subst h
        go_wp2
        go_ret
        exact ⟨rfl, hal.out⟩
      · have hne : (E == 0) = false := by rw [beq_eq_false_iff_ne]; exact h
        have hne' : (E != 0) = true := by rw [bne_iff_ne]; exact h
        go_wp2
        go_ret
        exact ⟨rfl, hal.out⟩
  · have hal := Lib.hid (grow_to HB3.out (grow_alloc w3 (.cells #[.func (.func ft) #[] #[], .func (.func fg) #[] #[]] 105)))
    rcases HEE.out with hE | hE
    · have hne : (E == 0) = false := by rw [beq_eq_false_iff_ne]; exact hE
      have hne' : (E != 0) = true := by rw [bne_iff_ne]; exact hE
      go_wp2
      go_ret
      exact ⟨rfl, hal.out⟩
    · subst hE
      by_cases h : E = 0
      · subst h
        go_wp2
        go_ret
        exact ⟨rfl, hal.out⟩
      · have hne : (E == 0) = false := by rw [beq_eq_false_iff_ne]; exact h
        have hne' : (E != 0) = true := by rw [bne_iff_ne]; exact h
        go_wp2
        go_ret
        exact ⟨rfl, hal.out⟩
end Go.Proofs.Ytfjlnejeffkdoaa
