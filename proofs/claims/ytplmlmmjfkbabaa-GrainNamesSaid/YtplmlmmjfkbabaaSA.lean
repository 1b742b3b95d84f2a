/- The ends of ranges; whether a list of grades agrees with a comparison. No condition. -/
import Derived.Test.YtplmlmmjfkbabaaAJ
import Derived.Test.YtplmlmmjfkbabaaRH
namespace Go.Proofs.Ytplmlmmjfkbabaa
open Go.RowKit
attribute [local irreducible] arrV wpQuiet mat shl

def endR (b : Bool) (r : Rg) : Int := if b then r.hi else r.lo
def endsL (b : Bool) (l : List Rg) : List Int := l.map (endR b)
theorem ends_take {b : Bool} {l : List Rg} {q : Nat} (h : q < l.length) : (endsL b (l.take (q + 1))).map iV = (endsL b (l.take q)).map iV ++ [.int .i64 (endR b (rg l q))] := by
  have e : rg l q = l[q] := by simp [rg, h]
  rw [e, List.take_succ_eq_append_getElem h]
  simp only [endsL, List.map_append, List.map_cons, List.map_nil]
  rfl
set_option maxRecDepth 100000 in
set_option maxHeartbeats 4000000 in
theorem ends_high (n : Nat) (v : Value) (l : List Rg) (w : World) (hl : l.length ≤ 100) (hV : RgsV n w v l) (hn : n ≤ w.heap.size) :
    Calls Try.prog 53 #[v, .func (.func 75) #[] #[]] w fun e w' => (∃ r, e = .returned r ∧ w'.ownsRow w.heap.size 3 1 r l.length ((endsL true l).map iV)) ∧ Below w.heap.size w w' := by
  obtain ⟨a, cap, rfl, hp⟩ := hV
  have HP := Lib.hid hp
  have HT := Lib.hid fun q (h : q < l.length) => ends_take (b := true) h
  clear hp
  go_enter Try.func53, Try.ntmps53
  go_wp2_with fail
  go_loopw [5, 10] (fun s i wr => ∃ q : Nat, q ≤ l.length ∧ i = .int .i64 q ∧ Hid (wr.ownsRow w.heap.size 3 1 s q ((endsL true (l.take q)).map iV)) ∧ Hid (Below w.heap.size w wr)) (fun _ i _ => l.length - (intOf i).toNat)
  case atStart => exact ⟨0, Nat.zero_le _, rfl, Lib.hid (World.ownsRow_nil _ _ _ _), Lib.hid (Below.refl _ _)⟩
  case round =>
    obtain ⟨q, hq, rfl, HO, HB⟩ := hrel
    by_cases hlt : q < l.length
    · have hqn : (q : Int) < l.length := by omega
      have hwq : IntKind.i64.wrap ((q : Int) + 1) = (q : Int) + 1 := IntWalk.i64_in _ (by omega)
      obtain ⟨bl, off, rfl, hbl, hc⟩ := HP.out (by omega)
      have p1 := (HB.out.cell (p := ⟨bl, off + q * 2, none⟩) (show bl < w.heap.size by omega)).trans (hc q hlt).1
      have p2 := (HB.out.cell (p := ⟨bl, off + q * 2 + 1, none⟩) (show bl < w.heap.size by omega)).trans (hc q hlt).2
      have HSN := Lib.hid (HT.out q hlt)
      have e0 : endR true (rg l q) = (rg l q).hi := rfl
      rw [e0] at HSN
      generalize (rg l q).lo = X at *
      generalize (rg l q).hi = Y at *
      clear hc e0
      go_wp2_with fail
      have hbx := box_below wr (.cells #[.int .i64 X, .int .i64 Y] 41)
      have HB1 := Lib.hid (below_to HB.out hbx)
      have HO1 := Lib.hid (row_kept HO.out hbx)
      clear hbx p1 p2 HB HO
      generalize World.alloc wr _ = W at *
      refine (high_any X Y W).mono ?_
      rintro e w1 ⟨rfl, hb⟩
      have HB2 := Lib.hid (below_to HB1.out hb)
      have HO2 := Lib.hid (row_kept HO1.out hb)
      have hl1 := HB2.out.size
      clear hb HB1 HO1
      go_wp2_with (first
        | (refine wpList_app el50 rfl (.tmp 14) (.tmp 18) rfl w.heap.size q _ _ #[.int .i64 Y] rfl (by intro u hu; simp at hu; rcases hu with rfl; rfl) rfl rfl HO2.out hl1 (by omega) ?_
           intro g c w2 hown hgr _
           have HO3 := Lib.hid hown
           have HB3 := Lib.hid (HB2.out.trans hgr.below)
           clear hown hgr)
        | fail)
      go_roundw
      case rel => exact ⟨q + 1, by omega, by simp, Lib.hid (by rw [HSN.out]; exact HO3.out), HB3⟩
      case measure => simp [intOf] <;> omega
    · obtain rfl : q = l.length := by omega
      rw [List.take_length] at HO
      go_wp2
      go_ret
      exact ⟨⟨_, rfl, HO.out⟩, HB.out⟩
set_option maxRecDepth 100000 in
set_option maxHeartbeats 4000000 in
theorem ends_low (n : Nat) (v : Value) (l : List Rg) (w : World) (hl : l.length ≤ 100) (hV : RgsV n w v l) (hn : n ≤ w.heap.size) :
    Calls Try.prog 53 #[v, .func (.func 76) #[] #[]] w fun e w' => (∃ r, e = .returned r ∧ w'.ownsRow w.heap.size 3 1 r l.length ((endsL false l).map iV)) ∧ Below w.heap.size w w' := by
  obtain ⟨a, cap, rfl, hp⟩ := hV
  have HP := Lib.hid hp
  have HT := Lib.hid fun q (h : q < l.length) => ends_take (b := false) h
  clear hp
  go_enter Try.func53, Try.ntmps53
  go_wp2_with fail
  go_loopw [5, 10] (fun s i wr => ∃ q : Nat, q ≤ l.length ∧ i = .int .i64 q ∧ Hid (wr.ownsRow w.heap.size 3 1 s q ((endsL false (l.take q)).map iV)) ∧ Hid (Below w.heap.size w wr)) (fun _ i _ => l.length - (intOf i).toNat)
  case atStart => exact ⟨0, Nat.zero_le _, rfl, Lib.hid (World.ownsRow_nil _ _ _ _), Lib.hid (Below.refl _ _)⟩
  case round =>
    obtain ⟨q, hq, rfl, HO, HB⟩ := hrel
    by_cases hlt : q < l.length
    · have hqn : (q : Int) < l.length := by omega
      have hwq : IntKind.i64.wrap ((q : Int) + 1) = (q : Int) + 1 := IntWalk.i64_in _ (by omega)
      obtain ⟨bl, off, rfl, hbl, hc⟩ := HP.out (by omega)
      have p1 := (HB.out.cell (p := ⟨bl, off + q * 2, none⟩) (show bl < w.heap.size by omega)).trans (hc q hlt).1
      have p2 := (HB.out.cell (p := ⟨bl, off + q * 2 + 1, none⟩) (show bl < w.heap.size by omega)).trans (hc q hlt).2
      have HSN := Lib.hid (HT.out q hlt)
      have e0 : endR false (rg l q) = (rg l q).lo := rfl
      rw [e0] at HSN
      generalize (rg l q).lo = X at *
      generalize (rg l q).hi = Y at *
      clear hc e0
      go_wp2_with fail
      have hbx := box_below wr (.cells #[.int .i64 X, .int .i64 Y] 41)
      have HB1 := Lib.hid (below_to HB.out hbx)
      have HO1 := Lib.hid (row_kept HO.out hbx)
      clear hbx p1 p2 HB HO
      generalize World.alloc wr _ = W at *
      refine (low_any X Y W).mono ?_
      rintro e w1 ⟨rfl, hb⟩
      have HB2 := Lib.hid (below_to HB1.out hb)
      have HO2 := Lib.hid (row_kept HO1.out hb)
      have hl1 := HB2.out.size
      clear hb HB1 HO1
      go_wp2_with (first
        | (refine wpList_app el50 rfl (.tmp 14) (.tmp 18) rfl w.heap.size q _ _ #[.int .i64 X] rfl (by intro u hu; simp at hu; rcases hu with rfl; rfl) rfl rfl HO2.out hl1 (by omega) ?_
           intro g c w2 hown hgr _
           have HO3 := Lib.hid hown
           have HB3 := Lib.hid (HB2.out.trans hgr.below)
           clear hown hgr)
        | fail)
      go_roundw
      case rel => exact ⟨q + 1, by omega, by simp, Lib.hid (by rw [HSN.out]; exact HO3.out), HB3⟩
      case measure => simp [intOf] <;> omega
    · obtain rfl : q = l.length := by omega
      rw [List.take_length] at HO
      go_wp2
      go_ret
      exact ⟨⟨_, rfl, HO.out⟩, HB.out⟩
theorem ends_any (n : Nat) (v : Value) (l : List Rg) (b : Bool) (w : World) (hl : l.length ≤ 100) (hV : RgsV n w v l) (hn : n ≤ w.heap.size) :
    Calls Try.prog 53 #[v, .func (.func (if b then 75 else 76)) #[] #[]] w fun e w' => (∃ r, e = .returned r ∧ w'.ownsRow w.heap.size 3 1 r l.length ((endsL b l).map iV)) ∧ Below w.heap.size w w' := by
  cases b
  · exact ends_low n v l w hl hV hn
  · exact ends_high n v l w hl hV hn
/-- The grade of a picture, or of the chart, in a list. -/
def ofL (gs : List Int) (p : Int) : Int := if p = -1 then 0 else ld gs p.toNat
def agreeB (gs : List Int) (c : Cm) : Bool := hasB c.lo c.hi (ofL gs c.l - ofL gs c.r)
theorem of_any (n : Nat) (v : Value) (gs : List Int) (p : Int) (w : World) (hl : gs.length ≤ maxLen) (hV : IntsV n w v gs) (hp : p = -1 ∨ (0 ≤ p ∧ p < gs.length)) :
    Calls Try.prog 91 #[v, .int .i64 p] w fun e w' => e = .returned (.int .i64 (ofL gs p)) ∧ Below w.heap.size w w' := by
  obtain ⟨a, cap, rfl, hq⟩ := hV
  by_cases h : p = -1
  · subst h
    go_enter Try.func91, Try.ntmps91
    go_wp2
    go_ret
    exact ⟨rfl, Below.refl _ _⟩
  · obtain ⟨P, rfl⟩ : ∃ P : Nat, p = P := ⟨p.toNat, by omega⟩
    obtain ⟨b, off, rfl, hb, hc⟩ := hq (by omega)
    have p1 := hc P (by omega)
    have e1 : ((P : Int) == -1) = false := by simp
    have e2 : (P : Int) < gs.length := by omega
    have HE : Hid (ofL gs P = ld gs P) := Lib.hid (by unfold ofL; rw [if_neg h]; rfl)
    clear hc hq
    unfold maxLen at hl
    go_enter Try.func91, Try.ntmps91
    go_wp2
    go_ret
    exact ⟨by rw [HE.out]; rfl, Below.refl _ _⟩
end Go.Proofs.Ytplmlmmjfkbabaa
