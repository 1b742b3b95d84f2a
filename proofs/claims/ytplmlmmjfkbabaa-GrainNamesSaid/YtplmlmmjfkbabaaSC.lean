/- A list in new memory; grades that reach an end; whether grades fit, by the reference. No condition. -/
import Derived.Test.YtplmlmmjfkbabaaSB
namespace Go.Proofs.Ytplmlmmjfkbabaa
open Go.RowKit Go.Shelf
attribute [local irreducible] arrV wpQuiet mat shl

theorem ends_fn (fn : Nat) (b : Bool) (hf : (if b then 75 else 76) = fn) (n : Nat) (v : Value) (l : List Rg) (w : World) (hl : l.length ≤ 100) (hV : RgsV n w v l) (hn : n ≤ w.heap.size) :
    Calls Try.prog 53 #[v, .func (.func fn) #[] #[]] w fun e w' => (∃ r, e = .returned r ∧ w'.ownsRow w.heap.size 3 1 r l.length ((endsL b l).map iV)) ∧ Below w.heap.size w w' := by
  subst hf
  exact ends_any n v l b w hl hV hn
theorem ints_cells {m : Nat} {w : World} {ad : Option Addr} {cap : Nat} {gs : List Int} (h : IntsV m w (.slice ad gs.length cap) gs) :
    (ad = none → gs.length = 0) ∧ (0 < gs.length → ∃ b off, ad = some ⟨b, off, none⟩ ∧ ∀ j u, (gs.map iV)[j]? = some u → w.cell? ⟨b, off + j, none⟩ = some u) := by
  obtain ⟨a', c', e, hp⟩ := h
  cases e
  refine ⟨fun h => ?_, fun h => ?_⟩
  · rcases Nat.eq_zero_or_pos gs.length with h0 | h0
    · exact h0
    · obtain ⟨b, off, e, -⟩ := hp h0
      rw [h] at e
      cases e
  · obtain ⟨b, off, e, -, hc⟩ := hp h
    refine ⟨b, off, e, fun j u hj => ?_⟩
    rw [List.getElem?_map] at hj
    cases hg : gs[j]? with
    | none => simp [hg] at hj
    | some x =>
      have hj2 : j < gs.length := (List.getElem?_eq_some_iff.1 hg).1
      have : ld gs j = x := by simp [ld, hg]
      rw [hc j hj2, this]
      simpa [hg, iV] using hj
set_option maxHeartbeats 1000000 in
theorem list_any (m : Nat) (v : Value) (gs : List Int) (w : World) (hl : gs.length ≤ 1000) (hV : IntsV m w v gs) (hm : m ≤ w.heap.size) :
    Calls Try.prog 31 #[v] w fun e w' => (∃ r, e = .returned r ∧ w'.ownsRow w.heap.size 3 1 r gs.length (gs.map iV)) ∧ Below w.heap.size w w' := by
  obtain ⟨a, cap, rfl⟩ : ∃ a cap, v = .slice a gs.length cap := by obtain ⟨a, c, e, -⟩ := hV; exact ⟨a, c, e⟩
  obtain ⟨h0, hc⟩ := ints_cells hV
  obtain ⟨ov, W3, hr3, ho3, hb3, -, -, -⟩ := act_app2 el50 w.heap.size 0 (.slice none 0 0) [] a gs.length cap (gs.map iV) w (fun _ => False) 50 (by simp [maxLen]; omega) (by omega) (World.ownsRow_nil _ _ _ _) (Nat.le_refl _) (by simp) h0 hc (by simp [iV, Value.oneCell']) (fun k h => by simp [Value.ownBlock] at h) (fun k h => h.elim)
  rw [Nat.zero_add, List.nil_append] at ho3
  have HR := Lib.hid hr3
  have HO := Lib.hid ho3
  have HB := Lib.hid hb3
  clear hV h0 hc hr3 ho3 hb3
  go_enter Try.func31, Try.ntmps31
  go_wp2_with (first
    | (refine wpList_append_by (v := ov) (W' := W3) (y := .slice none 0 0) (z := .slice a gs.length cap) rfl (.const (.slice none 0 0)) (.tmp 3) 50 50 50 rfl rfl rfl rfl HR.out ?_)
    | fail)
  go_ret
  exact ⟨⟨_, rfl, HO.out⟩, HB.out⟩
set_option maxRecDepth 100000 in
set_option maxHeartbeats 4000000 in
theorem Shows_any (m : Nat) (n : Int) (v : Value) (cs : List Cm) (p : Int) (hi : Bool) (w : World) (hl : cs.length ≤ maxLen) (hV : CmsV m w v cs) (hm : m ≤ w.heap.size) :
    Calls Try.prog 29 #[.agg #[.int .i64 n, v], .int .i64 p, .bool hi] w fun e w' => (∃ r, e = .returned (.tuple #[r, .int .i64 (layE n cs [p])]) ∧ (layE n cs [p] ≠ 0 → r = .slice none 0 0) ∧ (layE n cs [p] = 0 → ∃ d N, distO cs = some d ∧ n = ((N : Nat) : Int) ∧ w'.ownsRow w.heap.size 3 1 r N ((endsL hi (gradesL d N)).map iV))) ∧ Below w.heap.size w w' := by
  have HLA := Lib.hid fun w' pv (h : Below w.heap.size w w') (hP : IntsV w'.heap.size w' pv [p]) => layOut_any w'.heap.size n v pv cs [p] w' hl (by simp [maxLen]) ((hV.same (.below hm h)).up (Nat.le_trans hm h.size)) hP (Nat.le_refl _)
  have HAD := Lib.hid fun d (h : layE n cs [p] = 0) (hd : distO cs = some d) => ask_dist h hd
  obtain ⟨a, cap, rfl, -⟩ := hV
  have HX := Lib.hid (heap_alloc_new w (.cells #[.int .i64 n, .slice a cs.length cap] 31))
  have HB := Lib.hid (box_below w (.cells #[.int .i64 n, .slice a cs.length cap] 31))
  generalize layE n cs [p] = E at *
  go_enter Try.func29, Try.ntmps29
  go_wp2_with fail
  have hy := box2 w (.cells #[.int .i64 n, .slice a cs.length cap] 31) (.cells #[.int .i64 p] 3)
  have hby := below2 w (.cells #[.int .i64 n, .slice a cs.length cap] 31) (.cells #[.int .i64 p] 3)
  generalize World.alloc (World.alloc w _) _ = W at *
  have hP : IntsV W.heap.size W (.slice (some ⟨w.heap.size + 1, 0, none⟩) 1 1) [p] := ⟨some ⟨w.heap.size + 1, 0, none⟩, 1, rfl, fun _ => ⟨_, 0, rfl, lt_of_block hy.2, fun i hi => by
    have hi2 : i < 1 := hi
    obtain rfl : i = 0 := by omega
    exact cell_of_row _ _ 0 _ _ _ hy.2⟩⟩
  refine (HLA.out W _ hby hP).mono ?_
  rintro e w1 ⟨⟨n1, v1, d1, rfl, hv1, h0⟩, hb1⟩
  have HB1 := Lib.hid (below_to hby hb1)
  have H0 := Lib.hid h0
  have HV1 := Lib.hid hv1
  clear hb1 HB HX HLA h0 hv1 hy hby hP
  by_cases hE : E = 0
  · obtain ⟨hd1, rfl, rfl⟩ := H0.out hE
    obtain ⟨hmid, N, rfl, hN⟩ := HAD.out d1 hE hd1
    have HGR := Lib.hid fun w => grades_any N (.slice a cs.length cap) d1 w hN hmid
    have HD1 := Lib.hid hd1
    have hf1 : (E != 0) = false := by simp [hE]
    have hf2 : (E == 0) = true := by simp [hE]
    have HE0 := Lib.hid hE
    clear hE
    clear hd1 hmid HAD H0
    go_wp2_with (first
      | (refine wpList_store_sh rfl (.tmp 8) (.tmp 15) rfl w1.heap.size rfl N (.slice a cs.length cap) d1 rfl rfl 85 _ (by rw [zero85, shl_size]) (heap_alloc_new w1 _) ?_
         intro w2 hp2 hx2
         have HX2 := Lib.hid hx2
         have HB2 := Lib.hid (hp2.below (below_to HB1.out (box_below w1 _)) HB1.out.size)
         clear hp2 hx2)
      | (refine wpList_load_sh rfl (.tmp 8) rfl w1.heap.size rfl 85 N (.slice a cs.length cap) d1 HX2.out ?_)
      | fail)
    refine (HGR.out _).mono ?_
    rintro e w3 ⟨⟨r, rfl, hown⟩, hb3⟩
    have HB3 := Lib.hid (below_to HB2.out hb3)
    have HG3 := Lib.hid (own_rgs (l := gradesL d1 N) (by rw [grades_len]; exact hown))
    clear hown hb3 HX2 HB2
    have hEO := endOf_any hi w3
    obtain ⟨fn, hfn⟩ : ∃ fn : Nat, (if hi then 75 else 76) = fn := ⟨_, rfl⟩
    rw [hfn] at hEO
    have HFN := Lib.hid hfn
    have HEO := Lib.hid hEO
    clear hfn hEO
    go_wp2_with fail
    refine HEO.out.mono ?_
    rintro e w4 ⟨rfl, hb4⟩
    have HB4 := Lib.hid (below_to HB3.out hb4)
    have HG4 := Lib.hid ((HG3.out.same (.below (Nat.le_refl _) hb4)).up hb4.size)
    clear hb4 HB3 HG3
    go_wp2_with fail
    refine (ends_fn fn hi HFN.out w4.heap.size r (gradesL d1 N) w4 (by rw [grades_len]; omega) HG4.out (Nat.le_refl _)).mono ?_
    rintro e w5 ⟨⟨r5, rfl, hown⟩, hb5⟩
    rw [grades_len] at hown
    have HO := Lib.hid (ownsRow_mono HB4.out.size hown)
    have HB5 := Lib.hid (below_to HB4.out hb5)
    clear hown hb5
    go_wp2
    go_ret2
    exact ⟨⟨r5, by rw [HE0.out]; rfl, fun h => absurd HE0.out h, fun _ => ⟨d1, N, HD1.out, rfl, HO.out⟩⟩, HB5.out⟩
  · have hf1 : (E != 0) = true := by simp [hE]
    have hf2 : (E == 0) = false := by simp [hE]
    have HE := Lib.hid hE
    clear hE
    go_wp2_with (first
      | (refine wpList_store_sh rfl (.tmp 8) (.tmp 15) rfl w1.heap.size rfl n1 v1 d1 HV1.out rfl 85 _ (by rw [zero85, shl_size]) (heap_alloc_new w1 _) ?_
         intro w2 hp2 hx2
         have HB2 := Lib.hid (hp2.below (below_to HB1.out (box_below w1 _)) HB1.out.size)
         clear hp2 hx2)
      | fail)
    go_ret2
    exact ⟨⟨.slice none 0 0, rfl, fun _ => rfl, fun h => absurd h HE.out⟩, HB2.out⟩
end Go.Proofs.Ytplmlmmjfkbabaa
