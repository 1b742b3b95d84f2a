/- Lists of numbers of one's own: a clone, and the law's copy. Condition: one number at least, a thousand at most. -/
import Derived.Test.YtfijaafkagcmmaaR11
namespace Go.Proofs.Ytfijaafkagcmmaa
open Go.RowKit Go.Shelf
attribute [local irreducible] arrV wpQuiet

def IntsV (n : Nat) (w : World) (v : Value) (t : List Int) : Prop :=
  ∃ a cap, v = .slice a t.length cap ∧ t.length ≤ cap ∧ (0 < t.length → ∃ b off, a = some ⟨b, off, none⟩ ∧ b < n ∧ ∀ i, i < t.length → w.cell? ⟨b, off + i, none⟩ = some (.int .i64 (ld t i)))
theorem IntsV.same {n : Nat} {w w' : World} {v : Value} {t : List Int} (h : IntsV n w v t) (hs : Same n w w') : IntsV n w' v t := by
  obtain ⟨a, cap, rfl, hc, hp⟩ := h
  refine ⟨a, cap, rfl, hc, fun h0 => ?_⟩
  obtain ⟨b, off, rfl, hb, hc⟩ := hp h0
  exact ⟨b, off, rfl, hb, fun i hi => hs.cell hb (hc i hi)⟩
theorem IntsV.up {n m : Nat} {w : World} {v : Value} {t : List Int} (h : IntsV n w v t) (hm : n ≤ m) : IntsV m w v t := by
  obtain ⟨a, cap, rfl, hc, hp⟩ := h
  refine ⟨a, cap, rfl, hc, fun h0 => ?_⟩
  obtain ⟨b, off, rfl, hb, hc⟩ := hp h0
  exact ⟨b, off, rfl, by omega, hc⟩
theorem map_iV_get (t : List Int) (i : Nat) (h : i < t.length) : (t.map iV)[i]? = some (.int .i64 (ld t i)) := by simp [ld, h, iV]
theorem own_ints {w : World} {base : Nat} {v : Value} {t : List Int} (h : w.ownsRow base 3 1 v t.length (t.map iV)) (h0 : 0 < t.length) : IntsV w.heap.size w v t := by
  rcases h.2 with ⟨hv, hz⟩ | ⟨g, cap, cur, hv, hb, hg, hn', _, hs, ht⟩
  · omega
  · obtain ⟨g', cap', e, hb', hlt, hc⟩ := own_get h h0
    rw [hv] at e
    cases e
    refine ⟨_, cap, hv, hn', fun _ => ⟨g, 0, rfl, hlt, fun i hi => ?_⟩⟩
    rw [Nat.zero_add, hc i (by omega)]
    exact map_iV_get t i hi

set_option maxRecDepth 100000 in
theorem app_ints (m base : Nat) (v z : Value) (ty : Nat) (t : List Int) (W : World) (h0 : 0 < t.length) (hn : t.length ≤ 1000) (hown : W.ownsRow base 3 1 v 0 []) (hb : base ≤ W.heap.size) (hz : IntsV m W z t) :
    ∃ g c w', (Builtin.append_ #[26, 26] ty #[v, z]).run Try.prog W = .ok (.slice (some ⟨g, 0, none⟩) t.length c) w' ∧ w'.ownsRow base 3 1 (.slice (some ⟨g, 0, none⟩) t.length c) t.length (t.map iV) ∧ Below base W w' := by
  obtain ⟨a, cap, rfl, -, hp⟩ := hz
  obtain ⟨b, off, rfl, hbm, hc⟩ := hp h0
  obtain ⟨i, z, hi, hz, hs, hby, hzs⟩ := el26.i
  obtain ⟨g, c, w', hrun, h2, h3, h4, h5⟩ := run_append_lies (P := Try.prog) W 26 ty base 3 i z 1 8 el26.u hi hz hs hby hzs (by decide) v 0 [] hown ⟨b, off, none⟩ t.length cap (t.map iV) (by simp)
    (fun j u hj => by
      have hjl : j < t.length := by
        have := (List.getElem?_eq_some_iff.1 hj).1
        simpa using this
      rw [Addr.add_lit, hc j hjl, ← map_iV_get t j hjl]
      exact hj)
    (fun u hu => by
      obtain ⟨x, _, rfl⟩ := List.mem_map.1 hu
      rfl) h0 (by simp [maxLen]; omega) (by omega) hb W.heap.size rfl
  rw [Nat.zero_add] at hrun h2
  rw [List.nil_append] at h2
  refine ⟨g, c, w', hrun, h2, h3.os, h3.tape, h3.output, h3.size, fun k hk => h3.block k (by omega) (fun e => ?_)⟩
  have := (own_lt hown e.symm).1
  omega

set_option maxRecDepth 100000 in
set_option maxHeartbeats 1000000 in
theorem list_any (m : Nat) (z : Value) (t : List Int) (w : World) (h0 : 0 < t.length) (hn : t.length ≤ 1000) (hz : IntsV m w z t) :
    Calls Try.prog 22 #[z] w fun e w' => (∃ v, e = .returned v ∧ IntsV w'.heap.size w' v t) ∧ Below w.heap.size w w' := by
  obtain ⟨g, c, w', hrun, hown, hb⟩ := app_ints m w.heap.size (.slice none 0 0) z 26 t w h0 hn (World.ownsRow_nil _ _ _ _) (Nat.le_refl _) hz
  have HRUN := Lib.hid hrun
  have HO := Lib.hid (own_ints hown h0)
  have HB := Lib.hid hb
  obtain ⟨a, cap, rfl, -⟩ := hz
  clear hrun hown hb
  go_enter Try.func22, Try.ntmps22
  go_wp2_with (first
    | (refine wpList_append_run (v := .slice (some ⟨g, 0, none⟩) t.length c) (W' := w') (y := .slice none 0 0) (z := .slice a t.length cap) rfl (.const (.slice none 0 0)) (.tmp 3) 26 26 26 rfl rfl rfl rfl HRUN.out ?_)
    | fail)
  go_ret
  exact ⟨⟨_, rfl, HO.out⟩, HB.out⟩

set_option maxRecDepth 100000 in
set_option maxHeartbeats 1000000 in
theorem clone_any (m : Nat) (b off cap : Nat) (t : List Int) (w : World) (h0 : 0 < t.length) (hn : t.length ≤ 1000) (hm : m ≤ w.heap.size) (hz : IntsV m w (.slice (some ⟨b, off, none⟩) t.length cap) t) :
    Calls Try.prog 65 #[.slice (some ⟨b, off, none⟩) t.length cap] w fun e w' => (∃ v, e = .returned v ∧ IntsV w'.heap.size w' v t) ∧ Below w.heap.size w w' := by
  have hal := box_below w (.cells #[] 3)
  obtain ⟨g, c, w', hrun, hown, hb⟩ := app_ints m w.heap.size (.slice (some ⟨w.heap.size, 0, none⟩) 0 0) _ 26 t (w.alloc (.cells #[] 3)) h0 hn ⟨rfl, .inr ⟨w.heap.size, 0, #[], rfl, Nat.le_refl _, heap_alloc_new w _, Nat.le_refl _, Nat.zero_le _, rfl, rfl⟩⟩ hal.size (hz.same (.below hm hal))
  have HRUN := Lib.hid hrun
  have HO := Lib.hid (own_ints hown h0)
  have HB := Lib.hid (hal.trans hb)
  have heq : ∀ w, (binOp .eql 26 (.slice (some ⟨b, off, none⟩) t.length cap) (.slice none 0 0)).run Try.prog w = .ok (.bool false) w := fun w => by kernel_rfl
  clear hrun hown hb hz hal
  go_enter Try.func65, Try.ntmps65
  go_wp2_with (first
    | (refine wpList_append_run (v := .slice (some ⟨g, 0, none⟩) t.length c) (W' := w') (y := .slice (some ⟨w.heap.size, 0, none⟩) 0 0) (z := .slice (some ⟨b, off, none⟩) t.length cap) rfl (.tmp 5) (.tmp 6) 26 26 26 rfl rfl rfl rfl HRUN.out ?_)
    | fail)
  go_ret
  exact ⟨⟨_, rfl, HO.out⟩, HB.out⟩
end Go.Proofs.Ytfijaafkagcmmaa
