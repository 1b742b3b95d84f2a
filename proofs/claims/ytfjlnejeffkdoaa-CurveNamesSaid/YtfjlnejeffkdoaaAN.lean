/- Shows: its contract for a valid curve and rule. -/
import Derived.Test.YtfjlnejeffkdoaaAM
import Derived.Deep.Cut
namespace Go.Proofs.Ytfjlnejeffkdoaa
open Go.RowKit Go.Shelf
attribute [local irreducible] arrV wpQuiet

theorem bnd_mem : ∀ (n : Nat) (xs : List (Int × Int)), xs.length = n → (bnd xs = none → xs = []) ∧ ∀ lo hi, bnd xs = some (lo, hi) → (∃ x ∈ xs, x.2 = lo) ∧ (∃ x ∈ xs, x.2 = hi) ∧ ∀ x ∈ xs, lo ≤ x.2 ∧ x.2 ≤ hi
  | 0, xs, h => by
    obtain rfl := List.eq_nil_of_length_eq_zero h
    exact ⟨fun _ => rfl, fun lo hi h => by cases h⟩
  | n + 1, xs, h => by
    rcases List.eq_nil_or_concat xs with rfl | ⟨ys, x, rfl⟩
    · simp at h
    · simp only [List.concat_eq_append] at h ⊢
      have hl : ys.length = n := by simpa using h
      obtain ⟨h1, h2⟩ := bnd_mem n ys hl
      rw [bnd_snoc]
      refine ⟨fun hn => ?_, fun lo hi hb => ?_⟩
      · have := bndStep_some (bnd ys) x.2
        rw [hn] at this
        cases this
      · cases hy : bnd ys with
        | none =>
          rw [hy] at hb
          obtain ⟨rfl, rfl⟩ : x.2 = lo ∧ x.2 = hi := by simpa [bndStep] using hb
          have := h1 hy
          subst this
          exact ⟨⟨x, by simp, rfl⟩, ⟨x, by simp, rfl⟩, fun z hz => by
            obtain rfl : z = x := by simpa using hz
            exact ⟨Int.le_refl _, Int.le_refl _⟩⟩
        | some o =>
          obtain ⟨lo', hi'⟩ := o
          rw [hy] at hb
          obtain ⟨rfl, rfl⟩ : min lo' x.2 = lo ∧ max hi' x.2 = hi := by simpa [bndStep] using hb
          obtain ⟨⟨u, hu, eu⟩, ⟨v, hv, ev⟩, hall⟩ := h2 lo' hi' hy
          refine ⟨?_, ?_, fun z hz => ?_⟩
          · rcases Int.le_total lo' x.2 with h | h
            · exact ⟨u, by simp [hu], by omega⟩
            · exact ⟨x, by simp, by omega⟩
          · rcases Int.le_total hi' x.2 with h | h
            · exact ⟨x, by simp, by omega⟩
            · exact ⟨v, by simp [hv], by omega⟩
          · rcases List.mem_append.1 hz with hz | hz
            · have := hall z hz
              omega
            · obtain rfl : z = x := by simpa using hz
              omega
theorem nums_mem {ps : List Pt} {r : Rl} {fnd : Rs → Int × Int} {ts : List (List Int)} {x : Int × Int} (h : x ∈ numsL ps r fnd ts) : ∃ t ∈ ts, (fnd (readR ps r t)).1 ≠ -1 ∧ (fnd (readR ps r t)).2 = x.2 := by
  simp only [numsL, List.mem_filter, List.mem_map, bne_iff_ne] at h
  obtain ⟨⟨t, ht, rfl⟩, h2⟩ := h
  exact ⟨t, ht, h2, rfl⟩

/-- What Shows gives back. -/
def ShowP (ps : List Pt) (r : Rl) (fnd : Rs → Int × Int) (high : Bool) (H : Nat) (w' : World) : Option (Int × Int) → Value → Prop
  | none, v => v = .tuple #[.slice none 0 0, .int .i64 7]
  | some (lo, hi), v => ∃ t B c, IsTr ps t ∧ (fnd (readR ps r t)).1 ≠ -1 ∧ (fnd (readR ps r t)).2 = (if high then hi else lo) ∧ v = .tuple #[.slice (some ⟨B, 0, none⟩) ps.length c, .int .i64 0] ∧ IntsIn w' B 0 (t.take ps.length) ∧ H ≤ B

set_option maxRecDepth 100000 in
set_option maxHeartbeats 2000000 in
theorem Shows_ok (ft fg b off cap : Nat) (kd : Int) (high : Bool) (ps : List Pt) (r : Rl) (ts : List (List Int)) (fnd : Rs → Int × Int) (w : World) (F : Sane ps r) (HE : bothE ps r = 0) (HT : TruthsOf ps r b off cap ft ts) (hK : KindOf kd ft fg fnd) (hp : PtsIn w b off ps)
    (HCL : ∀ (b off cap : Nat) (t : List Int) (w : World), 0 < t.length → t.length ≤ 100 → IntsIn w b off t → Calls Try.prog 87 #[.slice (some ⟨b, off, none⟩) t.length cap] w fun e w' => ∃ B c, e = .returned (.slice (some ⟨B, 0, none⟩) t.length c) ∧ IntsIn w' B 0 t ∧ w.heap.size ≤ B ∧ Below w.heap.size w w') :
    Calls Try.prog 34 #[.agg #[.slice (some ⟨b, off, none⟩) ps.length cap], .agg #[.int .i64 r.d, .int .i64 r.k, .int .i64 r.o], .int .u8 kd, .bool high] w fun e w' => ∃ v, e = .returned v ∧ ShowP ps r fnd high w.heap.size w' (bnd (numsL ps r fnd ts)) v ∧ Below w.heap.size w w' := by
  have hltb : b < w.heap.size := block_lt_of_cell (hp 0 F.pos).1
  have HC := Lib.hid fun W (hb : Below w.heap.size w W) => spanOf_ok ft fg b off cap kd ps r ts fnd W F HE HT hK.f hK.q (hp.below hb hltb)
  have HS := Lib.hid fun nn W (hb : Below w.heap.size w W) hex => show_ok ft fg b off cap nn ps r ts fnd W F HT hK.f (hp.below hb hltb) HCL hex
  obtain ⟨x0, x1, x2⟩ := box3 w (.cells #[.slice (some ⟨b, off, none⟩) ps.length cap] 34) (.cells #[.int .i64 r.d, .int .i64 r.k, .int .i64 r.o] 40) (.cells #[.slice (some ⟨b, off, none⟩) ps.length cap, .int .i64 r.d, .int .i64 r.k, .int .i64 r.o] 94)
  have hb3 := below3 w (.cells #[.slice (some ⟨b, off, none⟩) ps.length cap] 34) (.cells #[.int .i64 r.d, .int .i64 r.k, .int .i64 r.o] 40) (.cells #[.slice (some ⟨b, off, none⟩) ps.length cap, .int .i64 r.d, .int .i64 r.k, .int .i64 r.o] 94)
  have hmem := (bnd_mem _ (numsL ps r fnd ts) rfl).2
  have HM : Hid (∀ lo hi, bnd (numsL ps r fnd ts) = some (lo, hi) → (∃ t ∈ ts, (fnd (readR ps r t)).1 ≠ -1 ∧ (fnd (readR ps r t)).2 = lo) ∧ ∃ t ∈ ts, (fnd (readR ps r t)).1 ≠ -1 ∧ (fnd (readR ps r t)).2 = hi) := Lib.hid fun lo hi h => by
    obtain ⟨⟨u, hu, eu⟩, ⟨v, hv, ev⟩, -⟩ := hmem lo hi h
    have h1 := nums_mem hu
    have h2 := nums_mem hv
    rw [eu] at h1
    rw [ev] at h2
    exact ⟨h1, h2⟩
  clear hmem hK HT HCL hp
  generalize bnd (numsL ps r fnd ts) = o at *
  cases o with
  | none =>
    go_enter Try.func34, Try.ntmps34
    go_wp2_with fail
    generalize World.alloc (World.alloc (World.alloc w _) _) _ = W at *
    refine (HC.out W hb3).mono ?_
    unfold spanV
    rintro e w1 ⟨rfl, hb1⟩
    have HB1 := Lib.hid (below_to hb3 hb1)
    clear hb1 hb3 x0 x1 x2
    go_wp2
    refine bodyPost_ret (v := .tuple #[.slice none 0 0, .int .i64 7]) (by simp [results, Try.results34, go_sem]) rfl ⟨_, rfl, rfl, ?_⟩
    exact below_to HB1.out (below2 w1 _ _)
  | some o =>
    obtain ⟨lo, hi⟩ := o
    obtain ⟨hlo, hhi⟩ := HM.out lo hi rfl
    have HLO := Lib.hid hlo
    have HHI := Lib.hid hhi
    clear hlo hhi HM
    cases high
    · go_enter Try.func34, Try.ntmps34
      go_wp2_with fail
      generalize World.alloc (World.alloc (World.alloc w _) _) _ = W at *
      refine (HC.out W hb3).mono ?_
      unfold spanV
      rintro e w1 ⟨rfl, hb1⟩
      have HB1 := Lib.hid (below_to hb3 hb1)
      have z2 := (hb1.block _ (lt_of_block x2)).trans x2
      have c0 := cell_of_row w1 (w.heap.size + 1 + 1) 0 _ _ _ z2
      have c1 := cell_of_row w1 (w.heap.size + 1 + 1) 1 _ _ _ z2
      have c2 := cell_of_row w1 (w.heap.size + 1 + 1) 2 _ _ _ z2
      have c3 := cell_of_row w1 (w.heap.size + 1 + 1) 3 _ _ _ z2
      simp at c0 c1 c2 c3
      have hl2 := lt_of_block z2
      clear hb1 hb3 x0 x1 x2
      go_upto_region 7 with fail
      obtain ⟨q1, q2⟩ := box2 w1 (.cells #[.func (.func ft) #[] #[], .func (.func fg) #[] #[]] 105) (.cells #[.int .i64 lo, .int .i64 hi] 51)
      have hb4 := below2 w1 (.cells #[.func (.func ft) #[] #[], .func (.func fg) #[] #[]] 105) (.cells #[.int .i64 lo, .int .i64 hi] 51)
      replace z2 := (hb4.block _ hl2).trans z2
      clear c0 c1 c2 c3 hl2
      generalize World.alloc (World.alloc w1 _) _ = W2 at *
      have HB2 := Lib.hid (below_to HB1.out hb4)
      have c0 := cell_of_row W2 (w.heap.size + 1 + 1) 0 _ _ _ z2
      have c1 := cell_of_row W2 (w.heap.size + 1 + 1) 1 _ _ _ z2
      have c2 := cell_of_row W2 (w.heap.size + 1 + 1) 2 _ _ _ z2
      have c3 := cell_of_row W2 (w.heap.size + 1 + 1) 3 _ _ _ z2
      have d0 := cell_of_row W2 w1.heap.size 0 _ _ _ q1
      have d1 := cell_of_row W2 w1.heap.size 1 _ _ _ q1
      have e0 := cell_of_row W2 (w1.heap.size + 1) 0 _ _ _ q2
      have e1 := cell_of_row W2 (w1.heap.size + 1) 1 _ _ _ q2
      simp at c0 c1 c2 c3 d0 d1 e0 e1
      clear hb4 q1 q2 z2
      go_wp2_with fail
      refine (HS.out lo _ HB2.out HLO.out).mono ?_
      rintro e w2 ⟨v, rfl, t, B, c, h1, h2, h3, rfl, h4, h5, h6⟩
      have hbf := below_to HB2.out h6
      have hBB : w.heap.size ≤ B := by have := HB2.out.size; omega
      clear c0 c1 c2 c3 d0 d1 e0 e1 h5 h6
      go_wp2
      refine bodyPost_ret (v := .tuple #[.slice (some ⟨B, 0, none⟩) ps.length c, .int .i64 0]) (by simp [results, Try.results34, go_sem]) rfl ⟨_, rfl, ⟨t, B, c, h1, h2, h3, rfl, h4, hBB⟩, hbf⟩
    · go_enter Try.func34, Try.ntmps34
      go_wp2_with fail
      generalize World.alloc (World.alloc (World.alloc w _) _) _ = W at *
      refine (HC.out W hb3).mono ?_
      unfold spanV
      rintro e w1 ⟨rfl, hb1⟩
      have HB1 := Lib.hid (below_to hb3 hb1)
      have z2 := (hb1.block _ (lt_of_block x2)).trans x2
      have c0 := cell_of_row w1 (w.heap.size + 1 + 1) 0 _ _ _ z2
      have c1 := cell_of_row w1 (w.heap.size + 1 + 1) 1 _ _ _ z2
      have c2 := cell_of_row w1 (w.heap.size + 1 + 1) 2 _ _ _ z2
      have c3 := cell_of_row w1 (w.heap.size + 1 + 1) 3 _ _ _ z2
      simp at c0 c1 c2 c3
      have hl2 := lt_of_block z2
      clear hb1 hb3 x0 x1 x2
      go_upto_region 6 with fail
      obtain ⟨q1, q2⟩ := box2 w1 (.cells #[.func (.func ft) #[] #[], .func (.func fg) #[] #[]] 105) (.cells #[.int .i64 lo, .int .i64 hi] 51)
      have hb4 := below2 w1 (.cells #[.func (.func ft) #[] #[], .func (.func fg) #[] #[]] 105) (.cells #[.int .i64 lo, .int .i64 hi] 51)
      replace z2 := (hb4.block _ hl2).trans z2
      clear c0 c1 c2 c3 hl2
      generalize World.alloc (World.alloc w1 _) _ = W2 at *
      have HB2 := Lib.hid (below_to HB1.out hb4)
      have c0 := cell_of_row W2 (w.heap.size + 1 + 1) 0 _ _ _ z2
      have c1 := cell_of_row W2 (w.heap.size + 1 + 1) 1 _ _ _ z2
      have c2 := cell_of_row W2 (w.heap.size + 1 + 1) 2 _ _ _ z2
      have c3 := cell_of_row W2 (w.heap.size + 1 + 1) 3 _ _ _ z2
      have d0 := cell_of_row W2 w1.heap.size 0 _ _ _ q1
      have d1 := cell_of_row W2 w1.heap.size 1 _ _ _ q1
      have e0 := cell_of_row W2 (w1.heap.size + 1) 0 _ _ _ q2
      have e1 := cell_of_row W2 (w1.heap.size + 1) 1 _ _ _ q2
      simp at c0 c1 c2 c3 d0 d1 e0 e1
      clear hb4 q1 q2 z2
      go_wp2_with fail
      refine (HS.out hi _ HB2.out HHI.out).mono ?_
      rintro e w2 ⟨v, rfl, t, B, c, h1, h2, h3, rfl, h4, h5, h6⟩
      have hbf := below_to HB2.out h6
      have hBB : w.heap.size ≤ B := by have := HB2.out.size; omega
      clear c0 c1 c2 c3 d0 d1 e0 e1 h5 h6
      go_wp2
      refine bodyPost_ret (v := .tuple #[.slice (some ⟨B, 0, none⟩) ps.length c, .int .i64 0]) (by simp [results, Try.results34, go_sem]) rfl ⟨_, rfl, ⟨t, B, c, h1, h2, h3, rfl, h4, hBB⟩, hbf⟩
end Go.Proofs.Ytfjlnejeffkdoaa
