/- A list of numbers as a value, and whether it has a number, by the law's own words. Conditions: the length. Of the points that may be the peak, the yield point and the meeting point: plain facts; and Span of any kind. Conditions: those of a valid curve. Points: which points may be the peak, the yield point and the meeting point: its contract. Conditions: a valid curve. -/
import Derived.Test.YtfjlnejeffkdoaaAE
import Derived.Test.YtfjlnejeffkdoaaBF
import Derived.Test.YtfjlnejeffkdoaaAV
/- A list of numbers as a value, and whether it has a number, by the law's own words. Conditions: the length. -/
namespace Go.Proofs.Ytfjlnejeffkdoaa
open Go.RowKit Go.Shelf

/-- The value holds the list. -/
structure ListV (w : World) (v : Value) (L : List Int) : Prop where
  sl : ∃ sa cap, v = .slice sa L.length cap ∧ (0 < L.length → ∃ g, sa = some ⟨g, 0, none⟩ ∧ IntsIn w g 0 L)

theorem ListV.below {w w' : World} {v : Value} {L : List Int} (h : ListV w v L) (hb : Below w.heap.size w w') : ListV w' v L := by
  obtain ⟨sa, cap, e, h1⟩ := h.sl
  refine ⟨sa, cap, e, fun hp => ?_⟩
  obtain ⟨g, e2, hi⟩ := h1 hp
  exact ⟨g, e2, hi.below hb (block_lt_of_cell (hi 0 hp))⟩

theorem ListV.of_own {w : World} {base : Nat} {v : Value} {L : List Int} (h : w.ownsRow base 3 1 v L.length (L.map (Value.int .i64))) : ListV w v L := by
  rcases h.2 with ⟨hv, h0⟩ | ⟨g, cap, cur, hv, _, hg, hn, _, hs, ht⟩
  · refine ⟨none, 0, by rw [hv, h0], fun hp => by omega⟩
  · refine ⟨some ⟨g, 0, none⟩, cap, hv, fun hp => ⟨g, rfl, fun i hi => ?_⟩⟩
    have h1 : (cur.toList.take (L.length * 1))[i]? = (L.map (Value.int .i64))[i]? := by rw [ht]
    rw [List.getElem?_take_of_lt (by omega)] at h1
    rw [cell_of_row w g (0 + i) _ _ _ hg, Nat.zero_add]
    rw [← Array.getElem?_toList, h1]
    simp [ld, hi]

theorem take_succ_mem {L : List Int} {q : Nat} (h : q < L.length) (x : Int) : x ∈ L.take (q + 1) ↔ x ∈ L.take q ∨ x = ld L q := by
  rw [List.take_add_one, List.mem_append, List.getElem?_eq_getElem h]
  simp [ld, h]

set_option maxRecDepth 100000 in
set_option maxHeartbeats 1000000 in
theorem has_list (v : Value) (L : List Int) (x : Int) (w : World) (hn : L.length ≤ 1000) (h : ListV w v L) :
    Calls Try.prog 43 #[v, .int .i64 x] w fun e w' => e = .returned (.bool (decide (x ∈ L))) ∧ Below w.heap.size w w' := by
  obtain ⟨sa, cap, rfl, h1⟩ := h.sl
  clear h
  have H1 := Lib.hid h1
  clear h1
  go_enter Try.func43, Try.ntmps43
  go_wp2
  go_loopw [5] (fun i wr => ∃ q : Nat, q ≤ L.length ∧ i = .int .i64 q ∧ wr = w ∧ Hid (x ∉ L.take q)) (fun i _ => L.length - (intOf i).toNat)
  case atStart => exact ⟨0, Nat.zero_le _, by first | trivial | rfl, by first | trivial | rfl, Lib.hid (by simp)⟩
  case round =>
    obtain ⟨q, hq, rfl, rfl, hx⟩ := hrel
    by_cases hlt : q < L.length
    · obtain ⟨g, rfl, hi⟩ := H1.out (by omega)
      have c0 := hi q hlt
      rw [Nat.zero_add] at c0
      have hqn : (q : Int) < L.length := by omega
      have HM := Lib.hid (take_succ_mem hlt x)
      by_cases he : ld L q = x
      · rw [he] at c0
        have hin : x ∈ L := List.mem_of_mem_take (HM.out.2 (.inr he.symm))
        have e1 : decide (x ∈ L) = true := decide_eq_true hin
        have E1 := Lib.hid e1
        clear hi e1
        go_wp2
        go_ret
        exact ⟨by rw [E1.out]; rfl, Below.refl _ _⟩
      · have hne : ((ld L q) == x) = false := by rw [beq_eq_false_iff_ne]; exact he
        generalize hy : ld L q = y at *
        clear hi
        go_wp2
        go_roundw
        case rel => exact ⟨q + 1, by omega, by simp, by first | trivial | rfl, Lib.hid (fun hc => by rcases HM.out.1 hc with h | h; exact hx.out h; exact he h.symm)⟩
        case measure => simp [intOf]; omega
    · obtain rfl : q = L.length := by omega
      have e1 : decide (x ∈ L) = false := by
        rw [decide_eq_false_iff_not]
        have := hx.out
        rwa [List.take_length] at this
      have E1 := Lib.hid e1
      clear e1
      go_wp2
      go_ret
      exact ⟨by rw [E1.out]; rfl, Below.refl _ _⟩
end Go.Proofs.Ytfjlnejeffkdoaa

/- Of the points that may be the peak, the yield point and the meeting point: plain facts; and Span of any kind. Conditions: those of a valid curve. -/
namespace Go.Proofs.Ytfjlnejeffkdoaa
open Go.RowKit Go.Shelf

/-- The points that may be, of a kind. -/
def mayP (ps : List Pt) (r : Rl) (kd : Int) : List Int := mayTo (numsL ps r (fndOf kd) (tsOf ps r kd)) 20

theorem mem_mayTo {xs : List (Int × Int)} {q : Nat} {i : Int} : i ∈ mayTo xs q ↔ ∃ k : Nat, k < q ∧ i = k ∧ ∃ x ∈ xs, x.1 = i := by
  simp only [mayTo, List.mem_map, List.mem_filter, List.mem_range, mayAt, List.any_eq_true, beq_iff_eq]
  constructor
  · rintro ⟨k, ⟨hk, x, hx, e⟩, rfl⟩
    exact ⟨k, hk, rfl, x, hx, e⟩
  · rintro ⟨k, hk, rfl, x, hx, e⟩
    exact ⟨k, ⟨hk, x, hx, e⟩, rfl⟩

theorem mayP_len (ps : List Pt) (r : Rl) (kd : Int) : (mayP ps r kd).length ≤ 20 := mayTo_len _ _

theorem fnd_at (kd : Int) (hk : kd = 0 ∨ kd = 1 ∨ kd = 2) (x : Rs) : (fndOf kd x).1 = atOf kd x := by
  rcases hk with rfl | rfl | rfl <;> rfl

theorem peak_at {ps : List Pt} {r : Rl} {t : List Int} (F : Sane ps r) (h : IsTr ps t) : ∃ k : Nat, k < ps.length ∧ (readR ps r t).pk = k := by
  rcases fst_cases (fun i => grt (t.take ps.length) == ld t i) ps.length with ⟨e, _⟩ | ⟨k, hk, e, _⟩
  · exact absurd e (tr_pk F h)
  · exact ⟨k, hk, e⟩

theorem at_in {ps : List Pt} {r : Rl} {t : List Int} (F : Sane ps r) (kd : Int) (hk : kd = 0 ∨ kd = 1 ∨ kd = 2) (h : IsTr ps t) (hne : atOf kd (readR ps r t) ≠ -1) : ∃ k : Nat, k < ps.length ∧ atOf kd (readR ps r t) = k := by
  rcases hk with rfl | rfl | rfl
  · exact peak_at F h
  · obtain ⟨k, h1, h2, _⟩ := yield_at (ps := ps) (r := r) (t := t) hne
    exact ⟨k, by omega, h2⟩
  · obtain ⟨k, h1, h2, _⟩ := meet_at (ps := ps) (r := r) (t := t) hne
    exact ⟨k, h1, h2⟩

theorem fnd_in {ps : List Pt} {r : Rl} (F : Sane ps r) (kd : Int) (hk : kd = 0 ∨ kd = 1 ∨ kd = 2) (t : List Int) (h : IsTr ps t) (hne : (fndOf kd (readR ps r t)).1 ≠ -1) : 0 ≤ (fndOf kd (readR ps r t)).1 ∧ (fndOf kd (readR ps r t)).1 < 20 := by
  rw [fnd_at kd hk] at hne ⊢
  obtain ⟨k, h1, h2⟩ := at_in F kd hk h hne
  have := F.len
  rw [h2]
  omega

theorem mem_mayP {ps : List Pt} {r : Rl} (F : Sane ps r) (kd : Int) (hk : kd = 0 ∨ kd = 1 ∨ kd = 2) {i : Int} : i ∈ mayP ps r kd ↔ ∃ u ∈ tsOf ps r kd, atOf kd (readR ps r u) = i ∧ i ≠ -1 := by
  unfold mayP
  rw [mem_mayTo]
  constructor
  · rintro ⟨k, hk2, rfl, x, hx, e⟩
    simp only [numsL, List.mem_filter, List.mem_map, bne_iff_ne] at hx
    obtain ⟨⟨u, hu, rfl⟩, hne⟩ := hx
    rw [fnd_at kd hk] at e
    exact ⟨u, hu, e, by omega⟩
  · rintro ⟨u, hu, rfl, hne⟩
    have htr := ts_tr F kd u hu
    obtain ⟨k, h1, h2⟩ := at_in F kd hk htr hne
    have hlen := F.len
    refine ⟨k, by omega, h2, fndOf kd (readR ps r u), nums_in hu (by rw [fnd_at kd hk]; exact hne), fnd_at kd hk _⟩

theorem may_truth {ps : List Pt} {r : Rl} (F : Sane ps r) (hg : goodsB ps 0 = true) (kd : Int) (hk : kd = 0 ∨ kd = 1 ∨ kd = 2) {t : List Int} (h : IsTr ps t) (ha : atOf kd (readR ps r t) ≠ -1) : atOf kd (readR ps r t) ∈ mayP ps r kd := by
  obtain ⟨u, hu, e⟩ := may_all F hg kd hk h ha
  exact (mem_mayP F kd hk).2 ⟨u, hu, e, ha⟩

theorem may_none {ps : List Pt} {r : Rl} (F : Sane ps r) (kd : Int) (hk : kd = 0 ∨ kd = 1 ∨ kd = 2) : spanP ps r kd = none ↔ mayP ps r kd = [] := by
  constructor
  · intro h
    have hn := (bnd_mem _ _ rfl).1 h
    unfold mayP
    rw [hn]
    rfl
  · intro h
    cases hb : spanP ps r kd with
    | none => rfl
    | some x =>
      obtain ⟨⟨x0, hx0, _⟩, _⟩ := (bnd_mem _ _ rfl).2 x.1 x.2 hb
      simp only [numsL, List.mem_filter, List.mem_map, bne_iff_ne] at hx0
      obtain ⟨⟨u, hu, rfl⟩, hne⟩ := hx0
      rw [fnd_at kd hk] at hne
      have := (mem_mayP F kd hk).2 ⟨u, hu, rfl, hne⟩
      rw [h] at this
      cases this

theorem may_better {qs ps : List Pt} {r : Rl} (F : Sane ps r) (G : Sane qs r) (hg : goodsB ps 0 = true) (hn : Narrow qs ps) (kd : Int) (hk : kd = 0 ∨ kd = 1 ∨ kd = 2) {i : Int} (h : i ∈ mayP qs r kd) : i ∈ mayP ps r kd := by
  obtain ⟨u, hu, rfl, hne⟩ := (mem_mayP G kd hk).1 h
  obtain ⟨v, hv, e⟩ := better_may F G hg hn kd hk hu hne
  exact (mem_mayP F kd hk).2 ⟨v, hv, e, hne⟩

theorem kindP {ps : List Pt} {r : Rl} (F : Sane ps r) (kd : Int) (hk : kd = 0 ∨ kd = 1 ∨ kd = 2 ∨ kd = 3) : ∃ ft fg, KindOf kd ft fg (fndOf kd) ∧ ∀ b off cap, TruthsOf ps r b off cap ft (tsOf ps r kd) := by
  rcases hk with rfl | rfl | rfl | rfl
  · exact ⟨77, 78, kind0, fun b off cap => truths_raised F b off cap⟩
  · exact ⟨79, 80, kind1, fun b off cap => truths_yield F b off cap⟩
  · exact ⟨81, 82, kind2, fun b off cap => truths_meet F b off cap⟩
  · exact ⟨83, 84, kind3, fun b off cap => truths_ends F b off cap⟩

theorem Span_kd (b off cap : Nat) (kd : Int) (ps : List Pt) (r : Rl) (w : World) (F : Sane ps r) (HE : bothE ps r = 0) (hk : kd = 0 ∨ kd = 1 ∨ kd = 2 ∨ kd = 3) (hp : PtsIn w b off ps) :
    Calls Try.prog 28 #[.agg #[.slice (some ⟨b, off, none⟩) ps.length cap], .agg #[.int .i64 r.d, .int .i64 r.k, .int .i64 r.o], .int .u8 kd] w fun e w' => e = .returned (spanR (spanP ps r kd)) ∧ Below w.heap.size w w' := by
  obtain ⟨ft, fg, hK, hT⟩ := kindP F kd hk
  exact Span_ok ft fg b off cap kd ps r _ _ w F HE (hT b off cap) hK.f hK.q hp
end Go.Proofs.Ytfjlnejeffkdoaa

/- Points: which points may be the peak, the yield point and the meeting point: its contract. Conditions: a valid curve. -/
namespace Go.Proofs.Ytfjlnejeffkdoaa
open Go.RowKit Go.Shelf
attribute [local irreducible] arrV
attribute [local go_sem] Oper.semAt_some

set_option maxRecDepth 100000 in
set_option maxHeartbeats 1000000 in
theorem may_ok (kd : Int) (Bx b off cap : Nat) (ps : List Pt) (r : Rl) (w : World) (F : Sane ps r) (hk : kd = 0 ∨ kd = 1 ∨ kd = 2) (hB : Box w Bx b off cap ps r) :
    Calls Try.prog 56 #[.int .u8 kd, .pointer (some ⟨Bx, 0, none⟩)] w fun e w' => ∃ v, e = .returned v ∧ ListV w' v (mayP ps r kd) ∧ Below w.heap.size w w' := by
  obtain ⟨ft, fg, hK, hT⟩ := kindP F kd (by omega)
  have hltb : b < w.heap.size := block_lt_of_cell (hB.pts 0 F.pos).1
  have HK := Lib.hid hK.q
  have HPF := Lib.hid points_fn
  have HCO := Lib.hid fun (Br Bq : Nat) (W : World) (h1 : Box W Br b off cap ps r) (h2 : W.heap[Bq]? = some (.cells #[.func (.func ft) #[] #[], .func (.func fg) #[] #[]] 105 (0, 0))) =>
    collect_ok 86 #[.pointer (some ⟨Br, 0, none⟩), .pointer (some ⟨Bq, 0, none⟩)] (fun k => k = Br ∨ k = b ∨ k = Bq) (mayP ps r kd) W (fun args w => enters_of Try.func86 (by kernel_rfl) rfl args w)
      (points_seq ft fg Bq Br b off cap W.heap.size ps r (tsOf ps r kd) (fndOf kd) W F (hT b off cap) hK.f (fnd_in F kd hk) (Nat.le_refl _) h1 h2)
      (fun k hk => by
        rcases hk with rfl | rfl | rfl
        · exact lt_of_dblock h1.blk
        · exact block_lt_of_cell (h1.pts 0 F.pos).1
        · exact lt_of_dblock h2)
  have HBX := Lib.hid hB
  clear hB hT hK
  go_enter Try.func56, Try.ntmps56
  go_wp2_with fail
  refine (HK.out _).mono ?_
  rintro e w1 ⟨rfl, hb1⟩
  have hB1 : Box w1 Bx b off cap ps r := HBX.out.but (But.of_below (T := fun _ => False) hb1) id id
  have hz := box_below w1 (.cells #[.nilFunc, .nilFunc] 105)
  have c0 := cell_of_row w1 Bx 0 _ _ _ hB1.blk
  have c1 := cell_of_row w1 Bx 1 _ _ _ hB1.blk
  have c2 := cell_of_row w1 Bx 2 _ _ _ hB1.blk
  have c3 := cell_of_row w1 Bx 3 _ _ _ hB1.blk
  simp at c0 c1 c2 c3
  have hlx := lt_of_dblock hB1.blk
  go_wp2_with fail
  obtain ⟨W0, hW0⟩ : ∃ W0, w1.alloc (.cells #[.func (.func ft) #[] #[], .func (.func fg) #[] #[]] 105) = W0 := ⟨_, rfl⟩
  rw [hW0]
  have hb0 : Below w1.heap.size w1 W0 := by rw [← hW0]; exact box_below _ _
  have hB0 : Box W0 Bx b off cap ps r := hB1.but (But.of_below (T := fun _ => False) hb0) id id
  have hbw0 := below_to hb1 hb0
  clear c0 c1 c2 c3 hlx hz hb1 hB1
  refine (HPF.out _ _ _ _ _ _ W0).mono ?_
  rintro e w2 ⟨rfl, hw2⟩
  obtain ⟨y1, y2⟩ := box2 W0 (.cells #[.slice (some ⟨b, off, none⟩) ps.length cap, .int .i64 r.d, .int .i64 r.k, .int .i64 r.o] 94) (.cells #[.func (.func ft) #[] #[], .func (.func fg) #[] #[]] 105)
  have hb2 := below2 W0 (.cells #[.slice (some ⟨b, off, none⟩) ps.length cap, .int .i64 r.d, .int .i64 r.k, .int .i64 r.o] 94) (.cells #[.func (.func ft) #[] #[], .func (.func fg) #[] #[]] 105)
  rw [← hw2] at y1 y2 hb2
  have hlb : b < W0.heap.size := block_lt_of_cell (hB0.pts 0 F.pos).1
  have hB2 : Box w2 W0.heap.size b off cap ps r := ⟨y1, hB0.pts.below hb2 hlb⟩
  have HC2 := Lib.hid (HCO.out _ _ w2 hB2 y2)
  have HBW := Lib.hid (below_to hbw0 hb2)
  clear hw2 hb2 y1 y2 hB2 hb0 hB0 hbw0 HCO HPF HK hlb
  go_wp2_with fail
  refine HC2.out.mono ?_
  rintro e w3 ⟨v, rfl, ho, hb3⟩
  have HV := Lib.hid (ListV.of_own ho)
  have hbf := below_to HBW.out hb3
  clear ho hb3
  go_wp2
  go_ret
  exact ⟨v, rfl, HV.out, hbf⟩

set_option maxRecDepth 100000 in
set_option maxHeartbeats 1000000 in
theorem Points_ok (b off cap : Nat) (ps : List Pt) (r : Rl) (w : World) (F : Sane ps r) (HE : bothE ps r = 0) (hp : PtsIn w b off ps) :
    Calls Try.prog 31 #[.agg #[.slice (some ⟨b, off, none⟩) ps.length cap], .agg #[.int .i64 r.d, .int .i64 r.k, .int .i64 r.o]] w fun e w' => ∃ v0 v1 v2, e = .returned (.tuple #[v0, v1, v2, .int .i64 0]) ∧
      ListV w' v0 (mayP ps r 0) ∧ ListV w' v1 (mayP ps r 1) ∧ ListV w' v2 (mayP ps r 2) ∧ Below w.heap.size w w' := by
  have hltb : b < w.heap.size := block_lt_of_cell (hp 0 F.pos).1
  have hb3 := below3 w (.cells #[.slice (some ⟨b, off, none⟩) ps.length cap] 34) (.cells #[.int .i64 r.d, .int .i64 r.k, .int .i64 r.o] 40) (.cells #[.slice (some ⟨b, off, none⟩) ps.length cap, .int .i64 r.d, .int .i64 r.k, .int .i64 r.o] 94)
  obtain ⟨-, -, x2⟩ := box3 w (.cells #[.slice (some ⟨b, off, none⟩) ps.length cap] 34) (.cells #[.int .i64 r.d, .int .i64 r.k, .int .i64 r.o] 40) (.cells #[.slice (some ⟨b, off, none⟩) ps.length cap, .int .i64 r.d, .int .i64 r.k, .int .i64 r.o] 94)
  have HRC := Lib.hid fun W (hb : Below w.heap.size w W) => rcheck_pts b off cap ps r.d r.k r.o W F.len F.pos (hp.below hb hltb)
  rw [show bothE ps ⟨r.d, r.k, r.o⟩ = 0 from HE] at HRC
  have HMY := Lib.hid fun (kd : Int) (Bx : Nat) (W : World) (hk : kd = 0 ∨ kd = 1 ∨ kd = 2) (hB : Box W Bx b off cap ps r) => may_ok kd Bx b off cap ps r W F hk hB
  have HB3 := Lib.hid hb3
  have X2 := Lib.hid x2
  have HP := Lib.hid fun W (hb : Below w.heap.size w W) => hp.below hb hltb
  clear hb3 x2 hp HE F hltb
  go_enter Try.func31, Try.ntmps31
  go_wp2_with fail
  generalize World.alloc (World.alloc (World.alloc w _) _) _ = W0 at *
  refine (HRC.out W0 HB3.out).mono ?_
  rintro e w1 ⟨rfl, hb1⟩
  have HBW := Lib.hid (below_to HB3.out hb1)
  have hB1 : Box w1 (w.heap.size + 1 + 1) b off cap ps r := ⟨(hb1.block _ (lt_of_dblock X2.out)).trans X2.out, HP.out w1 HBW.out⟩
  have HBX := Lib.hid hB1
  clear hb1 hB1 HRC HB3 X2
  clear W0
  go_wp2_with fail
  refine (HMY.out 0 _ w1 (.inl rfl) HBX.out).mono ?_
  rintro e w2 ⟨v0, rfl, h0, hb2⟩
  have H0 := Lib.hid h0
  have HB2 := Lib.hid hb2
  have HBX2 : Hid (Box w2 (w.heap.size + 1 + 1) b off cap ps r) := Lib.hid (HBX.out.but (But.of_below (T := fun _ => False) hb2) id id)
  clear h0 hb2
  go_wp2_with fail
  refine (HMY.out 1 _ w2 (.inr (.inl rfl)) HBX2.out).mono ?_
  rintro e w3 ⟨v1, rfl, h1, hb3⟩
  have H1 := Lib.hid h1
  have HB3 := Lib.hid hb3
  have HBX3 : Hid (Box w3 (w.heap.size + 1 + 1) b off cap ps r) := Lib.hid (HBX2.out.but (But.of_below (T := fun _ => False) hb3) id id)
  clear h1 hb3
  go_wp2_with fail
  refine (HMY.out 2 _ w3 (.inr (.inr rfl)) HBX3.out).mono ?_
  rintro e w4 ⟨v2, rfl, h2, hb4⟩
  have H2 := Lib.hid h2
  have HB4 := Lib.hid hb4
  clear h2 hb4 HMY HBX HBX2 HBX3 HP
  go_wp2
  refine bodyPost_ret (v := .tuple #[v0, v1, v2, .int .i64 0]) (by simp [results, Try.results31, go_sem]) rfl ?_
  exact ⟨v0, v1, v2, rfl, (H0.out.below HB3.out).below HB4.out, H1.out.below HB4.out, H2.out, below_to (below_to (below_to HBW.out HB2.out) HB3.out) HB4.out⟩
end Go.Proofs.Ytfjlnejeffkdoaa
