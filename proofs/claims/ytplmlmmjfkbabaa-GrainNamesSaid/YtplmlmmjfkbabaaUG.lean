/- The map of tight steps: a contract. Condition: a valid album, nothing is great. -/
import Derived.Test.YtplmlmmjfkbabaaUCJ
import Derived.Test.YtplmlmmjfkbabaaUF
import Derived.Test.YtplmlmmjfkbabaaSU
namespace Go.Proofs.Ytplmlmmjfkbabaa
open Go.RowKit Go.Shelf
attribute [local irreducible] arrV wpQuiet mat shl
attribute [local go_sem] Oper.semAt_some

/-- The map holds the tight steps of the comparisons before a number, and of some of its own. -/
structure TMq (cs : List Cm) (d : Dm) (hi : Bool) (q : Nat) (pre : List Bd) (E : MpE) : Prop where
  says : ∀ p n, findE p E = some n → ∃ i : Nat, n = i ∧ i < cs.length ∧ ∃ b, b ∈ bdsL (cm cs i) ∧ (b.f, b.t) = p ∧ TightB d hi b
  all : ∀ i : Nat, i < q → i < cs.length → ∀ b, b ∈ bdsL (cm cs i) → TightB d hi b → (findE (b.f, b.t) E).isSome = true
  now : ∀ b, b ∈ pre → TightB d hi b → (findE (b.f, b.t) E).isSome = true
theorem TMq.nil (cs : List Cm) (d : Dm) (hi : Bool) : TMq cs d hi 0 [] [] := ⟨fun p n h => (by cases h), fun i h => absurd h (Nat.not_lt_zero _), fun b h => (by cases h)⟩
theorem TMq.put {cs : List Cm} {d : Dm} {hi : Bool} {q : Nat} {pre : List Bd} {E : MpE} {b : Bd} (h : TMq cs d hi q pre E) (hq : q < cs.length) (hb : b ∈ bdsL (cm cs q)) (ht : TightB d hi b) : TMq cs d hi q (pre ++ [b]) (putE (b.f, b.t) q E) := by
  have hm : ∀ p, (findE p E).isSome = true → (findE p (putE (b.f, b.t) q E)).isSome = true := fun p hp => by
    rw [find_put]
    split
    · rfl
    · exact hp
  refine ⟨fun p n hf => ?_, fun i h1 h2 x hx hxt => hm _ (h.all i h1 h2 x hx hxt), fun x hx hxt => ?_⟩
  · rw [find_put] at hf
    split at hf
    · rename_i hp
      cases hf
      exact ⟨q, rfl, hq, b, hb, hp.symm, ht⟩
    · exact h.says p n hf
  · rcases List.mem_append.1 hx with h1 | h1
    · exact hm _ (h.now x h1 hxt)
    · rw [List.mem_singleton.1 h1, find_put, if_pos rfl]
      rfl
theorem TMq.skip {cs : List Cm} {d : Dm} {hi : Bool} {q : Nat} {pre : List Bd} {E : MpE} {b : Bd} (h : TMq cs d hi q pre E) (hn : ¬ TightB d hi b) : TMq cs d hi q (pre ++ [b]) E := by
  refine ⟨h.says, h.all, fun x hx hxt => ?_⟩
  rcases List.mem_append.1 hx with h1 | h1
  · exact h.now x h1 hxt
  · rw [List.mem_singleton.1 h1] at hxt
    exact absurd hxt hn
theorem TMq.next {cs : List Cm} {d : Dm} {hi : Bool} {q : Nat} {E : MpE} (h : TMq cs d hi q (bdsL (cm cs q)) E) : TMq cs d hi (q + 1) [] E := by
  refine ⟨h.says, fun i h1 h2 x hx hxt => ?_, fun b hb => by cases hb⟩
  by_cases hi' : i = q
  · subst hi'
    exact h.now x hx hxt
  · exact h.all i (by omega) h2 x hx hxt
theorem TMq.tmap {cs : List Cm} {d : Dm} {hi : Bool} {E : MpE} (h : TMq cs d hi cs.length [] E) : TMap cs d hi fun f t => findE (f, t) E :=
  ⟨fun f t n hf => by
    obtain ⟨i, h1, h2, b, h3, h4, h5⟩ := h.says (f, t) n hf
    injection h4 with h6 h7
    exact ⟨i, h1, h2, b, h3, h6, h7, h5⟩, fun i h1 b hb ht => h.all i h1 h1 b hb ht⟩

/-- Marks that ranges over functions have left, in blocks that rise. -/
def MarksOk (lo : Nat) : Nat → List Deferred → World → Prop
  | _, [], _ => True
  | hi, x :: ds, w => ∃ r, x = { target := .collected r, args := #[] } ∧ lo ≤ r ∧ r < hi ∧ w.heap[r]? = some (.deferred (some [])) ∧ MarksOk lo r ds w
theorem MarksOk.same {lo : Nat} {w w' : World} : ∀ {hi : Nat} {ds : List Deferred}, MarksOk lo hi ds w → (∀ k, lo ≤ k → k < hi → w'.heap[k]? = w.heap[k]?) → MarksOk lo hi ds w'
  | _, [], _, _ => trivial
  | _, _ :: _, ⟨r, h1, h2, h3, h4, h5⟩, hs => ⟨r, h1, h2, h3, (hs r h2 h3).trans h4, h5.same fun k hk hk2 => hs k hk (by omega)⟩
theorem MarksOk.up {lo hi hi' : Nat} {ds : List Deferred} {w : World} (h : MarksOk lo hi ds w) (hh : hi ≤ hi') : MarksOk lo hi' ds w := by
  match ds, h with
  | [], _ => trivial
  | _ :: _, ⟨r, h1, h2, h3, h4, h5⟩ => exact ⟨r, h1, h2, by omega, h4, h5⟩
theorem marks_end {F : Fence} {n : Nat} {P : Program} {fn : Func} {tmps : Array Value} {R : Ending → World → Prop} {lo : Nat} : ∀ {hi : Nat} {ds : List Deferred} {w : World}, MarksOk lo hi ds w →
    (∀ w', w'.os = w.os → w'.tape = w.tape → w'.output = w.output → w.heap.size ≤ w'.heap.size → (∀ k, k < lo → w'.heap[k]? = w.heap[k]?) → LeavesInM F n P fn tmps R [] .returning w') → LeavesInM F n P fn tmps R ds .returning w
  | _, [], w, _, h => h w rfl rfl rfl (Nat.le_refl _) fun _ _ => rfl
  | _, _ :: ds, w, ⟨r, h1, h2, h3, h4, h5⟩, h => by
    subst h1
    refine ⟨by simp, .inl ⟨r, _, rfl, run_takeDeferred h4, ?_⟩⟩
    refine marks_end (hi := r) (h5.same fun k hk hk2 => World.putObj_heap_other (by omega)) fun w' e1 e2 e3 e4 e5 => h w' ?_ ?_ ?_ ?_ fun k hk => (e5 k hk).trans (World.putObj_heap_other (by omega))
    · exact e1
    · exact e2
    · exact e3
    · simpa using e4

theorem box4 (w : World) (A B C D : Obj) : ((((w.alloc A).alloc B).alloc C).alloc D).heap[w.heap.size]? = some A ∧ ((((w.alloc A).alloc B).alloc C).alloc D).heap[w.heap.size + 1]? = some B ∧ ((((w.alloc A).alloc B).alloc C).alloc D).heap[w.heap.size + 1 + 1]? = some C ∧ ((((w.alloc A).alloc B).alloc C).alloc D).heap[w.heap.size + 1 + 1 + 1]? = some D ∧
    Below w.heap.size w ((((w.alloc A).alloc B).alloc C).alloc D) ∧ ((((w.alloc A).alloc B).alloc C).alloc D).heap.size = w.heap.size + 4 := by
  obtain ⟨h0, h1, h2⟩ := box3 w A B C
  have h3 := heap_alloc_new (((w.alloc A).alloc B).alloc C) D
  simp only [World.size_alloc] at h3
  exact ⟨by rw [heap_alloc_low _ _ _ (by simp <;> omega)]; exact h0, by rw [heap_alloc_low _ _ _ (by simp <;> omega)]; exact h1, by rw [heap_alloc_low _ _ _ (by simp <;> omega)]; exact h2, h3, (below3 w A B C).alloc (by simp; omega) D, by simp⟩
set_option maxRecDepth 100000 in
set_option maxHeartbeats 4000000 in
theorem tight_any (n : Int) (v : Value) (cs : List Cm) (d : Dm) (hi : Bool) (w : World) (hA : AlbOk n cs) (hV : CmsV w.heap.size w v cs) (hd : Mid d) :
    Calls Try.prog 82 #[.agg (shl n v d), .func (.func (endF hi)) #[] #[]] w fun e w' => (∃ bm E, e = .returned (.map (some bm)) ∧ w.heap.size ≤ bm ∧ MapE w' bm E ∧ TMq cs d hi cs.length [] E) ∧ Below w.heap.size w w' := by
  obtain ⟨a, cap, rfl, hp⟩ := hV
  have HP := Lib.hid hp
  clear hp
  have hcf := end_call hi
  have HX := Lib.hid (box2 w (.cells (shl n (.slice a cs.length cap) d) 85) (.cells #[.func (.func (endF hi)) #[] #[]] 94))
  have HB := Lib.hid (below2 w (.cells (shl n (.slice a cs.length cap) d) 85) (.cells #[.func (.func (endF hi)) #[] #[]] 94))
  have HOK := Lib.hid hA
  have HMD := Lib.hid hd
  clear hA hd
  refine (callsIn_wide (n := 0)).1 ?_
  refine callsIn_of_wp_marks Try.func82 rfl trivial ?_ rfl
  simp only [Try.ntmps82, List.size_toArray, List.length_cons, List.length_nil, Nat.reduceAdd, Nat.reduceSub, Array.replicate_succ, Array.replicate_zero, List.push_toArray, List.append_toArray, List.nil_append, List.cons_append]
  have s0 := (cell_of_row _ w.heap.size 1 _ _ _ HX.out.1).trans (shl_1 _ _ _)
  have l0 := lt_of_block HX.out.1
  have hmm := @run_makeMap Try.prog
  gi_wp2_with fail
  obtain ⟨k0, k1, k2, k3, kb, kz⟩ := box4 w (.cells (shl n (.slice a cs.length cap) d) 85) (.cells #[.func (.func (endF hi)) #[] #[]] 94) (.map #[] 0) (.cells #[.map (some (w.heap.size + 1 + 1))] 123)
  have HK0 := Lib.hid k0
  have HK1 := Lib.hid k1
  have HK2 : Hid (MapE _ (w.heap.size + 1 + 1) []) := Lib.hid ⟨_, _, k2, rfl⟩
  have HK3 := Lib.hid k3
  have HKB := Lib.hid kb
  clear k0 k1 k2 k3 kb kz s0 l0 HX HB hmm
  generalize World.alloc _ (Obj.cells #[Value.map (some (w.heap.size + 1 + 1))] 123) = W4 at *
  refine wpIn_loop (fun a' wr => ∃ (u6 u7 u8 u15 u16 u17 u18 u19 u20 u21 u22 u23 u24 u25 u26 u27 u28 u29 u30 u31 u32 u33 u34 u35 u36 u37 u38 u39 u40 u41 u42 u43 u44 : Value) (q : Nat) (E : MpE) (ds : List Deferred), q ≤ cs.length ∧ Hid (TMq cs d hi q [] E) ∧ Hid (MapE wr (w.heap.size + 1 + 1) E) ∧ Hid (wr.heap[w.heap.size]? = some (.cells (shl n (.slice a cs.length cap) d) 85 (0, 0))) ∧ Hid (wr.heap[w.heap.size + 1]? = some (.cells #[.func (.func (endF hi)) #[] #[]] 94 (0, 0))) ∧ Hid (wr.heap[w.heap.size + 1 + 1 + 1]? = some (.cells #[.map (some (w.heap.size + 1 + 1))] 123 (0, 0))) ∧ Hid (Below w.heap.size w wr) ∧ Hid (MarksOk (w.heap.size + 4) wr.heap.size ds wr) ∧ a' = { tmps := #[.agg (shl n (.slice a cs.length cap) d), .func (.func (endF hi)) #[] #[], .pointer (some ⟨w.heap.size, 0, none⟩), .pointer (some ⟨w.heap.size + 1, 0, none⟩), .map none, .pointer (some ⟨w.heap.size + 1 + 1 + 1, 0, none⟩), u6, u7, u8, .map (some (w.heap.size + 1 + 1)), .pointer (some ⟨w.heap.size, 0, none⟩), .pointer (some ⟨w.heap.size, 1, none⟩), .slice a cs.length cap, .int .i64 cs.length, .int .i64 q, u15, u16, u17, u18, u19, u20, u21, u22, u23, u24, u25, u26, u27, u28, u29, u30, u31, u32, u33, u34, u35, u36, u37, u38, u39, u40, u41, u42, u43, u44, undef], defers := ds }) (fun a' _ => cs.length - (intOf (a'.tmps.getD 14 undef)).toNat) ?start ?round
  case start => exact ⟨_, _, _, _, _, _, _, _, _, _, _, _, _, _, _, _, _, _, _, _, _, _, _, _, _, _, _, _, _, _, _, _, _, 0, [], [], Nat.zero_le _, Lib.hid (TMq.nil cs d hi), HK2, HK0, HK1, HK3, HKB, Lib.hid trivial, rfl⟩
  case round =>
    clear HK0 HK1 HK2 HK3 HKB
    rintro _ wr ⟨u6, u7, u8, u15, u16, u17, u18, u19, u20, u21, u22, u23, u24, u25, u26, u27, u28, u29, u30, u31, u32, u33, u34, u35, u36, u37, u38, u39, u40, u41, u42, u43, u44, q, E, ds, hq, HTM, HME, HK0, HK1, HK3, HB, HMK, rfl⟩
    by_cases hlt : q < cs.length
    · have hqn : (q : Int) < cs.length := by omega
      have hwk : IntKind.i64.wrap ((q : Int) + 1) = (q : Int) + 1 := IntWalk.i64_in _ (by have := HOK.out.len; omega)
      obtain ⟨b, off, rfl, hbn, hcc⟩ := HP.out (by omega)
      obtain ⟨h1, h2, h3, h4⟩ := hcc q hlt
      have p1 := (HB.out.cell (p := ⟨b, off + q * 4, none⟩) hbn).trans h1
      have p2 := (HB.out.cell (p := ⟨b, off + q * 4 + 1, none⟩) hbn).trans h2
      have p3 := (HB.out.cell (p := ⟨b, off + q * 4 + 2, none⟩) hbn).trans h3
      have p4 := (HB.out.cell (p := ⟨b, off + q * 4 + 3, none⟩) hbn).trans h4
      have lb : b < wr.heap.size := Nat.lt_of_lt_of_le hbn HB.out.size
      have hck := HOK.out.cm _ (cm_mem hlt)
      have HCK := Lib.hid hck
      have hn8 := HOK.out.n8
      have HBO := Lib.hid (bounds_any (cm cs q) ⟨hck.lo, by have := hck.le; have := hck.hi; omega, by have := hck.le; have := hck.lo; omega, hck.hi⟩)
      clear hcc h1 h2 h3 h4 hck
      obtain ⟨C, hC⟩ : ∃ C, C = cm cs q := ⟨_, rfl⟩
      rw [← hC] at p1 p2 p3 p4 HCK HBO
      have HCE := Lib.hid hC
      clear hC
      gi_wp2_with fail
      refine ⟨trivial, rfl, ?_⟩
      have hx0 := box2 wr (.cells #[.int .i64 q] 3) (.cells #[.int .i64 C.l, .int .i64 C.r, .int .i64 C.lo, .int .i64 C.hi] 67)
      have hbx := below2 wr (.cells #[.int .i64 q] 3) (.cells #[.int .i64 C.l, .int .i64 C.r, .int .i64 C.lo, .int .i64 C.hi] 67)
      have HN0 := Lib.hid hx0.1
      have HBX := Lib.hid hbx
      have hzx : wr.heap.size + 2 = ((wr.alloc (.cells #[.int .i64 q] 3)).alloc (.cells #[.int .i64 C.l, .int .i64 C.r, .int .i64 C.lo, .int .i64 C.hi] 67)).heap.size := by simp
      clear hx0 hbx p1 p2 p3 p4
      generalize World.alloc (World.alloc wr _) _ = wx at *
      refine (callsIn_wide.2 (HBO.out wx)).mono ?_
      rintro e w1 ⟨Bc, rfl, hb1, hm1, hm2, hseq⟩
      have hs1 := hb1.size
      have HBW := Lib.hid (below_to HBX.out hb1)
      have HB1 := Lib.hid (below_to HB.out HBW.out)
      have HN1 := Lib.hid ((hb1.block _ (lt_of_block HN0.out)).trans HN0.out)
      have Z0 := Lib.hid ((HBW.out.block _ (lt_of_block HK0.out)).trans HK0.out)
      have Z1 := Lib.hid ((HBW.out.block _ (lt_of_block HK1.out)).trans HK1.out)
      have Z3 := Lib.hid ((HBW.out.block _ (lt_of_block HK3.out)).trans HK3.out)
      have ZM := Lib.hid (HME.out.block (HBW.out.block _ HME.out.lt))
      have HMK1 := Lib.hid (HMK.out.same fun k _ hk2 => HBW.out.block k hk2)
      have HSEQ := Lib.hid hseq
      have l3 := lt_of_block HK3.out
      clear hb1 hseq HK0 HK1 HK3 HME HMK HN0 HBX HB HBW HBO
      gi_wp2
      refine wp_rangeD rfl (fun _ _ => rfl) HSEQ.out (Below.refl _ w1) (fun _ => rfl) (fun k => k = w.heap.size + 1 + 1) ?t0 ?hc
        (fun T pre A => T (w.heap.size + 1 + 1) ∧ ∃ E, MapE A (w.heap.size + 1 + 1) E ∧ TMq cs d hi q pre E)
        (fun _ _ _ _ => False)
        ?ir (fun _ _ _ _ _ h => h.elim) ⟨rfl, E, ZM.out, HTM.out⟩
        (fun x a' A => ∃ Bx, w1.heap.size + 2 ≤ Bx ∧ A.heap[Bx]? = some (.cells #[.int .i64 x.f, .int .i64 x.t, .int .i64 x.lo, .int .i64 x.hi] 119 (0, 0)) ∧ a' = { tmps := #[.agg (shl n (.slice (some ⟨b, off, none⟩) cs.length cap) d), .func (.func (endF hi)) #[] #[], .pointer (some ⟨w.heap.size, 0, none⟩), .pointer (some ⟨w.heap.size + 1, 0, none⟩), .map none, .pointer (some ⟨w.heap.size + 1 + 1 + 1, 0, none⟩), .pointer (some ⟨wr.heap.size, 0, none⟩), .pointer (some ⟨wr.heap.size + 1, 0, none⟩), .pointer (some ⟨Bx, 0, none⟩), .map (some (w.heap.size + 1 + 1)), .pointer (some ⟨w.heap.size, 0, none⟩), .pointer (some ⟨w.heap.size, 1, none⟩), .slice (some ⟨b, off, none⟩) cs.length cap, .int .i64 cs.length, .int .i64 q, .bool true, .int .i64 q, .pointer (some ⟨b, off + q * 4, none⟩), .agg #[.int .i64 C.l, .int .i64 C.r, .int .i64 C.lo, .int .i64 C.hi], .agg #[.int .i64 C.l, .int .i64 C.r, .int .i64 C.lo, .int .i64 C.hi], .func (.func 94) #[] #[.pointer (some ⟨Bc, 0, none⟩)], bdV x, u22, u23, u24, u25, u26, u27, u28, u29, u30, u31, u32, u33, u34, u35, u36, u37, u38, u39, u40, u41, u42, u43, u44, undef], defers := [] })
        ?ax ?assign ?body ?done (fun _ _ _ _ _ h => h.elim)
      case t0 =>
        rintro k rfl
        exact ⟨by omega, by omega⟩
      case hc => exact fun k hk => by omega
      case ir => exact fun T s A B ⟨h1, E, h2, h3⟩ hR => ⟨h1, E, h2.block (hR.2 _ h1), h3⟩
      case ax =>
        rintro x a' A o ⟨Bx, h1, h2, h3⟩
        exact ⟨Bx, h1, (World.putObj_heap_other (by omega)).trans h2, h3⟩
      case assign =>
        rintro l2 x A hb hA
        have hact : (#[21].zip (encB x)) = #[(21, bdV x)] := by simp [encB]
        rw [hact]
        simp only [List.foldl_toArray, Array.foldl_toList, List.foldl_cons, List.foldl_nil, List.setIfInBounds_toArray, List.set_cons_succ, List.set_cons_zero]
        unfold bdV
        gi_wp2
        exact ⟨⟨A.heap.size, by omega, heap_alloc_new _ _, rfl⟩, box_below _ _⟩
      case body =>
        rintro l2 T pre x a' A hb1 hSp ⟨hT, E2, hme, htm⟩ hOf hb hs2 ⟨Bx, hBx, hbx, rfl⟩
        have hfar : ∀ k, k < wr.heap.size → k ≠ w.heap.size + 1 + 1 → A.heap[k]? = w1.heap[k]? := fun k hk hne => hb.block k (by omega) (fun h => by rcases h with h | h | h <;> omega)
        have y0 := (hfar _ (by omega) (by omega)).trans Z0.out
        have y1 := (hfar _ (by omega) (by omega)).trans Z1.out
        have y3 := (hfar _ (by omega) (by omega)).trans Z3.out
        have yn := (hb.block wr.heap.size (by omega) (fun h => by rcases h with h | h | h <;> omega)).trans HN1.out
        have hxm : x ∈ bdsL C := by rcases pre_bds hSp with ⟨-, rfl⟩ | ⟨-, rfl⟩ <;> simp [bdsL]
        have hxf : (-1 ≤ x.f ∧ x.f < 8) ∧ (-1 ≤ x.t ∧ x.t < 8) ∧ (-100 ≤ x.lo ∧ x.lo ≤ 100) ∧ (-100 ≤ x.hi ∧ x.hi ≤ 100) := by
          have h1 := HCK.out.l0; have h2 := HCK.out.ln; have h3 := HCK.out.r0; have h4 := HCK.out.rn; have h5 := HCK.out.lo; have h6 := HCK.out.le; have h7 := HCK.out.hi
          rcases mem_bds.1 hxm with rfl | rfl
          · exact ⟨⟨h3, by show C.r < 8; omega⟩, ⟨by show -1 ≤ C.l; omega, by show C.l < 8; omega⟩, ⟨h5, by show C.lo ≤ 100; omega⟩, ⟨by show -100 ≤ C.hi; omega, h7⟩⟩
          · exact ⟨⟨by show -1 ≤ C.l; omega, by show C.l < 8; omega⟩, ⟨h3, by show C.r < 8; omega⟩, ⟨by show -100 ≤ -C.hi; omega, by show -C.hi ≤ 100; omega⟩, ⟨by show -100 ≤ -C.lo; omega, by show -C.lo ≤ 100; omega⟩⟩
        obtain ⟨hf8, ht8, hlo, hhi⟩ := hxf
        have HXM := Lib.hid hxm
        have d1 := HMD.out (pl x.f) 0 (by unfold pl; omega) (by omega)
        have d2 := HMD.out 0 (pl x.f) (by omega) (by unfold pl; omega)
        have hsum : enR hi ⟨-d (pl x.f) 0 + x.lo, d 0 (pl x.f) + x.hi⟩ = eD d hi x.f + byB hi x := by cases hi <;> rfl
        obtain ⟨Cb, hCb⟩ : ∃ Cb, (eD d hi x.f + byB hi x == eD d hi x.t) = Cb := ⟨_, rfl⟩
        have HCT : Hid (Cb = true ↔ TightB d hi x) := Lib.hid (by rw [← hCb, beq_iff_eq]; exact Iff.rfl)
        have HG1 := Lib.hid fun w => grade_int n (.slice (some ⟨b, off, none⟩) cs.length cap) d x.f w hf8 HMD.out
        have HG2 := Lib.hid fun w => grade_int n (.slice (some ⟨b, off, none⟩) cs.length cap) d x.t w ht8 HMD.out
        have HPL := Lib.hid fun w => plus_any (-d (pl x.f) 0) (d 0 (pl x.f)) x.lo x.hi w (IntWalk.i64_in _ (by omega)) (IntWalk.i64_in _ (by omega))
        have HE1 := Lib.hid fun w => end_any hi (-d (pl x.f) 0 + x.lo) (d 0 (pl x.f) + x.hi) w
        have HE2 := Lib.hid fun w => end_any hi (-d (pl x.t) 0) (d 0 (pl x.t)) w
        rw [hsum] at HE1
        rw [end_grade] at HE2
        have HC : Hid (∀ w1, Below A.heap.size A w1 → w1.cell? ⟨w.heap.size + 1, 0, none⟩ = some (.func (.func (endF hi)) #[] #[]) ∧ w1.cell? ⟨Bx, 0, none⟩ = some (.int .i64 x.f) ∧ w1.cell? ⟨Bx, 1, none⟩ = some (.int .i64 x.t) ∧ w1.cell? ⟨Bx, 2, none⟩ = some (.int .i64 x.lo) ∧ w1.cell? ⟨Bx, 3, none⟩ = some (.int .i64 x.hi)) := Lib.hid fun w1 hS => by
          have z1 := (hS.block _ (lt_of_block y1)).trans y1
          have zx := (hS.block _ (lt_of_block hbx)).trans hbx
          exact ⟨cell_of_row w1 _ 0 _ _ _ z1, cell_of_row w1 Bx 0 _ _ _ zx, cell_of_row w1 Bx 1 _ _ _ zx, cell_of_row w1 Bx 2 _ _ _ zx, cell_of_row w1 Bx 3 _ _ _ zx⟩
        have HC5 : Hid (∀ w1, Below A.heap.size A w1 → w1.rangeAt w.heap.size 0 (shl n (.slice (some ⟨b, off, none⟩) cs.length cap) d).toList) := Lib.hid fun w1 hS => range_block (t := 85) (by rw [Array.toArray_toList]; exact (hS.block _ (lt_of_block y0)).trans y0)
        have HME := Lib.hid hme
        have HTM2 := Lib.hid htm
        have HY3 := Lib.hid y3
        have HYN := Lib.hid yn
        have HBXX := Lib.hid hbx
        have hnA := hme.lt
        clear hme htm y0 y1 y3 yn hbx hfar hxm d1 d2 hsum hf8 ht8 hlo hhi
        unfold bdV
        gi_wp2_with fail
        refine wpIn_region_noPanic ?_
        refine wpIn_region_chain_round (fun w' => Below A.heap.size A w') (fun ⟨_, _, h⟩ => h) (fun w1 w2 h hb => grow_to h hb) (below_drawn _) (by kernel_rfl) (fun _ _ _ _ _ h => h)
          [(false, 0), (false, 1), (false, 2), (false, 3), (false, 4), (false, 6), (false, 7), (false, 10), (false, 11), (false, 12), (false, 13), (false, 14), (true, 5), (true, 8), (true, 9), (true, 15), (true, 16)] [17] (by kernel_rfl) ?_
        iterate 1
          (refine Walk.takes rfl rfl ?_; apply Exists.intro; refine ⟨fun w1 hS => ?_, ?_⟩; (obtain ⟨m0, m1, m2, m3, m4⟩ := HC.out w1 hS; clear hS; go_simp; with_reducible rfl); simp only [List.getElem_toArray, List.getElem_cons_succ, List.getElem_cons_zero, Act.put, List.setIfInBounds_toArray, List.set_cons_zero, List.set_cons_succ])
        (refine Walk.take (v := .agg (shl n (.slice (some ⟨b, off, none⟩) cs.length cap) d)) rfl rfl (fun w2 hS => exec_load_row 85 (.tmp 2) rfl w.heap.size 0 rfl (shl n (.slice (some ⟨b, off, none⟩) cs.length cap) d).toList _ (HC5.out w2 hS) Try.underlying85 rfl (by rw [Array.length_toList, shl_size]; exact s85) _ Array.toArray_toList) ?_; simp only [List.getElem_toArray, List.getElem_cons_succ, List.getElem_cons_zero, Act.put, List.setIfInBounds_toArray, List.set_cons_zero, List.set_cons_succ])
        iterate 6
          (refine Walk.takes rfl rfl ?_; apply Exists.intro; refine ⟨fun w1 hS => ?_, ?_⟩; (obtain ⟨m0, m1, m2, m3, m4⟩ := HC.out w1 hS; clear hS; go_simp; with_reducible rfl); simp only [List.getElem_toArray, List.getElem_cons_succ, List.getElem_cons_zero, Act.put, List.setIfInBounds_toArray, List.set_cons_zero, List.set_cons_succ])
        (refine Walk.take (v := .agg (shl n (.slice (some ⟨b, off, none⟩) cs.length cap) d)) rfl rfl (fun w2 hS => exec_load_row 85 (.tmp 2) rfl w.heap.size 0 rfl (shl n (.slice (some ⟨b, off, none⟩) cs.length cap) d).toList _ (HC5.out w2 hS) Try.underlying85 rfl (by rw [Array.length_toList, shl_size]; exact s85) _ Array.toArray_toList) ?_; simp only [List.getElem_toArray, List.getElem_cons_succ, List.getElem_cons_zero, Act.put, List.setIfInBounds_toArray, List.set_cons_zero, List.set_cons_succ])
        iterate 3
          (refine Walk.takes rfl rfl ?_; apply Exists.intro; refine ⟨fun w1 hS => ?_, ?_⟩; (obtain ⟨m0, m1, m2, m3, m4⟩ := HC.out w1 hS; clear hS; go_simp; with_reducible rfl); simp only [List.getElem_toArray, List.getElem_cons_succ, List.getElem_cons_zero, Act.put, List.setIfInBounds_toArray, List.set_cons_zero, List.set_cons_succ])
        have hacc := below_drawn A
        refine Walk.calls rfl rfl ?_; apply Exists.intro; apply Exists.intro; refine ⟨fun w2 hS => ?_, fun w2 hb2 => ?_⟩; (clear hS; go_simp; exact ⟨rfl, rfl⟩)
        replace hacc := grow_to hacc hb2
        refine (HG1.out w2).mono ?_
        rintro e w3 ⟨rfl, hb3⟩
        refine ⟨_, rfl, hb3, ?_⟩
        simp only [List.getElem_toArray, List.getElem_cons_succ, List.getElem_cons_zero, Act.put, List.setIfInBounds_toArray, List.set_cons_zero, List.set_cons_succ]
        replace hacc := grow_to hacc hb3
        clear hb2 hb3
        refine Walk.calls rfl rfl ?_; apply Exists.intro; apply Exists.intro; refine ⟨fun w2 hS => ?_, fun w2 hb2 => ?_⟩; (clear hS; go_simp; exact ⟨rfl, rfl⟩)
        replace hacc := grow_to hacc hb2
        refine (HPL.out w2).mono ?_
        rintro e w3 ⟨rfl, hb3⟩
        refine ⟨_, rfl, hb3, ?_⟩
        simp only [List.getElem_toArray, List.getElem_cons_succ, List.getElem_cons_zero, Act.put, List.setIfInBounds_toArray, List.set_cons_zero, List.set_cons_succ]
        replace hacc := grow_to hacc hb3
        clear hb2 hb3
        refine Walk.calls rfl rfl ?_; apply Exists.intro; apply Exists.intro; refine ⟨fun w2 hS => ?_, fun w2 hb2 => ?_⟩; (clear hS; go_simp; exact ⟨rfl, rfl⟩)
        replace hacc := grow_to hacc hb2
        refine (HE1.out w2).mono ?_
        rintro e w3 ⟨rfl, hb3⟩
        refine ⟨_, rfl, hb3, ?_⟩
        simp only [List.getElem_toArray, List.getElem_cons_succ, List.getElem_cons_zero, Act.put, List.setIfInBounds_toArray, List.set_cons_zero, List.set_cons_succ]
        replace hacc := grow_to hacc hb3
        clear hb2 hb3
        refine Walk.calls rfl rfl ?_; apply Exists.intro; apply Exists.intro; refine ⟨fun w2 hS => ?_, fun w2 hb2 => ?_⟩; (clear hS; go_simp; exact ⟨rfl, rfl⟩)
        replace hacc := grow_to hacc hb2
        refine (HG2.out w2).mono ?_
        rintro e w3 ⟨rfl, hb3⟩
        refine ⟨_, rfl, hb3, ?_⟩
        simp only [List.getElem_toArray, List.getElem_cons_succ, List.getElem_cons_zero, Act.put, List.setIfInBounds_toArray, List.set_cons_zero, List.set_cons_succ]
        replace hacc := grow_to hacc hb3
        clear hb2 hb3
        refine Walk.calls rfl rfl ?_; apply Exists.intro; apply Exists.intro; refine ⟨fun w2 hS => ?_, fun w2 hb2 => ?_⟩; (clear hS; go_simp; exact ⟨rfl, rfl⟩)
        replace hacc := grow_to hacc hb2
        refine (HE2.out w2).mono ?_
        rintro e w3 ⟨rfl, hb3⟩
        refine ⟨_, rfl, hb3, ?_⟩
        simp only [List.getElem_toArray, List.getElem_cons_succ, List.getElem_cons_zero, Act.put, List.setIfInBounds_toArray, List.set_cons_zero, List.set_cons_succ]
        replace hacc := grow_to hacc hb3
        clear hb2 hb3
        refine Walk.fin fun p9 hb9 hS9 => ?_
        refine Tail.value rfl rfl (by go_simp; with_reducible rfl) (Tail.done ?_)
        simp only [List.getElem_toArray, List.getElem_cons_succ, List.getElem_cons_zero, Act.put, List.setIfInBounds_toArray, List.set_cons_zero, List.set_cons_succ]
        have HS9 := Lib.hid hS9
        clear hS9 hb9 hacc HG1 HG2 HPL HE1 HE2
        generalize eD d hi x.f + byB hi x = V1 at *
        generalize eD d hi x.t = V2 at *
        cases Cb with
        | false =>
          have hnt : ¬ TightB d hi x := fun h => by have := HCT.out.2 h; cases this
          have HTM3 := Lib.hid (HTM2.out.skip hnt)
          have HME3 := Lib.hid (HME.out.block (HS9.out.block _ hnA))
          gi_wp2_with fail
          exact ⟨But.of_below HS9.out, .inl hT, E2, HME3.out, HTM3.out⟩
        | true =>
          have hit : TightB d hi x := HCT.out.1 rfl
          have HTM3 := Lib.hid (HTM2.out.put (by omega) (by rw [← HCE.out]; exact HXM.out) hit)
          have HME3 := Lib.hid (HME.out.block (HS9.out.block _ hnA))
          have hy3 := (HS9.out.block _ (lt_of_block HY3.out)).trans HY3.out
          have hyn := (HS9.out.block _ (lt_of_block HYN.out)).trans HYN.out
          have hyx := (HS9.out.block _ (lt_of_block HBXX.out)).trans HBXX.out
          have e3 := cell_of_row p9 (w.heap.size + 1 + 1 + 1) 0 _ _ _ hy3
          have en := cell_of_row p9 wr.heap.size 0 _ _ _ hyn
          have ex0 := cell_of_row p9 Bx 0 _ _ _ hyx
          have ex1 := cell_of_row p9 Bx 1 _ _ _ hyx
          simp only [List.getElem?_toArray, List.getElem?_cons_zero, List.getElem?_cons_succ] at e3 en ex0 ex1
          have le3 := lt_of_block hy3
          have len := lt_of_block hyn
          have lex := lt_of_block hyx
          clear hy3 hyn hyx
          gi_wp2_with (first
            | (refine wpListIn_put rfl (.tmp 40) (.tmp 42) (.tmp 43) rfl (w.heap.size + 1 + 1) E2 rfl HME3.out (x.f, x.t) q rfl rfl ?_
               intro o9 w9 hw9 hm9
               have HM9 := Lib.hid hm9
               have HBT9 : Hid (But T A w9) := Lib.hid (by rw [hw9]; exact (But.of_below HS9.out).trans (But.putObj _ _ hT))
               clear hw9 hm9)
            | fail)
          exact ⟨HBT9.out, .inl hT, _, HM9.out, HTM3.out⟩
      case done =>
        rintro T ys A rfl ⟨hT, E2, hme, htm⟩ hOf hb n0 n1 hKd
        have hfar : ∀ k, k < wr.heap.size → k ≠ w.heap.size + 1 + 1 → A.heap[k]? = w1.heap[k]? := fun k hk hne => hb.block k (by omega) (fun h => by rcases h with h | h | h <;> omega)
        have Y0 := Lib.hid ((hfar _ (by omega) (by omega)).trans Z0.out)
        have Y1 := Lib.hid ((hfar _ (by omega) (by omega)).trans Z1.out)
        have Y3 := Lib.hid ((hfar _ (by omega) (by omega)).trans Z3.out)
        rw [HCE.out] at htm
        have HTM3 := Lib.hid htm.next
        have HME3 := Lib.hid hme
        have HBA : Hid (Below w.heap.size w A) := Lib.hid ⟨hb.os.trans HB1.out.os, hb.tape.trans HB1.out.tape, hb.output.trans HB1.out.output, Nat.le_trans HB1.out.size hb.size, fun k hk => (hfar k (by omega) (by omega)).trans (HB1.out.block k hk)⟩
        have hw1A : w1.heap.size < A.heap.size := lt_of_block hKd
        have HMK2 : Hid (MarksOk (w.heap.size + 4) A.heap.size ({ target := .collected w1.heap.size, args := #[] } :: ds) A) := Lib.hid ⟨w1.heap.size, rfl, by omega, hw1A, hKd, (HMK1.out.same fun k hk hk2 => hfar k hk2 (by omega)).up (by omega)⟩
        clear hme htm hfar hb hOf n0 n1 hKd
        gi_wp2_with fail
        exact ⟨⟨_, _, _, _, _, _, _, _, _, _, _, _, _, _, _, _, _, _, _, _, _, _, _, _, _, _, _, _, _, _, _, _, _, q + 1, E2, _, by omega, HTM3, HME3, Y0, Y1, Y3, HBA, HMK2, rfl⟩, by simp [intOf]; omega⟩
    · obtain rfl : q = cs.length := by omega
      have e3 := cell_of_row wr (w.heap.size + 1 + 1 + 1) 0 _ _ _ HK3.out
      simp only [List.getElem?_toArray, List.getElem?_cons_zero] at e3
      have le3 := lt_of_block HK3.out
      gi_wp2_with fail
      refine marks_end HMK.out fun w' e1 e2 e4 e5 e6 => ?_
      refine ⟨.map (some (w.heap.size + 1 + 1)), by simp [results, Try.results82, go_sem], ⟨_, E, rfl, by omega, HME.out.block (e6 _ (by omega)), HTM.out⟩, ?_⟩
      exact ⟨e1.trans HB.out.os, e2.trans HB.out.tape, e4.trans HB.out.output, Nat.le_trans HB.out.size e5, fun k hk => (e6 k (by omega)).trans (HB.out.block k hk)⟩
end Go.Proofs.Ytplmlmmjfkbabaa
