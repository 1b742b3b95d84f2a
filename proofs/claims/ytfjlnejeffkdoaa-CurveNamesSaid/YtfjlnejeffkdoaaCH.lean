/- A list of lists of numbers as a value; what grows it. Conditions: the lengths. All truths of a curve, as the reference lists them: its contract. Conditions: a valid curve with at most 1000 truths. The reference's span over a list of truths: its contract. Conditions: a valid curve, its truths. Span, Shows and Points where there is an error: their contracts. Conditions: what is called answers so. A curve and a rule, as a law of few truths meets them: not few, not valid, or valid. Conditions: as they lie in memory. -/
import Derived.Test.YtfjlnejeffkdoaaAB
import Derived.Test.YtfjlnejeffkdoaaBC
import Derived.Deep.CutRange
import Derived.Test.YtfjlnejeffkdoaaAG
import Derived.Test.YtfjlnejeffkdoaaAN
import Derived.Test.YtfjlnejeffkdoaaAJ
namespace Go.Proofs.Ytfjlnejeffkdoaa
open Go.RowKit Go.Shelf
attribute [local irreducible] arrV wpQuiet

theorem list_info : ∃ i z, Try.prog.info? 27 = some i ∧ i.zero = some z ∧ i.size = 1 ∧ i.bytes = 24 ∧ z.cells.size = 1 := by
  have h1 : (Try.prog.info? 27).map (·.size) = some 1 := by kernel_rfl
  have h2 : (Try.prog.info? 27).map (·.bytes) = some 24 := by kernel_rfl
  have h3 : ((Try.prog.info? 27).bind (·.zero)).map (·.cells.size) = some 1 := by kernel_rfl
  cases h : Try.prog.info? 27 with
  | none => simp [h] at h1
  | some i =>
    simp [h] at h1 h2 h3
    obtain ⟨z, hz, hs⟩ := h3
    exact ⟨i, z, rfl, hz, h1, h2, hs⟩

/-- The value holds the numbers, in a row of its own. -/
def NumV (w : World) (v : Value) (L : List Int) : Prop := w.ownsRow 0 3 1 v L.length (L.map (Value.int .i64))
theorem NumV.nil (w : World) : NumV w (.slice none 0 0) [] := World.ownsRow_nil _ _ _ _
theorem NumV.form {w : World} {v : Value} {L : List Int} (h : NumV w v L) : ∃ sa cap, v = .slice sa L.length cap ∧ (sa = none → L.length = 0) ∧ ∀ ad, sa = some ad → ∃ g, ad = ⟨g, 0, none⟩ ∧ IntsIn w g 0 L := by
  rcases h.2 with ⟨hv, h0⟩ | ⟨g, cap, cur, hv, _, hg, hn, _, hs, ht⟩
  · exact ⟨none, 0, by rw [hv, h0], fun _ => h0, fun _ e => by cases e⟩
  · refine ⟨some ⟨g, 0, none⟩, cap, hv, (fun e => by cases e), fun ad e => ⟨g, by cases e; rfl, fun i hi => ?_⟩⟩
    have h1 : (cur.toList.take (L.length * 1))[i]? = (L.map (Value.int .i64))[i]? := by rw [ht]
    rw [List.getElem?_take_of_lt (by omega)] at h1
    rw [cell_of_row w g (0 + i) _ _ _ hg, Nat.zero_add]
    rw [← Array.getElem?_toList, h1]
    simp [ld, hi]
theorem NumV.grown {w w' : World} {v : Value} {L : List Int} {row : Option Nat} (h : NumV w v L) (hg : w.grownBy w' row) (hr : ∀ g, row = some g → ∃ cs, w.heap[g]? = some (.cells cs 27 (0, 0))) : NumV w' v L := by
  refine World.ownsRow.kept h hg ?_
  rcases h.2 with ⟨hv, h0⟩ | ⟨g, cap, cur, hv, _, hgg, _⟩
  · rw [hv]; exact .inl rfl
  · refine .inr fun e => ?_
    rw [hv] at e
    obtain ⟨cs, hcs⟩ := hr g e.symm
    rw [hgg] at hcs
    cases hcs
theorem grown_below {w w' : World} (h : Below w.heap.size w w') : w.grownBy w' none := ⟨h.os, h.tape, h.output, h.size, fun k hk _ => h.block k hk⟩
theorem NumV.below {w w' : World} {v : Value} {L : List Int} (h : NumV w v L) (hb : Below w.heap.size w w') : NumV w' v L := h.grown (grown_below hb) (fun _ e => by cases e)

/-- The values hold the lists, one each. -/
def RowsV (w : World) : List Value → List (List Int) → Prop
  | [], [] => True
  | v :: vs, L :: LL => NumV w v L ∧ RowsV w vs LL
  | _, _ => False
theorem RowsV.mono {w w' : World} (h : ∀ v L, NumV w v L → NumV w' v L) : ∀ {vs : List Value} {LL : List (List Int)}, RowsV w vs LL → RowsV w' vs LL
  | [], [], _ => trivial
  | v :: vs, L :: LL, ⟨h1, h2⟩ => ⟨h v L h1, RowsV.mono h h2⟩
  | _ :: _, [], h' => h'.elim
  | [], _ :: _, h' => h'.elim
theorem RowsV.len {w : World} : ∀ {vs : List Value} {LL : List (List Int)}, RowsV w vs LL → vs.length = LL.length
  | [], [], _ => rfl
  | v :: vs, L :: LL, ⟨_, h2⟩ => by simp [RowsV.len h2]
  | _ :: _, [], h' => h'.elim
  | [], _ :: _, h' => h'.elim
theorem RowsV.app {w : World} {ys : List Value} {MM : List (List Int)} (h' : RowsV w ys MM) : ∀ {vs : List Value} {LL : List (List Int)}, RowsV w vs LL → RowsV w (vs ++ ys) (LL ++ MM)
  | [], [], _ => h'
  | v :: vs, L :: LL, ⟨h1, h2⟩ => ⟨h1, RowsV.app h' h2⟩
  | _ :: _, [], h' => h'.elim
  | [], _ :: _, h' => h'.elim
theorem RowsV.get {w : World} : ∀ {vs : List Value} {LL : List (List Int)} {i : Nat} {L : List Int}, RowsV w vs LL → LL[i]? = some L → ∃ v, vs[i]? = some v ∧ NumV w v L
  | [], [], i, L, _, h => by simp at h
  | v :: vs, M :: LL, 0, L, ⟨h1, h2⟩, h => by
    simp at h
    subst h
    exact ⟨v, rfl, h1⟩
  | v :: vs, M :: LL, i + 1, L, ⟨h1, h2⟩, h => by
    simp at h
    obtain ⟨u, hu, hv⟩ := RowsV.get h2 h
    exact ⟨u, by simpa using hu, hv⟩
  | _ :: _, [], _, _, h', _ => h'.elim
  | [], _ :: _, _, _, h', _ => h'.elim
theorem RowsV.below {w w' : World} {vs : List Value} {LL : List (List Int)} (h : RowsV w vs LL) (hb : Below w.heap.size w w') : RowsV w' vs LL := h.mono fun _ _ h => h.below hb

/-- The value is a list of lists. -/
structure ListsV (base : Nat) (w : World) (v : Value) (LL : List (List Int)) : Prop where
  is : ∃ xs, w.ownsRow base 27 1 v LL.length xs ∧ RowsV w xs LL
theorem ListsV.nil (base : Nat) (w : World) : ListsV base w (.slice none 0 0) [] := ⟨[], World.ownsRow_nil _ _ _ _, trivial⟩
theorem ListsV.below {base : Nat} {w w' : World} {v : Value} {LL : List (List Int)} (h : ListsV base w v LL) (hb : Below w.heap.size w w') : ListsV base w' v LL := by
  obtain ⟨xs, h1, h2⟩ := h.is
  exact ⟨xs, h1.kept (row := none) (grown_below hb) (by cases e : v.ownBlock <;> simp), h2.below hb⟩
theorem ListsV.mono {base base' : Nat} {w : World} {v : Value} {LL : List (List Int)} (h : ListsV base w v LL) (hb : base' ≤ base) : ListsV base' w v LL := by
  obtain ⟨xs, ⟨h0, h1⟩, h2⟩ := h.is
  refine ⟨xs, ⟨h0, ?_⟩, h2⟩
  rcases h1 with h | ⟨g, cap, cur, hv, hbg, rest⟩
  · exact .inl h
  · exact .inr ⟨g, cap, cur, hv, by omega, rest⟩
theorem ListsV.form {base : Nat} {w : World} {v : Value} {LL : List (List Int)} (h : ListsV base w v LL) : ∃ sa cap, v = .slice sa LL.length cap ∧ LL.length ≤ maxLen ∧ ∀ i L, LL[i]? = some L → ∃ g u, sa = some ⟨g, 0, none⟩ ∧ w.cell? ⟨g, i, none⟩ = some u ∧ NumV w u L := by
  obtain ⟨xs, ⟨h0, h1⟩, h2⟩ := h.is
  rcases h1 with ⟨hv, h0⟩ | ⟨g, cap, cur, hv, _, hg, hn, hc, hs, ht⟩
  · refine ⟨none, 0, by rw [hv, h0], by simp [h0], fun i L hL => ?_⟩
    have := (List.getElem?_eq_some_iff.1 hL).1
    omega
  · refine ⟨some ⟨g, 0, none⟩, cap, hv, by omega, fun i L hL => ?_⟩
    obtain ⟨u, hu, hN⟩ := h2.get hL
    have hi := (List.getElem?_eq_some_iff.1 hL).1
    refine ⟨g, u, rfl, ?_, hN⟩
    have h1 : (cur.toList.take (LL.length * 1))[i]? = xs[i]? := by rw [ht]
    rw [List.getElem?_take_of_lt (by omega)] at h1
    rw [cell_of_row w g i _ _ _ hg, ← Array.getElem?_toList, h1, hu]

theorem NumV.one {w : World} {v : Value} {L : List Int} (h : NumV w v L) : v.oneCell' = true := by
  obtain ⟨sa, cap, rfl, _⟩ := h.form
  rfl
theorem RowsV.one {w : World} : ∀ {vs : List Value} {LL : List (List Int)}, RowsV w vs LL → ∀ u ∈ vs, u.oneCell' = true
  | [], [], _ => by simp
  | v :: vs, L :: LL, ⟨h1, h2⟩ => fun u hu => by
    rcases List.mem_cons.1 hu with rfl | hu
    · exact h1.one
    · exact RowsV.one h2 u hu
  | _ :: _, [], h' => h'.elim
  | [], _ :: _, h' => h'.elim

/-- A list of lists grows by another one. -/
theorem append_lists (base ty : Nat) (v1 v2 : Value) (A B : List (List Int)) (W : World) (h1 : ListsV base W v1 A) (h2 : ListsV 0 W v2 B) (hB : 0 < B.length) (hn : A.length + B.length ≤ 1048576) (hb : base ≤ W.heap.size) :
    ∃ v' w', (Builtin.append_ #[57, 57] ty #[v1, v2]).run Try.prog W = .ok v' w' ∧ ListsV base w' v' (A ++ B) ∧ W.grownBy w' v1.ownBlock ∧ (∀ k, v1.ownBlock = some k → base ≤ k) := by
  obtain ⟨i, z, hi, hz, hsz, hby, hzs⟩ := list_info
  obtain ⟨xs, o1, r1⟩ := h1.is
  obtain ⟨ys, o2, r2⟩ := h2.is
  have hlen := r2.len
  obtain ⟨hy0, hy1⟩ := o2
  rcases hy1 with ⟨_, h0⟩ | ⟨g, cap, cur, rfl, _, hg, hcn, hcm, hs, ht⟩
  · omega
  obtain ⟨v', w', hr, q1, q2, _, q3⟩ := run_append_own_at (P := Try.prog) W base 57 ty 27 i z 1 24 Try.underlying57 hi hz hsz hby hzs (by omega) v1 A.length xs o1 ⟨g, 0, none⟩ B.length cap ys (by omega)
    (fun j u hj => by
      rw [Addr.add_lit, Nat.zero_add, cell_of_row W g j _ _ _ hg, ← Array.getElem?_toList]
      have h1 : (cur.toList.take (B.length * 1))[j]? = ys[j]? := by rw [ht]
      have hjl := (List.getElem?_eq_some_iff.1 hj).1
      rw [List.getElem?_take_of_lt (by omega)] at h1
      rw [h1, hj]) r2.one (by simp [maxLen]; omega) (by omega) hb
  have hrow : ∀ g, v1.ownBlock = some g → ∃ cs, W.heap[g]? = some (.cells cs 27 (0, 0)) := fun g hgv => by
    rcases o1.2 with ⟨hv, _⟩ | ⟨g', _, cur, hv, _, hgg, _⟩
    · rw [hv] at hgv; simp [Value.ownBlock] at hgv
    · rw [hv] at hgv
      simp only [Value.ownBlock, Option.some.injEq] at hgv
      subst hgv
      exact ⟨cur, hgg⟩
  refine ⟨v', w', hr, ⟨_, by rw [List.length_append]; exact q1, ?_⟩, q2, fun k hk => (o1.lt k hk).1⟩
  exact (r2.mono fun _ _ h => h.grown q2 hrow).app (r1.mono fun _ _ h => h.grown q2 hrow)

/-- A list of numbers is put behind an empty row of one's own. -/
theorem append_nums (base g ty : Nat) (bv : Value) (L : List Int) (W : World) (h : NumV W bv L) (hn : L.length ≤ 1048576) (hb : base ≤ W.heap.size) (hg : base ≤ g) (hrow : W.heap[g]? = some (.cells #[] 3 (0, 0))) :
    ∃ v' w', (Builtin.append_ #[27, 27] ty #[.slice (some ⟨g, 0, none⟩) 0 0, bv]).run Try.prog W = .ok v' w' ∧ w'.ownsRow base 3 1 v' L.length (L.map (Value.int .i64)) ∧ W.grownBy w' (some g) ∧ (v'.ownBlock = some g ∨ v'.ownBlock = some W.heap.size) := by
  obtain ⟨i, z, hi, hz, hsz, hby, hzs⟩ := int_info
  have hown : W.ownsRow base 3 1 (.slice (some ⟨g, 0, none⟩) 0 0) 0 [] := ⟨rfl, .inr ⟨g, 0, #[], rfl, hg, hrow, Nat.le_refl _, Nat.zero_le _, rfl, rfl⟩⟩
  obtain ⟨sa, cap, rfl, h0, h1⟩ := h.form
  cases sa with
  | none =>
    have hl := h0 rfl
    obtain rfl := List.eq_nil_of_length_eq_zero hl
    refine ⟨_, W, ?_, hown, ⟨rfl, rfl, rfl, Nat.le_refl _, fun _ _ _ => rfl⟩, .inl rfl⟩
    simp [Builtin.append_, run_underlying Try.underlying27, sizeOf, typeInfo, hi, Builtin.lenOf, run_firstCells_none, storeCells, Result.andThen]
  | some ad =>
    obtain ⟨g2, rfl, hI⟩ := h1 ad rfl
    obtain ⟨v', w', hr, q1, q2, _, q3⟩ := run_append_own_at (P := Try.prog) W base 27 ty 3 i z 1 8 Try.underlying27 hi hz hsz hby hzs (by omega) _ 0 [] hown ⟨g2, 0, none⟩ L.length cap (L.map (Value.int .i64)) (by simp)
      (fun j u hj => by
        have hjl := (List.getElem?_eq_some_iff.1 hj).1
        rw [List.length_map] at hjl
        rw [Addr.add_lit]
        rw [hI j hjl]
        simp at hj
        obtain ⟨y, hy, rfl⟩ := hj
        simp [ld, hy]) (by
        intro u hu
        obtain ⟨y, _, rfl⟩ := List.mem_map.1 hu
        rfl) (by simp [maxLen]; omega) (by omega) hb
    exact ⟨v', w', hr, by simpa using q1, q2, q3⟩

theorem good_pad {ps : List Pt} {r : Rl} {t : List Int} (G : Good ps r t) : IsTr ps (pad t) := by
  have hl := G.len
  have ht := G.tlen
  refine ⟨pad_len t (by omega), fun i hi => ?_, fun i hi => ?_⟩
  · rw [pad_ld t i (by omega)]
    exact fitB_spec G.fit hi
  · unfold ld pad
    rw [List.getElem?_append_right (by omega), List.getElem?_replicate]
    split <;> rfl
end Go.Proofs.Ytfjlnejeffkdoaa

namespace Go.Proofs.Ytfjlnejeffkdoaa
open Go.RowKit Go.Shelf
attribute [local irreducible] arrV wpQuiet

theorem rangeI_take {lo hi : Int} {q : Nat} (h : (q : Int) < hi - lo + 1) : (rangeI lo hi).take (q + 1) = (rangeI lo hi).take q ++ [lo + q] := by
  rw [List.take_add_one]
  congr 1
  have hl : q < (hi - lo + 1).toNat := by omega
  simp [rangeI, hl]
theorem take_flat {lo hi : Int} {q : Nat} (h : (q : Int) < hi - lo + 1) (f : Int → List (List Int)) : ((rangeI lo hi).take (q + 1)).flatMap f = ((rangeI lo hi).take q).flatMap f ++ f (lo + q) := by
  rw [rangeI_take h, List.flatMap_append]
  simp
theorem take_flat_le {lo hi : Int} {q : Nat} (h : (q : Int) < hi - lo + 1) (f : Int → List (List Int)) : (((rangeI lo hi).take q).flatMap f).length + (f (lo + q)).length ≤ ((rangeI lo hi).flatMap f).length := by
  have e := take_flat h f
  have h2 : ((rangeI lo hi).flatMap f) = (((rangeI lo hi).take (q + 1)).flatMap f) ++ (((rangeI lo hi).drop (q + 1)).flatMap f) := by
    rw [← List.flatMap_append, List.take_append_drop]
  rw [h2, e]
  simp only [List.length_append]
  omega
theorem allF_pos {ps : List Pt} (hlo : ∀ i, i < ps.length → (pt ps i).lo ≤ (pt ps i).hi) : ∀ (k : Nat) (b : List Int), b.length + k = ps.length → 0 < (allF ps k b).length
  | 0, _, _ => by simp [allF]
  | k + 1, b, h => by
    have h1 := hlo b.length (by omega)
    have h2 := allF_pos hlo k (b ++ [(pt ps b.length).lo]) (by simp; omega)
    have h3 := take_flat_le (lo := (pt ps b.length).lo) (hi := (pt ps b.length).hi) (q := 0) (by omega) (fun n => allF ps k (b ++ [n]))
    rw [show (pt ps b.length).lo + ((0 : Nat) : Int) = (pt ps b.length).lo by omega] at h3
    show 0 < ((rangeI (pt ps b.length).lo (pt ps b.length).hi).flatMap fun n => allF ps k (b ++ [n])).length
    omega

def Lists1 (w : World) (LL : List (List Int)) (e : Ending) (w' : World) : Prop := ∃ v, e = .returned v ∧ ListsV w.heap.size w' v LL ∧ Below w.heap.size w w'

theorem ListsV.one {w : World} {v : Value} {L : List Int} (cs : Obj) (h : NumV w v L) : ListsV w.heap.size ((w.alloc cs).alloc (.cells #[v] 27)) (.slice (some ⟨w.heap.size + 1, 0, none⟩) 1 1) [L] := by
  have hb := below2 w cs (.cells #[v] 27)
  obtain ⟨-, hx⟩ := box2 w cs (.cells #[v] 27)
  exact ⟨[v], ⟨rfl, .inr ⟨w.heap.size + 1, 1, #[v], rfl, by omega, hx, Nat.le_refl _, by simp [maxLen], rfl, rfl⟩⟩, h.below hb, trivial⟩

set_option maxRecDepth 100000 in
set_option maxHeartbeats 4000000 in
theorem Truths_zero (b off cap : Nat) (ps : List Pt) (bs : List Int) (bv : Value) (w : World) (hk : bs.length = ps.length) (h : NumV w bv bs) :
    Calls Try.prog 30 #[.agg #[.slice (some ⟨b, off, none⟩) ps.length cap], bv] w (Lists1 w [bs]) := by
  obtain ⟨sa, cp, rfl, -⟩ := h.form
  have H := Lib.hid h
  clear h
  have HX := Lib.hid (ListsV.one (.cells #[.slice (some ⟨b, off, none⟩) ps.length cap] 24) H.out)
  rw [hk] at *
  have hb2 := below2 w (.cells #[.slice (some ⟨b, off, none⟩) ps.length cap] 24) (.cells #[.slice sa ps.length cp] 27)
  have HB := Lib.hid hb2
  clear hb2 hk
  have hbu : Try.prog.builtSlice 27 1 [(0, .slice sa ps.length cp)] = some #[.slice sa ps.length cp] := by kernel_rfl
  go_enter Try.func30, Try.ntmps30
  go_wp2
  go_ret
  exact ⟨_, rfl, HX.out, HB.out⟩

set_option maxRecDepth 100000 in
set_option maxHeartbeats 4000000 in
theorem Truths_succ (b off cap k : Nat) (ps : List Pt) (bs : List Int) (bv : Value) (w : World) (hn : ps.length ≤ 20) (hlo : ∀ i, i < ps.length → 0 ≤ (pt ps i).lo ∧ (pt ps i).lo ≤ (pt ps i).hi ∧ (pt ps i).hi ≤ 100000) (hk : bs.length + (k + 1) = ps.length) (h : NumV w bv bs)
    (hlen : (allF ps (k + 1) bs).length ≤ 1000) (hp : PtsIn w b off ps)
    (IH : ∀ (cs : List Int) (cv : Value) (W : World), cs.length + k = ps.length → NumV W cv cs → (allF ps k cs).length ≤ 1000 → PtsIn W b off ps → Calls Try.prog 30 #[.agg #[.slice (some ⟨b, off, none⟩) ps.length cap], cv] W (Lists1 W (allF ps k cs))) :
    Calls Try.prog 30 #[.agg #[.slice (some ⟨b, off, none⟩) ps.length cap], bv] w (Lists1 w (allF ps (k + 1) bs)) := by
  have hm : bs.length < ps.length := by omega
  obtain ⟨hl0, hl1, hl2⟩ := hlo bs.length hm
  obtain ⟨-, hc1, hc2⟩ := hp bs.length hm
  have hltb := block_lt_of_cell hc1
  have hX := heap_alloc_new w (.cells #[.slice (some ⟨b, off, none⟩) ps.length cap] 24)
  have hb1 := grow_alloc w (.cells #[.slice (some ⟨b, off, none⟩) ps.length cap] 24)
  have d1 := (hb1.cell (p := ⟨b, off + bs.length * 3 + 1, none⟩) hltb).trans hc1
  have d2 := (hb1.cell (p := ⟨b, off + bs.length * 3 + 2, none⟩) hltb).trans hc2
  clear hc1 hc2
  have HIH := Lib.hid fun (n : Int) (cv : Value) (W : World) (h1 : NumV W cv (bs ++ [n])) (h2 : (allF ps k (bs ++ [n])).length ≤ 1000) (h3 : Below w.heap.size w W) => IH (bs ++ [n]) cv W (by simp; omega) h1 h2 (hp.below h3 hltb)
  have HPOS := Lib.hid fun (n : Int) => allF_pos (ps := ps) (fun i hi => (hlo i hi).2.1) k (bs ++ [n]) (by simp; omega)
  have HALL : Hid (allF ps (k + 1) bs = (rangeI (pt ps bs.length).lo (pt ps bs.length).hi).flatMap fun n => allF ps k (bs ++ [n])) := Lib.hid rfl
  have HLEN := Lib.hid hlen
  rw [HALL.out] at HLEN ⊢
  obtain ⟨sa, cp, rfl, -⟩ := h.form
  have HV := Lib.hid h
  have HBN := Lib.hid (show bs.length ≤ 20 by omega)
  generalize hmm : bs.length = m at *
  have HML := Lib.hid hmm
  clear hmm
  generalize (pt ps m).lo = lo at *
  generalize (pt ps m).hi = hi at *
  have hmi : ((m : Int) == ps.length) = false := by rw [beq_eq_false_iff_ne]; omega
  have hmn : (m == ps.length) = false := by rw [beq_eq_false_iff_ne]; omega
  have hmn2 : ¬ m = ps.length := by omega
  have hmn3 : (m : Int) < ps.length := by omega
  clear hp hlo IH h hk hlen HALL
  have hb2 := below2 w (.cells #[.slice (some ⟨b, off, none⟩) ps.length cap] 24) (.cells #[.int .i64 lo, .int .i64 hi] 54)
  obtain ⟨hx1, hx2⟩ := box2 w (.cells #[.slice (some ⟨b, off, none⟩) ps.length cap] 24) (.cells #[.int .i64 lo, .int .i64 hi] 54)
  clear hX hb1
  go_enter Try.func30, Try.ntmps30
  go_wp2
  generalize World.alloc (World.alloc w _) _ = W1 at *
  have HBW := Lib.hid hb2
  have HC : Hid (∀ w', Below W1.heap.size W1 w' → w'.cell? ⟨w.heap.size, 0, none⟩ = some (.slice (some ⟨b, off, none⟩) ps.length cap) ∧ w'.cell? ⟨w.heap.size + 1, 1, none⟩ = some (.int .i64 hi)) := Lib.hid fun w' h => by
    have y1 := (h.block _ (lt_of_block hx1)).trans hx1
    have y2 := (h.block _ (lt_of_block hx2)).trans hx2
    exact ⟨cell_of_row w' w.heap.size 0 _ _ _ y1, cell_of_row w' (w.heap.size + 1) 1 _ _ _ y2⟩
  clear hb2 hx1 hx2 d1 d2
  go_loopw [5, 7] (fun s i wr => ∃ q : Nat, (q : Int) ≤ hi - lo + 1 ∧ i = .int .i64 (lo + q) ∧ Hid (ListsV W1.heap.size wr s (((rangeI lo hi).take q).flatMap fun n => allF ps k (bs ++ [n]))) ∧ Hid (Below W1.heap.size W1 wr)) (fun _ i _ => (hi + 1 - intOf i).toNat)
  case atStart => exact ⟨0, by omega, by simp, Lib.hid (by rw [List.take_zero]; exact ListsV.nil _ _), Lib.hid (Below.refl _ _)⟩
  case round =>
    obtain ⟨q, hq, rfl, HS5, HBr⟩ := hrel
    obtain ⟨d0, d1⟩ := HC.out wr HBr.out
    by_cases hlt : (q : Int) < hi - lo + 1
    · have hle : lo + (q : Int) ≤ hi := by omega
      have hle' : decide (lo + (q : Int) ≤ hi) = true := decide_eq_true hle
      go_wp2
      clear d0 d1 hle hle'
      refine wp_region_noPanic ?_
      refine wp_region_acts (fun w' => Below W1.heap.size W1 w') (fun _ _ h hb => grow_to h hb) (grow_to HBr.out (below_drawn _)) (by kernel_rfl) (fun _ _ _ _ _ h => h)
        [.take 0, .take 1, .take 3, .take 5, .float 6, .act 2, .act 4, .join, .act 7, .call 8] [9, 10] (by kernel_rfl) ?_
      iterate 4
        (refine GWalk.takes rfl rfl ?_; apply Exists.intro; refine ⟨fun w' hS => ?_, ?_⟩; (obtain ⟨d0, d1⟩ := HC.out w' hS; clear hS; go_simp; with_reducible rfl); simp only [List.getElem_toArray, List.getElem_cons_succ, List.getElem_cons_zero, Act.put, List.setIfInBounds_toArray, List.set_cons_zero, List.set_cons_succ])
      refine GWalk.floats (.cells #[.int .i64 (lo + q)] 3) (fun b => .slice (some ⟨b, 0, none⟩) 1 1) rfl rfl rfl (fun w1 => ?_) ?_
      · have hbu : Try.prog.builtSlice 3 1 [(0, .int .i64 (lo + q))] = some #[.int .i64 (lo + q)] := by kernel_rfl
        go_simp
      simp only [List.nil_append, List.cons_append]
      refine GWalk.acts rfl rfl fun w1 hb1 hS1 hO1 => ?_
      refine ⟨.slice (some ⟨w1.heap.size, 0, none⟩) 0 0, w1.alloc (.cells #[] 3), fun k => k = w1.heap.size, ?_, grow_to hS1 (grow_alloc _ _), ⟨by simp, fun k hk _ => (grow_alloc w1 _).block k hk, fun k hk => by subst hk; simp⟩, ?_⟩
      · kernel_rfl
      simp only [List.getElem_toArray, List.getElem_cons_succ, List.getElem_cons_zero, Act.put, List.setIfInBounds_toArray, List.set_cons_zero, List.set_cons_succ]
      have hrow0 := heap_alloc_new w1 (.cells #[] 3)
      have hg0 := hS1.size
      have hwr0 : wr.heap.size ≤ w1.heap.size := hb1.size
      have hgr0 : Below wr.heap.size wr (w1.alloc (.cells #[] 3)) := grow_to (grow_to (below_drawn _) hb1) (grow_alloc _ _)
      have hS2 := grow_to hS1 (grow_alloc w1 (.cells #[] 3))
      generalize w1.alloc (.cells #[] 3) = w2 at *
      generalize w1.heap.size = g0 at *
      clear hb1 hS1 hO1
      clear w1
      refine GWalk.acts rfl rfl fun w3 hb3 hS3 hO3 => ?_
      have hr3 := (hb3.block _ (lt_of_block hrow0)).trans hrow0
      have hw3 := grow_to HBW.out hS3
      have hgr3 := grow_to hgr0 hb3
      have hgr3s := hgr3.size
      obtain ⟨v4, w4, hrun, hown4, hgr4, hat4⟩ := append_nums W1.heap.size g0 27 (.slice sa m cp) bs w3 (HV.out.below hw3) (by have := HBN.out; have := HML.out; omega) hS3.size hg0 hr3
      have hv4 : ∀ k, v4.ownBlock = some k → k = g0 ∨ (w3.heap.size ≤ k ∧ k < w4.heap.size) := fun k hk => by
        rcases hat4 with h | h
        · rw [h] at hk; cases hk; exact Or.inl rfl
        · rw [h] at hk
          cases hk
          refine Or.inr ⟨Nat.le_refl _, ?_⟩
          exact (hown4.lt _ h).2
      have hg0w := lt_of_block hr3
      have hS4 : Below W1.heap.size W1 w4 := ⟨hgr4.os.trans hS3.os, hgr4.tape.trans hS3.tape, hgr4.output.trans hS3.output, Nat.le_trans hS3.size hgr4.size, fun k hk => (hgr4.block k (Nat.lt_of_lt_of_le hk hS3.size) (fun e => by cases e; omega)).trans (hS3.block k hk)⟩
      have hgr4' : Below wr.heap.size wr w4 := ⟨hgr4.os.trans hgr3.os, hgr4.tape.trans hgr3.tape, hgr4.output.trans hgr3.output, Nat.le_trans hgr3.size hgr4.size, fun k hk => (hgr4.block k (Nat.lt_of_lt_of_le hk hgr3.size) (fun e => by cases e; omega)).trans (hgr3.block k hk)⟩
      refine ⟨v4, w4, fun k => k = g0 ∨ (w3.heap.size ≤ k ∧ k < w4.heap.size), ?_, hS4, ⟨hgr4.size, fun k hk ho => hgr4.block k hk (fun e => ho (Or.inl (by cases e; rfl))), fun k hk => ?_⟩, ?_⟩
      · exact exec_append (.tmp 33) (.tmp 34) rfl rfl rfl hrun
      · have := hgr4.size
        rcases hk with rfl | ⟨h1, h2⟩
        · exact ⟨Or.inl rfl, by omega⟩
        · exact ⟨Or.inr h1, h2⟩
      simp only [List.getElem_toArray, List.getElem_cons_succ, List.getElem_cons_zero, Act.put, List.setIfInBounds_toArray, List.set_cons_zero, List.set_cons_succ]
      clear hrun hat4 hS3 hO3 hb3 hr3 hw3 hS2 hrow0 hgr3 hgr0 hg0w
      refine GWalk.joins fun w5 ab hb5 hab1 hab2 hab3 hab4 => ?_
      simp only [List.getElem_toArray, List.getElem_cons_succ, List.getElem_cons_zero, Act.put, List.setIfInBounds_toArray, List.set_cons_zero, List.set_cons_succ]
      refine GWalk.acts rfl rfl fun w6 hb6 hS6 hO6 => ?_
      have hb46 := grow_to hb5 hb6
      have hown6 := hown4.kept (row := none) ⟨hb46.os, hb46.tape, hb46.output, hb46.size, fun k hk _ => hb46.block k hk⟩ (by cases h : v4.ownBlock <;> simp)
      obtain ⟨g, kx, w7, hrun, hown7, hgr7, hat7, hlt7⟩ := append_one3 w6 W1.heap.size bs.length 27 v4 (bs.map (Value.int .i64)) (lo + q) ab hown6 hS6.size ((hb6.block _ hab2).trans hab4) (by have := HBN.out; have := HML.out; omega)
      have hv4b : ∀ k, v4.ownBlock = some k → W1.heap.size ≤ k := fun k hk => (hown4.lt k hk).1
      have hS7 : Below W1.heap.size W1 w7 := ⟨hgr7.os.trans hS6.os, hgr7.tape.trans hS6.tape, hgr7.output.trans hS6.output, Nat.le_trans hS6.size hgr7.size, fun k hk => (hgr7.block k (Nat.lt_of_lt_of_le hk hS6.size) (fun e => by have := hv4b k e.symm; omega)).trans (hS6.block k hk)⟩
      have hgr46 := grow_to hgr4' hb46
      have hv4w : ∀ k, v4.ownBlock = some k → wr.heap.size ≤ k := fun k hk => by
        have := hgr4.size
        rcases hv4 k hk with h | ⟨h, _⟩
        · omega
        · have h1 := hgr3s
          omega
      have hgr7' : Below wr.heap.size wr w7 := ⟨hgr7.os.trans hgr46.os, hgr7.tape.trans hgr46.tape, hgr7.output.trans hgr46.output, Nat.le_trans hgr46.size hgr7.size, fun k hk => (hgr7.block k (Nat.lt_of_lt_of_le hk hgr46.size) (fun e => by have := hv4w k e.symm; omega)).trans (hgr46.block k hk)⟩
      have hOg : (g = g0 ∨ (w3.heap.size ≤ g ∧ g < w4.heap.size)) ∨ (w6.heap.size ≤ g ∧ g < w7.heap.size) := by
        rcases hat7 with h | h
        · exact Or.inl (hv4 g h)
        · exact Or.inr ⟨by omega, hlt7⟩
      refine ⟨.slice (some ⟨g, 0, none⟩) (bs.length + 1) kx, w7, fun k => (k = g0 ∨ (w3.heap.size ≤ k ∧ k < w4.heap.size)) ∨ (w6.heap.size ≤ k ∧ k < w7.heap.size), ?_, hS7, ⟨hgr7.size, fun k hk ho => hgr7.block k hk (fun e => ho (Or.inl (hv4 k e.symm))), fun k hk => ?_⟩, ?_⟩
      · exact exec_append (.tmp 35) (.tmp 37) rfl rfl rfl hrun
      · rcases hk with h | ⟨h1, h2⟩
        · exact ⟨Or.inl h, Nat.lt_of_lt_of_le (hO6 k h) hgr7.size⟩
        · exact ⟨Or.inr h1, h2⟩
      simp only [List.getElem_toArray, List.getElem_cons_succ, List.getElem_cons_zero, Act.put, List.setIfInBounds_toArray, List.set_cons_zero, List.set_cons_succ]
      have hnum : NumV w7 (.slice (some ⟨g, 0, none⟩) (bs.length + 1) kx) (bs ++ [lo + (q : Int)]) := by
        have h1 : w7.ownsRow W1.heap.size 3 1 (.slice (some ⟨g, 0, none⟩) (bs.length + 1) kx) (bs ++ [lo + (q : Int)]).length ((bs ++ [lo + (q : Int)]).map (Value.int .i64)) := by
          rw [show (bs ++ [lo + (q : Int)]).length = bs.length + 1 by simp, show (bs ++ [lo + (q : Int)]).map (Value.int .i64) = bs.map (Value.int .i64) ++ [.int .i64 (lo + q)] by simp]
          exact hown7
        refine ⟨h1.1, ?_⟩
        rcases h1.2 with h | ⟨g', cap', cur', e1, _, e2⟩
        · exact .inl h
        · exact .inr ⟨g', cap', cur', e1, Nat.zero_le _, e2⟩
      clear hrun hown7 hgr7 hat7 hown6 hb46 hb6 hS6 hO6 hab4 hab3 hab2 hab1 hb5 hown4 hgr4 hgr4' hS4 hv4 hv4b hv4w hgr46 hOg
      refine GWalk.calls rfl rfl ?_; apply Exists.intro; apply Exists.intro; refine ⟨fun w' hS => ?_, fun w8 hb8 hS8 hO8 => ?_⟩; (clear hS; go_simp; exact ⟨rfl, rfl⟩)
      have HLE := Lib.hid (take_flat_le hlt (fun n => allF ps k (bs ++ [n])))
      refine (HIH.out (lo + q) _ w8 (hnum.below hb8) (by have := HLE.out; have := HLEN.out; omega) (grow_to HBW.out hS8)).mono ?_
      rintro e w9 ⟨v9, rfl, hv9, hb9⟩
      refine ⟨_, rfl, hb9, grow_to hS8 hb9, ?_⟩
      simp only [List.getElem_toArray, List.getElem_cons_succ, List.getElem_cons_zero, Act.put, List.setIfInBounds_toArray, List.set_cons_zero, List.set_cons_succ]
      have hgr9 := grow_to (grow_to hgr7' hb8) hb9
      have hv9' := hv9.mono (Nat.zero_le _)
      clear hv9 hnum hgr7' hb8 hS8 hO8 hlt7 hS7
      refine GWalk.fin fun w10 hb10 hS10 => ?_
      have hgr10 := grow_to hgr9 hb10
      have h5 := HS5.out.below hgr10
      have h9 := hv9'.below hb10
      obtain ⟨v', w11, hrun, hL11, hgr11, hown⟩ := append_lists W1.heap.size 57 u5 v9 _ _ w10 h5 h9 (HPOS.out _) (by have := HLE.out; have := HLEN.out; omega) hS10.size
      have hS11 : Below W1.heap.size W1 w11 := ⟨hgr11.os.trans hS10.os, hgr11.tape.trans hS10.tape, hgr11.output.trans hS10.output, Nat.le_trans hS10.size hgr11.size, fun k hk => (hgr11.block k (Nat.lt_of_lt_of_le hk hS10.size) (fun e => by have := hown k e.symm; omega)).trans (hS10.block k hk)⟩
      refine Tail.grows rfl rfl (exec_append (.tmp 31) (.tmp 39) rfl rfl rfl hrun) hS11 ?_
      simp only [List.getElem_toArray, List.getElem_cons_succ, List.getElem_cons_zero, Act.put, List.setIfInBounds_toArray, List.set_cons_zero, List.set_cons_succ]
      refine Tail.value rfl rfl rfl (Tail.done (NoPanic.normal ?_))
      simp only [List.getElem_toArray, List.getElem_cons_succ, List.getElem_cons_zero, Act.put, List.setIfInBounds_toArray, List.set_cons_zero, List.set_cons_succ]
      have HL11 := Lib.hid hL11
      have HS11 := Lib.hid hS11
      rw [← take_flat hlt (fun n => allF ps k (bs ++ [n]))] at HL11
      clear hrun hgr11 hL11 hown h5 h9 hgr10 hgr9 hv9' hb10 hS10 hb9 hS11
      go_wp2
      go_roundw
      case rel => exact ⟨q + 1, by omega, by simp; omega, HL11, HS11⟩
      case measure => simp [intOf] <;> omega
    · have hgt : ¬ lo + (q : Int) ≤ hi := by omega
      have hgt' : decide (lo + (q : Int) ≤ hi) = false := decide_eq_false hgt
      have HT : Hid ((rangeI lo hi).take q = rangeI lo hi) := Lib.hid (List.take_of_length_le (by rw [rangeI_len]; omega))
      go_wp2
      go_ret
      have h5 := HS5.out
      rw [HT.out] at h5
      exact ⟨_, rfl, h5.mono HBW.out.size, grow_to HBW.out HBr.out⟩

/-- All truths, as the reference lists them. -/
theorem Truths_ok (b off cap : Nat) (ps : List Pt) (hn : ps.length ≤ 20) (hlo : ∀ i, i < ps.length → 0 ≤ (pt ps i).lo ∧ (pt ps i).lo ≤ (pt ps i).hi ∧ (pt ps i).hi ≤ 100000) : ∀ (k : Nat) (bs : List Int) (bv : Value) (w : World), bs.length + k = ps.length → NumV w bv bs → (allF ps k bs).length ≤ 1000 → PtsIn w b off ps →
    Calls Try.prog 30 #[.agg #[.slice (some ⟨b, off, none⟩) ps.length cap], bv] w (Lists1 w (allF ps k bs))
  | 0, bs, bv, w, hk, h, _, _ => Truths_zero b off cap ps bs bv w (by omega) h
  | k + 1, bs, bv, w, hk, h, hl, hp => Truths_succ b off cap k ps bs bv w hn hlo hk h hl hp (fun cs cv W h1 h2 h3 h4 => Truths_ok b off cap ps hn hlo k cs cv W h1 h2 h3 h4)
theorem Truths_all (b off cap : Nat) (ps : List Pt) (w : World) (hn : ps.length ≤ 20) (hlo : ∀ i, i < ps.length → 0 ≤ (pt ps i).lo ∧ (pt ps i).lo ≤ (pt ps i).hi ∧ (pt ps i).hi ≤ 100000) (hl : (allT ps).length ≤ 1000) (hp : PtsIn w b off ps) :
    Calls Try.prog 30 #[.agg #[.slice (some ⟨b, off, none⟩) ps.length cap], .slice none 0 0] w (Lists1 w (allT ps)) :=
  Truths_ok b off cap ps hn hlo ps.length [] _ w (by simp) (NumV.nil w) hl hp
end Go.Proofs.Ytfjlnejeffkdoaa

namespace Go.Proofs.Ytfjlnejeffkdoaa
open Go.RowKit Go.Shelf
attribute [local irreducible] arrV wpQuiet
attribute [local go_sem] Oper.semAt_some

def refSpanR : Option (Int × Int) → Value
  | none => .tuple #[.agg #[.int .i64 0, .int .i64 0], .bool false]
  | some (lo, hi) => .tuple #[.agg #[.int .i64 lo, .int .i64 hi], .bool true]
def loO (o : Option (Int × Int)) : Int := (o.getD (0, 0)).1
def hiO (o : Option (Int × Int)) : Int := (o.getD (0, 0)).2
theorem refSpanR_eq (o : Option (Int × Int)) : refSpanR o = .tuple #[.agg #[.int .i64 (loO o), .int .i64 (hiO o)], .bool o.isSome] := by
  cases o <;> rfl

/-- What lies in memory between the rounds. -/
structure SpI (w : World) (cv dv kv ov : Value) (o : Option (Int × Int)) (wr : World) : Prop where
  c : wr.heap[w.heap.size]? = some (.cells #[cv] 24 (0, 0))
  r : wr.heap[w.heap.size + 1]? = some (.cells #[dv, kv, ov] 26 (0, 0))
  z : wr.heap[w.heap.size + 1 + 1]? = some (.cells #[.int .i64 0, .int .i64 0] 54 (0, 0))
  s : wr.heap[w.heap.size + 1 + 1 + 1]? = some (.cells #[.int .i64 (loO o), .int .i64 (hiO o)] 54 (0, 0))
  b : Below w.heap.size w wr
theorem SpI.grown {w : World} {cv dv kv ov : Value} {o : Option (Int × Int)} {wr w' : World} (h : SpI w cv dv kv ov o wr) (hb : Below wr.heap.size wr w') : SpI w cv dv kv ov o w' :=
  ⟨(hb.block _ (lt_of_block h.c)).trans h.c, (hb.block _ (lt_of_block h.r)).trans h.r, (hb.block _ (lt_of_block h.z)).trans h.z, (hb.block _ (lt_of_block h.s)).trans h.s, grow_to h.b hb⟩
theorem SpI.start (w : World) (cv dv kv ov : Value) : SpI w cv dv kv ov none ((((w.alloc (.cells #[cv] 24)).alloc (.cells #[dv, kv, ov] 26)).alloc (.cells #[.int .i64 0, .int .i64 0] 54)).alloc (.cells #[.int .i64 0, .int .i64 0] 54)) := by
  obtain ⟨a1, a2, a3⟩ := box3 w (.cells #[cv] 24) (.cells #[dv, kv, ov] 26) (.cells #[.int .i64 0, .int .i64 0] 54)
  have hb := below3 w (.cells #[cv] 24) (.cells #[dv, kv, ov] 26) (.cells #[.int .i64 0, .int .i64 0] 54)
  have h4 := heap_alloc_new (((w.alloc (.cells #[cv] 24)).alloc (.cells #[dv, kv, ov] 26)).alloc (.cells #[.int .i64 0, .int .i64 0] 54)) (.cells #[.int .i64 0, .int .i64 0] 54)
  have hg := grow_alloc (((w.alloc (.cells #[cv] 24)).alloc (.cells #[dv, kv, ov] 26)).alloc (.cells #[.int .i64 0, .int .i64 0] 54)) (.cells #[.int .i64 0, .int .i64 0] 54)
  simp only [World.size_alloc] at h4
  exact ⟨(hg.block _ (lt_of_block a1)).trans a1, (hg.block _ (lt_of_block a2)).trans a2, (hg.block _ (lt_of_block a3)).trans a3, h4, grow_to hb hg⟩
theorem SpI.set2 {w : World} {cv dv kv ov : Value} {o : Option (Int × Int)} {wr : World} (h : SpI w cv dv kv ov o wr) (o' : Option (Int × Int)) (x y : Int) (hx : x = loO o') (hy : y = hiO o') :
    SpI w cv dv kv ov o' ((wr.setCell ⟨w.heap.size + 1 + 1 + 1, 0, none⟩ (.int .i64 x)).setCell ⟨w.heap.size + 1 + 1 + 1, 1, none⟩ (.int .i64 y)) := by
  subst hx hy
  have q1 := heap_setCell_same wr (w.heap.size + 1 + 1 + 1) 0 _ 54 (.int .i64 (loO o')) h.s
  have q2 := heap_setCell_same _ (w.heap.size + 1 + 1 + 1) 1 _ 54 (.int .i64 (hiO o')) q1
  have oth : ∀ k, k ≠ w.heap.size + 1 + 1 + 1 → ((wr.setCell ⟨w.heap.size + 1 + 1 + 1, 0, none⟩ (.int .i64 (loO o'))).setCell ⟨w.heap.size + 1 + 1 + 1, 1, none⟩ (.int .i64 (hiO o'))).heap[k]? = wr.heap[k]? := fun k hk =>
    (heap_setCell_other _ ⟨w.heap.size + 1 + 1 + 1, 1, none⟩ k _ (by exact fun e => hk e)).trans (heap_setCell_other _ ⟨w.heap.size + 1 + 1 + 1, 0, none⟩ k _ (by exact fun e => hk e))
  exact ⟨(oth _ (by omega)).trans h.c, (oth _ (by omega)).trans h.r, (oth _ (by omega)).trans h.z, q2, (h.b.setCell (p := ⟨w.heap.size + 1 + 1 + 1, 0, none⟩) (show w.heap.size ≤ w.heap.size + 1 + 1 + 1 by omega) _).setCell (p := ⟨w.heap.size + 1 + 1 + 1, 1, none⟩) (show w.heap.size ≤ w.heap.size + 1 + 1 + 1 by omega) _⟩

def spTo (ps : List Pt) (r : Rl) (kd : Int) (LL : List (List Int)) (q : Nat) : Option (Int × Int) := bnd (numsL ps r (fndOf kd) ((LL.take q).map pad))
theorem is_fndK (kd : Int) (hk : kd = 0 ∨ kd = 1 ∨ kd = 2 ∨ kd = 3) {ps : List Pt} {r : Rl} {t : List Int} (F : Sane ps r) (h : IsTr ps t) : isOf kd (readR ps r t) = true ↔ (fndOf kd (readR ps r t)).1 ≠ -1 := by
  rcases hk with rfl | rfl | rfl | rfl
  · have := tr_pk F h
    simp [isOf, fndOf, this]
  · have := @yield_at ps r t
    simp only [isOf, fndOf]
    simp
    constructor
    · intro h; omega
    · intro h
      obtain ⟨k, _, e, _⟩ := this h
      omega
  · have := @meet_at ps r t
    simp only [isOf, fndOf]
    simp
    constructor
    · intro h; omega
    · intro h
      obtain ⟨k, _, e, _⟩ := this h
      omega
  · simp [isOf, fndOf]
theorem num_fndK (kd : Int) (hk : kd = 0 ∨ kd = 1 ∨ kd = 2 ∨ kd = 3) (x : Rs) : (fndOf kd x).2 = numOf kd x := by
  rcases hk with rfl | rfl | rfl | rfl <;> rfl
theorem spTo_no {ps : List Pt} {r : Rl} {kd : Int} {LL : List (List Int)} {q : Nat} {L : List Int} (F : Sane ps r) (hk : kd = 0 ∨ kd = 1 ∨ kd = 2 ∨ kd = 3) (hL : LL[q]? = some L) (ht : IsTr ps (pad L)) (h : isOf kd (readR ps r (pad L)) = false) : spTo ps r kd LL (q + 1) = spTo ps r kd LL q := by
  have hn : (fndOf kd (readR ps r (pad L))).1 = -1 := by
    have := is_fndK kd hk F ht
    rw [h] at this
    by_cases e : (fndOf kd (readR ps r (pad L))).1 = -1
    · exact e
    · exact absurd (this.2 e) (by simp)
  unfold spTo
  rw [List.take_add_one, hL, List.map_append]
  simp only [Option.toList, List.map_cons, List.map_nil]
  rw [numsL_snoc, if_pos hn]
theorem spTo_yes {ps : List Pt} {r : Rl} {kd : Int} {LL : List (List Int)} {q : Nat} {L : List Int} (F : Sane ps r) (hk : kd = 0 ∨ kd = 1 ∨ kd = 2 ∨ kd = 3) (hL : LL[q]? = some L) (ht : IsTr ps (pad L)) (h : isOf kd (readR ps r (pad L)) = true) : spTo ps r kd LL (q + 1) = bndStep (spTo ps r kd LL q) (numOf kd (readR ps r (pad L))) := by
  have hn : (fndOf kd (readR ps r (pad L))).1 ≠ -1 := (is_fndK kd hk F ht).1 h
  unfold spTo
  rw [List.take_add_one, hL, List.map_append]
  simp only [Option.toList, List.map_cons, List.map_nil]
  rw [numsL_snoc, if_neg hn, bnd_snoc, num_fndK kd hk]

set_option maxRecDepth 100000 in
set_option maxHeartbeats 4000000 in
theorem RefSpan_ok (b off cap : Nat) (kd : Int) (ps : List Pt) (r : Rl) (base : Nat) (v : Value) (LL : List (List Int)) (w : World) (hk : kd = 0 ∨ kd = 1 ∨ kd = 2 ∨ kd = 3) (F : Sane ps r) (hp : PtsIn w b off ps) (hv : ListsV base w v LL) (hLL : LL.length ≤ 1000) (hG : ∀ L ∈ LL, Good ps r L) :
    Calls Try.prog 29 #[.agg #[.slice (some ⟨b, off, none⟩) ps.length cap], .agg #[.int .i64 r.d, .int .i64 r.k, .int .i64 r.o], .int .u8 kd, v] w fun e w' => e = .returned (refSpanR (bnd (numsL ps r (fndOf kd) (LL.map pad)))) ∧ Below w.heap.size w w' := by
  have HEND : Hid (spTo ps r kd LL LL.length = bnd (numsL ps r (fndOf kd) (LL.map pad))) := Lib.hid (by unfold spTo; rw [List.take_length])
  rw [← HEND.out, refSpanR_eq]
  obtain ⟨sa, cp, rfl, hlm, hget⟩ := hv.form
  have hltb := block_lt_of_cell (hp 0 F.pos).1
  have HS := Lib.hid (SpI.start w (.slice (some ⟨b, off, none⟩) ps.length cap) (.int .i64 r.d) (.int .i64 r.k) (.int .i64 r.o))
  have HRD := Lib.hid fun (q : Nat) (L : List Int) (h : LL[q]? = some L) (W : World) (hb : Below w.heap.size w W) => by
    have hmem := List.mem_of_getElem? h
    have G := hG L hmem
    obtain ⟨g, u, e, hu, hN⟩ := hget q L h
    obtain ⟨su, cu, rfl, h0, h1⟩ := hN.form
    cases su with
    | none => exact absurd (h0 rfl) (by have := G.tlen; have := G.pos; omega)
    | some ad =>
      obtain ⟨g2, rfl, hI⟩ := h1 ad rfl
      have hl2 := block_lt_of_cell (hI 0 (by have := G.tlen; have := G.pos; omega))
      have hc := (hb.cell (p := ⟨g, q, none⟩) (block_lt_of_cell hu)).trans hu
      rw [G.tlen] at hc
      exact (⟨g, g2, cu, e, hc, good_pad G, fun W' hb' => RefRead_any b off cap g2 0 cu ps r L W' G (hp.below hb' hltb) (hI.below hb' hl2)⟩ : ∃ g g2 cu, sa = some ⟨g, 0, none⟩ ∧ W.cell? ⟨g, q, none⟩ = some (.slice (some ⟨g2, 0, none⟩) ps.length cu) ∧ IsTr ps (pad L) ∧
        ∀ W', Below w.heap.size w W' → Calls Try.prog 26 #[.agg #[.slice (some ⟨b, off, none⟩) ps.length cap], .agg #[.int .i64 r.d, .int .i64 r.k, .int .i64 r.o], .slice (some ⟨g2, 0, none⟩) ps.length cu] W' fun e w' => e = .returned (.agg (rsV (readR ps r (pad L)))) ∧ Below W'.heap.size W' w')
  have HK := Lib.hid hk
  have HF := Lib.hid F
  have HNO := Lib.hid fun (q : Nat) (L : List Int) (hL : LL[q]? = some L) (ht : IsTr ps (pad L)) => @spTo_no ps r kd LL q L F hk hL ht
  have HYES := Lib.hid fun (q : Nat) (L : List Int) (hL : LL[q]? = some L) (ht : IsTr ps (pad L)) => @spTo_yes ps r kd LL q L F hk hL ht
  have H0 : Hid (spTo ps r kd LL 0 = none) := Lib.hid rfl
  have hL20 : LL.length ≤ 1000 := hLL
  have HG : Hid (∀ q, q < LL.length → ∃ L, LL[q]? = some L) := Lib.hid fun q hq => ⟨_, List.getElem?_eq_getElem hq⟩
  clear hv hp hG hget hlm hltb hk F hLL
  generalize spTo ps r kd LL = sp at *
  go_enter Try.func29, Try.ntmps29
  go_wp2
  generalize World.alloc (World.alloc (World.alloc (World.alloc w _) _) _) _ = w0 at *
  go_loopw [11, 12] (fun f i wr => ∃ q : Nat, q ≤ LL.length ∧ i = .int .i64 q ∧ f = .bool (sp q).isSome ∧ Hid (SpI w (.slice (some ⟨b, off, none⟩) ps.length cap) (.int .i64 r.d) (.int .i64 r.k) (.int .i64 r.o) (sp q) wr)) (fun _ i _ => LL.length - (intOf i).toNat)
  case atStart => exact ⟨0, Nat.zero_le _, rfl, by rw [H0.out]; rfl, by rw [H0.out]; exact HS⟩
  case round =>
    obtain ⟨q, hq, rfl, rfl, HI⟩ := hrel
    by_cases hlt : q < LL.length
    · have hqn : (q : Int) < LL.length := by omega
      have hw9 : IntKind.i64.wrap ((q : Int) + 1) = (q : Int) + 1 := IntWalk.i64_in _ (by omega)
      obtain ⟨L, hL⟩ := HG.out q hlt
      have HL := Lib.hid hL
      obtain ⟨g, g2, cu, rfl, hc, ht, hcall⟩ := HRD.out q L hL wr HI.out.b
      have HLC := Lib.hid (block_lt_of_cell hc)
      have HQC := Lib.hid fun w' (h : Below wr.heap.size wr w') => (h.cell (p := ⟨g, q, none⟩) HLC.out).trans hc
      have HCALL := Lib.hid hcall
      have HTR := Lib.hid ht
      clear hL hc ht hcall
      go_wp2
      refine wp_region_noPanic ?_
      refine wp_region_float (by kernel_rfl) (fun _ _ _ _ _ h => h) 7 _ rfl 13 rfl rfl (.cells zero37 47) (fun a w => by kernel_rfl)
        [(false, 0), (false, 1), (false, 2), (false, 3), (false, 4), (false, 5), (true, 6)] [8] (by kernel_rfl) ?_
      iterate 6
        (refine Walk.takes rfl rfl ?_; apply Exists.intro; refine ⟨fun w' hS => ?_, ?_⟩; (have hI := HI.out.grown hS; have u0 := HQC.out w' hS; have e0 := cell_of_row w' w.heap.size 0 _ _ _ hI.c; have e1 := cell_of_row w' (w.heap.size + 1) 0 _ _ _ hI.r; have e2 := cell_of_row w' (w.heap.size + 1) 1 _ _ _ hI.r; have e3 := cell_of_row w' (w.heap.size + 1) 2 _ _ _ hI.r; clear hI hS; simp at e0 e1 e2 e3; go_simp; with_reducible rfl); simp only [List.getElem_toArray, List.getElem_cons_succ, List.getElem_cons_zero, Act.put, List.setIfInBounds_toArray, List.set_cons_zero, List.set_cons_succ])
      refine Walk.calls rfl rfl ?_; apply Exists.intro; apply Exists.intro; refine ⟨fun w' hS => ?_, fun w' hba => ?_⟩; (clear hS; go_simp; exact ⟨rfl, rfl⟩)
      have hu0 := grow_to HI.out.b (grow_to (below_drawn _) hba)
      refine (HCALL.out w' hu0).mono ?_
      rintro e u1 ⟨rfl, hbb⟩
      refine ⟨_, rfl, hbb, ?_⟩
      simp only [List.getElem_toArray, List.getElem_cons_succ, List.getElem_cons_zero, Act.put, List.setIfInBounds_toArray, List.set_cons_zero, List.set_cons_succ]
      clear hba hbb hu0
      refine Walk.fin ?_
      intro v7 hb7 b8 hbb8 hz8 hw7
      simp only [List.getElem_toArray, List.getElem_cons_succ, List.getElem_cons_zero, Act.put, List.setIfInBounds_toArray, List.set_cons_zero, List.set_cons_succ]
      have s47 : (Try.prog.info? 47).map (·.size) = some (rsV (readR ps r (pad L))).size := by kernel_rfl
      have n1 := set_whole b8 47 v7 zero37 (rsV (readR ps r (pad L))) rfl hz8
      have n3 := below_cells (b := b8) hbb8 (rsV (readR ps r (pad L))).toList 0 v7 hw7
      refine Tail.skip rfl rfl (exec_store_row 47 (.tmp 13) (.tmp 27) rfl b8 0 (rsV (readR ps r (pad L))) rfl rfl (there_block hz8 (Nat.le_refl _)) s47 (by simp [rsV, iV, Value.oneCell'])) n3 (Tail.done (NoPanic.normal ?_))
      simp only [List.getElem_toArray, List.getElem_cons_succ, List.getElem_cons_zero, Act.put, List.setIfInBounds_toArray, List.set_cons_zero, List.set_cons_succ]
      generalize v7.setCells b8 0 _ = w2 at *
      clear hz8 hw7 hb7 s47 hbb8
      clear v7 u1
      have HI2 := Lib.hid (HI.out.grown n3)
      have N8 := Lib.hid n1
      clear n1 n3 HI HQC HLC HCALL
      clear wr
      have HNO1 := Lib.hid (HNO.out q L HL.out HTR.out)
      have HYES1 := Lib.hid (HYES.out q L HL.out HTR.out)
      have HHAS := Lib.hid fun W => RefHas_any kd (readR ps r (pad L)) W HK.out
      have HNUM := Lib.hid fun W => RefNumber_any kd (readR ps r (pad L)) W HK.out
      clear HL HTR
      generalize readR ps r (pad L) = x at *
      generalize isOf kd x = iv at *
      generalize numOf kd x = nn at *
      rw [show rsV x = #[.int .i64 x.st, .int .i64 x.pk, .int .i64 x.ya, .int .i64 x.y, .int .i64 x.ma, .int .i64 x.pl, .int .i64 x.wk] from rfl] at N8 HHAS HNUM
      have f0 := cell_of_row w2 b8 0 _ _ _ N8.out
      have f1 := cell_of_row w2 b8 1 _ _ _ N8.out
      have f2 := cell_of_row w2 b8 2 _ _ _ N8.out
      have f3 := cell_of_row w2 b8 3 _ _ _ N8.out
      have f4 := cell_of_row w2 b8 4 _ _ _ N8.out
      have f5 := cell_of_row w2 b8 5 _ _ _ N8.out
      have f6 := cell_of_row w2 b8 6 _ _ _ N8.out
      simp at f0 f1 f2 f3 f4 f5 f6
      go_wp2_with fail
      refine (HHAS.out w2).mono ?_
      rintro e w3 ⟨rfl, hb3⟩
      have HI3 := Lib.hid (HI2.out.grown hb3)
      replace N8 := Lib.hid ((hb3.block _ (lt_of_block N8.out)).trans N8.out)
      clear hb3 f0 f1 f2 f3 f4 f5 f6 HI2
      clear w2
      cases iv
      · have HE := Lib.hid (HNO1.out rfl)
        go_wp2
        go_roundw
        case rel => exact ⟨q + 1, by omega, by simp, by rw [HE.out], by rw [HE.out]; exact HI3⟩
        case measure => simp [intOf] <;> omega
      have HE := Lib.hid (HYES1.out rfl)
      clear HNO1 HYES1
      have f0 := cell_of_row w3 b8 0 _ _ _ N8.out
      have f1 := cell_of_row w3 b8 1 _ _ _ N8.out
      have f2 := cell_of_row w3 b8 2 _ _ _ N8.out
      have f3 := cell_of_row w3 b8 3 _ _ _ N8.out
      have f4 := cell_of_row w3 b8 4 _ _ _ N8.out
      have f5 := cell_of_row w3 b8 5 _ _ _ N8.out
      have f6 := cell_of_row w3 b8 6 _ _ _ N8.out
      simp at f0 f1 f2 f3 f4 f5 f6
      go_wp2_with fail
      refine (HNUM.out w3).mono ?_
      rintro e w4 ⟨rfl, hb4⟩
      have HI4 := Lib.hid (HI3.out.grown hb4)
      clear hb4 f0 f1 f2 f3 f4 f5 f6 HI3 N8 HHAS HNUM
      clear w3
      generalize hoq : sp q = oq at *
      have HOQ := Lib.hid hoq
      clear hoq
      have e0 := cell_of_row w4 (w.heap.size + 1 + 1 + 1) 0 _ _ _ HI4.out.s
      have e1 := cell_of_row w4 (w.heap.size + 1 + 1 + 1) 1 _ _ _ HI4.out.s
      have z0 := frozen_of_row w4 (w.heap.size + 1 + 1 + 1) 0 _ _ HI4.out.s
      have z1 := frozen_of_row w4 (w.heap.size + 1 + 1 + 1) 1 _ _ HI4.out.s
      have hlt4 := lt_of_block HI4.out.s
      simp at e0 e1
      cases oq with
      | none =>
        simp only [loO, hiO, Option.getD_none] at e0 e1
        simp only [Option.isSome_none]
        have HFIN := Lib.hid ((HI4.out.set2 (some (nn, nn)) nn nn rfl rfl).set2 (some (nn, nn)) nn nn rfl rfl)
        have HE2 : Hid (sp (q + 1) = some (nn, nn)) := Lib.hid (by rw [HE.out]; rfl)
        go_wp2
        go_roundw
        case rel => exact ⟨q + 1, by omega, by simp, by rw [HE2.out]; rfl, by rw [HE2.out]; exact HFIN⟩
        case measure => simp [intOf] <;> omega
      | some o =>
        obtain ⟨lo, hi⟩ := o
        simp only [loO, hiO, Option.getD_some] at e0 e1
        simp only [Option.isSome_some]
        have HFIN := Lib.hid (HI4.out.set2 (some (min lo nn, max hi nn)) (min lo nn) (max hi nn) rfl rfl)
        have HE2 : Hid (sp (q + 1) = some (min lo nn, max hi nn)) := Lib.hid (by rw [HE.out]; rfl)
        go_wp2
        go_roundw
        case rel => exact ⟨q + 1, by omega, by simp, by rw [HE2.out]; rfl, by rw [HE2.out]; exact HFIN⟩
        case measure => simp [intOf] <;> omega
    · obtain rfl : q = LL.length := by omega
      have hqn : ¬ (LL.length : Int) < LL.length := by omega
      have e0 := cell_of_row wr (w.heap.size + 1 + 1 + 1) 0 _ _ _ HI.out.s
      have e1 := cell_of_row wr (w.heap.size + 1 + 1 + 1) 1 _ _ _ HI.out.s
      have y0 := cell_of_row wr (w.heap.size + 1 + 1) 0 _ _ _ HI.out.z
      have y1 := cell_of_row wr (w.heap.size + 1 + 1) 1 _ _ _ HI.out.z
      have z0 := frozen_of_row wr (w.heap.size + 1 + 1) 0 _ _ HI.out.z
      have z1 := frozen_of_row wr (w.heap.size + 1 + 1) 1 _ _ HI.out.z
      have hlt4 := lt_of_block HI.out.z
      have HZ := Lib.hid HI.out.z
      simp at e0 e1 y0 y1
      go_wp2
      clear e0 e1 y0 y1 z0 z1
      have q1 := heap_setCell_same wr (w.heap.size + 1 + 1) 0 _ 54 (.int .i64 (loO (sp LL.length))) HZ.out
      have q2 := heap_setCell_same _ (w.heap.size + 1 + 1) 1 _ 54 (.int .i64 (hiO (sp LL.length))) q1
      have hbf : Below w.heap.size w ((wr.setCell ⟨w.heap.size + 1 + 1, 0, none⟩ (.int .i64 (loO (sp LL.length)))).setCell ⟨w.heap.size + 1 + 1, 1, none⟩ (.int .i64 (hiO (sp LL.length)))) :=
        (HI.out.b.setCell (p := ⟨w.heap.size + 1 + 1, 0, none⟩) (show w.heap.size ≤ w.heap.size + 1 + 1 by omega) _).setCell (p := ⟨w.heap.size + 1 + 1, 1, none⟩) (show w.heap.size ≤ w.heap.size + 1 + 1 by omega) _
      generalize World.setCell (World.setCell wr _ _) _ _ = w9 at *
      have e0 := cell_of_row w9 (w.heap.size + 1 + 1) 0 _ _ _ q2
      have e1 := cell_of_row w9 (w.heap.size + 1 + 1) 1 _ _ _ q2
      simp at e0 e1
      exact bodyPost_ret (v := .tuple #[.agg #[.int .i64 (loO (sp LL.length)), .int .i64 (hiO (sp LL.length))], .bool (sp LL.length).isSome]) (by simp [results, Try.results29, go_sem, e0, e1]) rfl ⟨rfl, hbf⟩
end Go.Proofs.Ytfjlnejeffkdoaa

namespace Go.Proofs.Ytfjlnejeffkdoaa
open Go.RowKit Go.Shelf
attribute [local irreducible] arrV

/-- What spanOf answers where there is no span. -/
def badV (E : Int) : Value := .tuple #[.agg #[.nilFunc, .nilFunc], .agg #[.int .i64 0, .int .i64 0], .int .i64 E]

theorem bad_end {w w1 : World} {u v x y : Value} (hb : Below w.heap.size w w1) (h1 : w1.heap[w.heap.size + 1]? = some (.cells #[u, v] 105 (0, 0))) (h2 : w1.heap[w.heap.size + 1 + 1]? = some (.cells #[x, y] 51 (0, 0))) :
    let W := (((w1.setCell ⟨w.heap.size + 1, 0, none⟩ .nilFunc).setCell ⟨w.heap.size + 1, 1, none⟩ .nilFunc).setCell ⟨w.heap.size + 1 + 1, 0, none⟩ (.int .i64 0)).setCell ⟨w.heap.size + 1 + 1, 1, none⟩ (.int .i64 0)
    W.cell? ⟨w.heap.size + 1, 0, none⟩ = some .nilFunc ∧ W.cell? ⟨w.heap.size + 1, 1, none⟩ = some .nilFunc ∧ W.cell? ⟨w.heap.size + 1 + 1, 0, none⟩ = some (.int .i64 0) ∧ W.cell? ⟨w.heap.size + 1 + 1, 1, none⟩ = some (.int .i64 0) ∧ Below w.heap.size w W := by
  intro W
  have q1 := heap_setCell_same w1 (w.heap.size + 1) 0 _ 105 .nilFunc h1
  have q2 := heap_setCell_same _ (w.heap.size + 1) 1 _ 105 .nilFunc q1
  have r0 : ((w1.setCell ⟨w.heap.size + 1, 0, none⟩ .nilFunc).setCell ⟨w.heap.size + 1, 1, none⟩ .nilFunc).heap[w.heap.size + 1 + 1]? = some (.cells #[x, y] 51 (0, 0)) :=
    (heap_setCell_other _ ⟨w.heap.size + 1, 1, none⟩ (w.heap.size + 1 + 1) _ (show w.heap.size + 1 + 1 ≠ w.heap.size + 1 by omega)).trans ((heap_setCell_other _ ⟨w.heap.size + 1, 0, none⟩ (w.heap.size + 1 + 1) _ (show w.heap.size + 1 + 1 ≠ w.heap.size + 1 by omega)).trans h2)
  have r1 := heap_setCell_same _ (w.heap.size + 1 + 1) 0 _ 51 (.int .i64 0) r0
  have r2 := heap_setCell_same _ (w.heap.size + 1 + 1) 1 _ 51 (.int .i64 0) r1
  have q3 : W.heap[w.heap.size + 1]? = _ :=
    (heap_setCell_other _ ⟨w.heap.size + 1 + 1, 1, none⟩ (w.heap.size + 1) _ (show w.heap.size + 1 ≠ w.heap.size + 1 + 1 by omega)).trans ((heap_setCell_other _ ⟨w.heap.size + 1 + 1, 0, none⟩ (w.heap.size + 1) _ (show w.heap.size + 1 ≠ w.heap.size + 1 + 1 by omega)).trans q2)
  have b1 := hb.setCell (p := ⟨w.heap.size + 1, 0, none⟩) (show w.heap.size ≤ w.heap.size + 1 by omega) .nilFunc
  have b2 := b1.setCell (p := ⟨w.heap.size + 1, 1, none⟩) (show w.heap.size ≤ w.heap.size + 1 by omega) .nilFunc
  have b3 := b2.setCell (p := ⟨w.heap.size + 1 + 1, 0, none⟩) (show w.heap.size ≤ w.heap.size + 1 + 1 by omega) (.int .i64 0)
  have b4 := b3.setCell (p := ⟨w.heap.size + 1 + 1, 1, none⟩) (show w.heap.size ≤ w.heap.size + 1 + 1 by omega) (.int .i64 0)
  exact ⟨cell_of_row W _ 0 _ _ _ q3, cell_of_row W _ 1 _ _ _ q3, cell_of_row W _ 0 _ _ _ r2, cell_of_row W _ 1 _ _ _ r2, b4⟩

set_option maxRecDepth 100000 in
set_option maxHeartbeats 1000000 in
theorem spanOf_err (sa : Option Addr) (n cap : Nat) (kd d k o E : Int) (w : World) (hE : E ≠ 0) (HC : ∀ W, Below w.heap.size w W → Calls Try.prog 48 #[.agg #[.slice sa n cap, .int .i64 d, .int .i64 k, .int .i64 o]] W fun e w' => e = .returned (.int .i64 E) ∧ Below W.heap.size W w') :
    Calls Try.prog 55 #[.agg #[.slice sa n cap, .int .i64 d, .int .i64 k, .int .i64 o], .int .u8 kd] w fun e w' => e = .returned (badV E) ∧ Below w.heap.size w w' := by
  have hne : (E == 0) = false := by rw [beq_eq_false_iff_ne]; exact hE
  have hne' : (E != 0) = true := by rw [bne_iff_ne]; exact hE
  have HCC := Lib.hid HC
  obtain ⟨-, x1, x2⟩ := box3 w (.cells #[.slice sa n cap, .int .i64 d, .int .i64 k, .int .i64 o] 94) (.cells #[.nilFunc, .nilFunc] 105) (.cells #[.int .i64 0, .int .i64 0] 51)
  have hb3 := below3 w (.cells #[.slice sa n cap, .int .i64 d, .int .i64 k, .int .i64 o] 94) (.cells #[.nilFunc, .nilFunc] 105) (.cells #[.int .i64 0, .int .i64 0] 51)
  clear HC
  go_enter Try.func55, Try.ntmps55
  go_wp2_with fail
  generalize World.alloc (World.alloc (World.alloc w _) _) _ = W at *
  refine (HCC.out W hb3).mono ?_
  rintro e w1 ⟨rfl, hb1⟩
  have y1 := (hb1.block _ (lt_of_block x1)).trans x1
  have y2 := (hb1.block _ (lt_of_block x2)).trans x2
  have hbw := below_to hb3 hb1
  clear x1 x2 hb3 hb1 HCC
  clear W
  have H1 := Lib.hid y1
  have H2 := Lib.hid y2
  have HB := Lib.hid hbw
  have l1 := lt_of_block y1
  have l2 := lt_of_block y2
  have g0 := frozen_of_row w1 (w.heap.size + 1) 0 _ _ y1
  have g1 := frozen_of_row w1 (w.heap.size + 1) 1 _ _ y1
  have g2 := frozen_of_row w1 (w.heap.size + 1 + 1) 0 _ _ y2
  have g3 := frozen_of_row w1 (w.heap.size + 1 + 1) 1 _ _ y2
  have c0 := cell_of_row w1 (w.heap.size + 1) 0 _ _ _ y1
  have c1 := cell_of_row w1 (w.heap.size + 1) 1 _ _ _ y1
  have c2 := cell_of_row w1 (w.heap.size + 1 + 1) 0 _ _ _ y2
  have c3 := cell_of_row w1 (w.heap.size + 1 + 1) 1 _ _ _ y2
  simp at c0 c1 c2 c3
  clear y1 y2 hbw
  go_wp2
  clear c0 c1 c2 c3 g0 g1 g2 g3
  obtain ⟨e0, e1, e2, e3, e4⟩ := bad_end HB.out H1.out H2.out
  generalize World.setCell (World.setCell (World.setCell (World.setCell w1 _ _) _ _) _ _) _ _ = w9 at *
  exact bodyPost_ret (v := badV E) (by simp [badV, results, Try.results55, go_sem, e0, e1, e2, e3]) rfl ⟨rfl, e4⟩

set_option maxRecDepth 100000 in
set_option maxHeartbeats 1000000 in
theorem spanOf_kind (sa : Option Addr) (n cap : Nat) (kd d k o : Int) (w : World) (hk : 4 ≤ kd) (HC : ∀ W, Below w.heap.size w W → Calls Try.prog 48 #[.agg #[.slice sa n cap, .int .i64 d, .int .i64 k, .int .i64 o]] W fun e w' => e = .returned (.int .i64 0) ∧ Below W.heap.size W w') :
    Calls Try.prog 55 #[.agg #[.slice sa n cap, .int .i64 d, .int .i64 k, .int .i64 o], .int .u8 kd] w fun e w' => e = .returned (badV 2) ∧ Below w.heap.size w w' := by
  have HCC := Lib.hid HC
  have HQ := Lib.hid fun w => qty_no kd hk w
  obtain ⟨-, x1, x2⟩ := box3 w (.cells #[.slice sa n cap, .int .i64 d, .int .i64 k, .int .i64 o] 94) (.cells #[.nilFunc, .nilFunc] 105) (.cells #[.int .i64 0, .int .i64 0] 51)
  have hb3 := below3 w (.cells #[.slice sa n cap, .int .i64 d, .int .i64 k, .int .i64 o] 94) (.cells #[.nilFunc, .nilFunc] 105) (.cells #[.int .i64 0, .int .i64 0] 51)
  clear HC hk
  go_enter Try.func55, Try.ntmps55
  go_wp2_with fail
  generalize World.alloc (World.alloc (World.alloc w _) _) _ = W at *
  refine (HCC.out W hb3).mono ?_
  rintro e w1 ⟨rfl, hb1⟩
  have H1 := Lib.hid ((hb1.block _ (lt_of_block x1)).trans x1)
  have H2 := Lib.hid ((hb1.block _ (lt_of_block x2)).trans x2)
  have HB := Lib.hid (below_to hb3 hb1)
  clear x1 x2 hb3 hb1 HCC
  clear W
  go_wp2_with fail
  refine (HQ.out w1).mono ?_
  rintro e w2 ⟨rfl, hb2⟩
  have y1 := (hb2.block _ (lt_of_block H1.out)).trans H1.out
  have y2 := (hb2.block _ (lt_of_block H2.out)).trans H2.out
  have HBW := Lib.hid (grow_to HB.out hb2)
  have HH1 := Lib.hid y1
  have HH2 := Lib.hid y2
  have l1 := lt_of_block y1
  have l2 := lt_of_block y2
  have g0 := frozen_of_row w2 (w.heap.size + 1) 0 _ _ y1
  have g1 := frozen_of_row w2 (w.heap.size + 1) 1 _ _ y1
  have g2 := frozen_of_row w2 (w.heap.size + 1 + 1) 0 _ _ y2
  have g3 := frozen_of_row w2 (w.heap.size + 1 + 1) 1 _ _ y2
  have c0 := cell_of_row w2 (w.heap.size + 1) 0 _ _ _ y1
  have c1 := cell_of_row w2 (w.heap.size + 1) 1 _ _ _ y1
  have c2 := cell_of_row w2 (w.heap.size + 1 + 1) 0 _ _ _ y2
  have c3 := cell_of_row w2 (w.heap.size + 1 + 1) 1 _ _ _ y2
  simp at c0 c1 c2 c3
  clear y1 y2 hb2 H1 H2 HB HQ
  go_wp2
  clear c0 c1 c2 c3 g0 g1 g2 g3 l1 l2
  obtain ⟨e0, e1, e2, e3, e4⟩ := bad_end HBW.out HH1.out HH2.out
  generalize World.setCell (World.setCell (World.setCell (World.setCell w2 _ _) _ _) _ _) _ _ = w9 at *
  have hal := grow_alloc w9 (.cells #[.nilFunc, .nilFunc] 105)
  replace e0 := (hal.cell (p := ⟨w.heap.size + 1, 0, none⟩) (block_lt_of_cell e0)).trans e0
  replace e1 := (hal.cell (p := ⟨w.heap.size + 1, 1, none⟩) (block_lt_of_cell e1)).trans e1
  replace e2 := (hal.cell (p := ⟨w.heap.size + 1 + 1, 0, none⟩) (block_lt_of_cell e2)).trans e2
  replace e3 := (hal.cell (p := ⟨w.heap.size + 1 + 1, 1, none⟩) (block_lt_of_cell e3)).trans e3
  replace e4 := grow_to e4 hal
  generalize World.alloc w9 _ = w8 at *
  exact bodyPost_ret (v := badV 2) (by simp [badV, results, Try.results55, go_sem, e0, e1, e2, e3]) rfl ⟨rfl, e4⟩

set_option maxRecDepth 100000 in
set_option maxHeartbeats 1000000 in
theorem Span_bad (sa : Option Addr) (n cap : Nat) (kd d k o E : Int) (w : World) (HC : ∀ W, Below w.heap.size w W → Calls Try.prog 55 #[.agg #[.slice sa n cap, .int .i64 d, .int .i64 k, .int .i64 o], .int .u8 kd] W fun e w' => e = .returned (badV E) ∧ Below W.heap.size W w') :
    Calls Try.prog 28 #[.agg #[.slice sa n cap], .agg #[.int .i64 d, .int .i64 k, .int .i64 o], .int .u8 kd] w fun e w' => e = .returned (.tuple #[.agg #[.int .i64 0, .int .i64 0], .int .i64 E]) ∧ Below w.heap.size w w' := by
  have HCC := Lib.hid HC
  have HB3 := Lib.hid (below3 w)
  have HX := Lib.hid (box3 w)
  clear HC
  go_enter Try.func28, Try.ntmps28
  go_wp2_with (go_at_call 55; refine (HCC.out _ (HB3.out _ _ _)).mono ?_; unfold badV; rintro e w1 ⟨rfl, hb1⟩
               have y2 := (hb1.block _ (by simp)).trans (HX.out _ _ _).2.2
               have hbw := below_to (HB3.out _ _ _) hb1
               have hs1 : w.heap.size + 3 ≤ w1.heap.size := by have := hb1.size; simp at this; omega
               have HB6 : Hid (w.heap.size ≤ w.heap.size + 1 + 1) := Lib.hid (by omega)
               generalize w.heap.size + 1 + 1 = B6 at *
               have r2 := cell_of_row w1 B6 0 _ _ _ y2
               have r3 := cell_of_row w1 B6 1 _ _ _ y2
               have rf2 := frozen_of_row w1 B6 0 _ _ y2
               have rf3 := frozen_of_row w1 B6 1 _ _ y2
               have hl := lt_of_block y2
               simp at r2 r3
               have HBW := Lib.hid hbw
               have Y2 := Lib.hid y2
               clear y2 hb1 hbw)
  obtain ⟨e0, e1, e2⟩ := pair_end 0 0 (.cells #[.nilFunc, .nilFunc] 105) (.cells #[.int .i64 0, .int .i64 0] 51) HBW.out HB6.out Y2.out
  generalize World.alloc (World.alloc _ _) _ = W9 at *
  clear r2 r3 rf2 rf3 hl hs1
  exact bodyPost_ret (v := .tuple #[.agg #[.int .i64 0, .int .i64 0], .int .i64 E]) (by simp [results, Try.results28, go_sem, e0, e1]) rfl ⟨rfl, e2⟩

set_option maxRecDepth 100000 in
set_option maxHeartbeats 1000000 in
theorem Shows_bad (sa : Option Addr) (n cap : Nat) (kd d k o E : Int) (hi : Value) (w : World) (hE : E ≠ 0) (HC : ∀ W, Below w.heap.size w W → Calls Try.prog 55 #[.agg #[.slice sa n cap, .int .i64 d, .int .i64 k, .int .i64 o], .int .u8 kd] W fun e w' => e = .returned (badV E) ∧ Below W.heap.size W w') :
    Calls Try.prog 34 #[.agg #[.slice sa n cap], .agg #[.int .i64 d, .int .i64 k, .int .i64 o], .int .u8 kd, hi] w fun e w' => e = .returned (.tuple #[.slice none 0 0, .int .i64 E]) ∧ Below w.heap.size w w' := by
  have hne : (E == 0) = false := by rw [beq_eq_false_iff_ne]; exact hE
  have hne' : (E != 0) = true := by rw [bne_iff_ne]; exact hE
  have HCC := Lib.hid HC
  have HB3 := Lib.hid (below3 w)
  clear HC
  go_enter Try.func34, Try.ntmps34
  go_wp2_with (go_at_call 55; refine (HCC.out _ (HB3.out _ _ _)).mono ?_; unfold badV; rintro e w1 ⟨rfl, hb1⟩
               have HBW := Lib.hid (below_to (HB3.out _ _ _) hb1)
               clear hb1)
  have hbf := below_to HBW.out (below2 w1 (.cells #[.nilFunc, .nilFunc] 105) (.cells #[.int .i64 0, .int .i64 0] 51))
  exact bodyPost_ret (v := .tuple #[.slice none 0 0, .int .i64 E]) (by simp [results, Try.results34, go_sem]) rfl ⟨rfl, hbf⟩

set_option maxRecDepth 100000 in
set_option maxHeartbeats 1000000 in
theorem Points_bad (sa : Option Addr) (n cap : Nat) (d k o E : Int) (w : World) (hE : E ≠ 0) (HC : ∀ W, Below w.heap.size w W → Calls Try.prog 48 #[.agg #[.slice sa n cap, .int .i64 d, .int .i64 k, .int .i64 o]] W fun e w' => e = .returned (.int .i64 E) ∧ Below W.heap.size W w') :
    Calls Try.prog 31 #[.agg #[.slice sa n cap], .agg #[.int .i64 d, .int .i64 k, .int .i64 o]] w fun e w' => e = .returned (.tuple #[.slice none 0 0, .slice none 0 0, .slice none 0 0, .int .i64 E]) ∧ Below w.heap.size w w' := by
  have hne : (E == 0) = false := by rw [beq_eq_false_iff_ne]; exact hE
  have hne' : (E != 0) = true := by rw [bne_iff_ne]; exact hE
  have HCC := Lib.hid HC
  have hb3 := below3 w (.cells #[.slice sa n cap] 34) (.cells #[.int .i64 d, .int .i64 k, .int .i64 o] 40) (.cells #[.slice sa n cap, .int .i64 d, .int .i64 k, .int .i64 o] 94)
  clear HC
  go_enter Try.func31, Try.ntmps31
  go_wp2_with fail
  generalize World.alloc (World.alloc (World.alloc w _) _) _ = W at *
  refine (HCC.out W hb3).mono ?_
  rintro e w1 ⟨rfl, hb1⟩
  have HBW := Lib.hid (below_to hb3 hb1)
  clear hb1 hb3
  go_wp2
  exact bodyPost_ret (v := .tuple #[.slice none 0 0, .slice none 0 0, .slice none 0 0, .int .i64 E]) (by simp [results, Try.results31, go_sem]) rfl ⟨rfl, HBW.out⟩
end Go.Proofs.Ytfjlnejeffkdoaa

namespace Go.Proofs.Ytfjlnejeffkdoaa
open Go.ChangeShapes Go.WideShapes Go.ChangeAt Go.RowKit
attribute [local irreducible] arrV

/-- The curve or the rule is not valid. -/
structure BadC (sa : Option Addr) (n cap : Nat) (d k o E : Int) (ps : List Pt) (w : World) : Prop where
  ne : E ≠ 0
  len : ps.length = n
  n25 : n ≤ 25
  cv : ∀ W, Below w.heap.size w W → Calls Try.prog 18 #[.agg #[.slice sa n cap]] W fun e w' => ∃ v, e = .returned (.agg #[v]) ∧ CVp n ps v w' ∧ Below W.heap.size W w'
  rc : ∀ v W, CVp n ps v W → Calls Try.prog 48 #[.agg #[v, .int .i64 d, .int .i64 k, .int .i64 o]] W fun e w' => e = .returned (.int .i64 E) ∧ Below W.heap.size W w'
  fl : ∀ W, Below w.heap.size w W → Calls Try.prog 22 #[.agg #[.slice sa n cap], .agg #[.int .i64 d, .int .i64 k, .int .i64 o]] W fun e w' => e = .returned (.int .i64 E) ∧ Below W.heap.size W w'

/-- The curve and the rule are valid. -/
structure GoodC (b off cap : Nat) (d k o : Int) (ps : List Pt) (w : World) : Prop where
  pos : 0 < ps.length
  len : ps.length ≤ 20
  g : goodsB ps 0 = true
  r : ruleB ⟨d, k, o⟩ = true
  p : PtsIn w b off ps
  few : (allT ps).length ≤ 800
  cv : ∀ W, Below w.heap.size w W → Calls Try.prog 18 #[.agg #[.slice (some ⟨b, off, none⟩) ps.length cap]] W fun e w' => ∃ v, e = .returned (.agg #[v]) ∧ CVp ps.length ps v w' ∧ Below W.heap.size W w'
  rc : ∀ v W, CVp ps.length ps v W → Calls Try.prog 48 #[.agg #[v, .int .i64 d, .int .i64 k, .int .i64 o]] W fun e w' => e = .returned (.int .i64 0) ∧ Below W.heap.size W w'
  fl : ∀ W, Below w.heap.size w W → Calls Try.prog 22 #[.agg #[.slice (some ⟨b, off, none⟩) ps.length cap], .agg #[.int .i64 d, .int .i64 k, .int .i64 o]] W fun e w' => e = .returned (.int .i64 0) ∧ Below W.heap.size W w'

theorem GoodC.sane {b off cap : Nat} {d k o : Int} {ps : List Pt} {w : World} (h : GoodC b off cap d k o ps w) : Sane ps ⟨d, k, o⟩ := sane_of h.len h.pos h.g h.r
theorem GoodC.both {b off cap : Nat} {d k o : Int} {ps : List Pt} {w : World} (h : GoodC b off cap d k o ps w) : bothE ps ⟨d, k, o⟩ = 0 := by simp [bothE, h.g, ruleE, h.r]
theorem GoodC.lo {b off cap : Nat} {d k o : Int} {ps : List Pt} {w : World} (h : GoodC b off cap d k o ps w) : ∀ i, i < ps.length → 0 ≤ (pt ps i).lo ∧ (pt ps i).lo ≤ (pt ps i).hi ∧ (pt ps i).hi ≤ 100000 := fun _ hi => (goodB_spec h.g hi).2.2
theorem GoodC.truth {b off cap : Nat} {d k o : Int} {ps : List Pt} {w : World} (h : GoodC b off cap d k o ps w) : ∀ L ∈ allT ps, Good ps ⟨d, k, o⟩ L := fun L hL => by
  obtain ⟨h1, h2⟩ := (allT_mem ps L).1 hL
  refine ⟨h.len, h.pos, h.g, h.r, h1, ?_⟩
  simp only [fitsB, decide_eq_true_eq]
  intro j hj _
  unfold fitB hasB
  rw [decide_eq_true_eq]
  exact h2 j hj

theorem few_bad (sa : Option Addr) (n cap : Nat) (d k o E1 : Int) (ps : List Pt) (w : World) (hn : n ≤ 25) (hps : ps.length = n) (hp : 0 < n → ∃ b off, sa = some ⟨b, off, none⟩ ∧ PtsIn w b off ps) (hE1 : E1 = 0 ∨ E1 = 1 ∨ E1 = 3) (hE : (if E1 = 0 then ruleE ⟨d, k, o⟩ else E1) ≠ 0)
    (HR : ∀ s c W, (0 < n → ∃ B, s = some ⟨B, 0, none⟩ ∧ PtsIn W B 0 ps) → Calls Try.prog 48 #[.agg #[.slice s n c, .int .i64 d, .int .i64 k, .int .i64 o]] W fun e w' => e = .returned (.int .i64 (if E1 = 0 then ruleE ⟨d, k, o⟩ else E1)) ∧ Below W.heap.size W w')
    (HF : ∀ W, Below w.heap.size w W → Calls Try.prog 23 #[.agg #[.slice sa n cap]] W fun e w' => e = .returned (.int .i64 E1) ∧ Below W.heap.size W w') : BadC sa n cap d k o (if E1 = 0 then ruleE ⟨d, k, o⟩ else E1) ps w where
  ne := hE
  len := hps
  n25 := hn
  cv := curve_cv sa n cap ps w hn hps hp
  rc := by
    rintro v W ⟨s, c, rfl, h⟩
    exact HR s c W h
  fl := fun W hb => fault_any sa n cap E1 d k o W hE1 (IsRule_any d k o) (fun W' hb' => HF W' (below_to hb hb'))

/-- What a curve and a rule are, and whether the curve has few truths. -/
theorem curve_cases (sa : Option Addr) (n cap : Nat) (d k o : Int) (w : World) (hnl : n ≤ maxLen) (hp0 : 0 < n → ∃ b off ps, sa = some ⟨b, off, none⟩ ∧ ps.length = n ∧ PtsIn w b off ps) :
    ∃ q : Bool, (∀ W, Below w.heap.size w W → Calls Try.prog 27 #[.agg #[.slice sa n cap]] W fun e w' => e = .returned (.bool q) ∧ Below W.heap.size W w') ∧
      (q = true → (∃ ps E, BadC sa n cap d k o E ps w) ∨ (∃ b off ps, sa = some ⟨b, off, none⟩ ∧ ps.length = n ∧ GoodC b off cap d k o ps w)) := by
  obtain ⟨ps, hps, hp⟩ : ∃ ps : List Pt, ps.length = n ∧ (0 < n → ∃ b off, sa = some ⟨b, off, none⟩ ∧ PtsIn w b off ps) := by
    rcases Nat.eq_zero_or_pos n with h | h
    · exact ⟨[], h.symm, fun h' => absurd h' (by omega)⟩
    · obtain ⟨b, off, ps, e, h1, h2⟩ := hp0 h
      exact ⟨ps, h1, fun _ => ⟨b, off, e, h2⟩⟩
  by_cases h20 : 20 < n
  · by_cases h25 : n ≤ 25
    · refine ⟨true, fun W hb => ?_, fun _ => .inl ⟨ps, _, few_bad sa n cap d k o 3 ps w h25 hps hp (by omega) (by simp) (fun s c W _ => by simpa using rcheck_long s n c d k o W h20 hnl) (fun W _ => Fault_long sa n cap W h20 hnl)⟩⟩
      have := Few_any sa n cap 3 0 W (by omega) (Thin_any sa n cap) (fun W' _ => Fault_long sa n cap W' h20 hnl) (fun h => absurd h (by omega))
      simpa [h25] using this
    · refine ⟨false, fun W hb => ?_, fun h => by cases h⟩
      have := Few_any sa n cap 3 0 W (by omega) (Thin_any sa n cap) (fun W' _ => Fault_long sa n cap W' h20 hnl) (fun h => absurd h (by omega))
      simpa [h25] using this
  have h25 : n ≤ 25 := by omega
  by_cases hz : n = 0
  · subst hz
    refine ⟨true, fun W hb => ?_, fun _ => .inl ⟨ps, _, few_bad sa 0 cap d k o 1 ps w h25 hps hp (by omega) (by simp) (fun s c W _ => by simpa using rcheck_empty s c d k o W) (fun W _ => Fault_empty sa cap W)⟩⟩
    have := Few_any sa 0 cap 1 0 W (by omega) (Thin_any sa 0 cap) (fun W' _ => Fault_empty sa cap W') (fun h => absurd h (by omega))
    simpa using this
  have hl : 0 < n := by omega
  obtain ⟨b, off, rfl, hP⟩ := hp hl
  have hltb := block_lt_of_cell (hP 0 (by omega)).1
  subst hps
  have hl20 : ps.length ≤ 20 := by omega
  have hE : ptsE ps = 0 ∨ ptsE ps = 1 ∨ ptsE ps = 3 := by
    unfold ptsE; split <;> simp
  have hF : ∀ W, Below w.heap.size w W → Calls Try.prog 23 #[.agg #[.slice (some ⟨b, off, none⟩) ps.length cap]] W fun e w' => e = .returned (.int .i64 (ptsE ps)) ∧ Below W.heap.size W w' :=
    fun W hb => Fault_pts b off cap ps W hl20 hl (hP.below hb hltb)
  have hboth : bothE ps ⟨d, k, o⟩ = if ptsE ps = 0 then ruleE ⟨d, k, o⟩ else ptsE ps := by
    unfold bothE
    cases hg : goodsB ps 0
    · simp [ptsE_no hg]
    · simp [ptsE_yes hg]
  have hHR : ∀ s c W, (0 < ps.length → ∃ B, s = some ⟨B, 0, none⟩ ∧ PtsIn W B 0 ps) → Calls Try.prog 48 #[.agg #[.slice s ps.length c, .int .i64 d, .int .i64 k, .int .i64 o]] W fun e w' => e = .returned (.int .i64 (if ptsE ps = 0 then ruleE ⟨d, k, o⟩ else ptsE ps)) ∧ Below W.heap.size W w' := fun s c W h => by
    obtain ⟨B, rfl, hB⟩ := h hl
    rw [← hboth]
    exact rcheck_pts B 0 c ps d k o W hl20 hl hB
  have hMany : ptsE ps = 0 → ∀ W, Below w.heap.size w W → Calls Try.prog 54 #[.agg #[.slice (some ⟨b, off, none⟩) ps.length cap]] W fun e w' => e = .returned (.int .i64 (manyR ps ps.length)) ∧ Below W.heap.size W w' := fun h W hb => by
    have hg : goodsB ps 0 = true := by
      cases hg : goodsB ps 0
      · simp [ptsE_no hg] at h
      · rfl
    exact RefMany_any b off cap ps ⟨1, 1, 0⟩ W (sane_of hl20 hl hg (by decide)) (hP.below hb hltb)
  have hfew : ∀ W, Below w.heap.size w W → Calls Try.prog 27 #[.agg #[.slice (some ⟨b, off, none⟩) ps.length cap]] W fun e w' => e = .returned (.bool (decide (ptsE ps ≠ 0) || decide (manyR ps ps.length ≤ 800))) ∧ Below W.heap.size W w' := fun W hb => by
    have := Few_any (some ⟨b, off, none⟩) ps.length cap (ptsE ps) (manyR ps ps.length) W hE (Thin_any _ _ _) (fun W' hb' => hF W' (below_to hb hb')) (fun h W' hb' => hMany h W' (below_to hb hb'))
    rw [decide_eq_true h25, Bool.true_and] at this
    exact this
  refine ⟨_, hfew, fun hq => ?_⟩
  by_cases hbad : (if ptsE ps = 0 then ruleE ⟨d, k, o⟩ else ptsE ps) ≠ 0
  · exact .inl ⟨ps, _, few_bad _ _ cap d k o (ptsE ps) ps w h25 rfl hp hE hbad hHR hF⟩
  have hg : goodsB ps 0 = true := by
    cases hg : goodsB ps 0
    · simp [ptsE_no hg] at hbad
    · rfl
  have hr : ruleB ⟨d, k, o⟩ = true := by
    cases hr : ruleB ⟨d, k, o⟩
    · simp [ptsE_yes hg, ruleE_no hr] at hbad
    · rfl
  have hE0 : (if ptsE ps = 0 then ruleE ⟨d, k, o⟩ else ptsE ps) = 0 := by simp [ptsE_yes hg, ruleE_yes hr]
  rw [hE0] at hHR
  refine .inr ⟨b, off, ps, rfl, rfl, hl, hl20, hg, hr, hP, ?_, curve_cv _ _ cap ps w h25 rfl hp, ?_, ?_⟩
  · rw [ptsE_yes hg] at hq
    simp at hq
    exact few_len (sane_of hl20 hl hg hr) hq
  · rintro v W ⟨s, c, rfl, h⟩
    exact hHR s c W h
  · intro W hb
    have := fault_any (some ⟨b, off, none⟩) ps.length cap (ptsE ps) d k o W hE (IsRule_any d k o) (fun W' hb' => hF W' (below_to hb hb'))
    rw [hE0] at this
    exact this
end Go.Proofs.Ytfjlnejeffkdoaa
